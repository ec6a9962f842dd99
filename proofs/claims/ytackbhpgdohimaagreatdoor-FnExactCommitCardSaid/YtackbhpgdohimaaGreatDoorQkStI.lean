/- Texts of ours, laid one behind the other: StI. -/
import Derived.Test.YtackbhpgdohimaaGreatDoorQk4
/- StI: . -/
namespace Go.Proofs.YtackbhpgdohimaaGreatDoor
set_option maxRecDepth 100000
set_option maxHeartbeats 16000000
open Go.RowKit
attribute [local go_sem ↓] Go.wp_at_zero Go.wp_at_succ
theorem qsc (s:Int) (w:World):Calls Tryz.prog 182 #[.int .i64 s] w fun e w'=>qhf s w e w':=by
 cases h:schOk s with
 | true =>
  obtain rfl | rfl | rfl:=qhy h
  all_goals
   clear h;go_enter Tryz.func182,Tryz.ntmps182;go_wp2_with fail;go_ret3
   exact ⟨rfl,rfl⟩
 | false =>
  obtain ⟨h1,h2,h3⟩:=qqq h;obtain ⟨e1,e2⟩:=qgp h;unfold qhf;rw [e1,e2,h];clear h e1 e2;go_enter Tryz.func182,Tryz.ntmps182;go_wp2_with fail;go_ret3
  exact ⟨rfl,rfl⟩
theorem qqu (s:Int) (w:World):Calls Tryz.prog 163 #[.int .i64 s] w fun e w'=>e = .returned (.int .i64 (qbl s:Nat))/\w'=w:=by
 have HS:=zS (fun W=>qsc s W);unfold qhf at HS
 have hk:schK s<=4:=by
  cases h:schOk s with
  | true=>exact (qgo h).2.1
  | false=>rw [(qgp h).1];omega
 have hg:((qbl s:Nat):Int)=(schK s:Int)*4*2:=by unfold qbl;push_cast;omega
 generalize schOk s=ok at *;generalize schM s=m at *;generalize schK s=k at *;have HG:=zS hg;clear hg;go_enter Tryz.func163,Tryz.ntmps163;go_wp2_with fail;refine (HS.1 _).mono ?_;rintro e w1 ⟨rfl,rfl⟩;go_wp2_with fail;go_ret;exact ⟨by rw [HG.1];first | rfl | (simp;done) | (congr 2;omega),rfl⟩
theorem span_one {S n j:Nat} (h1:j*S<n) (h2:n<=j*S+S) (hS:0<S):spanL S n=List.replicate j (S:Int)++[((n - j*S:Nat):Int)]:=by
 unfold spanL;rw [qou hS h1 h2]
theorem qov (s n:Int) (w:World):Calls Tryz.prog 125 #[.int .i64 s,.int .i64 n] w fun e w'=>IPost (qaw s n) w e w':=by
 obtain ⟨i1,hi1,hy0,hy1,hy2⟩:=info_parts qjm;have HG:=zS (fun W=>qqu s W);have hg32:=qct s
 cases h:schOk s with
 | false =>
  rw [qfc (fun q=>by rw [h] at q;cases q.1)];rw [qmc h] at HG;clear h hg32;go_enter Tryz.func125,Tryz.ntmps125;go_wp2_with fail;refine (HG.1 _).mono ?_;rintro e w1 ⟨rfl,rfl⟩;go_wp2_with fail;go_ret;exact ⟨_,rfl,IAns.empty _ _ _ _ _,zB⟩
 | true =>
  have h16:=qku h
  by_cases hn0:n<0
  ·rw [qfc (fun q=>by have:=q.2.1;omega)]
   clear h;generalize qbl s=S at *;have hS0:((S:Int)==0)=false:=by rw [beq_eq_false_iff_ne];omega
   go_enter Tryz.func125,Tryz.ntmps125;go_wp2_with fail;refine (HG.1 _).mono ?_;rintro e w1 ⟨rfl,rfl⟩;go_wp2_with fail;go_ret;exact ⟨_,rfl,IAns.empty _ _ _ _ _,zB⟩
  by_cases hn1:(1000:Int)<n
  ·rw [qfc (fun q=>by have:=q.2.2;omega)]
   clear h;generalize qbl s=S at *;have hS0:((S:Int)==0)=false:=by rw [beq_eq_false_iff_ne];omega
   go_enter Tryz.func125,Tryz.ntmps125;go_wp2_with fail;refine (HG.1 _).mono ?_;rintro e w1 ⟨rfl,rfl⟩;go_wp2_with fail;go_ret;exact ⟨_,rfl,IAns.empty _ _ _ _ _,zB⟩
  obtain ⟨N,rfl⟩:=Int.eq_ofNat_of_zero_le (show 0<=n by omega);have hN:N<=1000:=by omega
  have e0:qaw s (N:Int)=if N=0 then [] else spanL (qbl s) N:=by
   by_cases hz:N=0
   ·rw [if_pos hz,qfc (fun q=>by have:=q.2.1;omega)]
   ·rw [if_neg hz];unfold qaw;rw [if_pos ⟨h,by omega,by omega⟩];rfl
  rw [e0];clear h e0;generalize qbl s=S at *;have hS0:((S:Int)==0)=false:=by rw [beq_eq_false_iff_ne];omega
  obtain ⟨L,hL⟩:∃ L,L=if N=0 then [] else spanL S N:=⟨_,rfl⟩
  have HL:=zS hL;rw [<-hL];clear hL;go_enter Tryz.func125,Tryz.ntmps125;go_wp2_with fail;refine (HG.1 _).mono ?_;rintro e w1 ⟨rfl,rfl⟩;go_wp2_with fail;go_loopw [6,7] (fun v nn wr=>∃ (j:Nat) (r:Int) (vv:Value) (l:List Int),vv=v/\nn = .int .i64 r/\Sh (r=(N:Int) - (j*S:Nat))/\r<=1000/\-32<=r/\j<=1000/\Sh (l.length=j/\((j*S<N/\l=List.replicate j (S:Int))\/(N<=j*S/\l=L)))/\Sh (wr.ownsRow w1.heap.size 3 1 vv j (ics l))/\Sh (Below w1.heap.size w1 wr)) (fun _ nn _=>(intOf nn).toNat)
  case atStart =>
   refine ⟨0,(N:Int),_,[],rfl,rfl,⟨by simp⟩,by omega,by omega,by omega,⟨rfl,?_⟩,⟨World.ownsRow_nil _ _ _ _⟩,⟨zB⟩⟩
   by_cases hz:N=0
   ·exact .inr ⟨by omega,by rw [HL.1,if_pos hz]⟩
   ·exact .inl ⟨by omega,rfl⟩
  case round =>
   obtain ⟨j,r,v,l,rfl,rfl,hr,hr1,hr2,hj,hl,hown,hb⟩:=hrel;obtain ⟨wo,rfl⟩:∃ wo,wo=wr:=⟨_,rfl⟩;have hso:=hb.1.size;have hown3:=hown.1
   by_cases hgo:0<r
   ·have hlt:j*S<N:=by have:=hr.1;omega
    have hl2:l=List.replicate j (S:Int):=by
     rcases hl.1.2 with q | q
     ·exact q.2
     ·omega
    have hj2:j+1<=1000:=by
     have h2:j*16<=j*S:=Nat.mul_le_mul_left j h16;omega
    have hsub:r - (S:Int)<=1000:=by omega
    have hsub2:-32<=r - (S:Int):=by omega
    by_cases hbig:(S:Int)<r
    ·have hle:¬ r<(S:Int):=by omega
     have hmn:min r (S:Int)=(S:Int):=by omega
     go_wp2_with (at_builtin;refine wpList_append_own _ rfl _ _ 140 rfl w1.heap.size 3 i1 (.int .i64 0) 1 8 Tryz.underlying140 hi1 hy0 hy1 hy2 rfl (by decide) _ _ _ rfl (hown3.alloc _) ⟨wo.heap.size,0,none⟩ 1 1 [.int .i64 (S:Int)] rfl rfl (cell_one_new _ _ _) ?c2 ?c3 ?c4 ?c5 ?_)
     case c2=>first | rfl | (intro u hu;simp at hu;subst hu;rfl)
     case c3=>unfold maxLen;omega
     case c4=>omega
     case c5=>first | omega | (simp;omega)
     intro v' w4 hown' hgrow _
     have Q1:Sh (w4.ownsRow w1.heap.size 3 1 v' (j+1) (ics (List.replicate (j+1) (S:Int)))):=⟨by
      have e:ics (List.replicate (j+1) (S:Int))=ics l++[.int .i64 (S:Int)]:=by
       rw [hl2,List.replicate_succ'];simp [ics]
      rw [e,hl2];exact hown'⟩
     have Q2:=zS ((hb.1.alloc hso (.cells #[.int .i64 (S:Int)] 3)).grown hgrow (by simp;omega) (fun j hj=>(hown3.lt j hj).1));have Q3:Sh (r - (S:Int)=(N:Int) - ((j+1)*S:Nat)):=⟨by rw [Nat.add_mul];have:=hr.1;push_cast at this ⊢;omega⟩;have Q4:Sh ((List.replicate (j+1) (S:Int)).length=j+1/\(((j+1)*S<N/\List.replicate (j+1) (S:Int)=List.replicate (j+1) (S:Int))\/(N<=(j+1)*S/\List.replicate (j+1) (S:Int)=L))):=⟨by simp,.inl ⟨by have:=hr.1;rw [Nat.add_mul];omega,rfl⟩⟩;clear hown' hgrow hown3 hb hown hr hl;go_wp2_with fail;exact ⟨⟨j+1,r - (S:Int),v',List.replicate (j+1) (S:Int),rfl,rfl,Q3,hsub,hsub2,hj2,Q4,Q1,Q2⟩,by simp [intOf];omega⟩
    ·have hle:r<=(S:Int):=by omega
     have hsp:L=l++[r]:=by
      rw [HL.1,if_neg (by omega),span_one hlt (by have:=hr.1;omega) (by omega),hl2]
      congr 2
      have:=hr.1;omega
     have hlj:=hl.1.1;have hmn:min r (S:Int)=r:=by omega
     go_wp2_with (at_builtin;refine wpList_append_own _ rfl _ _ 140 rfl w1.heap.size 3 i1 (.int .i64 0) 1 8 Tryz.underlying140 hi1 hy0 hy1 hy2 rfl (by decide) _ _ _ rfl (hown3.alloc _) ⟨wo.heap.size,0,none⟩ 1 1 [.int .i64 r] rfl rfl (cell_one_new _ _ _) ?c2 ?c3 ?c4 ?c5 ?_)
     case c2=>first | rfl | (intro u hu;simp at hu;subst hu;rfl)
     case c3=>unfold maxLen;omega
     case c4=>omega
     case c5=>first | omega | (simp;omega)
     intro v' w4 hown' hgrow _
     have Q1:Sh (w4.ownsRow w1.heap.size 3 1 v' (j+1) (ics (L))):=⟨by
      have e:ics (L)=ics l++[.int .i64 r]:=by
       rw [hsp];simp [ics]
      rw [e,hl2];exact hown'⟩
     have Q2:=zS ((hb.1.alloc hso (.cells #[.int .i64 r] 3)).grown hgrow (by simp;omega) (fun j hj=>(hown3.lt j hj).1));have Q3:Sh (r - (S:Int)=(N:Int) - ((j+1)*S:Nat)):=⟨by rw [Nat.add_mul];have:=hr.1;push_cast at this ⊢;omega⟩;have Q4:Sh (L.length=j+1/\(((j+1)*S<N/\L=List.replicate (j+1) (S:Int))\/(N<=(j+1)*S/\L=L))):=⟨by rw [hsp];simp [hlj],.inr ⟨by have:=hr.1;rw [Nat.add_mul];omega,rfl⟩⟩;clear hsp hlj;clear hown' hgrow hown3 hb hown hr hl;go_wp2_with fail;exact ⟨⟨j+1,r - (S:Int),v',L,rfl,rfl,Q3,hsub,hsub2,hj2,Q4,Q1,Q2⟩,by simp [intOf];omega⟩
   ·have hfin:l=L:=by
     rcases hl.1.2 with q | q
     ·have:=hr.1;omega
     ·exact q.2
    have Q:=zS (qgq (n:=j) hl.1.1 hown3);rw [hfin] at Q;clear hown3 hown hl hr hfin;go_wp2_with fail;go_ret;exact ⟨v,rfl,Q.1,hb.1⟩
end Go.Proofs.YtackbhpgdohimaaGreatDoor
