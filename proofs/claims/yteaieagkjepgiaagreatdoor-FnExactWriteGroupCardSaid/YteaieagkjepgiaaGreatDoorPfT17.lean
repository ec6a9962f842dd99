/- Texts of ours, laid one behind the other: TOwC, THeB, THeC, TGrwF, TGrwG, THeD. -/
import Derived.Test.YteaieagkjepgiaaGreatDoorPfT16
import Derived.Laws.IdiomCopy
import Derived.Maps.AppendAt
set_option linter.unusedVariables false
set_option linter.unusedSimpArgs false
/- . -/
namespace Go.Proofs.YteaieagkjepgiaaGreatDoorT
set_option maxRecDepth 100000
open Go.RowKit
theorem OwS.cell {w0 W:World} {S:List Str} {ty sz g n c:Nat} {L:List Value} (h:OwS w0 W S ty sz (.slice (some ⟨g,0,none⟩) n c) n L) (j:Nat) (u:Value):OwS w0 (W.setCell ⟨g,j,none⟩ u) S ty sz (.slice (some ⟨g,0,none⟩) n c) n (L.set j u):=by
 have q:=h.own.stored j u
 have e:(Value.slice (some ⟨g,0,none⟩) n c).ownBlock=some g:=rfl
 exact ⟨h.sl.grown q.2 fun k hk=>by cases hk;exact ⟨(h.lt g e).1,h.far g e⟩,q.1,h.far⟩
theorem OwS.drew {w0 W:World} {S:List Str} {ty sz n:Nat} {v:Value} {L:List Value} (h:OwS w0 W S ty sz v n L):OwS w0 W.drew S ty sz v n L:=h.below (Below.drew (Below.refl _ _))
end Go.Proofs.YteaieagkjepgiaaGreatDoorT
/- . -/
namespace Go.Proofs.YteaieagkjepgiaaGreatDoorT
set_option maxRecDepth 100000
open Go.RowKit BigFrame
attribute [local go_sem ↓] Go.wp_at_zero Go.wp_at_succ
theorem seS_set (b off:Nat) (Q:List Nat) (i x:Nat):((seS b off Q).set (i*2) (.pointer (some ⟨b,off+x*3,none⟩))).set (i*2+1) (.int .i64 (x:Nat))=seS b off (Q.set i x):=by
 apply List.ext_getElem?
 intro k
 by_cases hk:k<Q.length*2
 ·obtain ⟨m,r,hr,rfl⟩:∃ m r,r<2/\k=m*2+r:=⟨k / 2,k % 2,by omega,by omega⟩
  have hm:m<Q.length:=by omega
  have e1:(seS b off Q)[m*2+r]?=(seC b off Q[m])[r]?:=flat_get (seC_len b off) Q m hm r hr
  have e2:(seS b off (Q.set i x))[m*2+r]?=(seC b off ((Q.set i x)[m]'(by rw [List.length_set];exact hm)))[r]?:=flat_get (seC_len b off) (Q.set i x) m (by rw [List.length_set];exact hm) r hr
  rw [e2,List.getElem_set,List.getElem?_set,List.getElem?_set,List.length_set,seS_len]
  match r,hr with
  | 0,_ =>
   rw [if_neg (by omega)]
   by_cases e:i=m
   ·subst e
    rw [if_pos (by omega),if_pos (by omega),if_pos rfl]
    rfl
   ·rw [if_neg (by omega),if_neg e,e1]
  | 1,_ =>
   by_cases e:i=m
   ·subst e
    rw [if_pos rfl,if_pos (by omega),if_pos rfl]
    rfl
   ·rw [if_neg (by omega),if_neg (by omega),if_neg e,e1]
 ·rw [List.getElem?_eq_none (by simp only [List.length_set,seS_len];omega),List.getElem?_eq_none (by rw [seS_len,List.length_set];omega)]
theorem OwS.swap {w0 W:World} {S:List Str} {g n c b off:Nat} {Q:List Nat} (h:OwS w0 W S 103 2 (.slice (some ⟨g,0,none⟩) n c) n (seS b off Q)) (i j:Nat) :
  OwS w0 ((((W.setCell ⟨g,i*2,none⟩ (.pointer (some ⟨b,off+Q.getD j 0*3,none⟩))).setCell ⟨g,i*2+1,none⟩ (.int .i64 (Q.getD j 0:Nat))).setCell ⟨g,j*2,none⟩ (.pointer (some ⟨b,off+Q.getD i 0*3,none⟩))).setCell ⟨g,j*2+1,none⟩ (.int .i64 (Q.getD i 0:Nat))) S 103 2 (.slice (some ⟨g,0,none⟩) n c) n (seS b off (sw Q i j)):=by
 have q:=(((h.cell (i*2) (.pointer (some ⟨b,off+Q.getD j 0*3,none⟩))).cell (i*2+1) (.int .i64 (Q.getD j 0:Nat))).cell (j*2) (.pointer (some ⟨b,off+Q.getD i 0*3,none⟩))).cell (j*2+1) (.int .i64 (Q.getD i 0:Nat))
 rw [seS_set b off Q i,seS_set b off _ j] at q
 exact q
set_option maxRecDepth 100000 in
set_option maxHeartbeats 2000000 in
theorem implSwap {w0 w:World} {S:List Str} {g n c b off:Nat} {Q:List Nat} (h:OwS w0 w S 103 2 (.slice (some ⟨g,0,none⟩) n c) n (seS b off Q)) (hn:Q.length=n) (i j:Nat) (hi:i<n) (hj:j<n) :
  Calls Tw.prog 131 #[.slice (some ⟨g,0,none⟩) n c,.int .i64 (i:Nat),.int .i64 (j:Nat)] w fun e w'=>e = .returned (.tuple #[])/\OwS w0 w' S 103 2 (.slice (some ⟨g,0,none⟩) n c) n (seS b off (sw Q i j)):=by
 have HSW:=Shut.mk (h.swap i j).drew
 obtain ⟨a0,a1,lg⟩:=seS_at (FRw.of_own h.own).1.crow (show i<Q.length by omega)
 obtain ⟨a2,a3,_⟩:=seS_at (FRw.of_own h.own).1.crow (show j<Q.length by omega)
 have z0:=h.own.frozenAt (i*2)
 have z1:=h.own.frozenAt (i*2+1)
 have z2:=h.own.frozenAt (j*2)
 have z3:=h.own.frozenAt (j*2+1)
 have i0:(0:Int)<=(i:Int):=by omega
 have j0:(0:Int)<=(j:Int):=by omega
 have i1:(i:Int)<(n:Int):=by omega
 have j1:(j:Int)<(n:Int):=by omega
 have hst:i=j->Q.getD j 0=Q.getD i 0:=fun e=>by rw [e]
 generalize sw Q i j=R at *
 generalize Q.getD i 0=s at *
 generalize Q.getD j 0=t at *
 clear h hn
 by_cases e:i=j
 ·obtain rfl:=hst e
  subst e
  clear hst
  go_enter Tw.func131,Tw.ntmps131
  go_wp2_with fail
  go_region
  go_wp2_with fail
  go_end0
  exact ⟨rfl,HSW.out⟩
 ·clear hst
  have e1:¬ i*2=j*2:=by omega
  have e2:¬ i*2+1=j*2:=by omega
  have e3:¬ i*2=j*2+1:=by omega
  have e4:¬ i*2+1=j*2+1:=by omega
  have e5:¬ j*2=i*2:=by omega
  have e6:¬ j*2+1=i*2:=by omega
  have e7:¬ j*2=i*2+1:=by omega
  go_enter Tw.func131,Tw.ntmps131
  go_wp2_with fail
  go_region
  go_wp2_with fail
  go_end0
  exact ⟨rfl,HSW.out⟩
theorem implLen (v:Option Addr) (n c:Nat) (w:World):Calls Tw.prog 50 #[.slice v n c] w fun e w'=>e = .returned (.int .i64 (n:Nat))/\w'=w:=by
 go_enter Tw.func50,Tw.ntmps50
 go_wp2_with fail
 go_ret
 exact ⟨rfl,rfl⟩
theorem find_q (name:String) (f:Nat) (h:((Tryz.t79.methods.find? fun x=>x.name==name).map fun m=>(m.path.size,m.func))=some (0,some (f,false))):∃ m,(Tryz.t79.methods.find? fun x=>x.name==name)=some m/\m.path=#[]/\m.func=some (f,false):=by
 cases e:(Tryz.t79.methods.find? fun x=>x.name==name) with
 | none=>rw [e] at h;cases h
 | some m =>
  rw [e] at h
  simp only [Option.map_some,Option.some.injEq,Prod.mk.injEq] at h
  exact ⟨m,rfl,Array.eq_empty_of_size_eq_zero h.1,h.2⟩
theorem meth_q (name:String) (f:Nat) (h:((Tryz.t79.methods.find? fun x=>x.name==name).map fun m=>(m.path.size,m.func))=some (0,some (f,false))) (m B:Nat) (v:Value) (x:World) (hx:x.cell? ⟨B,0,none⟩=some v) :
  Sem.run Tw.prog (method (m+1) 79 (.pointer (some ⟨B,0,none⟩)) name) x = .ok (f,v) x:=by
 obtain ⟨mm,h1,h2,h3⟩:=find_q name f h
 have hs:∀ (nm:String) (y:World),Sem.run Tw.prog (Builtin.ssaWrapNilChk_ #[79] 79 #[.pointer (some ⟨B,0,none⟩),strVal "",strVal nm]) y = .ok (.pointer (some ⟨B,0,none⟩)) y:=fun nm y=>rfl
 unfold method
 simp [go_sem,h1,h2,h3,follow,receiverAt,Place.get,hs,hx]
abbrev qif (B:Nat):Value:=.iface 79 (.pointer (some ⟨B,0,none⟩))
theorem less_meth (B:Nat) (v:Value) (x:World) (hx:x.cell? ⟨B,0,none⟩=some v) (m:Nat):Sem.run Tw.prog (method (m+1) 79 (.pointer (some ⟨B,0,none⟩)) "Less") x = .ok (128,v) x:=meth_q "Less" 128 (by kernel_rfl) m B v x hx
theorem swap_meth (B:Nat) (v:Value) (x:World) (hx:x.cell? ⟨B,0,none⟩=some v) (m:Nat):Sem.run Tw.prog (method (m+1) 79 (.pointer (some ⟨B,0,none⟩)) "Swap") x = .ok (131,v) x:=meth_q "Swap" 131 (by kernel_rfl) m B v x hx
theorem len_meth (B:Nat) (v:Value) (x:World) (hx:x.cell? ⟨B,0,none⟩=some v) (m:Nat):Sem.run Tw.prog (method (m+1) 79 (.pointer (some ⟨B,0,none⟩)) "Len") x = .ok (50,v) x:=meth_q "Len" 50 (by kernel_rfl) m B v x hx
theorem perm_lt {Q R:List Nat} (h:R.Perm Q) {n:Nat} (hQ:∀ x ∈ Q,x<n):∀ x ∈ R,x<n:=fun x hx=>hQ x (h.mem_iff.1 hx)
set_option maxRecDepth 100000 in
set_option maxHeartbeats 2000000 in
theorem implUp {w0 w:World} {S:List Str} {B g n c b off:Nat} {Q:List Nat} {rs:List HoR} (h:OwS w0 w (bxS B [.slice (some ⟨g,0,none⟩) n c]::S) 103 2 (.slice (some ⟨g,0,none⟩) n c) n (seS b off Q)) (hn:Q.length=n) (hnl:n<=1048576) (hr:HsRow w0 (some ⟨b,off,none⟩) rs) (hQ:∀ x ∈ Q,x<rs.length) (j:Nat) (hj:j<n) (hu:UpI (pk (hms rs)) Q n j) :
  Calls Tw.prog 91 #[qif B,.int .i64 (j:Nat)] w fun e w'=>e = .returned (.tuple #[])/\∃ R,R.Perm Q/\HpN (pk (hms rs)) R n/\OwS w0 w' (bxS B [.slice (some ⟨g,0,none⟩) n c]::S) 103 2 (.slice (some ⟨g,0,none⟩) n c) n (seS b off R):=by
 have H:=Shut.mk (And.intro h (And.intro hn (And.intro hQ hu)))
 have HR:=Shut.mk hr
 clear h hn hr hQ hu
 go_enter Tw.func91,Tw.ntmps91
 go_wp2_with fail
 go_loopw [1] (fun v wr=>∃ (k:Nat) (R:List Nat),v = .int .i64 (k:Nat)/\k<n/\Shut (OwS w0 wr (bxS B [.slice (some ⟨g,0,none⟩) n c]::S) 103 2 (.slice (some ⟨g,0,none⟩) n c) n (seS b off R)/\R.Perm Q/\UpI (pk (hms rs)) R n k)) (fun v _=>(intOf v).toNat)
 case atStart=>exact ⟨j,Q,rfl,hj,⟨H.out.1,List.Perm.refl _,H.out.2.2.2⟩⟩
 case round =>
  obtain ⟨k,R,rfl,hk,HW⟩:=hrel
  by_cases hz:k=0
  ·subst hz
   go_wp2_with fail
   go_end0
   exact ⟨rfl,R,HW.out.2.1,HW.out.2.2.done,HW.out.1⟩
  ·obtain ⟨q,hq⟩:∃ q,q=par k:=⟨_,rfl⟩
   have hp:((k:Int) - 1) / 2=(q:Int):=by rw [hq];unfold par;omega
   have hqk:q<k:=by rw [hq];exact par_lt (by omega)
   have hqe:((q:Int)==(k:Int))=false:=by simp;omega
   have hqn:¬ (q:Int)=(k:Int):=by omega
   have hRl:R.length=n:=by rw [HW.out.2.1.length_eq];exact H.out.2.1
   have HLS:=Shut.mk (implLess b off g rs R c k q wr (HR.out.stays HW.out.1.sl.bel) (FRw.of_own HW.out.1.own).1.crow (perm_lt HW.out.2.1 H.out.2.2.1) (by omega) (by omega))
   rw [hRl] at HLS
   have HCN:=Shut.mk (cmpS_neg (hms rs) (R.getD k 0) (R.getD q 0))
   have x0:=(HW.out.1.sl.bx 0 rfl 0 _ rfl).1
   have hm:=less_meth B _ wr x0
   have HQ:=Shut.mk hq
   have HRL:=Shut.mk hRl
   generalize cmpS (hms rs) (R.getD k 0) (R.getD q 0)=cv at *
   clear hq hRl
   by_cases hc:cv<0
   ·have hcd:decide (cv<0)=true:=by simpa using hc
    rw [hcd] at HLS
    have HU:=Shut.mk (HW.out.2.2.swap (by omega) hk (Nat.le_of_eq HRL.out.symm) (by rw [<-HQ.out];exact HCN.out.1 hc))
    rw [<-HQ.out] at HU
    have HP:Shut ((sw R q k).Perm Q):=⟨(sw_perm R q k (by have:=HRL.out;omega) (by have:=HRL.out;omega)).trans HW.out.2.1⟩
    clear hc hcd HCN
    go_wp2_with (first
     | (go_at_call 128;refine HLS.out.mono ?_;rintro e w2 ⟨rfl,hb⟩;have HW2:=Shut.mk (HW.out.1.below hb);clear hb hm x0;have x2:=(HW2.out.sl.bx 0 rfl 0 _ rfl).1;have hm2:=swap_meth B _ w2 x2)
     | (go_at_call 131;refine (implSwap HW2.out HRL.out q k (by omega) hk).mono ?_;rintro e w3 ⟨rfl,h3⟩;have HW3:=Shut.mk h3;clear h3))
    go_roundw
    case rel=>exact ⟨q,sw R q k,rfl,by omega,⟨HW3.out,HP.out,HU.out⟩⟩
    case measure=>simp [intOf];omega
   ·have HS:Shut (HpN (pk (hms rs)) R n):=⟨HW.out.2.2.stop (by rw [<-HQ.out];exact fun q=>hc (HCN.out.2 q))⟩
    have hcd:decide (cv<0)=false:=by simpa using hc
    rw [hcd] at HLS
    clear hc hcd HCN
    go_wp2_with (go_at_call 128;refine HLS.out.mono ?_;rintro e w2 ⟨rfl,hb⟩;have HW2:=Shut.mk (HW.out.1.below hb);clear hb)
    go_end0
    exact ⟨rfl,R,HW.out.2.1,HS.out,HW2.out⟩
end Go.Proofs.YteaieagkjepgiaaGreatDoorT
/- . -/
namespace Go.Proofs.YteaieagkjepgiaaGreatDoorT
set_option maxRecDepth 100000
open Go.RowKit BigFrame
attribute [local go_sem ↓] Go.wp_at_zero Go.wp_at_succ
def SomeB (e:Ending):Prop:=∃ v,e = .returned (.bool v)
theorem less_later {w0 w:World} {S:List Str} {B g n c b off:Nat} {R:List Nat} {rs:List HoR} (h:OwS w0 w (bxS B [.slice (some ⟨g,0,none⟩) n c]::S) 103 2 (.slice (some ⟨g,0,none⟩) n c) n (seS b off R)) (hn:R.length=n) (hr:HsRow w0 (some ⟨b,off,none⟩) rs) (hQ:∀ x ∈ R,x<rs.length) (i j:Nat) (hi:i<n) (hj:j<n) (v:Bool) (hv:v=true↔lt3 (pk (hms rs)) (R.getD i 0) (R.getD j 0)) :
  ∀ W,Below w.heap.size w W->Calls Tw.prog 128 #[.slice (some ⟨g,0,none⟩) n c,.int .i64 (i:Nat),.int .i64 (j:Nat)] W fun e w'=>e = .returned (.bool v)/\Below W.heap.size W w':=by
 intro W hW
 have q:=implLess b off g rs R c i j W (hr.stays (h.sl.bel.trans (hW.mono h.sl.bel.size))) (FRw.of_own (h.below hW).own).1.crow hQ (by omega) (by omega)
 have e:decide (cmpS (hms rs) (R.getD i 0) (R.getD j 0)<0)=v:=by
  rw [Bool.eq_iff_iff,decide_eq_true_iff,cmpS_neg,hv]
 rw [hn,e] at q
 exact q
set_option maxRecDepth 100000 in
set_option maxHeartbeats 4000000 in
theorem implDown {w0 w:World} {S:List Str} {B g n c b off m:Nat} {Q:List Nat} {rs:List HoR} (h:OwS w0 w (bxS B [.slice (some ⟨g,0,none⟩) n c]::S) 103 2 (.slice (some ⟨g,0,none⟩) n c) n (seS b off Q)) (hn:Q.length=n) (hnl:n<=1048576) (hm:m<=n) (hr:HsRow w0 (some ⟨b,off,none⟩) rs) (hQ:∀ x ∈ Q,x<rs.length) (hd:DnI (pk (hms rs)) Q m 0) :
  Calls Tw.prog 92 #[qif B,.int .i64 0,.int .i64 (m:Nat)] w fun e w'=>SomeB e/\∃ R,R.Perm Q/\HpN (pk (hms rs)) R m/\(∀ t,m<=t->R.getD t 0=Q.getD t 0)/\OwS w0 w' (bxS B [.slice (some ⟨g,0,none⟩) n c]::S) 103 2 (.slice (some ⟨g,0,none⟩) n c) n (seS b off R):=by
 have H:=Shut.mk (And.intro h (And.intro hn (And.intro hQ hd)))
 have HR:=Shut.mk hr
 clear h hn hr hQ hd
 go_enter Tw.func92,Tw.ntmps92
 go_wp2_with fail
 go_loopw [7] (fun v wr=>∃ (k:Nat) (R:List Nat),v = .int .i64 (k:Nat)/\k<=m/\Shut (OwS w0 wr (bxS B [.slice (some ⟨g,0,none⟩) n c]::S) 103 2 (.slice (some ⟨g,0,none⟩) n c) n (seS b off R)/\R.Perm Q/\DnI (pk (hms rs)) R m k/\∀ t,m<=t->R.getD t 0=Q.getD t 0)) (fun v _=>m - (intOf v).toNat)
 case atStart=>exact ⟨0,Q,rfl,Nat.zero_le _,⟨H.out.1,List.Perm.refl _,H.out.2.2.2,fun _ _=>rfl⟩⟩
 case round =>
  obtain ⟨k,R,rfl,hk,HW⟩:=hrel
  obtain ⟨j1,hj1⟩:∃ q,q=2*k+1:=⟨_,rfl⟩
  obtain ⟨j2,hj2⟩:∃ q,q=2*k+2:=⟨_,rfl⟩
  have i1:2*(k:Int)+1=(j1:Int):=by omega
  have i2:(j1:Int)+1=(j2:Int):=by omega
  have i3:¬ (j1:Int)<0:=by omega
  have HJ:=Shut.mk (And.intro hj1 hj2)
  have HRL:Shut (R.length=n):=⟨by rw [HW.out.2.1.length_eq];exact H.out.2.1⟩
  have HRX:Shut (∀ x ∈ R,x<rs.length):=⟨perm_lt HW.out.2.1 H.out.2.2.1⟩
  have x0:=(HW.out.1.sl.bx 0 rfl 0 _ rfl).1
  have lB:B<wr.heap.size:=(HW.out.1.sl.at 0 rfl).1
  have hlm:∀ W,Below wr.heap.size wr W->∀ m9,Sem.run Tw.prog (method (m9+1) 79 (.pointer (some ⟨B,0,none⟩)) "Less") W = .ok (128,.slice (some ⟨g,0,none⟩) n c) W:=fun W hW=>less_meth B _ W ((hW.cell (p:=⟨B,0,none⟩) lB).trans x0)
  have HLM:=Shut.mk hlm
  have hl0:=hlm wr (Below.refl _ _)
  clear hlm x0 lB hj1 hj2
  by_cases c1:j1<m
  case neg =>
   have c2:(m:Int)<=(j1:Int):=by omega
   have HS:Shut (HpN (pk (hms rs)) R m):=⟨HW.out.2.2.1.stop (fun q=>by have:=HJ.out.1;omega) (fun q=>by have:=HJ.out;omega)⟩
   clear HLM hl0
   go_wp2_with fail
   go_ret
   exact ⟨⟨_,rfl⟩,R,HW.out.2.1,HS.out,HW.out.2.2.2,HW.out.1⟩
  have c2:¬ (m:Int)<=(j1:Int):=by omega
  have c4:(j1:Int)<(m:Int):=by omega
  by_cases c3:j2<m
  case neg =>
   have c5:¬ (j2:Int)<(m:Int):=by omega
   by_cases d:lt3 (pk (hms rs)) (R.getD j1 0) (R.getD k 0)
   case neg =>
    have HL:=Shut.mk (less_later HW.out.1 HRL.out HR.out HRX.out j1 k (by omega) (by have:=HJ.out;omega) false ⟨fun h=>(by cases h),fun h=>absurd h d⟩)
    have HS:Shut (HpN (pk (hms rs)) R m):=⟨HW.out.2.2.1.stop (fun q=>by have e1:=HJ.out.1;rw [<-e1];exact d) (fun q=>by have:=HJ.out;omega)⟩
    clear d
    go_wp2_with (first  | (go_at_call 128;(apply Calls.mono;focus (with_reducible exact (HL.out _ (Below.refl _ _))));rintro e w3 ⟨rfl,hb3⟩;have HB3:=Shut.mk hb3;clear hb3 hl0))
    go_ret
    exact ⟨⟨_,rfl⟩,R,HW.out.2.1,HS.out,HW.out.2.2.2,HW.out.1.below HB3.out⟩
   have HL:=Shut.mk (less_later HW.out.1 HRL.out HR.out HRX.out j1 k (by omega) (by have:=HJ.out;omega) true ⟨fun _=>d,fun _=>rfl⟩)
   have HU:Shut (DnI (pk (hms rs)) (sw R k j1) m j1):=⟨HW.out.2.2.1.swap (by rw [par_is (by have:=HJ.out;omega)];have:=HJ.out;omega) (by have:=HJ.out;omega) (by omega) (by rw [HRL.out];exact hm) d (by have e1:=HJ.out.1;rw [<-e1];exact (fun h=>lt3_asymm h h)) (fun q=>by have:=HJ.out;omega)⟩
   have HP:Shut ((sw R k j1).Perm Q/\∀ t,m<=t->(sw R k j1).getD t 0=Q.getD t 0):=⟨(sw_perm R k j1 (by have:=HRL.out;have:=HJ.out;omega) (by have:=HRL.out;omega)).trans HW.out.2.1,fun t ht=>by
    rw [sw_at R k j1 (by have:=HRL.out;have:=HJ.out;omega) (by have:=HRL.out;omega) t,if_neg (by omega),if_neg (by have:=HJ.out;omega)]
    exact HW.out.2.2.2 t ht⟩
   have hkj:k<j1:=(by have:=HJ.out;omega)
   clear d
   go_wp2_with (first  | (go_at_call 128;(apply Calls.mono;focus (with_reducible exact (HL.out _ (Below.refl _ _))));rintro e w3 ⟨rfl,hb3⟩;have HB3:=Shut.mk hb3;clear hb3 hl0;have hs3:=swap_meth B _ w3 ((HW.out.1.below HB3.out).sl.bx 0 rfl 0 _ rfl).1) | (go_at_call 131;refine (implSwap (HW.out.1.below HB3.out) HRL.out k j1 (by have:=HJ.out;omega) (by omega)).mono ?_;rintro e w4 ⟨rfl,h4⟩;have HW4:=Shut.mk h4;clear h4))
   go_roundw
   case rel=>exact ⟨j1,sw R k j1,rfl,by omega,⟨HW4.out,HP.out.1,HU.out,HP.out.2⟩⟩
   case measure=>simp [intOf];omega
  have c5:(j2:Int)<(m:Int):=by omega
  by_cases d9:lt3 (pk (hms rs)) (R.getD j2 0) (R.getD j1 0)
  case pos =>
   have HL9:=Shut.mk (less_later HW.out.1 HRL.out HR.out HRX.out j2 j1 (by omega) (by omega) true ⟨fun _=>d9,fun _=>rfl⟩)
   have HD9:=Shut.mk d9
   clear d9
   by_cases d:lt3 (pk (hms rs)) (R.getD j2 0) (R.getD k 0)
   case neg =>
    have HL:=Shut.mk (less_later HW.out.1 HRL.out HR.out HRX.out j2 k (by omega) (by have:=HJ.out;omega) false ⟨fun h=>(by cases h),fun h=>absurd h d⟩)
    have HS:Shut (HpN (pk (hms rs)) R m):=⟨HW.out.2.2.1.stop (fun q=>by have e1:=HJ.out.1;rw [<-e1];exact le3_trans d (lt3_asymm HD9.out)) (fun q=>by have e2:=HJ.out.2;rw [<-e2];exact d)⟩
    clear d
    go_wp2_with (first | (go_at_call 128;(apply Calls.mono;focus (with_reducible exact (HL9.out _ (Below.refl _ _))));rintro e w2 ⟨rfl,hb2⟩;have HB2:=Shut.mk hb2;clear hb2 hl0;have hl2:=HLM.out w2 HB2.out) | (go_at_call 128;(apply Calls.mono;focus (with_reducible exact (HL.out _ HB2.out)));rintro e w3 ⟨rfl,hb3⟩;have HB3:=Shut.mk (HB2.out.trans (hb3.mono HB2.out.size));clear hb3 hl2))
    go_ret
    exact ⟨⟨_,rfl⟩,R,HW.out.2.1,HS.out,HW.out.2.2.2,HW.out.1.below HB3.out⟩
   have HL:=Shut.mk (less_later HW.out.1 HRL.out HR.out HRX.out j2 k (by omega) (by have:=HJ.out;omega) true ⟨fun _=>d,fun _=>rfl⟩)
   have HU:Shut (DnI (pk (hms rs)) (sw R k j2) m j2):=⟨HW.out.2.2.1.swap (by rw [par_is (by have:=HJ.out;omega)];have:=HJ.out;omega) (by have:=HJ.out;omega) (by omega) (by rw [HRL.out];exact hm) d (by have e1:=HJ.out.1;rw [<-e1];exact lt3_asymm HD9.out) (fun q=>by have e2:=HJ.out.2;rw [<-e2];exact (fun h=>lt3_asymm h h))⟩
   have HP:Shut ((sw R k j2).Perm Q/\∀ t,m<=t->(sw R k j2).getD t 0=Q.getD t 0):=⟨(sw_perm R k j2 (by have:=HRL.out;have:=HJ.out;omega) (by have:=HRL.out;omega)).trans HW.out.2.1,fun t ht=>by
    rw [sw_at R k j2 (by have:=HRL.out;have:=HJ.out;omega) (by have:=HRL.out;omega) t,if_neg (by omega),if_neg (by have:=HJ.out;omega)]
    exact HW.out.2.2.2 t ht⟩
   have hkj:k<j2:=(by have:=HJ.out;omega)
   clear d
   go_wp2_with (first | (go_at_call 128;(apply Calls.mono;focus (with_reducible exact (HL9.out _ (Below.refl _ _))));rintro e w2 ⟨rfl,hb2⟩;have HB2:=Shut.mk hb2;clear hb2 hl0;have hl2:=HLM.out w2 HB2.out) | (go_at_call 128;(apply Calls.mono;focus (with_reducible exact (HL.out _ HB2.out)));rintro e w3 ⟨rfl,hb3⟩;have HB3:=Shut.mk (HB2.out.trans (hb3.mono HB2.out.size));clear hb3 hl2;have hs3:=swap_meth B _ w3 ((HW.out.1.below HB3.out).sl.bx 0 rfl 0 _ rfl).1) | (go_at_call 131;refine (implSwap (HW.out.1.below HB3.out) HRL.out k j2 (by have:=HJ.out;omega) (by omega)).mono ?_;rintro e w4 ⟨rfl,h4⟩;have HW4:=Shut.mk h4;clear h4))
   go_roundw
   case rel=>exact ⟨j2,sw R k j2,rfl,by omega,⟨HW4.out,HP.out.1,HU.out,HP.out.2⟩⟩
   case measure=>simp [intOf];omega
  have HL9:=Shut.mk (less_later HW.out.1 HRL.out HR.out HRX.out j2 j1 (by omega) (by omega) false ⟨fun h=>(by cases h),fun h=>absurd h d9⟩)
  have HD9:=Shut.mk d9
  clear d9
  by_cases d:lt3 (pk (hms rs)) (R.getD j1 0) (R.getD k 0)
  case neg =>
   have HL:=Shut.mk (less_later HW.out.1 HRL.out HR.out HRX.out j1 k (by omega) (by have:=HJ.out;omega) false ⟨fun h=>(by cases h),fun h=>absurd h d⟩)
   have HS:Shut (HpN (pk (hms rs)) R m):=⟨HW.out.2.2.1.stop (fun q=>by have e1:=HJ.out.1;rw [<-e1];exact d) (fun q=>by have e2:=HJ.out.2;rw [<-e2];exact le3_trans d HD9.out)⟩
   clear d
   go_wp2_with (first | (go_at_call 128;(apply Calls.mono;focus (with_reducible exact (HL9.out _ (Below.refl _ _))));rintro e w2 ⟨rfl,hb2⟩;have HB2:=Shut.mk hb2;clear hb2 hl0;have hl2:=HLM.out w2 HB2.out) | (go_at_call 128;(apply Calls.mono;focus (with_reducible exact (HL.out _ HB2.out)));rintro e w3 ⟨rfl,hb3⟩;have HB3:=Shut.mk (HB2.out.trans (hb3.mono HB2.out.size));clear hb3 hl2))
   go_ret
   exact ⟨⟨_,rfl⟩,R,HW.out.2.1,HS.out,HW.out.2.2.2,HW.out.1.below HB3.out⟩
  have HL:=Shut.mk (less_later HW.out.1 HRL.out HR.out HRX.out j1 k (by omega) (by have:=HJ.out;omega) true ⟨fun _=>d,fun _=>rfl⟩)
  have HU:Shut (DnI (pk (hms rs)) (sw R k j1) m j1):=⟨HW.out.2.2.1.swap (by rw [par_is (by have:=HJ.out;omega)];have:=HJ.out;omega) (by have:=HJ.out;omega) (by omega) (by rw [HRL.out];exact hm) d (by have e1:=HJ.out.1;rw [<-e1];exact (fun h=>lt3_asymm h h)) (fun q=>by have e2:=HJ.out.2;rw [<-e2];exact HD9.out)⟩
  have HP:Shut ((sw R k j1).Perm Q/\∀ t,m<=t->(sw R k j1).getD t 0=Q.getD t 0):=⟨(sw_perm R k j1 (by have:=HRL.out;have:=HJ.out;omega) (by have:=HRL.out;omega)).trans HW.out.2.1,fun t ht=>by
   rw [sw_at R k j1 (by have:=HRL.out;have:=HJ.out;omega) (by have:=HRL.out;omega) t,if_neg (by omega),if_neg (by have:=HJ.out;omega)]
   exact HW.out.2.2.2 t ht⟩
  have hkj:k<j1:=(by have:=HJ.out;omega)
  clear d
  go_wp2_with (first | (go_at_call 128;(apply Calls.mono;focus (with_reducible exact (HL9.out _ (Below.refl _ _))));rintro e w2 ⟨rfl,hb2⟩;have HB2:=Shut.mk hb2;clear hb2 hl0;have hl2:=HLM.out w2 HB2.out) | (go_at_call 128;(apply Calls.mono;focus (with_reducible exact (HL.out _ HB2.out)));rintro e w3 ⟨rfl,hb3⟩;have HB3:=Shut.mk (HB2.out.trans (hb3.mono HB2.out.size));clear hb3 hl2;have hs3:=swap_meth B _ w3 ((HW.out.1.below HB3.out).sl.bx 0 rfl 0 _ rfl).1) | (go_at_call 131;refine (implSwap (HW.out.1.below HB3.out) HRL.out k j1 (by have:=HJ.out;omega) (by omega)).mono ?_;rintro e w4 ⟨rfl,h4⟩;have HW4:=Shut.mk h4;clear h4))
  go_roundw
  case rel=>exact ⟨j1,sw R k j1,rfl,by omega,⟨HW4.out,HP.out.1,HU.out,HP.out.2⟩⟩
  case measure=>simp [intOf];omega
end Go.Proofs.YteaieagkjepgiaaGreatDoorT
/- . -/
namespace Go.Proofs.YteaieagkjepgiaaGreatDoorT
set_option maxRecDepth 100000
open Go.RowKit
def Pre9 (R:World->World->Prop):Prop:=(∀ w,R w w)/\∀ {a b c:World},R a b->R b c->R a c
section
variable {R:World->World->Prop} {P:Program} {ops:Array Oper} {Q:Exit->Act->World->Prop} {md:Region.Mode}
def YR (R:World->World->Prop) (P:Program) (ops:Array Oper) (o:Oper) (v:Value) (a:Act) (w:World):Prop:=
 (Region.wanted o (yielded ops a.tmps)=true/\∀ x,R w x->o.quietAt P a (R x) x v)\/(Region.wanted o (yielded ops a.tmps)=false/\v=undef)
theorem YR.later (HR:Pre9 R) {o:Oper} {v:Value} {a:Act} {w y:World} (h:YR R P ops o v a w) (hy:R w y):YR R P ops o v a y:=
 h.imp (fun q=>⟨q.1,fun x hx=>q.2 x (HR.2 hy hx)⟩) id
theorem YR.same {o:Oper} {v:Value} {a b:Act} {w:World} (h:YR R P ops o v a w) (he:execOp b.eval o=execOp a.eval o) (hw:Region.wanted o (yielded ops b.tmps)=Region.wanted o (yielded ops a.tmps)):YR R P ops o v b w:=by
 unfold YR Oper.quietAt at *
 rw [he,hw]
 exact h
theorem YR.op (HR:Pre9 R) {i:Nat} {o:Oper} {v:Value} {a:Act} {w x:World} {K:Act->World->Prop} (hi:ops[i]?=some o) (h:YR R P ops o v a w) (hx:R w x) (hk:∀ y,R x y->K (a.put o.dst v) y):wpOp P ops Q i K a x:=by
 unfold wpOp
 rw [hi]
 dsimp only
 rcases h with ⟨hw,hq⟩ | ⟨hw,hv⟩
 ·rw [if_pos hw]
  refine Or.inl ?_
  have q:=hq x hx
  unfold Oper.quietAt at q
  unfold Oper.wp
  revert q
  cases (execOp a.eval o).run P x with
  | halt _ _=>exact False.elim
  | ok r y =>
   cases r with
   | value u=>rintro ⟨rfl,rfl⟩;exact hk _ (HR.1 _)
   | skip=>rintro ⟨rfl,rfl⟩;exact hk _ (HR.1 _)
   | enter f args=>rintro ⟨rfl,hc⟩;exact hc.mono (by rintro _ z ⟨rfl,hz⟩;exact hk _ hz)
   | _=>exact False.elim
 ·rw [if_neg (by rw [hw];exact Bool.false_ne_true),<-hv]
  exact hk _ (HR.1 _)
theorem op_besideR {j:Nat} {oi oj:Oper} {v:Value} {w:World} (hj:ops[j]?=some oj) (hap:oi.apart ops oj=true) (hsi:∀ cs b,oi.op ≠ .select cs b) (hsj:∀ cs b,oj.op ≠ .select cs b)
  (hQ:∀ c a w,Q (.panic c) (a.put oi.dst v) w->Q (.panic c) a w) {K:Act->World->Prop} {a:Act} {x:World} (hy:YR R P ops oi v a w) (h:wpOp P ops Q j K (a.put oi.dst v) x) :
  wpOp P ops Q j (fun a' y=>YR R P ops oi v a' w/\K (a'.put oi.dst v) y) a x:=by
 have h3:=(Oper.apart_spec hap).2.2
 refine wpOp_mono ?_ (op_frame hj (wpOp_putIf (S:=fun _=>False) hj hap hsi hsj hQ (hy.imp (fun q=>⟨q.1,fun _ hf=>hf.elim⟩) id) h))
 rintro b y ⟨⟨u,rfl | ⟨f,rfl⟩⟩,-,hk⟩
 ·exact ⟨hy.same (execOp_put oi hsi a oj.dst u h3) (wanted_put oi a oj.dst u h3),hk⟩
 ·have q:YR R P ops oi v { a with defers:=f::a.defers } w:=hy.same rfl rfl
  exact ⟨q.same (execOp_put oi hsi _ oj.dst u h3) (wanted_put oi _ oj.dst u h3),hk⟩
end
end Go.Proofs.YteaieagkjepgiaaGreatDoorT
/- . -/
namespace Go.Proofs.YteaieagkjepgiaaGreatDoorT
set_option maxRecDepth 100000
open Go.RowKit
section
variable {R:World->World->Prop} {P:Program} {ops:Array Oper} {Q:Exit->Act->World->Prop} {md:Region.Mode} {tl:Nat->Bool}
def wpE (R:World->World->Prop) (P:Program) (md:Region.Mode) (ops:Array Oper) (Q:Exit->Act->World->Prop) (tl:Nat->Bool):Nat->Array Bool->Act->World->Prop
 | 0,l,a,w=>∀ x,R w x->wpAny P md ops Q 0 l a x
 | n+1,l,a,w=>(tailedD tl ops l=true/\∀ x,R w x->wpAny P md ops Q (n+1) l a x)\/(∀ x,R w x->(Region.ready md ops l=[]->Q .normal a x) /\
   ∀ i ∈ Region.ready md ops l,wpOp P ops Q i (fun a' y=>R x y/\wpE R P md ops Q tl n (l.setIfInBounds i true) a' y) a x)
theorem wpE_later (HR:Pre9 R):∀ (n:Nat) (l:Array Bool) (a:Act) (w y:World),R w y->wpE R P md ops Q tl n l a w->wpE R P md ops Q tl n l a y
 | 0,_,_,_,_,hy,h=>fun x hx=>h x (HR.2 hy hx)
 | _+1,_,_,_,_,hy,h=>h.imp (fun q=>⟨q.1,fun x hx=>q.2 x (HR.2 hy hx)⟩) (fun q x hx=>q x (HR.2 hy hx))
theorem wpAny_of_E (HR:Pre9 R):∀ (n:Nat) (l:Array Bool) (a:Act) (w:World),wpE R P md ops Q tl n l a w->wpAny P md ops Q n l a w
 | 0,_,_,w,h=>h w (HR.1 w)
 | n+1,_,_,w,h=>by
  rcases h with h | h
  ·exact h.2 w (HR.1 w)
  ·exact ⟨(h w (HR.1 w)).1,fun i hi=>wpOp_mono (fun a' y hh=>wpAny_of_E HR n _ a' y hh.2) ((h w (HR.1 w)).2 i hi)⟩
theorem wpE_first (HR:Pre9 R) {i:Nat} {oi:Oper} {v:Value} {C:List Nat} (hi:ops[i]?=some oi) (hsel:∀ (j:Nat) (o:Oper) cs b,ops[j]?=some o->o.op ≠ .select cs b) (hQ:∀ c a w,Q (.panic c) (a.put oi.dst v) w->Q (.panic c) a w) :
  ∀ (n:Nat) (l:Array Bool) (a:Act) (w:World),waitsD md tl ops l i C=true->(∀ j oj,ops[j]?=some oj->j ≠ i->l.getD j true=false->(∀ e ∈ oj.after,Region.binds md e=true->e.on ≠ i)->oi.apart ops oj=true) ->
   i ∈ Region.ready md ops l->YR R P ops oi v a w->wpE R P md ops Q tl n (l.setIfInBounds i true) (a.put oi.dst v) w->wpE R P md ops Q tl (n+1) l a w:=by
 intro n
 induction n with
 | zero =>
  intro l a w _ _ hr hy H
  refine .inr fun x hx=>⟨fun h=>(by rw [h] at hr;cases hr),fun j hj=>?_⟩
  by_cases hji:j=i
  ·subst hji
   exact hy.op HR hi hx fun y hxy=>⟨hxy,wpE_later HR 0 _ _ _ _ (HR.2 hx hxy) H⟩
  ·have q:=ready_mono hj hji
   rw [(H w (HR.1 w)).1] at q
   cases q
 | succ n ih =>
  intro l a w hwt hfree hr hy H
  refine .inr fun x hx=>⟨fun h=>(by rw [h] at hr;cases hr),fun j hj=>?_⟩
  by_cases hji:j=i
  ·subst hji
   exact hy.op HR hi hx fun y hxy=>⟨hxy,wpE_later HR (n+1) _ _ _ _ (HR.2 hx hxy) H⟩
  ·obtain ⟨hun,oj,hoj,-⟩:=mem_ready.1 hj
   have hjC:j ∉ C:=fun hc=>waitsD_spec hwt (mem_ready.1 hr).1 j hc hj
   rcases H with H | H
   ·have hju:(l.setIfInBounds i true).getD j true=false:=by rw [getD_set_ne true (Ne.symm hji)];exact hun
    have hjs:=(Array.getElem?_eq_some_iff.1 hoj).1
    have hjm:=tailedD_spec H.1 hju hjs
    exact absurd (waitsD_last hwt hjm hun hjs) hjC
   ·have q:=op_besideR hoj (hfree j oj hoj hji hun (ready_free hr hj hoj)) (fun cs b=>hsel i oi cs b hi) (fun cs b=>hsel j oj cs b hoj) hQ hy ((H x hx).2 j (ready_mono hj hji))
    refine wpOp_mono (fun b y hb=>⟨hb.2.1,ih (l.setIfInBounds j true) b y (waitsD_step hwt hjC) (fun k ok hk hki hku hno=>hfree k ok hk hki ?_ hno) (ready_mono hr (Ne.symm hji)) (hb.1.later HR (HR.2 hx hb.2.1)) ?_⟩) q
    ·by_cases hjk:j=k
     ·subst hjk;exact hun
     ·rw [getD_set_ne true hjk] at hku;exact hku
    ·rw [Array.setIfInBounds_comm _ _ hji]
     exact hb.2.2
theorem wpE_tail {l:Array Bool} {a:Act} {w:World} (ht:tailedD tl ops l=true):∀ {n:Nat},(∀ x,R w x->wpAny P md ops Q n l a x)->wpE R P md ops Q tl n l a w
 | 0,h=>h
 | _+1,h=>.inl ⟨ht,h⟩
theorem wp_region_E (R:World->World->Prop) (HR:Pre9 R) {id:Nat} {a:Act} {w:World} (tl:Nat->Bool) (hm:P.follows .mixedOrders=true) (h:wpE R P .any ops Q tl ops.size (Array.replicate ops.size false) a w.drew):(Code.region id ops true).wp P Q a w:=
 wp_region_any hm (wpAny_of_E HR _ _ _ _ h)
end
section
variable {R:World->World->Prop} {P:Program} {Q:Exit->Act->World->Prop} {md:Region.Mode} {tl:Nat->Bool}
theorem wpE_val (HR:Pre9 R) {L r:List Oper} {i:Nat} {oi:Oper} {v:Value} {n:Nat} {l:Array Bool} {a:Act} {w:World} (hi:L.drop i=oi::r) (hs:Region.noSelect L.toArray=true) (hf:Region.free md L.toArray l i=true) (hr:(Region.ready md L.toArray l).contains i=true) (ht:waitsD md tl L.toArray l i (clo md L.toArray l i)=true)
  (hQ:∀ c a w,Q (.panic c) (a.put oi.dst v) w->Q (.panic c) a w) (hw:Region.wanted oi (yielded L.toArray a.tmps)=true) (hy:∀ x,R w x->(execOp a.eval oi).run P x = .ok (.value v) x)
  (h:wpE R P md L.toArray Q tl n (l.setIfInBounds i true) (a.put oi.dst v) w):wpE R P md L.toArray Q tl (n+1) l a w:=
 wpE_first HR (at_drop hi) (Region.noSelect_spec hs) hQ n l a w ht (Region.free_spec (at_drop hi) hf) (by simpa using hr) (Or.inl ⟨hw,fun x hx=>by unfold Oper.quietAt;rw [hy x hx];exact ⟨rfl,rfl⟩⟩) h
theorem wpE_one {L r:List Oper} {i:Nat} {oi:Oper} {n:Nat} {l:Array Bool} {a:Act} {w:World} (hr:Region.ready md L.toArray l=[i]) (hi:L.drop i=oi::r) (hw:Region.wanted oi (yielded L.toArray a.tmps)=true)
  (h:∀ x,R w x->∃ (v:Value) (y:World),(execOp a.eval oi).run P x = .ok (.value v) y/\R x y/\wpE R P md L.toArray Q tl n (l.setIfInBounds i true) (a.put oi.dst v) y):wpE R P md L.toArray Q tl (n+1) l a w:=by
 refine .inr fun x hx=>?_
 rw [hr]
 refine ⟨fun h=>(by cases h),fun j hj=>?_⟩
 rw [List.mem_singleton] at hj
 subst hj
 obtain ⟨v,y,h1,h2,h3⟩:=h x hx
 unfold wpOp
 rw [at_drop hi]
 dsimp only
 rw [if_pos hw]
 refine Or.inl ?_
 unfold Oper.wp
 rw [h1]
 exact ⟨h2,h3⟩
theorem wpE_purely (HR:Pre9 R) {ops:Array Oper} {i:Nat} {oi:Oper} {v:Value} (hi:ops[i]?=some oi) (hti:tl i=true) (hsel:∀ (j:Nat) (o:Oper) cs b,ops[j]?=some o->o.op ≠ .select cs b) (hQ:∀ c a w,Q (.panic c) (a.put oi.dst v) w->Q (.panic c) a w) :
  ∀ (n:Nat) (l:Array Bool) (a:Act) (w:World),(∀ j oj,ops[j]?=some oj->j ≠ i->l.getD j true=false->(∀ e ∈ oj.after,Region.binds md e=true->e.on ≠ i)->oi.apart ops oj=true) ->
   i ∈ Region.ready md ops l->Region.wanted oi (yielded ops a.tmps)=true->(∀ x,(execOp a.eval oi).run P x = .ok (.value v) x)->wpE R P md ops Q tl n (l.setIfInBounds i true) (a.put oi.dst v) w->wpE R P md ops Q tl (n+1) l a w:=by
 have htail:∀ {l:Array Bool},tailedD tl ops (l.setIfInBounds i true)=true->tailedD tl ops l=true:=fun {l} h=>by
  unfold tailedD at h ⊢
  refine List.all_eq_true.2 fun j hj=>?_
  by_cases e:i=j
  ·subst e
   rw [hti,Bool.or_true]
  ·have:=List.all_eq_true.1 h j hj
   rw [getD_set_ne true e] at this
   exact this
 intro n
 induction n with
 | zero =>
  intro l a w _ hr hw hy H
  refine .inr fun x hx=>⟨fun h=>(by rw [h] at hr;cases hr),fun j hj=>?_⟩
  by_cases hji:j=i
  ·subst hji
   have hyl:YR R P ops oi v a w:=Or.inl ⟨hw,fun x _=>by unfold Oper.quietAt;rw [hy x];exact ⟨rfl,rfl⟩⟩
   exact hyl.op HR hi hx fun y hxy=>⟨hxy,wpE_later HR 0 _ _ _ _ (HR.2 hx hxy) H⟩
  ·have q:=ready_mono hj hji
   rw [(H w (HR.1 w)).1] at q
   cases q
 | succ n ih =>
  intro l a w hfree hr hw hy H
  rcases H with H | H
  ·exact .inl ⟨htail H.1,fun x hx=>wpA_first hi hsel hQ _ l a x hfree hr hw hy (H.2 x hx)⟩
  ·have hyl:YR R P ops oi v a w:=Or.inl ⟨hw,fun x _=>by unfold Oper.quietAt;rw [hy x];exact ⟨rfl,rfl⟩⟩
   refine .inr fun x hx=>⟨fun h=>(by rw [h] at hr;cases hr),fun j hj=>?_⟩
   by_cases hji:j=i
   ·subst hji
    exact hyl.op HR hi hx fun y hxy=>⟨hxy,wpE_later HR (n+1) _ _ _ _ (HR.2 hx hxy) (.inr H)⟩
   ·obtain ⟨hun,oj,hoj,-⟩:=mem_ready.1 hj
    have hap:=hfree j oj hoj hji hun (ready_free hr hj hoj)
    have h3:=(Oper.apart_spec hap).2.2
    have q:=op_frame hoj (wpOp_putIf (S:=fun _=>False) hoj hap (fun cs b=>hsel i oi cs b hi) (fun cs b=>hsel j oj cs b hoj) hQ (Or.inl ⟨hw,fun _ hf=>hf.elim⟩) ((H x hx).2 j (ready_mono hj hji)))
    refine wpOp_mono ?_ q
    have step:∀ (b:Act) (y:World),R x y->execOp b.eval oi=execOp a.eval oi->Region.wanted oi (yielded ops b.tmps)=Region.wanted oi (yielded ops a.tmps)->wpE R P md ops Q tl n ((l.setIfInBounds i true).setIfInBounds j true) (b.put oi.dst v) y->R x y/\wpE R P md ops Q tl (n+1) (l.setIfInBounds j true) b y:=fun b y hl e1 e2 hk=>by
     refine ⟨hl,ih (l.setIfInBounds j true) b y (fun k ok hk hki hku hno=>hfree k ok hk hki ?_ hno) (ready_mono hr (Ne.symm hji)) (by rw [e2];exact hw) (fun x=>by rw [e1];exact hy x) ?_⟩
     ·by_cases hjk:j=k
      ·subst hjk;exact hun
      ·rw [getD_set_ne true hjk] at hku;exact hku
     ·rw [Array.setIfInBounds_comm _ _ hji]
      exact hk
    rintro b y ⟨⟨u,rfl | ⟨f,rfl⟩⟩,-,hl,hk⟩
    ·exact step _ _ hl (execOp_put oi (fun cs b=>hsel i oi cs b hi) a oj.dst u h3) (wanted_put oi a oj.dst u h3) hk
    ·exact step _ _ hl (execOp_put oi (fun cs b=>hsel i oi cs b hi) { a with defers:=f::a.defers } oj.dst u h3) (wanted_put oi { a with defers:=f::a.defers } oj.dst u h3) hk
theorem wpE_pure (HR:Pre9 R) {L r:List Oper} {i:Nat} {oi:Oper} {v:Value} {n:Nat} {l:Array Bool} {a:Act} {w:World} (hi:L.drop i=oi::r) (hti:tl i=true) (hs:Region.noSelect L.toArray=true) (hf:Region.free md L.toArray l i=true) (hr:(Region.ready md L.toArray l).contains i=true)
  (hQ:∀ c a w,Q (.panic c) (a.put oi.dst v) w->Q (.panic c) a w) (hw:Region.wanted oi (yielded L.toArray a.tmps)=true) (hy:∀ x,(execOp a.eval oi).run P x = .ok (.value v) x)
  (h:wpE R P md L.toArray Q tl n (l.setIfInBounds i true) (a.put oi.dst v) w):wpE R P md L.toArray Q tl (n+1) l a w:=
 wpE_purely HR (at_drop hi) hti (Region.noSelect_spec hs) hQ n l a w (Region.free_spec (at_drop hi) hf) (by simpa using hr) hw hy h
end
end Go.Proofs.YteaieagkjepgiaaGreatDoorT
/- . -/
namespace Go.Proofs.YteaieagkjepgiaaGreatDoorT
set_option maxRecDepth 100000
open Go.RowKit BigFrame
attribute [local go_sem ↓] Go.wp_at_zero Go.wp_at_succ
theorem infoSeat:(Tw.prog.info? 103).map (fun i=>(i.zero,i.size,i.bytes))=some (some (.agg #[.pointer none,.int .i64 0]),2,16):=by kernel_rfl
theorem later9:Pre9 Later:=⟨Later.refl,fun h k=>Later.trans h k⟩
theorem ta_seat (v:Value) (x:World):Sem.run Tw.prog (Instr.typeAssert (.iface 103 v) 20 103 false) x = .ok v x:=by kernel_rfl
attribute [local go_sem] ta_seat
theorem fd_seat (p:Option Addr) (y:Value) (x:World):Sem.run Tw.prog (Instr.field 103 (.agg #[.pointer p,y]) 0) x = .ok (.pointer p) x:=by kernel_rfl
attribute [local go_sem] fd_seat
theorem run_app {P:Program} {w y:World} {o:Oper} {a:Act} {s x:Operand} {t:TypeId} {v1 v2 v:Value} (ho:o.op = .call { callee:=.builtin .append,args:=#[s,x],argTypes:=#[t,t] }) (hs:a.eval s=v1) (hx:a.eval x=v2) (hr:(Builtin.append_ #[t,t] o.type #[v1,v2]).run P w = .ok v y):(execOp a.eval o).run P w = .ok (.value v) y:=by
 unfold execOp
 simp only [ho,resolve,invoke,builtin,Sem.run_bind,Sem.run_pure,Result.andThen_ok,List.map_toArray,List.map_cons,List.map_nil,hs,hx,hr]
theorem seS_more (b off:Nat) (Q:List Nat) (t:Nat):seS b off Q++seC b off t=seS b off (Q++[t]):=by simp [seS]
set_option maxRecDepth 100000 in
set_option maxHeartbeats 2000000 in
theorem implQPush {w0 w:World} {S:List Str} {B n b off:Nat} {v:Value} {Q:List Nat} (h:OwS w0 w (bxS B [v]::S) 103 2 v n (seS b off Q)) (hn:n<=1048576) (t:Nat) :
  Calls Tw.prog 130 #[.pointer (some ⟨B,0,none⟩),.iface 103 (sev b off t)] w fun e w'=>e = .returned (.tuple #[])/\∃ g c,OwS w0 w' (bxS B [(.slice (some ⟨g,0,none⟩) (n+1) c)]::S) 103 2 (.slice (some ⟨g,0,none⟩) (n+1) c) (n+1) (seS b off (Q++[t])):=by
 obtain ⟨i0,hin,hz0,hz1,hz2⟩:=info_parts infoSeat
 have H:=Shut.mk h
 obtain ⟨va,vc,rfl⟩:=own_row_slice h.own
 have x0:=(h.sl.bx 0 rfl 0 _ rfl).1
 have lB:B<w.heap.size:=(h.sl.at 0 rfl).1
 have hB0:w0.heap.size<=B:=((h.sl.is _ (List.mem_cons_self ..)).2.2.1)
 have HLE:Shut (∀ x,Later w.drew x->x.cell? ⟨B,0,none⟩=some (.slice va n vc)):=⟨fun x hx=>(((Below.drew (Below.refl _ _)).trans hx:Below w.heap.size w x).cell (p:=⟨B,0,none⟩) lB).trans x0⟩
 clear h x0 lB
 go_enter Tw.func130,Tw.ntmps130
 go_upto_region 0 with fail
 refine wp_region_E Later later9 (fun j=>decide (j=0)||decide (7<=j)) (by kernel_rfl) ?_
 refine wpE_pure later9 (i:=0) (v:=?v0) rfl (by kernel_rfl) (by kernel_rfl) (by kernel_rfl) (by kernel_rfl) (fun _ _ _ h=>h) (by rfl) ?hy0 ?rest0
 case hy0=>(intro x;go_simp;try with_reducible rfl)
 try simp only [Act.put,List.setIfInBounds_toArray,List.set_cons_zero,List.set_cons_succ]
 refine wpE_val later9 (i:=1) (v:=?v1) rfl (by kernel_rfl) (by kernel_rfl) (by kernel_rfl) (by kernel_rfl) (fun _ _ _ h=>h) (by rfl) ?hy1 ?rest1
 case hy1=>(intro x hx;have d0:=HLE.out x hx;go_simp;try with_reducible rfl)
 try simp only [Act.put,List.setIfInBounds_toArray,List.set_cons_zero,List.set_cons_succ]
 refine wpE_val later9 (i:=2) (v:=?v2) rfl (by kernel_rfl) (by kernel_rfl) (by kernel_rfl) (by kernel_rfl) (fun _ _ _ h=>h) (by rfl) ?hy2 ?rest2
 case hy2=>(intro x hx;have d0:=HLE.out x hx;go_simp;try with_reducible rfl)
 try simp only [Act.put,List.setIfInBounds_toArray,List.set_cons_zero,List.set_cons_succ]
 refine wpE_val later9 (i:=3) (v:=?v3) rfl (by kernel_rfl) (by kernel_rfl) (by kernel_rfl) (by kernel_rfl) (fun _ _ _ h=>h) (by rfl) ?hy3 ?rest3
 case hy3=>(intro x hx;have d0:=HLE.out x hx;go_simp;try with_reducible rfl)
 try simp only [Act.put,List.setIfInBounds_toArray,List.set_cons_zero,List.set_cons_succ]
 refine wpE_val later9 (i:=4) (v:=?v4) rfl (by kernel_rfl) (by kernel_rfl) (by kernel_rfl) (by kernel_rfl) (fun _ _ _ h=>h) (by rfl) ?hy4 ?rest4
 case hy4=>(intro x hx;have d0:=HLE.out x hx;go_simp;try with_reducible rfl)
 try simp only [Act.put,List.setIfInBounds_toArray,List.set_cons_zero,List.set_cons_succ]
 refine wpE_val later9 (i:=5) (v:=?v5) rfl (by kernel_rfl) (by kernel_rfl) (by kernel_rfl) (by kernel_rfl) (fun _ _ _ h=>h) (by rfl) ?hy5 ?rest5
 case hy5=>(intro x hx;have d0:=HLE.out x hx;go_simp;try with_reducible rfl)
 try simp only [Act.put,List.setIfInBounds_toArray,List.set_cons_zero,List.set_cons_succ]
 refine wpE_one (i:=6) (by kernel_rfl) rfl (by rfl) ?_
 intro y hy
 have HY:=Shut.mk (H.out.below (Below.trans (Below.drew (Below.refl _ _)) hy))
 clear HLE hy
 refine ⟨.slice (some ⟨y.heap.size,0,none⟩) 1 1,y.alloc (.cells #[.pointer (some ⟨b,off+t*3,none⟩),.int .i64 (t:Nat)] 103),by go_simp,(Below.refl _ _).alloc (Nat.le_refl _) _,?_⟩
 try simp only [Act.put,List.setIfInBounds_toArray,List.set_cons_zero,List.set_cons_succ]
 refine wpE_tail (by kernel_rfl) ?_
 intro x hx
 have HYA:=Shut.mk ((HY.out.alloc (.cells #[.pointer (some ⟨b,off+t*3,none⟩),.int .i64 (t:Nat)] 103)).below hx)
 have hcl:∀ j u,(seC b off t)[j]?=some u->x.cell? ((⟨y.heap.size,0,none⟩:Addr).add j)=some u:=fun j u hu=>by
  have q:=((wcells_new y #[.pointer (some ⟨b,off+t*3,none⟩),.int .i64 (t:Nat)] 103).grow hx).2 j u hu
  cases j with
  | zero=>exact q.1
  | succ j=>simpa [Addr.add] using q.1
 have hone:∀ u ∈ seC b off t,u.oneCell'=true:=fun u hu=>by
  simp only [seC,List.mem_cons,List.not_mem_nil,or_false] at hu
  rcases hu with rfl | rfl <;> rfl
 obtain ⟨v',z,hrun,ho,hg,hiff,hat⟩:=run_append_own_at (P:=Tw.prog) x w0.heap.size 100 100 103 i0 _ 2 16 Tw.underlying100 hin hz0 hz1 hz2 rfl (by decide) _ n _ HYA.out.own ⟨y.heap.size,0,none⟩ 1 1 (seC b off t) rfl hcl hone (by unfold maxLen;omega) (by omega) (by have:=HYA.out.sl.bel.size;omega)
 rw [seS_more] at ho
 have HM:=Shut.mk (HY.out.more (((Below.refl _ _).alloc (Nat.le_refl _) _).trans (Below.mono hx (Nat.le_trans (Nat.le_succ _) (by simp)))) ho hg hat)
 obtain ⟨a9,c9,rfl⟩:=own_row_slice ho
 have HA9:Shut (∃ g,a9=some ⟨g,0,none⟩):=⟨by
  rcases ho.2 with ⟨e,e2⟩ | ⟨g,cap,cur,e,_⟩
  ·omega
  ·cases e;exact ⟨g,rfl⟩⟩
 clear ho hg hat hiff
 refine wpA_here (i:=7) (v:=.slice a9 (n+1) c9) (y:=z) (by kernel_rfl) rfl (by rfl) (run_app rfl rfl rfl hrun) ?_
 try simp only [Act.put,List.setIfInBounds_toArray,List.set_cons_zero,List.set_cons_succ]
 refine wpA_val (i:=8) (v:=.pointer (some ⟨B,0,none⟩)) rfl (by kernel_rfl) (by kernel_rfl) (by kernel_rfl) (fun _ _ _ h=>h) (by rfl) (fun x=>by go_simp) ?_
 try simp only [Act.put,List.setIfInBounds_toArray,List.set_cons_zero,List.set_cons_succ]
 have x1:=HM.out.sl.bx 0 rfl 0 _ rfl
 obtain ⟨x2,x3⟩:=x1
 have HP:=Shut.mk (HM.out.put 0 rfl 0 (.slice a9 (n+1) c9) (by simp))
 refine wpA_store (i:=9) (y:=z.setCell ⟨B,0,none⟩ (.slice a9 (n+1) c9)) (by kernel_rfl) rfl (by rfl) (by go_simp) (by kernel_rfl) ?_
 try simp only [Act.put]
 clear x2 x3 HM HY HYA hrun
 obtain ⟨g,rfl⟩:=HA9.out
 go_wp2_with fail
 go_end0
 exact ⟨rfl,g,c9,HP.out⟩
theorem seS_take (b off:Nat) (Q:List Nat) (n:Nat) (h:Q.length=n+1):seS b off Q=seS b off (Q.take n)++seC b off (Q.getD n 0):=by
 have e:Q=Q.take n++[Q.getD n 0]:=by
  have e1:Q[n]'(by omega)=Q.getD n 0:=by simp [List.getD,show n<Q.length by omega]
  conv=>lhs;rw [<-List.take_of_length_le (show Q.length<=n+1 by omega)]
  rw [List.take_succ_eq_append_getElem (by omega),e1]
 conv=>lhs;rw [e]
 exact (seS_more b off _ _).symm
theorem OwS.pop {w0 W:World} {S:List Str} {g n c b off:Nat} {Q:List Nat} (h:OwS w0 W S 103 2 (.slice (some ⟨g,0,none⟩) (n+1) c) (n+1) (seS b off Q)) (hn:Q.length=n+1):OwS w0 W S 103 2 (.slice (some ⟨g,0,none⟩) n c) n (seS b off (Q.take n)):=by
 have q:=h.own
 rw [seS_take b off Q n hn] at q
 exact ⟨h.sl,ownsRow_pop (by rw [seS_len,List.length_take];omega) q,h.far⟩
set_option maxRecDepth 100000 in
set_option maxHeartbeats 2000000 in
theorem implQPop {w0 w:World} {S:List Str} {B g n c b off:Nat} {Q:List Nat} (h:OwS w0 w (bxS B [(.slice (some ⟨g,0,none⟩) (n+1) c)]::S) 103 2 (.slice (some ⟨g,0,none⟩) (n+1) c) (n+1) (seS b off Q)) (hn:Q.length=n+1) (hnl:n<=1048576) :
  Calls Tw.prog 129 #[.pointer (some ⟨B,0,none⟩)] w fun e w'=>e = .returned (.iface 103 (sev b off (Q.getD n 0)))/\OwS w0 w' (bxS B [(.slice (some ⟨g,0,none⟩) n c)]::S) 103 2 (.slice (some ⟨g,0,none⟩) n c) n (seS b off (Q.take n)):=by
 obtain ⟨x0,z0⟩:=h.sl.bx 0 rfl 0 _ rfl
 obtain ⟨a0,a1,lg⟩:=seS_at (FRw.of_own h.own).1.crow (show n<Q.length by omega)
 have lB:B<w.heap.size:=(h.sl.at 0 rfl).1
 have hcn:n+1<=c:=(FRw.of_own h.own).2
 have HK:=Shut.mk (((h.put 0 rfl 0 (.slice (some ⟨g,0,none⟩) n c) (by simp)).alloc (.cells #[.pointer (some ⟨b,off+Q.getD n 0*3,none⟩),.int .i64 (Q.getD n 0:Nat)] 103)).pop hn)
 generalize Q.getD n 0=s at *
 clear h hn
 have e1:(n:Int)+1 - 1=(n:Int):=by omega
 have n0:(0:Int)<=(n:Int):=by omega
 have n1:(n:Int)<(n:Int)+1:=by omega
 have n2:(n:Int)<=(c:Int):=by omega
 have hne:¬ w.heap.size=B:=by omega
 have hne2:¬ B=w.heap.size:=by omega
 have hne3:¬ g=w.heap.size:=by omega
 go_enter Tw.func129,Tw.ntmps129
 go_wp2_with fail
 go_ret
 exact ⟨rfl,HK.out⟩
set_option maxRecDepth 100000 in
set_option maxHeartbeats 2000000 in
theorem implPush {w0 w:World} {S:List Str} {B n b off:Nat} {v:Value} {Q:List Nat} {rs:List HoR} (h:OwS w0 w (bxS B [v]::S) 103 2 v n (seS b off Q)) (hn:Q.length=n) (hnl:n<1048576) (hr:HsRow w0 (some ⟨b,off,none⟩) rs) (hQ:∀ x ∈ Q,x<rs.length) (t:Nat) (ht:t<rs.length) (hh:HpN (pk (hms rs)) Q n) :
  Calls Tw.prog 74 #[qif B,.iface 103 (sev b off t)] w fun e w'=>e = .returned (.tuple #[])/\∃ g c R,R.Perm (Q++[t])/\HpN (pk (hms rs)) R (n+1)/\OwS w0 w' (bxS B [(.slice (some ⟨g,0,none⟩) (n+1) c)]::S) 103 2 (.slice (some ⟨g,0,none⟩) (n+1) c) (n+1) (seS b off R):=by
 have HP:=Shut.mk (implQPush h (by omega) t)
 have HU:Shut (∀ (W:World) (g c:Nat),OwS w0 W (bxS B [(.slice (some ⟨g,0,none⟩) (n+1) c)]::S) 103 2 (.slice (some ⟨g,0,none⟩) (n+1) c) (n+1) (seS b off (Q++[t]))->Calls Tw.prog 91 #[qif B,.int .i64 (n:Nat)] W fun e w'=>e = .returned (.tuple #[])/\∃ R,R.Perm (Q++[t])/\HpN (pk (hms rs)) R (n+1)/\OwS w0 w' (bxS B [(.slice (some ⟨g,0,none⟩) (n+1) c)]::S) 103 2 (.slice (some ⟨g,0,none⟩) (n+1) c) (n+1) (seS b off R)):=⟨fun W g c h9 =>
  implUp h9 (by simp [hn]) (by omega) hr (fun x hx=>by rcases List.mem_append.1 hx with q | q;exact hQ x q;rw [List.mem_singleton.1 q];exact ht) n (by omega) (by
   have q:=HpN.more (p:=pk (hms rs)) (Q:=Q) (by rw [hn];exact hh) t
   rw [hn] at q
   exact q)⟩
 have e1:(n:Int)+1 - 1=(n:Int):=by omega
 clear h hn hr hQ ht hh
 go_enter Tw.func74,Tw.ntmps74
 go_wp2_with (first
  | (go_at_call 130;refine HP.out.mono ?_;rintro e w1 ⟨rfl,g,c,h1⟩;have H1:=Shut.mk h1;clear h1;have x1:=(H1.out.sl.bx 0 rfl 0 _ rfl).1;have hm1:=len_meth B _ w1 x1)
  | (go_at_call 50;refine (implLen (some ⟨g,0,none⟩) (n+1) c w1).mono ?_;rintro e w2 ⟨rfl,hw2⟩;subst hw2)
  | (go_at_call 91;refine (HU.out _ g c H1.out).mono ?_;rintro e w3 ⟨rfl,R,hR,hH,h3⟩;have H3:=Shut.mk (And.intro hR (And.intro hH h3));clear hR hH h3))
 go_end0
 exact ⟨rfl,g,c,R,H3.out.1,H3.out.2.1,H3.out.2.2⟩
set_option maxRecDepth 100000 in
set_option maxHeartbeats 2000000 in
theorem implPop {w0 w:World} {S:List Str} {B g n c b off:Nat} {Q:List Nat} {rs:List HoR} (h:OwS w0 w (bxS B [(.slice (some ⟨g,0,none⟩) (n+1) c)]::S) 103 2 (.slice (some ⟨g,0,none⟩) (n+1) c) (n+1) (seS b off Q)) (hn:Q.length=n+1) (hnl:n<1048576) (hr:HsRow w0 (some ⟨b,off,none⟩) rs) (hQ:∀ x ∈ Q,x<rs.length) (hh:HpN (pk (hms rs)) Q (n+1)) :
  Calls Tw.prog 75 #[qif B] w fun e w'=>e = .returned (.iface 103 (sev b off (Q.getD 0 0)))/\∃ R,R.Perm Q/\R.getD n 0=Q.getD 0 0/\HpN (pk (hms rs)) R n/\OwS w0 w' (bxS B [(.slice (some ⟨g,0,none⟩) n c)]::S) 103 2 (.slice (some ⟨g,0,none⟩) n c) n (seS b off (R.take n)):=by
 have x0:=(h.sl.bx 0 rfl 0 _ rfl).1
 have hm0:=len_meth B _ w x0
 have hm1:=swap_meth B _ w x0
 have HSW:=Shut.mk (implSwap h hn 0 n (by omega) (by omega))
 have HDN:Shut (∀ W,OwS w0 W (bxS B [(.slice (some ⟨g,0,none⟩) (n+1) c)]::S) 103 2 (.slice (some ⟨g,0,none⟩) (n+1) c) (n+1) (seS b off (sw Q 0 n))->Calls Tw.prog 92 #[qif B,.int .i64 0,.int .i64 (n:Nat)] W fun e w'=>SomeB e/\∃ R,R.Perm (sw Q 0 n)/\HpN (pk (hms rs)) R n/\(∀ t,n<=t->R.getD t 0=(sw Q 0 n).getD t 0)/\OwS w0 w' (bxS B [(.slice (some ⟨g,0,none⟩) (n+1) c)]::S) 103 2 (.slice (some ⟨g,0,none⟩) (n+1) c) (n+1) (seS b off R)):=⟨fun W h9 =>
  implDown h9 (by rw [sw_len];exact hn) (by omega) (by omega) hr (perm_lt (sw_perm Q 0 n (by omega) (by omega)) hQ) (hh.pop hn)⟩
 have HPP:Shut (∀ (W:World) (R:List Nat),R.Perm (sw Q 0 n)->(∀ t,n<=t->R.getD t 0=(sw Q 0 n).getD t 0)->OwS w0 W (bxS B [(.slice (some ⟨g,0,none⟩) (n+1) c)]::S) 103 2 (.slice (some ⟨g,0,none⟩) (n+1) c) (n+1) (seS b off R)->R.Perm Q/\R.getD n 0=Q.getD 0 0/\Calls Tw.prog 129 #[.pointer (some ⟨B,0,none⟩)] W fun e w'=>e = .returned (.iface 103 (sev b off (Q.getD 0 0)))/\OwS w0 w' (bxS B [(.slice (some ⟨g,0,none⟩) n c)]::S) 103 2 (.slice (some ⟨g,0,none⟩) n c) n (seS b off (R.take n))):=⟨fun W R hR ht h9=>by
  have e1:R.getD n 0=Q.getD 0 0:=by rw [ht n (Nat.le_refl _),sw_at Q 0 n (by omega) (by omega),if_pos rfl]
  have e2:=hR.trans (sw_perm Q 0 n (by omega) (by omega))
  refine ⟨e2,e1,?_⟩
  rw [<-e1]
  exact implQPop h9 (by rw [e2.length_eq];exact hn) (by omega)⟩
 have e1:(n:Int)+1 - 1=(n:Int):=by omega
 generalize sw Q 0 n=Q1 at *
 clear h hn hr hQ hh
 go_enter Tw.func75,Tw.ntmps75
 go_wp2_with (first
  | (go_at_call 50;refine (implLen (some ⟨g,0,none⟩) (n+1) c w).mono ?_;rintro e w2 ⟨rfl,hw2⟩;subst hw2;clear hm0)
  | (go_at_call 131;refine HSW.out.mono ?_;rintro e w3 ⟨rfl,h3⟩;have H3:=Shut.mk h3;clear h3 hm1 x0)
  | (go_at_call 92;refine (HDN.out _ H3.out).mono ?_;rintro e w4 ⟨⟨vb,rfl⟩,R,hR,hH,ht,h4⟩;have H4:=Shut.mk (And.intro hH (HPP.out w4 R hR ht h4));clear hR hH ht h4)
  | (go_at_call 129;refine H4.out.2.2.2.mono ?_;rintro e w5 ⟨rfl,h5⟩;have H5:=Shut.mk h5;clear h5))
 go_ret
 exact ⟨rfl,R,H4.out.2.1,H4.out.2.2.1,H4.out.1,H5.out⟩
set_option maxRecDepth 100000 in
set_option maxHeartbeats 2000000 in
theorem implNext {w0 w:World} {S:List Str} {B g n c b off:Nat} {Q:List Nat} {rs:List HoR} (h:OwS w0 w (bxS B [(.slice (some ⟨g,0,none⟩) (n+1) c)]::S) 103 2 (.slice (some ⟨g,0,none⟩) (n+1) c) (n+1) (seS b off Q)) (hn:Q.length=n+1) (hnl:n<1048576) (hr:HsRow w0 (some ⟨b,off,none⟩) rs) (hQ:∀ x ∈ Q,x<rs.length) (hh:HpN (pk (hms rs)) Q (n+1)) :
  Calls Tw.prog 51 #[.pointer (some ⟨B,0,none⟩)] w fun e w'=>e = .returned (.pointer (some ⟨b,off+Q.getD 0 0*3,none⟩))/\∃ R,R.Perm Q/\R.getD n 0=Q.getD 0 0/\HpN (pk (hms rs)) R n/\OwS w0 w' (bxS B [(.slice (some ⟨g,0,none⟩) n c)]::S) 103 2 (.slice (some ⟨g,0,none⟩) n c) n (seS b off (R.take n)):=by
 have HP:=Shut.mk (implPop h hn hnl hr hQ hh)
 clear h hn hr hQ hh
 generalize Q.getD 0 0=s at *
 unfold sev at HP
 go_enter Tw.func51,Tw.ntmps51
 go_wp2_with (go_at_call 75;refine HP.out.mono ?_;rintro e w1 ⟨rfl,R,h1⟩;have H1:=Shut.mk h1;clear h1)
 go_ret
 exact ⟨rfl,R,H1.out⟩
end Go.Proofs.YteaieagkjepgiaaGreatDoorT
