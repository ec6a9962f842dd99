/- Texts of ours, laid one behind the other: THsA, TOrM. -/
import Derived.Test.YteaieagkjepgiaaGreatDoorPfT7
set_option linter.unusedVariables false
set_option linter.unusedSimpArgs false
/- . -/
namespace Go.Proofs.YteaieagkjepgiaaGreatDoorT
set_option maxRecDepth 100000
open Go.RowKit BigFrame
attribute [local go_sem ↓] Go.wp_at_zero Go.wp_at_succ
set_option maxRecDepth 100000 in
set_option maxHeartbeats 1000000 in
theorem szHostS_any (a:Option Addr) (rs:List HoR) (cap:Nat) (left:Int) (w:World) (hr:HsRow w a rs) (hf:HsFits (hms rs)) (h0:0<=left) (h1:left<=1048576) :
  Calls Tw.prog 4 #[.slice a rs.length cap,.int .i64 left] w fun e w'=>SzPostUn left (rs.length+hsSum (hms rs)) w e w':=by
 obtain ⟨n,hn⟩:∃ n,n=rs.length:=⟨_,rfl⟩
 have HN:=Shut.mk hn
 have hl:n<=9223372036854775807:=by rw [hn,<-hms_len];exact hf.1
 rw [<-hn]
 clear hn
 by_cases c1:left - n<0
 ·clear hr hf
  go_enter Tw.func4,Tw.ntmps4
  go_wp2_with fail
  go_ret
  exact ⟨-1,rfl,by omega,by omega,Below.refl _ _⟩
 ·have HR:=Shut.mk hr
  have HF:=Shut.mk hf
  have HML:Shut ((hms rs).length=n):=⟨by rw [hms_len,HN.out]⟩
  clear hr hf
  go_enter Tw.func4,Tw.ntmps4
  go_wp2_with fail
  go_loopw [1,5] (fun v i wr=>∃ (k:Nat) (l:Int),v = .int .i64 l/\i = .int .i64 k/\k<=n/\0<=l/\Shut (l+n+hsSum ((hms rs).take k)=left)/\Shut (Below w.heap.size w wr)) (fun _ i _=>n - (intOf i).toNat)
  case atStart=>exact ⟨0,left - n,rfl,rfl,Nat.zero_le _,by omega,⟨by simp [hsSum]⟩,⟨Below.refl _ _⟩⟩
  case round =>
   obtain ⟨k,l,rfl,rfl,hk,hl0,HS,HB⟩:=hrel
   by_cases hlt:k<n
   ·have hkr:k<rs.length:=by rw [<-HN.out];exact hlt
    obtain ⟨b,off,r,rfl,hre,lb,hc⟩:=hs_at HR.out HB.out hkr
    obtain ⟨d0,d1,d2,d3⟩:=hc wr (Below.refl _ _)
    have hme:(hms rs)[k]'(by rw [hms_len];exact hkr)=r.h:=by rw [hre];simp [hms]
    have HST:Shut (hsSum ((hms rs).take (k+1))=hsSum ((hms rs).take k)+(r.h.us.length+unSum r.h.us)):=⟨by have:=hsSum_take (hms rs) k (by rw [hms_len];exact hkr);rw [hme] at this;exact this⟩
    have hl1:l<=1048576:=by have:=HS.out;omega
    have HSZ:=Shut.mk (fun W (hW:Below wr.heap.size wr W)=>szHost_any r.h r.loc r.cap l W (d3.stays hW) (HF.out.2 r.h (by rw [<-hme];exact List.getElem_mem _)).1 hl0 hl1)
    obtain ⟨H,rl,rc⟩:=r
    obtain ⟨hid,hup,hus⟩:=H
    dsimp only [hov] at *
    obtain ⟨m,hm⟩:∃ m,m=hus.length:=⟨_,rfl⟩
    rw [<-hm] at d2 HSZ HST
    have k0:(0:Int)<=(k:Int):=by omega
    have k1:(k:Int)<(n:Int):=by omega
    clear hc hre hme d3 hm
    go_wp2_with fail
    refine (HSZ.out _ (Below.refl _ _)).mono ?_
    rintro e w2 ⟨r,rfl,hr1,hr2,hb2⟩
    have HB2:=Shut.mk (HB.out.trans (hb2.mono HB.out.size))
    clear hb2
    by_cases hr:r<0
    ·go_wp2_with fail
     go_ret
     exact ⟨-1,rfl,by omega,by omega,HB2.out⟩
    ·have HS2:Shut (r+n+hsSum ((hms rs).take (k+1))=left):=⟨by have h1:=hr2 (by omega);have h2:=HS.out;rw [HST.out];push_cast at h1 ⊢;omega⟩
     clear hr2
     go_wp2_with fail
     go_roundw
     case rel=>exact ⟨k+1,r,rfl,by go_num,by omega,by omega,HS2,HB2⟩
     case measure=>simp [intOf];omega
   ·obtain rfl:n=k:=by omega
    have HE:Shut (l+(n+hsSum (hms rs):Nat)=left):=⟨by have h:=HS.out;rw [List.take_of_length_le (by rw [HML.out];exact Nat.le_refl _)] at h;push_cast;omega⟩
    go_wp2_with fail
    go_ret
    exact ⟨l,rfl,by omega,fun _=>HE.out,HB.out⟩
theorem infoHost:(Tw.prog.info? 45).map (fun i=>(i.zero,i.size,i.bytes))=some (some (.agg #[.int .i64 0,.bool false,.slice none 0 0]),3,40):=by kernel_rfl
set_option maxRecDepth 100000 in
set_option maxHeartbeats 4000000 in
theorem toHostS_any (a:Option Addr) (rs:List HoR) (cap:Nat) (w:World) (hm:HsRow w a rs) (hl:rs.length<=1048576) (hp:∀ r ∈ rs,r.h.us.length<=1048576) :
  Calls Tw.prog 6 #[.slice a rs.length cap] w fun e w'=>HsPost (hms rs) w e w':=by
 obtain ⟨i0,hi,hz0,hz1,hz2⟩:=info_parts infoHost
 have HR:=Shut.mk (And.intro hm hp)
 obtain ⟨n,hn⟩:∃ n,n=rs.length:=⟨_,rfl⟩
 have HN:=Shut.mk hn
 rw [<-hn] at hl ⊢
 clear hm hp hn
 go_enter Tw.func6,Tw.ntmps6
 go_wp2_with (at_make;refine wpList_make_full _ rfl _ _ 24 rfl w.heap.size 45 i0 _ 3 Tw.underlying24 hi hz0 hz1 .i64 .i64 _ _ n rfl rfl (by omega) (by omega) ?b2 ?b3 ?b4 ?_)
 case b2=>rw [hz2];omega
 case b3=>unfold maxLen;omega
 case b4=>omega
 intro wm hownm hgrm
 have hbm:Below w.heap.size w wm:=(Below.refl _ _).grown hgrm (Nat.le_refl _) (fun j hj=>by simp at hj)
 have hrow:WCells wm w.heap.size (hS (List.replicate n default)):=by
  have h:=own_wcells hownm
  have e:(madeCells #[.int .i64 0,.bool false,.slice none 0 0] (n*3)).toList=hS (List.replicate n default):=made_flat hC_len (by decide) #[.int .i64 0,.bool false,.slice none 0 0] default rfl _
  rw [e] at h;exact h
 have HTW:Shut (GW HK wm w.heap.size (List.replicate n default) w.heap.size wm.heap.size/\∀ r ∈ List.replicate n (default:HoR),r.h.us.length<=r.cap):=⟨⟨⟨hrow,Nat.le_refl _,hrow.1,fun r hr=>.inl (by rw [List.eq_of_mem_replicate hr];rfl),List.pairwise_iff_getElem.2 (fun i j hi hj _ h1=>absurd (by simp only [List.getElem_replicate];rfl) h1)⟩,fun r hr=>by rw [List.eq_of_mem_replicate hr];exact Nat.le_refl _⟩⟩
 have HBM:=Shut.mk hbm
 clear hownm hgrm hrow hbm
 go_wp2_with fail
 go_loopw [4] (fun i wr=>∃ (k:Nat) (gs:List HoR),i = .int .i64 k/\k<=n/\Shut (gs.length=n/\hms (gs.take k)=hms (rs.take k))/\Shut (GW HK wr w.heap.size gs w.heap.size wr.heap.size/\∀ r ∈ gs,r.h.us.length<=r.cap)/\Shut (Below w.heap.size w wr)) (fun i _=>n - (intOf i).toNat)
 case atStart=>exact ⟨0,_,rfl,by omega,⟨by simp,by simp⟩,HTW,HBM⟩
 case round =>
  clear HTW HBM
  obtain ⟨k,gs,rfl,hk,HG,hw,hb⟩:=hrel
  by_cases hlt:k<n
  ·have hlr:k<rs.length:=by have:=HN.out;omega
   obtain ⟨b,off,r,rfl,hre,lb,hc⟩:=hs_at HR.out.1 hb.out hlr
   obtain ⟨d0,d1,d2,d3⟩:=hc wr (Below.refl _ _)
   have HRE:Shut (r=rs[k]):=⟨hre⟩
   have HTO:=Shut.mk (fun W (hW:Below wr.heap.size wr W)=>toHost_any r.h r.loc r.cap W (d3.stays hW) (by rw [hre];exact HR.out.2 _ (List.getElem_mem hlr)))
   unfold HoPost at HTO
   obtain ⟨H,rl,rc⟩:=r
   dsimp only [hov] at *
   obtain ⟨m,hm⟩:∃ m,m=H.us.length:=⟨_,rfl⟩
   rw [<-hm] at d2 HTO
   have HM:=Shut.mk hm
   have k0:(0:Int)<=(k:Int):=by omega
   have k1:(k:Int)<(n:Int):=by omega
   clear hc hre d3 hm
   go_wp2_with fail
   refine (HTO.out _ (Below.refl _ _)).mono ?_
   rintro e w2 ⟨a',c',rfl,hF,hc',hb2⟩
   have hgk:k<gs.length:=by have:=HG.out.1;omega
   have HC:=Shut.mk ((hw.out.1.host hb2 k hgk H a' c' hF hb.out.size).wide (Nat.le_refl _) (Nat.le_of_eq (setW_sz w2 w.heap.size (k*3) (hC ⟨H,a',c'⟩)).symm))
   have HWO:=Shut.mk (hw.out.1.out.below hb2 hw.out.1.out.1)
   have HB3:=Shut.mk (below_setW (hb.out.trans (hb2.mono hb.out.size)) (Nat.le_refl _) (k*3) (hC ⟨H,a',c'⟩))
   have HCP:Shut (∀ r ∈ gs.set k ⟨H,a',c'⟩,r.h.us.length<=r.cap):=⟨fun r hr=>by
    rcases List.mem_or_eq_of_mem_set hr with q | rfl
    ·exact hw.out.2 r q
    ·show H.us.length<=c';have:=HM.out;omega⟩
   unfold hC at HC HB3
   dsimp only at HC HB3
   rw [setW3,<-HM.out] at HC HB3
   clear hw hb hb2 hF d0 d1 d2
   obtain ⟨c0,z0⟩:=HWO.out.2 (k*3) _ (flat_get hC_len gs k hgk 0 (by omega))
   obtain ⟨c1,z1⟩:=HWO.out.2 (k*3+1) _ (flat_get hC_len gs k hgk 1 (by omega))
   obtain ⟨c2,z2⟩:=HWO.out.2 (k*3+2) _ (flat_get hC_len gs k hgk 2 (by omega))
   clear HWO
   go_wp2_with fail
   go_roundw
   case rel =>
    refine ⟨k+1,gs.set k ⟨H,a',c'⟩,by go_num,by omega,⟨by rw [List.length_set];exact HG.out.1,?_⟩,⟨HC.out,HCP.out⟩,HB3⟩
    rw [List.take_succ_eq_append_getElem (by rw [List.length_set];exact hgk),List.take_succ_eq_append_getElem hlr,List.take_set_of_le (Nat.le_refl _)]
    have e1:=HG.out.2
    unfold hms at e1 ⊢
    rw [List.map_append,List.map_append,e1,List.getElem_set_self,<-HRE.out]
    rfl
   case measure=>simp [intOf];omega
  ·have e:hms gs=hms rs:=by
    have h:=HG.out.2
    rw [List.take_of_length_le (by have:=HG.out.1;omega),List.take_of_length_le (by have:=HN.out;omega)] at h;exact h
   have HE:=Shut.mk e
   have HGL:=Shut.mk HG.out.1
   clear e HG
   go_wp2_with fail
   go_ret
   exact ⟨_,n,gs,by rw [HGL.out];rfl,HE.out,⟨hw.out.2,.inr ⟨_,rfl,hw.out.1⟩⟩,Nat.le_of_eq HGL.out,hb.out⟩
set_option maxRecDepth 100000 in
set_option maxHeartbeats 2000000 in
theorem eqHostS_same (a b:Option Addr) (ra rb:List HoR) (ca cb:Nat) (w:World) (ha:HsRow w a ra) (hb:HsRow w b rb) (he:hms ra=hms rb) (hl:ra.length<=9000000) (hp:∀ r ∈ ra,r.h.us.length<=9000000) :
  Calls Tw.prog 8 #[.slice a ra.length ca,.slice b rb.length cb] w fun e w'=>e = .returned (.bool true)/\Below w.heap.size w w':=by
 have hlen:rb.length=ra.length:=by rw [<-hms_len ra,<-hms_len rb,he]
 obtain ⟨n,hn⟩:∃ n,n=ra.length:=⟨_,rfl⟩
 have HN:=Shut.mk (And.intro hn (hlen.trans hn.symm))
 rw [hlen,<-hn]
 rw [<-hn] at hl
 have HA:=Shut.mk ha
 have HB:=Shut.mk hb
 have HE:=Shut.mk (And.intro he hp)
 clear ha hb he hp hlen hn
 go_enter Tw.func8,Tw.ntmps8
 go_wp2_with fail
 go_loopw [5] (fun i wr=>∃ (k:Nat),i = .int .i64 k/\k<=n/\Shut (Below w.heap.size w wr)) (fun i _=>n - (intOf i).toNat)
 case atStart=>exact ⟨0,rfl,Nat.zero_le _,⟨Below.refl _ _⟩⟩
 case round =>
  obtain ⟨k,rfl,hk,HW⟩:=hrel
  by_cases hlt:k<n
  ·have hka:k<ra.length:=by have:=HN.out.1;omega
   have hkb:k<rb.length:=by have:=HN.out.2;omega
   obtain ⟨b1,o1,r1,rfl,hr1,l1,hc1⟩:=hs_at HA.out HW.out hka
   obtain ⟨b2,o2,r2,rfl,hr2,l2,hc2⟩:=hs_at HB.out HW.out hkb
   have hsame:r1.h=r2.h:=by
    have q:(hms ra)[k]'(by rw [hms_len];exact hka)=(hms rb)[k]'(by rw [hms_len];exact hkb):=by simp only [HE.out.1]
    simp only [hms,List.getElem_map] at q
    rw [hr1,hr2]
    exact q
   have hpl:r1.h.us.length<=9000000:=by rw [hr1];exact HE.out.2 _ (List.getElem_mem hka)
   have HC1:=Shut.mk hc1
   have HC2:=Shut.mk hc2
   clear hr1 hr2 hc1 hc2
   obtain ⟨H,rl1,rc1⟩:=r1
   obtain ⟨H2,rl2,rc2⟩:=r2
   dsimp only at hsame hpl HC1 HC2
   subst hsame
   have HEQ:=Shut.mk (fun (x:World) (hx:Below wr.heap.size wr x)=>eqHost_same H rl1 rl2 rc1 rc2 x (HC1.out x hx).2.2.2 (HC2.out x hx).2.2.2 hpl)
   obtain ⟨hid,hup,hus⟩:=H
   dsimp only [hov] at *
   obtain ⟨m,hm⟩:∃ m,m=hus.length:=⟨_,rfl⟩
   rw [<-hm] at HEQ HC1 HC2
   have k0:(0:Int)<=(k:Int):=by omega
   have k1:(k:Int)<(n:Int):=by omega
   clear hm hpl
   have p0:∀ X:Grow wr,X.val.cell? ⟨b1,o1+k*3,none⟩=some (.int .i64 hid):=fun X=>(HC1.out X.val X.bel).1
   have p1:∀ X:Grow wr,X.val.cell? ⟨b1,o1+k*3+1,none⟩=some (.bool hup):=fun X=>(HC1.out X.val X.bel).2.1
   have p2:∀ X:Grow wr,X.val.cell? ⟨b1,o1+k*3+2,none⟩=some (.slice rl1 m rc1):=fun X=>(HC1.out X.val X.bel).2.2.1
   have q0:∀ X:Grow wr,X.val.cell? ⟨b2,o2+k*3,none⟩=some (.int .i64 hid):=fun X=>(HC2.out X.val X.bel).1
   have q1:∀ X:Grow wr,X.val.cell? ⟨b2,o2+k*3+1,none⟩=some (.bool hup):=fun X=>(HC2.out X.val X.bel).2.1
   have q2:∀ X:Grow wr,X.val.cell? ⟨b2,o2+k*3+2,none⟩=some (.slice rl2 m rc2):=fun X=>(HC2.out X.val X.bel).2.2.1
   have HKQ:=Shut.mk (fun X=>calls_grow (w:=wr) (fun W' (hb:Below wr.heap.size wr W')=>HEQ.out W' hb) X)
   have HGR:Shut (∀ X:Grow wr,Below w.heap.size w X.val):=⟨fun X=>HW.out.trans (X.bel.mono HW.out.size)⟩
   go_wp2_with fail
   refine wp_region_grow (by kernel_rfl) (by kernel_rfl) ?_
   repeat (go_big_quiet_step (first | (go_at_call 25;with_reducible exact HKQ.out _)))
   refine wpQuiet_nil ?_
   rintro _ ⟨X,rfl⟩
   clear p0 p1 p2 q0 q1 q2
   go_wp2_with fail
   go_roundw
   case rel=>exact ⟨k+1,by go_num,by omega,⟨HGR.out X⟩⟩
   case measure=>simp [intOf];omega
  ·obtain rfl:n=k:=by omega
   go_wp2_with fail
   go_ret
   exact ⟨rfl,HW.out⟩
end Go.Proofs.YteaieagkjepgiaaGreatDoorT
/- . -/
namespace Go.Proofs.YteaieagkjepgiaaGreatDoorT
set_option maxRecDepth 100000
open Go.RowKit
def lt3 (p:Nat->Nat × Int) (a b:Nat):Prop:=(p a).1<(p b).1\/((p a).1=(p b).1/\((p a).2<(p b).2\/((p a).2=(p b).2/\a<b)))
def gt2 (p:Nat->Nat × Int) (a b:Nat):Bool:=decide ((p b).1<(p a).1)||((p a).1==(p b).1&&decide ((p b).2<(p a).2))
theorem gt2_iff (p:Nat->Nat × Int) (a b:Nat):gt2 p a b=true↔(p b).1<(p a).1\/((p a).1=(p b).1/\(p b).2<(p a).2):=by
 unfold gt2
 simp
def Sd (p:Nat->Nat × Int) (L:List Nat) (i:Nat):Prop:=∀ a b,a<b->b<i->lt3 p (L.getD a 0) (L.getD b 0)
structure Mv (p:Nat->Nat × Int) (L:List Nat) (i k:Nat):Prop where
 rest:∀ a b,a<b->b<=i->a ≠ k->b ≠ k->lt3 p (L.getD a 0) (L.getD b 0)
 behind:∀ b,k<b->b<=i->lt3 p (L.getD k 0) (L.getD b 0)
 last:∀ a,a<=i->a ≠ k->L.getD a 0<L.getD k 0
def swapL (L:List Nat) (k:Nat):List Nat:=(L.set k (L.getD (k - 1) 0)).set (k - 1) (L.getD k 0)
theorem swapL_at (L:List Nat) (k:Nat) (hk:0<k) (hl:k<L.length) (t:Nat):(swapL L k).getD t 0=if t=k - 1 then L.getD k 0 else if t=k then L.getD (k - 1) 0 else L.getD t 0:=by
 unfold swapL
 simp only [List.getD,List.getElem?_set,List.length_set]
 by_cases h1:k - 1=t
 ·subst h1
  simp [show k - 1<L.length by omega]
 ·by_cases h2:k=t
  ·subst h2
   simp [hl,h1,show ¬ k=k - 1 by omega]
  ·simp [h1,h2,Ne.symm h1,Ne.symm h2]
theorem swapL_perm (L:List Nat) (k:Nat) (hk:0<k) (hl:k<L.length):(swapL L k).Perm L:=by
 have e1:L.getD (k - 1) 0=L[k - 1]:=by simp [List.getD,show k - 1<L.length by omega]
 have e2:L.getD k 0=L[k]:=by simp [List.getD,hl]
 have hL:L=L.take (k - 1)++L[k - 1]::L[k]::L.drop (k+1):=by
  have q1:L.drop (k - 1)=L[k - 1]::L.drop k:=by rw [List.drop_eq_getElem_cons (by omega)];congr 1;congr 1;omega
  have q2:L.drop k=L[k]::L.drop (k+1):=List.drop_eq_getElem_cons hl
  conv=>lhs;rw [<-List.take_append_drop (k - 1) L,q1,q2]
 have hS:swapL L k=L.take (k - 1)++L[k]::L[k - 1]::L.drop (k+1):=by
  apply List.ext_getElem?
  intro t
  have lt:(L.take (k - 1)).length=k - 1:=by rw [List.length_take];omega
  unfold swapL
  rw [e1,e2]
  simp only [List.getElem?_set,List.length_set]
  by_cases h5:t<k - 1
  ·rw [if_neg (by omega),if_neg (by omega),List.getElem?_append_left (by omega),List.getElem?_take,if_pos h5]
  ·rw [List.getElem?_append_right (by omega),lt]
   by_cases h3:t=k - 1
   ·subst h3
    rw [if_pos rfl,if_pos (by omega),Nat.sub_self]
    rfl
   ·rw [if_neg (by omega)]
    by_cases h4:t=k
    ·subst h4
     rw [if_pos rfl,if_pos hl,show t - (t - 1)=1 by omega]
     rfl
    ·rw [if_neg (by omega)]
     obtain ⟨z,hz⟩:∃ z,t - (k - 1)=z+2:=⟨t - (k - 1) - 2,by omega⟩
     rw [hz]
     simp only [List.getElem?_cons_succ,List.getElem?_drop]
     congr 1
     omega
 rw [hS]
 conv=>rhs;rw [hL]
 exact List.Perm.append_left _ (List.Perm.swap _ _ _)
theorem Mv.swap {p:Nat->Nat × Int} {L:List Nat} {i k:Nat} (h:Mv p L i k) (hk:0<k) (hki:k<=i) (hl:i<L.length) (hg:gt2 p (L.getD (k - 1) 0) (L.getD k 0)=true):Mv p (swapL L k) i (k - 1):=by
 have e:=swapL_at L k hk (by omega)
 rw [gt2_iff] at hg
 refine ⟨fun a b hab hb ha9 hb9=>?_,fun b hb hbi=>?_,fun a ha ha9=>?_⟩
 ·rw [e a,e b,if_neg ha9,if_neg hb9]
  by_cases h1:a=k
  ·subst h1
   rw [if_pos rfl,if_neg (by omega)]
   exact h.rest (a - 1) b (by omega) hb (by omega) (by omega)
  ·rw [if_neg h1]
   by_cases h2:b=k
   ·subst h2
    rw [if_pos rfl]
    exact h.rest a (b - 1) (by omega) (by omega) (by omega) (by omega)
   ·rw [if_neg h2]
    exact h.rest a b hab hb h1 h2
 ·rw [e (k - 1),e b,if_pos rfl,if_neg (by omega)]
  by_cases h2:b=k
  ·subst h2
   rw [if_pos rfl]
   unfold lt3
   omega
  ·rw [if_neg h2]
   exact h.behind b (by omega) hbi
 ·rw [e (k - 1),e a,if_pos rfl,if_neg ha9]
  by_cases h2:a=k
  ·subst h2
   rw [if_pos rfl]
   exact h.last (a - 1) (by omega) (by omega)
  ·rw [if_neg h2]
   exact h.last a ha h2
theorem lt3_trans {p:Nat->Nat × Int} {a b c:Nat} (h:lt3 p a b) (k:lt3 p b c):lt3 p a c:=by
 unfold lt3 at *
 omega
theorem Mv.stop {p:Nat->Nat × Int} {L:List Nat} {i k:Nat} (h:Mv p L i k) (hk:0<k) (hki:k<=i) (hg:gt2 p (L.getD (k - 1) 0) (L.getD k 0)=false):Sd p L (i+1):=by
 have hg2:¬ ((p (L.getD k 0)).1<(p (L.getD (k - 1) 0)).1\/((p (L.getD (k - 1) 0)).1=(p (L.getD k 0)).1/\(p (L.getD k 0)).2<(p (L.getD (k - 1) 0)).2)):=by rw [<-gt2_iff,hg];simp
 have h1:lt3 p (L.getD (k - 1) 0) (L.getD k 0):=by
  have:=h.last (k - 1) (by omega) (by omega)
  unfold lt3
  omega
 intro a b hab hb
 by_cases ha:a=k
 ·subst ha
  exact h.behind b hab (by omega)
 ·by_cases hb9:b=k
  ·subst hb9
   by_cases ha2:a=b - 1
   ·subst ha2;exact h1
   ·exact lt3_trans (h.rest a (b - 1) (by omega) (by omega) ha (by omega)) h1
  ·exact h.rest a b hab (by omega) ha hb9
theorem Mv.done {p:Nat->Nat × Int} {L:List Nat} {i:Nat} (h:Mv p L i 0):Sd p L (i+1):=fun a b hab hb=>by
 by_cases ha:a=0
 ·subst ha;exact h.behind b hab (by omega)
 ·exact h.rest a b hab (by omega) ha (by omega)
theorem Sd.quiet {p:Nat->Nat × Int} {L:List Nat} {i k:Nat} (h:Sd p L (i+1)) (hk:0<k) (hki:k<=i):gt2 p (L.getD (k - 1) 0) (L.getD k 0)=false:=by
 have q:=h (k - 1) k (by omega) (by omega)
 cases hg:gt2 p (L.getD (k - 1) 0) (L.getD k 0) with
 | false=>rfl
 | true =>
  rw [gt2_iff] at hg
  unfold lt3 at q
  omega
def pk (hs:List HM) (i:Nat):Nat × Int:=keyP (hs.getD i default)
def upTo (hs:List HM) (k:Nat):List Nat:=(List.range k).filter fun i=>(hs.getD i default).up
theorem upTo_step (hs:List HM) (k:Nat):upTo hs (k+1)=upTo hs k++if (hs.getD k default).up=true then [k] else []:=by
 unfold upTo
 rw [List.range_succ,List.filter_append]
 congr 1
 rw [List.filter_cons,List.filter_nil]
theorem upTo_lt (hs:List HM) (k:Nat):∀ x ∈ upTo hs k,x<k:=fun x hx=>by simpa using (List.mem_filter.1 hx).1
theorem upTo_up (hs:List HM) (k:Nat):(upTo hs k).Pairwise (· < ·):=List.Pairwise.filter _ List.pairwise_lt_range
theorem upTo_len (hs:List HM) (k:Nat):(upTo hs k).length<=k:=by
 have:=List.length_filter_le (fun i=>(hs.getD i default).up) (List.range k)
 simpa [upTo] using this
theorem mv_start {p:Nat->Nat × Int} {L U:List Nat} {i:Nat} (h:Sd p L i) (hp:L.Perm U) (hU:U.Pairwise (· < ·)) (hr:∀ t,i<=t->L[t]?=U[t]?) (hi:i<L.length):Mv p L i i:=by
 refine ⟨fun a b hab hb ha9 hb9=>h a b hab (by omega),fun b hb hbi=>by omega,fun a ha ha9=>?_⟩
 have hd:L.drop i=U.drop i:=by
  apply List.ext_getElem?
  intro t
  rw [List.getElem?_drop,List.getElem?_drop]
  exact hr _ (by omega)
 have ht:(L.take i).Perm (U.take i):=by
  have q:(L.take i++L.drop i).Perm (U.take i++U.drop i):=by rw [List.take_append_drop,List.take_append_drop];exact hp
  rw [hd] at q
  exact (List.perm_append_right_iff _).1 q
 have hUi:i<U.length:=by rw [<-hp.length_eq];exact hi
 have hLi:L.getD i 0=U[i]:=by
  have:=hr i (Nat.le_refl _)
  rw [List.getD,this,List.getElem?_eq_getElem hUi]
  rfl
 have ha':a<i:=by omega
 have hLa:L.getD a 0 ∈ L.take i:=by
  have e:L.getD a 0=(L.take i)[a]'(by rw [List.length_take];omega):=by rw [List.getElem_take];simp [List.getD,show a<L.length by omega]
  rw [e]
  exact List.getElem_mem _
 have hm:=ht.mem_iff.1 hLa
 obtain ⟨c,hc,e⟩:=List.getElem_of_mem hm
 rw [List.length_take] at hc
 rw [List.getElem_take] at e
 rw [hLi,<-e]
 exact List.pairwise_iff_getElem.1 hU c i (by omega) hUi (by omega)
def OrdI (hs:List HM) (L:List Nat):Prop:=Sd (pk hs) L L.length/\L.Perm (upTo hs hs.length)
theorem upTo_pairs (hs:List HM):(upTo hs hs.length).map (pk hs)=upPairs hs:=by
 have e:(List.range hs.length).map (fun i=>hs.getD i default)=hs:=by
  apply List.ext_getElem
  ·simp
  ·intro i h1 h2
   simp [List.getD,h2]
 unfold upPairs
 conv=>rhs;rw [<-e]
 rw [List.filter_map,List.map_map]
 rfl
end Go.Proofs.YteaieagkjepgiaaGreatDoorT
