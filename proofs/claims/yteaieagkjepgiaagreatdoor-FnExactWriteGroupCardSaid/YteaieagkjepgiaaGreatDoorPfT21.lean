/- Texts of ours, laid one behind the other: THsL, THsH, TLawWg, TWgB. -/
import Derived.Test.YteaieagkjepgiaaGreatDoorPfT20
set_option linter.unusedVariables false
set_option linter.unusedSimpArgs false
/- . -/
namespace Go.Proofs.YteaieagkjepgiaaGreatDoorT
set_option maxRecDepth 100000
open Go.RowKit BigFrame
attribute [local go_sem ↓] Go.wp_at_zero Go.wp_at_succ
theorem hide_hs {w W:World} {S:List Str} {a:Option Addr} {X:List HoR} {lo hi:Nat} (h:Shut (SL w W (hsS a X lo hi::S))):∃ l h,Shut (SL w W (hsS a X l h::S)):=⟨lo,hi,h⟩
theorem endH_fits {hs:List HM} (h1:hs.length<=1048576) (h2:hsSum hs<=1048576):endH 1 hs<=1000000000:=by
 have q:∀ l:List HM,(l.map fun h=>h.us.length).sum<=hsSum l:=by
  intro l
  induction l with
  | nil=>simp [hsSum]
  | cons x xs ih=>simp only [List.map_cons,List.sum_cons,hsSum];omega
 rw [endH_eq]
 have:=q hs
 omega
theorem toHostS_num (a:Option Addr) (rs:List HoR) (cap n:Nat) (hn:n=rs.length) (w:World) (hm:HsRow w a rs) (hl:n<=1048576) (hp:hsSum (hms rs)<=1048576) :
  Calls Tw.prog 6 #[.slice a n cap] w fun e w'=>∃ va ca rs',e = .returned (.slice va n ca)/\n=rs'.length/\hms rs'=hms rs/\HsW w' va rs' w.heap.size w'.heap.size/\Below w.heap.size w w':=by
 subst hn
 refine (toHostS_any a rs cap w hm hl (fun r hr=>?_)).mono ?_
 ·have:=hsSum_mem (hs:=hms rs) (h:=r.h) (List.mem_map_of_mem hr)
  omega
 ·rintro e w' ⟨va,ca,rs',rfl,e1,hW,_,hb⟩
  have el:rs'.length=rs.length:=by rw [<-hms_len,e1,hms_len]
  exact ⟨va,ca,rs',by rw [el],el.symm,e1,hW,hb⟩
set_option maxRecDepth 100000 in
theorem markHostS_nil (ca:Nat) (a:Option Addr) (w:World):Calls Tw.prog 9 #[.slice a 0 ca,.int .i64 1] w fun e w'=>e = .returned (.int .i64 1)/\Below w.heap.size w w':=by
 go_enter Tw.func9,Tw.ntmps9
 go_wp2_with fail
 go_loopw [1,5] (fun v i wr=>v = .int .i64 1/\i = .int .i64 0/\Shut (Below w.heap.size w wr)) (fun _ _ _=>0)
 case atStart=>exact ⟨rfl,rfl,⟨Below.refl _ _⟩⟩
 case round =>
  obtain ⟨rfl,rfl,HW⟩:=hrel
  go_wp2_with fail
  go_ret
  exact ⟨rfl,HW.out⟩
end Go.Proofs.YteaieagkjepgiaaGreatDoorT
/- . -/
namespace Go.Proofs.YteaieagkjepgiaaGreatDoorT
set_option maxRecDepth 100000
open Go.RowKit BigFrame
attribute [local go_sem ↓] Go.wp_at_zero Go.wp_at_succ
set_option maxRecDepth 100000 in
set_option maxHeartbeats 2000000 in
theorem heldHostS_any (a:Option Addr) (rs:List HoR) (k9 ca:Nat) (hs:List HM) (w:World) (ha:HsRow w a rs) (he:hms rs=marksH k9 hs) (hk:0<k9) (hn:endH k9 hs<=1000000000) :
  Calls Tw.prog 10 #[.slice a rs.length ca,.int .i64 k9] w fun e w'=>e = .returned (.int .i64 (endH k9 hs:Nat))/\Below w.heap.size w w':=by
 have hlen:rs.length=hs.length:=by rw [<-hms_len rs,he,marksH_len]
 obtain ⟨n,hnn⟩:∃ n,n=rs.length:=⟨_,rfl⟩
 have HN:=Shut.mk (And.intro hnn (hnn.trans hlen))
 rw [<-hnn]
 have HA:=Shut.mk ha
 have HE:=Shut.mk he
 have HEN:Shut (∀ j,j<=n->endH k9 (hs.take j)<=endH k9 hs):=⟨fun j _=>by
  rw [endH_eq,endH_eq]
  have e1:hs.length=(hs.take j).length+(hs.drop j).length:=by rw [<-List.length_append,List.take_append_drop]
  have e2:(hs.map fun h=>h.us.length).sum=((hs.take j).map fun h=>h.us.length).sum+((hs.drop j).map fun h=>h.us.length).sum:=by rw [<-List.sum_append,<-List.map_append,List.take_append_drop]
  omega⟩
 have HLO:Shut (∀ j,k9<=endH k9 (hs.take j)):=⟨fun j=>by rw [endH_eq];omega⟩
 have hl:n<=1000000000:=by have:=endH_eq k9 hs;have:=HN.out.2;omega
 clear ha he hnn hlen
 go_enter Tw.func10,Tw.ntmps10
 go_wp2_with fail
 go_loopw [1,5] (fun v i wr=>∃ (k c:Nat),v = .int .i64 c/\i = .int .i64 k/\k<=n/\Shut (c=endH k9 (hs.take k))/\Shut (Below w.heap.size w wr)) (fun _ i _=>n - (intOf i).toNat)
 case atStart=>exact ⟨0,k9,rfl,rfl,Nat.zero_le _,⟨by simp [endH]⟩,⟨Below.refl _ _⟩⟩
 case round =>
  obtain ⟨k,c,rfl,rfl,hk,HC,HW⟩:=hrel
  by_cases hlt:k<n
  ·have hka:k<rs.length:=by have:=HN.out.1;omega
   have hks:k<hs.length:=by have:=HN.out.2;omega
   obtain ⟨b,off,r,rfl,hre,lb,hc⟩:=hs_at HA.out HW.out hka
   have hrh:r.h=⟨(c:Nat),(c+1) % 3==0,marksU (c+2) hs[k].us.length⟩:=by
    have q:(hms rs)[k]'(by rw [hms_len];exact hka)=(marksH k9 hs)[k]'(by rw [marksH_len];exact hks):=by simp only [HE.out]
    rw [marksH_at k9 hs k hks,<-HC.out] at q
    rw [<-q,hre]
    simp [hms]
   have hcb:c+2+4*hs[k].us.length<=1000000000:=by
    have q1:=HEN.out (k+1) (by omega)
    rw [endH_take k9 hs k hks,<-HC.out] at q1
    omega
   have HNX:Shut (c+2+4*hs[k].us.length=endH k9 (hs.take (k+1))):=⟨by rw [endH_take k9 hs k hks,<-HC.out]⟩
   have hc0:0<c:=by have:=HLO.out k;have:=HC.out;omega
   obtain ⟨m,hm⟩:∃ m,m=hs[k].us.length:=⟨_,rfl⟩
   rw [<-hm] at hrh hcb HNX
   have HRW:=Shut.mk (fun (x:World) (hx:Below wr.heap.size wr x)=>(hc x hx).2.2.2)
   obtain ⟨d0,d1,d2,-⟩:=hc wr (Below.refl _ _)
   obtain ⟨⟨rid,rup,rus⟩,loc,cp⟩:=r
   dsimp only at hrh d0 d1 d2 HRW
   obtain ⟨e0,e1,e2⟩:rid=(c:Int)/\rup=((c+1) % 3==0)/\rus=marksU (c+2) m:=by
    simp only [HM.mk.injEq] at hrh
    exact hrh
   have hlm:rus.length=m:=by rw [e2,marksU_len]
   obtain ⟨up,hup⟩:∃ q,q=((c+1) % 3==0):=⟨_,rfl⟩
   have hq2:(((c:Int)+1) % 3==0)=up:=by
    rw [hup,<-mod3,Int.tmod_eq_emod_of_nonneg (by omega)]
    push_cast
    rfl
   rw [hlm] at d2
   rw [e0] at d0
   rw [e1,<-hup] at d1
   rw [e2] at HRW
   have HUS:Shut (Calls Tw.prog 27 #[.slice loc m cp,.int .i64 ((c:Int)+2)] wr fun e w'=>e = .returned (.int .i64 (c+2+4*m:Nat))/\Below wr.heap.size wr w'):=⟨by
    have q:=heldUnitS_any loc (c+2) m cp wr (HRW.out wr (Below.refl _ _)) (by omega) hcb
    rwa [show ((c+2:Nat):Int)=(c:Int)+2 by omega] at q⟩
   have hw1:IntKind.i64.wrap ((c:Int)+1)=(c:Int)+1:=IntWalk.i64_in _ ⟨by omega,by omega⟩
   have hw2:IntKind.i64.wrap ((c:Int)+1+1)=((c+2:Nat):Int):=by rw [IntWalk.i64_in _ ⟨by omega,by omega⟩];omega
   have huu:(up != up)=false:=by simp
   have k0:(0:Int)<=(k:Int):=by omega
   have k1:(k:Int)<(n:Int):=by omega
   have hneg:¬ ((c+2+4*m:Nat):Int)<0:=by omega
   clear hre hrh hc e0 e1 e2 hlm hup hm HRW
   go_wp2_with fail
   refine HUS.out.mono ?_
   rintro e w2 ⟨rfl,hb⟩
   have HW2:=Shut.mk (HW.out.trans (hb.mono HW.out.size))
   clear hb d0 d1 d2
   go_wp2_with fail
   go_roundw
   case rel=>exact ⟨k+1,c+2+4*m,rfl,by go_num,by omega,HNX,HW2⟩
   case measure=>simp [intOf];omega
  ·obtain rfl:n=k:=by omega
   have HF:Shut (endH k9 hs=c):=⟨by rw [HC.out,List.take_of_length_le (by have:=HN.out.2;omega)]⟩
   go_wp2_with fail
   go_ret
   exact ⟨by rw [HF.out];rfl,HW.out⟩
end Go.Proofs.YteaieagkjepgiaaGreatDoorT
/- . -/
namespace Go.Proofs.YteaieagkjepgiaaGreatDoorT
set_option maxRecDepth 100000
open Go.RowKit BigFrame
attribute [local go_sem ↓] Go.wp_at_zero Go.wp_at_succ
theorem markHostS_own2 (a:Option Addr) (rs:List HoR) (ca lo hi:Nat) (w:World) (h:HsW w a rs lo hi) (hn:endH 1 (hms rs)<=1000000000) :
  Calls Tw.prog 9 #[.slice a rs.length ca,.int .i64 1] w fun e w'=>e = .returned (.int .i64 (endH 1 (hms rs):Nat))/\∃ ys:List HoR,ys.length=rs.length/\hms ys=marksH 1 (hms rs)/\HsW w' a ys lo hi/\Turned w w' lo hi:=by
 rcases h with ⟨hc,⟨rfl,rfl⟩ | ⟨g,rfl,hg⟩⟩
 ·refine (markHostS_nil ca none w).mono ?_
  rintro e w' ⟨rfl,hb⟩
  exact ⟨rfl,[],rfl,rfl,⟨fun _ h=>(by cases h),.inl ⟨rfl,rfl⟩⟩,Turned.of_below hb _ _⟩
 ·refine (markHostS_all g rs 1 ca lo hi w hg hc (by omega) hn).mono ?_
  rintro e w' ⟨rfl,ys,hl,hm,hcy,hy,ht⟩
  exact ⟨rfl,ys,hl,hm,⟨hcy,.inr ⟨g,rfl,hy⟩⟩,ht⟩
theorem sum_le9:∀ l:List HM,(l.map fun h=>h.us.length).sum<=hsSum l:=by
 intro l
 induction l with
 | nil=>simp [hsSum]
 | cons x xs ih=>simp only [List.map_cons,List.sum_cons,hsSum];omega
set_option maxRecDepth 100000 in
set_option maxHeartbeats 8000000 in
theorem lawWriteGroup (rs:List HoR) (a:Option Addr) (cap:Nat) (s g:Int) (t:ByteArray) (w:World) (hr:HsRow w a rs) (hf:HsFits (hms rs)) (hg:-9223372036854775808<=g/\g<=9223372036854775807)
  (hsp:rs.length<=1048576->hsSum (hms rs)<=1048576->t.size<=1048576->∀ (W:World) (b:Option Addr) (rs':List HoR) (c:Nat),HsRow W b rs'->hms rs'=hms rs->Calls Tw.prog 5 #[.slice b rs'.length c,.int .i64 s,.int .i64 g,.string t] W fun e w'=>WgPost (writeX (hms rs) s g t) W e w')
  (him:rs.length<=1048576->hsSum (hms rs)<=1048576->t.size<=1048576->∀ (W:World) (b:Option Addr) (rs':List HoR) (c:Nat),HsRow W b rs'->hms rs'=hms rs->Below w.heap.size w W->Calls Tw.prog 7 #[.slice b rs'.length c,.int .i64 s,.int .i64 g,.string t] W fun e w'=>WgPost (writeX (hms rs) s g t) W e w') :
  Calls Tw.prog 3 #[.slice a rs.length cap,.int .i64 s,.int .i64 g,.string t] w fun e w'=>e = .returned (.bool true)/\Below w.heap.size w w':=by
 by_cases ht9:(1048576:Int)<(t.size:Int)
 ·clear hr hf hsp him hg
  go_enter Tw.func3,Tw.ntmps3
  go_wp2_with fail
  go_ret
  exact ⟨rfl,Below.refl _ _⟩
 have HSZ:=Shut.mk (szHostS_any a rs cap 1048576 w hr hf (by omega) (by omega))
 have HOK:=Shut.mk (fun hz=>write_ok (s:=s) (g:=g) (t:=t) hf hz hg)
 have HR:=Shut.mk hr
 have hsl:(hms rs).length=rs.length:=hms_len rs
 generalize writeX (hms rs) s g t=R at *
 obtain ⟨Rh,ok⟩:=R
 unfold WgPost at hsp him
 dsimp only at HOK hsp him
 obtain ⟨hs,hhs⟩:∃ q,q=hms rs:=⟨_,rfl⟩
 obtain ⟨n,hn⟩:∃ n,n=rs.length:=⟨_,rfl⟩
 rw [<-hhs] at HOK hsl
 rw [<-hn] at hsl
 have HTO:Shut (n<=1048576->hsSum hs<=1048576->∀ W,Below w.heap.size w W->Calls Tw.prog 6 #[.slice a n cap] W fun e w'=>∃ va ca rs',e = .returned (.slice va n ca)/\n=rs'.length/\hms rs'=hs/\HsW w' va rs' W.heap.size w'.heap.size/\Below W.heap.size W w'):=⟨fun h1 h2 W hb=>by
  rw [hhs] at h2 ⊢
  exact toHostS_num a rs cap n hn W (HR.out.stays hb) h1 h2⟩
 have HLN:Shut (hsSum hs<=1048576->Rh.length=n):=⟨fun h=>by rw [(HOK.out h).len,hsl]⟩
 have HSP:Shut (n<=1048576->hsSum hs<=1048576->∀ (W:World) (b:Option Addr) (rs':List HoR) (c:Nat),HsRow W b rs'->n=rs'.length->hms rs'=hs->Calls Tw.prog 5 #[.slice b n c,.int .i64 s,.int .i64 g,.string t] W fun e w'=>∃ va ca xs,e = .returned (.tuple #[.slice va n ca,.bool ok])/\n=xs.length/\hms xs=Rh/\HsW w' va xs W.heap.size w'.heap.size/\Below W.heap.size W w'):=⟨fun h1 h2 W b rs' c hr' hn' he=>by
  have q:=(hsp (by omega) (by rw [<-hhs];exact h2) (by omega) W b rs' c hr' (by rw [he,hhs]))
  rw [<-hn'] at q
  refine q.mono ?_
  rintro e w' ⟨va,ca,xs,rfl,e1,_,e3⟩
  have el:n=xs.length:=by rw [<-hms_len,e1,HLN.out h2]
  exact ⟨va,ca,xs,by rw [el],el,e1,e3.row,e3.bel⟩⟩
 have HIM:Shut (n<=1048576->hsSum hs<=1048576->∀ (W:World) (b:Option Addr) (rs':List HoR) (c:Nat),HsRow W b rs'->n=rs'.length->hms rs'=hs->Below w.heap.size w W->Calls Tw.prog 7 #[.slice b n c,.int .i64 s,.int .i64 g,.string t] W fun e w'=>∃ va ca xs,e = .returned (.tuple #[.slice va n ca,.bool ok])/\n=xs.length/\hms xs=Rh/\HsW w' va xs W.heap.size w'.heap.size/\Below W.heap.size W w'):=⟨fun h1 h2 W b rs' c hr' hn' he hb=>by
  have q:=(him (by omega) (by rw [<-hhs];exact h2) (by omega) W b rs' c hr' (by rw [he,hhs]) hb)
  rw [<-hn'] at q
  refine q.mono ?_
  rintro e w' ⟨va,ca,xs,rfl,e1,_,e3⟩
  have el:n=xs.length:=by rw [<-hms_len,e1,HLN.out h2]
  exact ⟨va,ca,xs,by rw [el],el,e1,e3.row,e3.bel⟩⟩
 have HE9:∀ X:List HM,X.length=n->n<=1048576->(∀ h ∈ X,h.us.length<=9000000)->∀ (W:World) (b c:Option Addr) (r1 r2:List HoR) (cb cc:Nat),HsRow W b r1->n=r1.length->hms r1=X->HsRow W c r2->n=r2.length->hms r2=X->Calls Tw.prog 8 #[.slice b n cb,.slice c n cc] W fun e w'=>e = .returned (.bool true)/\Below W.heap.size W w':=fun X hx h1 h2 W b c r1 r2 cb cc q1 l1 e1 q2 l2 e2=>by
  have q:=eqHostS_same b c r1 r2 cb cc W q1 q2 (e1.trans e2.symm) (by omega) (fun r hr'=>h2 r.h (by rw [<-e1];exact List.mem_map_of_mem hr'))
  rw [<-l1,<-l2] at q
  exact q
 have HEQ:=Shut.mk (fun (h1:n<=1048576) (h2:hsSum hs<=1048576)=>HE9 hs hsl h1 (fun h hh=>by have:=hsSum_mem hh;omega))
 have HER:=Shut.mk (fun (h1:n<=1048576) (h2:hsSum hs<=1048576)=>HE9 Rh (HLN.out h2) h1 (fun h hh=>by have:=((HOK.out h2).fit h hh).2.1;omega))
 have HM9:∀ X:List HM,X.length=n->endH 1 X<=1000000000->∀ (W:World) (b:Option Addr) (r1:List HoR) (c lo hi:Nat),HsW W b r1 lo hi->n=r1.length->hms r1=X->Calls Tw.prog 9 #[.slice b n c,.int .i64 1] W fun e w'=>e = .returned (.int .i64 (endH 1 X:Nat))/\∃ ys:List HoR,n=ys.length/\hms ys=marksH 1 X/\HsW w' b ys lo hi/\Turned W w' lo hi:=fun X hx hk W b r1 c lo hi h l1 e1=>by
  have q:=markHostS_own2 b r1 c lo hi W h (by rw [e1];exact hk)
  rw [<-l1,e1] at q
  refine q.mono ?_
  rintro e w' ⟨rfl,ys,q1,q2,q3,q4⟩
  exact ⟨rfl,ys,q1.symm,q2,q3,q4⟩
 have HK1:Shut (n<=1048576->hsSum hs<=1048576->endH 1 hs<=1000000000):=⟨fun h1 h2=>endH_fits (by omega) h2⟩
 have HK2:Shut (n<=1048576->hsSum hs<=1048576->endH 1 Rh<=1000000000):=⟨fun h1 h2=>by
  have q1:=(HOK.out h2).sum
  have q2:=sum_le9 hs
  have q3:=HLN.out h2
  rw [endH_eq]
  omega⟩
 have HMH:Shut (n<=1048576->hsSum hs<=1048576->∃ K:Nat,0<K/\K<=1000000000/\∀ (W:World) (b:Option Addr) (r1:List HoR) (c lo hi:Nat),HsW W b r1 lo hi->n=r1.length->hms r1=hs->Calls Tw.prog 9 #[.slice b n c,.int .i64 1] W fun e w'=>e = .returned (.int .i64 K)/\∃ ys:List HoR,n=ys.length/\hms ys=marksH 1 hs/\HsW w' b ys lo hi/\Turned W w' lo hi):=⟨fun h1 h2=>⟨endH 1 hs,by rw [endH_eq];omega,HK1.out h1 h2,HM9 hs hsl (HK1.out h1 h2)⟩⟩
 have HMR:Shut (n<=1048576->hsSum hs<=1048576->∃ K:Nat,0<K/\K<=1000000000/\(∀ (W:World) (b:Option Addr) (r1:List HoR) (c lo hi:Nat),HsW W b r1 lo hi->n=r1.length->hms r1=Rh->Calls Tw.prog 9 #[.slice b n c,.int .i64 1] W fun e w'=>e = .returned (.int .i64 K)/\∃ ys:List HoR,n=ys.length/\hms ys=marksH 1 Rh/\HsW w' b ys lo hi/\Turned W w' lo hi) /\
   ∀ (W:World) (b:Option Addr) (ys:List HoR) (c:Nat),HsRow W b ys->n=ys.length->hms ys=marksH 1 Rh->Calls Tw.prog 10 #[.slice b n c,.int .i64 1] W fun e w'=>e = .returned (.int .i64 K)/\Below W.heap.size W w'):=⟨fun h1 h2=>⟨endH 1 Rh,by rw [endH_eq];omega,HK2.out h1 h2,HM9 Rh (HLN.out h2) (HK2.out h1 h2),fun W b ys c q1 q2 q3=>by
  have q:=heldHostS_any b ys 1 c Rh W q1 q3 (by omega) (HK2.out h1 h2)
  rw [<-q2] at q
  exact q⟩⟩
 rw [<-hhs,<-hn] at HSZ
 rw [<-hn]
 have hdd:(ok != ok)=false:=by simp
 clear hr hf hsp him hsl hhs hn HR HOK HLN HE9 HM9 HK1 HK2 hg
 generalize marksH 1 hs=MH at *
 generalize marksH 1 Rh=MR at *
 go_enter Tw.func3,Tw.ntmps3
 go_wp2_with fail
 refine HSZ.out.mono ?_
 rintro e w1 ⟨r,rfl,r0,r1,hb⟩
 have H:=Shut.mk ((SL.start w).below hb)
 clear hb
 by_cases hq:r<0
 ·clear r1
  go_wp2_with fail
  go_ret
  exact ⟨rfl,H.out.bel⟩
 have hr1:=r1 (by omega)
 have hnl:n<=1048576:=by omega
 have hsl:hsSum hs<=1048576:=by omega
 replace HTO:=Shut.mk (HTO.out hnl hsl)
 replace HSP:=Shut.mk (HSP.out hnl hsl)
 replace HIM:=Shut.mk (HIM.out hnl hsl)
 replace HEQ:=Shut.mk (HEQ.out hnl hsl)
 replace HER:=Shut.mk (HER.out hnl hsl)
 obtain ⟨K,K0,K1,hmh⟩:=HMH.out hnl hsl
 replace HMH:=Shut.mk hmh
 obtain ⟨J,J0,J1,hmr,hhr⟩:=HMR.out hnl hsl
 replace HMR:=Shut.mk hmr
 have HHR:=Shut.mk hhr
 clear r1 hr1 r0 HSZ hmh hmr hhr hsl
 go_wp2_with fail
 refine (HTO.out _ H.out.bel).mono ?_
 rintro e w2 ⟨gw2,cw2,rsw2,rfl,hlw2,hew2,hw,hb⟩
 replace H:=Shut.mk (H.out.below hb)
 have HW:=Shut.mk (And.intro hw.row (And.intro hlw2 hew2))
 clear hb hw hlw2 hew2
 go_wp2_with fail
 refine (HSP.out _ _ _ _ HW.out.1 HW.out.2.1 HW.out.2.2).mono ?_
 rintro e w3 ⟨a3,c3,xs3,rfl,hl3,he3,hF,hb⟩
 replace H:=Shut.mk (H.out.add (s:=hsS a3 xs3 _ w3.heap.size) hb hF (hsS.loc _ _ _ _) (Nat.le_refl _) (Nat.le_refl _))
 obtain ⟨l3,h3,H⟩:=hide_hs H
 have H3:=Shut.mk (And.intro hl3 he3)
 clear hF hb hl3 he3 HW
 go_wp2_with fail
 refine (HTO.out _ H.out.bel).mono ?_
 rintro e w5 ⟨a5,c5,xs5,rfl,hl5,he5,hF,hb⟩
 replace H:=Shut.mk (H.out.add (s:=hsS a5 xs5 _ w5.heap.size) hb hF (hsS.loc _ _ _ _) (Nat.le_refl _) (Nat.le_refl _))
 obtain ⟨l5,h5,H⟩:=hide_hs H
 have H5:=Shut.mk (And.intro hl5 he5)
 clear hb hF hl5 he5
 go_wp2_with fail
 refine (HIM.out _ _ _ _ (show HsW _ _ _ _ _ from H.out.at 0 rfl).row H5.out.1 H5.out.2 H.out.bel).mono ?_
 rintro e w7 ⟨a7,c7,xs7,rfl,hl7,he7,hF,hb⟩
 replace H:=Shut.mk (H.out.add (s:=hsS a7 xs7 _ w7.heap.size) hb hF (hsS.loc _ _ _ _) (Nat.le_refl _) (Nat.le_refl _))
 obtain ⟨l7,h7,H⟩:=hide_hs H
 have H7:=Shut.mk (And.intro hl7 he7)
 clear hF hb hl7 he7 
 go_wp2_with fail
 refine (HER.out _ _ _ _ _ _ _ (show HsW _ _ _ _ _ from H.out.at 0 rfl).row H7.out.1 H7.out.2 (show HsW _ _ _ _ _ from H.out.at 2 rfl).row H3.out.1 H3.out.2).mono ?_
 rintro e w8 ⟨rfl,hb⟩
 replace H:=Shut.mk (H.out.below hb)
 clear hb 
 go_wp2_with fail
 refine (HTO.out _ H.out.bel).mono ?_
 rintro e w9 ⟨gw9,cw9,rsw9,rfl,hlw9,hew9,hw,hb⟩
 replace H:=Shut.mk (H.out.below hb)
 have HW:=Shut.mk (And.intro hw.row (And.intro hlw9 hew9))
 clear hb hw hlw9 hew9
 go_wp2_with fail
 refine (HEQ.out _ _ _ _ _ _ _ (show HsW _ _ _ _ _ from H.out.at 1 rfl).row H5.out.1 H5.out.2 HW.out.1 HW.out.2.1 HW.out.2.2).mono ?_
 rintro e w10 ⟨rfl,hb⟩
 replace H:=Shut.mk (H.out.below hb)
 clear hb HW
 go_wp2_with fail
 refine (HMH.out _ _ _ _ _ _ (H.out.at 1 rfl) H5.out.1 H5.out.2).mono ?_
 rintro e w11 ⟨rfl,ys,hly,hey,hF,ht⟩
 clear hly hey
 replace H:=Shut.mk (H.out.turn 1 rfl ht hF (hsS.loc _ _ _ _))
 clear hF ht H5
 have K2:¬ ((K:Nat):Int)<0:=by omega
 have J2:¬ ((J:Nat):Int)<0:=by omega
 go_wp2_with fail
 refine (HER.out _ _ _ _ _ _ _ (show HsW _ _ _ _ _ from H.out.at 0 rfl).row H7.out.1 H7.out.2 (show HsW _ _ _ _ _ from H.out.at 2 rfl).row H3.out.1 H3.out.2).mono ?_
 rintro e w12 ⟨rfl,hb⟩
 replace H:=Shut.mk (H.out.below hb)
 clear hb 
 go_wp2_with fail
 refine (HMR.out _ _ _ _ _ _ (H.out.at 0 rfl) H7.out.1 H7.out.2).mono ?_
 rintro e w13 ⟨rfl,zs,hl8,he8,hF,ht⟩
 replace H:=Shut.mk (H.out.turn 0 rfl ht hF (hsS.loc _ _ _ _))
 have H8:=Shut.mk (And.intro hl8 he8)
 clear hF ht hl8 he8 H7
 go_wp2_with fail
 refine (HHR.out _ _ _ _ (show HsW _ _ _ _ _ from H.out.at 0 rfl).row H8.out.1 H8.out.2).mono ?_
 rintro e w14 ⟨rfl,hb⟩
 replace H:=Shut.mk (H.out.below hb)
 clear hb 
 go_wp2_with fail
 refine (HTO.out _ H.out.bel).mono ?_
 rintro e w15 ⟨gw15,cw15,rsw15,rfl,hlw15,hew15,hw,hb⟩
 replace H:=Shut.mk (H.out.below hb)
 have HW:=Shut.mk (And.intro hw.row (And.intro hlw15 hew15))
 clear hb hw hlw15 hew15
 go_wp2_with fail
 refine (HIM.out _ _ _ _ HW.out.1 HW.out.2.1 HW.out.2.2 H.out.bel).mono ?_
 rintro e w16 ⟨a9,c9,xs9,rfl,hl9,he9,hF,hb⟩
 replace H:=Shut.mk (H.out.add (s:=hsS a9 xs9 _ w16.heap.size) hb hF (hsS.loc _ _ _ _) (Nat.le_refl _) (Nat.le_refl _))
 obtain ⟨l9,h9,H⟩:=hide_hs H
 have H9:=Shut.mk (And.intro hl9 he9)
 clear hF hb hl9 he9 HW
 go_wp2_with fail
 refine (HER.out _ _ _ _ _ _ _ (show HsW _ _ _ _ _ from H.out.at 0 rfl).row H9.out.1 H9.out.2 (show HsW _ _ _ _ _ from H.out.at 3 rfl).row H3.out.1 H3.out.2).mono ?_
 rintro e w17 ⟨rfl,hb⟩
 replace H:=Shut.mk (H.out.below hb)
 clear hb 
 go_wp2_with fail
 refine (HHR.out _ _ _ _ (show HsW _ _ _ _ _ from H.out.at 1 rfl).row H8.out.1 H8.out.2).mono ?_
 rintro e w18 ⟨rfl,hb⟩
 replace H:=Shut.mk (H.out.below hb)
 clear hb 
 go_wp2_with fail
 go_ret
 exact ⟨rfl,H.out.bel⟩
end Go.Proofs.YteaieagkjepgiaaGreatDoorT
/- . -/
namespace Go.Proofs.YteaieagkjepgiaaGreatDoorT
set_option maxRecDepth 100000
open Go.RowKit
theorem walkWriteGroup (a:Option Addr) (rs:List HoR) (cap:Nat) (s g:Int) (t:ByteArray) (w:World) (htab:SumTab w) (hr:HsRow w a rs) (hf:HsFits (hms rs)) (hg:-9223372036854775808<=g/\g<=9223372036854775807) :
  Calls Tw.prog 3 #[.slice a rs.length cap,.int .i64 s,.int .i64 g,.string t] w fun e w'=>e = .returned (.bool true)/\Below w.heap.size w w':=
 lawWriteGroup rs a cap s g t w hr hf hg
  (fun hl hz ht W b rs' c h e=>by rw [<-e];exact specWriteGroup b rs' c s g t W h (by rw [<-hms_len rs',e,hms_len];exact hl) (by rw [e];exact hf) (by rw [e];exact hz) ht hg)
  (fun hl hz ht W b rs' c h e hb=>by rw [<-e];exact implWriteGroup b rs' c s g t W (htab.stays hb) h (by rw [<-hms_len rs',e,hms_len];exact hl) (by rw [e];exact hf) (by rw [e];exact hz) ht hg)
end Go.Proofs.YteaieagkjepgiaaGreatDoorT
