/- Texts of ours, laid one behind the other: THpH, THpI, THpJ, THeM. -/
import Derived.Test.YteaieagkjepgiaaGreatDoorPfT14
import Derived.Lib.AppendZeros
set_option linter.unusedVariables false
set_option linter.unusedSimpArgs false
/- . -/
namespace Go.Proofs.YteaieagkjepgiaaGreatDoorT
set_option maxRecDepth 100000
open Go.RowKit BigFrame
attribute [local go_sem ↓] Go.wp_at_zero Go.wp_at_succ
set_option maxRecDepth 100000 in
set_option maxHeartbeats 1000000 in
theorem growUnits (n:Nat) (w:World) (h0:0<n) (h1:n<=9000000) :
  Calls Tw.prog 102 #[.slice none 0 0,.int .i64 n] w fun e w'=>∃ v,e = .returned v/\w'.ownsRow w.heap.size 49 4 v 0 []/\w.grownBy w' none/\v.ownBlock=some w.heap.size:=by
 obtain ⟨i0,hin,hz0,hz1,hz2⟩:=info_parts infoUnit
 have hrun:=fun ty=>Lib.run_append_nil_zeros (P:=Tw.prog) w 43 3 ty 49 i0 _ .i64 .i64 Tw.underlying43 Tw.underlying3 hin hz0 n h0 (by rw [hz1];decide) (by omega) (by rw [hz2];omega)
 obtain ⟨c,hc⟩:∃ c,c=grownCap w n 0 49:=⟨_,rfl⟩
 have hge:=grownCap_ge w n 0 49
 have hle:=grownCap_le_maxLen w n 0 49 (by unfold maxLen;omega)
 rw [<-hc] at hrun hge hle
 obtain ⟨cur,hcur⟩:∃ cur,cur=Builtin.zeroCells (Value.agg #[.int .i64 0,.int .i64 0,.string ⟨#[]⟩,.int .i64 0]).cells n++Builtin.zeroCells (Value.agg #[.int .i64 0,.int .i64 0,.string ⟨#[]⟩,.int .i64 0]).cells (c - n):=⟨_,rfl⟩
 rw [<-hcur] at hrun
 have hsz:cur.size=c*4:=by
  rw [hcur,Array.size_append,size_zeroCells,size_zeroCells]
  show n*4+(c - n)*4=c*4
  omega
 have HO:=Shut.mk (World.ownsRow_made (e:=49) (size:=4) (base:=w.heap.size) w.drew cur c (Nat.le_refl _) hle hsz)
 have HG:Shut (w.grownBy (w.drew.alloc (.cells cur 49)) none):=⟨⟨rfl,rfl,rfl,by simp,fun k hk _=>heap_alloc_old w.drew _ hk⟩⟩
 obtain ⟨W1,hW1⟩:∃ q,q=w.drew.alloc (.cells cur 49):=⟨_,rfl⟩
 rw [<-hW1] at hrun HO HG
 have HRUN:=Shut.mk hrun
 have hp:(0:Int)<(n:Int):=by omega
 have hneg:¬ ((n:Int)<0):=by omega
 have hc0:(0:Int)<=(c:Int):=by omega
 clear hrun hc hge hle hcur hsz hW1
 go_enter Tw.func102,Tw.ntmps102
 go_wp2_with (at_builtin;refine Lib.wpList_append_run _ rfl _ _ _ _ rfl _ _ rfl rfl _ _ (HRUN.out _) ?_)
 go_ret
 exact ⟨_,rfl,HO.out,HG.out,rfl⟩
structure CU where
 loc:Option Addr
 cap:Nat
 us:List UnM
def cuv (x:CU):Value:=.slice x.loc x.us.length x.cap
def cuAll (xs:List CU):List UnM:=xs.flatMap fun x=>x.us
theorem cuAll_step {xs:List CU} {k:Nat} (h:k<xs.length):cuAll (xs.take (k+1))=cuAll (xs.take k)++xs[k].us:=by
 unfold cuAll
 rw [List.take_succ_eq_append_getElem h,List.flatMap_append]
 simp
theorem cuAll_le {xs:List CU} (k:Nat):(cuAll (xs.take k)).length<=(cuAll xs).length:=by
 unfold cuAll
 conv=>rhs;rw [<-List.take_append_drop k xs]
 rw [List.flatMap_append,List.length_append]
 omega
set_option maxRecDepth 100000 in
set_option maxHeartbeats 2000000 in
theorem concatUnits (xs:List CU) (g m cap:Nat) (w:World) (hm:m=xs.length) (hmx:m<=1000) (hcell:∀ j (hj:j<xs.length),w.cell? ⟨g,j,none⟩=some (cuv xs[j])) (hg:g<w.heap.size) (hrow:∀ x ∈ xs,UnRow w x.loc x.us) (h0:0<(cuAll xs).length) (h1:(cuAll xs).length<=9000000) :
  Calls Tw.prog 96 #[.slice (some ⟨g,0,none⟩) m cap] w fun e w'=>∃ v,e = .returned v/\w'.ownsRow w.heap.size 49 4 v (cuAll xs).length (unS (cuAll xs))/\Below w.heap.size w w':=by
 obtain ⟨i0,hin,hz0,hz1,hz2⟩:=info_parts infoUnit
 have HM:=Shut.mk hm
 have HC:=Shut.mk hcell
 have HRW:=Shut.mk hrow
 clear hm hcell hrow
 obtain ⟨N,hN⟩:∃ N,N=(cuAll xs).length:=⟨_,rfl⟩
 rw [<-hN] at h0 h1 ⊢
 have HNN:=Shut.mk hN
 clear hN
 go_enter Tw.func96,Tw.ntmps96
 go_wp2_with fail
 go_loop [3,11] (fun v3 i9=>∃ (k s:Nat),v3 = .int .i64 s/\i9 = .int .i64 k/\k<=m/\Shut (s=(cuAll (xs.take k)).length)) (fun _ i9=>m - (intOf i9).toNat)
 case atStart=>exact ⟨0,0,rfl,rfl,Nat.zero_le _,⟨rfl⟩⟩
 case round =>
  obtain ⟨k,s,rfl,rfl,hk,HS⟩:=hrel
  by_cases hlt:k<m
  ·have hkx:k<xs.length:=by have:=HM.out;omega
   have c0:=HC.out k hkx
   unfold cuv at c0
   have HST:=Shut.mk (cuAll_step hkx)
   have hsb:s+xs[k].us.length<=9000000:=by
    have q1:=cuAll_le (xs:=xs) (k+1)
    rw [HST.out,List.length_append,<-HS.out,<-HNN.out] at q1
    omega
   have HS2:Shut (s+xs[k].us.length=(cuAll (xs.take (k+1))).length):=⟨by rw [HST.out,List.length_append,<-HS.out]⟩
   generalize xs[k].us.length=l at c0 hsb HS2
   generalize xs[k].loc=la at c0
   generalize xs[k].cap=lc at c0
   have k0:(0:Int)<=(k:Int):=by omega
   have k1:(k:Int)<(m:Int):=by omega
   have hn:¬ ((s:Int)+(l:Int)<0):=by omega
   clear HST
   go_wp2_with fail
   go_round
   case rel=>exact ⟨k+1,s+l,by go_num,by go_num,by omega,HS2⟩
   case measure=>simp [intOf];omega
  ·obtain rfl:k=m:=by omega
   have HSN:Shut (s=N):=⟨by rw [HS.out,HNN.out,List.take_of_length_le (by have:=HM.out;omega)]⟩
   have hsn:=HSN.out
   subst hsn
   clear HS HSN
   go_upto_region 10 with (go_at_call 102;refine (growUnits _ _ h0 h1).mono ?_;rintro e w1 ⟨v1,rfl,ho1,hg1,hb1⟩;have HO:=Shut.mk (OwS.more (OwS.nil (ty:=49) (sz:=4) (SL.start w)) (Below.refl _ _) ho1 hg1 (.inr hb1));clear ho1 hg1 hb1)
   go_wp2_with fail
   go_loopw [6,27] (fun v6 i9 wr=>∃ (k2 s2:Nat),i9 = .int .i64 k2/\k2<=k/\Shut (s2=(cuAll (xs.take k2)).length)/\Shut (OwS w wr [] 49 4 v6 s2 (unS (cuAll (xs.take k2))))) (fun _ i9 _=>k - (intOf i9).toNat)
   case atStart=>exact ⟨0,0,rfl,Nat.zero_le _,⟨rfl⟩,HO⟩
   case round =>
    clear HO
    obtain ⟨k2,s2,rfl,hk2,HS,HW⟩:=hrel
    obtain ⟨av,cv,rfl⟩:=own_row_slice HW.out.own
    by_cases hlt2:k2<k
    ·have hkx:k2<xs.length:=by have:=HM.out;omega
     have c0:=(HW.out.sl.bel.cell (p:=⟨g,k2,none⟩) hg).trans (HC.out k2 hkx)
     unfold cuv at c0
     have HRX:=Shut.mk ((HRW.out _ (List.getElem_mem hkx)).stays HW.out.sl.bel)
     have HST:=Shut.mk (cuAll_step hkx)
     have hsb:s2+xs[k2].us.length<=9000000:=by
      have q1:=cuAll_le (xs:=xs) (k2+1)
      rw [HST.out,List.length_append,<-HS.out,<-HNN.out] at q1
      omega
     have HS2:Shut (s2+xs[k2].us.length=(cuAll (xs.take (k2+1))).length):=⟨by rw [HST.out,List.length_append,<-HS.out]⟩
     have HNX:Shut (unS (cuAll (xs.take (k2+1)))=unS (cuAll (xs.take k2))++unS xs[k2].us):=⟨by rw [HST.out,uns_app]⟩
     obtain ⟨U,hU⟩:∃ U,U=xs[k2].us:=⟨_,rfl⟩
     rw [<-hU] at c0 hsb HS2 HNX HRX
     have HLU:Shut ((unS U).length=U.length*4):=⟨unS_len U⟩
     have HON:=Shut.mk (uns_one U)
     generalize xs[k2].loc=la at c0 HRX
     generalize xs[k2].cap=lc at c0
     generalize U.length=l at c0 hsb HS2 HLU
     have k0:(0:Int)<=(k2:Int):=by omega
     have k1:(k2:Int)<(k:Int):=by omega
     have hbs:=HW.out.sl.bel.size
     clear HST hU
     go_wp2_with (at_builtin;refine wpList_append_row _ rfl _ _ 43 rfl w.heap.size 49 i0 _ 4 40 Tw.underlying43 hin hz0 hz1 hz2 rfl (by decide) _ _ _ rfl HW.out.own la l lc (unS U) rfl HLU.out HRX.out HON.out (by unfold maxLen;omega) (by omega) hbs ?_;intro v9 w9 ho9 hg9 ha9;have H9:=Shut.mk (HW.out.more (Below.refl _ _) ho9 hg9 ha9);clear ho9 hg9 ha9)
     rw [<-HNX.out] at H9
     go_roundw
     case rel=>exact ⟨k2+1,s2+l,by go_num,by omega,HS2,H9⟩
     case measure=>simp [intOf];omega
    ·obtain rfl:k2=k:=by omega
     have HE:Shut (OwS w wr [] 49 4 (.slice av s2 cv) s (unS (cuAll xs))):=⟨by
      have q:=HW.out
      have e:=HS.out
      rw [List.take_of_length_le (by have:=HM.out;omega)] at q e
      rw [<-HNN.out] at e
      rw [e] at q ⊢
      exact q⟩
     go_wp2_with fail
     go_ret
     exact ⟨_,rfl,HE.out.own,HE.out.sl.bel⟩
end Go.Proofs.YteaieagkjepgiaaGreatDoorT
/- . -/
namespace Go.Proofs.YteaieagkjepgiaaGreatDoorT
set_option maxRecDepth 100000
open Go.RowKit BigFrame
attribute [local go_sem ↓] Go.wp_at_zero Go.wp_at_succ
theorem row_drop {w:World} {b off:Nat} {us:List UnM} (h:UnRow w (some ⟨b,off,none⟩) us) (q:Nat) (hq:q<=us.length) (a:Option Addr) (ha:q<us.length->a=some ⟨b,off+q*4,none⟩):UnRow w a (us.drop q):=by
 intro hp
 have hp':0<(unS (us.drop q)).length:=hp
 have hlt:q<us.length:=by rw [unS_len,List.length_drop] at hp';omega
 obtain ⟨b',off',e,lb,hc⟩:=h (by show 0<(unS us).length;rw [unS_len];omega)
 simp only [Option.some.injEq,Addr.mk.injEq,and_true] at e
 obtain ⟨rfl,rfl⟩:=e
 refine ⟨b,off+q*4,ha hlt,lb,fun j u hj=>?_⟩
 have e1:unS us=unS (us.take q)++unS (us.drop q):=by rw [<-uns_app,List.take_append_drop]
 have l1:(unS (us.take q)).length=q*4:=by rw [unS_len,List.length_take,Nat.min_eq_left hq]
 have:=hc (q*4+j) u (by rw [e1,List.getElem?_append_right (by omega),l1,show q*4+j - q*4=j by omega];exact hj)
 rw [Nat.add_assoc]
 exact this
theorem row_part {w:World} {a:Option Addr} {us:List UnM} {cap:Nat} (h:UnRow w a us) (q:Nat) (hq:q<=us.length) (hc:us.length<=cap):UnRow w (if cap=q then a else Option.map (fun x=>x.add (q*4)) a) (us.drop q):=by
 by_cases hlt:q<us.length
 ·obtain ⟨b,off,rfl,lb,hcc⟩:=UnRow.at h (by omega)
  refine row_drop h q hq _ fun _=>?_
  rw [if_neg (by omega)]
  have:(⟨b,off,none⟩:Addr).add (q*4)=⟨b,off+q*4,none⟩:=by cases hq4:q*4 <;> simp [Addr.add]
  simp [this]
 ·rw [List.drop_of_length_le (by omega)]
  intro hp
  have hp':0<(unS []).length:=hp
  simp [unS] at hp'
theorem row_one {w:World} {g:Nat} {u:UnM} (h:WCells w g (unC u)):UnRow w (some ⟨g,0,none⟩) [u]:=fun _=>⟨g,0,rfl,h.1,fun j x hj=>by
 rw [Nat.zero_add]
 exact (h.2 j x (by simpa [unS] using hj)).1⟩
theorem row_take {w:World} {a:Option Addr} {us:List UnM} (h:UnRow w a us) (q:Nat):UnRow w a (us.take q):=by
 intro hp
 have hp':0<(unS (us.take q)).length:=hp
 obtain ⟨b,off,e,lb,hc⟩:=h (by show 0<(unS us).length;rw [unS_len] at hp' ⊢;rw [List.length_take] at hp';omega)
 refine ⟨b,off,e,lb,fun j u hj=>hc j u ?_⟩
 have e1:unS us=unS (us.take q)++unS (us.drop q):=by rw [<-uns_app,List.take_append_drop]
 rw [e1,List.getElem?_append_left (List.getElem?_eq_some_iff.1 hj).1]
 exact hj
theorem with_is {us:List UnM} {u:UnM} {p:Nat} {b:Bool} (h:Cut us u p b) (hs:UpU us):putL us u=us.take p++[u]++us.drop (if b=true then p+1 else p):=by
 rw [putL_cut h.low h.high hs]
 congr 2
 by_cases hb:b=true
 ·rw [if_pos (h.same.1 hb),if_pos hb]
 ·rw [if_neg (fun e=>hb (h.same.2 e)),if_neg hb]
set_option maxRecDepth 100000 in
set_option maxHeartbeats 4000000 in
theorem implWith (H:HM) (a:Option Addr) (cap:Nat) (u:UnM) (w:World) (hr:UnRow w a H.us) (hcn:H.us.length<=cap) (hl:H.us.length<=1400000) (hs:UpU H.us) :
  Calls Tw.prog 77 #[hov H a cap,unv u] w fun e w'=>HoPost ⟨H.id,H.up,putL H.us u⟩ w e w':=by
 have HS0:=Shut.mk ((((SL.start w).new #[.int .i64 H.id,.bool H.up,.slice a H.us.length cap] 45).new #[.int .i64 u.group,.int .i64 u.index,.string u.text,.int .i64 u.sum] 49).new #[.int .i64 0,.bool false,.slice none 0 0] 45)
 simp only [World.size_alloc] at HS0
 have HBS:=Shut.mk (fun (W:World) (hb:Below w.heap.size w W)=>searchUnit H.us a H.us.length cap u W (hr.stays hb) rfl (by omega) hs)
 have HR:=Shut.mk hr
 have HUP:=Shut.mk hs
 clear hr hs
 obtain ⟨id,up,us⟩:=H
 dsimp only [hov] at *
 obtain ⟨n,hn⟩:∃ n,n=us.length:=⟨_,rfl⟩
 have HN:=Shut.mk hn
 rw [<-hn] at HS0 HBS hl hcn ⊢
 clear hn
 go_enter Tw.func77,Tw.ntmps77
 go_upto_region 1 with fail
 refine wp_shade (fun W=>SL w W [bxS (w.heap.size+1+1) [.int .i64 0,.bool false,.slice none 0 0],bxS (w.heap.size+1) [.int .i64 u.group,.int .i64 u.index,.string u.text,.int .i64 u.sum],bxS w.heap.size [.int .i64 id,.bool up,.slice a n cap]]) HS0.out ?_
 intro W0 hW
 have H:=Shut.mk hW
 clear HS0 hW
 have x2:=(H.out.bx 2 rfl 2 _ rfl).1
 have y0:=(H.out.bx 1 rfl 0 _ rfl).1
 have y1:=(H.out.bx 1 rfl 1 _ rfl).1
 have y2:=(H.out.bx 1 rfl 2 _ rfl).1
 have y3:=(H.out.bx 1 rfl 3 _ rfl).1
 go_upto_region 2 with (go_at_call 95;refine (HBS.out _ H.out.bel).mono ?_;rintro e w1 ⟨p,fl,rfl,hcut,hb⟩;have HCUT:=Shut.mk hcut;replace H:=Shut.mk (H.out.below hb);clear hb hcut x2 y0 y1 y2 y3)
 have hpn:p<=n:=by have:=HCUT.out.le;have:=HN.out;omega
 obtain ⟨q,hq⟩:∃ q,q=if fl=true then p+1 else p:=⟨_,rfl⟩
 have HPU:=Shut.mk (with_is HCUT.out HUP.out)
 rw [<-hq] at HPU
 have hqn:q<=n:=by
  cases fl with
  | true =>
   obtain ⟨h,_⟩:=HCUT.out.same.1 rfl
   rw [if_pos rfl] at hq
   have:=HN.out
   omega
  | false=>rw [if_neg (by decide)] at hq;omega
 have HQ:=Shut.mk hq
 clear hq
 have p0:(0:Int)<=(p:Int):=by omega
 have p1:(p:Int)<=(cap:Int):=by omega
 have q0:(0:Int)<=(q:Int):=by omega
 have q1:(q:Int)<=(n:Int):=by omega
 have q2:(n:Int)<=(cap:Int):=by omega
 cases fl with
 | true =>
  have hq1:(p:Int)+1=(q:Int):=by have:=HQ.out;rw [if_pos rfl] at this;omega
  go_upto_region 5 with fail
  clear hq1
  have HTX:Shut (∀ x,Later w1.drew x->SL w x [bxS (w.heap.size+1+1) [.int .i64 0,.bool false,.slice none 0 0],bxS (w.heap.size+1) [.int .i64 u.group,.int .i64 u.index,.string u.text,.int .i64 u.sum],bxS w.heap.size [.int .i64 id,.bool up,.slice a n cap]]):=⟨fun x hx=>H.out.drew.below hx⟩
  have HLE:Shut (∀ x,Later w1.drew x->x.cell? ⟨w.heap.size,2,none⟩=some (.slice a n cap)/\x.cell? ⟨w.heap.size+1,0,none⟩=some (.int .i64 u.group)/\x.cell? ⟨w.heap.size+1,1,none⟩=some (.int .i64 u.index)/\x.cell? ⟨w.heap.size+1,2,none⟩=some (.string u.text)/\x.cell? ⟨w.heap.size+1,3,none⟩=some (.int .i64 u.sum)):=⟨fun x hx=>⟨((HTX.out x hx).bx 2 rfl 2 _ rfl).1,((HTX.out x hx).bx 1 rfl 0 _ rfl).1,((HTX.out x hx).bx 1 rfl 1 _ rfl).1,((HTX.out x hx).bx 1 rfl 2 _ rfl).1,((HTX.out x hx).bx 1 rfl 3 _ rfl).1⟩⟩
  refine wp_region_set (fun j=>decide (12<=j)) (by kernel_rfl) ?_
  refine wpD_val (i:=0) (v:=?vt0) rfl (by kernel_rfl) (by kernel_rfl) (by kernel_rfl) (by kernel_rfl) (fun _ _ _ h=>h) (by rfl) ?hyt0 ?restt0
  case hyt0=>(intro x hx;obtain ⟨d2,e0,e1,e2,e3⟩:=HLE.out x hx;go_simp;try with_reducible rfl)
  try simp only [Act.put,List.setIfInBounds_toArray,List.set_cons_zero,List.set_cons_succ]
  refine wpD_val (i:=1) (v:=?vt1) rfl (by kernel_rfl) (by kernel_rfl) (by kernel_rfl) (by kernel_rfl) (fun _ _ _ h=>h) (by rfl) ?hyt1 ?restt1
  case hyt1=>(intro x hx;obtain ⟨d2,e0,e1,e2,e3⟩:=HLE.out x hx;go_simp;try with_reducible rfl)
  try simp only [Act.put,List.setIfInBounds_toArray,List.set_cons_zero,List.set_cons_succ]
  refine wpD_val (i:=2) (v:=?vt2) rfl (by kernel_rfl) (by kernel_rfl) (by kernel_rfl) (by kernel_rfl) (fun _ _ _ h=>h) (by rfl) ?hyt2 ?restt2
  case hyt2=>(intro x hx;obtain ⟨d2,e0,e1,e2,e3⟩:=HLE.out x hx;go_simp;try with_reducible rfl)
  try simp only [Act.put,List.setIfInBounds_toArray,List.set_cons_zero,List.set_cons_succ]
  refine wpD_val (i:=3) (v:=?vt3) rfl (by kernel_rfl) (by kernel_rfl) (by kernel_rfl) (by kernel_rfl) (fun _ _ _ h=>h) (by rfl) ?hyt3 ?restt3
  case hyt3=>(intro x hx;obtain ⟨d2,e0,e1,e2,e3⟩:=HLE.out x hx;go_simp;try with_reducible rfl)
  try simp only [Act.put,List.setIfInBounds_toArray,List.set_cons_zero,List.set_cons_succ]
  refine wpD_val (i:=4) (v:=?vt4) rfl (by kernel_rfl) (by kernel_rfl) (by kernel_rfl) (by kernel_rfl) (fun _ _ _ h=>h) (by rfl) ?hyt4 ?restt4
  case hyt4=>(intro x hx;obtain ⟨d2,e0,e1,e2,e3⟩:=HLE.out x hx;go_simp;try with_reducible rfl)
  try simp only [Act.put,List.setIfInBounds_toArray,List.set_cons_zero,List.set_cons_succ]
  refine wpD_val (i:=6) (v:=?vt6) rfl (by kernel_rfl) (by kernel_rfl) (by kernel_rfl) (by kernel_rfl) (fun _ _ _ h=>h) (by rfl) ?hyt6 ?restt6
  case hyt6=>(intro x hx;obtain ⟨d2,e0,e1,e2,e3⟩:=HLE.out x hx;go_simp;try with_reducible rfl)
  try simp only [Act.put,List.setIfInBounds_toArray,List.set_cons_zero,List.set_cons_succ]
  refine wpD_val (i:=7) (v:=?vt7) rfl (by kernel_rfl) (by kernel_rfl) (by kernel_rfl) (by kernel_rfl) (fun _ _ _ h=>h) (by rfl) ?hyt7 ?restt7
  case hyt7=>(intro x hx;obtain ⟨d2,e0,e1,e2,e3⟩:=HLE.out x hx;go_simp;try with_reducible rfl)
  try simp only [Act.put,List.setIfInBounds_toArray,List.set_cons_zero,List.set_cons_succ]
  refine wpD_val (i:=8) (v:=?vt8) rfl (by kernel_rfl) (by kernel_rfl) (by kernel_rfl) (by kernel_rfl) (fun _ _ _ h=>h) (by rfl) ?hyt8 ?restt8
  case hyt8=>(intro x hx;obtain ⟨d2,e0,e1,e2,e3⟩:=HLE.out x hx;go_simp;try with_reducible rfl)
  try simp only [Act.put,List.setIfInBounds_toArray,List.set_cons_zero,List.set_cons_succ]
  refine wpD_val (i:=9) (v:=?vt9) rfl (by kernel_rfl) (by kernel_rfl) (by kernel_rfl) (by kernel_rfl) (fun _ _ _ h=>h) (by rfl) ?hyt9 ?restt9
  case hyt9=>(intro x hx;obtain ⟨d2,e0,e1,e2,e3⟩:=HLE.out x hx;go_simp;try with_reducible rfl)
  try simp only [Act.put,List.setIfInBounds_toArray,List.set_cons_zero,List.set_cons_succ]
  have HSR:=Shut.mk (fun (W:World) (hb:Below w.heap.size w W)=>row_part (cap:=cap) (HR.out.stays hb) q (by have:=HN.out;omega) (by have:=HN.out;omega))
  generalize (if cap=q then a else Option.map (fun x=>x.add (q*4)) a)=sa at HSR ⊢
  refine wpD_one (i:=5) (by kernel_rfl) rfl (by rfl) ?_
  intro x1 hx1
  refine ⟨.slice (some ⟨x1.heap.size,0,none⟩) 1 1,x1.alloc (.cells #[.int .i64 u.group,.int .i64 u.index,.string u.text,.int .i64 u.sum] 49),?_,(Below.refl _ _).alloc (Nat.le_refl _) _,?_⟩
  ·go_simp
  have HX1:=Shut.mk ((HTX.out x1 hx1).new #[.int .i64 u.group,.int .i64 u.index,.string u.text,.int .i64 u.sum] 49)
  obtain ⟨g1,hg1⟩:∃ g1,g1=x1.heap.size:=⟨_,rfl⟩
  rw [<-hg1] at HX1 ⊢
  generalize x1.alloc (.cells #[.int .i64 u.group,.int .i64 u.index,.string u.text,.int .i64 u.sum] 49)=W1 at HX1 ⊢
  clear hx1 hg1 HTX HLE
  try simp only [Act.put,List.setIfInBounds_toArray,List.set_cons_zero,List.set_cons_succ]
  refine wpD_one (i:=10) (by kernel_rfl) rfl (by rfl) ?_
  intro x2 hx2
  refine ⟨.slice (some ⟨x2.heap.size,0,none⟩) 3 3,x2.alloc (.cells #[.slice a p cap,.slice (some ⟨g1,0,none⟩) 1 1,.slice sa (n - q) (cap - q)] 43),?_,(Below.refl _ _).alloc (Nat.le_refl _) _,?_⟩
  ·go_simp
  have HX2:=Shut.mk ((HX1.out.below hx2).new #[.slice a p cap,.slice (some ⟨g1,0,none⟩) 1 1,.slice sa (n - q) (cap - q)] 43)
  obtain ⟨g2,hg2⟩:∃ g2,g2=x2.heap.size:=⟨_,rfl⟩
  rw [<-hg2] at HX2 ⊢
  generalize x2.alloc (.cells #[.slice a p cap,.slice (some ⟨g1,0,none⟩) 1 1,.slice sa (n - q) (cap - q)] 43)=W2 at HX2 ⊢
  clear hx2 hg2 HX1
  try simp only [Act.put,List.setIfInBounds_toArray,List.set_cons_zero,List.set_cons_succ]
  have HCC:Shut (∀ W,SL w W (bxS g2 [.slice a p cap,.slice (some ⟨g1,0,none⟩) 1 1,.slice sa (n - q) (cap - q)]::bxS g1 [.int .i64 u.group,.int .i64 u.index,.string u.text,.int .i64 u.sum]::[bxS (w.heap.size+1+1) [.int .i64 0,.bool false,.slice none 0 0],bxS (w.heap.size+1) [.int .i64 u.group,.int .i64 u.index,.string u.text,.int .i64 u.sum],bxS w.heap.size [.int .i64 id,.bool up,.slice a n cap]])->Calls Tw.prog 96 #[.slice (some ⟨g2,0,none⟩) 3 3] W fun e w'=>∃ av cv,e = .returned (.slice av (putL us u).length cv)/\FRw w' av (unS (putL us u)) W.heap.size w'.heap.size/\(putL us u).length<=cv/\Below W.heap.size W w'):=⟨fun W h=>by
   have l1:(us.take p).length=p:=by rw [List.length_take];have:=HN.out;omega
   have l2:(us.drop q).length=n - q:=by rw [List.length_drop,<-HN.out]
   have ea:cuAll [⟨a,cap,us.take p⟩,⟨some ⟨g1,0,none⟩,1,[u]⟩,⟨sa,cap - q,us.drop q⟩]=putL us u:=by rw [HPU.out];simp [cuAll]
   have k:=concatUnits [⟨a,cap,us.take p⟩,⟨some ⟨g1,0,none⟩,1,[u]⟩,⟨sa,cap - q,us.drop q⟩] g2 3 3 W rfl (by omega) (fun j hj=>by
    match j,hj with
    | 0,_=>have q9:=(h.bx 0 rfl 0 _ rfl).1;show _=some (Value.slice a (us.take p).length cap);rw [l1];exact q9
    | 1,_=>exact (h.bx 0 rfl 1 _ rfl).1
    | 2,_=>have q9:=(h.bx 0 rfl 2 _ rfl).1;show _=some (Value.slice sa (us.drop _).length (cap - _));rw [l2];exact q9) (h.at 0 rfl).1 (fun x hx=>by
    simp only [List.mem_cons,List.not_mem_nil,or_false] at hx
    rcases hx with rfl | rfl | rfl
    ·exact row_take (HR.out.stays h.bel) p
    ·exact row_one (show WCells W g1 (unC u) from h.at 1 rfl)
    ·exact HSR.out W h.bel) (by rw [ea,HPU.out];simp only [List.length_append,List.length_singleton];omega) (by rw [ea,HPU.out];simp only [List.length_append,l1,l2,List.length_singleton];omega)
   rw [ea] at k
   refine k.mono ?_
   rintro e y ⟨v,rfl,ho,hb⟩
   obtain ⟨av,cv,rfl⟩:=own_row_slice ho
   exact ⟨av,cv,rfl,(FRw.of_own ho).1,(FRw.of_own ho).2,hb⟩⟩
  obtain ⟨P,hP⟩:∃ P,P=putL us u:=⟨_,rfl⟩
  have HP9:=Shut.mk hP
  rw [<-hP] at HCC
  clear hP HSR
  refine wpD_onecall (f:=96) (args:=#[.slice (some ⟨g2,0,none⟩) 3 3]) (i:=11) (by kernel_rfl) rfl (by rfl) (fun x hx=>by go_simp) (fun x hx=>(HCC.out x (HX2.out.below hx)).mono ?_)
  rintro e y3 ⟨av,cv,rfl,hF,hcv,hb3⟩
  refine ⟨_,rfl,hb3,?_⟩
  have HY:=Shut.mk (((HX2.out.below hx).tail.tail).add (s:=rwS av (unS P) _ _) hb3 hF (rwS.loc _ _ _ _) (Nat.le_refl _) (Nat.le_refl _))
  clear hF hb3 hx HX2 HCC
  generalize x.heap.size=lo9 at HY
  generalize hh9:y3.heap.size=hi9 at HY
  clear hh9
  try simp only [Act.put,List.setIfInBounds_toArray,List.set_cons_zero,List.set_cons_succ]
  refine wpD_tail (by kernel_rfl) ?_
  intro x5 hx5
  have H5:=Shut.mk (HY.out.below hx5)
  clear HY hx5
  refine wpA_val (i:=12) (v:=.pointer (some ⟨w.heap.size,2,none⟩)) rfl (by kernel_rfl) (by kernel_rfl) (by kernel_rfl) (fun _ _ _ h=>h) (by rfl) (fun x=>by go_simp) ?_
  try simp only [Act.put,List.setIfInBounds_toArray,List.set_cons_zero,List.set_cons_succ]
  obtain ⟨z2,z2z⟩:=H5.out.bx 3 rfl 2 _ rfl
  refine wpA_step (y:=x5.setCell ⟨w.heap.size,2,none⟩ (.slice av P.length cv)) (i:=13) (by kernel_rfl) rfl (by rfl) (by go_simp) ?_
  have H7:=Shut.mk (H5.out.put 3 rfl 2 (.slice av P.length cv) (by simp))
  simp only [List.set_cons_zero,List.set_cons_succ] at H7
  simp only [Act.put]
  refine wpA_done (by kernel_rfl) ?_ _
  clear z2 z2z H5 H
  go_upto_region 6 with fail
  refine wp_shade (fun W=>SL w W [rwS av (unS P) lo9 hi9,bxS (w.heap.size+1+1) [.int .i64 0,.bool false,.slice none 0 0],bxS (w.heap.size+1) [.int .i64 u.group,.int .i64 u.index,.string u.text,.int .i64 u.sum],bxS w.heap.size [.int .i64 id,.bool up,.slice av P.length cv]]) H7.out ?_
  intro W8 hW
  have H:=Shut.mk hW
  clear hW H7
  obtain ⟨m9,hm9⟩:∃ m9,m9=P.length:=⟨_,rfl⟩
  rw [<-hm9] at H
  have HM9:=Shut.mk hm9
  rw [<-hm9]
  clear hm9
  have z0:=(H.out.bx 3 rfl 0 _ rfl).1
  have z1:=(H.out.bx 3 rfl 1 _ rfl).1
  have z2:=(H.out.bx 3 rfl 2 _ rfl).1
  obtain ⟨r0,r0z⟩:=H.out.bx 1 rfl 0 _ rfl
  obtain ⟨r1,r1z⟩:=H.out.bx 1 rfl 1 _ rfl
  obtain ⟨r2,r2z⟩:=H.out.bx 1 rfl 2 _ rfl
  go_wp2_with fail
  have HE:=Shut.mk ((((H.out.put 1 rfl 0 (.int .i64 id) (by simp)).put 1 rfl 1 (.bool up) (by simp)).put 1 rfl 2 (.slice av m9 cv) (by simp)))
  have hs:=HE.out.is _ (List.mem_of_getElem? (show _[0]?=some (rwS av (unS P) lo9 hi9) from rfl))
  refine bodyPost_ret (v:=.agg #[.int .i64 id,.bool up,.slice av m9 cv]) (by simp [results,Tw.results77,go_sem,r0,r1,r2]) rfl ?_
  rw [<-HP9.out]
  exact ⟨av,cv,by show _=Ending.returned (.agg #[.int .i64 id,.bool up,.slice av P.length cv]);rw [<-HM9.out],frw_wide (show FRw _ _ (unS P) lo9 hi9 from hs.1) hs.2.2.1 hs.2.2.2,hcv,HE.out.bel⟩
 | false =>
  have hq1:q=p:=by have:=HQ.out;rw [if_neg (by decide)] at this;exact this
  subst hq1
  go_upto_region 5 with fail
  have HTX:Shut (∀ x,Later w1.drew x->SL w x [bxS (w.heap.size+1+1) [.int .i64 0,.bool false,.slice none 0 0],bxS (w.heap.size+1) [.int .i64 u.group,.int .i64 u.index,.string u.text,.int .i64 u.sum],bxS w.heap.size [.int .i64 id,.bool up,.slice a n cap]]):=⟨fun x hx=>H.out.drew.below hx⟩
  have HLE:Shut (∀ x,Later w1.drew x->x.cell? ⟨w.heap.size,2,none⟩=some (.slice a n cap)/\x.cell? ⟨w.heap.size+1,0,none⟩=some (.int .i64 u.group)/\x.cell? ⟨w.heap.size+1,1,none⟩=some (.int .i64 u.index)/\x.cell? ⟨w.heap.size+1,2,none⟩=some (.string u.text)/\x.cell? ⟨w.heap.size+1,3,none⟩=some (.int .i64 u.sum)):=⟨fun x hx=>⟨((HTX.out x hx).bx 2 rfl 2 _ rfl).1,((HTX.out x hx).bx 1 rfl 0 _ rfl).1,((HTX.out x hx).bx 1 rfl 1 _ rfl).1,((HTX.out x hx).bx 1 rfl 2 _ rfl).1,((HTX.out x hx).bx 1 rfl 3 _ rfl).1⟩⟩
  refine wp_region_set (fun j=>decide (12<=j)) (by kernel_rfl) ?_
  refine wpD_val (i:=0) (v:=?vf0) rfl (by kernel_rfl) (by kernel_rfl) (by kernel_rfl) (by kernel_rfl) (fun _ _ _ h=>h) (by rfl) ?hyf0 ?restf0
  case hyf0=>(intro x hx;obtain ⟨d2,e0,e1,e2,e3⟩:=HLE.out x hx;go_simp;try with_reducible rfl)
  try simp only [Act.put,List.setIfInBounds_toArray,List.set_cons_zero,List.set_cons_succ]
  refine wpD_val (i:=1) (v:=?vf1) rfl (by kernel_rfl) (by kernel_rfl) (by kernel_rfl) (by kernel_rfl) (fun _ _ _ h=>h) (by rfl) ?hyf1 ?restf1
  case hyf1=>(intro x hx;obtain ⟨d2,e0,e1,e2,e3⟩:=HLE.out x hx;go_simp;try with_reducible rfl)
  try simp only [Act.put,List.setIfInBounds_toArray,List.set_cons_zero,List.set_cons_succ]
  refine wpD_val (i:=2) (v:=?vf2) rfl (by kernel_rfl) (by kernel_rfl) (by kernel_rfl) (by kernel_rfl) (fun _ _ _ h=>h) (by rfl) ?hyf2 ?restf2
  case hyf2=>(intro x hx;obtain ⟨d2,e0,e1,e2,e3⟩:=HLE.out x hx;go_simp;try with_reducible rfl)
  try simp only [Act.put,List.setIfInBounds_toArray,List.set_cons_zero,List.set_cons_succ]
  refine wpD_val (i:=3) (v:=?vf3) rfl (by kernel_rfl) (by kernel_rfl) (by kernel_rfl) (by kernel_rfl) (fun _ _ _ h=>h) (by rfl) ?hyf3 ?restf3
  case hyf3=>(intro x hx;obtain ⟨d2,e0,e1,e2,e3⟩:=HLE.out x hx;go_simp;try with_reducible rfl)
  try simp only [Act.put,List.setIfInBounds_toArray,List.set_cons_zero,List.set_cons_succ]
  refine wpD_val (i:=4) (v:=?vf4) rfl (by kernel_rfl) (by kernel_rfl) (by kernel_rfl) (by kernel_rfl) (fun _ _ _ h=>h) (by rfl) ?hyf4 ?restf4
  case hyf4=>(intro x hx;obtain ⟨d2,e0,e1,e2,e3⟩:=HLE.out x hx;go_simp;try with_reducible rfl)
  try simp only [Act.put,List.setIfInBounds_toArray,List.set_cons_zero,List.set_cons_succ]
  refine wpD_val (i:=6) (v:=?vf6) rfl (by kernel_rfl) (by kernel_rfl) (by kernel_rfl) (by kernel_rfl) (fun _ _ _ h=>h) (by rfl) ?hyf6 ?restf6
  case hyf6=>(intro x hx;obtain ⟨d2,e0,e1,e2,e3⟩:=HLE.out x hx;go_simp;try with_reducible rfl)
  try simp only [Act.put,List.setIfInBounds_toArray,List.set_cons_zero,List.set_cons_succ]
  refine wpD_val (i:=7) (v:=?vf7) rfl (by kernel_rfl) (by kernel_rfl) (by kernel_rfl) (by kernel_rfl) (fun _ _ _ h=>h) (by rfl) ?hyf7 ?restf7
  case hyf7=>(intro x hx;obtain ⟨d2,e0,e1,e2,e3⟩:=HLE.out x hx;go_simp;try with_reducible rfl)
  try simp only [Act.put,List.setIfInBounds_toArray,List.set_cons_zero,List.set_cons_succ]
  refine wpD_val (i:=8) (v:=?vf8) rfl (by kernel_rfl) (by kernel_rfl) (by kernel_rfl) (by kernel_rfl) (fun _ _ _ h=>h) (by rfl) ?hyf8 ?restf8
  case hyf8=>(intro x hx;obtain ⟨d2,e0,e1,e2,e3⟩:=HLE.out x hx;go_simp;try with_reducible rfl)
  try simp only [Act.put,List.setIfInBounds_toArray,List.set_cons_zero,List.set_cons_succ]
  refine wpD_val (i:=9) (v:=?vf9) rfl (by kernel_rfl) (by kernel_rfl) (by kernel_rfl) (by kernel_rfl) (fun _ _ _ h=>h) (by rfl) ?hyf9 ?restf9
  case hyf9=>(intro x hx;obtain ⟨d2,e0,e1,e2,e3⟩:=HLE.out x hx;go_simp;try with_reducible rfl)
  try simp only [Act.put,List.setIfInBounds_toArray,List.set_cons_zero,List.set_cons_succ]
  have HSR:=Shut.mk (fun (W:World) (hb:Below w.heap.size w W)=>row_part (cap:=cap) (HR.out.stays hb) q (by have:=HN.out;omega) (by have:=HN.out;omega))
  generalize (if cap=q then a else Option.map (fun x=>x.add (q*4)) a)=sa at HSR ⊢
  refine wpD_one (i:=5) (by kernel_rfl) rfl (by rfl) ?_
  intro x1 hx1
  refine ⟨.slice (some ⟨x1.heap.size,0,none⟩) 1 1,x1.alloc (.cells #[.int .i64 u.group,.int .i64 u.index,.string u.text,.int .i64 u.sum] 49),?_,(Below.refl _ _).alloc (Nat.le_refl _) _,?_⟩
  ·go_simp
  have HX1:=Shut.mk ((HTX.out x1 hx1).new #[.int .i64 u.group,.int .i64 u.index,.string u.text,.int .i64 u.sum] 49)
  obtain ⟨g1,hg1⟩:∃ g1,g1=x1.heap.size:=⟨_,rfl⟩
  rw [<-hg1] at HX1 ⊢
  generalize x1.alloc (.cells #[.int .i64 u.group,.int .i64 u.index,.string u.text,.int .i64 u.sum] 49)=W1 at HX1 ⊢
  clear hx1 hg1 HTX HLE
  try simp only [Act.put,List.setIfInBounds_toArray,List.set_cons_zero,List.set_cons_succ]
  refine wpD_one (i:=10) (by kernel_rfl) rfl (by rfl) ?_
  intro x2 hx2
  refine ⟨.slice (some ⟨x2.heap.size,0,none⟩) 3 3,x2.alloc (.cells #[.slice a q cap,.slice (some ⟨g1,0,none⟩) 1 1,.slice sa (n - q) (cap - q)] 43),?_,(Below.refl _ _).alloc (Nat.le_refl _) _,?_⟩
  ·go_simp
  have HX2:=Shut.mk ((HX1.out.below hx2).new #[.slice a q cap,.slice (some ⟨g1,0,none⟩) 1 1,.slice sa (n - q) (cap - q)] 43)
  obtain ⟨g2,hg2⟩:∃ g2,g2=x2.heap.size:=⟨_,rfl⟩
  rw [<-hg2] at HX2 ⊢
  generalize x2.alloc (.cells #[.slice a q cap,.slice (some ⟨g1,0,none⟩) 1 1,.slice sa (n - q) (cap - q)] 43)=W2 at HX2 ⊢
  clear hx2 hg2 HX1
  try simp only [Act.put,List.setIfInBounds_toArray,List.set_cons_zero,List.set_cons_succ]
  have HCC:Shut (∀ W,SL w W (bxS g2 [.slice a q cap,.slice (some ⟨g1,0,none⟩) 1 1,.slice sa (n - q) (cap - q)]::bxS g1 [.int .i64 u.group,.int .i64 u.index,.string u.text,.int .i64 u.sum]::[bxS (w.heap.size+1+1) [.int .i64 0,.bool false,.slice none 0 0],bxS (w.heap.size+1) [.int .i64 u.group,.int .i64 u.index,.string u.text,.int .i64 u.sum],bxS w.heap.size [.int .i64 id,.bool up,.slice a n cap]])->Calls Tw.prog 96 #[.slice (some ⟨g2,0,none⟩) 3 3] W fun e w'=>∃ av cv,e = .returned (.slice av (putL us u).length cv)/\FRw w' av (unS (putL us u)) W.heap.size w'.heap.size/\(putL us u).length<=cv/\Below W.heap.size W w'):=⟨fun W h=>by
   have l1:(us.take q).length=q:=by rw [List.length_take];have:=HN.out;omega
   have l2:(us.drop q).length=n - q:=by rw [List.length_drop,<-HN.out]
   have ea:cuAll [⟨a,cap,us.take q⟩,⟨some ⟨g1,0,none⟩,1,[u]⟩,⟨sa,cap - q,us.drop q⟩]=putL us u:=by rw [HPU.out];simp [cuAll]
   have k:=concatUnits [⟨a,cap,us.take q⟩,⟨some ⟨g1,0,none⟩,1,[u]⟩,⟨sa,cap - q,us.drop q⟩] g2 3 3 W rfl (by omega) (fun j hj=>by
    match j,hj with
    | 0,_=>have q9:=(h.bx 0 rfl 0 _ rfl).1;show _=some (Value.slice a (us.take q).length cap);rw [l1];exact q9
    | 1,_=>exact (h.bx 0 rfl 1 _ rfl).1
    | 2,_=>have q9:=(h.bx 0 rfl 2 _ rfl).1;show _=some (Value.slice sa (us.drop _).length (cap - _));rw [l2];exact q9) (h.at 0 rfl).1 (fun x hx=>by
    simp only [List.mem_cons,List.not_mem_nil,or_false] at hx
    rcases hx with rfl | rfl | rfl
    ·exact row_take (HR.out.stays h.bel) q
    ·exact row_one (show WCells W g1 (unC u) from h.at 1 rfl)
    ·exact HSR.out W h.bel) (by rw [ea,HPU.out];simp only [List.length_append,List.length_singleton];omega) (by rw [ea,HPU.out];simp only [List.length_append,l1,l2,List.length_singleton];omega)
   rw [ea] at k
   refine k.mono ?_
   rintro e y ⟨v,rfl,ho,hb⟩
   obtain ⟨av,cv,rfl⟩:=own_row_slice ho
   exact ⟨av,cv,rfl,(FRw.of_own ho).1,(FRw.of_own ho).2,hb⟩⟩
  obtain ⟨P,hP⟩:∃ P,P=putL us u:=⟨_,rfl⟩
  have HP9:=Shut.mk hP
  rw [<-hP] at HCC
  clear hP HSR
  refine wpD_onecall (f:=96) (args:=#[.slice (some ⟨g2,0,none⟩) 3 3]) (i:=11) (by kernel_rfl) rfl (by rfl) (fun x hx=>by go_simp) (fun x hx=>(HCC.out x (HX2.out.below hx)).mono ?_)
  rintro e y3 ⟨av,cv,rfl,hF,hcv,hb3⟩
  refine ⟨_,rfl,hb3,?_⟩
  have HY:=Shut.mk (((HX2.out.below hx).tail.tail).add (s:=rwS av (unS P) _ _) hb3 hF (rwS.loc _ _ _ _) (Nat.le_refl _) (Nat.le_refl _))
  clear hF hb3 hx HX2 HCC
  generalize x.heap.size=lo9 at HY
  generalize hh9:y3.heap.size=hi9 at HY
  clear hh9
  try simp only [Act.put,List.setIfInBounds_toArray,List.set_cons_zero,List.set_cons_succ]
  refine wpD_tail (by kernel_rfl) ?_
  intro x5 hx5
  have H5:=Shut.mk (HY.out.below hx5)
  clear HY hx5
  refine wpA_val (i:=12) (v:=.pointer (some ⟨w.heap.size,2,none⟩)) rfl (by kernel_rfl) (by kernel_rfl) (by kernel_rfl) (fun _ _ _ h=>h) (by rfl) (fun x=>by go_simp) ?_
  try simp only [Act.put,List.setIfInBounds_toArray,List.set_cons_zero,List.set_cons_succ]
  obtain ⟨z2,z2z⟩:=H5.out.bx 3 rfl 2 _ rfl
  refine wpA_step (y:=x5.setCell ⟨w.heap.size,2,none⟩ (.slice av P.length cv)) (i:=13) (by kernel_rfl) rfl (by rfl) (by go_simp) ?_
  have H7:=Shut.mk (H5.out.put 3 rfl 2 (.slice av P.length cv) (by simp))
  simp only [List.set_cons_zero,List.set_cons_succ] at H7
  simp only [Act.put]
  refine wpA_done (by kernel_rfl) ?_ _
  clear z2 z2z H5 H
  go_upto_region 6 with fail
  refine wp_shade (fun W=>SL w W [rwS av (unS P) lo9 hi9,bxS (w.heap.size+1+1) [.int .i64 0,.bool false,.slice none 0 0],bxS (w.heap.size+1) [.int .i64 u.group,.int .i64 u.index,.string u.text,.int .i64 u.sum],bxS w.heap.size [.int .i64 id,.bool up,.slice av P.length cv]]) H7.out ?_
  intro W8 hW
  have H:=Shut.mk hW
  clear hW H7
  obtain ⟨m9,hm9⟩:∃ m9,m9=P.length:=⟨_,rfl⟩
  rw [<-hm9] at H
  have HM9:=Shut.mk hm9
  rw [<-hm9]
  clear hm9
  have z0:=(H.out.bx 3 rfl 0 _ rfl).1
  have z1:=(H.out.bx 3 rfl 1 _ rfl).1
  have z2:=(H.out.bx 3 rfl 2 _ rfl).1
  obtain ⟨r0,r0z⟩:=H.out.bx 1 rfl 0 _ rfl
  obtain ⟨r1,r1z⟩:=H.out.bx 1 rfl 1 _ rfl
  obtain ⟨r2,r2z⟩:=H.out.bx 1 rfl 2 _ rfl
  go_wp2_with fail
  have HE:=Shut.mk ((((H.out.put 1 rfl 0 (.int .i64 id) (by simp)).put 1 rfl 1 (.bool up) (by simp)).put 1 rfl 2 (.slice av m9 cv) (by simp)))
  have hs:=HE.out.is _ (List.mem_of_getElem? (show _[0]?=some (rwS av (unS P) lo9 hi9) from rfl))
  refine bodyPost_ret (v:=.agg #[.int .i64 id,.bool up,.slice av m9 cv]) (by simp [results,Tw.results77,go_sem,r0,r1,r2]) rfl ?_
  rw [<-HP9.out]
  exact ⟨av,cv,by show _=Ending.returned (.agg #[.int .i64 id,.bool up,.slice av P.length cv]);rw [<-HM9.out],frw_wide (show FRw _ _ (unS P) lo9 hi9 from hs.1) hs.2.2.1 hs.2.2.2,hcv,HE.out.bel⟩
end Go.Proofs.YteaieagkjepgiaaGreatDoorT
/- . -/
namespace Go.Proofs.YteaieagkjepgiaaGreatDoorT
set_option maxRecDepth 100000
open Go.RowKit BigFrame
attribute [local go_sem ↓] Go.wp_at_zero Go.wp_at_succ
theorem put_len (us:List UnM) (u:UnM):(putL us u).length<=2*us.length+1:=by
 unfold putL
 have l1:=List.length_filter_le (unLt · u) us
 have l2:=List.length_filter_le (unLt u ·) us
 simp only [List.length_append,List.length_singleton]
 omega
theorem put_mem {us:List UnM} {u x:UnM} (h:x ∈ putL us u):x ∈ us\/x=u:=by
 unfold putL at h
 simp only [List.mem_append,List.mem_filter,List.mem_singleton] at h
 rcases h with (h | h) | h
 ·exact .inl h.1
 ·exact .inr h
 ·exact .inl h.1
set_option maxRecDepth 100000 in
set_option maxHeartbeats 1000000 in
theorem implPutUnitL (H:HM) (a:Option Addr) (cap:Nat) (u:UnM) (w:World) (htab:SumTab w) (hr:UnRow w a H.us) (hcn:H.us.length<=cap) (hl:H.us.length<=1400000) (hz:∀ x ∈ H.us,x.text.size<=1048576) (hut:u.text.size<=1048576) :
  Calls Tw.prog 53 #[hov H a cap,unv u] w fun e w'=>HbPost (putX H u) w e w':=by
 have HCP:=Shut.mk (fun (W:World) (hb:Below w.heap.size w W)=>implCopyHost H a cap W (hr.stays hb) (by omega) hz)
 have HO1:=Shut.mk (fun (W:World) (hb:Below w.heap.size w W)=>implHostOk H a cap W (hr.stays hb) (by omega))
 have HSM:=Shut.mk (fun (W:World) (hb:Below w.heap.size w W)=>implSummed u W (htab.stays hb) hut)
 have HWI:=Shut.mk (fun (hs:UpU H.us) (W:World) (hb:Below w.heap.size w W)=>implWith H a cap (summed u) W (hr.stays hb) hcn (by omega) hs)
 have HPL:=Shut.mk (put_len H.us (summed u))
 have HPC:Shut (∀ (W:World) (b:Option Addr) (c:Nat),UnRow W b (putL H.us (summed u))->Calls Tw.prog 52 #[hov ⟨H.id,H.up,putL H.us (summed u)⟩ b c] W fun e w'=>HoPost ⟨H.id,H.up,putL H.us (summed u)⟩ W e w'):=⟨fun W b c h=>implCopyHost ⟨H.id,H.up,putL H.us (summed u)⟩ b c W h (by show (putL H.us (summed u)).length<=3000000;have:=HPL.out;omega) (fun x hx=>by
  rcases put_mem hx with h | rfl
  ·exact hz _ h
  ·exact hut)⟩
 have HPO:Shut (∀ (W:World) (b:Option Addr) (c:Nat),UnRow W b (putL H.us (summed u))->Calls Tw.prog 76 #[hov ⟨H.id,H.up,putL H.us (summed u)⟩ b c] W fun e w'=>e = .returned (.bool (hostOk ⟨H.id,H.up,putL H.us (summed u)⟩))/\Below W.heap.size W w'):=⟨fun W b c h=>implHostOk ⟨H.id,H.up,putL H.us (summed u)⟩ b c W h (by show (putL H.us (summed u)).length<=9000000;have:=HPL.out;omega)⟩
 unfold HoPost at HCP HWI HPC
 clear hr htab hz
 obtain ⟨id,up,us⟩:=H
 obtain ⟨ug,ui,ut,us0⟩:=u
 obtain ⟨RR,hRR⟩:∃ q,q=putX ⟨id,up,us⟩ ⟨ug,ui,ut,us0⟩:=⟨_,rfl⟩
 rw [<-hRR]
 have HQ:=Shut.mk hRR
 unfold putX at HQ
 unfold summed at HQ HSM HWI HPL HPC HPO
 dsimp only [hov,unv] at *
 generalize sumN ut=sn at *
 obtain ⟨P,hP⟩:∃ q,q=putL us ⟨ug,ui,ut,sn⟩:=⟨_,rfl⟩
 rw [<-hP] at HQ HWI HPL HPC HPO
 clear hRR hP
 obtain ⟨n,hn⟩:∃ n,n=us.length:=⟨_,rfl⟩
 have HN:=Shut.mk hn
 obtain ⟨m,hm⟩:∃ m,m=P.length:=⟨_,rfl⟩
 have HM:=Shut.mk hm
 rw [<-hm] at HWI HPL HPC HPO
 rw [<-hn] at HCP HO1 HWI HPL hl hcn ⊢
 clear hn hm
 obtain ⟨ok1,hk1⟩:∃ q,q=hostOk ⟨id,up,us⟩:=⟨_,rfl⟩
 have HUP:Shut (ok1=true->UpU us):=⟨fun h=>by
  rw [hk1] at h
  unfold hostOk at h
  exact up_of_ok (by simpa using (Bool.and_eq_true_iff.1 h).1)⟩
 rw [<-hk1] at HQ HO1
 generalize hostOk ⟨id,up,P⟩=ok2 at HQ HPO
 clear hk1
 have HS0:=Shut.mk ((((SL.start w).new #[.int .i64 id,.bool up,.slice a n cap] 45).new #[.int .i64 ug,.int .i64 ui,.string ut,.int .i64 us0] 49).new #[.int .i64 0,.bool false,.slice none 0 0] 45)
 simp only [World.size_alloc] at HS0
 go_enter Tw.func53,Tw.ntmps53
 go_upto_region 1 with fail
 refine wp_shade (fun W=>SL w W [bxS (w.heap.size+1+1) [.int .i64 0,.bool false,.slice none 0 0],bxS (w.heap.size+1) [.int .i64 ug,.int .i64 ui,.string ut,.int .i64 us0],bxS w.heap.size [.int .i64 id,.bool up,.slice a n cap]]) HS0.out ?_
 intro W0 hW
 have H:=Shut.mk hW
 clear HS0 hW
 have x0:=(H.out.bx 2 rfl 0 _ rfl).1
 have x1:=(H.out.bx 2 rfl 1 _ rfl).1
 have x2:=(H.out.bx 2 rfl 2 _ rfl).1
 cases up with
 | false =>
  have HE:Shut (RR=(⟨id,false,us⟩,false)):=⟨by rw [HQ.out];simp⟩
  go_upto_region 2 with fail
  clear x0 x1 x2
  have x0:=(H.out.bx 2 rfl 0 _ rfl).1
  have x1:=(H.out.bx 2 rfl 1 _ rfl).1
  have x2:=(H.out.bx 2 rfl 2 _ rfl).1
  go_wp2_with (go_at_call 52;refine (HCP.out _ H.out.bel).mono ?_;rintro e w5 ⟨ac,cc,rfl,hF,hcc,hb⟩;have HS5:=Shut.mk (H.out.add (s:=rwS ac (unS us) _ w5.heap.size) hb hF (rwS.loc _ _ _ _) (Nat.le_refl _) (Nat.le_refl _));obtain ⟨r0,r0z⟩:=HS5.out.bx 1 rfl 0 _ rfl;obtain ⟨r1,r1z⟩:=HS5.out.bx 1 rfl 1 _ rfl;obtain ⟨r2,r2z⟩:=HS5.out.bx 1 rfl 2 _ rfl;clear hF hb x0 x1 x2)
  have HE3:=Shut.mk ((((HS5.out.put 1 rfl 0 (.int .i64 id) (by simp)).put 1 rfl 1 (.bool false) (by simp)).put 1 rfl 2 (.slice ac n cc) (by simp)))
  refine bodyPost_ret (v:=.tuple #[.agg #[.int .i64 id,.bool false,.slice ac n cc],.bool false]) (by simp [results,Tw.results53,go_sem,r0,r1,r2]) rfl ?_
  rw [HE.out]
  have hs:=HE3.out.is _ (List.mem_of_getElem? (show _[0]?=some (rwS ac (unS us) _ _) from rfl))
  exact ⟨_,cc,by rw [HN.out],frw_wide (show FRw _ _ (unS us) _ _ from hs.1) hs.2.2.1 hs.2.2.2,by have:=HN.out;show us.length<=cc;omega,HE3.out.bel⟩
 | true =>
  cases ok1 with
  | false =>
   have HE:Shut (RR=(⟨id,true,us⟩,false)):=⟨by rw [HQ.out];simp⟩
   go_upto_region 2 with (go_at_call 76;refine (HO1.out _ H.out.bel).mono ?_;rintro e w1 ⟨rfl,hb⟩;replace H:=Shut.mk (H.out.below hb);clear hb x0 x1 x2)
   have x0:=(H.out.bx 2 rfl 0 _ rfl).1
   have x1:=(H.out.bx 2 rfl 1 _ rfl).1
   have x2:=(H.out.bx 2 rfl 2 _ rfl).1
   go_wp2_with (go_at_call 52;refine (HCP.out _ H.out.bel).mono ?_;rintro e w5 ⟨ac,cc,rfl,hF,hcc,hb⟩;have HS5:=Shut.mk (H.out.add (s:=rwS ac (unS us) _ w5.heap.size) hb hF (rwS.loc _ _ _ _) (Nat.le_refl _) (Nat.le_refl _));obtain ⟨r0,r0z⟩:=HS5.out.bx 1 rfl 0 _ rfl;obtain ⟨r1,r1z⟩:=HS5.out.bx 1 rfl 1 _ rfl;obtain ⟨r2,r2z⟩:=HS5.out.bx 1 rfl 2 _ rfl;clear hF hb x0 x1 x2)
   have HE3:=Shut.mk ((((HS5.out.put 1 rfl 0 (.int .i64 id) (by simp)).put 1 rfl 1 (.bool true) (by simp)).put 1 rfl 2 (.slice ac n cc) (by simp)))
   refine bodyPost_ret (v:=.tuple #[.agg #[.int .i64 id,.bool true,.slice ac n cc],.bool false]) (by simp [results,Tw.results53,go_sem,r0,r1,r2]) rfl ?_
   rw [HE.out]
   have hs:=HE3.out.is _ (List.mem_of_getElem? (show _[0]?=some (rwS ac (unS us) _ _) from rfl))
   exact ⟨_,cc,by rw [HN.out],frw_wide (show FRw _ _ (unS us) _ _ from hs.1) hs.2.2.1 hs.2.2.2,by have:=HN.out;show us.length<=cc;omega,HE3.out.bel⟩
  | true =>
   replace HWI:=Shut.mk (HWI.out (HUP.out rfl))
   go_upto_region 3 with (go_at_call 76;refine (HO1.out _ H.out.bel).mono ?_;rintro e w1 ⟨rfl,hb⟩;replace H:=Shut.mk (H.out.below hb);clear hb x0 x1 x2)
   go_cut [6] from 17 to 20 (fun u6 wq=>∃ (b8:Nat) (a8:Option Addr) (c8 lo8 hi8:Nat),u6 = .pointer (some ⟨b8,0,none⟩)/\Shut (SL w wq (bxS b8 [.int .i64 id,.bool true,.slice a8 m c8]::rwS a8 (unS P) lo8 hi8::[bxS (w.heap.size+1+1) [.int .i64 0,.bool false,.slice none 0 0],bxS (w.heap.size+1) [.int .i64 ug,.int .i64 ui,.string ut,.int .i64 us0],bxS w.heap.size [.int .i64 id,.bool true,.slice a n cap]]))/\m<=c8)
   case first =>
    have HTX:Shut (∀ x,Later w1.drew x->SL w x [bxS (w.heap.size+1+1) [.int .i64 0,.bool false,.slice none 0 0],bxS (w.heap.size+1) [.int .i64 ug,.int .i64 ui,.string ut,.int .i64 us0],bxS w.heap.size [.int .i64 id,.bool true,.slice a n cap]]):=⟨fun x hx=>H.out.drew.below hx⟩
    have HLE:Shut (∀ x,Later w1.drew x->x.cell? ⟨w.heap.size,0,none⟩=some (.int .i64 id)/\x.cell? ⟨w.heap.size,1,none⟩=some (.bool true)/\x.cell? ⟨w.heap.size,2,none⟩=some (.slice a n cap)/\x.cell? ⟨w.heap.size+1,0,none⟩=some (.int .i64 ug)/\x.cell? ⟨w.heap.size+1,1,none⟩=some (.int .i64 ui)/\x.cell? ⟨w.heap.size+1,2,none⟩=some (.string ut)/\x.cell? ⟨w.heap.size+1,3,none⟩=some (.int .i64 us0)):=⟨fun x hx=>⟨((HTX.out x hx).bx 2 rfl 0 _ rfl).1,((HTX.out x hx).bx 2 rfl 1 _ rfl).1,((HTX.out x hx).bx 2 rfl 2 _ rfl).1,((HTX.out x hx).bx 1 rfl 0 _ rfl).1,((HTX.out x hx).bx 1 rfl 1 _ rfl).1,((HTX.out x hx).bx 1 rfl 2 _ rfl).1,((HTX.out x hx).bx 1 rfl 3 _ rfl).1⟩⟩
    refine wp_region_set (fun j=>decide (5<=j)) (by kernel_rfl) ?_
    refine wpD_val (i:=0) (v:=?vp0) rfl (by kernel_rfl) (by kernel_rfl) (by kernel_rfl) (by kernel_rfl) (fun _ _ _ h=>h) (by rfl) ?hyp0 ?restp0
    case hyp0=>(intro x hx;obtain ⟨d0,d1,d2,e0,e1,e2,e3⟩:=HLE.out x hx;go_simp;try with_reducible rfl)
    try simp only [Act.put,List.setIfInBounds_toArray,List.set_cons_zero,List.set_cons_succ]
    refine wpD_val (i:=1) (v:=?vp1) rfl (by kernel_rfl) (by kernel_rfl) (by kernel_rfl) (by kernel_rfl) (fun _ _ _ h=>h) (by rfl) ?hyp1 ?restp1
    case hyp1=>(intro x hx;obtain ⟨d0,d1,d2,e0,e1,e2,e3⟩:=HLE.out x hx;go_simp;try with_reducible rfl)
    try simp only [Act.put,List.setIfInBounds_toArray,List.set_cons_zero,List.set_cons_succ]
    refine wpD_call (i:=2) (v:=.agg #[.int .i64 ug,.int .i64 ui,.string ut,.int .i64 sn]) (f:=78) (args:=#[.agg #[.int .i64 ug,.int .i64 ui,.string ut,.int .i64 us0]]) rfl (by kernel_rfl) (by kernel_rfl) (by kernel_rfl) (by kernel_rfl) (fun _ _ _ h=>h) (by rfl) ?hyp2 (fun x hx=>HSM.out x (HTX.out x hx).bel) ?restp2
    case hyp2=>(intro x hx;go_simp;try with_reducible rfl)
    try simp only [Act.put,List.setIfInBounds_toArray,List.set_cons_zero,List.set_cons_succ]
    refine wpD_callbox (f:=77) (args:=#[.agg #[.int .i64 id,.bool true,.slice a n cap],.agg #[.int .i64 ug,.int .i64 ui,.string ut,.int .i64 sn]]) (C:=#[.int .i64 0,.bool false,.slice none 0 0]) (t:=45) (i:=3) (j:=4) (by kernel_rfl) rfl rfl (by rfl) (by rfl) (fun x hx=>by go_simp) (fun x hx=>by kernel_rfl) (fun x hx=>(HWI.out _ (HTX.out x hx).bel).mono ?_) (fun x hx=>?_)
    ·rintro e y2 ⟨a8,c8,rfl,hF,hc8,hb2⟩
     refine ⟨_,rfl,hb2,?_⟩
     have HY:=Shut.mk ((HTX.out x hx).add (s:=rwS a8 (unS P) _ _) hb2 hF (rwS.loc _ _ _ _) (Nat.le_refl _) (Nat.le_refl _))
     clear hF hb2
     try simp only [Act.put,List.setIfInBounds_toArray,List.set_cons_zero,List.set_cons_succ]
     clear hx
     refine wpD_one (i:=4) (by kernel_rfl) rfl (by rfl) (fun x2 hx2=>⟨.pointer (some ⟨x2.heap.size,0,none⟩),x2.alloc (.cells #[.int .i64 0,.bool false,.slice none 0 0] 45),by kernel_rfl,(Below.refl _ _).alloc (Nat.le_refl _) _,?_⟩)
     have HY2:=Shut.mk ((HY.out.below hx2).new #[.int .i64 0,.bool false,.slice none 0 0] 45)
     obtain ⟨nb,hnb⟩:∃ nb,nb=x2.heap.size:=⟨_,rfl⟩
     rw [<-hnb] at HY2 ⊢
     clear hx2 hnb HY
     try simp only [Act.put,List.setIfInBounds_toArray,List.set_cons_zero,List.set_cons_succ]
     refine wpD_tail (by kernel_rfl) ?_
     intro x5 hx5
     have HY3:=Shut.mk (HY2.out.below hx5)
     obtain ⟨q0,qf0⟩:=HY3.out.bx 0 rfl 0 _ rfl
     obtain ⟨q1,qf1⟩:=HY3.out.bx 0 rfl 1 _ rfl
     obtain ⟨q2,qf2⟩:=HY3.out.bx 0 rfl 2 _ rfl
     refine wpA_step (y:=((x5.setCell ⟨nb,0,none⟩ (.int .i64 id)).setCell ⟨nb,1,none⟩ (.bool true)).setCell ⟨nb,2,none⟩ (.slice a8 m c8)) (i:=5) (by kernel_rfl) rfl (by rfl) (by go_simp) ?_
     have HZ:=Shut.mk (((HY3.out.put 0 rfl 0 (.int .i64 id) (by simp)).put 0 rfl 1 (.bool true) (by simp)).put 0 rfl 2 (.slice a8 m c8) (by simp))
     clear q0 qf0 q1 qf1 q2 qf2 hx5 HY2 HY3
     simp only [Act.put]
     refine wpA_done (by kernel_rfl) ?_ _
     go_wp2_with fail
     go_meet
     case rel=>exact ⟨nb,a8,c8,_,_,rfl,⟨HZ.out⟩,hc8⟩
    ·have HW:=Shut.mk ((HTX.out x hx).new #[.int .i64 0,.bool false,.slice none 0 0] 45)
     obtain ⟨nb,hnb⟩:∃ nb,nb=x.heap.size:=⟨_,rfl⟩
     rw [<-hnb] at HW ⊢
     generalize x.alloc (.cells #[.int .i64 0,.bool false,.slice none 0 0] 45)=xx at HW ⊢
     clear hnb hx
     try simp only [Act.put,List.setIfInBounds_toArray,List.set_cons_zero,List.set_cons_succ]
     refine wpD_onecall (f:=77) (args:=#[.agg #[.int .i64 id,.bool true,.slice a n cap],.agg #[.int .i64 ug,.int .i64 ui,.string ut,.int .i64 sn]]) (i:=3) (by kernel_rfl) rfl (by rfl) (fun x hx=>by go_simp) (fun x hx=>(HWI.out _ (HW.out.below hx).bel).mono ?_)
     rintro e y2 ⟨a8,c8,rfl,hF,hc8,hb2⟩
     refine ⟨_,rfl,hb2,?_⟩
     have HY:=Shut.mk ((HW.out.below hx).add (s:=rwS a8 (unS P) _ _) hb2 hF (rwS.loc _ _ _ _) (Nat.le_refl _) (Nat.le_refl _))
     clear hF hb2
     try simp only [Act.put,List.setIfInBounds_toArray,List.set_cons_zero,List.set_cons_succ]
     clear hx HW
     have HY2:=HY
     clear HY
     refine wpD_tail (by kernel_rfl) ?_
     intro x5 hx5
     have HY3:=Shut.mk (HY2.out.below hx5)
     obtain ⟨q0,qf0⟩:=HY3.out.bx 1 rfl 0 _ rfl
     obtain ⟨q1,qf1⟩:=HY3.out.bx 1 rfl 1 _ rfl
     obtain ⟨q2,qf2⟩:=HY3.out.bx 1 rfl 2 _ rfl
     refine wpA_step (y:=((x5.setCell ⟨nb,0,none⟩ (.int .i64 id)).setCell ⟨nb,1,none⟩ (.bool true)).setCell ⟨nb,2,none⟩ (.slice a8 m c8)) (i:=5) (by kernel_rfl) rfl (by rfl) (by go_simp) ?_
     have HZ:=Shut.mk (((HY3.out.put 1 rfl 0 (.int .i64 id) (by simp)).put 1 rfl 1 (.bool true) (by simp)).put 1 rfl 2 (.slice a8 m c8) (by simp))
     clear q0 qf0 q1 qf1 q2 qf2 hx5 HY2 HY3
     simp only [Act.put]
     refine wpA_done (by kernel_rfl) ?_ _
     go_wp2_with fail
     go_meet
     case rel=>exact ⟨nb,a8,c8,_,_,rfl,⟨HZ.out.swap⟩,hc8⟩
   case rest =>
    obtain ⟨b8,a8,c8,lo8,hi8,rfl,H,hc8⟩:=hcut
    have x0:=(H.out.bx 0 rfl 0 _ rfl).1
    have x1:=(H.out.bx 0 rfl 1 _ rfl).1
    have x2:=(H.out.bx 0 rfl 2 _ rfl).1
    cases ok2 with
    | false =>
     have HE:Shut (RR=(⟨id,true,us⟩,false)):=⟨by rw [HQ.out];simp⟩
     go_upto_region 5 with (go_at_call 76;refine (HPO.out _ _ _ (show FRw _ _ _ _ _ from H.out.at 1 rfl).crow).mono ?_;rintro e w3 ⟨rfl,hb⟩;replace H:=Shut.mk (H.out.below hb);clear hb x0 x1 x2)
     have x0:=(H.out.bx 4 rfl 0 _ rfl).1
     have x1:=(H.out.bx 4 rfl 1 _ rfl).1
     have x2:=(H.out.bx 4 rfl 2 _ rfl).1
     go_wp2_with (go_at_call 52;refine (HCP.out _ H.out.bel).mono ?_;rintro e w5 ⟨ac,cc,rfl,hF,hcc,hb⟩;have HS5:=Shut.mk (H.out.add (s:=rwS ac (unS us) _ w5.heap.size) hb hF (rwS.loc _ _ _ _) (Nat.le_refl _) (Nat.le_refl _));obtain ⟨r0,r0z⟩:=HS5.out.bx 3 rfl 0 _ rfl;obtain ⟨r1,r1z⟩:=HS5.out.bx 3 rfl 1 _ rfl;obtain ⟨r2,r2z⟩:=HS5.out.bx 3 rfl 2 _ rfl;clear hF hb x0 x1 x2)
     have HE3:=Shut.mk ((((HS5.out.put 3 rfl 0 (.int .i64 id) (by simp)).put 3 rfl 1 (.bool true) (by simp)).put 3 rfl 2 (.slice ac n cc) (by simp)))
     refine bodyPost_ret (v:=.tuple #[.agg #[.int .i64 id,.bool true,.slice ac n cc],.bool false]) (by simp [results,Tw.results53,go_sem,r0,r1,r2]) rfl ?_
     rw [HE.out]
     have hs:=HE3.out.is _ (List.mem_of_getElem? (show _[0]?=some (rwS ac (unS us) _ _) from rfl))
     exact ⟨_,cc,by rw [HN.out],frw_wide (show FRw _ _ (unS us) _ _ from hs.1) hs.2.2.1 hs.2.2.2,by have:=HN.out;show us.length<=cc;omega,HE3.out.bel⟩
    | true =>
     have HE:Shut (RR=(⟨id,true,P⟩,true)):=⟨by rw [HQ.out];simp⟩
     go_upto_region 6 with (go_at_call 76;refine (HPO.out _ _ _ (show FRw _ _ _ _ _ from H.out.at 1 rfl).crow).mono ?_;rintro e w3 ⟨rfl,hb⟩;replace H:=Shut.mk (H.out.below hb);clear hb x0 x1 x2)
     have x0:=(H.out.bx 0 rfl 0 _ rfl).1
     have x1:=(H.out.bx 0 rfl 1 _ rfl).1
     have x2:=(H.out.bx 0 rfl 2 _ rfl).1
     go_wp2_with (go_at_call 52;refine (HPC.out _ _ _ (show FRw _ _ _ _ _ from H.out.at 1 rfl).crow).mono ?_;rintro e w5 ⟨ac,cc,rfl,hF,hcc,hb⟩;have HS5:=Shut.mk (H.out.add (s:=rwS ac (unS P) _ w5.heap.size) hb hF (rwS.loc _ _ _ _) (Nat.le_refl _) (Nat.le_refl _));obtain ⟨r0,r0z⟩:=HS5.out.bx 3 rfl 0 _ rfl;obtain ⟨r1,r1z⟩:=HS5.out.bx 3 rfl 1 _ rfl;obtain ⟨r2,r2z⟩:=HS5.out.bx 3 rfl 2 _ rfl;clear hF hb x0 x1 x2)
     have HE3:=Shut.mk ((((HS5.out.put 3 rfl 0 (.int .i64 id) (by simp)).put 3 rfl 1 (.bool true) (by simp)).put 3 rfl 2 (.slice ac m cc) (by simp)))
     refine bodyPost_ret (v:=.tuple #[.agg #[.int .i64 id,.bool true,.slice ac m cc],.bool true]) (by simp [results,Tw.results53,go_sem,r0,r1,r2]) rfl ?_
     rw [HE.out]
     have hs:=HE3.out.is _ (List.mem_of_getElem? (show _[0]?=some (rwS ac (unS P) _ _) from rfl))
     exact ⟨_,cc,by rw [HM.out],frw_wide (show FRw _ _ (unS P) _ _ from hs.1) hs.2.2.1 hs.2.2.2,by have:=HM.out;show P.length<=cc;omega,HE3.out.bel⟩
end Go.Proofs.YteaieagkjepgiaaGreatDoorT
/- . -/
namespace Go.Proofs.YteaieagkjepgiaaGreatDoorT
set_option maxRecDepth 100000
open Go.RowKit
def par (k:Nat):Nat:=(k - 1) / 2
def sw (Q:List Nat) (i j:Nat):List Nat:=(Q.set i (Q.getD j 0)).set j (Q.getD i 0)
theorem sw_len (Q:List Nat) (i j:Nat):(sw Q i j).length=Q.length:=by simp [sw]
theorem sw_at (Q:List Nat) (i j:Nat) (hi:i<Q.length) (hj:j<Q.length) (t:Nat):(sw Q i j).getD t 0=if t=j then Q.getD i 0 else if t=i then Q.getD j 0 else Q.getD t 0:=by
 unfold sw
 simp only [List.getD,List.getElem?_set,List.length_set]
 by_cases h1:j=t
 ·subst h1
  simp [hj]
 ·by_cases h2:i=t
  ·subst h2
   simp [hi,h1,Ne.symm h1]
  ·simp [h1,h2,Ne.symm h1,Ne.symm h2]
theorem sw_perm (Q:List Nat) (i j:Nat) (hi:i<Q.length) (hj:j<Q.length):(sw Q i j).Perm Q:=by
 have e1:Q.getD i 0=Q[i]:=by simp [List.getD,hi]
 have e2:Q.getD j 0=Q[j]:=by simp [List.getD,hj]
 unfold sw
 rw [e1,e2]
 exact List.set_set_perm hi hj
theorem lt3_asymm {p:Nat->Nat × Int} {a b:Nat} (h:lt3 p a b):¬ lt3 p b a:=by
 unfold lt3 at *
 omega
theorem le3_trans {p:Nat->Nat × Int} {a b c:Nat} (h:¬ lt3 p b a) (k:¬ lt3 p c b):¬ lt3 p c a:=by
 unfold lt3 at *
 omega
def HpN (p:Nat->Nat × Int) (Q:List Nat) (n:Nat):Prop:=∀ k,0<k->k<n->¬ lt3 p (Q.getD k 0) (Q.getD (par k) 0)
theorem par_lt {k:Nat} (h:0<k):par k<k:=by unfold par;omega
theorem HpN.first {p:Nat->Nat × Int} {Q:List Nat} {n:Nat} (h:HpN p Q n):∀ k,k<n->¬ lt3 p (Q.getD k 0) (Q.getD 0 0):=by
 intro k
 induction k using Nat.strongRecOn with
 | ind k ih =>
  intro hk
  by_cases h0:k=0
  ·subst h0
   unfold lt3
   omega
  ·have l:=par_lt (k:=k) (by omega)
   exact le3_trans (ih _ l (by omega)) (h k (by omega) hk)
structure UpI (p:Nat->Nat × Int) (Q:List Nat) (n j:Nat):Prop where
 rest:∀ k,0<k->k<n->k ≠ j->¬ lt3 p (Q.getD k 0) (Q.getD (par k) 0)
 kids:∀ k,0<k->k<n->par k=j->0<j->¬ lt3 p (Q.getD k 0) (Q.getD (par j) 0)
theorem UpI.done {p:Nat->Nat × Int} {Q:List Nat} {n:Nat} (h:UpI p Q n 0):HpN p Q n:=fun k h0 hk=>h.rest k h0 hk (by omega)
theorem UpI.stop {p:Nat->Nat × Int} {Q:List Nat} {n j:Nat} (h:UpI p Q n j) (hl:¬ lt3 p (Q.getD j 0) (Q.getD (par j) 0)):HpN p Q n:=fun k h0 hk=>by
 by_cases e:k=j
 ·subst e;exact hl
 ·exact h.rest k h0 hk e
theorem UpI.swap {p:Nat->Nat × Int} {Q:List Nat} {n j:Nat} (h:UpI p Q n j) (h0:0<j) (hj:j<n) (hn:n<=Q.length) (hl:lt3 p (Q.getD j 0) (Q.getD (par j) 0)):UpI p (sw Q (par j) j) n (par j):=by
 have l:=par_lt h0
 have e:=sw_at Q (par j) j (by omega) (by omega)
 refine ⟨fun k k0 kn kj=>?_,fun k k0 kn kj i0=>?_⟩
 ·have lk:=par_lt k0
  by_cases c1:k=j
  ·subst c1
   rw [e k,if_pos rfl,e (par k),if_neg (by omega),if_pos rfl]
   exact lt3_asymm hl
  ·rw [e k,if_neg c1,if_neg kj]
   by_cases c2:par k=j
   ·rw [e (par k),if_pos c2]
    exact h.kids k k0 kn c2 h0
   ·by_cases c3:par k=par j
    ·rw [e (par k),if_neg c2,if_pos c3]
     have q:=h.rest k k0 kn c1
     rw [c3] at q
     exact le3_trans (lt3_asymm hl) q
    ·rw [e (par k),if_neg c2,if_neg c3]
     exact h.rest k k0 kn c1
 ·have li:=par_lt i0
  have lk:=par_lt k0
  rw [e (par (par j)),if_neg (by omega),if_neg (by omega)]
  have q:=h.rest (par j) i0 (by omega) (by omega)
  by_cases c1:k=j
  ·subst c1
   rw [e k,if_pos rfl]
   exact q
  ·rw [e k,if_neg c1,if_neg (by omega)]
   have q2:=h.rest k k0 kn c1
   rw [kj] at q2
   exact le3_trans q q2
theorem HpN.more {p:Nat->Nat × Int} {Q:List Nat} (h:HpN p Q Q.length) (x:Nat):UpI p (Q++[x]) (Q.length+1) Q.length:=by
 have e:∀ k,k<Q.length->(Q++[x]).getD k 0=Q.getD k 0:=fun k hk=>by simp [List.getD,List.getElem?_append_left hk]
 refine ⟨fun k k0 kn kj=>?_,fun k k0 kn kj _=>?_⟩
 ·have lk:=par_lt k0
  rw [e k (by omega),e (par k) (by omega)]
  exact h k k0 (by omega)
 ·have lk:=par_lt k0
  omega
structure DnI (p:Nat->Nat × Int) (Q:List Nat) (n i:Nat):Prop where
 rest:∀ k,0<k->k<n->par k ≠ i->¬ lt3 p (Q.getD k 0) (Q.getD (par k) 0)
 kids:∀ k,0<k->k<n->par k=i->0<i->¬ lt3 p (Q.getD k 0) (Q.getD (par i) 0)
theorem par_is {k i:Nat} (h0:0<k):par k=i↔k=2*i+1\/k=2*i+2:=by unfold par;omega
theorem DnI.stop {p:Nat->Nat × Int} {Q:List Nat} {n i:Nat} (h:DnI p Q n i) (h1:2*i+1<n->¬ lt3 p (Q.getD (2*i+1) 0) (Q.getD i 0)) (h2:2*i+2<n->¬ lt3 p (Q.getD (2*i+2) 0) (Q.getD i 0)):HpN p Q n:=fun k h0 hk=>by
 by_cases e:par k=i
 ·rw [e]
  rcases (par_is h0).1 e with rfl | rfl
  ·exact h1 hk
  ·exact h2 hk
 ·exact h.rest k h0 hk e
theorem DnI.swap {p:Nat->Nat × Int} {Q:List Nat} {n i j:Nat} (h:DnI p Q n i) (hj:par j=i) (h0:0<j) (hjn:j<n) (hn:n<=Q.length) (hl:lt3 p (Q.getD j 0) (Q.getD i 0))
  (h1:¬ lt3 p (Q.getD (2*i+1) 0) (Q.getD j 0)) (h2:2*i+2<n->¬ lt3 p (Q.getD (2*i+2) 0) (Q.getD j 0)):DnI p (sw Q i j) n j:=by
 have l:=par_lt h0
 have e:=sw_at Q i j (by omega) (by omega)
 refine ⟨fun k k0 kn kj=>?_,fun k k0 kn kj _=>?_⟩
 ·have lk:=par_lt k0
  by_cases c1:k=j
  ·subst c1
   rw [e k,if_pos rfl,hj,e i,if_neg (by omega),if_pos rfl]
   exact lt3_asymm hl
  ·rw [e k,if_neg c1]
   by_cases c2:k=i
   ·subst c2
    rw [if_pos rfl,e (par k),if_neg kj,if_neg (by omega)]
    exact h.kids j h0 hjn hj k0
   ·rw [if_neg c2,e (par k),if_neg kj]
    by_cases c3:par k=i
    ·rw [if_pos c3]
     rcases (par_is k0).1 c3 with rfl | rfl
     ·exact h1
     ·exact h2 kn
    ·rw [if_neg c3]
     exact h.rest k k0 kn c3
 ·have lk:=par_lt k0
  rw [hj,e i,if_neg (by omega),if_pos rfl,e k,if_neg (by omega),if_neg (by omega)]
  have q:=h.rest k k0 kn (by omega)
  rw [kj] at q
  exact q
theorem HpN.pop {p:Nat->Nat × Int} {Q:List Nat} {n:Nat} (h:HpN p Q (n+1)) (hn:Q.length=n+1):DnI p (sw Q 0 n) n 0:=by
 have e:=sw_at Q 0 n (by omega) (by omega)
 refine ⟨fun k k0 kn kj=>?_,fun k k0 kn kj i0=>by omega⟩
 have lk:=par_lt k0
 rw [e k,if_neg (by omega),if_neg (by omega),e (par k),if_neg (by omega),if_neg (by omega)]
 exact h k k0 (by omega)
theorem HpN.take {p:Nat->Nat × Int} {Q:List Nat} {n:Nat} (h:HpN p Q n):HpN p (Q.take n) n:=by
 have e:∀ k,k<n->(Q.take n).getD k 0=Q.getD k 0:=fun k hk=>by simp [List.getD,hk]
 intro k k0 kn
 have lk:=par_lt k0
 rw [e k kn,e (par k) (by omega)]
 exact h k k0 kn
structure Out (p:Nat->Nat × Int) (U P Q:List Nat):Prop where
 all:(P++Q).Perm U
 up:P.Pairwise fun a b=>¬ lt3 p b a
 ahead:∀ a ∈ P,∀ b ∈ Q,¬ lt3 p b a
theorem Out.start {p:Nat->Nat × Int} {U Q:List Nat} (h:Q.Perm U):Out p U [] Q:=⟨h,.nil,fun a ha=>by cases ha⟩
theorem Out.next {p:Nat->Nat × Int} {U P Q R:List Nat} {n:Nat} (h:Out p U P Q) (hh:HpN p Q (n+1)) (hn:Q.length=n+1) (hr:R.Perm Q) (hl:R.getD n 0=Q.getD 0 0):Out p U (P++[Q.getD 0 0]) (R.take n):=by
 have hrl:=hr.length_eq
 have e:R=R.take n++[Q.getD 0 0]:=by
  have e1:R[n]'(by omega)=Q.getD 0 0:=by rw [<-hl];simp [List.getD,show n<R.length by omega]
  have e2:R.take (n+1)=R:=List.take_of_length_le (by omega)
  conv=>lhs;rw [<-e2]
  rw [List.take_succ_eq_append_getElem (by omega),e1]
 have hq:(Q.getD 0 0::R.take n).Perm Q:=by
  refine List.Perm.trans ?_ hr
  conv=>rhs;rw [e]
  exact (List.perm_append_comm (l₁:=[Q.getD 0 0]) (l₂:=R.take n))
 have q0:Q.getD 0 0 ∈ Q:=hq.mem_iff.1 (List.mem_cons_self ..)
 refine ⟨?_,?_,fun a ha b hb=>?_⟩
 ·rw [List.append_assoc]
  exact (hq.append_left P).trans h.all
 ·rw [List.pairwise_append]
  refine ⟨h.up,List.pairwise_singleton _ _,fun a ha b hb=>?_⟩
  rw [List.mem_singleton.1 hb]
  exact h.ahead a ha _ q0
 ·have hbQ:b ∈ Q:=hq.mem_iff.1 (List.mem_cons_of_mem _ hb)
  rcases List.mem_append.1 ha with ha | ha
  ·exact h.ahead a ha b hbQ
  ·rw [List.mem_singleton.1 ha]
   obtain ⟨k,hk,rfl⟩:=List.getElem_of_mem hbQ
   have:=hh.first k (by omega)
   simpa [List.getD,hk] using this
theorem Out.is {hs:List HM} {P Q:List Nat} (h:Out (pk hs) (upTo hs hs.length) P Q):P.map (pk hs)=(ordP hs).take P.length:=by
 have hle:∀ a b,¬ lt3 (pk hs) b a->plLe (pk hs a) (pk hs b)=true:=fun a b q=>by
  rw [plLe_iff]
  unfold lt3 at q
  omega
 have e:P.map (pk hs)++(Q.map (pk hs)).mergeSort plLe=ordP hs:=by
  refine ordP_of ?_ ?_
  ·rw [<-upTo_pairs]
   refine List.Perm.trans (List.Perm.append_left _ (List.mergeSort_perm _ _)) ?_
   rw [<-List.map_append]
   exact h.all.map _
  ·rw [List.pairwise_append]
   refine ⟨?_,List.pairwise_mergeSort (fun a b c h k=>by rw [plLe_iff] at *;omega) (fun a b=>by rw [Bool.or_eq_true,plLe_iff,plLe_iff];omega) _,fun a ha b hb=>?_⟩
   ·rw [List.pairwise_map]
    exact h.up.imp fun q=>hle _ _ q
   ·obtain ⟨x,hx,rfl⟩:=List.mem_map.1 ha
    obtain ⟨y,hy,rfl⟩:=List.mem_map.1 ((List.mergeSort_perm _ _).mem_iff.1 hb)
    exact hle x y (h.ahead x hx y hy)
 rw [<-e,List.take_append_of_le_length (by simp),List.take_of_length_le (by simp)]
end Go.Proofs.YteaieagkjepgiaaGreatDoorT
