/- Texts of ours, laid one behind the other: THpB, TWgC, TSpL. -/
import Derived.Test.YteaieagkjepgiaaGreatDoorPfT12
import Derived.Laws.MakeOwn
import Derived.Deep.AppendLies
set_option linter.unusedVariables false
set_option linter.unusedSimpArgs false
/- . -/
namespace Go.Proofs.YteaieagkjepgiaaGreatDoorT
set_option maxRecDepth 100000
open Go.RowKit BigFrame
attribute [local go_sem ↓] Go.wp_at_zero Go.wp_at_succ
set_option maxRecDepth 100000 in
set_option maxHeartbeats 4000000 in
theorem implCopyHost (H:HM) (a:Option Addr) (cap:Nat) (w:World) (hr:UnRow w a H.us) (hl:H.us.length<=3000000) (hz:∀ u ∈ H.us,u.text.size<=1048576) :
  Calls Tw.prog 52 #[hov H a cap] w fun e w'=>HoPost H w e w':=by
 obtain ⟨i0,hin,hz0,hz1,hz2⟩:=info_parts infoUnit
 have HS0:=Shut.mk (((SL.start w).new #[.int .i64 H.id,.bool H.up,.slice a H.us.length cap] 45).new #[.int .i64 0,.bool false,.slice none 0 0] 45)
 simp only [World.size_alloc] at HS0
 have HR:=Shut.mk hr
 have HZ:=Shut.mk hz
 clear hr hz
 obtain ⟨id,up,us⟩:=H
 show Calls Tw.prog 52 #[.agg #[.int .i64 id,.bool up,.slice a us.length cap]] w fun e w'=>HoPost ⟨id,up,us⟩ w e w'
 dsimp only at *
 obtain ⟨n,hn⟩:∃ n,n=us.length:=⟨_,rfl⟩
 have HN:=Shut.mk hn
 rw [<-hn] at HS0 hl ⊢
 clear hn
 go_enter Tw.func52,Tw.ntmps52
 go_upto_region 1 with fail
 refine wp_shade (fun W=>SL w W [bxS (w.heap.size+1) [.int .i64 0,.bool false,.slice none 0 0],bxS w.heap.size [.int .i64 id,.bool up,.slice a n cap]]) HS0.out ?_
 intro W0 hW
 have HW:=Shut.mk hW
 clear HS0 hW
 obtain ⟨W1,hmk,hown,hgr⟩:=run_make_own (P:=Tw.prog) W0 w.heap.size 43 49 i0 _ 4 Tw.underlying43 hin hz0 hz1 .i64 .i64 n (by rw [hz2];omega) (by unfold maxLen;omega) HW.out.bel.size
 have HO:=Shut.mk (OwS.more (OwS.nil (ty:=49) (sz:=4) HW.out) (Below.refl _ _) hown hgr (.inr rfl))
 have x2:=(HW.out.bx 1 rfl 2 _ rfl).1
 have y2:=(HO.out.sl.bx 1 rfl 2 _ rfl).1
 obtain ⟨g0,hg0⟩:∃ q,q=W0.heap.size:=⟨_,rfl⟩
 rw [<-hg0] at hmk HO
 clear hown hgr HW hg0
 go_upto_region 3 with fail
 clear x2 y2 hmk
 go_loopw [3,13] (fun v9 i9 wr=>∃ (k:Nat),i9 = .int .i64 k/\k<=n/\Shut (OwS w wr [bxS (w.heap.size+1) [.int .i64 0,.bool false,.slice none 0 0],bxS w.heap.size [.int .i64 id,.bool up,.slice a n cap]] 49 4 v9 k (unS (us.take k)))) (fun _ i9 _=>n - (intOf i9).toNat)
 case atStart=>exact ⟨0,rfl,Nat.zero_le _,HO⟩
 case round =>
  clear HO
  obtain ⟨k,rfl,hk,HW⟩:=hrel
  obtain ⟨av,cv,rfl⟩:=own_row_slice HW.out.own
  by_cases hlt:k<n
  ·have hku:k<us.length:=by rw [<-HN.out];exact hlt
   obtain ⟨b,off,u,rfl,hu,lb,hc⟩:=un_at HR.out HW.out.sl.bel hku
   obtain ⟨d0,d1,d2,d3⟩:=hc wr (Below.refl _ _)
   have k0:(0:Int)<=(k:Int):=by omega
   have k1:(k:Int)<(n:Int):=by omega
   have HUT:Shut (u.text.size<=1048576):=⟨by rw [hu];exact HZ.out _ (List.getElem_mem hku)⟩
   have HNX:Shut (unS (us.take (k+1))=unS (us.take k)++[.int .i64 u.group,.int .i64 u.index,.string u.text,.int .i64 u.sum]):=⟨by rw [List.take_succ_eq_append_getElem hku,<-hu,uns_app];simp [unS,unC]⟩
   have HX:=Shut.mk (HW.out.box #[.int .i64 u.group,.int .i64 u.index,.string u.text,.int .i64 u.sum] 49)
   obtain ⟨bb,hbb⟩:∃ q,q=wr.heap.size:=⟨_,rfl⟩
   rw [<-hbb] at HX
   clear hc hu
   go_upto_region 5 with fail
   refine wp_shade (fun W=>OwS w W (bxS bb [.int .i64 u.group,.int .i64 u.index,.string u.text,.int .i64 u.sum]::[bxS (w.heap.size+1) [.int .i64 0,.bool false,.slice none 0 0],bxS w.heap.size [.int .i64 id,.bool up,.slice (some ⟨b,off,none⟩) n cap]]) 49 4 (.slice av k cv) k (unS (us.take k))) HX.out ?_
   intro W2 hW
   rw [<-hbb]
   have H2:=Shut.mk hW
   clear hW HX hbb d0 d1 d2 d3 HW
   have z2:=(H2.out.sl.bx 0 rfl 2 _ rfl).1
   go_upto_region 6 with (go_at_call 44;refine (implClone u.text _ (by have:=HUT.out;omega)).mono ?_;rintro e w3 ⟨rfl,hb⟩;have H3:=Shut.mk (H2.out.below hb);obtain ⟨y2,y2z⟩:=H3.out.sl.bx 0 rfl 2 _ rfl;clear hb z2 H2)
   have H4:=Shut.mk (H3.out.put 0 rfl 2 (.string u.text) (by simp))
   simp only [List.set_cons_zero,List.set_cons_succ] at H4
   refine wp_shade (fun W=>OwS w W (bxS bb [.int .i64 u.group,.int .i64 u.index,.string u.text,.int .i64 u.sum]::[bxS (w.heap.size+1) [.int .i64 0,.bool false,.slice none 0 0],bxS w.heap.size [.int .i64 id,.bool up,.slice (some ⟨b,off,none⟩) n cap]]) 49 4 (.slice av k cv) k (unS (us.take k))) H4.out ?_
   intro W4 hW
   have H5:=Shut.mk hW
   clear hW H4 H3 y2 y2z
   have z0:=(H5.out.sl.bx 0 rfl 0 _ rfl).1
   have z1:=(H5.out.sl.bx 0 rfl 1 _ rfl).1
   have z2:=(H5.out.sl.bx 0 rfl 2 _ rfl).1
   have z3:=(H5.out.sl.bx 0 rfl 3 _ rfl).1
   have lz:bb<W4.heap.size:=(show WCells W4 bb _ from H5.out.sl.at 0 rfl).1
   have hown:=H5.out.own
   have hbs:=H5.out.sl.bel.size
   go_wp2_with (at_builtin;refine wpList_append_own_at _ rfl _ _ 43 rfl w.heap.size 49 i0 _ 4 40 Tw.underlying43 hin hz0 hz1 hz2 rfl (by decide) _ _ _ rfl (hown.alloc _) ⟨W4.heap.size,0,none⟩ 1 1 [.int .i64 u.group,.int .i64 u.index,.string u.text,.int .i64 u.sum] rfl rfl (World.news_of_block (cs:=#[.int .i64 u.group,.int .i64 u.index,.string u.text,.int .i64 u.sum]) (t:=49) (fr:=(0,0)) (heap_alloc_new W4 _)) ?c2 ?c3 ?c4 ?c5 ?_)
   case c2=>simp [Value.oneCell']
   case c3=>unfold maxLen;omega
   case c4=>omega
   case c5=>first | omega | (simp;omega)
   intro v9 w9 ho hg _ hat
   have HL9:=Shut.mk (H5.out.more ((Below.refl _ _).alloc (Nat.le_refl _) _) ho hg (by simpa using hat)).tail
   rw [<-HNX.out] at HL9
   clear ho hg hat hown hbs z0 z1 z2 z3 lz H5
   go_wp2_with fail
   go_roundw
   case rel=>exact ⟨k+1,by go_num,by omega,HL9⟩
   case measure=>simp [intOf];omega
  ·obtain rfl:k=n:=by omega
   rw [List.take_of_length_le (by have:=HN.out;omega)] at HW
   obtain ⟨x2,x2z⟩:=HW.out.sl.bx 1 rfl 2 _ rfl
   have HP:=Shut.mk (HW.out.put 1 rfl 2 (.slice av k cv) (by simp))
   simp only [List.set_cons_zero,List.set_cons_succ] at HP
   go_upto_region 9 with fail
   refine wp_shade (fun W'=>OwS w W' [bxS (w.heap.size+1) [.int .i64 0,.bool false,.slice none 0 0],bxS w.heap.size [.int .i64 id,.bool up,.slice av k cv]] 49 4 (.slice av k cv) k (unS us)) HP.out ?_
   intro W7 h7
   have H7:=Shut.mk h7
   clear h7 HP x2 x2z HW
   have z0:=(H7.out.sl.bx 1 rfl 0 _ rfl).1
   have z1:=(H7.out.sl.bx 1 rfl 1 _ rfl).1
   have z2:=(H7.out.sl.bx 1 rfl 2 _ rfl).1
   obtain ⟨r0,r0z⟩:=H7.out.sl.bx 0 rfl 0 _ rfl
   obtain ⟨r1,r1z⟩:=H7.out.sl.bx 0 rfl 1 _ rfl
   obtain ⟨r2,r2z⟩:=H7.out.sl.bx 0 rfl 2 _ rfl
   go_wp2_with fail
   have HE:=Shut.mk ((((H7.out.put 0 rfl 0 (.int .i64 id) (by simp)).put 0 rfl 1 (.bool up) (by simp)).put 0 rfl 2 (.slice av k cv) (by simp)))
   obtain ⟨a8,c8,e8,hf8,hc8⟩:=HE.out.frw
   obtain ⟨rfl,rfl⟩:av=a8/\cv=c8:=by simpa using e8
   refine bodyPost_ret (v:=.agg #[.int .i64 id,.bool up,.slice av k cv]) (by simp [results,Tw.results52,go_sem,r0,r1,r2]) rfl ⟨av,cv,by rw [HN.out],hf8,by have:=HN.out;show us.length<=cv;omega,HE.out.sl.bel⟩
end Go.Proofs.YteaieagkjepgiaaGreatDoorT
/- . -/
namespace Go.Proofs.YteaieagkjepgiaaGreatDoorT
set_option maxRecDepth 100000
open Go.RowKit BigFrame
attribute [local go_sem ↓] Go.wp_at_zero Go.wp_at_succ
set_option maxRecDepth 100000 in
theorem testHost (r:HoR) (q:Nat) (x:Int) (w:World) (h0:w.cell? ⟨q,0,none⟩=some (.int .i64 x)) (hl:q<w.heap.size) :
  Calls Tw.prog 55 #[hov r.h r.loc r.cap,.pointer (some ⟨q,0,none⟩)] w fun e w'=>e = .returned (.bool (r.h.id==x))/\Below w.heap.size w w':=by
 obtain ⟨⟨id,up,us⟩,a,cap⟩:=r
 dsimp only [hov]
 generalize us.length=n
 have HS0:=Shut.mk ((SL.start w).new #[.int .i64 id,.bool up,.slice a n cap] 45)
 have HC:Shut (∀ W,Below w.heap.size w W->W.cell? ⟨q,0,none⟩=some (.int .i64 x)):=⟨fun W hW=>(hW.cell (p:=⟨q,0,none⟩) hl).trans h0⟩
 clear h0
 go_enter Tw.func55,Tw.ntmps55
 go_upto_region 1 with fail
 refine wp_shade (fun W=>SL w W [bxS w.heap.size [.int .i64 id,.bool up,.slice a n cap]]) HS0.out ?_
 intro W hW
 have H:=Shut.mk hW
 have c9:=HC.out _ hW.bel
 clear HS0 hW
 have x0:=(H.out.bx 0 rfl 0 _ rfl).1
 go_wp2_with fail
 go_ret
 exact ⟨rfl,H.out.bel⟩
set_option maxRecDepth 100000 in
set_option maxHeartbeats 1000000 in
theorem indexHost (a:Option Addr) (rs:List HoR) (n cap k q:Nat) (x:Int) (w:World) (hr:HsRow w a rs) (hn:n=rs.length) (hl:n<=1048576) (hk:fstI (hms rs) x=k) (hkl:k<n) (h0:w.cell? ⟨q,0,none⟩=some (.int .i64 x)) (hq:q<w.heap.size) :
  Calls Tw.prog 54 #[.slice a n cap,.func (.func 55) #[] #[.pointer (some ⟨q,0,none⟩)]] w fun e w'=>e = .returned (.int .i64 (k:Nat))/\Below w.heap.size w w':=by
 have hb:∀ i (h:i<rs.length),i<k->(rs[i].h.id==x)=false:=fun i h hi=>by
  have q:=List.not_of_lt_findIdx (p:=fun h:HM=>h.id==x) (xs:=hms rs) (i:=i) (by show i<fstI (hms rs) x;omega)
  simpa [hms] using q
 have he:∀ h:k<rs.length,(rs[k].h.id==x)=true:=fun h=>by
  have q:=fst_id (hs:=hms rs) (x:=x) (by rw [hk,hms_len];exact h)
  simp only [hk] at q
  simpa [hms] using q
 have HR:=Shut.mk hr
 have HB:=Shut.mk hb
 have HE:=Shut.mk he
 have HN:=Shut.mk hn
 have HCC:Shut (∀ (W:World) (r:HoR),Below w.heap.size w W->Calls Tw.prog 55 #[hov r.h r.loc r.cap,.pointer (some ⟨q,0,none⟩)] W fun e w'=>e = .returned (.bool (r.h.id==x))/\Below W.heap.size W w'):=⟨fun W r hb=>testHost r q x W ((hb.cell (p:=⟨q,0,none⟩) hq).trans h0) (Nat.lt_of_lt_of_le hq hb.size)⟩
 clear hr hb he hn hk h0
 go_enter Tw.func54,Tw.ntmps54
 go_wp2_with fail
 go_loopw [8] (fun iv wr=>∃ i:Nat,iv = .int .i64 i/\i<=k/\Shut (Below w.heap.size w wr)) (fun iv _=>n - (intOf iv).toNat)
 case atStart=>exact ⟨0,rfl,Nat.zero_le _,⟨Below.refl _ _⟩⟩
 case round =>
  obtain ⟨i,rfl,hi,HW⟩:=hrel
  have hir:i<rs.length:=by have:=HN.out;omega
  have i0:(0:Int)<=(i:Int):=by omega
  have i1:(i:Int)<(n:Int):=by omega
  obtain ⟨b,off,r,rfl,hre,lb,hc⟩:=hs_at HR.out HW.out hir
  obtain ⟨d0,d1,d2,d3⟩:=hc wr (Below.refl _ _)
  have HCK:=Shut.mk (HCC.out wr r HW.out)
  by_cases e:i=k
  ·have ht:(r.h.id==x)=true:=by subst e;rw [hre];exact HE.out hir
   rw [ht] at HCK
   have HI:=Shut.mk e
   clear hc hre e ht
   obtain ⟨⟨rid,rup,rus⟩,rl,rc⟩:=r
   dsimp only [hov] at HCK d0 d1 d2 d3
   generalize rus.length=m at HCK d2
   go_wp2_with (go_at_call 55;refine HCK.out.mono ?_;rintro e w1 ⟨rfl,hb1⟩;have HB1:=Shut.mk (HW.out.trans (hb1.mono HW.out.size));clear hb1)
   go_ret
   exact ⟨by rw [HI.out];rfl,HB1.out⟩
  ·have ht:(r.h.id==x)=false:=by rw [hre];exact HB.out i hir (by omega)
   rw [ht] at HCK
   have hik:i+1<=k:=by omega
   clear hc hre e ht
   obtain ⟨⟨rid,rup,rus⟩,rl,rc⟩:=r
   dsimp only [hov] at HCK d0 d1 d2 d3
   generalize rus.length=m at HCK d2
   go_wp2_with (go_at_call 55;refine HCK.out.mono ?_;rintro e w1 ⟨rfl,hb1⟩;have HB1:=Shut.mk (HW.out.trans (hb1.mono HW.out.size));clear hb1)
   go_roundw
   case rel=>exact ⟨i+1,by go_num,hik,HB1⟩
   case measure=>simp [intOf];omega
set_option maxRecDepth 100000 in
set_option maxHeartbeats 1000000 in
theorem implFirst (b off:Nat) (rs:List HoR) (n cap k:Nat) (x:Int) (w:World) (hr:HsRow w (some ⟨b,off,none⟩) rs) (hn:n=rs.length) (hl:n<=1048576) (hk:fstI (hms rs) x=k) (hkl:k<n) :
  Calls Tw.prog 24 #[.slice (some ⟨b,off,none⟩) n cap,.int .i64 x] w fun e w'=>e = .returned (.pointer (some ⟨b,off+k*3,none⟩))/\Below w.heap.size w w':=by
 have HS0:=Shut.mk ((SL.start w).new #[.int .i64 x] 3)
 have HIX:Shut (∀ W q,SL w W [bxS q [.int .i64 x]]->Calls Tw.prog 54 #[.slice (some ⟨b,off,none⟩) n cap,.func (.func 55) #[] #[.pointer (some ⟨q,0,none⟩)]] W fun e w'=>e = .returned (.int .i64 (k:Nat))/\Below W.heap.size W w'):=⟨fun W q h=>indexHost _ rs n cap k q x W (hr.stays h.bel) hn hl hk hkl (h.bx 0 rfl 0 _ rfl).1 (h.at 0 rfl).1⟩
 have k0:(0:Int)<=(k:Int):=by omega
 have k1:(k:Int)<(n:Int):=by omega
 clear hr hn hk
 go_enter Tw.func24,Tw.ntmps24
 go_upto_region 1 with fail
 obtain ⟨q,hq⟩:∃ q,q=w.heap.size:=⟨_,rfl⟩
 rw [<-hq] at HS0 ⊢
 refine wp_shade (fun W=>SL w W [bxS q [.int .i64 x]]) HS0.out ?_
 intro W hW
 have H:=Shut.mk hW
 clear HS0 hW hq
 go_wp2_with (go_at_call 54;refine (HIX.out _ _ H.out).mono ?_;rintro e w1 ⟨rfl,hb1⟩;have HB1:=Shut.mk (H.out.below hb1).bel;clear hb1)
 go_ret
 exact ⟨rfl,HB1.out⟩
set_option maxRecDepth 100000 in
set_option maxHeartbeats 4000000 in
theorem implCopyHosts (a:Option Addr) (rs:List HoR) (cap:Nat) (w:World) (hr:HsRow w a rs) (hl:rs.length<=1048576) (hp:∀ r ∈ rs,r.h.us.length<=1048576) (hu:∀ r ∈ rs,∀ u ∈ r.h.us,u.text.size<=1048576) :
  Calls Tw.prog 22 #[.slice a rs.length cap] w fun e w'=>HsPost (hms rs) w e w':=by
 obtain ⟨i0,hin,hz0,hz1,hz2⟩:=info_parts infoHost15
 obtain ⟨n,hn⟩:∃ n,n=rs.length:=⟨_,rfl⟩
 have HN:=Shut.mk hn
 have HR:=Shut.mk (And.intro hr (And.intro hp hu))
 rw [<-hn]
 rw [<-hn] at hl
 obtain ⟨W1,hmk,hown,hgr⟩:=run_make_own (P:=Tw.prog) w w.heap.size 24 45 i0 _ 3 Tw.underlying24 hin hz0 hz1 .i64 .i64 n (by rw [hz2];omega) (by unfold maxLen;omega) (Nat.le_refl _)
 have H0:Shut (HApp w W1 (.slice (some ⟨w.heap.size,0,none⟩) 0 n) []):=⟨⟨(Below.refl _ _).grown hgr (Nat.le_refl _) (fun k e=>by cases e),hown,fun r hr=>(by cases hr),.nil,fun r hr=>(by cases hr)⟩⟩
 clear hr hp hu hn hown hgr
 go_enter Tw.func22,Tw.ntmps22
 go_wp2_with fail
 clear hmk
 go_loopw [3,11] (fun v i9 wr=>∃ (k:Nat),i9 = .int .i64 (k:Nat)/\k<=n/\Shut (∃ gs,gs.length=k/\hms gs=hms (rs.take k)/\HApp w wr v gs)) (fun _ i9 _=>n - (intOf i9).toNat)
 case atStart=>exact ⟨0,rfl,Nat.zero_le _,⟨[],rfl,by simp,H0.out⟩⟩
 case round =>
  clear H0
  obtain ⟨k,rfl,hk,HW⟩:=hrel
  obtain ⟨gs,hgl,hge,hgs⟩:=HW.out
  obtain ⟨av,cv,rfl⟩:=happ_any hgs
  have HG:=Shut.mk (And.intro hgl (And.intro hge hgs))
  rw [hgl]
  clear HW hge hgs
  by_cases hlt:k<n
  case neg =>
   obtain rfl:n=k:=by omega
   have HE:Shut (hms gs=hms rs):=⟨by rw [HG.out.2.1,List.take_of_length_le (Nat.le_of_eq HN.out.symm)]⟩
   clear hgl
   go_wp2_with fail
   go_ret
   obtain ⟨va,c,e,hc,hw⟩:=HG.out.2.2.done
   exact ⟨va,c,gs,by rw [HG.out.1] at e ⊢;rw [<-e];rfl,HE.out,hw,hc,HG.out.2.2.bel⟩
  have hkr:k<rs.length:=by rw [<-HN.out];exact hlt
  obtain ⟨b,off,r,rfl,hre,lb,hc⟩:=hs_at HR.out.1 HG.out.2.2.bel hkr
  obtain ⟨d0,d1,d2,d3⟩:=hc wr (Below.refl _ _)
  have hrl:r.h.us.length<=1048576:=by rw [hre];exact HR.out.2.1 _ (List.getElem_mem hkr)
  have hrt:∀ u ∈ r.h.us,u.text.size<=1048576:=by rw [hre];exact HR.out.2.2 _ (List.getElem_mem hkr)
  have HCP:Shut (∀ X,Below wr.heap.size wr X->Calls Tw.prog 52 #[hov r.h r.loc r.cap] X fun e w'=>HoPost r.h X e w'):=⟨fun X hX=>implCopyHost r.h r.loc r.cap X (d3.stays hX) (by omega) hrt⟩
  have HNX:Shut (hms (rs.take (k+1))=hms (rs.take k)++[r.h]):=⟨by rw [List.take_succ_eq_append_getElem hkr,<-hre];simp [hms]⟩
  obtain ⟨⟨rid,rup,rus⟩,rl,rc⟩:=r
  dsimp only [hov] at *
  obtain ⟨m,hm⟩:∃ m,m=rus.length:=⟨_,rfl⟩
  unfold HoPost at HCP
  dsimp only [hov] at HCP
  rw [<-hm] at d2 HCP
  have HM:=Shut.mk hm
  have k0:(0:Int)<=(k:Int):=by omega
  have k1:(k:Int)<(n:Int):=by omega
  clear hc hre d3 hm hrl hrt
  have HBX:=Shut.mk ((Below.refl wr.heap.size wr).alloc (Nat.le_refl _) (.cells #[.int .i64 rid,.bool rup,.slice rl m rc] 45))
  have hbx:=wcells_new wr #[.int .i64 rid,.bool rup,.slice rl m rc] 45
  go_upto_region 5 with fail
  refine wp_shade (fun W=>Below wr.heap.size wr W/\WCells W wr.heap.size [.int .i64 rid,.bool rup,.slice rl m rc]) ⟨HBX.out,hbx⟩ ?_
  rintro W5 ⟨hb5,hw5⟩
  clear HBX hbx d0 d1 d2
  have HB5:=Shut.mk hb5
  obtain ⟨e0,_⟩:=hw5.2 0 _ rfl
  obtain ⟨e1,_⟩:=hw5.2 1 _ rfl
  obtain ⟨e2,_⟩:=hw5.2 2 _ rfl
  clear hb5 hw5
  go_wp2_with (first
   | (go_at_call 52;refine (HCP.out _ HB5.out).mono ?_;rintro e w2 ⟨a2,c2,rfl,hF,hc2,hb2⟩;have hb3:=HB5.out.trans (hb2.mono HB5.out.size);have HC2:=Shut.mk (And.intro (frw_wide hF HB5.out.size (Nat.le_refl _)) (And.intro hc2 hb3));have hown:=(HG.out.2.2.below hb3).own;rw [HG.out.1] at hown;have hsz:=(HG.out.2.2.below hb3).bel.size;clear hF hc2 hb2 hb3)
   | (at_builtin;refine wpList_append_own_at _ rfl _ _ 24 rfl w.heap.size 45 i0 (.agg #[.int .i64 0,.bool false,.slice none 0 0]) 3 40 Tw.underlying24 hin hz0 hz1 hz2 rfl (by decide) _ _ _ rfl (hown.alloc _) ⟨w2.heap.size,0,none⟩ 1 1 (hC ⟨⟨rid,rup,rus⟩,a2,c2⟩) rfl rfl ?c1 ?c2 ?c3 ?c4 ?c5 ?_))
  case c1 =>
   intro j u hu
   have q:=((wcells_new w2 #[.int .i64 rid,.bool rup,.slice a2 m c2] 45).2 j u (by rw [HM.out];exact hu)).1
   cases j with
   | zero=>exact q
   | succ j=>simpa [Addr.add] using q
  case c2 =>
   intro u hu
   simp only [hC,List.mem_cons,List.not_mem_nil,or_false] at hu
   rcases hu with rfl | rfl | rfl <;> rfl
  case c3=>unfold maxLen;omega
  case c4=>omega
  case c5=>first | omega | (simp;omega)
  intro v9 w9 ho hg _ hat
  have HNW:=Shut.mk (HG.out.2.2.more ⟨rid,rup,rus⟩ a2 c2 HC2.out.2.2 HC2.out.1 (by rw [<-HM.out];exact HC2.out.2.1) ((Below.refl _ _).alloc (Nat.le_refl _) _) (by rw [HG.out.1];exact ho) (by rw [HG.out.1];exact hg) (by rw [HG.out.1];simpa using hat))
  clear ho hg hat hown hsz e0 e1 e2
  go_wp2_with fail
  go_roundw
  case rel=>exact ⟨k+1,by go_num,by omega,⟨gs++[⟨⟨rid,rup,rus⟩,a2,c2⟩],by rw [List.length_append,HG.out.1];rfl,by rw [HNX.out,<-HG.out.2.1];simp [hms],HNW.out⟩⟩
  case measure=>simp [intOf];omega
end Go.Proofs.YteaieagkjepgiaaGreatDoorT
/- . -/
namespace Go.Proofs.YteaieagkjepgiaaGreatDoorT
set_option maxRecDepth 100000
open Go.RowKit BigFrame
attribute [local go_sem ↓] Go.wp_at_zero Go.wp_at_succ
abbrev byS (b:Nat) (l:List UInt8):Str:=⟨fun W=>BRow W b l,b,b+1⟩
theorem BRow.turned {w w':World} {g lo hi:Nat} {L:List UInt8} (h:BRow w g L) (t:Turned w w' lo hi) (hd:g<lo\/hi<=g):BRow w' g L:=
 ⟨Nat.lt_of_lt_of_le h.1 t.size,fun i hi=>⟨(World.cell?_of_block (a:=⟨g,i,none⟩) (t.block g h.1 hd)).trans (h.2 i hi).1,(World.frozen?_of_block (a:=⟨g,i,none⟩) (t.block g h.1 hd)).trans (h.2 i hi).2⟩⟩
theorem byS.loc (b:Nat) (l:List UInt8):(byS b l).Loc:=fun _ _ _ _ h t hd=>BRow.turned h t (by rcases hd with h | h <;> (dsimp only [byS] at h;omega))
end Go.Proofs.YteaieagkjepgiaaGreatDoorT
