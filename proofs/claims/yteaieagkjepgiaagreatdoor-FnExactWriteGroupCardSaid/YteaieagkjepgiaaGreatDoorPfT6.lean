/- Texts of ours, laid one behind the other: TSlG, THoA, THsM, TTreC, TTreD, TTreE, TTreP, TTreQ, TGrwA, TSpH, TOwS. -/
import Derived.Test.YteaieagkjepgiaaGreatDoorPfT5
import Derived.Deep.CutRange
import Derived.Deep.RegionHeld3
import Derived.Deep.DrawnRows
import Derived.BigQuiet
import Derived.Maps.AppendAt
set_option linter.unusedVariables false
set_option linter.unusedSimpArgs false
/- . -/
namespace Go.Proofs.YteaieagkjepgiaaGreatDoorT
set_option maxRecDepth 100000
open Go.RowKit
structure Str where
 p:World->Prop
 lo:Nat
 hi:Nat
def Str.Loc (s:Str):Prop:=∀ W W' l h,s.p W->Turned W W' l h->(s.hi<=l\/h<=s.lo)->s.p W'
abbrev bxS (b:Nat) (X:List Value):Str:=⟨fun W=>WCells W b X,b,b+1⟩
abbrev rwS (va:Option Addr) (X:List Value) (lo hi:Nat):Str:=⟨fun W=>FRw W va X lo hi,lo,hi⟩
theorem bxS.loc (b:Nat) (X:List Value):(bxS b X).Loc:=fun _ _ _ _ h t hd=>h.turned t (by rcases hd with h | h <;> (dsimp only [bxS] at h;omega))
theorem rwS.loc (va:Option Addr) (X:List Value) (lo hi:Nat):(rwS va X lo hi).Loc:=fun _ _ l h hp t hd=>by
 rcases hp with e | ⟨g,h1,h2,h3,h4⟩
 ·exact .inl e
 ·exact .inr ⟨g,h1,h2,h3,h4.turned t (by rcases hd with e | e <;> (dsimp only [rwS] at e;omega))⟩
structure SL (w0 W:World) (S:List Str):Prop where
 bel:Below w0.heap.size w0 W
 is:∀ s ∈ S,s.p W/\s.Loc/\w0.heap.size<=s.lo/\s.hi<=W.heap.size
 apart:S.Pairwise fun s t=>s.hi<=t.lo\/t.hi<=s.lo
section
variable {w0 W W':World} {S:List Str} {s t:Str}
theorem SL.tail (h:SL w0 W (s::S)):SL w0 W S:=⟨h.bel,fun x hx=>h.is x (List.mem_cons_of_mem _ hx),(List.pairwise_cons.1 h.apart).2⟩
theorem SL.start (w:World):SL w w []:=⟨Below.refl _ _,fun _ h=>(by cases h),.nil⟩
theorem SL.below (h:SL w0 W S) (hb:Below W.heap.size W W'):SL w0 W' S:=
 ⟨h.bel.trans (hb.mono h.bel.size),fun s hs=>⟨(h.is s hs).2.1 W W' W'.heap.size W'.heap.size (h.is s hs).1 (Turned.of_below hb _ _) (.inl (Nat.le_trans (h.is s hs).2.2.2 hb.size)),(h.is s hs).2.1,(h.is s hs).2.2.1,Nat.le_trans (h.is s hs).2.2.2 hb.size⟩,h.apart⟩
theorem SL.drew (h:SL w0 W S):SL w0 W.drew S:=h.below (Below.drew (Below.refl _ _))
theorem SL.add (h:SL w0 W S) (hb:Below W.heap.size W W') (hp:s.p W') (hl:s.Loc) (h1:W.heap.size<=s.lo) (h2:s.hi<=W'.heap.size):SL w0 W' (s::S):=by
 have k:=h.below hb
 refine ⟨k.bel,fun x hx=>?_,List.pairwise_cons.2 ⟨fun x hx=>.inr (Nat.le_trans (h.is x hx).2.2.2 h1),h.apart⟩⟩
 rcases List.mem_cons.1 hx with rfl | hx
 ·exact ⟨hp,hl,Nat.le_trans h.bel.size h1,h2⟩
 ·exact k.is x hx
theorem SL.new (h:SL w0 W S) (cs:Array Value) (ty:TypeId):SL w0 (W.alloc (.cells cs ty)) (bxS W.heap.size cs.toList::S):=
 h.add ((Below.refl _ _).alloc (Nat.le_refl _) _) (wcells_new W cs ty) (bxS.loc _ _) (Nat.le_refl _) (by simp)
theorem SL.at (h:SL w0 W S) (i:Nat) (hs:S[i]?=some s):s.p W:=(h.is _ (List.mem_of_getElem? hs)).1
theorem SL.bx (h:SL w0 W S) (i:Nat) {b:Nat} {X:List Value} (hs:S[i]?=some (bxS b X)) (j:Nat) (v:Value) (hv:X[j]?=some v):W.cell? ⟨b,j,none⟩=some v/\W.frozen? ⟨b,j,none⟩=false:=(show WCells W b X from h.at i hs).2 j v hv
theorem SL.turn (h:SL w0 W S) (i:Nat) (hs:S[i]?=some s) (tu:Turned W W' s.lo s.hi) {q:World->Prop} (hq:q W') (hl:Str.Loc ⟨q,s.lo,s.hi⟩):SL w0 W' (S.set i ⟨q,s.lo,s.hi⟩):=by
 have hm:=h.is s (List.mem_of_getElem? hs)
 obtain ⟨hi,hie⟩:=List.getElem?_eq_some_iff.1 hs
 have hap:∀ j (hj:j<S.length),j ≠ i->S[j].hi<=s.lo\/s.hi<=S[j].lo:=fun j hj hne=>by
  have:=List.pairwise_iff_getElem.1 h.apart
  rcases Nat.lt_or_gt_of_ne hne with e | e
  ·have:=this j i hj hi e;rw [hie] at this;exact this
  ·have:=this i j hi hj e;rw [hie] at this;exact this.symm
 refine ⟨⟨h.bel.os ▸ tu.base.os ▸ rfl,?_,?_,?_,?_⟩,fun x hx=>?_,?_⟩
 ·exact tu.base.tape.trans h.bel.tape
 ·exact tu.base.output.trans h.bel.output
 ·exact Nat.le_trans h.bel.size tu.base.size
 ·intro k hk
  exact (tu.block k (Nat.lt_of_lt_of_le hk h.bel.size) (by omega)).trans (h.bel.block k hk)
 ·obtain ⟨j,hj,rfl⟩:=List.getElem_of_mem hx
  rw [List.length_set] at hj
  by_cases e:j=i
  ·subst e
   rw [List.getElem_set_self]
   exact ⟨hq,hl,hm.2.2.1,Nat.le_trans hm.2.2.2 tu.base.size⟩
  ·rw [List.getElem_set_ne (Ne.symm e)]
   have k:=h.is _ (List.getElem_mem hj)
   exact ⟨k.2.1 W W' _ _ k.1 tu (hap j hj e),k.2.1,k.2.2.1,Nat.le_trans k.2.2.2 tu.base.size⟩
 ·rw [List.pairwise_iff_getElem] at *
  intro a b ha hb hab
  rw [List.length_set] at ha hb
  have:=List.pairwise_iff_getElem.1 h.apart a b ha hb hab
  rw [List.getElem_set,List.getElem_set]
  split <;> split
  ·omega
  ·rename_i e1 e2;subst e1;rw [hie] at this;exact this
  ·rename_i e1 e2;subst e2;rw [hie] at this;exact this
  ·exact this
theorem SL.put (h:SL w0 W S) (i:Nat) {b:Nat} {X:List Value} (hs:S[i]?=some (bxS b X)) (j:Nat) (v:Value) (hj:j<X.length):SL w0 (W.setCell ⟨b,j,none⟩ v) (S.set i (bxS b (X.set j v))):=
 h.turn i hs (Turned.of_grown (gb_set' W b j v) (Nat.le_refl _) (Nat.lt_succ_self _)) ((show WCells W b X from h.at i hs).set j v hj) (bxS.loc _ _)
theorem SL.swap (h:SL w0 W (s::t::S)):SL w0 W (t::s::S):=by
 refine ⟨h.bel,fun x hx=>h.is x (by simp only [List.mem_cons] at hx ⊢;rcases hx with h | h | h <;> simp [h]),?_⟩
 have h1:=List.pairwise_cons.1 h.apart
 have h2:=List.pairwise_cons.1 h1.2
 exact List.pairwise_cons.2 ⟨fun x hx=>by
  rcases List.mem_cons.1 hx with rfl | hx
  ·exact (h1.1 t (List.mem_cons_self ..)).symm
  ·exact h2.1 x hx,List.pairwise_cons.2 ⟨fun x hx=>h1.1 x (List.mem_cons_of_mem _ hx),h2.2⟩⟩
theorem SL.grown (h:SL w0 W S) {row:Option Nat} (hg:W.grownBy W' row) (hr:∀ q,row=some q->w0.heap.size<=q/\∀ s ∈ S,s.hi<=q\/q<s.lo):SL w0 W' S:=by
 cases row with
 | none=>exact h.below ⟨hg.os,hg.tape,hg.output,hg.size,fun k hk=>hg.block k hk (by simp)⟩
 | some q =>
  have t:=Turned.of_grown hg (Nat.le_refl q) (Nat.lt_succ_self q)
  refine ⟨h.bel.grown hg h.bel.size fun k e=>by cases e;exact (hr q rfl).1,fun s hs=>⟨(h.is s hs).2.1 W W' _ _ (h.is s hs).1 t (by rcases (hr q rfl).2 s hs with e | e <;> omega),(h.is s hs).2.1,(h.is s hs).2.2.1,Nat.le_trans (h.is s hs).2.2.2 hg.size⟩,h.apart⟩
end
end Go.Proofs.YteaieagkjepgiaaGreatDoorT
/- . -/
namespace Go.Proofs.YteaieagkjepgiaaGreatDoorT
set_option maxRecDepth 100000
open Go.RowKit
attribute [local go_sem ↓] Go.wp_at_zero Go.wp_at_succ
abbrev hov (H:HM) (a:Option Addr) (cap:Nat):Value:=.agg #[.int .i64 H.id,.bool H.up,.slice a H.us.length cap]
def HoPost (H:HM) (w:World) (e:Ending) (w':World):Prop:=∃ a cap,e = .returned (hov H a cap)/\FRw w' a (unS H.us) w.heap.size w'.heap.size/\H.us.length<=cap/\Below w.heap.size w w'
theorem szHost_any (H:HM) (a:Option Addr) (cap:Nat) (left:Int) (w:World) (hr:UnRow w a H.us) (hf:UnFits H.us) (h0:0<=left) (h1:left<=1048576) :
  Calls Tw.prog 11 #[hov H a cap,.int .i64 left] w fun e w'=>SzPostUn left (H.us.length+unSum H.us) w e w':=by
 have HB0:=Shut.mk (show Below w.heap.size w (w.alloc (.cells #[.int .i64 H.id,.bool H.up,.slice a H.us.length cap] 34)) from (Below.refl _ _).alloc (Nat.le_refl _) _)
 have HR:=Shut.mk (hr.stays HB0.out)
 have HF:=Shut.mk hf
 clear hr hf
 go_enter Tw.func11,Tw.ntmps11
 go_wp2_with fail
 refine (szUnitS_any a H.us cap left _ HR.out HF.out h0 h1).mono ?_
 rintro e w2 ⟨r,rfl,hr1,hr2,hb2⟩
 have HB2:=Shut.mk (HB0.out.trans (hb2.mono HB0.out.size))
 have HR2:=Shut.mk hr2
 clear hb2 hr2
 by_cases hr:r<0
 ·go_wp2_with fail
  go_ret
  exact ⟨-1,rfl,by omega,by omega,HB2.out⟩
 ·go_wp2_with fail
  go_ret
  exact ⟨r,rfl,hr1,HR2.out,HB2.out⟩
theorem toHost_any (H:HM) (a:Option Addr) (cap:Nat) (w:World) (hr:UnRow w a H.us) (hl:H.us.length<=1048576) :
  Calls Tw.prog 18 #[hov H a cap] w fun e w'=>HoPost H w e w':=by
 have HS0:=Shut.mk ((((SL.start w).new #[.int .i64 H.id,.bool H.up,.slice a H.us.length cap] 34).new #[.int .i64 0,.bool false,.slice none 0 0] 45).new #[.int .i64 H.id,.bool H.up,.slice none 0 0] 45)
 simp only [World.size_alloc] at HS0
 have HR:=Shut.mk hr
 clear hr
 obtain ⟨id,up,us⟩:=H
 dsimp only at *
 obtain ⟨n,hn⟩:∃ n,n=us.length:=⟨_,rfl⟩
 have HN:=Shut.mk hn
 show Calls Tw.prog 18 #[.agg #[.int .i64 id,.bool up,.slice a us.length cap]] w fun e w'=>HoPost ⟨id,up,us⟩ w e w'
 rw [<-hn] at HS0 hl ⊢
 clear hn
 go_enter Tw.func18,Tw.ntmps18
 go_upto_region 4 with fail
 refine wp_shade (fun W=>SL w W [bxS (w.heap.size+1+1) [.int .i64 id,.bool up,.slice none 0 0],bxS (w.heap.size+1) [.int .i64 0,.bool false,.slice none 0 0],bxS w.heap.size [.int .i64 id,.bool up,.slice a n cap]]) HS0.out ?_
 intro W hW
 have HW:=Shut.mk hW
 have HW0:=Shut.mk hW.bel.size
 clear HS0 hW
 have x2:=(HW.out.bx 2 rfl 2 _ rfl).1
 go_upto_region 5 with (go_at_call 40;rw [HN.out];refine (toUnitS_any a us cap W (HR.out.stays HW.out.bel) (by have:=HN.out;omega)).mono ?_;rintro e w2 ⟨g,rfl,hg,hw,hb⟩;have HS:=Shut.mk (HW.out.add (s:=rwS (some ⟨g,0,none⟩) (unS us) W.heap.size w2.heap.size) hb (FRw.of_wcells hw hg hw.1) (rwS.loc _ _ _ _) (Nat.le_refl _) (Nat.le_refl _));rw [<-HN.out];have y2:=HS.out.bx 1 rfl 2 _ rfl;clear hb hw hg x2 HW;obtain ⟨y2,y2z⟩:=y2)
 have HP:=Shut.mk (HS.out.put 1 rfl 2 (.slice (some ⟨g,0,none⟩) n n) (by simp))
 simp only [List.set_cons_zero,List.set_cons_succ] at HP
 refine wp_shade (fun W'=>SL w W' [rwS (some ⟨g,0,none⟩) (unS us) W.heap.size w2.heap.size,bxS (w.heap.size+1+1) [.int .i64 id,.bool up,.slice (some ⟨g,0,none⟩) n n],bxS (w.heap.size+1) [.int .i64 0,.bool false,.slice none 0 0],bxS w.heap.size [.int .i64 id,.bool up,.slice a n cap]]/\W'.heap.size=w2.heap.size) ⟨HP.out,by simp [World.setCell]⟩ ?_
 intro W3 h3
 have H3:=Shut.mk h3.1
 have HZ:=Shut.mk h3.2
 have hlt:W.heap.size<=w2.heap.size:=by have:=HS.out.is _ (List.mem_cons_self ..);have h1:=this.2.2.2;have:=HS.out.at 0 rfl;rcases this with ⟨e,_⟩ | ⟨q,_,h4,h5,_⟩;cases e;dsimp only at h1;omega
 have HL:=Shut.mk (And.intro hlt HW0.out)
 have z0:=(H3.out.bx 1 rfl 0 _ rfl).1
 have z1:=(H3.out.bx 1 rfl 1 _ rfl).1
 have z2:=(H3.out.bx 1 rfl 2 _ rfl).1
 obtain ⟨r0,r0z⟩:=H3.out.bx 2 rfl 0 _ rfl
 obtain ⟨r1,r1z⟩:=H3.out.bx 2 rfl 1 _ rfl
 obtain ⟨r2,r2z⟩:=H3.out.bx 2 rfl 2 _ rfl
 clear h3 HS HP y2 y2z hlt HW0
 go_wp2_with fail
 have HE:=Shut.mk ((((H3.out.put 2 rfl 0 (.int .i64 id) (by simp)).put 2 rfl 1 (.bool up) (by simp)).put 2 rfl 2 (.slice (some ⟨g,0,none⟩) n n) (by simp)))
 refine bodyPost_ret (v:=.agg #[.int .i64 id,.bool up,.slice (some ⟨g,0,none⟩) n n]) (by simp [results,Tw.results18,go_sem,r0,r1,r2]) rfl ⟨some ⟨g,0,none⟩,n,by rw [HN.out],?_,by have:=HN.out;show us.length<=n;omega,HE.out.bel⟩
 have hq:FRw _ (some ⟨g,0,none⟩) (unS us) W.heap.size w2.heap.size:=HE.out.at 0 rfl
 rcases hq with ⟨e,_⟩ | ⟨q,e,h4,h5,h6⟩
 ·cases e
 ·exact .inr ⟨q,e,by have:=HL.out.2;omega,by have:=HZ.out;simp [World.setCell];omega,h6⟩
theorem eqHost_same (H:HM) (a b:Option Addr) (ca cb:Nat) (w:World) (ha:UnRow w a H.us) (hb:UnRow w b H.us) (hl:H.us.length<=9000000) :
  Calls Tw.prog 25 #[hov H a ca,hov H b cb] w fun e w'=>e = .returned (.bool true)/\Below w.heap.size w w':=by
 have hb0:Below w.heap.size w ((w.alloc (.cells #[.int .i64 H.id,.bool H.up,.slice a H.us.length ca] 45)).alloc (.cells #[.int .i64 H.id,.bool H.up,.slice b H.us.length cb] 45)):=((Below.refl _ _).alloc (Nat.le_refl _) _).alloc (by simp) _
 have HA:=Shut.mk (ha.stays hb0)
 have HB:=Shut.mk (hb.stays hb0)
 have HB0:=Shut.mk hb0
 have hu:(H.up != H.up)=false:=by simp
 clear ha hb hb0
 go_enter Tw.func25,Tw.ntmps25
 go_wp2_with fail
 refine (eqUnitS_same a b H.us ca cb _ HA.out HB.out hl).mono ?_
 rintro e w2 ⟨rfl,hb2⟩
 have HB2:=Shut.mk (HB0.out.trans (hb2.mono HB0.out.size))
 clear hb2
 go_wp2_with fail
 go_ret
 exact ⟨rfl,HB2.out⟩
end Go.Proofs.YteaieagkjepgiaaGreatDoorT
/- . -/
namespace Go.Proofs.YteaieagkjepgiaaGreatDoorT
set_option maxRecDepth 100000
open Go.RowKit
structure HoR where
 h:HM
 loc:Option Addr
 cap:Nat
instance:Inhabited HoR:=⟨⟨default,none,0⟩⟩
def hC (r:HoR):List Value:=[.int .i64 r.h.id,.bool r.h.up,.slice r.loc r.h.us.length r.cap]
theorem hC_len (r:HoR):(hC r).length=3:=rfl
def HK:NK HoR:=⟨hC,3,hC_len,HoR.loc,fun r=>unS r.h.us⟩
def hS (rs:List HoR):List Value:=HK.cells rs
theorem hS_len (rs:List HoR):(hS rs).length=rs.length*3:=HK.cells_len rs
def hms (rs:List HoR):List HM:=rs.map HoR.h
theorem hms_len (rs:List HoR):(hms rs).length=rs.length:=by simp [hms]
def HsRow (w:World) (a:Option Addr) (rs:List HoR):Prop:=CRow w a (hS rs)/\∀ r ∈ rs,UnRow w r.loc r.h.us
theorem HsRow.stays {w w':World} {a:Option Addr} {rs:List HoR} (h:HsRow w a rs) (hb:Below w.heap.size w w'):HsRow w' a rs:=⟨h.1.stays hb,fun r hr=>(h.2 r hr).stays hb⟩
theorem HsRow.at {w:World} {a:Option Addr} {rs:List HoR} (h:HsRow w a rs) (hp:0<rs.length):∃ b off,a=some ⟨b,off,none⟩/\b<w.heap.size/\∀ k (hk:k<rs.length),w.cell? ⟨b,off+k*3,none⟩=some (.int .i64 rs[k].h.id)/\w.cell? ⟨b,off+k*3+1,none⟩=some (.bool rs[k].h.up)/\w.cell? ⟨b,off+k*3+2,none⟩=some (.slice rs[k].loc rs[k].h.us.length rs[k].cap)/\UnRow w rs[k].loc rs[k].h.us:=by
 obtain ⟨b,off,e,lb,hc⟩:=h.1 (by rw [hS_len];omega)
 refine ⟨b,off,e,lb,fun k hk=>?_⟩
 have q:∀ i v,i<3->(hC rs[k])[i]?=some v->w.cell? ⟨b,off+(k*3+i),none⟩=some v:=fun i v hi hv=>hc _ v (by
  have:=HK.cells_get rs k hk i hi
  exact this.trans hv)
 have q0:=q 0 _ (by omega) rfl
 have q1:=q 1 _ (by omega) rfl
 have q2:=q 2 _ (by omega) rfl
 rw [Nat.add_zero] at q0
 rw [<-Nat.add_assoc] at q1 q2
 exact ⟨q0,q1,q2,h.2 _ (List.getElem_mem hk)⟩
theorem hs_at {w W:World} {a:Option Addr} {rs:List HoR} (hr:HsRow w a rs) (hb:Below w.heap.size w W) {k:Nat} (hk:k<rs.length):∃ b off r,a=some ⟨b,off,none⟩/\r=rs[k]/\b<w.heap.size/\∀ X,Below W.heap.size W X->X.cell? ⟨b,off+k*3,none⟩=some (.int .i64 r.h.id)/\X.cell? ⟨b,off+k*3+1,none⟩=some (.bool r.h.up)/\X.cell? ⟨b,off+k*3+2,none⟩=some (.slice r.loc r.h.us.length r.cap)/\UnRow X r.loc r.h.us:=by
 obtain ⟨b,off,e,lb,_⟩:=hr.at (by omega)
 refine ⟨b,off,rs[k],e,rfl,lb,fun X hX=>?_⟩
 obtain ⟨b',off',e',_,hc⟩:=(hr.stays (hb.trans (hX.mono hb.size))).at (by omega)
 rw [e] at e'
 simp only [Option.some.injEq,Addr.mk.injEq,and_true] at e'
 obtain ⟨rfl,rfl⟩:=e'
 exact hc k hk
def HsW (w:World) (va:Option Addr) (rs:List HoR) (lo hi:Nat):Prop:=(∀ r ∈ rs,r.h.us.length<=r.cap)/\((va=none/\rs=[])\/∃ g,va=some ⟨g,0,none⟩/\GW HK w g rs lo hi)
theorem HsW.row {w:World} {va:Option Addr} {rs:List HoR} {lo hi:Nat} (h:HsW w va rs lo hi):HsRow w va rs:=by
 rcases h.2 with ⟨rfl,rfl⟩ | ⟨g,rfl,hg⟩
 ·exact ⟨fun hp=>by rw [hS_len] at hp;simp at hp,fun r hr=>by cases hr⟩
 ·exact ⟨hg.gr.1.crow,fun r hr=>(hg.gr.2 r hr).crow⟩
theorem HsW.turned {w w':World} {va:Option Addr} {rs:List HoR} {lo hi lo' hi':Nat} (h:HsW w va rs lo hi) (t:Turned w w' lo' hi') (hd:hi<=lo'\/hi'<=lo):HsW w' va rs lo hi:=
 ⟨h.1,h.2.imp id fun ⟨g,e,hg⟩=>⟨g,e,hg.turned t hd⟩⟩
theorem HsW.below {w w':World} {va:Option Addr} {rs:List HoR} {lo hi:Nat} (h:HsW w va rs lo hi) (hb:Below w.heap.size w w'):HsW w' va rs lo hi:=⟨h.1,h.2.imp id fun ⟨g,e,hg⟩=>⟨g,e,hg.below hb⟩⟩
theorem HsW.wide {w:World} {va:Option Addr} {rs:List HoR} {lo hi lo' hi':Nat} (h:HsW w va rs lo hi) (h1:lo'<=lo) (h2:hi<=hi'):HsW w va rs lo' hi':=⟨h.1,h.2.imp id fun ⟨g,e,hg⟩=>⟨g,e,hg.wide h1 h2⟩⟩
abbrev hsS (va:Option Addr) (rs:List HoR) (lo hi:Nat):Str:=⟨fun W=>HsW W va rs lo hi,lo,hi⟩
theorem hsS.loc (va:Option Addr) (rs:List HoR) (lo hi:Nat):(hsS va rs lo hi).Loc:=fun _ _ _ _ h t hd=>HsW.turned h t hd
def HsPost (hs:List HM) (w:World) (e:Ending) (w':World):Prop:=∃ va cap rs,e = .returned (.slice va rs.length cap)/\hms rs=hs/\HsW w' va rs w.heap.size w'.heap.size/\rs.length<=cap/\Below w.heap.size w w'
def hsSum:List HM->Nat
 | []=>0
 | h::hs=>(h.us.length+unSum h.us)+hsSum hs
theorem hsSum_take (hs:List HM) (k:Nat) (h:k<hs.length):hsSum (hs.take (k+1))=hsSum (hs.take k)+(hs[k].us.length+unSum hs[k].us):=by
 induction hs generalizing k with
 | nil=>simp at h
 | cons a hs ih =>
  cases k with
  | zero=>simp [hsSum]
  | succ k =>
   have:=ih k (by simpa using h)
   simp only [List.take_succ_cons,hsSum,List.getElem_cons_succ] at this ⊢
   omega
theorem hsSum_mem {hs:List HM} {h:HM} (hm:h ∈ hs):h.us.length+unSum h.us<=hsSum hs:=by
 induction hs with
 | nil=>cases hm
 | cons a hs ih =>
  simp only [hsSum]
  rcases List.mem_cons.1 hm with rfl | hm
  ·omega
  ·have:=ih hm;omega
def HsFits (hs:List HM):Prop:=hs.length<=9223372036854775807/\∀ h ∈ hs,UnFits h.us/\-9223372036854775808<=h.id/\h.id<=9223372036854775807
def marksH (k:Nat):List HM->List HM
 | []=>[]
 | h::hs=>⟨(k:Nat),(k+1) % 3==0,marksU (k+2) h.us.length⟩::marksH (k+2+4*h.us.length) hs
def endH (k:Nat):List HM->Nat
 | []=>k
 | h::hs=>endH (k+2+4*h.us.length) hs
theorem endH_eq (k:Nat) (hs:List HM):endH k hs=k+2*hs.length+4*(hs.map fun h=>h.us.length).sum:=by
 induction hs generalizing k with
 | nil=>simp [endH]
 | cons h hs ih=>simp only [endH,ih,List.length_cons,List.map_cons,List.sum_cons];omega
theorem marksH_len (k:Nat) (hs:List HM):(marksH k hs).length=hs.length:=by
 induction hs generalizing k with
 | nil=>rfl
 | cons h hs ih=>simp [marksH,ih]
theorem endH_take (k:Nat) (hs:List HM) (j:Nat) (hj:j<hs.length):endH k (hs.take (j+1))=endH k (hs.take j)+2+4*hs[j].us.length:=by
 induction hs generalizing k j with
 | nil=>simp at hj
 | cons h hs ih =>
  cases j with
  | zero=>simp [endH]
  | succ j=>simpa [endH] using ih (k+2+4*h.us.length) j (by simpa using hj)
theorem marksH_at (k:Nat) (hs:List HM) (j:Nat) (hj:j<hs.length):(marksH k hs)[j]'(by rw [marksH_len];exact hj)=⟨(endH k (hs.take j):Nat),(endH k (hs.take j)+1) % 3==0,marksU (endH k (hs.take j)+2) hs[j].us.length⟩:=by
 induction hs generalizing k j with
 | nil=>simp at hj
 | cons h hs ih =>
  cases j with
  | zero=>simp [marksH,endH]
  | succ j=>simpa [marksH,endH] using ih (k+2+4*h.us.length) j (by simpa using hj)
theorem GW.host {w w2:World} {g lo:Nat} {rs:List HoR} (h:GW HK w g rs lo w.heap.size) (hb:Below w.heap.size w w2) (j:Nat) (hj:j<rs.length) (H:HM) (a:Option Addr) (cap:Nat) (hF:FRw w2 a (unS H.us) w.heap.size w2.heap.size) (hlo:lo<=w.heap.size) :
  GW HK (setW w2 g (j*3) (hC ⟨H,a,cap⟩)) g (rs.set j ⟨H,a,cap⟩) lo w2.heap.size:=by
 have k:=(h.below hb).wide (Nat.le_refl _) hb.size
 refine k.put j hj ⟨H,a,cap⟩ ?_ fun s hs h1 h2 e=>?_
 ·rcases hF with ⟨_,e⟩ | ⟨q,e,q1,q2,q3⟩
  ·exact .inl e
  ·exact .inr ⟨q,e,by omega,q2,by have:=h.ghi;omega,q3⟩
 ·rcases h.rows s hs with q | ⟨b,e1,q1,q2,q3,q4⟩
  ·exact h1 q
  ·rcases hF with ⟨_,q⟩ | ⟨q,e2,p1,p2,p3⟩
   ·exact h2 q
   ·have:some (⟨b,0,none⟩:Addr)=some ⟨q,0,none⟩:=by rw [<-e1,<-e2];exact e
    simp only [Option.some.injEq,Addr.mk.injEq,and_true] at this
    omega
theorem setW3 (w:World) (g o:Nat) (v0 v1 v2:Value):setW w g o [v0,v1,v2]=((w.setCell ⟨g,o,none⟩ v0).setCell ⟨g,o+1,none⟩ v1).setCell ⟨g,o+2,none⟩ v2:=rfl
theorem setW_sz (w:World) (g off:Nat) (vs:List Value):(setW w g off vs).heap.size=w.heap.size:=by
 induction vs generalizing w off with
 | nil=>rfl
 | cons v vs ih=>show (setW _ g (off+1) vs).heap.size=_;rw [ih];simp [World.setCell]
end Go.Proofs.YteaieagkjepgiaaGreatDoorT
/- . -/
namespace Go.Proofs.YteaieagkjepgiaaGreatDoorT
set_option maxRecDepth 100000
open Go.RowKit
attribute [local go_sem ↓] Go.wp_at_zero Go.wp_at_succ
structure Tri (w W:World) (L1 L2 L3:List Value):Prop where
 bel:Below w.heap.size w W
 b1:WCells W w.heap.size L1
 b2:WCells W (w.heap.size+1) L2
 b3:WCells W (w.heap.size+1+1) L3
theorem Tri.set {w W:World} {L1 L2 L3:List Value} (h:Tri w W L1 L2 L3) (i:Nat) (v:Value) (hi:i<L3.length):Tri w (W.setCell ⟨w.heap.size+1+1,i,none⟩ v) L1 L2 (L3.set i v):=
 ⟨h.bel.setCell (p:=⟨w.heap.size+1+1,i,none⟩) (by show w.heap.size<=w.heap.size+1+1;omega) v,h.b1.other _ _ (by show w.heap.size ≠ w.heap.size+1+1;omega),h.b2.other _ _ (by show w.heap.size+1 ≠ w.heap.size+1+1;omega),h.b3.set i v hi⟩
theorem Tri.below {w W W':World} {L1 L2 L3:List Value} (h:Tri w W L1 L2 L3) (hb:Below W.heap.size W W'):Tri w W' L1 L2 L3:=⟨h.bel.trans (hb.mono h.bel.size),h.b1.grow hb,h.b2.grow hb,h.b3.grow hb⟩
end Go.Proofs.YteaieagkjepgiaaGreatDoorT
/- . -/
namespace Go.Proofs.YteaieagkjepgiaaGreatDoorT
set_option maxRecDepth 100000
open Go.RowKit
attribute [local go_sem ↓] Go.wp_at_zero Go.wp_at_succ
end Go.Proofs.YteaieagkjepgiaaGreatDoorT
/- . -/
namespace Go.Proofs.YteaieagkjepgiaaGreatDoorT
set_option maxRecDepth 100000
open Go.RowKit
attribute [local go_sem ↓] Go.wp_at_zero Go.wp_at_succ
end Go.Proofs.YteaieagkjepgiaaGreatDoorT
/- . -/
namespace Go.Proofs.YteaieagkjepgiaaGreatDoorT
set_option maxRecDepth 100000
open Go.RowKit
attribute [local go_sem ↓] Go.wp_at_zero Go.wp_at_succ
end Go.Proofs.YteaieagkjepgiaaGreatDoorT
/- . -/
namespace Go.Proofs.YteaieagkjepgiaaGreatDoorT
set_option maxRecDepth 100000
open Go.RowKit
attribute [local go_sem ↓] Go.wp_at_zero Go.wp_at_succ
theorem isInI (x a b:Int) (w:World) (r:Bool) (h:inI x a b=r):Calls Tw.prog 59 #[.int .i64 x,.int .i64 a,.int .i64 b] w fun e w'=>e = .returned (.bool r)/\w'=w:=isIn x a b w r h
end Go.Proofs.YteaieagkjepgiaaGreatDoorT
/- . -/
namespace Go.Proofs.YteaieagkjepgiaaGreatDoorT
set_option maxRecDepth 100000
open Go.RowKit
structure Grow (w:World) where
 val:World
 bel:Below w.heap.size w val
instance {w:World}:Nonempty (Grow w):=⟨⟨w,Below.refl _ _⟩⟩
theorem wp_region_grow {P:Program} {id:Nat} {Q:Exit->Act->World->Prop} {a:Act} {w:World} {l:List Oper} (hm:P.follows .mixedOrders=true) (hB:Region.lexB .any l.toArray=true)
  (h:wpQuiet P l.toArray (fun W=>∃ X:Grow w,W=X.val) (fun a'=>∀ w',(∃ X:Grow w,w'=X.val)->Q .normal a' w') l a):(Code.region id l.toArray true).wp P Q a w:=
 wp_region_quiet (C:=fun W=>∃ X:Grow w,W=X.val) hm hB ⟨⟨w.drew,Below.drew (Below.refl _ _)⟩,rfl⟩ (by simpa using h)
theorem Grow.cell {w:World} (X:Grow w) {p:Addr} {v:Value} (h:w.cell? p=some v) (hl:p.block<w.heap.size):X.val.cell? p=some v:=(X.bel.cell hl).trans h
theorem calls_grow {P:Program} {f:FuncId} {args:Array Value} {w:World} {v:Value} (h:∀ W,Below w.heap.size w W->Calls P f args W fun e w'=>e = .returned v/\Below W.heap.size W w') (X:Grow w) :
  Calls P f args X.val fun e w''=>e = .returned v/\∃ Y:Grow w,w''=Y.val:=
 (h X.val X.bel).mono fun _ w'' ⟨he,hb⟩=>⟨he,⟨w'',X.bel.trans (hb.mono X.bel.size)⟩,rfl⟩
theorem calls_same {P:Program} {f:FuncId} {args:Array Value} {w:World} {v:Value} (h:∀ W,Below w.heap.size w W->Calls P f args W fun e w'=>e = .returned v/\w'=W) (X:Grow w) :
  Calls P f args X.val fun e w''=>e = .returned v/\∃ Y:Grow w,w''=Y.val:=
 (h X.val X.bel).mono fun _ _ ⟨he,hb⟩=>⟨he,X,hb⟩
end Go.Proofs.YteaieagkjepgiaaGreatDoorT
/- . -/
namespace Go.Proofs.YteaieagkjepgiaaGreatDoorT
set_option maxRecDepth 100000
open Go.RowKit BigFrame
attribute [local go_sem ↓] Go.wp_at_zero Go.wp_at_succ
theorem sumN_low (t:ByteArray):0<=sumN t/\sumN t<=4294967295:=by
 unfold sumN
 have:=(W.sumOf t).isLt
 omega
theorem specSumText (t:ByteArray) (w:World) (hs:t.size<=1048576):Calls Tw.prog 37 #[.string t] w fun e w'=>e = .returned (.int .i64 (sumN t))/\w'=w:=by
 have h:=sumN_low t
 have HP:=Shut.mk (specSumOf t w hs)
 unfold u32 at HP
 rw [show (((W.sumOf t).toNat:Nat):Int)=sumN t from rfl] at HP
 generalize sumN t=q at *
 go_enter Tw.func37,Tw.ntmps37
 go_wp2_with fail
 refine HP.out.mono ?_
 rintro e w1 ⟨rfl,rfl⟩
 go_wp2_with fail
 go_ret
 exact ⟨rfl,rfl⟩
theorem specAhead (a b:UnM) (w:World):Calls Tw.prog 38 #[unv a,unv b] w fun e w'=>e = .returned (.bool (unLt a b))/\Below w.heap.size w w':=by
 have hb:Below w.heap.size w ((w.alloc (.cells #[.int .i64 a.group,.int .i64 a.index,.string a.text,.int .i64 a.sum] 49)).alloc (.cells #[.int .i64 b.group,.int .i64 b.index,.string b.text,.int .i64 b.sum] 49)):=((Below.refl _ _).alloc (Nat.le_refl _) _).alloc (by simp) _
 have HB:=Shut.mk hb
 clear hb
 by_cases h1:a.group<b.group
 ·have HE:Shut (unLt a b=true):=⟨by simp [unLt,h1]⟩
  go_enter Tw.func38,Tw.ntmps38
  go_wp2_with fail
  go_ret
  exact ⟨by rw [HE.out];rfl,HB.out⟩
 ·have h1':decide (a.group<b.group)=false:=by simpa using h1
  by_cases h2:a.group=b.group
  ·have h2':(a.group==b.group)=true:=by simpa using h2
   have HE:Shut (unLt a b=decide (a.index<b.index)):=⟨by unfold unLt;rw [h1',h2'];simp⟩
   clear h2 h1
   go_enter Tw.func38,Tw.ntmps38
   go_wp2_with fail
   go_ret
   exact ⟨by rw [HE.out];rfl,HB.out⟩
  ·have h2':(a.group==b.group)=false:=by simpa using h2
   have HE:Shut (unLt a b=false):=⟨by unfold unLt;rw [h1',h2'];simp⟩
   clear h2 h1
   go_enter Tw.func38,Tw.ntmps38
   go_wp2_with fail
   go_ret
   exact ⟨by rw [HE.out];rfl,HB.out⟩
theorem getD_un (L:List UnM) (k:Nat) (h:k<L.length):L.getD k default=L[k]:=by simp [List.getD,h]
theorem unitsOk_no {L:List UnM} {k:Nat} (hk:k<L.length) (h:unAt L k=false):unitsOk L=false:=by
 cases hb:unitsOk L with
 | false=>rfl
 | true=>have:=List.all_eq_true.1 hb k (by simpa using hk);rw [h] at this;cases this
theorem unitsOk_yes {L:List UnM} (h:∀ k,k<L.length->unAt L k=true):unitsOk L=true:=List.all_eq_true.2 fun k hk=>h k (by simpa using hk)
set_option maxRecDepth 100000 in
set_option maxHeartbeats 4000000 in
theorem specHostOk (H:HM) (a:Option Addr) (cap:Nat) (w:World) (hr:UnRow w a H.us) (hl:H.us.length<=9000000) (hf:UnFits H.us) :
  Calls Tw.prog 39 #[hov H a cap] w fun e w'=>e = .returned (.bool (hostOk H))/\Below w.heap.size w w':=by
 have HS0:=Shut.mk ((SL.start w).new #[.int .i64 H.id,.bool H.up,.slice a H.us.length cap] 45)
 have HR:=Shut.mk hr
 have HF:=Shut.mk hf
 clear hr hf
 obtain ⟨id,up,us⟩:=H
 show Calls Tw.prog 39 #[.agg #[.int .i64 id,.bool up,.slice a us.length cap]] w fun e w'=>e = .returned (.bool (unitsOk us&&inI id 1 7))/\Below w.heap.size w w'
 dsimp only at *
 obtain ⟨n,hn⟩:∃ n,n=us.length:=⟨_,rfl⟩
 have HN:=Shut.mk hn
 rw [<-hn] at HS0 hl ⊢
 clear hn
 go_enter Tw.func39,Tw.ntmps39
 go_upto_region 1 with fail
 refine wp_shade (fun W=>SL w W [bxS w.heap.size [.int .i64 id,.bool up,.slice a n cap]]) HS0.out ?_
 intro W0 hW
 have HW:=Shut.mk hW
 clear HS0 hW
 go_wp2_with fail
 go_loopw [3] (fun i wr=>∃ (k:Nat),i = .int .i64 k/\k<=n/\Shut (∀ j,j<k->unAt us j=true)/\Shut (SL w wr [bxS w.heap.size [.int .i64 id,.bool up,.slice a n cap]])) (fun i _=>n - (intOf i).toNat)
 case atStart=>exact ⟨0,rfl,Nat.zero_le _,⟨fun j hj=>by omega⟩,HW⟩
 case round =>
  clear HW
  obtain ⟨k,rfl,hk,HG,HW⟩:=hrel
  have x2:=(HW.out.bx 0 rfl 2 _ rfl).1
  by_cases hlt:k<n
  ·have hku:k<us.length:=by rw [<-HN.out];exact hlt
   obtain ⟨b,off,rfl,lb,hc⟩:=UnRow.at (HR.out.stays HW.out.bel) (by omega)
   obtain ⟨d0,d1,d2,d3⟩:=hc k hku
   obtain ⟨u,hu⟩:∃ u,u=us[k]:=⟨_,rfl⟩
   rw [<-hu] at d0 d1 d2 d3
   have HU:Shut (us.getD k default=u):=⟨(getD_un us k hku).trans hu.symm⟩
   have k0:(0:Int)<=(k:Int):=by omega
   have k1:(k:Int)<(n:Int):=by omega
   have HC:=Shut.mk hc
   have HS:=Shut.mk (HW.out.new #[.int .i64 u.group,.int .i64 u.index,.string u.text,.int .i64 u.sum] 49)
   have HSZ:Shut (u.text.size<=9223372036854775807):=⟨by rw [hu];exact (HF.out.2 _ (List.getElem_mem hku)).1⟩
   clear hc hu
   go_upto_region 5 with fail
   obtain ⟨bb,hbb⟩:∃ q,q=wr.heap.size:=⟨_,rfl⟩
   rw [<-hbb] at HS
   rw [<-hbb] at lb
   refine wp_shade (fun W=>SL w W [bxS bb [.int .i64 u.group,.int .i64 u.index,.string u.text,.int .i64 u.sum],bxS w.heap.size [.int .i64 id,.bool up,.slice (some ⟨b,off,none⟩) n cap]]/\Below wr.heap.size wr W) ⟨HS.out,(Below.refl _ _).alloc (Nat.le_refl _) _⟩ ?_
   intro W hW
   rw [<-hbb]
   have H:=Shut.mk hW.1
   have HBW:=Shut.mk hW.2
   have HBB:=Shut.mk hbb
   have lw:w.heap.size<W.heap.size:=(hW.1.at 1 rfl).1
   have lq:bb<W.heap.size:=(hW.1.at 0 rfl).1
   have lbW:b<W.heap.size:=Nat.lt_of_lt_of_le (by rw [<-hbb];exact lb) hW.2.size
   have g0:∀ X:Grow W,X.val.cell? ⟨bb,0,none⟩=some (.int .i64 u.group):=fun X=>X.cell (hW.1.bx 0 rfl 0 _ rfl).1 lq
   have g1:∀ X:Grow W,X.val.cell? ⟨bb,1,none⟩=some (.int .i64 u.index):=fun X=>X.cell (hW.1.bx 0 rfl 1 _ rfl).1 lq
   have g2:∀ X:Grow W,X.val.cell? ⟨bb,2,none⟩=some (.string u.text):=fun X=>X.cell (hW.1.bx 0 rfl 2 _ rfl).1 lq
   have g3:∀ X:Grow W,X.val.cell? ⟨bb,3,none⟩=some (.int .i64 u.sum):=fun X=>X.cell (hW.1.bx 0 rfl 3 _ rfl).1 lq
   have gx:∀ X:Grow W,X.val.cell? ⟨w.heap.size,2,none⟩=some (.slice (some ⟨b,off,none⟩) n cap):=fun X=>X.cell (hW.1.bx 1 rfl 2 _ rfl).1 lw
   have HGR:Shut (∀ X:Grow W,SL w X.val [bxS w.heap.size [.int .i64 id,.bool up,.slice (some ⟨b,off,none⟩) n cap]]):=⟨fun X=>(SL.tail H.out).below X.bel⟩
   have HNO:Shut (unAt us k=false->unitsOk us=false):=⟨unitsOk_no hku⟩
   have HONE:Shut (unAt us k=(inI u.group 1 100000&&inI u.index 0 5&&decide (u.text.size<=200)&&inI u.sum 0 4294967295&&(decide (k=0)||unLt (us.getD (k - 1) default) u))):=⟨by unfold unAt unOne;rw [HU.out]⟩
   clear hW hbb d0 d1 d2 d3 HW HS x2
   cases h_t1:inI u.group 1 100000 with
   | false =>
    have It1:=Shut.mk (fun X=>calls_same (w:=W) (fun W' (_:Below W.heap.size W W')=>isInI u.group 1 100000 W' false h_t1) X)
    refine wp_region_grow (by kernel_rfl) (by kernel_rfl) ?_
    repeat (go_big_quiet_step (first | (go_at_call 59;first | with_reducible exact It1.out _ | fail)))
    refine wpQuiet_nil ?_
    rintro _ ⟨X,rfl⟩
    go_wp2_with fail
    go_ret
    exact ⟨by rw [HNO.out (by rw [HONE.out];simp [*])];rfl,HGR.out X |>.bel⟩
   | true =>
    have It1:=Shut.mk (fun X=>calls_same (w:=W) (fun W' (_:Below W.heap.size W W')=>isInI u.group 1 100000 W' true h_t1) X)
    cases h_t2:inI u.index 0 5 with
    | false =>
     have It2:=Shut.mk (fun X=>calls_same (w:=W) (fun W' (_:Below W.heap.size W W')=>isInI u.index 0 5 W' false h_t2) X)
     refine wp_region_grow (by kernel_rfl) (by kernel_rfl) ?_
     repeat (go_big_quiet_step (first | (go_at_call 59;first | with_reducible exact It1.out _ | with_reducible exact It2.out _ | fail)))
     refine wpQuiet_nil ?_
     rintro _ ⟨X,rfl⟩
     go_wp2_with fail
     go_ret
     exact ⟨by rw [HNO.out (by rw [HONE.out];simp [*])];rfl,HGR.out X |>.bel⟩
    | true =>
     have It2:=Shut.mk (fun X=>calls_same (w:=W) (fun W' (_:Below W.heap.size W W')=>isInI u.index 0 5 W' true h_t2) X)
     by_cases h_t3:u.text.size<=200
     case neg =>
      have hd:decide (u.text.size<=200)=false:=by simpa using h_t3
      have h2:decide ((200:Int)<(u.text.size:Int))=true:=by simp;omega
      refine wp_region_grow (by kernel_rfl) (by kernel_rfl) ?_
      repeat (go_big_quiet_step (first | (go_at_call 59;first | with_reducible exact It1.out _ | with_reducible exact It2.out _ | fail)))
      refine wpQuiet_nil ?_
      rintro _ ⟨X,rfl⟩
      go_wp2_with fail
      go_ret
      exact ⟨by rw [HNO.out (by rw [HONE.out];simp [*])];rfl,HGR.out X |>.bel⟩
     have hd:decide (u.text.size<=200)=true:=by simpa using h_t3
     have h2:decide ((200:Int)<(u.text.size:Int))=false:=by simp;omega
     cases h_t4:inI u.sum 0 4294967295 with
     | false =>
      have It4:=Shut.mk (fun X=>calls_same (w:=W) (fun W' (_:Below W.heap.size W W')=>isInI u.sum 0 4294967295 W' false h_t4) X)
      refine wp_region_grow (by kernel_rfl) (by kernel_rfl) ?_
      repeat (go_big_quiet_step (first | (go_at_call 59;first | with_reducible exact It1.out _ | with_reducible exact It2.out _ | with_reducible exact It4.out _ | fail)))
      refine wpQuiet_nil ?_
      rintro _ ⟨X,rfl⟩
      go_wp2_with fail
      go_ret
      exact ⟨by rw [HNO.out (by rw [HONE.out];simp [*])];rfl,HGR.out X |>.bel⟩
     | true =>
      have It4:=Shut.mk (fun X=>calls_same (w:=W) (fun W' (_:Below W.heap.size W W')=>isInI u.sum 0 4294967295 W' true h_t4) X)
      by_cases hz:k=0
      case pos =>
       have hz':decide ((0:Int)<(k:Int))=false:=by simp;omega
       refine wp_region_grow (by kernel_rfl) (by kernel_rfl) ?_
       repeat (go_big_quiet_step (first | (go_at_call 59;first | with_reducible exact It1.out _ | with_reducible exact It2.out _ | with_reducible exact It4.out _ | fail)))
       refine wpQuiet_nil ?_
       rintro _ ⟨X,rfl⟩
       go_wp2_with fail
       go_roundw
       case rel=>exact ⟨k+1,by go_num,by omega,⟨fun j hj=>by rcases Nat.lt_succ_iff_lt_or_eq.1 hj with h | h;exact HG.out j h;subst h;rw [HONE.out];simp [*]⟩,⟨HGR.out X⟩⟩
       case measure=>simp [intOf];omega
      have hzd:decide (k=0)=false:=by simpa using hz
      have hz':decide (0<k)=true:=by simp;omega
      have hz3:0<k:=by omega
      obtain ⟨e0,e1,e2,e3⟩:=HC.out (k - 1) (by omega)
      obtain ⟨y,hy⟩:∃ y,y=us[k - 1]'(by omega):=⟨_,rfl⟩
      rw [<-hy] at e0 e1 e2 e3
      have HY:Shut (us.getD (k - 1) default=y):=⟨(getD_un us (k - 1) (by omega)).trans hy.symm⟩
      have p0:∀ X:Grow W,X.val.cell? ⟨b,off+(k - 1)*4,none⟩=some (.int .i64 y.group):=fun X=>X.cell ((HBW.out.cell (p:=⟨b,off+(k - 1)*4,none⟩) (by rw [<-HBB.out];exact lb)).trans e0) lbW
      have p1:∀ X:Grow W,X.val.cell? ⟨b,off+(k - 1)*4+1,none⟩=some (.int .i64 y.index):=fun X=>X.cell ((HBW.out.cell (p:=⟨b,off+(k - 1)*4+1,none⟩) (by rw [<-HBB.out];exact lb)).trans e1) lbW
      have p2:∀ X:Grow W,X.val.cell? ⟨b,off+(k - 1)*4+2,none⟩=some (.string y.text):=fun X=>X.cell ((HBW.out.cell (p:=⟨b,off+(k - 1)*4+2,none⟩) (by rw [<-HBB.out];exact lb)).trans e2) lbW
      have p3:∀ X:Grow W,X.val.cell? ⟨b,off+(k - 1)*4+3,none⟩=some (.int .i64 y.sum):=fun X=>X.cell ((HBW.out.cell (p:=⟨b,off+(k - 1)*4+3,none⟩) (by rw [<-HBB.out];exact lb)).trans e3) lbW
      have hk1:(k:Int) - 1=((k - 1:Nat):Int):=by omega
      have hk2:(0:Int)<=((k - 1:Nat):Int):=by omega
      have hk3:((k - 1:Nat):Int)<(n:Int):=by omega
      rw [HY.out] at HONE
      have HAH:=Shut.mk (fun X=>calls_grow (w:=W) (fun W' (_:Below W.heap.size W W')=>specAhead y u W') X)
      clear hy e0 e1 e2 e3 hz
      cases hal:unLt y u with
      | false =>
       rw [hal] at HAH HONE
       refine wp_region_grow (by kernel_rfl) (by kernel_rfl) ?_
       repeat (go_big_quiet_step (first | (go_at_call 59;first | with_reducible exact It1.out _ | with_reducible exact It2.out _ | with_reducible exact It4.out _ | fail) | (go_at_call 38;with_reducible exact HAH.out _)))
       refine wpQuiet_nil ?_
       rintro _ ⟨X,rfl⟩
       go_wp2_with fail
       go_ret
       exact ⟨by rw [HNO.out (by rw [HONE.out];simp [*])];rfl,HGR.out X |>.bel⟩
      | true =>
       rw [hal] at HAH HONE
       refine wp_region_grow (by kernel_rfl) (by kernel_rfl) ?_
       repeat (go_big_quiet_step (first | (go_at_call 59;first | with_reducible exact It1.out _ | with_reducible exact It2.out _ | with_reducible exact It4.out _ | fail) | (go_at_call 38;with_reducible exact HAH.out _)))
       refine wpQuiet_nil ?_
       rintro _ ⟨X,rfl⟩
       go_wp2_with fail
       go_roundw
       case rel=>exact ⟨k+1,by go_num,by omega,⟨fun j hj=>by rcases Nat.lt_succ_iff_lt_or_eq.1 hj with h | h;exact HG.out j h;subst h;rw [HONE.out];simp [*]⟩,⟨HGR.out X⟩⟩
       case measure=>simp [intOf];omega
  ·have e:k=n:=by omega
   have HT:Shut (unitsOk us=true):=⟨unitsOk_yes fun j hj=>HG.out j (by have:=HN.out;omega)⟩
   have x0:=(HW.out.bx 0 rfl 0 _ rfl).1
   have HI:=Shut.mk (fun W=>isInI id 1 7 W _ rfl)
   subst e
   go_wp2_with (go_at_call 59;refine (HI.out _).mono ?_;rintro e w1 ⟨rfl,rfl⟩)
   go_ret
   exact ⟨by rw [HT.out];rfl,HW.out.bel⟩
end Go.Proofs.YteaieagkjepgiaaGreatDoorT
/- . -/
namespace Go.Proofs.YteaieagkjepgiaaGreatDoorT
set_option maxRecDepth 100000
open Go.RowKit
structure OwS (w0 W:World) (S:List Str) (ty sz:Nat) (v:Value) (n:Nat) (L:List Value):Prop where
 sl:SL w0 W S
 own:W.ownsRow w0.heap.size ty sz v n L
 far:∀ q,v.ownBlock=some q->∀ s ∈ S,s.hi<=q\/q<s.lo
section
variable {w0 W W':World} {S:List Str} {s:Str} {ty sz n:Nat} {v:Value} {L:List Value}
theorem own_row_slice (h:W.ownsRow w0.heap.size ty sz v n L):∃ a c,v = .slice a n c:=by
 rcases h.2 with ⟨rfl,h0⟩ | ⟨g,cap,cur,e,_⟩
 ·exact ⟨none,0,by rw [h0]⟩
 ·exact ⟨_,_,e⟩
theorem OwS.new (h:SL w0 W S):OwS w0 (W.alloc (.cells #[] ty)) S ty sz (.slice (some ⟨W.heap.size,0,none⟩) 0 0) 0 []:=by
 refine ⟨h.below ((Below.refl _ _).alloc (Nat.le_refl _) _),World.ownsRow_made (e:=ty) (size:=sz) (base:=w0.heap.size) W #[] 0 h.bel.size (by decide) (by simp),fun q e s hs=>?_⟩
 have eq:W.heap.size=q:=by simpa [Value.ownBlock] using e
 have:=(h.is s hs).2.2.2
 omega
theorem OwS.nil (h:SL w0 W S):OwS w0 W S ty sz (.slice none 0 0) 0 []:=⟨h,World.ownsRow_nil _ _ _ _,fun q e=>by cases e⟩
theorem OwS.below (h:OwS w0 W S ty sz v n L) (hb:Below W.heap.size W W'):OwS w0 W' S ty sz v n L:=
 ⟨h.sl.below hb,h.own.kept (row:=none) ⟨hb.os,hb.tape,hb.output,hb.size,fun k hk _=>hb.block k hk⟩ (Classical.em _),h.far⟩
theorem OwS.alloc (h:OwS w0 W S ty sz v n L) (o:Obj):OwS w0 (W.alloc o) S ty sz v n L:=h.below ((Below.refl _ _).alloc (Nat.le_refl _) o)
theorem OwS.lt (h:OwS w0 W S ty sz v n L) (q:Nat) (e:v.ownBlock=some q):w0.heap.size<=q/\q<W.heap.size:=h.own.lt q e
theorem OwS.add (h:OwS w0 W S ty sz v n L) (hb:Below W.heap.size W W') (hp:s.p W') (hl:s.Loc) (h1:W.heap.size<=s.lo) (h2:s.hi<=W'.heap.size):OwS w0 W' (s::S) ty sz v n L:=by
 have k:=h.below hb
 refine ⟨h.sl.add hb hp hl h1 h2,k.own,fun q e x hx=>?_⟩
 rcases List.mem_cons.1 hx with rfl | hx
 ·exact .inr (by have:=(h.lt q e).2;omega)
 ·exact h.far q e x hx
theorem OwS.box (h:OwS w0 W S ty sz v n L) (cs:Array Value) (t:TypeId):OwS w0 (W.alloc (.cells cs t)) (bxS W.heap.size cs.toList::S) ty sz v n L:=
 h.add ((Below.refl _ _).alloc (Nat.le_refl _) _) (wcells_new W cs t) (bxS.loc _ _) (Nat.le_refl _) (by simp)
theorem OwS.tail (h:OwS w0 W (s::S) ty sz v n L):OwS w0 W S ty sz v n L:=⟨h.sl.tail,h.own,fun q e x hx=>h.far q e x (List.mem_cons_of_mem _ hx)⟩
theorem OwS.put (h:OwS w0 W S ty sz v n L) (i:Nat) {b:Nat} {X:List Value} (hs:S[i]?=some (bxS b X)) (j:Nat) (x:Value) (hj:j<X.length):OwS w0 (W.setCell ⟨b,j,none⟩ x) (S.set i (bxS b (X.set j x))) ty sz v n L:=by
 have hm:=List.mem_of_getElem? hs
 have hne:∀ q,v.ownBlock=some q->q ≠ b:=fun q e hq=>by
  have:=h.far q e _ hm
  dsimp only [bxS] at this
  omega
 refine ⟨h.sl.put i hs j x hj,h.own.kept (gb_set' W b j x) ?_,fun q e s hq=>?_⟩
 ·cases e:v.ownBlock with
  | none=>exact .inl rfl
  | some k=>exact .inr fun e2=>hne k e (by cases e2;rfl)
 ·obtain ⟨k,hk,rfl⟩:=List.getElem_of_mem hq
  rw [List.length_set] at hk
  by_cases ek:k=i
  ·subst ek
   rw [List.getElem_set_self]
   have:=h.far q e _ hm
   exact this
  ·rw [List.getElem_set_ne (Ne.symm ek)]
   exact h.far q e _ (List.getElem_mem hk)
theorem OwS.more {Wa:World} {v':Value} {m:Nat} {L':List Value} (h:OwS w0 W S ty sz v n L) (hb:Below W.heap.size W Wa) (ho:W'.ownsRow w0.heap.size ty sz v' m L') (hg:Wa.grownBy W' v.ownBlock) (hat:v'.ownBlock=v.ownBlock\/v'.ownBlock=some Wa.heap.size):OwS w0 W' S ty sz v' m L':=by
 have k:=h.below hb
 refine ⟨k.sl.grown hg fun q e=>⟨(k.lt q e).1,k.far q e⟩,ho,fun q e s hs=>?_⟩
 rcases hat with e2 | e2
 ·exact h.far q (by rw [<-e2];exact e) s hs
 ·rw [e2] at e
  have eq:Wa.heap.size=q:=by simpa using e
  have:=(k.sl.is s hs).2.2.2
  omega
theorem OwS.frw (h:OwS w0 W S ty sz v n L):∃ a c,v = .slice a n c/\FRw W a L w0.heap.size W.heap.size/\n<=c:=by
 obtain ⟨a,c,rfl⟩:=own_row_slice h.own
 exact ⟨a,c,rfl,(FRw.of_own h.own).1,(FRw.of_own h.own).2⟩
theorem OwS.row (h:OwS w0 W S ty sz v n L):∃ a c,v = .slice a n c/\CRow W a L/\n<=c:=by
 obtain ⟨a,c,e,h1,h2⟩:=h.frw
 exact ⟨a,c,e,h1.crow,h2⟩
end
end Go.Proofs.YteaieagkjepgiaaGreatDoorT
