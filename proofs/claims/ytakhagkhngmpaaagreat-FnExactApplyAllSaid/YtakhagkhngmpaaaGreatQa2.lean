/- Texts of ours, laid one behind the other: TreC, TreD, TreE, TreP, TreQ, StrsA, DecM, Dec, StrsB, TvA, StrV, PathA, PathB, PathC, GrwA, EdA, SpnB, CpA. -/
import Derived.Test.YtakhagkhngmpaaaGreatQa1
import Derived.Deep.RegionHeld3
import Derived.Deep.DrawnRows
import Derived.Deep.CutRange
import Derived.BigQuiet
import Derived.Deep.QuietTactic
import Derived.PlainAid
import Derived.Deep.LoopGhost
import Derived.Deep.AppendLies
import Derived.Deep.Upon
/- TreC: . -/
namespace Go.Proofs.YtakhagkhngmpaaaGreat
set_option maxRecDepth 100000
open Go.RowKit
attribute [local go_sem ↓] Go.wp_at_zero Go.wp_at_succ
theorem toPiece_any (p : PM) (w : World) : Calls Tryz.prog 169 #[pv p] w fun e w' => e = .returned (pv p) ∧ Below w.heap.size w w' := by
 go_enter Tryz.func169, Tryz.ntmps169
 go_wp2_with fail
 refine bodyPost_ret (v := pv p) (by simp [results, Tryz.results169, go_sem]) rfl ⟨rfl, ?_⟩
 exact (((Below.refl _ _).alloc (Nat.le_refl _) _).alloc (by simp) _).alloc (by simp; omega) _
theorem infoPiece : (Tryz.prog.info? 99).map (fun i => (i.zero, i.size, i.bytes)) = some (some (.agg #[.int .i64 0, .int .i64 0]), 2, 16) := by kernel_rfl
def ToPieces (ps : List PM) (w : World) (e : Ending) (w' : World) : Prop := ∃ g, e = .returned (.slice (some ⟨g, 0, none⟩) ps.length ps.length) ∧ w.heap.size ≤ g ∧ WCells w' g (pcs ps) ∧ Below w.heap.size w w'
set_option maxHeartbeats 1000000 in
theorem toPieceS_any (a : Option Addr) (ps : List PM) (cap : Nat) (w : World) (lo hi : Nat) (hr : RRow w a (pcs ps) lo hi) (hl : ps.length ≤ 1048576) :
  Calls Tryz.prog 159 #[.slice a ps.length cap] w fun e w' => ToPieces ps w e w' := by
 obtain ⟨i0, hi, hz0, hz1, hz2⟩ := info_parts infoPiece
 have HR := Shut.mk hr
 clear hr
 go_enter Tryz.func159, Tryz.ntmps159
 go_wp2_with (at_make; refine wpList_make_full _ rfl _ _ 45 rfl w.heap.size 99 i0 _ 2 Tryz.underlying45 hi hz0 hz1 .i64 .i64 _ _ ps.length rfl rfl (by omega) (by omega) ?b2 ?b3 ?b4 ?_)
 case b2 => rw [hz2]; omega
 case b3 => unfold maxLen; omega
 case b4 => omega
 intro wm hownm hgrm
 have hbm : Below w.heap.size w wm := (Below.refl _ _).grown hgrm (Nat.le_refl _) (fun j hj => by simp at hj)
 have hrow : WCells wm w.heap.size (pcs (List.replicate ps.length default)) := by
  have h := own_wcells hownm
  have e : (madeCells #[.int .i64 0, .int .i64 0] (ps.length * 2)).toList = pcs (List.replicate ps.length default) := made_flat pcells_len (by decide) #[.int .i64 0, .int .i64 0] default rfl _
  rw [e] at h; exact h
 have HRW := Shut.mk hrow
 have HBM := Shut.mk hbm
 clear hownm hgrm hrow hbm
 go_wp2_with fail
 go_loopw [4] (fun i wr => ∃ (k : Nat) (gs : List PM), i = .int .i64 k ∧ k ≤ ps.length ∧ Shut (gs.length = ps.length ∧ gs.take k = ps.take k) ∧ Shut (WCells wr w.heap.size (pcs gs)) ∧ Shut (Below w.heap.size w wr)) (fun i _ => ps.length - (intOf i).toNat)
 case atStart => exact ⟨0, _, rfl, by omega, ⟨by simp, by simp⟩, HRW, HBM⟩
 case round =>
  clear HRW HBM
  obtain ⟨k, gs, rfl, hk, HG, hw, hb⟩ := hrel
  by_cases hlt : k < ps.length
  ·obtain ⟨b, off, rfl, hbl, hc⟩ := pcs_at (HR.out.below hb.out) (by omega)
   obtain ⟨d0, d1⟩ := hc k hlt
   have HFE := Shut.mk (rfl (a := ps[k]))
   obtain ⟨f, hfe⟩ : ∃ f, f = ps[k] := ⟨_, rfl⟩
   rw [← hfe] at d0 d1
   replace HFE := Shut.mk hfe
   have k0 : (0 : Int) ≤ (k : Int) := by omega
   have k1 : (k : Int) < (ps.length : Int) := by omega
   clear hc hfe
   go_wp2_with fail
   refine (toPiece_any f _).mono ?_
   rintro e w2 ⟨rfl, hb2⟩
   have HW2 := Shut.mk (hw.out.below hb2 hw.out.1)
   have HB3 := Shut.mk (hb.out.trans (hb2.mono hb.out.size))
   clear hw hb hb2 d0 d1
   have hgk : k < gs.length := by have := HG.out.1; omega
   obtain ⟨c0, z0⟩ := HW2.out.2 (k * 2) _ (flat_get pcells_len gs k hgk 0 (by omega))
   obtain ⟨c1, z1⟩ := HW2.out.2 (k * 2 + 1) _ (flat_get pcells_len gs k hgk 1 (by omega))
   have HS := Shut.mk (HW2.out.setElem pcells_len k hgk f)
   have HBN := Shut.mk (below_setW HB3.out (Nat.le_refl _) (k * 2) (pcells f))
   go_wp2_with fail
   go_roundw
   case rel =>
    refine ⟨k + 1, gs.set k f, by go_num, by omega, ⟨by rw [List.length_set]; exact HG.out.1, ?_⟩, ⟨HS.out⟩, ⟨HBN.out⟩⟩
    rw [List.take_succ_eq_append_getElem (by rw [List.length_set]; exact hgk), List.take_succ_eq_append_getElem hlt, List.take_set_of_le (Nat.le_refl _), HG.out.2, List.getElem_set_self, HFE.out]
   case measure => simp [intOf]; omega
  ·have e : gs = ps := by
    have h := HG.out.2
    rw [List.take_of_length_le (by have := HG.out.1; omega), List.take_of_length_le (by omega)] at h; exact h
   subst e
   go_wp2_with fail
   go_ret
   exact ⟨_, rfl, Nat.le_refl _, hw.out, hb.out⟩
def ToNode (r : NR) (w : World) (e : Ending) (w' : World) : Prop := ∃ g, e = .returned (nv ⟨r.nd, some ⟨g, 0, none⟩, r.nd.pieces.length⟩) ∧ w.heap.size ≤ g ∧ WCells w' g (pcs r.nd.pieces) ∧ Below w.heap.size w w'
structure Tri (w W : World) (L1 L2 L3 : List Value) : Prop where
 bel : Below w.heap.size w W
 b1 : WCells W w.heap.size L1
 b2 : WCells W (w.heap.size + 1) L2
 b3 : WCells W (w.heap.size + 1 + 1) L3
theorem Tri.new (w : World) (A B C : Array Value) (tA tB tC : TypeId) : Tri w (((w.alloc (.cells A tA)).alloc (.cells B tB)).alloc (.cells C tC)) A.toList B.toList C.toList := by
 have e1 : (w.alloc (.cells A tA)).heap.size = w.heap.size + 1 := by simp
 have e2 : ((w.alloc (.cells A tA)).alloc (.cells B tB)).heap.size = w.heap.size + 1 + 1 := by simp
 refine ⟨(((Below.refl _ _).alloc (Nat.le_refl _) _).alloc (by simp) _).alloc (by simp; omega) _, ((wcells_new w A tA).alloc _).alloc _, ?_, ?_⟩
 ·have := (wcells_new (w.alloc (.cells A tA)) B tB).alloc (.cells C tC)
  rw [e1] at this; exact this
 ·have := wcells_new ((w.alloc (.cells A tA)).alloc (.cells B tB)) C tC
  rw [e2] at this; exact this
theorem Tri.set {w W : World} {L1 L2 L3 : List Value} (h : Tri w W L1 L2 L3) (i : Nat) (v : Value) (hi : i < L3.length) : Tri w (W.setCell ⟨w.heap.size + 1 + 1, i, none⟩ v) L1 L2 (L3.set i v) :=
 ⟨h.bel.setCell (p := ⟨w.heap.size + 1 + 1, i, none⟩) (by show w.heap.size ≤ w.heap.size + 1 + 1; omega) v, h.b1.other _ _ (by show w.heap.size ≠ w.heap.size + 1 + 1; omega), h.b2.other _ _ (by show w.heap.size + 1 ≠ w.heap.size + 1 + 1; omega), h.b3.set i v hi⟩
theorem Tri.below {w W W' : World} {L1 L2 L3 : List Value} (h : Tri w W L1 L2 L3) (hb : Below W.heap.size W W') : Tri w W' L1 L2 L3 := ⟨h.bel.trans (hb.mono h.bel.size), h.b1.grow hb, h.b2.grow hb, h.b3.grow hb⟩
set_option maxHeartbeats 4000000 in
theorem toInode_any (r : NR) (w : World) (lo hi : Nat) (hr : RRow w r.loc (pcs r.nd.pieces) lo hi) (hl : r.nd.pieces.length ≤ 1048576) : Calls Tryz.prog 129 #[nv r] w fun e w' => ToNode r w e w' := by
 obtain ⟨⟨id, parent, name, dir, schema, quota, len, pieces, writer⟩, loc, cap⟩ := r
 unfold ToNode
 dsimp only [nv] at *
 have HP := Shut.mk (fun W (hW : Below w.heap.size w W) => toPieceS_any loc pieces cap W lo hi (hr.below hW) hl)
 unfold ToPieces at HP
 generalize pieces.length = np at *
 clear hr hl
 go_enter Tryz.func129, Tryz.ntmps129
 go_upto_region 9 with fail
 refine wp_shade (fun W => Tri w W [.int .i64 id, .int .i64 parent, .string name, .bool dir, .int .i64 schema, .int .i64 quota, .int .i64 len, .slice loc np cap, .int .i64 writer] [.int .i64 0, .int .i64 0, .string ⟨#[]⟩, .bool false, .int .i64 0, .int .i64 0, .int .i64 0, .slice none 0 0, .int .i64 0] [.int .i64 id, .int .i64 parent, .string name, .bool dir, .int .i64 schema, .int .i64 quota, .int .i64 len, .slice none 0 0, .int .i64 0]) ?_ ?_
 ·exact Tri.new w #[.int .i64 id, .int .i64 parent, .string name, .bool dir, .int .i64 schema, .int .i64 quota, .int .i64 len, .slice loc np cap, .int .i64 writer] #[.int .i64 0, .int .i64 0, .string ⟨#[]⟩, .bool false, .int .i64 0, .int .i64 0, .int .i64 0, .slice none 0 0, .int .i64 0] #[.int .i64 id, .int .i64 parent, .string name, .bool dir, .int .i64 schema, .int .i64 quota, .int .i64 len, .slice none 0 0, .int .i64 0] 148 47 47
 ·intro W4 ht
  have HT := Shut.mk ht
  have a7 := (ht.b1.2 7 _ rfl).1
  clear ht
  go_wp2_with fail
  refine (HP.out _ HT.out.bel).mono ?_
  rintro e w5 ⟨g, rfl, hg, hw, hb⟩
  have ht5 := HT.out.below hb
  have hg5 : g ≠ w.heap.size + 1 + 1 ∧ g ≠ w.heap.size + 1 := ⟨by have := HT.out.b3.1; omega, by have := HT.out.b3.1; omega⟩
  have HGL := Shut.mk (show w.heap.size ≤ g from Nat.le_trans HT.out.bel.size hg)
  have HT5 := Shut.mk (And.intro ht5 hw)
  obtain ⟨c7, z7⟩ := ht5.b3.2 7 _ rfl
  clear hw hb ht5 HT hg a7 HP
  go_upto_region 10 with fail
  refine wp_shade (fun W => Tri w W [.int .i64 id, .int .i64 parent, .string name, .bool dir, .int .i64 schema, .int .i64 quota, .int .i64 len, .slice loc np cap, .int .i64 writer] [.int .i64 0, .int .i64 0, .string ⟨#[]⟩, .bool false, .int .i64 0, .int .i64 0, .int .i64 0, .slice none 0 0, .int .i64 0] [.int .i64 id, .int .i64 parent, .string name, .bool dir, .int .i64 schema, .int .i64 quota, .int .i64 len, .slice (some ⟨g, 0, none⟩) np np, .int .i64 0] ∧ WCells W g (pcs pieces)) ⟨HT5.out.1.set 7 _ (by simp), HT5.out.2.other _ _ hg5.1⟩ ?_
  clear HT5 c7 z7
  rintro W6 ⟨ht, hw⟩
  have HT := Shut.mk (And.intro ht hw)
  have a8 := (ht.b1.2 8 _ rfl).1
  obtain ⟨c8, z8⟩ := ht.b3.2 8 _ rfl
  clear ht hw
  go_upto_region 11 with fail
  refine wp_shade (fun W => Tri w W [.int .i64 id, .int .i64 parent, .string name, .bool dir, .int .i64 schema, .int .i64 quota, .int .i64 len, .slice loc np cap, .int .i64 writer] [.int .i64 0, .int .i64 0, .string ⟨#[]⟩, .bool false, .int .i64 0, .int .i64 0, .int .i64 0, .slice none 0 0, .int .i64 0] [.int .i64 id, .int .i64 parent, .string name, .bool dir, .int .i64 schema, .int .i64 quota, .int .i64 len, .slice (some ⟨g, 0, none⟩) np np, .int .i64 writer] ∧ WCells W g (pcs pieces)) ⟨HT.out.1.set 8 _ (by simp), HT.out.2.other _ _ hg5.1⟩ ?_
  clear HT a8 c8 z8
  rintro W7 ⟨ht, hw⟩
  have HT := Shut.mk (And.intro ht hw)
  obtain ⟨c0, z0⟩ := ht.b3.2 0 _ rfl
  obtain ⟨c1, z1⟩ := ht.b3.2 1 _ rfl
  obtain ⟨c2, z2⟩ := ht.b3.2 2 _ rfl
  obtain ⟨c3, z3⟩ := ht.b3.2 3 _ rfl
  obtain ⟨c4, z4⟩ := ht.b3.2 4 _ rfl
  obtain ⟨c5, z5⟩ := ht.b3.2 5 _ rfl
  obtain ⟨c6, z6⟩ := ht.b3.2 6 _ rfl
  obtain ⟨c7, z7⟩ := ht.b3.2 7 _ rfl
  obtain ⟨c8, z8⟩ := ht.b3.2 8 _ rfl
  obtain ⟨x0, y0⟩ := ht.b2.2 0 _ rfl
  obtain ⟨x1, y1⟩ := ht.b2.2 1 _ rfl
  obtain ⟨x2, y2⟩ := ht.b2.2 2 _ rfl
  obtain ⟨x3, y3⟩ := ht.b2.2 3 _ rfl
  obtain ⟨x4, y4⟩ := ht.b2.2 4 _ rfl
  obtain ⟨x5, y5⟩ := ht.b2.2 5 _ rfl
  obtain ⟨x6, y6⟩ := ht.b2.2 6 _ rfl
  obtain ⟨x7, y7⟩ := ht.b2.2 7 _ rfl
  obtain ⟨x8, y8⟩ := ht.b2.2 8 _ rfl
  clear ht hw
  go_wp2_with fail
  refine body_shade (fun W => WCells W (w.heap.size + 1) [.int .i64 id, .int .i64 parent, .string name, .bool dir, .int .i64 schema, .int .i64 quota, .int .i64 len, .slice (some ⟨g, 0, none⟩) np np, .int .i64 writer] ∧ WCells W g (pcs pieces) ∧ Below w.heap.size w W) ⟨HT.out.1.b2.setW 0 [.int .i64 id, .int .i64 parent, .string name, .bool dir, .int .i64 schema, .int .i64 quota, .int .i64 len, .slice (some ⟨g, 0, none⟩) np np, .int .i64 writer] (by simp), HT.out.2.setW_other hg5.2 0 [.int .i64 id, .int .i64 parent, .string name, .bool dir, .int .i64 schema, .int .i64 quota, .int .i64 len, .slice (some ⟨g, 0, none⟩) np np, .int .i64 writer], below_setW HT.out.1.bel (by omega) 0 [.int .i64 id, .int .i64 parent, .string name, .bool dir, .int .i64 schema, .int .i64 quota, .int .i64 len, .slice (some ⟨g, 0, none⟩) np np, .int .i64 writer]⟩ ?_
  clear HT c0 c1 c2 c3 c4 c5 c6 c7 c8 z0 z1 z2 z3 z4 z5 z6 z7 z8 x0 x1 x2 x3 x4 x5 x6 x7 x8 y0 y1 y2 y3 y4 y5 y6 y7 y8
  rintro W8 ⟨h2, hw, hb⟩
  have x0 := (h2.2 0 _ rfl).1
  have x1 := (h2.2 1 _ rfl).1
  have x2 := (h2.2 2 _ rfl).1
  have x3 := (h2.2 3 _ rfl).1
  have x4 := (h2.2 4 _ rfl).1
  have x5 := (h2.2 5 _ rfl).1
  have x6 := (h2.2 6 _ rfl).1
  have x7 := (h2.2 7 _ rfl).1
  have x8 := (h2.2 8 _ rfl).1
  exact bodyPost_ret (v := .agg #[.int .i64 id, .int .i64 parent, .string name, .bool dir, .int .i64 schema, .int .i64 quota, .int .i64 len, .slice (some ⟨g, 0, none⟩) np np, .int .i64 writer]) (by simp [results, Tryz.results129, go_sem, x0, x1, x2, x3, x4, x5, x6, x7, x8]) rfl ⟨g, rfl, HGL.out, hw, hb⟩
end Go.Proofs.YtakhagkhngmpaaaGreat
/- TreD: . -/
namespace Go.Proofs.YtakhagkhngmpaaaGreat
set_option maxRecDepth 100000
open Go.RowKit
attribute [local go_sem ↓] Go.wp_at_zero Go.wp_at_succ
theorem infoNode : (Tryz.prog.info? 47).map (fun i => (i.zero, i.size, i.bytes)) = some (some (.agg #[.int .i64 0, .int .i64 0, .string ⟨#[]⟩, .bool false, .int .i64 0, .int .i64 0, .int .i64 0, .slice none 0 0, .int .i64 0]), 9, 96) := by kernel_rfl
theorem pcs_ne {ps : List PM} (h : ps ≠ []) : pcs ps ≠ [] := fun e => h (pcs_nil.1 e)
theorem TW.copy {wr w2 : World} {g g' : Nat} {gs : List NR} {B : Nat} (h : TW wr g gs B wr.heap.size) (hb : Below wr.heap.size wr w2) (j : Nat) (hj : j < gs.length) (nd : NM) (hg : wr.heap.size ≤ g') (hw : WCells w2 g' (pcs nd.pieces)) (hB : B ≤ wr.heap.size) :
  TW (setW w2 g (j * 9) (ncells ⟨nd, some ⟨g', 0, none⟩, nd.pieces.length⟩)) g (gs.set j ⟨nd, some ⟨g', 0, none⟩, nd.pieces.length⟩) B w2.heap.size := by
 refine GW.put (K := NKind) ((h.below hb).wide (Nat.le_refl _) hb.size) j hj ⟨nd, some ⟨g', 0, none⟩, nd.pieces.length⟩ ?_ ?_
 ·exact .inr ⟨g', rfl, by omega, hw.1, by have := h.out.1; omega, hw⟩
 ·intro s hs h1 _ e
  rcases h.rows s hs with q | ⟨b, e2, _, q2, _, _⟩
  ·exact h1 q
  ·have : b = g' := congrArg Addr.block (Option.some.inj (e2.symm.trans e))
   omega
theorem setW_size (w : World) (g off : Nat) (vs : List Value) : (setW w g off vs).heap.size = w.heap.size := by
 induction vs generalizing w off with
 | nil => rfl
 | cons v vs ih => show (setW _ g (off + 1) vs).heap.size = _; rw [ih]; simp [World.setCell]
theorem setW9 (w : World) (g o : Nat) (v0 v1 v2 v3 v4 v5 v6 v7 v8 : Value) : setW w g o [v0, v1, v2, v3, v4, v5, v6, v7, v8] = ((((((((w.setCell ⟨g, o, none⟩ v0).setCell ⟨g, o + 1, none⟩ v1).setCell ⟨g, o + 2, none⟩ v2).setCell ⟨g, o + 3, none⟩ v3).setCell ⟨g, o + 4, none⟩ v4).setCell ⟨g, o + 5, none⟩ v5).setCell ⟨g, o + 6, none⟩ v6).setCell ⟨g, o + 7, none⟩ v7).setCell ⟨g, o + 8, none⟩ v8 := rfl
def ToNodes (rs : List NR) (w : World) (e : Ending) (w' : World) : Prop := ∃ g ts, e = .returned (.slice (some ⟨g, 0, none⟩) ts.length ts.length) ∧ nds ts = nds rs ∧ TW w' g ts w.heap.size w'.heap.size ∧ Below w.heap.size w w'
set_option maxHeartbeats 4000000 in
theorem toInodeS_any (a : Option Addr) (rs : List NR) (cap : Nat) (w : World) (lo hi : Nat) (hm : TR w a rs lo hi) (hl : rs.length ≤ 1048576) (hp : ∀ r ∈ rs, r.nd.pieces.length ≤ 1048576) :
  Calls Tryz.prog 95 #[.slice a rs.length cap] w fun e w' => ToNodes rs w e w' := by
 obtain ⟨i0, hi, hz0, hz1, hz2⟩ := info_parts infoNode
 have HR := Shut.mk (And.intro hm hp)
 obtain ⟨n, hn⟩ : ∃ n, n = rs.length := ⟨_, rfl⟩
 have HN := Shut.mk hn
 rw [← hn] at hl ⊢
 clear hm hp hn
 go_enter Tryz.func95, Tryz.ntmps95
 go_wp2_with (at_make; refine wpList_make_full _ rfl _ _ 24 rfl w.heap.size 47 i0 _ 9 Tryz.underlying24 hi hz0 hz1 .i64 .i64 _ _ n rfl rfl (by omega) (by omega) ?b2 ?b3 ?b4 ?_)
 case b2 => rw [hz2]; omega
 case b3 => unfold maxLen; omega
 case b4 => omega
 intro wm hownm hgrm
 have hbm : Below w.heap.size w wm := (Below.refl _ _).grown hgrm (Nat.le_refl _) (fun j hj => by simp at hj)
 have hrow : WCells wm w.heap.size (ncs (List.replicate n default)) := by
  have h := own_wcells hownm
  have e : (madeCells #[.int .i64 0, .int .i64 0, .string ⟨#[]⟩, .bool false, .int .i64 0, .int .i64 0, .int .i64 0, .slice none 0 0, .int .i64 0] (n * 9)).toList = ncs (List.replicate n default) := made_flat ncells_len (by decide) #[.int .i64 0, .int .i64 0, .string ⟨#[]⟩, .bool false, .int .i64 0, .int .i64 0, .int .i64 0, .slice none 0 0, .int .i64 0] default rfl _
  rw [e] at h; exact h
 have HTW : Shut (TW wm w.heap.size (List.replicate n default) w.heap.size wm.heap.size) := ⟨⟨hrow, Nat.le_refl _, hrow.1, fun r hr => .inl (by rw [List.eq_of_mem_replicate hr]; rfl), List.pairwise_iff_getElem.2 (fun i j hi hj _ h1 => absurd (by simp only [List.getElem_replicate]; rfl) h1)⟩⟩
 have HBM := Shut.mk hbm
 clear hownm hgrm hrow hbm
 go_wp2_with fail
 go_loopw [4] (fun i wr => ∃ (k : Nat) (gs : List NR), i = .int .i64 k ∧ k ≤ n ∧ Shut (gs.length = n ∧ nds (gs.take k) = nds (rs.take k)) ∧ Shut (TW wr w.heap.size gs w.heap.size wr.heap.size) ∧ Shut (Below w.heap.size w wr)) (fun i _ => n - (intOf i).toNat)
 case atStart => exact ⟨0, _, rfl, by omega, ⟨by simp, by simp⟩, HTW, HBM⟩
 case round =>
  clear HTW HBM
  obtain ⟨k, gs, rfl, hk, HG, hw, hb⟩ := hrel
  by_cases hlt : k < n
  ·have hlr : k < rs.length := by have := HN.out; omega
   obtain ⟨b, off, rfl, hbl, hc⟩ := TR.nat (HR.out.1.below hb.out) (by omega)
   obtain ⟨d0, d1, d2, d3, d4, d5, d6, d7, d8⟩ := hc k hlr
   have HPR := Shut.mk (((HR.out.1.below hb.out).2 rs[k] (List.getElem_mem hlr)))
   have HPL := Shut.mk (HR.out.2 rs[k] (List.getElem_mem hlr))
   obtain ⟨r, hre⟩ : ∃ r, r = rs[k] := ⟨_, rfl⟩
   rw [← hre] at d0 d1 d2 d3 d4 d5 d6 d7 d8 HPR HPL
   have HRE := Shut.mk hre
   have k0 : (0 : Int) ≤ (k : Int) := by omega
   have k1 : (k : Int) < (n : Int) := by omega
   clear hc hre
   go_wp2_with fail
   refine (toInode_any r _ _ _ HPR.out HPL.out).mono ?_
   rintro e w2 ⟨g', rfl, hg', hw', hb2⟩
   have hgk : k < gs.length := by have := HG.out.1; omega
   have HC := Shut.mk ((hw.out.copy hb2 k hgk r.nd hg' hw' hb.out.size).wide (Nat.le_refl _) (Nat.le_of_eq (setW_size w2 w.heap.size (k * 9) (ncells ⟨r.nd, some ⟨g', 0, none⟩, r.nd.pieces.length⟩)).symm))
   have HWO := Shut.mk (hw.out.out.below hb2 hw.out.out.1)
   have HB3 := Shut.mk (below_setW (hb.out.trans (hb2.mono hb.out.size)) (Nat.le_refl _) (k * 9) (ncells ⟨r.nd, some ⟨g', 0, none⟩, r.nd.pieces.length⟩))
   unfold ncells at HC HB3
   dsimp only at HC HB3
   rw [setW9] at HC HB3
   clear hw hb hb2 hw' d0 d1 d2 d3 d4 d5 d6 d7 d8 HPR HPL
   obtain ⟨c0, z0⟩ := HWO.out.2 (k * 9) _ (flat_get ncells_len gs k hgk 0 (by omega))
   obtain ⟨c1, z1⟩ := HWO.out.2 (k * 9 + 1) _ (flat_get ncells_len gs k hgk 1 (by omega))
   obtain ⟨c2, z2⟩ := HWO.out.2 (k * 9 + 2) _ (flat_get ncells_len gs k hgk 2 (by omega))
   obtain ⟨c3, z3⟩ := HWO.out.2 (k * 9 + 3) _ (flat_get ncells_len gs k hgk 3 (by omega))
   obtain ⟨c4, z4⟩ := HWO.out.2 (k * 9 + 4) _ (flat_get ncells_len gs k hgk 4 (by omega))
   obtain ⟨c5, z5⟩ := HWO.out.2 (k * 9 + 5) _ (flat_get ncells_len gs k hgk 5 (by omega))
   obtain ⟨c6, z6⟩ := HWO.out.2 (k * 9 + 6) _ (flat_get ncells_len gs k hgk 6 (by omega))
   obtain ⟨c7, z7⟩ := HWO.out.2 (k * 9 + 7) _ (flat_get ncells_len gs k hgk 7 (by omega))
   obtain ⟨c8, z8⟩ := HWO.out.2 (k * 9 + 8) _ (flat_get ncells_len gs k hgk 8 (by omega))
   clear HWO
   go_wp2_with fail
   go_roundw
   case rel =>
    refine ⟨k + 1, gs.set k ⟨r.nd, some ⟨g', 0, none⟩, r.nd.pieces.length⟩, by go_num, by omega, ⟨by rw [List.length_set]; exact HG.out.1, ?_⟩, HC, HB3⟩
    rw [List.take_succ_eq_append_getElem (by rw [List.length_set]; exact hgk), List.take_succ_eq_append_getElem hlr, List.take_set_of_le (Nat.le_refl _), nds_snoc, nds_snoc, HG.out.2, List.getElem_set_self, ← HRE.out]
   case measure => simp [intOf]; omega
  ·have e : nds gs = nds rs := by
    have h := HG.out.2
    rw [List.take_of_length_le (by have := HG.out.1; omega), List.take_of_length_le (by have := HN.out; omega)] at h; exact h
   have HE := Shut.mk e
   have HGL := Shut.mk HG.out.1
   clear e HG
   go_wp2_with fail
   go_ret
   exact ⟨w.heap.size, gs, by rw [HGL.out]; rfl, HE.out, hw.out, hb.out⟩
end Go.Proofs.YtakhagkhngmpaaaGreat
/- TreE: . -/
namespace Go.Proofs.YtakhagkhngmpaaaGreat
set_option maxRecDepth 100000
open Go.RowKit
attribute [local go_sem ↓] Go.wp_at_zero Go.wp_at_succ
set_option maxHeartbeats 2000000 in
theorem toTree_val {w : World} {v : Value} {T : TM} {lo hi : Nat} (h : TSee w v T lo hi) (hf : NFit T) : Calls Tryz.prog 43 #[v] w fun e w' => TrPost T w e w' := by
 obtain ⟨a, cap, rs, rfl, hr, hm⟩ := h
 have hrl : rs.length = T.nodes.length := by rw [← hr, nds_len]
 have hl : rs.length ≤ 1048576 := by unfold NFit at hf; omega
 have hp : ∀ r ∈ rs, r.nd.pieces.length ≤ 1048576 := fun r hx => by
  have := nsum_mem (ns := T.nodes) (n := r.nd) (by rw [← hr]; exact List.mem_map.2 ⟨r, hx, rfl⟩)
  unfold NFit at hf
  omega
 have HS := Shut.mk (fun W (hW : Below w.heap.size w W) => toInodeS_any a rs cap W lo hi (hm.below hW) hl hp)
 unfold ToNodes at HS
 obtain ⟨nds0, next⟩ := T
 dsimp only at *
 subst hr
 generalize rs.length = n at *
 clear hm hp hf hrl
 go_enter Tryz.func43, Tryz.ntmps43
 go_upto_region 2 with fail
 refine wp_shade (fun W => Tri w W [.slice a n cap, .int .i64 next] [.slice none 0 0, .int .i64 0] [.slice none 0 0, .int .i64 0]) (Tri.new w #[.slice a n cap, .int .i64 next] #[.slice none 0 0, .int .i64 0] #[.slice none 0 0, .int .i64 0] 56 26 26) ?_
 intro W4 ht
 have HT := Shut.mk ht
 have a0 := (ht.b1.2 0 _ rfl).1
 clear ht
 go_wp2_with fail
 refine (HS.out _ HT.out.bel).mono ?_
 rintro e w5 ⟨g, ts, rfl, hn, hw, hb⟩
 have ht5 := HT.out.below hb
 have hlo : w.heap.size + 3 ≤ W4.heap.size := by have := HT.out.b3.1; omega
 have hw0 : w.heap.size ≤ W4.heap.size := by omega
 obtain ⟨m, hm⟩ : ∃ m, m = ts.length := ⟨_, rfl⟩
 have HT5 := Shut.mk (And.intro ht5 (And.intro hw (show w5.heap.size = w5.heap.size from rfl)))
 have HTS := Shut.mk (And.intro hn hm)
 rw [← hm]
 obtain ⟨c0, z0⟩ := ht5.b3.2 0 _ rfl
 clear hn hw hb ht5 HT a0 HS hm
 have step : ∀ {W : World} (i : Nat) (v : Value) (b : Nat), b < W4.heap.size → w.heap.size ≤ b → TW W g ts W4.heap.size w5.heap.size → TW (W.setCell ⟨b, i, none⟩ v) g ts W4.heap.size w5.heap.size := fun {W} i v b h1 _ h => h.turned (lo' := b) (hi' := b + 1) (Turned.of_grown (gb_set' W b i v) (Nat.le_refl _) (Nat.lt_succ_self _)) (.inr h1)
 have HST := Shut.mk @step
 clear step
 go_upto_region 3 with fail
 refine wp_shade (fun W => Tri w W [.slice a n cap, .int .i64 next] [.slice none 0 0, .int .i64 0] [.slice (some ⟨g, 0, none⟩) m m, .int .i64 0] ∧ TW W g ts W4.heap.size w5.heap.size ∧ W.heap.size = w5.heap.size) ⟨HT5.out.1.set 0 _ (by simp), HST.out 0 _ (w.heap.size + 1 + 1) (by omega) (by omega) HT5.out.2.1, by simp [World.setCell]⟩ ?_
 clear HT5 c0 z0
 rintro W6 ⟨ht, hw, hs⟩
 have HT := Shut.mk (And.intro ht (And.intro hw hs))
 have a1 := (ht.b1.2 1 _ rfl).1
 obtain ⟨c1, z1⟩ := ht.b3.2 1 _ rfl
 clear ht hw hs
 go_upto_region 4 with fail
 refine wp_shade (fun W => Tri w W [.slice a n cap, .int .i64 next] [.slice none 0 0, .int .i64 0] [.slice (some ⟨g, 0, none⟩) m m, .int .i64 next] ∧ TW W g ts W4.heap.size w5.heap.size ∧ W.heap.size = w5.heap.size) ⟨HT.out.1.set 1 _ (by simp), HST.out 1 _ (w.heap.size + 1 + 1) (by omega) (by omega) HT.out.2.1, by have := HT.out.2.2; simp [World.setCell, this]⟩ ?_
 clear HT c1 z1 a1
 rintro W7 ⟨ht, hw, hs⟩
 have HT := Shut.mk (And.intro ht (And.intro hw hs))
 obtain ⟨c0, z0⟩ := ht.b3.2 0 _ rfl
 obtain ⟨c1, z1⟩ := ht.b3.2 1 _ rfl
 obtain ⟨x0, y0⟩ := ht.b2.2 0 _ rfl
 obtain ⟨x1, y1⟩ := ht.b2.2 1 _ rfl
 clear ht hw hs
 go_wp2_with fail
 refine body_shade (fun W => WCells W (w.heap.size + 1) [.slice (some ⟨g, 0, none⟩) m m, .int .i64 next] ∧ TW W g ts W4.heap.size w5.heap.size ∧ W.heap.size = w5.heap.size ∧ Below w.heap.size w W) ⟨HT.out.1.b2.setW 0 [.slice (some ⟨g, 0, none⟩) m m, .int .i64 next] (by simp), HST.out 1 _ (w.heap.size + 1) (by omega) (by omega) (HST.out 0 _ (w.heap.size + 1) (by omega) (by omega) HT.out.2.1), by have := HT.out.2.2; simp [World.setCell, this], below_setW HT.out.1.bel (by omega) 0 [.slice (some ⟨g, 0, none⟩) m m, .int .i64 next]⟩ ?_
 clear HT c0 z0 c1 z1 x0 y0 x1 y1
 rintro W8 ⟨h2, hw, hs, hb⟩
 have x0 := (h2.2 0 _ rfl).1
 have x1 := (h2.2 1 _ rfl).1
 refine bodyPost_ret (v := .agg #[.slice (some ⟨g, 0, none⟩) m m, .int .i64 next]) (by simp [results, Tryz.results43, go_sem, x0, x1]) rfl ⟨_, rfl, ⟨_, m, ts, by rw [← HTS.out.2], HTS.out.1, Nat.le_of_eq HTS.out.2.symm, .inr ⟨g, rfl, hw.wide hw0 (Nat.le_of_eq hs.symm)⟩⟩, hb⟩
end Go.Proofs.YtakhagkhngmpaaaGreat
/- TreP: . -/
namespace Go.Proofs.YtakhagkhngmpaaaGreat
set_option maxRecDepth 100000
open Go.RowKit
attribute [local go_sem ↓] Go.wp_at_zero Go.wp_at_succ
theorem nds_at (rs : List NR) (i : Nat) (h : i < rs.length) : (nds rs)[i]'(by rw [nds_len]; exact h) = rs[i].nd := by simp [nds]
set_option maxHeartbeats 1000000 in
theorem specAt {w : World} {v : Value} {T : TM} {lo hi : Nat} (id : Int) (h : TSee w v T lo hi) (hl : T.nodes.length ≤ 1048576) : Calls Tryz.prog 67 #[v, .int .i64 id] w fun e w' => e = .returned (.int .i64 (atI T.nodes id)) ∧ Below w.heap.size w w' := by
 obtain ⟨a, cap, rs, rfl, hr, hm⟩ := h
 obtain ⟨n, hn⟩ : ∃ n, n = rs.length := ⟨_, rfl⟩
 have hnl : n = T.nodes.length := by rw [hn, ← hr, nds_len]
 have HN := Shut.mk (And.intro hn hr)
 obtain ⟨R, hR⟩ : ∃ R, R = atI T.nodes id := ⟨_, rfl⟩
 have HRR := Shut.mk hR
 have hn9 : n ≤ 1048576 := by omega
 rw [← hR, ← hn]
 generalize T.next = nx at *
 obtain ⟨W, hW⟩ : ∃ W, W = w.alloc (.cells #[.slice a n cap, .int .i64 nx] 26) := ⟨_, rfl⟩
 have HB : Shut (Below w.heap.size w W) := ⟨by rw [hW]; exact (Below.refl _ _).alloc (Nat.le_refl _) _⟩
 have HM := Shut.mk (hm.below HB.out)
 have x0 : W.cell? ⟨w.heap.size, 0, none⟩ = some (.slice a n cap) := by rw [hW]; exact ((wcells_new w #[.slice a n cap, .int .i64 nx] 26).2 0 _ rfl).1
 clear hm hr hn hnl hR hl
 go_enter Tryz.func67, Tryz.ntmps67
 go_upto_region 1 with fail
 rw [← hW]
 clear hW
 go_wp2_with fail
 go_loopw [5] (fun i wr => ∃ (k : Nat), i = .int .i64 k ∧ k ≤ n ∧ Shut (∀ j, j < k → ∀ hj : j < T.nodes.length, T.nodes[j].id ≠ id) ∧ wr = W) (fun i _ => n - (intOf i).toNat)
 case atStart => exact ⟨0, rfl, Nat.zero_le _, ⟨fun j hj => by omega⟩, rfl⟩
 case round =>
  obtain ⟨k, rfl, hk, hall, rfl⟩ := hrel
  by_cases hlt : k < n
  ·have hlr : k < rs.length := by have := HN.out.1; omega
   have htl : k < T.nodes.length := by rw [← HN.out.2, nds_len]; exact hlr
   obtain ⟨b, off, rfl, lb, hc⟩ := TR.nat HM.out (by omega)
   have d0 := (hc k hlr).1
   have hid : rs[k].nd = T.nodes[k] := by
    have := nds_at rs k hlr
    rw [← this]
    simp only [HN.out.2]
   rw [hid] at d0
   have k0 : (0 : Int) ≤ (k : Int) := by omega
   have k1 : (k : Int) < (n : Int) := by omega
   clear hc hid
   by_cases he : T.nodes[k].id = id
   ·have HE : Shut (R = (k : Int)) := ⟨by rw [HRR.out]; exact atI_some htl he hall.out⟩
    have he' : (T.nodes[k].id == id) = true := by simpa using he
    generalize T.nodes[k].id = q at *
    go_wp2_with fail
    go_ret
    exact ⟨by rw [HE.out]; rfl, HB.out⟩
   ·have he' : (T.nodes[k].id == id) = false := by simpa using he
    have HNX : Shut (∀ j, j < k + 1 → ∀ hj : j < T.nodes.length, T.nodes[j].id ≠ id) := ⟨fun j hj hj2 => by
     by_cases e : j = k
     ·subst e; exact he
     ·exact hall.out j (by omega) hj2⟩
    generalize T.nodes[k].id = q at *
    go_wp2_with fail
    go_roundw
    case rel => exact ⟨k + 1, by go_num, by omega, HNX, by first | rfl | trivial⟩
    case measure => simp [intOf]; omega
  ·have hlt' : ¬ (k : Int) < (n : Int) := by omega
   have HE : Shut (R = -1) := ⟨by
    rw [HRR.out]
    refine atI_none (fun m hm => ?_)
    obtain ⟨j, hj, rfl⟩ := List.mem_iff_getElem.1 hm
    exact hall.out j (by rw [← HN.out.2, nds_len] at hj; have := HN.out.1; omega) hj⟩
   go_wp2_with fail
   go_ret
   exact ⟨by rw [HE.out]; rfl, HB.out⟩
end Go.Proofs.YtakhagkhngmpaaaGreat
/- TreQ: . -/
namespace Go.Proofs.YtakhagkhngmpaaaGreat
set_option maxRecDepth 100000
open Go.RowKit
attribute [local go_sem ↓] Go.wp_at_zero Go.wp_at_succ
theorem isInI (x a b : Int) (w : World) (r : Bool) (h : inI x a b = r) : Calls Tryz.prog 61 #[.int .i64 x, .int .i64 a, .int .i64 b] w fun e w' => e = .returned (.bool r) ∧ w' = w := isIn x a b w r h
theorem fileOk_no1 {n : NM} (h : inI n.schema 1 3 = false) : fileOk n = false := by unfold fileOk; rw [h]; rfl
theorem fileOk_no2 {n : NM} (h : n.quota ≠ 0) : fileOk n = false := by unfold fileOk; rw [show (n.quota == 0) = false by simpa using h]; simp
theorem fileOk_no3 {n : NM} (h : ¬ n.pieces.length ≤ 40) : fileOk n = false := by unfold fileOk; rw [decide_eq_false h]; simp
theorem fileOk_no4 {n : NM} (h : inI n.writer 0 9 = false) : fileOk n = false := by unfold fileOk; rw [h]; simp
theorem fileOk_no5 {n : NM} {p : PM} (hp : p ∈ n.pieces) (h : pieceOk n.schema p = false) : fileOk n = false := by
 have : n.pieces.all (pieceOk n.schema) = false := by
  cases e : n.pieces.all (pieceOk n.schema) with
  | false => rfl
  | true => rw [List.all_eq_true] at e; rw [e p hp] at h; cases h
 unfold fileOk; rw [this]; simp
theorem fileOk_yes {n : NM} (h1 : inI n.schema 1 3 = true) (h2 : n.quota = 0) (h3 : n.pieces.length ≤ 40) (h4 : inI n.writer 0 9 = true) (h5 : ∀ p ∈ n.pieces, pieceOk n.schema p = true) : fileOk n = ((sumP n.pieces == n.len) && decide (sumP n.pieces ≤ 1000)) := by
 unfold fileOk
 rw [h1, h2, decide_eq_true h3, h4, show n.pieces.all (pieceOk n.schema) = true from List.all_eq_true.2 h5]
 simp
set_option maxHeartbeats 4000000 in
theorem specFile (r : NR) (w : World) (lo hi : Nat) (hp : RRow w r.loc (pcs r.nd.pieces) lo hi) (hpl : r.nd.pieces.length ≤ 1048576) : Calls Tryz.prog 142 #[nv r] w fun e w' => e = .returned (.bool (fileOk r.nd)) ∧ Below w.heap.size w w' := by
 obtain ⟨⟨id, parent, name, dir, schema, quota, len, pieces, writer⟩, loc, cap⟩ := r
 obtain ⟨R, hR⟩ : ∃ R, R = fileOk ⟨id, parent, name, dir, schema, quota, len, pieces, writer⟩ := ⟨_, rfl⟩
 have HR := Shut.mk hR
 dsimp only [nv] at *
 rw [← hR]
 obtain ⟨np, hnp⟩ : ∃ np, np = pieces.length := ⟨_, rfl⟩
 rw [← hnp] at hpl ⊢
 have HNP := Shut.mk hnp
 obtain ⟨W, hW⟩ : ∃ W, W = w.alloc (.cells #[.int .i64 id, .int .i64 parent, .string name, .bool dir, .int .i64 schema, .int .i64 quota, .int .i64 len, .slice loc np cap, .int .i64 writer] 47) := ⟨_, rfl⟩
 have HB : Shut (Below w.heap.size w W) := ⟨by rw [hW]; exact (Below.refl _ _).alloc (Nat.le_refl _) _⟩
 have HC : Shut (WCells W w.heap.size [.int .i64 id, .int .i64 parent, .string name, .bool dir, .int .i64 schema, .int .i64 quota, .int .i64 len, .slice loc np cap, .int .i64 writer]) := ⟨by rw [hW]; exact wcells_new w #[.int .i64 id, .int .i64 parent, .string name, .bool dir, .int .i64 schema, .int .i64 quota, .int .i64 len, .slice loc np cap, .int .i64 writer] 47⟩
 have HP := Shut.mk (hp.below HB.out)
 have x4 := (HC.out.2 4 _ rfl).1
 have x5 := (HC.out.2 5 _ rfl).1
 have x7 := (HC.out.2 7 _ rfl).1
 have x8 := (HC.out.2 8 _ rfl).1
 clear hp hR hnp
 cases h1 : inI schema 1 3 with
 | false =>
  have HE := Shut.mk (HR.out.trans (fileOk_no1 h1))
  go_enter Tryz.func142, Tryz.ntmps142
  go_upto_region 1 with fail
  rw [← hW]
  clear hW
  go_wp2_with fail
  refine (isInI schema 1 3 _ false h1).mono ?_
  rintro e w1 ⟨rfl, hw1⟩
  obtain rfl : W = w1 := hw1.symm
  clear hw1
  go_wp2_with fail
  go_ret
  exact ⟨by rw [HE.out]; rfl, HB.out⟩
 | true =>
  by_cases h2 : quota = 0
  case neg =>
   have HE := Shut.mk (HR.out.trans (fileOk_no2 h2))
   have h2' : (quota != 0) = true := by simpa using h2
   go_enter Tryz.func142, Tryz.ntmps142
   go_upto_region 1 with fail
   rw [← hW]
   clear hW
   go_wp2_with fail
   refine (isInI schema 1 3 _ true h1).mono ?_
   rintro e w1 ⟨rfl, hw1⟩
   obtain rfl : W = w1 := hw1.symm
   clear hw1
   go_wp2_with fail
   go_ret
   exact ⟨by rw [HE.out]; rfl, HB.out⟩
  have h2' : (quota != 0) = false := by rw [h2]; rfl
  have H2 := Shut.mk h2
  clear h2
  by_cases h3 : np ≤ 40
  case neg =>
   have HE := Shut.mk (HR.out.trans (fileOk_no3 (by rw [← HNP.out]; exact h3)))
   have h3' : (40 : Int) < (np : Int) := by omega
   go_enter Tryz.func142, Tryz.ntmps142
   go_upto_region 1 with fail
   rw [← hW]
   clear hW
   go_wp2_with fail
   refine (isInI schema 1 3 _ true h1).mono ?_
   rintro e w1 ⟨rfl, hw1⟩
   obtain rfl : W = w1 := hw1.symm
   clear hw1
   go_wp2_with fail
   go_ret
   exact ⟨by rw [HE.out]; rfl, HB.out⟩
  have h3' : ¬ (40 : Int) < (np : Int) := by omega
  cases h4 : inI writer 0 9 with
  | false =>
   have HE := Shut.mk (HR.out.trans (fileOk_no4 h4))
   go_enter Tryz.func142, Tryz.ntmps142
   go_upto_region 1 with fail
   rw [← hW]
   clear hW
   go_wp2_with fail
   refine (isInI schema 1 3 _ true h1).mono ?_
   rintro e w1 ⟨rfl, hw1⟩
   obtain rfl : W = w1 := hw1.symm
   clear hw1
   go_wp2_with fail
   refine (isInI writer 0 9 _ false h4).mono ?_
   rintro e w1 ⟨rfl, hw1⟩
   obtain rfl : W = w1 := hw1.symm
   clear hw1
   go_wp2_with fail
   go_ret
   exact ⟨by rw [HE.out]; rfl, HB.out⟩
  | true =>
   have HY := Shut.mk (fun (q : ∀ p ∈ pieces, pieceOk schema p = true) => HR.out.trans (fileOk_yes (n := ⟨id, parent, name, dir, schema, quota, len, pieces, writer⟩) h1 H2.out (by rw [← HNP.out]; exact h3) h4 q))
   have HNO := Shut.mk (fun (p : PM) (hp : p ∈ pieces) (q : pieceOk schema p = false) => HR.out.trans (fileOk_no5 (n := ⟨id, parent, name, dir, schema, quota, len, pieces, writer⟩) hp q))
   have x6 := (HC.out.2 6 _ rfl).1
   have hg := groupN_bounds schema
   obtain ⟨G, hG⟩ : ∃ G, G = groupN schema := ⟨_, rfl⟩
   have HGS := Shut.mk (fun W => specGroupSize schema W)
   rw [← hG] at HGS hg
   have HG := Shut.mk hG
   clear hG
   go_enter Tryz.func142, Tryz.ntmps142
   go_upto_region 1 with fail
   rw [← hW]
   clear hW
   go_wp2_with fail
   refine (isInI schema 1 3 _ true h1).mono ?_
   rintro e w1 ⟨rfl, hw1⟩
   obtain rfl : W = w1 := hw1.symm
   clear hw1
   go_wp2_with fail
   refine (isInI writer 0 9 _ true h4).mono ?_
   rintro e w1 ⟨rfl, hw1⟩
   obtain rfl : W = w1 := hw1.symm
   clear hw1
   have HX := Shut.mk (And.intro x4 (And.intro x6 x7))
   clear h1 h4 x4 x5 x6 x8
   go_wp2_with fail
   go_loopw [3, 4] (fun s i wr => ∃ (k : Nat) (z : Int), i = .int .i64 k ∧ s = .int .i64 z ∧ k ≤ np ∧ 0 ≤ z ∧ z ≤ 32 * k ∧ Shut (z = sumP (pieces.take k) ∧ ∀ p ∈ pieces.take k, pieceOk schema p = true) ∧ Shut (Below W.heap.size W wr)) (fun _ i _ => np - (intOf i).toNat)
   case atStart => exact ⟨0, 0, rfl, rfl, Nat.zero_le _, by omega, by omega, ⟨rfl, by simp⟩, ⟨Below.refl _ _⟩⟩
   case round =>
    clear x7
    obtain ⟨k, z, rfl, rfl, hk, hz0, hz1, hall, hbl⟩ := hrel
    have hwl : w.heap.size < W.heap.size := HC.out.1
    have x4 := (hbl.out.cell (p := ⟨w.heap.size, 4, none⟩) hwl).trans HX.out.1
    have x6 := (hbl.out.cell (p := ⟨w.heap.size, 6, none⟩) hwl).trans HX.out.2.1
    have x7 := (hbl.out.cell (p := ⟨w.heap.size, 7, none⟩) hwl).trans HX.out.2.2
    by_cases hlt : k < np
    ·have hlp : k < pieces.length := by have := HNP.out; omega
     have k0 : (0 : Int) ≤ (k : Int) := by omega
     have k1 : (k : Int) < (np : Int) := by omega
     obtain ⟨b, off, rfl, lb, hc⟩ := pcs_at (HP.out.below hbl.out) (by omega)
     obtain ⟨d0, d1⟩ := hc k hlp
     have hst := sumP_take pieces k hlp
     have hmem : pieces[k] ∈ pieces := List.getElem_mem hlp
     have HTK : Shut (pieces.take (k + 1) = pieces.take k ++ [pieces[k]]) := ⟨List.take_succ_eq_append_getElem hlp⟩
     have hbn : ∀ q, Below W.heap.size W (wr.drewN q) := fun q => hbl.out.trans ⟨rfl, rfl, rfl, Nat.le_refl _, fun _ _ => rfl⟩
     have HBN := Shut.mk hbn
     generalize pieces[k] = p at *
     have HST := Shut.mk hst
     clear hc hst hbn
     cases g1 : inI p.group 1 100000 with
     | false =>
      have HE := Shut.mk (HNO.out p hmem (by unfold pieceOk; rw [g1]; rfl))
      clear hbl
      go_wp2_with fail
      go_quiet ((go_at_call 61; exact Calls.quiet_of_same (isInI _ _ _ _ false g1)))
      go_wp2_with fail
      go_ret
      exact ⟨by rw [HE.out]; rfl, HB.out.trans ((HBN.out _).mono HB.out.size)⟩
     | true =>
      cases g2 : inI p.len 1 (G : Int) with
      | false =>
       have HE := Shut.mk (HNO.out p hmem (by unfold pieceOk; rw [← HG.out, g1, g2]; rfl))
       clear hbl
       go_wp2_with fail
       go_quiet (first | (go_at_call 93; exact Calls.quiet_of_same (HGS.out _)) | (go_at_call 61; exact Calls.quiet_of_same (isInI _ _ _ _ true g1)) | (go_at_call 61; exact Calls.quiet_of_same (isInI _ _ _ _ false g2)))
       go_wp2_with fail
       go_ret
       exact ⟨by rw [HE.out]; rfl, HB.out.trans ((HBN.out _).mono HB.out.size)⟩
      | true =>
       have hok : pieceOk schema p = true := by unfold pieceOk; rw [← HG.out, g1, g2]; rfl
       have hlen := inI_iff.1 g2
       have HAL : Shut (z + p.len = sumP (pieces.take (k + 1)) ∧ ∀ q ∈ pieces.take (k + 1), pieceOk schema q = true) := ⟨by rw [HST.out, hall.out.1], fun q hq => by
        rw [HTK.out] at hq
        rcases List.mem_append.1 hq with h | h
        ·exact hall.out.2 q h
        ·simp at h; subst h; exact hok⟩
       clear hbl hall hok
       go_wp2_with fail
       go_quiet (first | (go_at_call 93; exact Calls.quiet_of_same (HGS.out _)) | (go_at_call 61; exact Calls.quiet_of_same (isInI _ _ _ _ true g1)) | (go_at_call 61; exact Calls.quiet_of_same (isInI _ _ _ _ true g2)))
       go_wp2_with fail
       go_roundw
       case rel => exact ⟨k + 1, z + p.len, by go_num, rfl, by omega, by omega, by push_cast; omega, HAL, ⟨HBN.out _⟩⟩
       case measure => simp [intOf]; omega
    ·have hlt' : ¬ (k : Int) < (np : Int) := by omega
     have hfull : pieces.take k = pieces := List.take_of_length_le (by have := HNP.out; omega)
     have hz := hall.out
     rw [hfull] at hz
     have HE := Shut.mk (HY.out hz.2)
     have HZ := Shut.mk hz.1
     clear hfull hz hall
     by_cases e1 : z = len
     ·have e1' : (z == len) = true := by simpa using e1
      by_cases e2 : z ≤ 1000
      ·have HF : Shut (R = true) := ⟨by rw [HE.out, ← HZ.out]; simp [e1, e1 ▸ e2]⟩
       clear HE e1
       go_wp2_with fail
       go_ret
       exact ⟨by rw [HF.out]; rfl, HB.out.trans (hbl.out.mono HB.out.size)⟩
      ·have HF : Shut (R = false) := ⟨by rw [HE.out, ← HZ.out]; simp; omega⟩
       clear HE e1
       go_wp2_with fail
       go_ret
       exact ⟨by rw [HF.out]; rfl, HB.out.trans (hbl.out.mono HB.out.size)⟩
     ·have e1' : (z == len) = false := by simpa using e1
      have HF : Shut (R = false) := ⟨by rw [HE.out, ← HZ.out]; simp [e1]⟩
      clear HE e1
      go_wp2_with fail
      go_ret
      exact ⟨by rw [HF.out]; rfl, HB.out.trans (hbl.out.mono HB.out.size)⟩
end Go.Proofs.YtakhagkhngmpaaaGreat
/- StrsA: . -/
namespace Go.Proofs.YtakhagkhngmpaaaGreat
set_option maxRecDepth 100000
open Go.RowKit
end Go.Proofs.YtakhagkhngmpaaaGreat
/- DecM: . -/
namespace Go.Proofs.YtakhagkhngmpaaaGreat.W
def dgF : Nat → Nat → List UInt8
 | 0, _ => []
 | f + 1, n => if n = 0 then [] else dgF f (n / 10) ++ [UInt8.ofNat (48 + n % 10)]
def dg (n : Nat) : List UInt8 := dgF n n
theorem dgF_enough : ∀ (f g n : Nat), n ≤ f → n ≤ g → dgF f n = dgF g n
 | 0, 0, _, _, _ => rfl
 | 0, g + 1, n, h, _ => by have : n = 0 := by omega
                           subst this; simp [dgF]
 | f + 1, 0, n, _, h => by have : n = 0 := by omega
                           subst this; simp [dgF]
 | f + 1, g + 1, n, h1, h2 => by
  unfold dgF
  by_cases h : n = 0
  ·rw [if_pos h, if_pos h]
  ·rw [if_neg h, if_neg h, dgF_enough f g (n / 10) (by omega) (by omega)]
theorem dg_zero : dg 0 = [] := rfl
theorem dg_step (n : Nat) (h : 0 < n) : dg n = dg (n / 10) ++ [UInt8.ofNat (48 + n % 10)] := by
 unfold dg
 match n, h with
 | k + 1, _ => rw [dgF, if_neg (by omega), dgF_enough k ((k + 1) / 10) ((k + 1) / 10) (by omega) (by omega)]
def decS (n : Nat) : List UInt8 := if n = 0 then [48] else dg n
theorem dg_len : ∀ (k n : Nat), n < 10 ^ k → (dg n).length ≤ k
 | 0, n, h => by have : n = 0 := by simpa using h
                 subst this; simp [dg_zero]
 | k + 1, n, h => by
  by_cases hn : n = 0
  ·subst hn; simp [dg_zero]
  ·rw [dg_step n (by omega)]
   have := dg_len k (n / 10) (by rw [Nat.pow_succ] at h; omega)
   simp; omega
end Go.Proofs.YtakhagkhngmpaaaGreat.W
/- Dec: . -/
namespace Go.Proofs.YtakhagkhngmpaaaGreat
set_option maxRecDepth 100000
open Go.RowKit
open Go.PlainAid (bt)
def oneB (c : Int) : ByteArray := ⟨#[UInt8.ofNat c.toNat]⟩
theorem oneB_size (c : Int) : (oneB c).size = 1 := rfl
theorem one_byte (W : World) (c : Int) (h0 : 0 ≤ c) (h1 : c < 256) :
  (convert 22 9 (.slice (some ⟨W.heap.size, 0, none⟩) 1 1)).run Tryz.prog (W.alloc (.cells #[.int .u8 c] 5)) =
   .ok (.string (oneB c)) (W.alloc (.cells #[.int .u8 c] 5)) := by
 have := run_convert_bytes_back (P := Tryz.prog) (W.alloc (.cells #[.int .u8 c] 5)) 22 9 5 ⟨W.heap.size, 0, none⟩ 1 [UInt8.ofNat c.toNat] Tryz.underlying22 Tryz.underlying5 Tryz.underlying9
  (fun j hj => by
   have : j = 0 := by simp at hj; omega
   subst this
   have e := byte_of c h0 h1
   rw [e]
   exact cell_one_new W _ _ 0 _ rfl)
 simpa [oneB] using this
theorem dg_more {n m : Nat} {s : ByteArray} (hm : 0 < m) (h : W.dg m ++ s.data.toList = W.dg n) (c : Int) (hc : c = 48 + ((m % 10 : Nat) : Int)) :
  W.dg (m / 10) ++ (oneB c ++ s).data.toList = W.dg n := by
 rw [← h, W.dg_step m hm]
 have e : UInt8.ofNat c.toNat = UInt8.ofNat (48 + m % 10) := by rw [hc]; congr 1
 unfold oneB
 rw [e]
 simp
end Go.Proofs.YtakhagkhngmpaaaGreat
/- StrsB: . -/
namespace Go.Proofs.YtakhagkhngmpaaaGreat
set_option maxRecDepth 100000
open Go.RowKit
attribute [local go_sem ↓] Go.wp_at_zero Go.wp_at_succ
def mt (k : Nat) : ByteArray := (⟨#[109]⟩ : ByteArray) ++ ⟨(W.decS k).toArray⟩
set_option maxHeartbeats 400000 in
theorem markText_any (n : Nat) (w : World) (hn : 0 < n) (hm : n ≤ 1000000000) :
  Calls Tryz.prog 100 #[.int .i64 n] w fun e w' => e = .returned (.string (mt n)) ∧ Below w.heap.size w w' := by
 have h0 : decide ((n : Int) ≤ 0) = false := by simp; omega
 have hl := W.dg_len 20 n (by omega)
 go_enter Tryz.func100, Tryz.ntmps100
 go_wp2_with fail
 go_loopw [0, 3] (fun i v wr => ∃ (m : Nat) (s : ByteArray), i = .int .i64 m ∧ v = .string s ∧ m ≤ n ∧ W.dg m ++ s.data.toList = W.dg n ∧ Below w.heap.size w wr) (fun i _ _ => (intOf i).toNat)
 case atStart => exact ⟨n, ⟨#[]⟩, rfl, rfl, Nat.le_refl _, by simp, Below.refl _ _⟩
 case round =>
  obtain ⟨m, s, rfl, rfl, hmn, hs, hb⟩ := hrel
  have HS : Hid (W.dg m ++ s.data.toList = W.dg n) := hs
  have hsz : s.size ≤ 20 := by have := congrArg List.length hs; simp at this; have e : s.data.size = s.size := rfl; omega
  clear hs
  by_cases hz : m = 0
  ·subst hz
   have hst : mt n = (⟨#[109]⟩ : ByteArray) ++ s := by
    have := HS.out
    rw [W.dg_zero, List.nil_append] at this
    unfold mt W.decS
    rw [if_neg (by omega), ← this]
   have HT : Hid _ := hst
   clear hst
   go_wp2_with fail
   go_ret
   refine ⟨?_, hb⟩
   rw [HT.out]
   rfl
  ·have hp : 0 < m := by omega
   have hB := hb.size
   have ho := oneB_size (48 + (m : Int) % 10)
   have hcv := one_byte wr (48 + (m : Int) % 10) (by omega) (by omega)
   go_wp2_with fail
   go_roundw
   case rel => exact ⟨m / 10, _, by go_num, rfl, by omega, dg_more hp HS.out _ (by omega), hb.alloc hB _⟩
   case measure => simp [intOf]; omega
def marks (k n : Nat) : List ByteArray := (List.range n).map fun j => mt (k + j)
def WRow (w : World) (g : Nat) (xs : List ByteArray) : Prop :=
 g < w.heap.size ∧ ∀ j, j < xs.length → w.cell? ⟨g, j, none⟩ = some (.string (xs.getD j ⟨#[]⟩)) ∧ w.frozen? ⟨g, j, none⟩ = false
theorem WRow.below {w w' : World} {g B : Nat} {xs : List ByteArray} (h : WRow w g xs) (hb : Below B w w') (hg : g < B) : WRow w' g xs :=
 ⟨Nat.lt_of_lt_of_le h.1 hb.size, fun j hj => ⟨(hb.cell (p := ⟨g, j, none⟩) hg).trans (h.2 j hj).1, (hb.frozen (p := ⟨g, j, none⟩) hg).trans (h.2 j hj).2⟩⟩
theorem WRow.set {w : World} {g : Nat} {xs : List ByteArray} (h : WRow w g xs) (i : Nat) (x : ByteArray) (hi : i < xs.length) : WRow (w.setCell ⟨g, i, none⟩ (.string x)) g (xs.set i x) := by
 refine ⟨by have := h.1; simpa [World.setCell] using this, fun j hj => ?_⟩
 rw [List.length_set] at hj
 refine ⟨?_, (World.frozen?_setCell _ _ _ _).trans (h.2 j hj).2⟩
 by_cases e : j = i
 ·subst e
  rw [World.cell?_setCell_same _ _ _ (h.2 j hj).1]
  simp [List.getD, hi]
 ·rw [World.cell?_setCell_other _ _ _ _ (by first | (simp; done) | (simp; omega)), (h.2 j hj).1]
  simp [List.getD, Ne.symm e]
theorem grownBy_setCell (w : World) (g i : Nat) (v : Value) : w.grownBy (w.setCell ⟨g, i, none⟩ v) (some g) :=
 ⟨rfl, rfl, rfl, by simp [World.setCell], fun k _ hk => Below.heap_setCell _ _ _ _ (fun e => hk (by rw [e]))⟩
theorem grownBy_below {w w' : World} {g : Nat} (h : Below w.heap.size w w') : w.grownBy w' (some g) := ⟨h.os, h.tape, h.output, h.size, fun k hk _ => h.block k hk⟩
theorem grownBy_two {a b c : World} {g : Nat} (h : a.grownBy b (some g)) (k : b.grownBy c (some g)) : a.grownBy c (some g) :=
 ⟨k.os.trans h.os, k.tape.trans h.tape, k.output.trans h.output, Nat.le_trans h.size k.size, fun i hi hn => (k.block i (Nat.lt_of_lt_of_le hi h.size) hn).trans (h.block i hi hn)⟩
end Go.Proofs.YtakhagkhngmpaaaGreat
/- TvA: . -/
namespace Go.Proofs.YtakhagkhngmpaaaGreat
set_option maxRecDepth 100000
open Go.RowKit
def tv (l : List ByteArray) : List Value := l.map Value.string
theorem tv_snoc (l : List ByteArray) (x : ByteArray) : tv l ++ [.string x] = tv (l ++ [x]) := by simp [tv]
theorem tv_len (l : List ByteArray) : (tv l).length = l.length := by simp [tv]
end Go.Proofs.YtakhagkhngmpaaaGreat
/- StrV: . -/
namespace Go.Proofs.YtakhagkhngmpaaaGreat
set_option maxRecDepth 100000
open Go.RowKit
attribute [local go_sem ↓] Go.wp_at_zero Go.wp_at_succ
theorem tv_get (L : List ByteArray) (j : Nat) (h : j < L.length) : (tv L)[j]? = some (.string (L.getD j ⟨#[]⟩)) := by simp [tv, List.getD, h]
def tsum : List ByteArray → Nat
 | [] => 0
 | x :: L => x.size + tsum L
theorem tsum_append (L M : List ByteArray) : tsum (L ++ M) = tsum L + tsum M := by
 induction L with
 | nil => simp [tsum]
 | cons t L ih => simp only [List.cons_append, tsum]; omega
theorem tsum_take (L : List ByteArray) (k : Nat) (h : k < L.length) : tsum (L.take (k + 1)) = tsum (L.take k) + (L.getD k ⟨#[]⟩).size := by
 rw [List.take_succ_eq_append_getElem h, tsum_append]
 have e : L.getD k ⟨#[]⟩ = L[k] := by simp [List.getD, h]
 rw [e]; simp [tsum]
theorem tsum_le (L : List ByteArray) (k : Nat) : tsum (L.take k) ≤ tsum L := by
 have := tsum_append (L.take k) (L.drop k)
 rw [List.take_append_drop] at this
 omega
def TFit (L : List ByteArray) : Prop := L.length + tsum L ≤ 1048576
def SSee (w : World) (v : Value) (L : List ByteArray) (lo hi : Nat) : Prop := ∃ (a : Option Addr) (cap : Nat), v = .slice a L.length cap ∧ RRow w a (tv L) lo hi
def SAns (w : World) (v : Value) (L : List ByteArray) (lo hi : Nat) : Prop := ∃ (a : Option Addr) (cap : Nat), v = .slice a L.length cap ∧ L.length ≤ cap ∧ (L = [] ∨ ∃ g, a = some ⟨g, 0, none⟩ ∧ lo ≤ g ∧ g < hi ∧ WCells w g (tv L))
theorem SAns.see {w : World} {v : Value} {L : List ByteArray} {lo hi : Nat} (h : SAns w v L lo hi) : SSee w v L lo hi := by
 obtain ⟨a, cap, e, _, h1⟩ := h
 refine ⟨a, cap, e, ?_⟩
 rcases h1 with rfl | ⟨g, rfl, q1, q2, hm⟩
 ·intro h; simp [tv] at h
 ·exact RRow.of_wcells hm q1 q2
theorem SSee.turned {w w' : World} {v : Value} {L : List ByteArray} {lo hi lo' hi' : Nat} (h : SSee w v L lo hi) (t : Turned w w' lo' hi') (hd : hi ≤ lo' ∨ hi' ≤ lo) : SSee w' v L lo hi := by
 obtain ⟨a, cap, e, h1⟩ := h
 exact ⟨a, cap, e, h1.turned t hd⟩
theorem SSee.below {w w' : World} {v : Value} {L : List ByteArray} {lo hi : Nat} (h : SSee w v L lo hi) (hb : Below w.heap.size w w') : SSee w' v L lo hi := by
 obtain ⟨a, cap, e, h1⟩ := h
 exact ⟨a, cap, e, h1.below hb⟩
theorem SAns.turned {w w' : World} {v : Value} {L : List ByteArray} {lo hi lo' hi' : Nat} (h : SAns w v L lo hi) (t : Turned w w' lo' hi') (hd : hi ≤ lo' ∨ hi' ≤ lo) : SAns w' v L lo hi := by
 obtain ⟨a, cap, e, hc, h1⟩ := h
 refine ⟨a, cap, e, hc, ?_⟩
 rcases h1 with rfl | ⟨g, rfl, q1, q2, hm⟩
 ·exact .inl rfl
 ·exact .inr ⟨g, rfl, q1, q2, hm.turned t (by omega)⟩
theorem SAns.below {w w' : World} {v : Value} {L : List ByteArray} {lo hi : Nat} (h : SAns w v L lo hi) (hb : Below w.heap.size w w') : SAns w' v L lo hi := by
 obtain ⟨a, cap, e, hc, h1⟩ := h
 refine ⟨a, cap, e, hc, ?_⟩
 rcases h1 with rfl | ⟨g, rfl, q1, q2, hm⟩
 ·exact .inl rfl
 ·exact .inr ⟨g, rfl, q1, q2, hm.grow hb⟩
theorem SAns.empty (w : World) (a : Option Addr) (cap lo hi : Nat) : SAns w (.slice a 0 cap) [] lo hi := ⟨a, cap, rfl, Nat.zero_le _, .inl rfl⟩
theorem infoTextG : (Tryz.prog.info? 9).map (fun i => (i.zero, i.size, i.bytes)) = some (some (.string ⟨#[]⟩), 1, 16) := by kernel_rfl
end Go.Proofs.YtakhagkhngmpaaaGreat
/- PathA: . -/
namespace Go.Proofs.YtakhagkhngmpaaaGreat
set_option maxRecDepth 100000
open Go.RowKit
open Go.PlainAid (bt)
attribute [local go_sem ↓] Go.wp_at_zero Go.wp_at_succ
theorem nameC_bt {s : ByteArray} {j : Nat} (h : j < s.size) : nameC ((lb s)[j]'h) = ((decide (97 ≤ bt s j) && decide (bt s j ≤ 122)) || (decide (48 ≤ bt s j) && decide (bt s j ≤ 57))) := by
 unfold nameC
 rw [bt_at h]
 generalize ((lb s)[j]'h).toNat = n
 simp only [show ((97 : Int) ≤ (n : Int)) = (97 ≤ n) from propext ⟨fun h => by omega, fun h => by omega⟩, show ((n : Int) ≤ 122) = (n ≤ 122) from propext ⟨fun h => by omega, fun h => by omega⟩, show ((48 : Int) ≤ (n : Int)) = (48 ≤ n) from propext ⟨fun h => by omega, fun h => by omega⟩, show ((n : Int) ≤ 57) = (n ≤ 57) from propext ⟨fun h => by omega, fun h => by omega⟩]
def nameN (n : Int) : Prop := (97 ≤ n ∧ n ≤ 122) ∨ (48 ≤ n ∧ n ≤ 57)
theorem nameC_iff {s : ByteArray} {j : Nat} (h : j < s.size) : nameC ((lb s)[j]'h) = true ↔ nameN (bt s j) := by
 rw [nameC_bt h]
 unfold nameN
 simp only [Bool.or_eq_true, Bool.and_eq_true, decide_eq_true_eq]
theorem nameB_iff (s : ByteArray) : nameB s = true ↔ (∀ j, j < s.size → nameN (bt s j)) ∧ 1 ≤ s.size ∧ s.size ≤ 8 := by
 unfold nameB nameL
 have hl : (lb s).length = s.size := rfl
 simp only [Bool.and_eq_true, decide_eq_true_eq, List.all_eq_true, hl]
 constructor
 ·rintro ⟨h1, h2⟩
  exact ⟨fun j hj => (nameC_iff hj).1 (h1 _ (List.getElem_mem hj)), h2⟩
 ·rintro ⟨h1, h2⟩
  refine ⟨fun c hc => ?_, h2⟩
  obtain ⟨j, hj, rfl⟩ := List.mem_iff_getElem.1 hc
  exact (nameC_iff hj).2 (h1 j hj)
theorem nameB_no {s : ByteArray} {j : Nat} (h : j < s.size) (hn : ¬ nameN (bt s j)) : nameB s = false := by
 cases e : nameB s with
 | false => rfl
 | true => exact absurd ((nameB_iff s).1 e |>.1 j h) hn
theorem units_at {w : World} {a : Option Addr} {L : List ByteArray} {lo hi : Nat} (h : RRow w a (tv L) lo hi) (hp : 0 < L.length) : ∃ b off, a = some ⟨b, off, none⟩ ∧ b < w.heap.size ∧ ∀ j, j < L.length → w.cell? ⟨b, off + j, none⟩ = some (.string (L.getD j ⟨#[]⟩)) := by
 obtain ⟨b, off, e, _, _, hb, hc⟩ := h (by rw [tv_len]; exact hp)
 exact ⟨b, off, e, hb, fun j hj => hc j _ (tv_get L j hj)⟩
set_option maxHeartbeats 1000000 in
theorem specNameOk (s : ByteArray) (w : World) (hs : s.size ≤ 1048576) : Calls Tryz.prog 122 #[.string s] w fun e w' => e = .returned (.bool (nameB s)) ∧ Below w.heap.size w w' := by
 have hb := Go.PlainAid.get_bt s
 obtain ⟨r, hre⟩ : ∃ r, r = nameB s := ⟨_, rfl⟩
 have HRE := Shut.mk hre
 rw [← hre]
 clear hre
 go_enter Tryz.func122, Tryz.ntmps122
 go_wp2_with fail
 go_loopw [3] (fun i wr => ∃ (k : Nat), i = .int .i64 k ∧ k ≤ s.size ∧ Shut (∀ j, j < k → nameN (bt s j)) ∧ Shut (Below w.heap.size w wr)) (fun i _ => s.size - (intOf i).toNat)
 case atStart => exact ⟨0, rfl, Nat.zero_le _, ⟨fun j hj => by omega⟩, ⟨Below.refl _ _⟩⟩
 case round =>
  obtain ⟨k, rfl, hk, hall, hbl⟩ := hrel
  by_cases hlt : k < s.size
  ·have b0 := Go.PlainAid.bt_nonneg s k
   have b1 := Go.PlainAid.bt_le s k
   have hlt' : (k : Int) < (s.size : Int) := by omega
   have k0 : (0 : Int) ≤ (k : Int) := by omega
   have HN := Shut.mk (fun (q : nameN (bt s k)) => show ∀ j, j < k + 1 → nameN (bt s j) from fun j hj => by
    by_cases e : j = k
    ·subst e; exact q
    ·exact hall.out j (by omega))
   have HF := Shut.mk (fun (q : ¬ nameN (bt s k)) => HRE.out.trans (nameB_no hlt q))
   by_cases c1 : bt s k < 97
   ·by_cases c2 : bt s k < 48
    ·have HE := Shut.mk (HF.out (fun q => by unfold nameN at q; omega))
     go_wp2_with fail
     go_ret
     exact ⟨by rw [HE.out]; rfl, hbl.out⟩
    ·by_cases c3 : 57 < bt s k
     ·have HE := Shut.mk (HF.out (fun q => by unfold nameN at q; omega))
      go_wp2_with fail
      go_ret
      exact ⟨by rw [HE.out]; rfl, hbl.out⟩
     ·have HE := Shut.mk (HN.out (by unfold nameN; omega))
      go_wp2_with fail
      go_roundw
      case rel => exact ⟨k + 1, by go_num, by omega, HE, hbl⟩
      case measure => simp [intOf]; omega
   ·by_cases c2 : 122 < bt s k
    ·have HE := Shut.mk (HF.out (fun q => by unfold nameN at q; omega))
     have c3 : ¬ bt s k < 48 := by omega
     have c4 : 57 < bt s k := by omega
     go_wp2_with fail
     go_ret
     exact ⟨by rw [HE.out]; rfl, hbl.out⟩
    ·have HE := Shut.mk (HN.out (by unfold nameN; omega))
     go_wp2_with fail
     go_roundw
     case rel => exact ⟨k + 1, by go_num, by omega, HE, hbl⟩
     case measure => simp [intOf]; omega
  ·have hlt' : ¬ (k : Int) < (s.size : Int) := by omega
   have hin : (decide ((1 : Int) ≤ (s.size : Int)) && decide ((s.size : Int) ≤ 8)) = r := by
    rw [HRE.out, Bool.eq_iff_iff, nameB_iff]
    simp only [Bool.and_eq_true, decide_eq_true_eq]
    constructor
    ·intro h; exact ⟨fun j hj => hall.out j (by omega), by omega, by omega⟩
    ·intro h; omega
   have HI := Shut.mk (fun W => isIn (s.size : Int) 1 8 W _ hin)
   clear hin hall
   go_wp2_with fail
   refine (HI.out _).mono ?_
   rintro e w1 ⟨rfl, hw⟩
   subst hw
   go_wp2_with fail
   go_ret
   exact ⟨rfl, hbl.out⟩
end Go.Proofs.YtakhagkhngmpaaaGreat
/- PathB: . -/
namespace Go.Proofs.YtakhagkhngmpaaaGreat
set_option maxRecDepth 100000
open Go.RowKit
open Go.PlainAid (bt)
attribute [local go_sem ↓] Go.wp_at_zero Go.wp_at_succ
def OPost (R : List ByteArray × Bool) (w : World) (e : Ending) (w' : World) : Prop := ∃ v, e = .returned (.tuple #[v, .bool R.2]) ∧ w'.ownsRow w.heap.size 9 1 v R.1.length (tv R.1) ∧ Below w.heap.size w w'
theorem OPost.none {R : List ByteArray × Bool} {b : Bool} {w w' : World} {v : Value} (h : R = ([], b)) (ho : w'.ownsRow w.heap.size 9 1 v 0 []) (hb : Below w.heap.size w w') : OPost R w (.returned (.tuple #[v, .bool b])) w' := by
 unfold OPost
 rw [h]
 exact ⟨v, rfl, ho, hb⟩
theorem OPost.some {R L : List ByteArray × Bool} {w w' : World} {v : Value} (h : R = L) (ho : w'.ownsRow w.heap.size 9 1 v L.1.length (tv L.1)) (hb : Below w.heap.size w w') : OPost R w (.returned (.tuple #[v, .bool L.2])) w' := by
 rw [h]
 exact ⟨v, rfl, ho, hb⟩
theorem own_made0 {w w' : World} (hb : Below w.heap.size w w') : (w'.alloc (.cells #[] 9)).ownsRow w.heap.size 9 1 (.slice (.some ⟨w'.heap.size, 0, none⟩) 0 0) 0 [] := World.ownsRow_made w' #[] 0 hb.size (by decide) rfl
theorem splitB_first {p : ByteArray} (h : p.size = 0 ∨ bt p 0 ≠ 47) : splitB p = ([], false) := by
 have hl : (lb p).length = p.size := rfl
 unfold splitB
 cases e : lb p with
 | nil => rfl
 | cons c r =>
  have hc : c ≠ 47 := fun q => by
   subst q
   rw [e] at hl
   simp at hl
   rcases h with h | h
   ·omega
   ·apply h
    have h1 : 0 < p.size := by omega
    rw [bt_at h1]
    simp only [e, List.getElem_cons_zero]
    decide
  have e2 : splitP (c :: r) = ([], false) := by unfold splitP; exact if_neg hc
  rw [e2]; rfl
theorem splitB_one {p : ByteArray} (h : p = ⟨#[47]⟩) : splitB p = ([], true) := by subst h; rfl
theorem one_slash {p : ByteArray} (h : p.size = 1) (h0 : bt p 0 = 47) : p = ⟨#[47]⟩ := by
 have hl : (lb p).length = p.size := rfl
 have e : lb p = [47] := by
  cases e : lb p with
  | nil => rw [e] at hl; simp at hl; omega
  | cons c r =>
   rw [e] at hl
   have hr : r = [] := List.eq_nil_of_length_eq_zero (by simp at hl; omega)
   subst hr
   congr 1
   have h2 := bt_at (s := p) (j := 0) (by omega)
   simp only [e, List.getElem_cons_zero] at h2
   rw [h0] at h2
   have h3 : c.toNat = 47 := by omega
   exact UInt8.toNat_inj.1 h3
 have := congrArg ba e
 rw [ba_lb] at this
 exact this
structure PaWay (p : ByteArray) (k bg : Nat) (done : List ByteArray) : Prop where
 open' : k ≤ p.size → PaRel p k bg done
 fin : p.size < k → (segs ((lb p).drop 1)).map ba = done ∧ ∀ s ∈ done, nameB s = true
theorem PaWay.split {p : ByteArray} {k bg : Nat} {done : List ByteArray} (h : PaWay p k bg done) (hk : k ≤ p.size) (hc : k < p.size → bt p k = 47) : ∃ rest, (segs ((lb p).drop 1)).map ba = (done ++ [p.extract bg k]) ++ rest := by
 by_cases e : k < p.size
 ·exact ⟨_, (h.open' hk).split e (hc e)⟩
 ·exact ⟨[], by rw [List.append_nil]; exact (h.open' hk).fin (by omega)⟩
theorem PaWay.bad {p : ByteArray} {k bg : Nat} {done : List ByteArray} (h : PaWay p k bg done) (h1 : 1 < p.size) (h0 : bt p 0 = 47) (hk : k ≤ p.size) (hc : k < p.size → bt p k = 47) (hn : nameB (p.extract bg k) = false) : splitB p = ([], false) := by
 obtain ⟨rest, e⟩ := h.split hk hc
 rw [splitB_rest h1 h0, if_neg (fun q => by
  have := q.1 (p.extract bg k) (by rw [e]; simp)
  rw [hn] at this; cases this)]
theorem PaWay.next {p : ByteArray} {k bg : Nat} {done : List ByteArray} (h : PaWay p k bg done) (hk : k ≤ p.size) (hc : k < p.size → bt p k = 47) (hn : nameB (p.extract bg k) = true) : PaWay p (k + 1) (k + 1) (done ++ [p.extract bg k]) := by
 refine ⟨fun q => (h.open' hk).next (by omega) (hc (by omega)) hn, fun q => ⟨(h.open' hk).fin (by omega), fun s hs => ?_⟩⟩
 rcases List.mem_append.1 hs with q | q
 ·exact (h.open' hk).names s q
 ·simp at q; subst q; exact hn
theorem PaWay.step {p : ByteArray} {k bg : Nat} {done : List ByteArray} (h : PaWay p k bg done) (hk : k < p.size) (hc : bt p k ≠ 47) : PaWay p (k + 1) bg done := ⟨fun _ => (h.open' (by omega)).step hc, fun q => by omega⟩
theorem PaWay.done {p : ByteArray} {k bg : Nat} {done : List ByteArray} (h : PaWay p k bg done) (h1 : 1 < p.size) (h0 : bt p 0 = 47) (hk : p.size < k) : splitB p = if done.length ≤ 4 then (done, true) else ([], false) := by
 obtain ⟨e, hn⟩ := h.fin hk
 rw [splitB_rest h1 h0, e]
 by_cases q : done.length ≤ 4
 ·rw [if_pos ⟨hn, q⟩, if_pos q]
 ·rw [if_neg (fun k => q k.2), if_neg q]
set_option maxHeartbeats 2000000 in
theorem specSplitPath (p : ByteArray) (w : World) (hs : p.size ≤ 1048576) : Calls Tryz.prog 76 #[.string p] w fun e w' => OPost (splitB p) w e w' := by
 obtain ⟨i0, hi, hz0, hz1, hz2⟩ := info_parts infoTextG
 have hb := Go.PlainAid.get_bt p
 have hal : Below w.heap.size w (w.alloc (.cells #[] 9)) := (Below.refl _ _).alloc (Nat.le_refl _) _
 have HAL := Shut.mk hal
 have HOW := Shut.mk (own_made0 (Below.refl w.heap.size w))
 clear hal
 by_cases h0 : p.size = 0
 ·have HE := Shut.mk (splitB_first (.inl h0))
  have h0' : ((p.size : Int) == 0) = true := by rw [h0]; rfl
  go_enter Tryz.func76, Tryz.ntmps76
  go_wp2_with fail
  go_ret2
  exact OPost.none HE.out HOW.out HAL.out
 have h0' : ((p.size : Int) == 0) = false := by rw [beq_eq_false_iff_ne]; omega
 have h0n : 0 < p.size := by omega
 have h0i : (0 : Int) < (p.size : Int) := by omega
 have b0 := Go.PlainAid.bt_nonneg p 0
 have b1 := Go.PlainAid.bt_le p 0
 by_cases hc : bt p 0 = 47
 case neg =>
  have HE := Shut.mk (splitB_first (.inr hc))
  have hc' : (bt p 0 != 47) = true := by rw [bne_iff_ne]; exact hc
  go_enter Tryz.func76, Tryz.ntmps76
  go_wp2_with fail
  go_ret2
  exact OPost.none HE.out HOW.out HAL.out
 have hc' : (bt p 0 != 47) = false := by rw [hc]; rfl
 have HC := Shut.mk hc
 clear hc
 by_cases h1 : p = ⟨#[47]⟩
 ·have HE := Shut.mk (splitB_one h1)
  have h1' : (p.toList == [47]) = true := by rw [h1, Go.ByteArray.toList_eq]; rfl
  have HP := Shut.mk h1
  clear h1
  go_enter Tryz.func76, Tryz.ntmps76
  go_wp2_with fail
  go_ret2
  exact OPost.none HE.out HOW.out HAL.out
 have h1' : (p.toList == [47]) = false := by
  rw [beq_eq_false_iff_ne]
  intro e
  rw [Go.ByteArray.toList_eq] at e
  exact h1 (ByteArray.ext (Array.toList_inj.1 e))
 have hsz : 1 < p.size := by
  by_cases e : p.size = 1
  ·exact absurd (one_slash e HC.out) h1
  ·omega
 clear h1
 go_enter Tryz.func76, Tryz.ntmps76
 go_wp2_with fail
 go_loopw [4, 5, 6] (fun v bg i wr => ∃ (k g : Nat) (done : List ByteArray) (vv : Value), vv = v ∧ bg = .int .i64 g ∧ i = .int .i64 k ∧ k ≤ p.size + 1 ∧ g ≤ k ∧ done.length ≤ k ∧ Shut (PaWay p k g done) ∧ Shut (wr.ownsRow w.heap.size 9 1 vv done.length (tv done)) ∧ Shut (Below w.heap.size w wr)) (fun _ _ i _ => p.size + 1 - (intOf i).toNat)
 case atStart => exact ⟨1, 1, [], _, rfl, rfl, rfl, by omega, by omega, by simp, ⟨⟨fun _ => PaRel.start, fun h => by omega⟩⟩, HOW, HAL⟩
 case round =>
  clear HOW HAL
  obtain ⟨k, g, done, v, rfl, rfl, rfl, hk, hgk, hdk, hway, hown, hbl⟩ := hrel
  have hB := hbl.out.size
  by_cases hlt : k < p.size
  ·have c0 := Go.PlainAid.bt_nonneg p k
   have c1 := Go.PlainAid.bt_le p k
   have k1 : (k : Int) ≤ (p.size : Int) := by omega
   have k2 : (k : Int) < (p.size : Int) := by omega
   have k3 : (0 : Int) ≤ (k : Int) := by omega
   by_cases hne : bt p k = 47
   ·have hne' : (bt p k != 47) = false := by rw [hne]; rfl
    have hsl := slice_str p g k hgk (by omega)
    have hes : (p.extract g k).size ≤ 1048576 := by rw [ByteArray.size_extract]; omega
    have HN := Shut.mk (fun W => specNameOk (p.extract g k) W hes)
    have HNE := Shut.mk hne
    clear hne
    cases hn : nameB (p.extract g k) with
    | false =>
     have HE := Shut.mk (hway.out.bad hsz HC.out (by omega) (fun _ => HNE.out) hn)
     rw [hn] at HN
     clear hn
     go_wp2_with fail
     refine (HN.out _).mono ?_
     rintro e w2 ⟨rfl, hb2⟩
     have HB2 := Shut.mk (hbl.out.trans (hb2.mono hbl.out.size))
     clear hb2
     go_wp2_with fail
     go_ret2
     exact OPost.none HE.out (own_made0 HB2.out) (HB2.out.alloc HB2.out.size _)
    | true =>
     have HE := Shut.mk (hway.out.next (by omega) (fun _ => HNE.out) hn)
     rw [hn] at HN
     clear hn
     generalize p.extract g k = x at *
     go_wp2_with fail
     refine (HN.out _).mono ?_
     rintro e w2 ⟨rfl, hb2⟩
     have HB2 := Shut.mk (hbl.out.trans (hb2.mono hbl.out.size))
     have hB2 := HB2.out.size
     have hown2 := hown.out.kept (row := none) ⟨hb2.os, hb2.tape, hb2.output, hb2.size, fun k hk _ => hb2.block k hk⟩ (Classical.em _)
     clear hb2 HN hway hown
     go_wp2_with (at_builtin; refine wpList_append_own _ rfl _ _ 76 rfl w.heap.size 9 i0 (.string ⟨#[]⟩) 1 16 Tryz.underlying76 hi hz0 hz1 hz2 rfl (by decide) _ _ _ rfl (hown2.alloc _) ⟨w2.heap.size, 0, none⟩ 1 1 [.string x] rfl rfl (cell_one_new _ _ _) ?c2 ?c3 ?c4 ?c5 ?_)
     case c2 => first | rfl | (intro u hu; simp at hu; subst hu; rfl)
     case c3 => unfold maxLen; omega
     case c4 => omega
     case c5 => first | omega | (simp; omega)
     intro v' w4 hown' hgrow _
     rw [tv_snoc] at hown'
     have Q1 : Shut (w4.ownsRow w.heap.size 9 1 v' (done ++ [x]).length (tv (done ++ [x]))) := ⟨by rw [List.length_append, List.length_singleton]; exact hown'⟩
     have Q2 := Shut.mk ((HB2.out.alloc hB2 (.cells #[.string x] 9)).grown hgrow (by simp; omega) (fun j hj => (hown2.lt j hj).1))
     clear hown' hgrow hown2
     go_wp2_with fail
     go_roundw
     case rel => exact ⟨k + 1, k + 1, _, v', rfl, by go_num, by go_num, by omega, by omega, by rw [List.length_append, List.length_singleton]; omega, HE, Q1, Q2⟩
     case measure => simp [intOf]; omega
   ·have hne' : (bt p k != 47) = true := by rw [bne_iff_ne]; exact hne
    have HE := Shut.mk (hway.out.step hlt hne)
    go_wp2_with fail
    go_roundw
    case rel => exact ⟨k + 1, g, done, v, rfl, rfl, by go_num, by omega, by omega, by omega, HE, hown, hbl⟩
    case measure => simp [intOf]; omega
  ·by_cases hek : k = p.size
   ·have k1 : (k : Int) ≤ (p.size : Int) := by omega
    have k2 : ¬ (k : Int) < (p.size : Int) := by omega
    have hsl := slice_str p g k hgk (by omega)
    have hes : (p.extract g k).size ≤ 1048576 := by rw [ByteArray.size_extract]; omega
    have HN := Shut.mk (fun W => specNameOk (p.extract g k) W hes)
    have HK : Hid (k = p.size) := hek
    clear hek
    cases hn : nameB (p.extract g k) with
    | false =>
     have HE := Shut.mk (hway.out.bad hsz HC.out (by omega) (fun q => by omega) hn)
     rw [hn] at HN
     clear hn
     go_wp2_with fail
     refine (HN.out _).mono ?_
     rintro e w2 ⟨rfl, hb2⟩
     have HB2 := Shut.mk (hbl.out.trans (hb2.mono hbl.out.size))
     clear hb2
     go_wp2_with fail
     go_ret2
     exact OPost.none HE.out (own_made0 HB2.out) (HB2.out.alloc HB2.out.size _)
    | true =>
     have HE := Shut.mk (hway.out.next (by omega) (fun q => by omega) hn)
     rw [hn] at HN
     clear hn
     generalize p.extract g k = x at *
     go_wp2_with fail
     refine (HN.out _).mono ?_
     rintro e w2 ⟨rfl, hb2⟩
     have HB2 := Shut.mk (hbl.out.trans (hb2.mono hbl.out.size))
     have hB2 := HB2.out.size
     have hown2 := hown.out.kept (row := none) ⟨hb2.os, hb2.tape, hb2.output, hb2.size, fun k hk _ => hb2.block k hk⟩ (Classical.em _)
     clear hb2 HN hway hown
     go_wp2_with (at_builtin; refine wpList_append_own _ rfl _ _ 76 rfl w.heap.size 9 i0 (.string ⟨#[]⟩) 1 16 Tryz.underlying76 hi hz0 hz1 hz2 rfl (by decide) _ _ _ rfl (hown2.alloc _) ⟨w2.heap.size, 0, none⟩ 1 1 [.string x] rfl rfl (cell_one_new _ _ _) ?c2 ?c3 ?c4 ?c5 ?_)
     case c2 => first | rfl | (intro u hu; simp at hu; subst hu; rfl)
     case c3 => unfold maxLen; omega
     case c4 => omega
     case c5 => first | omega | (simp; omega)
     intro v' w4 hown' hgrow _
     rw [tv_snoc] at hown'
     have Q1 : Shut (w4.ownsRow w.heap.size 9 1 v' (done ++ [x]).length (tv (done ++ [x]))) := ⟨by rw [List.length_append, List.length_singleton]; exact hown'⟩
     have Q2 := Shut.mk ((HB2.out.alloc hB2 (.cells #[.string x] 9)).grown hgrow (by simp; omega) (fun j hj => (hown2.lt j hj).1))
     clear hown' hgrow hown2
     go_wp2_with fail
     go_roundw
     case rel => exact ⟨k + 1, k + 1, _, v', rfl, by go_num, by go_num, by omega, by omega, by rw [List.length_append, List.length_singleton]; omega, HE, Q1, Q2⟩
     case measure => simp [intOf]; omega
   ·have k1 : ¬ (k : Int) ≤ (p.size : Int) := by omega
    have hfin := hway.out.done hsz HC.out (by omega)
    have hown2 := hown.out
    obtain ⟨a, cap, rfl⟩ : ∃ a cap, v = .slice a done.length cap := by
     rcases hown2.2 with ⟨e, h0⟩ | ⟨g, cap, _, e, _⟩
     ·exact ⟨none, 0, by rw [e, h0]⟩
     ·exact ⟨_, cap, e⟩
    clear hown2
    by_cases h4 : done.length ≤ 4
    ·have HE := Shut.mk (show splitB p = (done, true) by rw [hfin, if_pos h4])
     have h4' : ¬ (4 : Int) < (done.length : Int) := by omega
     clear hfin hway
     go_wp2_with fail
     go_ret2
     exact OPost.some HE.out hown.out hbl.out
    ·have HE := Shut.mk (show splitB p = ([], false) by rw [hfin, if_neg h4])
     have h4' : (4 : Int) < (done.length : Int) := by omega
     clear hfin hway
     go_wp2_with fail
     go_ret2
     exact OPost.none HE.out (own_made0 hbl.out) (hbl.out.alloc hbl.out.size _)
def joinA (L : List ByteArray) : ByteArray := ba ((L.map lb).map (47 :: ·)).flatten
theorem joinA_snoc (L : List ByteArray) (x : ByteArray) : joinA (L ++ [x]) = (joinA L ++ ⟨#[47]⟩) ++ x := by
 apply ByteArray.ext
 unfold joinA
 simp
theorem joinA_size (L : List ByteArray) : (joinA L).size = L.length + tsum L := by
 induction L with
 | nil => rfl
 | cons x L ih =>
  have e : joinA (x :: L) = (⟨#[47]⟩ : ByteArray) ++ x ++ joinA L := by
   apply ByteArray.ext
   unfold joinA
   simp
  rw [e, ByteArray.size_append, ByteArray.size_append, ih]
  simp only [tsum, List.length_cons]
  have : (⟨#[47]⟩ : ByteArray).size = 1 := rfl
  omega
theorem joinB_ne {L : List ByteArray} (h : L ≠ []) : joinB L = joinA L := by
 unfold joinB joinP joinA
 rw [if_neg (fun e => h (List.map_eq_nil_iff.1 e))]
set_option maxHeartbeats 1000000 in
theorem specJoinPath {w : World} {v : Value} {L : List ByteArray} {lo hi : Nat} (hv : SSee w v L lo hi) (hf : TFit L) : Calls Tryz.prog 84 #[v] w fun e w' => e = .returned (.string (joinB L)) ∧ Below w.heap.size w w' := by
 obtain ⟨a, cap, rfl, hr⟩ := hv
 have hn : L.length + tsum L ≤ 1048576 := hf
 by_cases h0 : L = []
 ·subst h0
  clear hr hf hn
  go_enter Tryz.func84, Tryz.ntmps84
  go_wp2_with fail
  go_ret
  exact ⟨rfl, Below.refl _ _⟩
 ·have HE := Shut.mk (joinB_ne h0)
  have h1 : 0 < L.length := List.length_pos_iff.2 h0
  have h1' : ((L.length : Int) == 0) = false := by rw [beq_eq_false_iff_ne]; omega
  have HR := Shut.mk hr
  clear hr h0 hf
  go_enter Tryz.func84, Tryz.ntmps84
  go_wp2_with fail
  go_loopw [3, 4] (fun s i wr => ∃ (k : Nat), i = .int .i64 k ∧ k ≤ L.length ∧ s = .string (joinA (L.take k)) ∧ Shut (Below w.heap.size w wr)) (fun _ i _ => L.length - (intOf i).toNat)
  case atStart => exact ⟨0, rfl, Nat.zero_le _, rfl, ⟨Below.refl _ _⟩⟩
  case round =>
   obtain ⟨k, rfl, hk, rfl, hbl⟩ := hrel
   by_cases hlt : k < L.length
   ·obtain ⟨b, off, rfl, lb', hc⟩ := units_at HR.out (by omega)
    have d0 := (hbl.out.cell (p := ⟨b, off + k, none⟩) lb').trans (hc k hlt)
    have k0 : (0 : Int) ≤ (k : Int) := by omega
    have k1 : (k : Int) < (L.length : Int) := by omega
    have hst : joinA (L.take (k + 1)) = (joinA (L.take k) ++ ⟨#[47]⟩) ++ L.getD k ⟨#[]⟩ := by
     rw [List.take_succ_eq_append_getElem hlt, joinA_snoc]
     simp [List.getD, hlt]
    have hz1 := joinA_size (L.take k)
    have hz2 := tsum_le L k
    have hz3 : (L.take k).length ≤ L.length := by rw [List.length_take]; omega
    have hz4 := tsum_take L k hlt
    have hz5 := tsum_le L (k + 1)
    generalize L.getD k ⟨#[]⟩ = x at *
    have hja : (joinA (L.take k)).size + x.size + 1 ≤ 2097152 := by omega
    generalize joinA (L.take k) = J at *
    have HST := Shut.mk hst
    clear hst hc hz1 hz2 hz3 hz4 hz5
    go_wp2_with fail
    go_roundw
    case rel => exact ⟨k + 1, by go_num, by omega, by rw [HST.out], hbl⟩
    case measure => simp [intOf]; omega
   ·have hlt' : ¬ (k : Int) < (L.length : Int) := by omega
    have HF : Shut (joinA (L.take k) = joinB L) := ⟨by rw [List.take_of_length_le (by omega), HE.out]⟩
    generalize joinA (L.take k) = J at *
    go_wp2_with fail
    go_ret
    exact ⟨congrArg (fun x => Ending.returned (.string x)) HF.out, hbl.out⟩
end Go.Proofs.YtakhagkhngmpaaaGreat
/- PathC: . -/
namespace Go.Proofs.YtakhagkhngmpaaaGreat
set_option maxRecDepth 100000
open Go.RowKit
open Go.PlainAid (bt)
attribute [local go_sem ↓] Go.wp_at_zero Go.wp_at_succ
def ParPost (p : ByteArray) (w : World) (e : Ending) (w' : World) : Prop := e = .returned (.tuple #[.string (parentB p).1, .string (parentB p).2.1, .bool (parentB p).2.2]) ∧ Below w.heap.size w w'
theorem parent_no {p : ByteArray} {L : List ByteArray} {ok : Bool} (h : splitB p = (L, ok)) (hn : ok = false ∨ L = []) : parentB p = (⟨#[]⟩, ⟨#[]⟩, false) := by
 unfold parentB
 rw [h]
 rw [if_neg (fun q => by
  rcases hn with e | e
  ·rw [e] at q; cases q.1
  ·exact q.2 e)]
theorem parent_yes {p : ByteArray} {I : List ByteArray} {x : ByteArray} (h : splitB p = (I ++ [x], true)) : parentB p = (joinB I, x, true) := by
 unfold parentB
 rw [h, if_pos ⟨rfl, by simp⟩]
 simp
theorem names_fit {L : List ByteArray} (h : ∀ s ∈ L, nameB s = true) (h4 : L.length ≤ 4) : TFit L := by
 have hs : ∀ s ∈ L, s.size ≤ 8 := fun s hs => ((nameB_iff s).1 (h s hs)).2.2
 have : tsum L ≤ L.length * 8 := by
  clear h h4
  induction L with
  | nil => simp [tsum]
  | cons x L ih =>
   simp only [tsum, List.length_cons, Nat.add_mul, Nat.one_mul]
   have h1 := hs x (by simp)
   have h2 := ih (fun s h => hs s (by simp [h]))
   omega
 unfold TFit
 omega
theorem own_form9 {w : World} {B n : Nat} {t : TypeId} {v : Value} {L : List Value} (h : w.ownsRow B t 1 v n L) : ∃ a cap, v = .slice a n cap := by
 rcases h.2 with ⟨e, h0⟩ | ⟨g, cap, _, e, _⟩
 ·exact ⟨none, 0, by rw [e, h0]⟩
 ·exact ⟨_, cap, e⟩
theorem own_some9 {w : World} {B n : Nat} {t : TypeId} {v : Value} {L : List Value} (h : w.ownsRow B t 1 v n L) (hp : 0 < n) : ∃ g cap, v = .slice (some ⟨g, 0, none⟩) n cap ∧ n ≤ cap := by
 rcases h.2 with ⟨_, h0⟩ | ⟨g, cap, _, e, _, _, hc, _⟩
 ·omega
 ·exact ⟨g, cap, e, hc⟩
theorem own_part9 {w : World} {g cap B n k : Nat} {L : List ByteArray} (hown : w.ownsRow B 9 1 (.slice (some ⟨g, 0, none⟩) n cap) n (tv L)) (hk : k ≤ L.length) : SSee w (.slice (some ⟨g, 0, none⟩) k cap) (L.take k) 0 w.heap.size := by
 have hw := own_wcells hown
 refine ⟨_, cap, by rw [List.length_take, Nat.min_eq_left hk], fun _ => ⟨g, 0, rfl, Nat.zero_le _, hw.1, hw.1, fun i v hv => ?_⟩⟩
 rw [Nat.zero_add]
 have hv' : (tv L)[i]? = some v := by
  unfold tv at hv ⊢
  rw [List.map_take] at hv
  rw [List.getElem?_take] at hv
  split at hv
  ·exact hv
  ·cases hv
 exact (hw.2 i v hv').1
set_option maxHeartbeats 2000000 in
theorem specParentPath (p : ByteArray) (w : World) (hs : p.size ≤ 1048576) : Calls Tryz.prog 112 #[.string p] w fun e w' => ParPost p w e w' := by
 have HS := Shut.mk (fun W => specSplitPath p W hs)
 have hnm := splitB_names p
 unfold OPost at HS
 unfold ParPost
 obtain ⟨L, ok, hre⟩ : ∃ L ok, splitB p = (L, ok) := ⟨_, _, rfl⟩
 rw [hre] at HS hnm
 have HN := Shut.mk hnm
 clear hnm
 cases ok with
 | false =>
  rw [parent_no hre (.inl rfl)]
  clear hre
  go_enter Tryz.func112, Tryz.ntmps112
  go_wp2_with fail
  refine (HS.out _).mono ?_
  rintro e w1 ⟨v, rfl, ho, hb⟩
  obtain ⟨a, cap, rfl⟩ := own_form9 ho
  have HB := Shut.mk hb
  clear ho hb
  go_wp2_with fail
  go_ret3
  exact ⟨rfl, HB.out⟩
 | true =>
  rcases List.eq_nil_or_concat L with rfl | ⟨I, x, rfl⟩
  ·rw [parent_no hre (.inr rfl)]
   clear hre
   go_enter Tryz.func112, Tryz.ntmps112
   go_wp2_with fail
   refine (HS.out _).mono ?_
   rintro e w1 ⟨v, rfl, ho, hb⟩
   obtain ⟨a, cap, rfl⟩ := own_form9 ho
   have HB := Shut.mk hb
   clear ho hb
   go_wp2_with fail
   go_ret3
   exact ⟨rfl, HB.out⟩
  ·rw [List.concat_eq_append] at *
   rw [parent_yes hre]
   obtain ⟨J, hJ⟩ : ∃ J, J = joinB I := ⟨_, rfl⟩
   have HJE := Shut.mk hJ
   rw [← hJ]
   clear hJ
   have h4 := HN.out.2
   have HF : Shut (TFit I) := ⟨names_fit (fun s h => HN.out.1 s (List.mem_append.2 (.inl h))) (by rw [List.length_append] at h4; omega)⟩
   obtain ⟨m, hm⟩ : ∃ m, m = I.length := ⟨_, rfl⟩
   have HM := Shut.mk hm
   have hm4 : m ≤ 4 := by rw [List.length_append] at h4; omega
   rw [show (I ++ [x], true).1.length = m + 1 by simp [hm]] at HS
   clear hre h4 hm
   go_enter Tryz.func112, Tryz.ntmps112
   go_wp2_with fail
   refine (HS.out _).mono ?_
   rintro e w1 ⟨v, rfl, ho, hb⟩
   obtain ⟨g, cap, rfl, hcap⟩ := own_some9 ho (by omega)
   have hw := own_wcells ho
   have d0 : w1.cell? ⟨g, m, none⟩ = some (.string x) := (hw.2 m (.string x) (by
    rw [tv_get _ m (by rw [List.length_append, HM.out]; simp)]
    simp [List.getD, HM.out])).1
   have hg := hw.1
   have hsee := own_part9 (k := m) ho (by rw [List.length_append, HM.out]; simp)
   rw [show (I ++ [x]).take m = I by rw [HM.out]; simp] at hsee
   have HJ := Shut.mk (fun W (hW : Below w1.heap.size w1 W) => specJoinPath (hsee.below hW) HF.out)
   have HB := Shut.mk hb
   have hm0 : (((m + 1 : Nat) : Int) == 0) = false := by rw [beq_eq_false_iff_ne]; omega
   obtain ⟨n, hn⟩ : ∃ n, n = m + 1 := ⟨_, rfl⟩
   rw [← hn] at hcap hm0 ⊢
   have hnm : (n : Int) - 1 = (m : Int) := by omega
   have hmn : (m : Int) < (n : Int) := by omega
   have hmc : (m : Int) ≤ (cap : Int) := by omega
   have hm9 : (0 : Int) ≤ (m : Int) := by omega
   have hwr : IntKind.i64.wrap ((n : Int) - 1) = (m : Int) := by rw [hnm]; exact IntWalk.i64_in _ ⟨by omega, by omega⟩
   rw [← HJE.out] at HJ
   clear ho hb hw hsee hn HN HM hnm
   go_wp2_with fail
   go_region_held3 (fun w' => w'.cell? ⟨g, m, none⟩ = some (.string x))
    (first | assumption | (exact (hb9.cell (p := ⟨g, m, none⟩) hg).trans (by assumption)) | go_keep)
    (first | (go_at_call 84; refine (HJ.out _ (by first | exact Below.refl _ _ | exact Below.drew (Below.refl _ _))).mono ?_; rintro e w9 ⟨rfl, hb9⟩))
   all_goals
    go_wp2_with fail
    go_ret3
    exact ⟨rfl, by first | exact HB.out.trans (hb9.mono HB.out.size) | exact HB.out.trans (((Below.drew (Below.refl w1.heap.size w1)).trans hb9).mono HB.out.size)⟩
end Go.Proofs.YtakhagkhngmpaaaGreat
/- GrwA: . -/
namespace Go.Proofs.YtakhagkhngmpaaaGreat
set_option maxRecDepth 100000
open Go.RowKit
structure Grow (w : World) where
 val : World
 bel : Below w.heap.size w val
instance {w : World} : Nonempty (Grow w) := ⟨⟨w, Below.refl _ _⟩⟩
theorem wp_region_grow {P : Program} {id : Nat} {Q : Exit → Act → World → Prop} {a : Act} {w : World} {l : List Oper} (hm : P.follows .mixedOrders = true) (hB : Region.lexB .any l.toArray = true)
  (h : wpQuiet P l.toArray (fun W => ∃ X : Grow w, W = X.val) (fun a' => ∀ w', (∃ X : Grow w, w' = X.val) → Q .normal a' w') l a) : (Code.region id l.toArray true).wp P Q a w :=
 wp_region_quiet (C := fun W => ∃ X : Grow w, W = X.val) hm hB ⟨⟨w.drew, Below.drew (Below.refl _ _)⟩, rfl⟩ (by simpa using h)
theorem Grow.cell {w : World} (X : Grow w) {p : Addr} {v : Value} (h : w.cell? p = some v) (hl : p.block < w.heap.size) : X.val.cell? p = some v := (X.bel.cell hl).trans h
theorem calls_grow {P : Program} {f : FuncId} {args : Array Value} {w : World} {v : Value} (h : ∀ W, Below w.heap.size w W → Calls P f args W fun e w' => e = .returned v ∧ Below W.heap.size W w') (X : Grow w) :
  Calls P f args X.val fun e w'' => e = .returned v ∧ ∃ Y : Grow w, w'' = Y.val :=
 (h X.val X.bel).mono fun _ w'' ⟨he, hb⟩ => ⟨he, ⟨w'', X.bel.trans (hb.mono X.bel.size)⟩, rfl⟩
theorem calls_same {P : Program} {f : FuncId} {args : Array Value} {w : World} {v : Value} (h : ∀ W, Below w.heap.size w W → Calls P f args W fun e w' => e = .returned v ∧ w' = W) (X : Grow w) :
  Calls P f args X.val fun e w'' => e = .returned v ∧ ∃ Y : Grow w, w'' = Y.val :=
 (h X.val X.bel).mono fun _ _ ⟨he, hb⟩ => ⟨he, X, hb⟩
end Go.Proofs.YtakhagkhngmpaaaGreat
/- EdA: . -/
namespace Go.Proofs.YtakhagkhngmpaaaGreat
set_option maxRecDepth 100000
open Go.RowKit BigFrame
attribute [local go_sem ↓] Go.wp_at_zero Go.wp_at_succ
structure EM where
 kind : Int
 path : ByteArray
 dest : ByteArray
 num : Int
 who : Int
instance : Inhabited EM := ⟨⟨0, ⟨#[]⟩, ⟨#[]⟩, 0, 0⟩⟩
abbrev ev (e : EM) : Value := .agg #[.int .i64 e.kind, .string e.path, .string e.dest, .int .i64 e.num, .int .i64 e.who]
def ecells (e : EM) : List Value := [.int .i64 e.kind, .string e.path, .string e.dest, .int .i64 e.num, .int .i64 e.who]
theorem ecells_len (e : EM) : (ecells e).length = 5 := rfl
def EFit (e : EM) : Prop := e.path.size ≤ 1048576 ∧ e.dest.size ≤ 1048576
def named (p : ByteArray) : Bool := (parentB p).2.2
def pathBad (e : EM) : Bool := (!named e.path && !(((e.kind == 5) || (e.kind == 6)) && (e.path.toList == [47]))) || ((e.kind == 3) != named e.dest) || ((e.kind != 3) && (e.dest.toList != []))
def numsOk (e : EM) : Bool := if e.kind = 5 then inI e.num 1 3 && (e.who == 0) else if e.kind = 6 then inI e.num 0 1000 && (e.who == 0) else if e.kind = 7 then inI e.num 1 200 && (e.who == 0) else if e.kind = 2 ∨ e.kind = 9 then (e.num == 0) && inI e.who 1 9 else (e.num == 0) && (e.who == 0)
def editOk (e : EM) : Bool := inI e.kind 1 10 && (if e.kind = 10 then (e.path.toList == [47]) && (e.dest.toList == []) && (e.num == 0) && (e.who == 0) else !pathBad e && numsOk e)
theorem specNamed (p : ByteArray) (w : World) (hs : p.size ≤ 1048576) : Calls Tryz.prog 86 #[.string p] w fun e w' => e = .returned (.bool (named p)) ∧ Below w.heap.size w w' := by
 have HC := Shut.mk (fun W => specParentPath p W hs)
 unfold ParPost at HC
 have e0 : named p = (parentB p).2.2 := rfl
 rw [e0]
 generalize (parentB p).2.2 = a at *
 generalize (parentB p).2.1 = b at *
 generalize (parentB p).1 = c at *
 clear hs e0
 go_enter Tryz.func86, Tryz.ntmps86
 go_wp2_with fail
 refine (HC.out _).mono ?_
 rintro e w1 ⟨rfl, hb⟩
 go_wp2_with fail
 go_ret
 exact ⟨rfl, hb⟩
end Go.Proofs.YtakhagkhngmpaaaGreat
/- SpnB: . -/
namespace Go.Proofs.YtakhagkhngmpaaaGreat
set_option maxRecDepth 100000
open Go.RowKit
attribute [local go_sem ↓] Go.wp_at_zero Go.wp_at_succ
def IAns (w : World) (v : Value) (xs : List Int) (lo hi : Nat) : Prop := ∃ (a : Option Addr) (cap : Nat), v = .slice a xs.length cap ∧ xs.length ≤ cap ∧ (xs = [] ∨ ∃ g, a = some ⟨g, 0, none⟩ ∧ lo ≤ g ∧ g < hi ∧ WCells w g (ics xs))
theorem IAns.empty (w : World) (a : Option Addr) (cap lo hi : Nat) : IAns w (.slice a 0 cap) [] lo hi := ⟨a, cap, rfl, Nat.zero_le _, .inl rfl⟩
theorem IAns.crow {w : World} {v : Value} {xs : List Int} {lo hi : Nat} (h : IAns w v xs lo hi) : ∃ a cap, v = .slice a xs.length cap ∧ CRow w a (ics xs) := by
 obtain ⟨a, cap, e, _, q⟩ := h
 refine ⟨a, cap, e, ?_⟩
 rcases q with rfl | ⟨g, rfl, _, _, q⟩
 ·intro h; simp [ics] at h
 ·exact q.crow
theorem IAns.turned {w w' : World} {v : Value} {xs : List Int} {lo hi lo' hi' : Nat} (h : IAns w v xs lo hi) (t : Turned w w' lo' hi') (hd : hi ≤ lo' ∨ hi' ≤ lo) : IAns w' v xs lo hi := by
 obtain ⟨a, cap, e, hc, q⟩ := h
 refine ⟨a, cap, e, hc, ?_⟩
 rcases q with rfl | ⟨g, rfl, h1, h2, h3⟩
 ·exact .inl rfl
 ·exact .inr ⟨g, rfl, h1, h2, h3.turned t (by omega)⟩
theorem IAns.below {w w' : World} {v : Value} {xs : List Int} {lo hi : Nat} (h : IAns w v xs lo hi) (hb : Below w.heap.size w w') : IAns w' v xs lo hi := by
 obtain ⟨a, cap, e, hc, q⟩ := h
 refine ⟨a, cap, e, hc, ?_⟩
 rcases q with rfl | ⟨g, rfl, h1, h2, h3⟩
 ·exact .inl rfl
 ·exact .inr ⟨g, rfl, h1, h2, h3.below hb h3.1⟩
def IPost (xs : List Int) (w : World) (e : Ending) (w' : World) : Prop := ∃ v, e = .returned v ∧ IAns w' v xs w.heap.size w'.heap.size ∧ Below w.heap.size w w'
theorem own_ians {w w' : World} {v : Value} {xs : List Int} {n : Nat} (hn : xs.length = n) (h : w'.ownsRow w.heap.size 3 1 v n (ics xs)) : IAns w' v xs w.heap.size w'.heap.size := by
 have hlt := h.lt
 have hown := h
 subst hn
 obtain ⟨_, ⟨rfl, h0⟩ | ⟨g, cap, cur, rfl, hB, hcur, hn, _⟩⟩ := h
 ·have : xs = [] := List.eq_nil_of_length_eq_zero h0
  subst this
  exact IAns.empty _ _ _ _ _
 ·exact ⟨_, cap, rfl, hn, .inr ⟨g, rfl, hB, (hlt g rfl).2, own_wcells hown⟩⟩
def spanL (S n : Nat) : List Int := List.replicate ((n - 1) / S) (S : Int) ++ [((n - (n - 1) / S * S : Nat) : Int)]
def spansX (s n : Int) : List Int := if schOk s = true ∧ 1 ≤ n ∧ n ≤ 1000 then spanL (groupN s) n.toNat else []
theorem spansX_no {s n : Int} (h : ¬ (schOk s = true ∧ 1 ≤ n ∧ n ≤ 1000)) : spansX s n = [] := if_neg h
theorem group_pos {s : Int} (h : schOk s = true) : 16 ≤ groupN s := by have := (sch_bounds h).1; unfold groupN; omega
theorem group_zero {s : Int} (h : schOk s = false) : groupN s = 0 := by unfold groupN; rw [(sch_zero h).1]
theorem span_last {S n j : Nat} (hS : 0 < S) (h1 : j * S < n) (h2 : n ≤ j * S + S) : (n - 1) / S = j := by
 have e : n - 1 = (n - 1 - j * S) + j * S := by omega
 rw [e, Nat.add_mul_div_right _ _ hS, Nat.div_eq_of_lt (by omega), Nat.zero_add]
set_option maxHeartbeats 2000000 in
theorem specSpans (s n : Int) (w : World) : Calls Tryz.prog 40 #[.int .i64 s, .int .i64 n] w fun e w' => IPost (spansX s n) w e w' := by
 obtain ⟨i1, hi1, hy0, hy1, hy2⟩ := info_parts infoIntG
 have HG := Shut.mk (fun W => specGroupSize s W)
 obtain ⟨bn, hbn⟩ : ∃ r, (decide ((1 : Int) ≤ n) && decide (n ≤ 1000)) = r := ⟨_, rfl⟩
 have hin := in_bool hbn
 have HIN := Shut.mk (fun W => isIn n 1 1000 W bn hbn)
 have hg32 := groupN_bounds s
 have hal : Below w.heap.size w (w.alloc (.cells #[] 3)) := (Below.refl _ _).alloc (Nat.le_refl _) _
 have HAL := Shut.mk hal
 have HO : Shut ((w.alloc (.cells #[] 3)).ownsRow w.heap.size 3 1 (.slice (some ⟨w.heap.size, 0, none⟩) 0 0) 0 []) := ⟨World.ownsRow_made w #[] 0 (Nat.le_refl _) (by decide) rfl⟩
 clear hal hbn
 cases h : schOk s with
 | false =>
  rw [spansX_no (fun q => by rw [h] at q; cases q.1)]
  rw [group_zero h] at HG
  clear h hin hg32
  go_enter Tryz.func40, Tryz.ntmps40
  go_wp2_with fail
  refine (HG.out _).mono ?_
  rintro e w1 ⟨rfl, rfl⟩
  go_wp2_with fail
  go_ret
  exact ⟨_, rfl, IAns.empty _ _ _ _ _, HAL.out⟩
 | true =>
  have h16 := group_pos h
  cases bn with
  | false =>
   rw [spansX_no (fun q => by have := hin.2 q.2; cases this)]
   clear h hin
   generalize groupN s = S at *
   have hS0 : ((S : Int) == 0) = false := by rw [beq_eq_false_iff_ne]; omega
   go_enter Tryz.func40, Tryz.ntmps40
   go_wp2_with fail
   refine (HG.out _).mono ?_
   rintro e w1 ⟨rfl, rfl⟩
   go_wp2_with fail
   refine (HIN.out _).mono ?_
   rintro e w2 ⟨rfl, rfl⟩
   go_wp2_with fail
   go_ret
   exact ⟨_, rfl, IAns.empty _ _ _ _ _, HAL.out⟩
  | true =>
   obtain ⟨n1, n2⟩ := hin.1 rfl
   obtain ⟨N, rfl⟩ := Int.eq_ofNat_of_zero_le (show 0 ≤ n by omega)
   have e0 : spansX s (N : Int) = spanL (groupN s) N := by unfold spansX; rw [if_pos ⟨h, n1, n2⟩]; rfl
   rw [e0]
   clear h hin e0
   generalize groupN s = S at *
   have hS0 : ((S : Int) == 0) = false := by rw [beq_eq_false_iff_ne]; omega
   go_enter Tryz.func40, Tryz.ntmps40
   go_wp2_with fail
   refine (HG.out _).mono ?_
   rintro e w1 ⟨rfl, hw1⟩
   obtain rfl : w.alloc (.cells #[] 3) = w1 := hw1.symm
   clear hw1
   go_wp2_with fail
   refine (HIN.out _).mono ?_
   rintro e w2 ⟨rfl, hw2⟩
   obtain rfl : w.alloc (.cells #[] 3) = w2 := hw2.symm
   clear hw2
   go_wp2_with fail
   go_loopw [1, 5] (fun nn v wr => ∃ (j r : Nat) (vv : Value), vv = v ∧ nn = .int .i64 (r : Nat) ∧ 1 ≤ r ∧ r ≤ 1000 ∧ Shut (j * S + r = N) ∧ j ≤ 1000 ∧ Shut (wr.ownsRow w.heap.size 3 1 vv j (ics (List.replicate j (S : Int)))) ∧ Shut (Below w.heap.size w wr)) (fun nn _ _ => (intOf nn).toNat)
   case atStart => exact ⟨0, N, _, rfl, rfl, by omega, by omega, ⟨by omega⟩, by omega, HO, HAL⟩
   case round =>
    clear HO HAL
    obtain ⟨j, r, v, rfl, rfl, hr1, hr2, hjr, hj, hown, hb⟩ := hrel
    obtain ⟨wo, rfl⟩ : ∃ wo, wo = wr := ⟨_, rfl⟩
    have hso := hb.out.size
    have hown3 := hown.out
    by_cases hlt : S < r
    ·have hlt' : (S : Int) < (r : Int) := by omega
     have hj2 : j + 1 ≤ 1000 := by
      have h1 := hjr.out
      have h2 : j ≤ j * S := Nat.le_mul_of_pos_right j (by omega)
      omega
     go_wp2_with (at_builtin; refine wpList_append_own _ rfl _ _ 37 rfl w.heap.size 3 i1 (.int .i64 0) 1 8 Tryz.underlying37 hi1 hy0 hy1 hy2 rfl (by decide) _ _ _ rfl (hown3.alloc _) ⟨wo.heap.size, 0, none⟩ 1 1 [.int .i64 (S : Int)] rfl rfl (cell_one_new _ _ _) ?c2 ?c3 ?c4 ?c5 ?_)
     case c2 => first | rfl | (intro u hu; simp at hu; subst hu; rfl)
     case c3 => unfold maxLen; omega
     case c4 => omega
     case c5 => first | omega | (simp; omega)
     intro v' w4 hown' hgrow _
     have Q1 : Shut (w4.ownsRow w.heap.size 3 1 v' (j + 1) (ics (List.replicate (j + 1) (S : Int)))) := ⟨by
      have e : ics (List.replicate (j + 1) (S : Int)) = ics (List.replicate j (S : Int)) ++ [.int .i64 (S : Int)] := by rw [List.replicate_succ']; simp [ics]
      rw [e]; exact hown'⟩
     have Q2 := Shut.mk ((hb.out.alloc hso (.cells #[.int .i64 (S : Int)] 3)).grown hgrow (by simp; omega) (fun j hj => (hown3.lt j hj).1))
     have Q3 : Shut ((j + 1) * S + (r - S) = N) := ⟨by rw [Nat.add_mul]; have := hjr.out; omega⟩
     have hsub : (r : Int) - (S : Int) = ((r - S : Nat) : Int) := by omega
     clear hown' hgrow hown3 hb hown hjr
     go_wp2_with fail
     exact ⟨⟨j + 1, r - S, v', rfl, by rw [← hsub], by omega, by omega, Q3, hj2, Q1, Q2⟩, by simp [intOf]; omega⟩
    ·have hlt' : ¬ (S : Int) < (r : Int) := by omega
     have hle : (r : Int) ≤ (S : Int) := by omega
     have HSP : Shut (spanL S N = List.replicate j (S : Int) ++ [(r : Int)]) := ⟨by
      have h1 := hjr.out
      have e := span_last (S := S) (n := N) (j := j) (by omega) (by omega) (by omega)
      unfold spanL
      rw [e]
      congr 3
      omega⟩
     go_wp2_with (at_builtin; refine wpList_append_own _ rfl _ _ 37 rfl w.heap.size 3 i1 (.int .i64 0) 1 8 Tryz.underlying37 hi1 hy0 hy1 hy2 rfl (by decide) _ _ _ rfl (hown3.alloc _) ⟨wo.heap.size, 0, none⟩ 1 1 [.int .i64 (r : Int)] rfl rfl (cell_one_new _ _ _) ?c2 ?c3 ?c4 ?c5 ?_)
     case c2 => first | rfl | (intro u hu; simp at hu; subst hu; rfl)
     case c3 => unfold maxLen; omega
     case c4 => omega
     case c5 => first | omega | (simp; omega)
     intro v' w4 hown' hgrow _
     have Q1 : Shut (IAns w4 v' (spanL S N) w.heap.size w4.heap.size) := ⟨by
      rw [HSP.out]
      refine own_ians (n := j + 1) (by simp) ?_
      have e : ics (List.replicate j (S : Int) ++ [(r : Int)]) = ics (List.replicate j (S : Int)) ++ [.int .i64 (r : Int)] := by simp [ics]
      rw [e]; exact hown'⟩
     have Q2 := Shut.mk ((hb.out.alloc hso (.cells #[.int .i64 (r : Int)] 3)).grown hgrow (by simp; omega) (fun j hj => (hown3.lt j hj).1))
     clear hown' hgrow hown3 hb hown
     go_wp2_with fail
     go_ret
     exact ⟨v', rfl, Q1.out, Q2.out⟩
end Go.Proofs.YtakhagkhngmpaaaGreat
/- CpA: . -/
namespace Go.Proofs.YtakhagkhngmpaaaGreat
set_option maxRecDepth 100000
open Go.RowKit
theorem wc_by {w w' : World} {g : Nat} {q : Option Nat} {L : List Value} (h : WCells w g L) (hg : w.grownBy w' q) (hq : q ≠ some g) : WCells w' g L := by
 have hk := hg.block g h.1 (fun e => hq e.symm)
 refine ⟨Nat.lt_of_lt_of_le h.1 hg.size, fun i v hv => ?_⟩
 have h1 := h.2 i v hv
 simp only [World.cell?, World.frozen?, hk] at h1 ⊢
 exact h1
structure NB (w : World) (B : Nat) (v : Value) (rs : List NR) : Prop where
 own : w.ownsRow B 47 9 v rs.length (ncs rs)
 rows : ∀ r ∈ rs, w.ownsRow B 99 2 (.slice r.loc r.nd.pieces.length r.cap) r.nd.pieces.length (pcs r.nd.pieces)
 apart : rs.Pairwise fun r s => r.loc ≠ none → s.loc ≠ none → r.loc ≠ s.loc
theorem own_blk {w : World} {B t sz n : Nat} {v : Value} {L : List Value} (h : w.ownsRow B t sz v n L) (hn : n ≠ 0) : ∃ g cap cur, v = .slice (some ⟨g, 0, none⟩) n cap ∧ B ≤ g ∧ g < w.heap.size ∧ w.heap[g]? = some (.cells cur t (0, 0)) := by
 rcases h.2 with ⟨_, h0⟩ | ⟨g, cap, cur, e, h1, h2, _⟩
 ·exact absurd h0 hn
 ·exact ⟨g, cap, cur, e, h1, (Array.getElem?_eq_some_iff.1 h2).1, h2⟩
theorem own_blk' {w : World} {B t sz n g : Nat} {v : Value} {L : List Value} (h : w.ownsRow B t sz v n L) (e : v.ownBlock = some g) : ∃ cur, w.heap[g]? = some (.cells cur t (0, 0)) := by
 rcases h.2 with ⟨rfl, _⟩ | ⟨g', cap, cur, rfl, _, h2, _⟩
 ·cases e
 ·cases e; exact ⟨cur, h2⟩
theorem own_slice {w : World} {B n sz : Nat} {t : TypeId} {v : Value} {L : List Value} (h : w.ownsRow B t sz v n L) : ∃ a c, v = .slice a n c := by
 rcases h.2 with ⟨rfl, h0⟩ | ⟨g, cap, cur, e, _⟩
 ·exact ⟨none, 0, by rw [h0]⟩
 ·exact ⟨_, _, e⟩
theorem own_lower {w : World} {B C n sz : Nat} {t : TypeId} {v : Value} {L : List Value} (h : w.ownsRow B t sz v n L) (hC : C ≤ B) : w.ownsRow C t sz v n L := by
 refine ⟨h.1, ?_⟩
 rcases h.2 with q | ⟨g, cap, cur, e, h1, h2⟩
 ·exact .inl q
 ·exact .inr ⟨g, cap, cur, e, Nat.le_trans hC h1, h2⟩
theorem NB.nil (w : World) (B : Nat) : NB w B (.slice none 0 0) [] := ⟨by simpa [ncs] using World.ownsRow_nil w B 47 9, by simp, List.Pairwise.nil⟩
theorem NB.grown {w w' : World} {B : Nat} {v : Value} {rs : List NR} {q : Option Nat} (h : NB w B v rs) (hg : w.grownBy w' q) (hq : ∀ k, q = some k → k < B) : NB w' B v rs := by
 refine ⟨h.own.kept hg ?_, fun r hr => (h.rows r hr).kept hg ?_, h.apart⟩
 ·cases e : v.ownBlock with
  | none => exact .inl rfl
  | some k => exact .inr fun e2 => by have := hq k e2.symm; have := (h.own.lt k e).1; omega
 ·cases e : (Value.slice r.loc r.nd.pieces.length r.cap).ownBlock with
  | none => exact .inl rfl
  | some k => exact .inr fun e2 => by have := hq k e2.symm; have := ((h.rows r hr).lt k e).1; omega
theorem NB.below {w w' : World} {B : Nat} {v : Value} {rs : List NR} (h : NB w B v rs) (hb : Below w.heap.size w w') : NB w' B v rs :=
 h.grown (q := none) ⟨hb.os, hb.tape, hb.output, hb.size, fun k hk _ => hb.block k hk⟩ (fun k e => by cases e)
theorem NB.setBox {w : World} {B : Nat} {v : Value} {rs : List NR} (h : NB w B v rs) (g i : Nat) (x : Value) (hg : g < B) : NB (w.setCell ⟨g, i, none⟩ x) B v rs :=
 h.grown (gb_set' w g i x) (fun k e => by cases e; exact hg)
theorem NB.setOut {w : World} {B : Nat} {v : Value} {rs : List NR} {c : Array Value} {t : TypeId} {fr : Nat × Nat} (h : NB w B v rs) (g i : Nat) (x : Value) (hg : w.heap[g]? = some (.cells c t fr)) (ht : t ≠ 99) (hv : v.ownBlock ≠ some g) : NB (w.setCell ⟨g, i, none⟩ x) B v rs := by
 refine ⟨h.own.kept (gb_set' w g i x) (.inr hv), fun r hr => (h.rows r hr).kept (gb_set' w g i x) (.inr fun e => ?_), h.apart⟩
 obtain ⟨cur, h2⟩ := own_blk' (h.rows r hr) e
 rw [hg] at h2
 simp at h2
 exact ht h2.2.1
theorem NB.snoc {w w1 w2 : World} {B : Nat} {v v' : Value} {rs : List NR} {r : NR} (h : NB w B v rs) (hb : Below w.heap.size w w1) (hp : w1.ownsRow B 99 2 (.slice r.loc r.nd.pieces.length r.cap) r.nd.pieces.length (pcs r.nd.pieces))
  (hnew : r.loc ≠ none → ∀ s ∈ rs, s.loc ≠ none → s.loc ≠ r.loc) (ho : w2.ownsRow B 47 9 v' (rs.length + 1) (ncs rs ++ ncells r)) (hg : w1.grownBy w2 v.ownBlock) : NB w2 B v' (rs ++ [r]) := by
 have hN := h.below hb
 have keep : ∀ s : NR, w1.ownsRow B 99 2 (.slice s.loc s.nd.pieces.length s.cap) s.nd.pieces.length (pcs s.nd.pieces) → w2.ownsRow B 99 2 (.slice s.loc s.nd.pieces.length s.cap) s.nd.pieces.length (pcs s.nd.pieces) := fun s hr => by
  refine hr.kept hg ?_
  cases e : (Value.slice s.loc s.nd.pieces.length s.cap).ownBlock with
  | none => exact .inl rfl
  | some k =>
   refine .inr fun e2 => ?_
   obtain ⟨c1, h1⟩ := own_blk' hr e
   obtain ⟨c2, h2⟩ := own_blk' hN.own e2.symm
   rw [h1] at h2
   simp at h2
 refine ⟨?_, fun s hs => ?_, ?_⟩
 ·have e : ncs (rs ++ [r]) = ncs rs ++ ncells r := by simp [ncs]
  rw [e, List.length_append, List.length_singleton]
  exact ho
 ·rcases List.mem_append.1 hs with q | q
  ·exact keep s (hN.rows s q)
  ·rw [List.mem_singleton.1 q]
   exact keep r hp
 ·refine List.pairwise_append.2 ⟨h.apart, List.pairwise_singleton _ _, fun s hs t ht h1 h2 => ?_⟩
  rw [List.mem_singleton.1 ht] at h2 ⊢
  exact hnew h2 s hs h1
theorem own_loc {w : World} {B t sz n c : Nat} {a : Option Addr} {L : List Value} (h : w.ownsRow B t sz (.slice a n c) n L) (hn : n ≠ 0) : a ≠ none := by
 obtain ⟨g, cap, cur, e, _⟩ := own_blk h hn
 simp at e
 rw [e.1]
 simp
theorem NB.fin {w : World} {B : Nat} {v : Value} {rs : List NR} {nx : Int} (h : NB w B v rs) : TAns w (.agg #[v, .int .i64 nx]) ⟨nds rs, nx⟩ B w.heap.size := by
 have hown := h.own
 rcases hown.2 with ⟨rfl, h0⟩ | ⟨g, cap, cur, rfl, hB, hcur, hn, _⟩
 ·have : rs = [] := List.eq_nil_of_length_eq_zero h0
  subst this
  exact ⟨none, 0, [], rfl, rfl, Nat.le_refl _, .inl rfl⟩
 ·refine ⟨_, cap, rs, rfl, rfl, hn, .inr ⟨g, rfl, ?_⟩⟩
  refine ⟨own_wcells h.own, hB, (Array.getElem?_eq_some_iff.1 hcur).1, fun r hr => ?_, ?_⟩
  ·by_cases hp : r.nd.pieces = []
   ·exact .inl (by show pcs r.nd.pieces = []; rw [hp]; rfl)
   ·have hr' := h.rows r hr
    obtain ⟨b, cp, c2, e1, q1, q2, q3⟩ := own_blk hr' (by simpa using hp)
    have e2 : r.loc = some ⟨b, 0, none⟩ := (by simpa using e1 : r.loc = some ⟨b, 0, none⟩ ∧ r.cap = cp).1
    refine .inr ⟨b, e2, q1, q2, fun e => ?_, ?_⟩
    ·rw [e, hcur] at q3
     simp at q3
    ·rw [e2] at hr'
     exact own_wcells hr'
  ·have ha := List.pairwise_iff_getElem.1 h.apart
   refine List.pairwise_iff_getElem.2 (fun i j hi hj hij h1 h2 => ha i j hi hj hij ?_ ?_)
   ·exact own_loc (h.rows _ (List.getElem_mem hi)) (fun e => h1 (by show pcs rs[i].nd.pieces = []; rw [List.eq_nil_of_length_eq_zero e]; rfl))
   ·exact own_loc (h.rows _ (List.getElem_mem hj)) (fun e => h2 (by show pcs rs[j].nd.pieces = []; rw [List.eq_nil_of_length_eq_zero e]; rfl))
end Go.Proofs.YtakhagkhngmpaaaGreat
