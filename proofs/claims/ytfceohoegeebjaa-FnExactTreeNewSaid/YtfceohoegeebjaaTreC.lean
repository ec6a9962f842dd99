/- Copies of trees. -/
import Derived.Test.YtfceohoegeebjaaTreA
import Derived.Deep.RegionHeld3
import Derived.Deep.DrawnRows
import Derived.Deep.CutRange
namespace Go.Proofs.Ytfceohoegeebjaa
open Go.RowKit
attribute [local go_sem ↓] Go.wp_at_zero Go.wp_at_succ

theorem toPiece_any (p : PM) (w : World) : Calls Try.prog 132 #[pv p] w fun e w' => e = .returned (pv p) ∧ Below w.heap.size w w' := by
  go_enter Try.func132, Try.ntmps132
  go_wp2_with fail
  refine bodyPost_ret (v := pv p) (by simp [results, Try.results132, go_sem]) rfl ⟨rfl, ?_⟩
  exact (((Below.refl _ _).alloc (Nat.le_refl _) _).alloc (by simp) _).alloc (by simp; omega) _
theorem infoPiece : (Try.prog.info? 117).map (fun i => (i.zero, i.size, i.bytes)) = some (some (.agg #[.int .i64 0, .int .i64 0]), 2, 16) := by kernel_rfl
/-- A copy of pieces. -/
def ToPieces (ps : List PM) (w : World) (e : Ending) (w' : World) : Prop := ∃ g, e = .returned (.slice (some ⟨g, 0, none⟩) ps.length ps.length) ∧ w.heap.size ≤ g ∧ WCells w' g (pcs ps) ∧ Below w.heap.size w w'
set_option maxHeartbeats 1000000 in
theorem toPieceS_any (a : Option Addr) (ps : List PM) (cap : Nat) (w : World) (lo hi : Nat) (hr : RRow w a (pcs ps) lo hi) (hl : ps.length ≤ 1048576) :
    Calls Try.prog 104 #[.slice a ps.length cap] w fun e w' => ToPieces ps w e w' := by
  obtain ⟨i0, hi, hz0, hz1, hz2⟩ := info_parts infoPiece
  have HR := Shut.mk hr
  clear hr
  go_enter Try.func104, Try.ntmps104
  go_wp2_with (at_make; refine wpList_make_full _ rfl _ _ 28 rfl w.heap.size 117 i0 _ 2 Try.underlying28 hi hz0 hz1 .i64 .i64 _ _ ps.length rfl rfl (by omega) (by omega) ?b2 ?b3 ?b4 ?_)
  case b2 => rw [hz2]; omega
  case b3 => unfold maxLen; omega
  case b4 => omega
  intro wm hownm hgrm
  have hbm : Below w.heap.size w wm := (Below.refl _ _).grown hgrm (Nat.le_refl _) (fun j hj => by simp at hj)
  have hrow : WCells wm w.heap.size (pcs (List.replicate ps.length default)) := by
    have h := own_wcells hownm
    have e : (madeCells #[.int .i64 0, .int .i64 0] (ps.length * 2)).toList = pcs (List.replicate ps.length default) := made_flat pcells_len (by decide) #[.int .i64 0, .int .i64 0] default rfl _
    rw [e] at h; exact h
  have HRW := Shut.mk hrow
  have HBM := Shut.mk hbm
  clear hownm hgrm hrow hbm
  go_wp2_with fail
  go_loopw [4] (fun i wr => ∃ (k : Nat) (gs : List PM), i = .int .i64 k ∧ k ≤ ps.length ∧ Shut (gs.length = ps.length ∧ gs.take k = ps.take k) ∧ Shut (WCells wr w.heap.size (pcs gs)) ∧ Shut (Below w.heap.size w wr)) (fun i _ => ps.length - (intOf i).toNat)
  case atStart => exact ⟨0, _, rfl, by omega, ⟨by simp, by simp⟩, HRW, HBM⟩
  case round =>
    clear HRW HBM
    obtain ⟨k, gs, rfl, hk, HG, hw, hb⟩ := hrel
    by_cases hlt : k < ps.length
    · obtain ⟨b, off, rfl, hbl, hc⟩ := pcs_at (HR.out.below hb.out) (by omega)
      obtain ⟨d0, d1⟩ := hc k hlt
      have HFE := Shut.mk (rfl (a := ps[k]))
      obtain ⟨f, hfe⟩ : ∃ f, f = ps[k] := ⟨_, rfl⟩
      rw [← hfe] at d0 d1
      replace HFE := Shut.mk hfe
      have k0 : (0 : Int) ≤ (k : Int) := by omega
      have k1 : (k : Int) < (ps.length : Int) := by omega
      clear hc hfe
      go_wp2_with fail
      refine (toPiece_any f _).mono ?_
      rintro e w2 ⟨rfl, hb2⟩
      have HW2 := Shut.mk (hw.out.below hb2 hw.out.1)
      have HB3 := Shut.mk (hb.out.trans (hb2.mono hb.out.size))
      clear hw hb hb2 d0 d1
      have hgk : k < gs.length := by have := HG.out.1; omega
      obtain ⟨c0, z0⟩ := HW2.out.2 (k * 2) _ (flat_get pcells_len gs k hgk 0 (by omega))
      obtain ⟨c1, z1⟩ := HW2.out.2 (k * 2 + 1) _ (flat_get pcells_len gs k hgk 1 (by omega))
      have HS := Shut.mk (HW2.out.setElem pcells_len k hgk f)
      have HBN := Shut.mk (below_setW HB3.out (Nat.le_refl _) (k * 2) (pcells f))
      go_wp2_with fail
      go_roundw
      case rel =>
        refine ⟨k + 1, gs.set k f, by go_num, by omega, ⟨by rw [List.length_set]; exact HG.out.1, ?_⟩, ⟨HS.out⟩, ⟨HBN.out⟩⟩
        rw [List.take_succ_eq_append_getElem (by rw [List.length_set]; exact hgk), List.take_succ_eq_append_getElem hlt, List.take_set_of_le (Nat.le_refl _), HG.out.2, List.getElem_set_self, HFE.out]
      case measure => simp [intOf]; omega
    · have e : gs = ps := by
        have h := HG.out.2
        rw [List.take_of_length_le (by have := HG.out.1; omega), List.take_of_length_le (by omega)] at h; exact h
      subst e
      go_wp2_with fail
      go_ret
      exact ⟨_, rfl, Nat.le_refl _, hw.out, hb.out⟩
/-- A copy of a node. -/
def ToNode (r : NR) (w : World) (e : Ending) (w' : World) : Prop := ∃ g, e = .returned (nv ⟨r.nd, some ⟨g, 0, none⟩, r.nd.pieces.length⟩) ∧ w.heap.size ≤ g ∧ WCells w' g (pcs r.nd.pieces) ∧ Below w.heap.size w w'
/-- Three new blocks: what came in, the answer, and what is made on the way. -/
structure Tri (w W : World) (L1 L2 L3 : List Value) : Prop where
  bel : Below w.heap.size w W
  b1 : WCells W w.heap.size L1
  b2 : WCells W (w.heap.size + 1) L2
  b3 : WCells W (w.heap.size + 1 + 1) L3
theorem Tri.new (w : World) (A B C : Array Value) (tA tB tC : TypeId) : Tri w (((w.alloc (.cells A tA)).alloc (.cells B tB)).alloc (.cells C tC)) A.toList B.toList C.toList := by
  have e1 : (w.alloc (.cells A tA)).heap.size = w.heap.size + 1 := by simp
  have e2 : ((w.alloc (.cells A tA)).alloc (.cells B tB)).heap.size = w.heap.size + 1 + 1 := by simp
  refine ⟨(((Below.refl _ _).alloc (Nat.le_refl _) _).alloc (by simp) _).alloc (by simp; omega) _, ((wcells_new w A tA).alloc _).alloc _, ?_, ?_⟩
  · have := (wcells_new (w.alloc (.cells A tA)) B tB).alloc (.cells C tC)
    rw [e1] at this; exact this
  · have := wcells_new ((w.alloc (.cells A tA)).alloc (.cells B tB)) C tC
    rw [e2] at this; exact this
theorem Tri.set {w W : World} {L1 L2 L3 : List Value} (h : Tri w W L1 L2 L3) (i : Nat) (v : Value) (hi : i < L3.length) : Tri w (W.setCell ⟨w.heap.size + 1 + 1, i, none⟩ v) L1 L2 (L3.set i v) :=
  ⟨h.bel.setCell (p := ⟨w.heap.size + 1 + 1, i, none⟩) (by show w.heap.size ≤ w.heap.size + 1 + 1; omega) v, h.b1.other _ _ (by show w.heap.size ≠ w.heap.size + 1 + 1; omega), h.b2.other _ _ (by show w.heap.size + 1 ≠ w.heap.size + 1 + 1; omega), h.b3.set i v hi⟩
theorem Tri.below {w W W' : World} {L1 L2 L3 : List Value} (h : Tri w W L1 L2 L3) (hb : Below W.heap.size W W') : Tri w W' L1 L2 L3 := ⟨h.bel.trans (hb.mono h.bel.size), h.b1.grow hb, h.b2.grow hb, h.b3.grow hb⟩
set_option maxRecDepth 100000 in
set_option maxHeartbeats 4000000 in
theorem toInode_any (r : NR) (w : World) (lo hi : Nat) (hr : RRow w r.loc (pcs r.nd.pieces) lo hi) (hl : r.nd.pieces.length ≤ 1048576) : Calls Try.prog 83 #[nv r] w fun e w' => ToNode r w e w' := by
  obtain ⟨⟨id, parent, name, dir, schema, quota, len, pieces, writer⟩, loc, cap⟩ := r
  unfold ToNode
  dsimp only [nv] at *
  have HP := Shut.mk (fun W (hW : Below w.heap.size w W) => toPieceS_any loc pieces cap W lo hi (hr.below hW) hl)
  unfold ToPieces at HP
  generalize pieces.length = np at *
  clear hr hl
  go_enter Try.func83, Try.ntmps83
  go_upto_region 9 with fail
  refine wp_shade (fun W => Tri w W [.int .i64 id, .int .i64 parent, .string name, .bool dir, .int .i64 schema, .int .i64 quota, .int .i64 len, .slice loc np cap, .int .i64 writer] [.int .i64 0, .int .i64 0, .string ⟨#[]⟩, .bool false, .int .i64 0, .int .i64 0, .int .i64 0, .slice none 0 0, .int .i64 0] [.int .i64 id, .int .i64 parent, .string name, .bool dir, .int .i64 schema, .int .i64 quota, .int .i64 len, .slice none 0 0, .int .i64 0]) ?_ ?_
  · exact Tri.new w #[.int .i64 id, .int .i64 parent, .string name, .bool dir, .int .i64 schema, .int .i64 quota, .int .i64 len, .slice loc np cap, .int .i64 writer] #[.int .i64 0, .int .i64 0, .string ⟨#[]⟩, .bool false, .int .i64 0, .int .i64 0, .int .i64 0, .slice none 0 0, .int .i64 0] #[.int .i64 id, .int .i64 parent, .string name, .bool dir, .int .i64 schema, .int .i64 quota, .int .i64 len, .slice none 0 0, .int .i64 0] 99 30 30
  · intro W4 ht
    have HT := Shut.mk ht
    have a7 := (ht.b1.2 7 _ rfl).1
    clear ht
    go_wp2_with fail
    refine (HP.out _ HT.out.bel).mono ?_
    rintro e w5 ⟨g, rfl, hg, hw, hb⟩
    have ht5 := HT.out.below hb
    have hg5 : g ≠ w.heap.size + 1 + 1 ∧ g ≠ w.heap.size + 1 := ⟨by have := HT.out.b3.1; omega, by have := HT.out.b3.1; omega⟩
    have HGL := Shut.mk (show w.heap.size ≤ g from Nat.le_trans HT.out.bel.size hg)
    have HT5 := Shut.mk (And.intro ht5 hw)
    obtain ⟨c7, z7⟩ := ht5.b3.2 7 _ rfl
    clear hw hb ht5 HT hg a7 HP
    go_upto_region 10 with fail
    refine wp_shade (fun W => Tri w W [.int .i64 id, .int .i64 parent, .string name, .bool dir, .int .i64 schema, .int .i64 quota, .int .i64 len, .slice loc np cap, .int .i64 writer] [.int .i64 0, .int .i64 0, .string ⟨#[]⟩, .bool false, .int .i64 0, .int .i64 0, .int .i64 0, .slice none 0 0, .int .i64 0] [.int .i64 id, .int .i64 parent, .string name, .bool dir, .int .i64 schema, .int .i64 quota, .int .i64 len, .slice (some ⟨g, 0, none⟩) np np, .int .i64 0] ∧ WCells W g (pcs pieces)) ⟨HT5.out.1.set 7 _ (by simp), HT5.out.2.other _ _ hg5.1⟩ ?_
    clear HT5 c7 z7
    rintro W6 ⟨ht, hw⟩
    have HT := Shut.mk (And.intro ht hw)
    have a8 := (ht.b1.2 8 _ rfl).1
    obtain ⟨c8, z8⟩ := ht.b3.2 8 _ rfl
    clear ht hw
    go_upto_region 11 with fail
    refine wp_shade (fun W => Tri w W [.int .i64 id, .int .i64 parent, .string name, .bool dir, .int .i64 schema, .int .i64 quota, .int .i64 len, .slice loc np cap, .int .i64 writer] [.int .i64 0, .int .i64 0, .string ⟨#[]⟩, .bool false, .int .i64 0, .int .i64 0, .int .i64 0, .slice none 0 0, .int .i64 0] [.int .i64 id, .int .i64 parent, .string name, .bool dir, .int .i64 schema, .int .i64 quota, .int .i64 len, .slice (some ⟨g, 0, none⟩) np np, .int .i64 writer] ∧ WCells W g (pcs pieces)) ⟨HT.out.1.set 8 _ (by simp), HT.out.2.other _ _ hg5.1⟩ ?_
    clear HT a8 c8 z8
    rintro W7 ⟨ht, hw⟩
    have HT := Shut.mk (And.intro ht hw)
    obtain ⟨c0, z0⟩ := ht.b3.2 0 _ rfl
    obtain ⟨c1, z1⟩ := ht.b3.2 1 _ rfl
    obtain ⟨c2, z2⟩ := ht.b3.2 2 _ rfl
    obtain ⟨c3, z3⟩ := ht.b3.2 3 _ rfl
    obtain ⟨c4, z4⟩ := ht.b3.2 4 _ rfl
    obtain ⟨c5, z5⟩ := ht.b3.2 5 _ rfl
    obtain ⟨c6, z6⟩ := ht.b3.2 6 _ rfl
    obtain ⟨c7, z7⟩ := ht.b3.2 7 _ rfl
    obtain ⟨c8, z8⟩ := ht.b3.2 8 _ rfl
    obtain ⟨x0, y0⟩ := ht.b2.2 0 _ rfl
    obtain ⟨x1, y1⟩ := ht.b2.2 1 _ rfl
    obtain ⟨x2, y2⟩ := ht.b2.2 2 _ rfl
    obtain ⟨x3, y3⟩ := ht.b2.2 3 _ rfl
    obtain ⟨x4, y4⟩ := ht.b2.2 4 _ rfl
    obtain ⟨x5, y5⟩ := ht.b2.2 5 _ rfl
    obtain ⟨x6, y6⟩ := ht.b2.2 6 _ rfl
    obtain ⟨x7, y7⟩ := ht.b2.2 7 _ rfl
    obtain ⟨x8, y8⟩ := ht.b2.2 8 _ rfl
    clear ht hw
    go_wp2_with fail
    refine body_shade (fun W => WCells W (w.heap.size + 1) [.int .i64 id, .int .i64 parent, .string name, .bool dir, .int .i64 schema, .int .i64 quota, .int .i64 len, .slice (some ⟨g, 0, none⟩) np np, .int .i64 writer] ∧ WCells W g (pcs pieces) ∧ Below w.heap.size w W) ⟨HT.out.1.b2.setW 0 [.int .i64 id, .int .i64 parent, .string name, .bool dir, .int .i64 schema, .int .i64 quota, .int .i64 len, .slice (some ⟨g, 0, none⟩) np np, .int .i64 writer] (by simp), HT.out.2.setW_other hg5.2 0 [.int .i64 id, .int .i64 parent, .string name, .bool dir, .int .i64 schema, .int .i64 quota, .int .i64 len, .slice (some ⟨g, 0, none⟩) np np, .int .i64 writer], below_setW HT.out.1.bel (by omega) 0 [.int .i64 id, .int .i64 parent, .string name, .bool dir, .int .i64 schema, .int .i64 quota, .int .i64 len, .slice (some ⟨g, 0, none⟩) np np, .int .i64 writer]⟩ ?_
    clear HT c0 c1 c2 c3 c4 c5 c6 c7 c8 z0 z1 z2 z3 z4 z5 z6 z7 z8 x0 x1 x2 x3 x4 x5 x6 x7 x8 y0 y1 y2 y3 y4 y5 y6 y7 y8
    rintro W8 ⟨h2, hw, hb⟩
    have x0 := (h2.2 0 _ rfl).1
    have x1 := (h2.2 1 _ rfl).1
    have x2 := (h2.2 2 _ rfl).1
    have x3 := (h2.2 3 _ rfl).1
    have x4 := (h2.2 4 _ rfl).1
    have x5 := (h2.2 5 _ rfl).1
    have x6 := (h2.2 6 _ rfl).1
    have x7 := (h2.2 7 _ rfl).1
    have x8 := (h2.2 8 _ rfl).1
    exact bodyPost_ret (v := .agg #[.int .i64 id, .int .i64 parent, .string name, .bool dir, .int .i64 schema, .int .i64 quota, .int .i64 len, .slice (some ⟨g, 0, none⟩) np np, .int .i64 writer]) (by simp [results, Try.results83, go_sem, x0, x1, x2, x3, x4, x5, x6, x7, x8]) rfl ⟨g, rfl, HGL.out, hw, hb⟩
end Go.Proofs.Ytfceohoegeebjaa
