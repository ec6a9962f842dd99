/- Texts of ours, laid one behind the other: DrEdA, DrEdB, TreO. -/
import Derived.Test.YtakhagkhngmpaaaGreatQa4
import Derived.Test.YtakhagkhngmpaaaGreatQa3
import Derived.Test.YtakhagkhngmpaaaGreatQa1
/- DrEdA: . -/
namespace Go.Proofs.YtakhagkhngmpaaaGreat
set_option maxRecDepth 100000
open Go.RowKit
attribute [local go_sem ↓] Go.wp_at_zero Go.wp_at_succ
theorem Cur.other {w : World} {g B len cap : Nat} {a : Option Addr} (h : Cur w g B a len cap) (p : Addr) (v : Value) (hp : p.block ≠ g) (hB : B ≤ p.block) : Cur (w.setCell p v) g B a len cap := by
 obtain ⟨h1, h2, h3, h4, ⟨i, h5, h5'⟩, ⟨k, h6⟩, h7⟩ := h
 have hblk : ∀ q, q ≠ p.block → (w.setCell p v).heap[q]? = w.heap[q]? := fun q hq => Below.heap_setCell _ _ _ _ hq
 have hb : Below 0 w (w.setCell p v) := (Below.refl _ _).setCell (Nat.zero_le _) v
 refine ⟨h1, Nat.lt_of_lt_of_le h2 hb.size, ⟨h3.1, fun hp' => ?_⟩, (World.cell?_of_block (a := ⟨g, 0, none⟩) (hblk g (Ne.symm hp))).trans h4, ⟨i, (World.cell?_of_block (a := ⟨g, 1, none⟩) (hblk g (Ne.symm hp))).trans h5, h5'⟩, ⟨k, (World.cell?_of_block (a := ⟨g, 2, none⟩) (hblk g (Ne.symm hp))).trans h6⟩, fun j hj => (World.frozen?_of_block (a := ⟨g, j, none⟩) (hblk g (Ne.symm hp))).trans (h7 j hj)⟩
 obtain ⟨b, off, e, hbB, hx⟩ := h3.2 hp'
 exact ⟨b, off, e, hbB, fun j hj => (hx j hj).imp fun x hx => ⟨(World.cell?_of_block (a := ⟨b, off + j, none⟩) (hblk b (by omega))).trans hx.1, hx.2⟩⟩
def EPl (e : EM) : Prop := (e.path.size ≤ 16 ∧ noZ e.path = true) ∧ (e.dest.size ≤ 16 ∧ noZ e.dest = true)
theorem EPl.fit {e : EM} (h : EPl e) : EFit e := ⟨Nat.le_trans h.1.1 (by omega), Nat.le_trans h.2.1 (by omega)⟩
structure DE (w0 w : World) (g B : Nat) (a : Option Addr) (len cap A E : Nat) (X : EM) : Prop where
 cur : Cur w g B a len cap
 ans : WCells w A (ecells zeroE)
 box : WCells w E (ecells X)
 gr : w0.grownBy w (some g)
 ne : A ≠ E
 hA : w0.heap.size ≤ A
 hE : w0.heap.size ≤ E
 hg : g < w0.heap.size
 pl : EPl X
theorem DE.turn {w0 w w' : World} {g B len cap A E : Nat} {a : Option Addr} {X : EM} (h : DE w0 w g B a len cap A E X) (hc : Cur w' g B a len cap) (hg : w.grownBy w' (some g)) : DE w0 w' g B a len cap A E X :=
 ⟨hc, h.ans.apart hg (by have := h.hA; have := h.hg; omega), h.box.apart hg (by have := h.hE; have := h.hg; omega), gb_two h.gr hg, h.ne, h.hA, h.hE, h.hg, h.pl⟩
theorem gb_fresh {w0 w : World} {g : Nat} (h : w0.grownBy w (some g)) (p : Addr) (v : Value) (hp : w0.heap.size ≤ p.block) : w0.grownBy (w.setCell p v) (some g) := by
 have hb : Below 0 w (w.setCell p v) := (Below.refl _ _).setCell (Nat.zero_le _) v
 exact ⟨hb.os.trans h.os, hb.tape.trans h.tape, hb.output.trans h.output, Nat.le_trans h.size hb.size, fun k hk hn => (Below.heap_setCell _ _ _ _ (by omega)).trans (h.block k hk hn)⟩
theorem DE.set {w0 w : World} {g B len cap A E : Nat} {a : Option Addr} {X : EM} (h : DE w0 w g B a len cap A E X) (i : Nat) (v : Value) (Y : EM) (hi : i < 5) (hz : (ecells X).set i v = ecells Y) (hp : EPl Y) : DE w0 (w.setCell ⟨E, i, none⟩ v) g B a len cap A E Y :=
 ⟨h.cur.other _ _ (by have := h.hE; have := h.hg; show E ≠ g; omega) (by have := h.hE; have := h.hg; have := h.cur.1; show B ≤ E; omega), h.ans.other _ _ h.ne, by rw [← hz]; exact h.box.set i v (by rw [ecells_len]; exact hi), gb_fresh h.gr _ _ h.hE, h.ne, h.hA, h.hE, h.hg, hp⟩
theorem DE.room {w0 w : World} {g B len cap A E : Nat} {a : Option Addr} {X : EM} (h : DE w0 w g B a len cap A E X) : (w.cell? ⟨A, 0, none⟩ = some (.int .i64 0) ∧ w.frozen? ⟨A, 0, none⟩ = false) ∧ (w.cell? ⟨A, 1, none⟩ = some (.string ⟨#[]⟩) ∧ w.frozen? ⟨A, 1, none⟩ = false) ∧ (w.cell? ⟨A, 2, none⟩ = some (.string ⟨#[]⟩) ∧ w.frozen? ⟨A, 2, none⟩ = false) ∧ (w.cell? ⟨A, 3, none⟩ = some (.int .i64 0) ∧ w.frozen? ⟨A, 3, none⟩ = false) ∧ (w.cell? ⟨A, 4, none⟩ = some (.int .i64 0) ∧ w.frozen? ⟨A, 4, none⟩ = false) :=
 ⟨h.ans.2 0 _ rfl, h.ans.2 1 _ rfl, h.ans.2 2 _ rfl, h.ans.2 3 _ rfl, h.ans.2 4 _ rfl⟩
theorem DE.done {w0 w : World} {g B len cap A E : Nat} {a : Option Addr} {X : EM} (h : DE w0 w g B a len cap A E X) : EPl X ∧ WCells (put5 w A X) A (ecells X) ∧ Cur (put5 w A X) g B a len cap ∧ w0.grownBy (put5 w A X) (some g) := by
 have hAg : A ≠ g := by have := h.hA; have := h.hg; omega
 have hBA : B ≤ A := by have := h.hA; have := h.hg; have := h.cur.1; omega
 refine ⟨h.pl, ?_, ?_, ?_⟩
 ·exact ((((h.ans.set 0 (.int .i64 X.kind) (by simp [ecells])).set 1 (.string X.path) (by simp [ecells])).set 2 (.string X.dest) (by simp [ecells])).set 3 (.int .i64 X.num) (by simp [ecells])).set 4 (.int .i64 X.who) (by simp [ecells])
 ·exact ((((h.cur.other ⟨A, 0, none⟩ _ hAg hBA).other ⟨A, 1, none⟩ _ hAg hBA).other ⟨A, 2, none⟩ _ hAg hBA).other ⟨A, 3, none⟩ _ hAg hBA).other ⟨A, 4, none⟩ _ hAg hBA
 ·exact gb_fresh (gb_fresh (gb_fresh (gb_fresh (gb_fresh h.gr ⟨A, 0, none⟩ _ h.hA) ⟨A, 1, none⟩ _ h.hA) ⟨A, 2, none⟩ _ h.hA) ⟨A, 3, none⟩ _ h.hA) ⟨A, 4, none⟩ _ h.hA
end Go.Proofs.YtakhagkhngmpaaaGreat
/- DrEdB: . -/
namespace Go.Proofs.YtakhagkhngmpaaaGreat
set_option maxRecDepth 100000
open Go.RowKit
attribute [local go_sem ↓] Go.wp_at_zero Go.wp_at_succ
end Go.Proofs.YtakhagkhngmpaaaGreat
/- TreO: . -/
namespace Go.Proofs.YtakhagkhngmpaaaGreat
set_option maxRecDepth 100000
open Go.RowKit Go.Deep Go.ChangeShapes Go.WideShapes
section
variable {P : Program} {w : World} {base : Nat} {spare : Nat → Bool} {held : Bool} {H : Type} {enc : TypeId × Value → H}
theorem trod_nine {t : TypeId} {f0 f1 f2 f3 f4 f5 f6 f7 f8 : Field} {fuel : Nat} {cs : List Value} {x : DataW H × List MemPlace} (ht : P.underlying t = some (.struct #[f0, f1, f2, f3, f4, f5, f6, f7, f8])) (h : DataW.trod enc P w base spare held fuel t cs = some x) :
  ∃ y0 y1 y2 y3 y4 y5 y6 y7 y8 n, cs.length = P.cellsOf t ∧
   DataW.trod enc P w base spare held n f0.type ((cs.drop f0.offset).take (P.cellsOf f0.type)) = some y0 ∧
   DataW.trod enc P w base spare held n f1.type ((cs.drop f1.offset).take (P.cellsOf f1.type)) = some y1 ∧
   DataW.trod enc P w base spare held n f2.type ((cs.drop f2.offset).take (P.cellsOf f2.type)) = some y2 ∧
   DataW.trod enc P w base spare held n f3.type ((cs.drop f3.offset).take (P.cellsOf f3.type)) = some y3 ∧
   DataW.trod enc P w base spare held n f4.type ((cs.drop f4.offset).take (P.cellsOf f4.type)) = some y4 ∧
   DataW.trod enc P w base spare held n f5.type ((cs.drop f5.offset).take (P.cellsOf f5.type)) = some y5 ∧
   DataW.trod enc P w base spare held n f6.type ((cs.drop f6.offset).take (P.cellsOf f6.type)) = some y6 ∧
   DataW.trod enc P w base spare held n f7.type ((cs.drop f7.offset).take (P.cellsOf f7.type)) = some y7 ∧
   DataW.trod enc P w base spare held n f8.type ((cs.drop f8.offset).take (P.cellsOf f8.type)) = some y8 := by
 obtain ⟨xs, n, _, rfl, hl, hlen, hf⟩ := DataW.trod_struct ht h
 match xs, hlen with
 | [y0, y1, y2, y3, y4, y5, y6, y7, y8], _ => exact ⟨y0, y1, y2, y3, y4, y5, y6, y7, y8, n, hl, by simpa using hf 0 f0 rfl, by simpa using hf 1 f1 rfl, by simpa using hf 2 f2 rfl, by simpa using hf 3 f3 rfl, by simpa using hf 4 f4 rfl, by simpa using hf 5 f5 rfl, by simpa using hf 6 f6 rfl, by simpa using hf 7 f7 rfl, by simpa using hf 8 f8 rfl⟩
end
theorem cells_piece : Tryz.prog.cellsOf 204 = 2 := by kernel_rfl
theorem cells_pieces : Tryz.prog.cellsOf 146 = 1 := by kernel_rfl
theorem cells_node : Tryz.prog.cellsOf 148 = 9 := by kernel_rfl
theorem cells_nodes : Tryz.prog.cellsOf 54 = 1 := by kernel_rfl
theorem cells_tree : Tryz.prog.cellsOf 56 = 2 := by kernel_rfl
theorem cells_bool : Tryz.prog.cellsOf 4 = 1 := by kernel_rfl
theorem open_pieces {H : Type} {enc : TypeId × Value → H} {W : World} {base : Nat} {spare : Nat → Bool} {held : Bool} {fuel : Nat} {cs : List Value} {x : DataW H × List MemPlace}
  (h : DataW.trod enc Tryz.prog W base spare held fuel 146 cs = some x) : ∃ a ps cap, cs = [.slice a (List.length (α := PM) ps) cap] ∧ CRow W a (pcs ps) ∧ ps.length ≤ 9223372036854775807 := by
 rcases open_slice Tryz.underlying146 h with ⟨rfl, _⟩ | ⟨ad, len, cap, m, n, D, Pl, rfl, hb, hl, hm, hmm, _, hx⟩
 ·exact ⟨none, [], 0, rfl, fun h => by simp [pcs] at h, by simp⟩
 ·have hlm : len ≤ m := by rw [hmm]; split <;> omega
  have each : ∀ i, i < len → ∃ f : PM, (∀ r v, (pcells f)[r]? = some v → W.cell? (ad.add (i * 2 + r)) = some v) ∧ True := by
   intro i hi
   obtain ⟨cs', h1, h2⟩ := hx i (by omega)
   rw [cells_piece] at h1
   obtain ⟨_, hlen, hcell⟩ := World.cells?_some h1
   obtain ⟨y0, y1, k, _, _, g0, g1⟩ := trod_struct2 Tryz.underlying204 h2
   match cs', hlen with
   | [v0, v1], _ =>
    simp only [cells_int, List.drop_zero, List.drop_succ_cons, List.take_succ_cons, List.take_zero] at g0 g1
    obtain ⟨q0, e0, _, _⟩ := DataW.trod_int Tryz.underlying3 g0
    obtain ⟨q1, e1, _, _⟩ := DataW.trod_int Tryz.underlying3 g1
    have c0 := hcell 0 (by omega)
    have c1 := hcell 1 (by omega)
    rw [add_add] at c0 c1
    simp only [List.cons.injEq, and_true] at e0 e1
    subst e0 e1
    refine ⟨⟨q0, q1⟩, fun r v hv => ?_, trivial⟩
    match r, hv with
    | 0, hv => simp [pcells] at hv; subst hv; simpa using c0
    | 1, hv => simp [pcells] at hv; subst hv; simpa using c1
  obtain ⟨xs, hxl, hrow, _⟩ := rows_from pcells_len (by decide) each
  exact ⟨some ad, xs, cap, by rw [hxl], hrow, by rw [hxl]; unfold maxLen at hm; omega⟩
set_option maxHeartbeats 1000000 in
theorem open_nodes {H : Type} {enc : TypeId × Value → H} {W : World} {base : Nat} {spare : Nat → Bool} {held : Bool} {fuel : Nat} {cs : List Value} {x : DataW H × List MemPlace}
  (h : DataW.trod enc Tryz.prog W base spare held fuel 54 cs = some x) : ∃ a rs cap, cs = [.slice a (List.length (α := NR) rs) cap] ∧ TR W a rs 0 W.heap.size ∧ NOk (nds rs) ∧ NInt (nds rs) := by
 rcases open_slice Tryz.underlying54 h with ⟨rfl, _⟩ | ⟨ad, len, cap, m, n, D, Pl, rfl, hb, hl, hm, hmm, _, hx⟩
 ·exact ⟨none, [], 0, rfl, GR.nil _ _ _ _ _, by unfold NOk; simp [nds], by unfold NInt; simp [nds]⟩
 ·have hlm : len ≤ m := by rw [hmm]; split <;> omega
  have each : ∀ i, i < len → ∃ f : NR, (∀ r v, (ncells f)[r]? = some v → W.cell? (ad.add (i * 9 + r)) = some v) ∧ CRow W f.loc (pcs f.nd.pieces) ∧ f.nd.name.size ≤ 9223372036854775807 ∧ (f.nd.pieces.length ≤ 9223372036854775807 ∧ (Lit.int .i64 f.nd.id).wf = true ∧ (Lit.int .i64 f.nd.parent).wf = true) := by
   intro i hi
   obtain ⟨cs', h1, h2⟩ := hx i (by omega)
   rw [cells_node] at h1
   obtain ⟨_, hlen, hcell⟩ := World.cells?_some h1
   obtain ⟨y0, y1, y2, y3, y4, y5, y6, y7, y8, k, _, g0, g1, g2, g3, g4, g5, g6, g7, g8⟩ := trod_nine Tryz.underlying148 h2
   match cs', hlen with
   | [v0, v1, v2, v3, v4, v5, v6, v7, v8], _ =>
    simp only [cells_int, cells_str, cells_bool, cells_pieces, List.drop_zero, List.drop_succ_cons, List.take_succ_cons, List.take_zero] at g0 g1 g2 g3 g4 g5 g6 g7 g8
    obtain ⟨q0, e0, _, f0⟩ := DataW.trod_int Tryz.underlying3 g0
    obtain ⟨q1, e1, _, f1⟩ := DataW.trod_int Tryz.underlying3 g1
    obtain ⟨q2, e2, _, z2⟩ := DataW.trod_string Tryz.underlying9 g2
    obtain ⟨q3, e3, _⟩ := DataW.trod_bool Tryz.underlying4 g3
    obtain ⟨q4, e4, _, _⟩ := DataW.trod_int Tryz.underlying3 g4
    obtain ⟨q5, e5, _, _⟩ := DataW.trod_int Tryz.underlying3 g5
    obtain ⟨q6, e6, _, _⟩ := DataW.trod_int Tryz.underlying3 g6
    obtain ⟨pa, ps, pc, e7, hpr, hpl⟩ := open_pieces g7
    obtain ⟨q8, e8, _, _⟩ := DataW.trod_int Tryz.underlying3 g8
    have c0 := hcell 0 (by omega)
    have c1 := hcell 1 (by omega)
    have c2 := hcell 2 (by omega)
    have c3 := hcell 3 (by omega)
    have c4 := hcell 4 (by omega)
    have c5 := hcell 5 (by omega)
    have c6 := hcell 6 (by omega)
    have c7 := hcell 7 (by omega)
    have c8 := hcell 8 (by omega)
    rw [add_add] at c0 c1 c2 c3 c4 c5 c6 c7 c8
    simp only [List.cons.injEq, and_true] at e0 e1 e2 e3 e4 e5 e6 e7 e8
    subst e0 e1 e2 e3 e4 e5 e6 e7 e8
    unfold maxLen at z2
    refine ⟨⟨⟨q0, q1, q2, q3, q4, q5, q6, ps, q8⟩, pa, pc⟩, fun r v hv => ?_, hpr, by simpa using z2, hpl, f0, f1⟩
    match r, hv with
    | 0, hv => simp [ncells] at hv; subst hv; simpa using c0
    | 1, hv => simp [ncells] at hv; subst hv; simpa using c1
    | 2, hv => simp [ncells] at hv; subst hv; simpa using c2
    | 3, hv => simp [ncells] at hv; subst hv; simpa using c3
    | 4, hv => simp [ncells] at hv; subst hv; simpa using c4
    | 5, hv => simp [ncells] at hv; subst hv; simpa using c5
    | 6, hv => simp [ncells] at hv; subst hv; simpa using c6
    | 7, hv => simp [ncells] at hv; subst hv; simpa using c7
    | 8, hv => simp [ncells] at hv; subst hv; simpa using c8
  obtain ⟨xs, hxl, hrow, hall⟩ := rows_from ncells_len (by decide) each
  refine ⟨some ad, xs, cap, by rw [hxl], ⟨RRow.of_crow hrow, fun r hr => RRow.of_crow (hall r hr).1⟩, ⟨by rw [nds_len, hxl]; unfold maxLen at hm; omega, fun n hn => ?_⟩, fun n hn => ?_⟩
  ·obtain ⟨r, hr, rfl⟩ := List.mem_map.1 hn
   exact ⟨(hall r hr).2.1, (hall r hr).2.2.1⟩
  ·obtain ⟨r, hr, rfl⟩ := List.mem_map.1 hn
   exact (hall r hr).2.2.2
theorem open_tree {H : Type} {enc : TypeId × Value → H} {W : World} {r : Reach} {b0 base : Nat} {spare : Nat → Bool} {held : Bool} {v : Value} {d : DataW H} {p : List MemPlace}
  (hv : Value.okWide Tryz.prog W r b0 56 v) (h : DataW.Trod enc Tryz.prog W base spare held 56 v d p) : ∃ T : TM, TSee W v T 0 W.heap.size ∧ NOk T.nodes ∧ NInt T.nodes := by
 obtain ⟨cs, rfl, hsz⟩ := okWide_struct Tryz.underlying56 hv
 rw [cells_tree] at hsz
 obtain ⟨fuel, hf⟩ := h
 obtain ⟨y0, y1, n, _, _, h0, h1⟩ := trod_struct2 Tryz.underlying56 hf
 obtain ⟨c0, c1, rfl⟩ : ∃ c0 c1, cs = #[c0, c1] := by
  match cs, hsz with
  | ⟨[c0, c1]⟩, _ => exact ⟨c0, c1, rfl⟩
 simp only [cells_nodes, cells_int, Value.cells, List.drop_zero, List.drop_succ_cons, List.take_succ_cons, List.take_zero] at h0 h1
 obtain ⟨a, rs, cap, e, g1, g2⟩ := open_nodes h0
 obtain ⟨q, e1, _, _⟩ := DataW.trod_int Tryz.underlying3 h1
 simp only [List.cons.injEq, and_true] at e e1
 subst e e1
 exact ⟨⟨nds rs, q⟩, ⟨a, cap, rs, rfl, rfl, g1⟩, g2⟩
end Go.Proofs.YtakhagkhngmpaaaGreat
