/- Units, and rows of them, that came in (written by gen/mkrow.py). -/
import Derived.Test.YtoaifodmjkhiiaaUnR
import Derived.Test.YtoaifodmjkhiiaaOpenM
namespace Go.Proofs.Ytoaifodmjkhiiaa
set_option maxRecDepth 100000
open Go.RowKit Go.Deep Go.ChangeShapes Go.WideShapes
theorem cellsLUnit : Try.prog.cellsOf 69 = 4 := by kernel_rfl
theorem cellsTUnit : Try.prog.cellsOf 9 = 1 := by kernel_rfl
theorem cellsNUnit : Try.prog.cellsOf 3 = 1 := by kernel_rfl
set_option maxRecDepth 100000 in
theorem openUnit_cells {H : Type} {enc : TypeId × Value → H} {W : World} {base : Nat} {spare : Nat → Bool} {held : Bool} {n : Nat} {cs : List Value} {x : DataW H × List MemPlace} (h : DataW.trod enc Try.prog W base spare held n 69 cs = some x) :
    ∃ f : UnM, cs = unC f ∧ UnFit f := by
  obtain ⟨xs, k, _, rfl, hl, hlen, hf⟩ := DataW.trod_struct Try.underlying69 h
  rw [cellsLUnit] at hl
  match xs, hlen, cs, hl with
  | [y0, y1, y2, y3], _, [v0, v1, v2, v3], _ =>
    have g0 := hf 0 _ rfl
    have g1 := hf 1 _ rfl
    have g2 := hf 2 _ rfl
    have g3 := hf 3 _ rfl
    simp [cellsTUnit, cellsNUnit] at g0 g1 g2 g3
    obtain ⟨q0, e0, _, z0⟩ := DataW.trod_int Try.underlying3 g0
    obtain ⟨q1, e1, _, z1⟩ := DataW.trod_int Try.underlying3 g1
    obtain ⟨s2, e2, _, z2⟩ := DataW.trod_string Try.underlying9 g2
    obtain ⟨q3, e3, _, z3⟩ := DataW.trod_int Try.underlying3 g3
    simp only [List.cons.injEq, and_true] at e0 e1 e2 e3
    subst e0 e1 e2 e3
    unfold maxLen at z2
    exact ⟨⟨q0, q1, s2, q3⟩, rfl, by simpa using z2, bounds_i64 z0, bounds_i64 z1, bounds_i64 z3⟩
set_option maxRecDepth 100000 in
theorem openUnit {H : Type} {enc : TypeId × Value → H} {W : World} {r : Reach} {b0 base : Nat} {spare : Nat → Bool} {held : Bool} {v : Value} {d : DataW H} {p : List MemPlace}
    (hv : Value.okWide Try.prog W r b0 69 v) (h : DataW.Trod enc Try.prog W base spare held 69 v d p) : ∃ f : UnM, v = unv f ∧ UnFit f := by
  obtain ⟨cs, rfl, hsz⟩ := okWide_struct Try.underlying69 hv
  obtain ⟨fuel, h⟩ := h
  obtain ⟨f, e, hf⟩ := openUnit_cells h
  refine ⟨f, ?_, hf⟩
  have : cs.toList = unC f := by simpa [Value.cells] using e
  rw [show cs = (unC f).toArray by rw [← this]]
  rfl
/-- What a slice's cells hold. -/
theorem openUnitS_cells {H : Type} {enc : TypeId × Value → H} {W : World} {base : Nat} {spare : Nat → Bool} {held : Bool} {va : Option Addr} {vl vc fuel : Nat} {x : DataW H × List MemPlace}
    (h : DataW.trod enc Try.prog W base spare held fuel 22 [.slice va vl vc] = some x) : ∃ xs, vl = List.length (α := UnM) xs ∧ UnRow W va xs ∧ UnFits xs := by
  rcases open_slice Try.underlying22 h with ⟨e, _⟩ | ⟨ad, len, cap, m, n, D, Pl, e, hb, hl, hm, hmm, _, hx⟩
  · simp only [List.cons.injEq, and_true, Value.slice.injEq] at e
    obtain ⟨rfl, rfl, rfl⟩ := e
    exact ⟨[], rfl, fun h => by simp [unS] at h, by simp, by simp⟩
  · have hlm : len ≤ m := by rw [hmm]; split <;> omega
    have each : ∀ i, i < len → ∃ f : UnM, (∀ r v, (unC f)[r]? = some v → W.cell? (ad.add (i * 4 + r)) = some v) ∧ UnFit f := by
      intro i hi
      obtain ⟨cs', h1, h2⟩ := hx i (by omega)
      rw [cellsLUnit] at h1
      obtain ⟨_, hlen, hcell⟩ := World.cells?_some h1
      obtain ⟨f, rfl, hfit⟩ := openUnit_cells h2
      refine ⟨f, fun r v hv => ?_, hfit⟩
      have hr : r < (unC f).length := (List.getElem?_eq_some_iff.1 hv).1
      have c := hcell r (by rw [unC_len] at hr; omega)
      rw [add_add] at c
      rw [c]
      exact hv
    obtain ⟨xs, hxl, hrow, hall⟩ := rows_from (en := unC) unC_len (by decide) each
    simp only [List.cons.injEq, and_true, Value.slice.injEq] at e
    obtain ⟨rfl, rfl, rfl⟩ := e
    exact ⟨xs, by rw [hxl], hrow, by rw [hxl]; unfold maxLen at hm; omega, hall⟩
theorem openUnitS {H : Type} {enc : TypeId × Value → H} {W : World} {r : Reach} {b0 base : Nat} {spare : Nat → Bool} {held : Bool} {v : Value} {d : DataW H} {p : List MemPlace}
    (hv : Value.okWide Try.prog W r b0 22 v) (h : DataW.Trod enc Try.prog W base spare held 22 v d p) : ∃ a xs cap, v = .slice a (List.length (α := UnM) xs) cap ∧ UnRow W a xs ∧ UnFits xs := by
  obtain ⟨va, vl, vc, rfl⟩ := okWide_slice Try.underlying22 hv
  obtain ⟨fuel, h⟩ := h
  obtain ⟨xs, rfl, hr, hf⟩ := openUnitS_cells (by simpa only [Value.cells] using h)
  exact ⟨va, xs, vc, rfl, hr, hf⟩
end Go.Proofs.Ytoaifodmjkhiiaa
