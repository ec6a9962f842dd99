/- Sizes, and rows of them, that came in (written by gen/mkrow.py). -/
import Derived.Test.YtendbipfmgnjkaaPzR
import Derived.Test.YtendbipfmgnjkaaOpenM
namespace Go.Proofs.Ytendbipfmgnjkaa
set_option maxRecDepth 100000
open Go.RowKit Go.Deep Go.ChangeShapes Go.WideShapes
theorem cellsLSize : Try.prog.cellsOf 82 = 2 := by kernel_rfl
theorem cellsTSize : Try.prog.cellsOf 9 = 1 := by kernel_rfl
theorem cellsNSize : Try.prog.cellsOf 3 = 1 := by kernel_rfl
set_option maxRecDepth 100000 in
theorem openSize_cells {H : Type} {enc : TypeId × Value → H} {W : World} {base : Nat} {spare : Nat → Bool} {held : Bool} {n : Nat} {cs : List Value} {x : DataW H × List MemPlace} (h : DataW.trod enc Try.prog W base spare held n 82 cs = some x) :
    ∃ f : PzM, cs = pzC f ∧ PzFit f := by
  obtain ⟨xs, k, _, rfl, hl, hlen, hf⟩ := DataW.trod_struct Try.underlying82 h
  rw [cellsLSize] at hl
  match xs, hlen, cs, hl with
  | [y0, y1], _, [v0, v1], _ =>
    have g0 := hf 0 _ rfl
    have g1 := hf 1 _ rfl
    simp [cellsTSize, cellsNSize] at g0 g1
    obtain ⟨q0, e0, _, z0⟩ := DataW.trod_int Try.underlying3 g0
    obtain ⟨s1, e1, _, z1⟩ := DataW.trod_string Try.underlying9 g1
    simp only [List.cons.injEq, and_true] at e0 e1
    subst e0 e1
    unfold maxLen at z1
    exact ⟨⟨q0, s1⟩, rfl, by simpa using z1, bounds_i64 z0⟩
set_option maxRecDepth 100000 in
theorem openSize {H : Type} {enc : TypeId × Value → H} {W : World} {r : Reach} {b0 base : Nat} {spare : Nat → Bool} {held : Bool} {v : Value} {d : DataW H} {p : List MemPlace}
    (hv : Value.okWide Try.prog W r b0 82 v) (h : DataW.Trod enc Try.prog W base spare held 82 v d p) : ∃ f : PzM, v = pzv f ∧ PzFit f := by
  obtain ⟨cs, rfl, hsz⟩ := okWide_struct Try.underlying82 hv
  obtain ⟨fuel, h⟩ := h
  obtain ⟨f, e, hf⟩ := openSize_cells h
  refine ⟨f, ?_, hf⟩
  have : cs.toList = pzC f := by simpa [Value.cells] using e
  rw [show cs = (pzC f).toArray by rw [← this]]
  rfl
/-- What a slice's cells hold. -/
theorem openSizeS_cells {H : Type} {enc : TypeId × Value → H} {W : World} {base : Nat} {spare : Nat → Bool} {held : Bool} {va : Option Addr} {vl vc fuel : Nat} {x : DataW H × List MemPlace}
    (h : DataW.trod enc Try.prog W base spare held fuel 53 [.slice va vl vc] = some x) : ∃ xs, vl = List.length (α := PzM) xs ∧ PzRow W va xs ∧ PzFits xs := by
  rcases open_slice Try.underlying53 h with ⟨e, _⟩ | ⟨ad, len, cap, m, n, D, Pl, e, hb, hl, hm, hmm, _, hx⟩
  · simp only [List.cons.injEq, and_true, Value.slice.injEq] at e
    obtain ⟨rfl, rfl, rfl⟩ := e
    exact ⟨[], rfl, fun h => by simp [pzS] at h, by simp, by simp⟩
  · have hlm : len ≤ m := by rw [hmm]; split <;> omega
    have each : ∀ i, i < len → ∃ f : PzM, (∀ r v, (pzC f)[r]? = some v → W.cell? (ad.add (i * 2 + r)) = some v) ∧ PzFit f := by
      intro i hi
      obtain ⟨cs', h1, h2⟩ := hx i (by omega)
      rw [cellsLSize] at h1
      obtain ⟨_, hlen, hcell⟩ := World.cells?_some h1
      obtain ⟨f, rfl, hfit⟩ := openSize_cells h2
      refine ⟨f, fun r v hv => ?_, hfit⟩
      have hr : r < (pzC f).length := (List.getElem?_eq_some_iff.1 hv).1
      have c := hcell r (by rw [pzC_len] at hr; omega)
      rw [add_add] at c
      rw [c]
      exact hv
    obtain ⟨xs, hxl, hrow, hall⟩ := rows_from (en := pzC) pzC_len (by decide) each
    simp only [List.cons.injEq, and_true, Value.slice.injEq] at e
    obtain ⟨rfl, rfl, rfl⟩ := e
    exact ⟨xs, by rw [hxl], hrow, by rw [hxl]; unfold maxLen at hm; omega, hall⟩
theorem openSizeS {H : Type} {enc : TypeId × Value → H} {W : World} {r : Reach} {b0 base : Nat} {spare : Nat → Bool} {held : Bool} {v : Value} {d : DataW H} {p : List MemPlace}
    (hv : Value.okWide Try.prog W r b0 53 v) (h : DataW.Trod enc Try.prog W base spare held 53 v d p) : ∃ a xs cap, v = .slice a (List.length (α := PzM) xs) cap ∧ PzRow W a xs ∧ PzFits xs := by
  obtain ⟨va, vl, vc, rfl⟩ := okWide_slice Try.underlying53 hv
  obtain ⟨fuel, h⟩ := h
  obtain ⟨xs, rfl, hr, hf⟩ := openSizeS_cells (by simpa only [Value.cells] using h)
  exact ⟨va, xs, vc, rfl, hr, hf⟩
end Go.Proofs.Ytendbipfmgnjkaa
