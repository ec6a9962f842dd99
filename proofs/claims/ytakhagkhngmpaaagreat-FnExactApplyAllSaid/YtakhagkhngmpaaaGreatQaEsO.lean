/- Texts of ours, laid one behind the other: EsO. -/
import Derived.Test.YtakhagkhngmpaaaGreatQaEsA
import Derived.Test.YtakhagkhngmpaaaGreatQa3
/- EsO: . -/
namespace Go.Proofs.YtakhagkhngmpaaaGreat
set_option maxRecDepth 100000
open Go.RowKit Go.Deep Go.ChangeShapes Go.WideShapes
theorem open_editS {H : Type} {enc : TypeId × Value → H} {W : World} {r : Reach} {b0 base : Nat} {spare : Nat → Bool} {held : Bool} {v : Value} {d : DataW H} {p : List MemPlace}
  (hv : Value.okWide Tryz.prog W r b0 63 v) (h : DataW.Trod enc Tryz.prog W base spare held 63 v d p) : ∃ a xs cap, v = .slice a (List.length (α := EM) xs) cap ∧ ERow W a xs ∧ ESFit xs := by
 obtain ⟨va, vl, vc, rfl⟩ := okWide_slice Tryz.underlying63 hv
 obtain ⟨fuel, h⟩ := h
 rcases open_slice Tryz.underlying63 h with ⟨e, _⟩ | ⟨ad, len, cap, m, n, D, Pl, e, hb, hl, hm, hmm, _, hx⟩
 ·simp only [Value.cells, List.cons.injEq, and_true, Value.slice.injEq] at e
  obtain ⟨rfl, rfl, rfl⟩ := e
  exact ⟨none, [], 0, rfl, fun h => by simp [ecs] at h, by simp, by simp⟩
 ·have hlm : len ≤ m := by rw [hmm]; split <;> omega
  have each : ∀ i, i < len → ∃ f : EM, (∀ r v, (ecells f)[r]? = some v → W.cell? (ad.add (i * 5 + r)) = some v) ∧ EdFit f := by
   intro i hi
   obtain ⟨cs', h1, h2⟩ := hx i (by omega)
   rw [cells_edit] at h1
   obtain ⟨_, hlen, hcell⟩ := World.cells?_some h1
   obtain ⟨f, rfl, hfit⟩ := open_edit_cells h2
   refine ⟨f, fun r v hv => ?_, hfit⟩
   have hr : r < (ecells f).length := (List.getElem?_eq_some_iff.1 hv).1
   have c := hcell r (by rw [ecells_len] at hr; omega)
   rw [add_add] at c
   rw [c]
   exact hv
  obtain ⟨xs, hxl, hrow, hall⟩ := rows_from (en := ecells) ecells_len (by decide) each
  simp only [Value.cells, List.cons.injEq, and_true, Value.slice.injEq] at e
  obtain ⟨rfl, rfl, rfl⟩ := e
  exact ⟨some ad, xs, vc, by rw [hxl], hrow, by rw [hxl]; unfold maxLen at hm; omega, hall⟩
end Go.Proofs.YtakhagkhngmpaaaGreat
