/- Rows of texts that came in. -/
import Derived.Test.YteckimgacmobdaaOpenM
import Derived.Test.YteckimgacmobdaaStrV
namespace Go.Proofs.Yteckimgacmobdaa
open Go.RowKit Go.Deep Go.ChangeShapes Go.WideShapes

theorem tv_flats (L : List ByteArray) : tv L = L.flatMap fun x => [.string x] := by
  unfold tv
  induction L with
  | nil => rfl
  | cons x xs ih => simp [ih]
set_option maxRecDepth 100000 in
theorem open_textS {H : Type} {enc : TypeId × Value → H} {W : World} {r : Reach} {b0 base : Nat} {spare : Nat → Bool} {held : Bool} {v : Value} {d : DataW H} {p : List MemPlace}
    (hv : Value.okWide Try.prog W r b0 25 v) (h : DataW.Trod enc Try.prog W base spare held 25 v d p) : ∃ a L cap, v = .slice a (List.length (α := ByteArray) L) cap ∧ RRow W a (tv L) 0 W.heap.size ∧ (L.length ≤ 9223372036854775807 ∧ ∀ x ∈ L, x.size ≤ 9223372036854775807) := by
  obtain ⟨va, vl, vc, rfl⟩ := okWide_slice Try.underlying25 hv
  obtain ⟨fuel, h⟩ := h
  rcases open_slice Try.underlying25 h with ⟨e, _⟩ | ⟨ad, len, cap, m, n, D, Pl, e, hb, hl, hm, hmm, _, hx⟩
  · simp only [Value.cells, List.cons.injEq, and_true, Value.slice.injEq] at e
    obtain ⟨rfl, rfl, rfl⟩ := e
    exact ⟨none, [], 0, rfl, fun h => by simp [tv] at h, by simp, by simp⟩
  · have hlm : len ≤ m := by rw [hmm]; split <;> omega
    have each : ∀ i, i < len → ∃ f : ByteArray, (∀ r v, ([.string f] : List Value)[r]? = some v → W.cell? (ad.add (i * 1 + r)) = some v) ∧ f.size ≤ 9223372036854775807 := by
      intro i hi
      obtain ⟨cs', h1, h2⟩ := hx i (by omega)
      rw [cells_str] at h1
      obtain ⟨_, hlen, hcell⟩ := World.cells?_some h1
      obtain ⟨q, e2, _, z2⟩ := DataW.trod_string Try.underlying9 h2
      have c0 := hcell 0 (by omega)
      rw [add_add] at c0
      subst e2
      refine ⟨q, fun r v hv => ?_, by simpa [maxLen] using z2⟩
      match r, hv with
      | 0, hv => simp at hv; subst hv; simpa using c0
    obtain ⟨xs, hxl, hrow, hall⟩ := rows_from (en := fun x => [.string x]) (fun _ => rfl) (by decide) each
    rw [← tv_flats] at hrow
    simp only [Value.cells, List.cons.injEq, and_true, Value.slice.injEq] at e
    obtain ⟨rfl, rfl, rfl⟩ := e
    exact ⟨some ad, xs, vc, by rw [hxl], RRow.of_crow hrow, by rw [hxl]; unfold maxLen at hm; omega, hall⟩
end Go.Proofs.Yteckimgacmobdaa
