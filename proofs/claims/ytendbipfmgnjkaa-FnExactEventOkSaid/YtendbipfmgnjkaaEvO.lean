/- Events that came in. -/
import Derived.Test.YtendbipfmgnjkaaEvA
import Derived.Test.YtendbipfmgnjkaaAkRo
import Derived.Test.YtendbipfmgnjkaaActO
namespace Go.Proofs.Ytendbipfmgnjkaa
set_option maxRecDepth 100000
open Go.RowKit Go.Deep Go.ChangeShapes Go.WideShapes

theorem cellsEv : Try.prog.cellsOf 26 = 11 := by kernel_rfl
theorem cellsEvB : Try.prog.cellsOf 4 = 1 := by kernel_rfl
theorem cellsEvI : Try.prog.cellsOf 3 = 1 := by kernel_rfl
theorem cellsEvA : Try.prog.cellsOf 23 = 6 := by kernel_rfl
theorem cellsEvL : Try.prog.cellsOf 24 = 1 := by kernel_rfl
set_option maxRecDepth 100000 in
theorem open_ints9 {H : Type} {enc : TypeId × Value → H} {W : World} {base : Nat} {spare : Nat → Bool} {held : Bool} {fuel : Nat} {x : DataW H × List MemPlace} {c0 : Value} (h : DataW.trod enc Try.prog W base spare held fuel 24 [c0] = some x) :
    ∃ (a : Option Addr) (xs : List Int) (cap : Nat), c0 = .slice a (List.length (α := Int) xs) cap ∧ CRow W a (ics xs) ∧ xs.length ≤ 9223372036854775807 := by
  rcases open_slice Try.underlying24 h with ⟨e, _⟩ | ⟨ad, len, cap, m, n, D, Pl, e, hb, hl, hm, hmm, _, hx⟩
  · simp only [List.cons.injEq, and_true] at e
    exact ⟨none, [], 0, e, fun h => by simp [ics] at h, by simp⟩
  · have hlm : len ≤ m := by rw [hmm]; split <;> omega
    have each : ∀ i, i < len → ∃ f : Int, (∀ r v, ([.int .i64 f] : List Value)[r]? = some v → W.cell? (ad.add (i * 1 + r)) = some v) ∧ True := by
      intro i hi
      obtain ⟨cs', h1, h2⟩ := hx i (by omega)
      rw [cellsInt] at h1
      obtain ⟨_, hlen, hcell⟩ := World.cells?_some h1
      obtain ⟨q, e2, _, z2⟩ := DataW.trod_int Try.underlying3 h2
      have c0 := hcell 0 (by omega)
      rw [add_add] at c0
      subst e2
      refine ⟨q, fun r v hv => ?_, trivial⟩
      match r, hv with
      | 0, hv => simp at hv; subst hv; simpa using c0
    obtain ⟨xs, hxl, hrow, _⟩ := rows_of (en := fun x => [.int .i64 x]) (fun _ => rfl) (by decide) each
    rw [← ics_flat] at hrow
    simp only [List.cons.injEq, and_true] at e
    exact ⟨some ad, xs, cap, by rw [e, hxl], hrow, by rw [hxl]; unfold maxLen at hm; omega⟩
set_option maxRecDepth 100000 in
theorem openEvent {H : Type} {enc : TypeId × Value → H} {W : World} {r : Reach} {b0 base : Nat} {spare : Nat → Bool} {held : Bool} {v : Value} {d : DataW H} {p : List MemPlace}
    (hv : Value.okWide Try.prog W r b0 26 v) (h : DataW.Trod enc Try.prog W base spare held 26 v d p) :
    ∃ (e : EvM) (la : Option Addr) (lc : Nat), v = evC e la lc ∧ CRow W la (ics e.left) ∧ AkFit e.ask ∧ e.left.length ≤ 9223372036854775807 := by
  obtain ⟨cs, rfl, hsz⟩ := okWide_struct Try.underlying26 hv
  rw [cellsEv] at hsz
  obtain ⟨fuel, h⟩ := h
  obtain ⟨xs, k, _, _, hl, hlen, hf⟩ := DataW.trod_struct Try.underlying26 h
  obtain ⟨v0, v1, v2, v3, v4, v5, v6, v7, v8, v9, v10, rfl⟩ : ∃ v0 v1 v2 v3 v4 v5 v6 v7 v8 v9 v10, cs = #[v0, v1, v2, v3, v4, v5, v6, v7, v8, v9, v10] := by
    match cs, hsz with
    | ⟨[v0, v1, v2, v3, v4, v5, v6, v7, v8, v9, v10]⟩, _ => exact ⟨v0, v1, v2, v3, v4, v5, v6, v7, v8, v9, v10, rfl⟩
  match xs, hlen with
  | [y0, y1, y2, y3, y4, y5], _ =>
    have g0 := hf 0 _ rfl
    have g1 := hf 1 _ rfl
    have g2 := hf 2 _ rfl
    have g3 := hf 3 _ rfl
    have g4 := hf 4 _ rfl
    have g5 := hf 5 _ rfl
    simp [cellsEvB, cellsEvI, cellsEvA, cellsEvL, Value.cells] at g0 g1 g2 g3 g4 g5
    obtain ⟨q0, e0, _⟩ := DataW.trod_int Try.underlying3 g0
    obtain ⟨q, e1, hq⟩ := openAsk_cells g1
    obtain ⟨q2, e2, _⟩ := DataW.trod_int Try.underlying3 g2
    obtain ⟨q3, e3, _⟩ := DataW.trod_int Try.underlying3 g3
    obtain ⟨q4, e4, _⟩ := DataW.trod_bool Try.underlying4 g4
    obtain ⟨la, xs, lc, e5, hr, hx⟩ := open_ints9 g5
    simp only [akC, List.cons.injEq, and_true] at e0 e1 e2 e3 e4
    obtain ⟨rfl, rfl, rfl, rfl, rfl, rfl⟩ := e1
    subst e0 e2 e3 e4 e5
    exact ⟨⟨q0, q, q2, q3, q4, xs⟩, la, lc, rfl, hr, hq, hx⟩
end Go.Proofs.Ytendbipfmgnjkaa
