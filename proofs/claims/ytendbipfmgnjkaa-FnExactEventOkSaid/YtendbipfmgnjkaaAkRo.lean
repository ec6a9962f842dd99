/- Asks, and rows of them, that came in (written by gen/mkrow.py). -/
import Derived.Test.YtendbipfmgnjkaaAkR
import Derived.Test.YtendbipfmgnjkaaOpenM
namespace Go.Proofs.Ytendbipfmgnjkaa
set_option maxRecDepth 100000
open Go.RowKit Go.Deep Go.ChangeShapes Go.WideShapes
theorem cellsLAsk : Try.prog.cellsOf 23 = 6 := by kernel_rfl
theorem cellsTAsk : Try.prog.cellsOf 9 = 1 := by kernel_rfl
theorem cellsNAsk : Try.prog.cellsOf 3 = 1 := by kernel_rfl
set_option maxRecDepth 100000 in
theorem openAsk_cells {H : Type} {enc : TypeId × Value → H} {W : World} {base : Nat} {spare : Nat → Bool} {held : Bool} {n : Nat} {cs : List Value} {x : DataW H × List MemPlace} (h : DataW.trod enc Try.prog W base spare held n 23 cs = some x) :
    ∃ f : AkM, cs = akC f ∧ AkFit f := by
  obtain ⟨xs, k, _, rfl, hl, hlen, hf⟩ := DataW.trod_struct Try.underlying23 h
  rw [cellsLAsk] at hl
  match xs, hlen, cs, hl with
  | [y0, y1, y2, y3, y4, y5], _, [v0, v1, v2, v3, v4, v5], _ =>
    have g0 := hf 0 _ rfl
    have g1 := hf 1 _ rfl
    have g2 := hf 2 _ rfl
    have g3 := hf 3 _ rfl
    have g4 := hf 4 _ rfl
    have g5 := hf 5 _ rfl
    simp [cellsTAsk, cellsNAsk] at g0 g1 g2 g3 g4 g5
    obtain ⟨q0, e0, _, z0⟩ := DataW.trod_int Try.underlying3 g0
    obtain ⟨q1, e1, _, z1⟩ := DataW.trod_int Try.underlying3 g1
    obtain ⟨s2, e2, _, z2⟩ := DataW.trod_string Try.underlying9 g2
    obtain ⟨s3, e3, _, z3⟩ := DataW.trod_string Try.underlying9 g3
    obtain ⟨s4, e4, _, z4⟩ := DataW.trod_string Try.underlying9 g4
    obtain ⟨q5, e5, _, z5⟩ := DataW.trod_int Try.underlying3 g5
    simp only [List.cons.injEq, and_true] at e0 e1 e2 e3 e4 e5
    subst e0 e1 e2 e3 e4 e5
    unfold maxLen at z2 z3 z4
    exact ⟨⟨q0, q1, s2, s3, s4, q5⟩, rfl, by simpa using z2, by simpa using z3, by simpa using z4, bounds_i64 z0, bounds_i64 z1, bounds_i64 z5⟩
set_option maxRecDepth 100000 in
theorem openAsk {H : Type} {enc : TypeId × Value → H} {W : World} {r : Reach} {b0 base : Nat} {spare : Nat → Bool} {held : Bool} {v : Value} {d : DataW H} {p : List MemPlace}
    (hv : Value.okWide Try.prog W r b0 23 v) (h : DataW.Trod enc Try.prog W base spare held 23 v d p) : ∃ f : AkM, v = akv f ∧ AkFit f := by
  obtain ⟨cs, rfl, hsz⟩ := okWide_struct Try.underlying23 hv
  obtain ⟨fuel, h⟩ := h
  obtain ⟨f, e, hf⟩ := openAsk_cells h
  refine ⟨f, ?_, hf⟩
  have : cs.toList = akC f := by simpa [Value.cells] using e
  rw [show cs = (akC f).toArray by rw [← this]]
  rfl
end Go.Proofs.Ytendbipfmgnjkaa
