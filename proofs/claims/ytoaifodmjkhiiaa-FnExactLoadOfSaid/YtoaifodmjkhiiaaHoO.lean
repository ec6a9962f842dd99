/- Hosts that came in. -/
import Derived.Test.YtoaifodmjkhiiaaHoA
import Derived.Test.YtoaifodmjkhiiaaUnRo
namespace Go.Proofs.Ytoaifodmjkhiiaa
set_option maxRecDepth 100000
open Go.RowKit Go.Deep Go.ChangeShapes Go.WideShapes
theorem cellsLHost : Try.prog.cellsOf 24 = 3 := by kernel_rfl
theorem cellsBHost : Try.prog.cellsOf 4 = 1 := by kernel_rfl
theorem cellsSHost : Try.prog.cellsOf 22 = 1 := by kernel_rfl
/-- What a host's cells hold. -/
theorem openHost_cells {H : Type} {enc : TypeId × Value → H} {W : World} {base : Nat} {spare : Nat → Bool} {held : Bool} {n : Nat} {cs : List Value} {x : DataW H × List MemPlace} (h : DataW.trod enc Try.prog W base spare held n 24 cs = some x) :
    ∃ (f : HM) (a : Option Addr) (cap : Nat), cs = [.int .i64 f.id, .bool f.up, .slice a f.us.length cap] ∧ UnRow W a f.us ∧ UnFits f.us ∧ (-9223372036854775808 ≤ f.id ∧ f.id ≤ 9223372036854775807) := by
  obtain ⟨xs, k, _, rfl, hl, hlen, hf⟩ := DataW.trod_struct Try.underlying24 h
  rw [cellsLHost] at hl
  match xs, hlen, cs, hl with
  | [y0, y1, y2], _, [v0, v1, v2], _ =>
    have g0 := hf 0 _ rfl
    have g1 := hf 1 _ rfl
    have g2 := hf 2 _ rfl
    simp [cellsNUnit, cellsBHost, cellsSHost] at g0 g1 g2
    obtain ⟨q0, e0, _, z0⟩ := DataW.trod_int Try.underlying3 g0
    obtain ⟨q1, e1, _⟩ := DataW.trod_bool Try.underlying4 g1
    simp only [List.cons.injEq, and_true] at e0 e1
    subst e0 e1
    obtain ⟨va, vl, vc, rfl⟩ : ∃ va vl vc, v2 = .slice va vl vc := by
      rcases open_slice Try.underlying22 g2 with ⟨e, _⟩ | ⟨ad, len, cap, m, n, D, Pl, e, _⟩
      · simp only [List.cons.injEq, and_true] at e
        exact ⟨_, _, _, e⟩
      · simp only [List.cons.injEq, and_true] at e
        exact ⟨_, _, _, e⟩
    obtain ⟨us, rfl, hr, hu⟩ := openUnitS_cells g2
    exact ⟨⟨q0, q1, us⟩, va, vc, rfl, hr, hu, bounds_i64 z0⟩
theorem openHost {H : Type} {enc : TypeId × Value → H} {W : World} {r : Reach} {b0 base : Nat} {spare : Nat → Bool} {held : Bool} {v : Value} {d : DataW H} {p : List MemPlace}
    (hv : Value.okWide Try.prog W r b0 24 v) (h : DataW.Trod enc Try.prog W base spare held 24 v d p) : ∃ (f : HM) (a : Option Addr) (cap : Nat), v = hov f a cap ∧ UnRow W a f.us ∧ UnFits f.us ∧ (-9223372036854775808 ≤ f.id ∧ f.id ≤ 9223372036854775807) := by
  obtain ⟨cs, rfl, hsz⟩ := okWide_struct Try.underlying24 hv
  obtain ⟨fuel, h⟩ := h
  obtain ⟨f, a, cap, e, hr, hu, hi⟩ := openHost_cells h
  refine ⟨f, a, cap, ?_, hr, hu, hi⟩
  have : cs.toList = [.int .i64 f.id, .bool f.up, .slice a f.us.length cap] := by simpa [Value.cells] using e
  rw [show cs = #[.int .i64 f.id, .bool f.up, .slice a f.us.length cap] by rw [← this]]
end Go.Proofs.Ytoaifodmjkhiiaa
