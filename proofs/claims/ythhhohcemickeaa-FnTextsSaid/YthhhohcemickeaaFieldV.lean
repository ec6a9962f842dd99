/- The walks of the five exact laws of the field of bytes, over what is told of the program's own functions at every argument. -/
import Derived.Test.YthhhohcemickeaaFieldL
import Derived.Test.YthhhohcemickeaaFieldT
namespace Go.Proofs.Ythhhohcemickeaa
open Go.RowKit
open W (B8)
attribute [local irreducible] W.gm W.xt W.gp W.gi addB mulT

/-- What is told of the program's MulG, PowG and InvG at every argument. -/
structure FieldAll : Prop where
  mul : ∀ (x y : Int) (w : World), Calls Try.prog 12 #[.int .i64 x, .int .i64 y] w fun e w' => e = .returned (.int .i64 ((W.gm (g8 x) (g8 y)).toNat : Int)) ∧ Below w.heap.size w w'
  pow : ∀ (x : Int) (n : Nat) (w : World), n ≤ 1000 → Calls Try.prog 14 #[.int .i64 x, .int .i64 (n : Int)] w fun e w' => e = .returned (.int .i64 ((W.gp (g8 x) n).toNat : Int)) ∧ Below w.heap.size w w'
  none : ∀ (x n : Int) (w : World), n < 0 ∨ 1000 < n → Calls Try.prog 14 #[.int .i64 x, .int .i64 n] w fun e w' => e = .returned (.int .i64 0) ∧ Below w.heap.size w w'
  inv : ∀ (x : Int) (w : World), Calls Try.prog 15 #[.int .i64 x] w fun e w' => e = .returned (.int .i64 ((W.gi (g8 x)).toNat : Int)) ∧ Below w.heap.size w w'
theorem FieldAll.ok (h : FieldAll) : FieldOk where
  mul A B w := by have := h.mul (A.toNat : Int) (B.toNat : Int) w; rwa [g8_back, g8_back] at this
  pow A n w hn := by have := h.pow (A.toNat : Int) n w hn; rwa [g8_back] at this
  less A w := h.none _ _ w (.inl (by omega))
  inv A w := by have := h.inv (A.toNat : Int) w; rwa [g8_back] at this
theorem exactMulG (h : FieldAll) (x y : Int) (w : World) : Calls Try.prog 5 #[.int .i64 x, .int .i64 y] w fun e w' => e = .returned (.bool true) ∧ Below w.heap.size w w' := by
  have c1 := specMulG x y
  have c2 := h.mul x y
  generalize W.gm (g8 x) (g8 y) = R at c1 c2
  clear h
  go_enter Try.func5, Try.ntmps5
  go_wp2_with fail
  refine (c1 _).mono ?_
  rintro e w1 ⟨rfl, rfl⟩
  go_wp2_with fail
  refine (c2 _).mono ?_
  rintro e w2 ⟨rfl, hb2⟩
  clear c1 c2
  go_wp2_with fail
  go_ret
  exact ⟨rfl, hb2⟩
theorem exactPowG (h : FieldAll) (x n : Int) (w : World) : Calls Try.prog 6 #[.int .i64 x, .int .i64 n] w fun e w' => e = .returned (.bool true) ∧ Below w.heap.size w w' := by
  obtain ⟨R, c1, c2⟩ : ∃ R : Int, (∀ w : World, Calls Try.prog 22 #[.int .i64 x, .int .i64 n] w fun e w' => e = .returned (.int .i64 R) ∧ w' = w) ∧ (∀ w : World, Calls Try.prog 14 #[.int .i64 x, .int .i64 n] w fun e w' => e = .returned (.int .i64 R) ∧ Below w.heap.size w w') := by
    by_cases hn : n < 0 ∨ 1000 < n
    · exact ⟨0, fun w => specPowG_no x n w hn, fun w => h.none x n w hn⟩
    · obtain ⟨k, rfl⟩ := Int.eq_ofNat_of_zero_le (show 0 ≤ n by omega)
      exact ⟨_, fun w => specPowG_yes x k w (by omega), fun w => h.pow x k w (by omega)⟩
  clear h
  go_enter Try.func6, Try.ntmps6
  go_wp2_with fail
  refine (c1 _).mono ?_
  rintro e w1 ⟨rfl, rfl⟩
  go_wp2_with fail
  refine (c2 _).mono ?_
  rintro e w2 ⟨rfl, hb2⟩
  clear c1 c2
  go_wp2_with fail
  go_ret
  exact ⟨rfl, hb2⟩
theorem exactInvG (h : FieldAll) (x : Int) (w : World) : Calls Try.prog 7 #[.int .i64 x] w fun e w' => e = .returned (.bool true) ∧ Below w.heap.size w w' := by
  have c1 := specInvG x
  have c2 := h.inv x
  generalize W.gi (g8 x) = R at c1 c2
  clear h
  go_enter Try.func7, Try.ntmps7
  go_wp2_with fail
  refine (c1 _).mono ?_
  rintro e w1 ⟨rfl, rfl⟩
  go_wp2_with fail
  refine (c2 _).mono ?_
  rintro e w2 ⟨rfl, hb2⟩
  clear c1 c2
  go_wp2_with fail
  go_ret
  exact ⟨rfl, hb2⟩
end Go.Proofs.Ythhhohcemickeaa
