/- Stripes: the walks of the models' GroupSize, PlaceOf, OffsetOf and Spans. -/
import Derived.Test.YtendbipfmgnjkaaSchZ
import Derived.Test.YtendbipfmgnjkaaVarL
import Derived.Test.YtendbipfmgnjkaaIntsA
import Derived.BigQuiet
namespace Go.Proofs.Ytendbipfmgnjkaa
set_option maxRecDepth 100000
open Go.RowKit
attribute [local go_sem ↓] Go.wp_at_zero Go.wp_at_succ

theorem isIn (x a b : Int) (w : World) (r : Bool) (h : (decide (a ≤ x) && decide (x ≤ b)) = r) : Calls Try.prog 24 #[.int .i64 x, .int .i64 a, .int .i64 b] w fun e w' => e = .returned (.bool r) ∧ w' = w := by
  rw [← h]; exact l01In_any x a b w
/-- How many bytes a group has. -/
def groupN (s : Int) : Nat := schK s * 8
theorem groupN_bounds (s : Int) : groupN s ≤ 32 := by
  unfold groupN
  cases h : schOk s with
  | true => have := (sch_bounds h).2.1; omega
  | false => rw [(sch_zero h).1]; omega
/-- Where a byte is, plain: group, unit, place. -/
def unitAt (k o : Nat) : Nat := o % (k * 8) / 4 % k
def placeIn (k o : Nat) : Nat := o % (k * 8) / 4 / k * 4 + o % (k * 8) % 4
def placeX (s off : Int) : Nat × Nat × Nat := if schOk s = true ∧ 0 ≤ off ∧ off ≤ 100000 then (off.toNat / (schK s * 8), unitAt (schK s) off.toNat, placeIn (schK s) off.toNat) else (0, 0, 0)
def PlacePost (s off : Int) (w : World) (e : Ending) (w' : World) : Prop := e = .returned (.tuple #[.int .i64 ((placeX s off).1 : Nat), .int .i64 ((placeX s off).2.1 : Nat), .int .i64 ((placeX s off).2.2 : Nat)]) ∧ Below w.heap.size w w'
/-- The byte that has this place. -/
def offX (s g u a : Int) : Int := if schOk s = true ∧ (0 ≤ g ∧ g ≤ 100000) ∧ (0 ≤ u ∧ u ≤ (schK s : Int) - 1) ∧ (0 ≤ a ∧ a ≤ 7) then (if 100000 < g * (schK s * 8 : Nat) + (a / 4 * (schK s : Int) + u) * 4 + a % 4 then -1 else g * (schK s * 8 : Nat) + (a / 4 * (schK s : Int) + u) * 4 + a % 4) else -1
theorem offX_no {s g u a : Int} (h : ¬ (schOk s = true ∧ (0 ≤ g ∧ g ≤ 100000) ∧ (0 ≤ u ∧ u ≤ (schK s : Int) - 1) ∧ (0 ≤ a ∧ a ≤ 7))) : offX s g u a = -1 := if_neg h
theorem in_bool {a x b : Int} {r : Bool} (h : (decide (a ≤ x) && decide (x ≤ b)) = r) : r = true ↔ a ≤ x ∧ x ≤ b := by rw [← h]; simp
end Go.Proofs.Ytendbipfmgnjkaa
