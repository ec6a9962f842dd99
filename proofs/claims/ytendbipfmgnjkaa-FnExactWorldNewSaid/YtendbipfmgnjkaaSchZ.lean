/- The schemas, plain, and the walk of the model's SchemaOf. -/
import Derived.Test.YtendbipfmgnjkaaIntsA
namespace Go.Proofs.Ytendbipfmgnjkaa
set_option maxRecDepth 100000
open Go.RowKit
attribute [local go_sem ↓] Go.wp_at_zero Go.wp_at_succ

def schK (s : Int) : Nat := if s = 1 then 2 else if s = 2 then 3 else if s = 3 then 4 else 0
def schM (s : Int) : Nat := if s = 1 then 1 else if s = 2 then 2 else if s = 3 then 2 else 0
def schOk (s : Int) : Bool := decide (s = 1) || decide (s = 2) || decide (s = 3)
theorem sch_cases {s : Int} (h : schOk s = true) : s = 1 ∨ s = 2 ∨ s = 3 := by
  unfold schOk at h
  simp only [Bool.or_eq_true, decide_eq_true_eq] at h
  omega
theorem sch_no {s : Int} (h : schOk s = false) : s ≠ 1 ∧ s ≠ 2 ∧ s ≠ 3 := by
  unfold schOk at h
  simp only [Bool.or_eq_false_iff, decide_eq_false_iff_not] at h
  omega
theorem sch_bounds {s : Int} (h : schOk s = true) : 2 ≤ schK s ∧ schK s ≤ 4 ∧ 1 ≤ schM s ∧ schM s ≤ 2 := by
  rcases sch_cases h with rfl | rfl | rfl <;> decide
theorem sch_zero {s : Int} (h : schOk s = false) : schK s = 0 ∧ schM s = 0 := by
  obtain ⟨h1, h2, h3⟩ := sch_no h
  unfold schK schM
  rw [if_neg h1, if_neg h2, if_neg h3, if_neg h1, if_neg h2, if_neg h3]
  exact ⟨rfl, rfl⟩
def SchPost (s : Int) (w : World) (e : Ending) (w' : World) : Prop := e = .returned (.tuple #[.int .i64 (schK s : Nat), .int .i64 (schM s : Nat), .bool (schOk s)]) ∧ w' = w
/-- The same, of the program's own. -/
def SchB (s : Int) (w : World) (e : Ending) (w' : World) : Prop := e = .returned (.tuple #[.int .i64 (schK s : Nat), .int .i64 (schM s : Nat), .bool (schOk s)]) ∧ Below w.heap.size w w'
end Go.Proofs.Ytendbipfmgnjkaa
