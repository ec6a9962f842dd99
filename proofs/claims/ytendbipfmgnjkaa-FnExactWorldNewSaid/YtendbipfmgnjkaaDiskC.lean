/- The model's walk over a disk: it tells whether the disk is right. -/
import Derived.Test.YtendbipfmgnjkaaDiskB
import Derived.Deep.QuietTactic
import Derived.BigQuiet
namespace Go.Proofs.Ytendbipfmgnjkaa
set_option maxRecDepth 100000
open Go.RowKit
attribute [local go_sem ↓] Go.wp_at_zero Go.wp_at_succ

/-- A file is right by itself. -/
def FOk (f : FM) : Prop := (1 ≤ f.name.size ∧ f.name.size ≤ 8) ∧ f.text.size ≤ 20000 ∧ 0 ≤ f.kept ∧ f.kept ≤ f.text.size
/-- .. and at its place. -/
def FAt (fs : List FM) (k : Nat) : Prop := FOk (fs.getD k default) ∧ (0 < k → Op.bytesLess (fs.getD (k - 1) default).name.toList (fs.getD k default).name.toList = true)
def DOk (fs : List FM) : Prop := fs.length ≤ 30 ∧ ∀ k, k < fs.length → FAt fs k
open Classical in
noncomputable def dOkB (fs : List FM) : Bool := decide (DOk fs)
theorem dOkB_yes {fs : List FM} (h : DOk fs) : dOkB fs = true := by unfold dOkB; simp [h]
theorem dOkB_no {fs : List FM} (h : ¬ DOk fs) : dOkB fs = false := by unfold dOkB; simp [h]
theorem getD_atF (fs : List FM) (k : Nat) (h : k < fs.length) : fs.getD k default = fs[k] := by simp [List.getD, h]

theorem l01In_is (x l m : Int) (w : World) (b : Bool) (h : decide (l ≤ x ∧ x ≤ m) = b) : Calls Try.prog 24 #[.int .i64 x, .int .i64 l, .int .i64 m] w fun e w' => e = .returned (.bool b) ∧ w' = w := by
  have := l01In_anyD x l m w
  rwa [h] at this
end Go.Proofs.Ytendbipfmgnjkaa
