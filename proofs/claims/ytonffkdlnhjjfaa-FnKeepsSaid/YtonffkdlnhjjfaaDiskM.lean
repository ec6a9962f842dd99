/- The laws on FileAt and AllKept: their walks, from what the program's own functions answer. -/
import Derived.Test.YtonffkdlnhjjfaaDiskL
namespace Go.Proofs.Ytonffkdlnhjjfaa
open Go.RowKit
attribute [local go_sem ↓] Go.wp_at_zero Go.wp_at_succ

theorem fileV_form (fs : List FM) (n : ByteArray) : ∃ (t : ByteArray) (b : Bool), fileV fs n = .tuple #[.string t, .bool b] := by
  unfold fileV
  split
  · exact ⟨_, _, rfl⟩
  · exact ⟨_, _, rfl⟩
/-- What is asked of the program's FileAt. -/
def ImplFileAt : Prop := ∀ (a : Option Addr) (fs : List FM) (cap : Nat) (n : ByteArray) (w : World), FRow w a fs → FFit fs → fs.length ≤ 1048576 → fsum fs ≤ 1048576 → n.size ≤ 1048576 → Calls Try.prog 18 #[.agg #[.slice a fs.length cap], .string n] w fun e w' => e = .returned (fileV fs n) ∧ Below w.heap.size w w'
/-- All is kept. -/
def AKept (fs : List FM) : Prop := DOk fs ∧ ∀ k, k < fs.length → ((fs.getD k default).text.size : Int) ≤ (fs.getD k default).kept
open Classical in
noncomputable def akB (fs : List FM) : Bool := decide (AKept fs)
theorem akB_yes {fs : List FM} (h : AKept fs) : akB fs = true := by unfold akB; simp [h]
theorem akB_no {fs : List FM} (h : ¬ AKept fs) : akB fs = false := by unfold akB; simp [h]
/-- What is asked of the program's AllKept. -/
def ImplAllKept : Prop := ∀ (a : Option Addr) (fs : List FM) (cap : Nat) (w : World), FRow w a fs → FFit fs → fs.length ≤ 1048576 → Calls Try.prog 11 #[.agg #[.slice a fs.length cap]] w fun e w' => e = .returned (.bool (akB fs)) ∧ Below w.heap.size w w'
end Go.Proofs.Ytonffkdlnhjjfaa
