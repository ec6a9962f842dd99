/- Rows of files: two that are the same are told so. -/
import Derived.Test.YtonffkdlnhjjfaaDiskA
namespace Go.Proofs.Ytonffkdlnhjjfaa
open Go.RowKit
attribute [local go_sem ↓] Go.wp_at_zero Go.wp_at_succ

theorem l01In_any (x l m : Int) (w : World) :
    Calls Try.prog 40 #[.int .i64 x, .int .i64 l, .int .i64 m] w fun e w' => e = .returned (.bool (decide (l ≤ x ∧ x ≤ m))) ∧ w' = w := by
  by_cases c1 : l ≤ x
  · by_cases c2 : x ≤ m
    · go_enter Try.func40, Try.ntmps40
      go_wp2_with fail
      go_ret
      exact ⟨by rw [decide_eq_true ⟨c1, c2⟩]; rfl, rfl⟩
    · go_enter Try.func40, Try.ntmps40
      go_wp2_with fail
      go_ret
      exact ⟨by rw [decide_eq_false (by omega)]; rfl, rfl⟩
  · have c1' : decide (l ≤ x) = false := by simp; omega
    have e : decide (l ≤ x ∧ x ≤ m) = false := decide_eq_false (fun h => c1 h.1)
    rw [e]
    clear e
    go_enter Try.func40, Try.ntmps40
    go_wp2_with fail
    go_ret
    exact ⟨rfl, rfl⟩
theorem l03Name_any (s : ByteArray) (w : World) :
    Calls Try.prog 54 #[.string s] w fun e w' => e = .returned (.bool (decide (1 ≤ s.size ∧ s.size ≤ 8))) ∧ w' = w := by
  have e : decide ((1 : Int) ≤ (s.size : Int) ∧ (s.size : Int) ≤ 8) = decide (1 ≤ s.size ∧ s.size ≤ 8) := decide_eq_decide.2 (by omega)
  rw [← e]
  generalize hd : decide ((1 : Int) ≤ (s.size : Int) ∧ (s.size : Int) ≤ 8) = d
  have HD : Hid (decide ((1 : Int) ≤ (s.size : Int) ∧ (s.size : Int) ≤ 8) = d) := hd
  clear e hd
  go_enter Try.func54, Try.ntmps54
  go_wp2_with fail
  refine (l01In_any _ _ _ _).mono ?_
  rw [HD.out]
  rintro e w2 ⟨rfl, rfl⟩
  go_wp2_with fail
  go_ret
  exact ⟨rfl, rfl⟩
end Go.Proofs.Ytonffkdlnhjjfaa
