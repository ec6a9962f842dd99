/- Rows of rows of numbers: the laws' own comparisons, marks that are laid into one, and found again. -/
import Derived.Test.YtpcedackanfnjaaNestB
namespace Go.Proofs.Ytpcedackanfnjaa
open Go.RowKit
attribute [local go_sem ↓] Go.wp_at_zero Go.wp_at_succ

set_option maxHeartbeats 1000000 in
theorem markIntS_marks (g : Nat) (xs : List Int) (k ca : Nat) (w : World) (ha : WCells w g (ics xs)) (hn : k + xs.length ≤ 1000000000) (hca : xs.length ≤ ca) :
    Calls Try.prog 32 #[.slice (some ⟨g, 0, none⟩) xs.length ca, .int .i64 k] w fun e w' => e = .returned (.int .i64 (k + xs.length : Nat)) ∧ WCells w' g (ics (marksI k xs.length)) ∧ w.grownBy w' (some g) := by
  obtain ⟨n, hnx⟩ : ∃ n, n = xs.length := ⟨_, rfl⟩
  have HN : Hid (n = xs.length) := hnx
  rw [← hnx]
  rw [← hnx] at hn hca
  clear hnx
  have HA : Shut (WCells w g (ics xs)) := ⟨ha⟩
  clear ha
  go_enter Try.func32, Try.ntmps32
  go_wp2_with fail
  go_loopw [1, 5] (fun c i wr => ∃ (j : Nat) (ys : List Int), i = .int .i64 j ∧ c = .int .i64 (k + j : Nat) ∧ j ≤ n ∧ Shut (ys.length = n ∧ ∀ t, t < j → ys.getD t 0 = ((k + t : Nat) : Int)) ∧ Shut (WCells wr g (ics ys)) ∧ w.grownBy wr (some g)) (fun _ i _ => n - (intOf i).toNat)
  case atStart => exact ⟨0, xs, rfl, rfl, Nat.zero_le _, ⟨HN.out.symm, fun t ht => by omega⟩, HA, ⟨rfl, rfl, rfl, Nat.le_refl _, fun _ _ _ => rfl⟩⟩
  case round =>
    obtain ⟨j, ys, rfl, rfl, hj, hyl, hw, hgr⟩ := hrel
    by_cases hlt : j < n
    · have j0 : (0 : Int) ≤ (j : Int) := by omega
      have j1 : (j : Int) < (n : Int) := by omega
      obtain ⟨c0, z0⟩ := hw.out.2 j _ (ics_get ys j (by rw [hyl.out.1]; exact hlt))
      have hset := hw.out.set j (.int .i64 ((k : Int) + (j : Int))) (by rw [ics_len, hyl.out.1]; omega)
      rw [ics_set] at hset
      have HS : Shut (WCells (wr.setCell ⟨g, j, none⟩ (.int .i64 ((k : Int) + (j : Int)))) g (ics (ys.set j ((k : Int) + (j : Int))))) := ⟨hset⟩
      have HG : Hid (w.grownBy (wr.setCell ⟨g, j, none⟩ (.int .i64 ((k : Int) + (j : Int)))) (some g)) := gb_two' hgr (gb_set' wr g j _)
      have HY : Shut ((ys.set j ((k : Int) + (j : Int))).length = n ∧ ∀ t, t < j + 1 → (ys.set j ((k : Int) + (j : Int))).getD t 0 = ((k + t : Nat) : Int)) := ⟨by rw [List.length_set]; exact hyl.out.1, fun t ht => by
        by_cases e : t = j
        · subst e; simp [List.getD, show t < ys.length by rw [hyl.out.1]; exact hlt]
        · have := hyl.out.2 t (by omega)
          simpa [List.getD, List.getElem?_set, Ne.symm e] using this⟩
      clear hset hyl hgr hw
      go_wp2_with fail
      go_roundw
      case rel => exact ⟨j + 1, _, by go_num, congrArg (Value.int .i64) (by omega), by omega, HY, HS, HG.out⟩
      case measure => simp [intOf]; omega
    · have e : j = n := by omega
      subst e
      have ey : ys = marksI k j := by
        apply List.ext_getElem
        · rw [hyl.out.1, marksI_len]
        · intro t h1 h2
          have h3 := hyl.out.2 t (by rw [hyl.out.1] at h1; exact h1)
          have h4 := marksI_at k j t (by rw [hyl.out.1] at h1; exact h1)
          rw [← h4] at h3
          simpa [List.getD, h1, h2] using h3
      have HW : Shut (WCells wr g (ics (marksI k j))) := ⟨by rw [← ey]; exact hw.out⟩
      clear ey hyl hw
      go_wp2_with fail
      go_ret
      exact ⟨rfl, HW.out, hgr⟩
set_option maxHeartbeats 1000000 in
theorem heldIntS_marks (a : Option Addr) (k n ca : Nat) (w : World) (ha : CRow w a (ics (marksI k n))) (hn : k + n ≤ 1000000000) :
    Calls Try.prog 33 #[.slice a n ca, .int .i64 k] w fun e w' => e = .returned (.int .i64 (k + n : Nat)) ∧ Below w.heap.size w w' := by
  have HA : Hid (CRow w a (ics (marksI k n))) := ha
  clear ha
  go_enter Try.func33, Try.ntmps33
  go_wp2_with fail
  go_loopw [1, 5] (fun c i wr => ∃ (j : Nat), i = .int .i64 j ∧ c = .int .i64 (k + j : Nat) ∧ j ≤ n ∧ Below w.heap.size w wr) (fun _ i _ => n - (intOf i).toNat)
  case atStart => exact ⟨0, rfl, rfl, Nat.zero_le _, Below.refl _ _⟩
  case round =>
    obtain ⟨j, rfl, rfl, hj, hbl⟩ := hrel
    by_cases hlt : j < n
    · obtain ⟨b1, o1, rfl, l1, hc1⟩ := crow_int (HA.out.stays hbl) (by rw [marksI_len]; omega)
      have d0 := hc1 j (by rw [marksI_len]; exact hlt)
      rw [marksI_at k n j hlt] at d0
      have j0 : (0 : Int) ≤ (j : Int) := by omega
      have j1 : (j : Int) < (n : Int) := by omega
      have hbn : ∀ q, Below w.heap.size w (wr.drewN q) := fun q => hbl.trans ⟨rfl, rfl, rfl, Nat.le_refl _, fun _ _ => rfl⟩
      have HB0 : Hid (Below w.heap.size w wr) := hbl
      clear hc1 hbl
      go_wp2_with fail
      all_goals (try go_quiet (fail))
      all_goals go_wp2_with fail
      all_goals exact ⟨⟨j + 1, by go_num, congrArg (Value.int .i64) (by omega), by omega, by first | exact hbn _ | exact HB0.out⟩, by simp [intOf]; omega⟩
    · have e : j = n := by omega
      subst e
      go_wp2_with fail
      go_ret
      exact ⟨rfl, hbl⟩
end Go.Proofs.Ytpcedackanfnjaa
