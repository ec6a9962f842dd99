/- The walks of the two ReadVar: each returns what 'readVarI' says. -/
import Derived.Test.YthhpdkeajogkoaaDoorVarL
import Derived.Test.YthhpdkeajogkoaaDoorReadVarM
import Derived.Deep.LoopGhost
import Derived.Deep.RegionWith
import Derived.Deep.QuietTactic
import Derived.BigQuiet
import Derived.Deep.RegionHeld3
import Derived.Deep.DrawnRows
namespace Go.Proofs.YthhpdkeajogkoaaDoor
open Go.RowKit
open Go.PlainAid (bt)
attribute [local go_sem ↓] Go.wp_at_zero Go.wp_at_succ

/-- What ReadVar hands back. -/
def rvV : Option (Nat × Nat) → Value
  | none => .tuple #[.int .i64 0, .int .i64 0, .bool false]
  | some (n, p) => .tuple #[.int .i64 n, .int .i64 p, .bool true]
theorem rvV_some {x y : Int} {p : Nat} (hx : 0 ≤ x) (hy : y = (p : Int)) : Value.tuple #[.int .i64 x, .int .i64 y, .bool true] = rvV (some (x.toNat, p)) := by
  have : ((x.toNat : Nat) : Int) = x := by omega
  simp only [rvV]; rw [this, hy]
theorem rvV_form : ∀ x, ∃ (p q : Int) (b : Bool), rvV x = .tuple #[.int .i64 p, .int .i64 q, .bool b]
  | none => ⟨0, 0, false, rfl⟩
  | some (n, p) => ⟨n, p, true, rfl⟩
def readVarI (s : ByteArray) (a : Int) : Option (Nat × Nat) := if 0 ≤ a ∧ a ≤ s.size then W.readVar s a.toNat else none

theorem implReadVar_no (s : ByteArray) (a : Int) (w : World) (h : a < 0 ∨ (s.size : Int) < a) :
    Calls Tryd.prog 37 #[.string s, .int .i64 a] w fun e w' => e = .returned (.tuple #[.int .i64 0, .int .i64 0, .bool false]) ∧ w' = w := by
  rcases h with h | h
  · go_enter Tryd.func37, Tryd.ntmps37
    go_wp2_with fail
    go_step3
    go_wp2_with fail
    try rw [Exit.noGoto_ret]
    go_ret3
    exact ⟨rfl, rfl⟩
  · have h0 : ¬ a < 0 := by omega
    go_enter Tryd.func37, Tryd.ntmps37
    go_wp2_with fail
    go_step3
    go_wp2_with fail
    try rw [Exit.noGoto_ret]
    go_ret3
    exact ⟨rfl, rfl⟩

set_option maxHeartbeats 400000 in
theorem implReadVar_yes (s : ByteArray) (a : Nat) (w : World) (hs : s.size ≤ 1048576) (ha : a ≤ s.size) :
    Calls Tryd.prog 37 #[.string s, .int .i64 a] w fun e w' => e = .returned (rvV (W.readVar s a)) ∧ w' = w := by
  have hb := Go.PlainAid.get_bt s
  have h1 : decide ((a : Int) < 0) = false := by simp
  have h2 : decide ((s.size : Int) < a) = false := by simp; omega
  go_enter Tryd.func37, Tryd.ntmps37
  go_wp2_with fail
  go_step3
  go_wp2_with fail
  go_step3
  go_wp2_with fail
  go_loop [7, 8, 9] (fun n c i => ∃ (j : Nat) (nn sc : Int), n = .int .i64 nn ∧ c = .int .i64 sc ∧ i = .int .i64 j ∧ W.RvRel s a j nn sc) (fun _ _ i => s.size - (intOf i).toNat)
  case atStart => exact ⟨a, 0, 1, rfl, rfl, rfl, W.RvRel.start s a ha⟩
  case round =>
    obtain ⟨j, nn, sc, rfl, rfl, rfl, hr⟩ := hrel
    obtain ⟨n0, n1, s0, s1, j0, j1, j2⟩ := hr.bounds
    by_cases hj : j < s.size
    · have b0 := Go.PlainAid.bt_nonneg s j
      have b1 := Go.PlainAid.bt_le s j
      by_cases hsc : 1000000000 < sc
      · have HR : Hid (W.readVar s a = none) := hr.five.2 hsc
        go_wp2
        go_ret3
        exact ⟨by rw [HR.out]; rfl, rfl⟩
      · by_cases hbb : 127 < bt s j
        · have hn := (hr.head hj (by omega) hbb).1
          have p0 : 0 ≤ (bt s j - 128) * sc := Int.mul_nonneg (by omega) (by omega)
          have p1 : (bt s j - 128) * sc ≤ 127 * 1000000000 := Int.mul_le_mul (by omega) (by omega) (by omega) (by omega)
          go_wp2
          go_round
          case rel => exact ⟨j + 1, _, _, rfl, rfl, by go_num, hn⟩
          case measure => simp [intOf]; omega
        · obtain ⟨q1, q2, q3⟩ := hr.last hj (by omega) (by omega)
          have p0 : 0 ≤ bt s j * sc := Int.mul_nonneg (by omega) (by omega)
          have p1 : bt s j * sc ≤ 127 * 1000000000 := Int.mul_le_mul (by omega) (by omega) (by omega) (by omega)
          by_cases hz : bt s j = 0
          · by_cases haj : a < j
            · have HR : Hid (W.readVar s a = none) := q1 hz haj
              clear q1 q2 q3
              go_wp2
              go_ret3
              exact ⟨by rw [HR.out]; rfl, rfl⟩
            · have HR : Hid (W.readVar s a = some (nn.toNat, j + 1)) := by
                have := q3 (.inr (by omega)) (by rw [hz]; omega)
                rw [hz] at this
                show W.readVar s a = some (nn.toNat, j + 1)
                simpa using this
              have hm : nn ≤ 1000000000 := by omega
              clear q1 q2 q3
              go_wp2
              go_ret3
              refine ⟨?_, rfl⟩
              rw [HR.out]
              exact congrArg Ending.returned (rvV_some n0 (by omega))
          · by_cases hm : 1000000000 < nn + bt s j * sc
            · have HR : Hid (W.readVar s a = none) := q2 hm
              clear q1 q2 q3
              go_wp2
              go_ret3
              exact ⟨by rw [HR.out]; rfl, rfl⟩
            · have HR : Hid (W.readVar s a = some ((nn + bt s j * sc).toNat, j + 1)) := q3 (.inl hz) (by omega)
              clear q1 q2 q3
              go_wp2
              go_ret3
              refine ⟨?_, rfl⟩
              rw [HR.out]
              exact congrArg Ending.returned (rvV_some (by omega) (by omega))
    · have HR : Hid (W.readVar s a = none) := hr.over (by omega)
      go_wp2
      go_ret3
      exact ⟨by rw [HR.out]; rfl, rfl⟩

theorem specReadVar_no (s : ByteArray) (a : Int) (w : World) (h : a < 0 ∨ (s.size : Int) < a) :
    Calls Tryd.prog 31 #[.string s, .int .i64 a] w fun e w' => e = .returned (.tuple #[.int .i64 0, .int .i64 0, .bool false]) ∧ Below w.heap.size w w' := by
  have h : (decide ((0 : Int) ≤ a) && decide (a ≤ s.size)) = false := by
    rcases h with h | h
    · simp; omega
    · simp; omega
  go_enter Tryd.func31, Tryd.ntmps31
  go_wp2_with fail
  refine (l01In_any _ _ _ _).mono ?_
  rw [h]
  rintro e w' ⟨rfl, rfl⟩
  go_wp2_with fail
  go_ret3
  exact ⟨rfl, Below.refl _ _⟩

set_option maxHeartbeats 1000000 in
theorem specReadVar_yes (s : ByteArray) (a : Nat) (w : World) (hs : s.size ≤ 1048576) (ha : a ≤ s.size) :
    Calls Tryd.prog 31 #[.string s, .int .i64 a] w fun e w' => e = .returned (rvV (W.readVar s a)) ∧ Below w.heap.size w w' := by
  have hb := Go.PlainAid.get_bt s
  have h1 : decide ((0 : Int) ≤ a) = true := by simp
  have h2 : decide ((a : Int) ≤ s.size) = true := by simp; omega
  go_enter Tryd.func31, Tryd.ntmps31
  go_wp2_with fail
  refine (l01In_any _ _ _ _).mono ?_
  rintro e w' ⟨rfl, rfl⟩
  go_wp2_with fail
  go_loop [7, 8, 9] (fun n c i => ∃ (j : Nat) (nn sc : Int), n = .int .i64 nn ∧ c = .int .i64 sc ∧ i = .int .i64 j ∧ W.RvRel s a j nn sc) (fun _ _ i => s.size - (intOf i).toNat)
  case atStart => exact ⟨a, 0, 1, rfl, rfl, rfl, W.RvRel.start s a ha⟩
  case round =>
    obtain ⟨j, nn, sc, rfl, rfl, rfl, hr⟩ := hrel
    obtain ⟨n0, n1, s0, s1, j0, j1, j2⟩ := hr.bounds
    by_cases hj : j < s.size
    · have b0 := Go.PlainAid.bt_nonneg s j
      have b1 := Go.PlainAid.bt_le s j
      by_cases hsc : j < a + 5
      · have hsc1 : sc ≤ 1000000000 := by have := hr.five.1; omega
        have p0 : 0 ≤ bt s j % 128 * sc := Int.mul_nonneg (by omega) (by omega)
        have p1 : bt s j % 128 * sc ≤ 127 * 1000000000 := Int.mul_le_mul (by omega) (by omega) (by omega) (by omega)
        by_cases hbb : bt s j < 128
        · obtain ⟨q1, q2⟩ := hr.same hj hsc1 (by omega)
          by_cases hm : 1000000000 < nn + bt s j % 128 * sc
          · have HR : Hid (W.readVar s a = none) := q1 hm
            clear q1 q2
            have hmd : decide (1000000000 < nn + bt s j % 128 * sc) = true := by simpa using hm
            go_wp2_with fail
            go_quiet (fail)
            go_wp2_with fail
            go_ret3
            exact ⟨by rw [HR.out]; rfl, below_drewN (Below.refl _ _) _⟩
          · have HR : Hid _ := q2 (by omega)
            clear q1 q2
            have hmd : decide (1000000000 < nn + bt s j % 128 * sc) = false := by simpa using hm
            have hp0 : (0 : Int) ≤ nn + bt s j % 128 * sc := by omega
            have hp1 : nn + bt s j % 128 * sc ≤ 1099511627776 := by omega
            have hj1 : (0 : Int) ≤ (a : Int) := by omega
            have hj2 : (a : Int) ≤ (j : Int) + 1 := by omega
            have hj3 : (j : Int) + 1 ≤ (s.size : Int) := by omega
            have hwr : IntKind.i64.wrap ((j : Int) + 1) = (j : Int) + 1 := IntWalk.i64_in _ ⟨by omega, by omega⟩
            have hsl := slice_str s a (j + 1) (by omega) (by omega)
            rw [show ((j + 1 : Nat) : Int) = (j : Int) + 1 from by omega] at hsl
            go_wp2_with fail
            go_region_held3 (fun _ => True) (exact trivial) ((go_at_call 28; refine (l01Var_int _ _ hp0 hp1).mono ?_; rintro e w1 ⟨rfl, hb1⟩))
            all_goals go_wp2_with fail
            · have hne : (!W.vt (nn + bt s j % 128 * sc).toNat == (s.extract a (j + 1)).toList) = true := by assumption
              go_ret3
              refine ⟨?_, Below.trans (Below.drew (Below.refl _ _)) hb1⟩
              rw [HR.out, if_neg (by rw [← Go.ByteArray.toList_eq]; simpa using hne)]
              rfl
            · have heq : (!W.vt (nn + bt s j % 128 * sc).toNat == (s.extract a (j + 1)).toList) = false := by assumption
              go_ret3
              refine ⟨?_, Below.trans (Below.drew (Below.refl _ _)) hb1⟩
              rw [HR.out, if_pos (by rw [← Go.ByteArray.toList_eq]; simpa using heq)]
              exact congrArg Ending.returned (rvV_some (by omega) (by omega))
        · have hn := (hr.head hj hsc1 (by omega)).2
          go_wp2
          go_round
          case rel => exact ⟨j + 1, _, _, rfl, rfl, by go_num, hn⟩
          case measure => simp [intOf]; omega
      · have HR : Hid (W.readVar s a = none) := hr.five.2 (by have := hr.five.1; omega)
        go_wp2
        go_ret3
        exact ⟨by rw [HR.out]; rfl, Below.refl _ _⟩
    · have HR : Hid (W.readVar s a = none) := hr.over (by omega)
      go_wp2
      go_ret3
      exact ⟨by rw [HR.out]; rfl, Below.refl _ _⟩

theorem readVarI_bounds {s : ByteArray} {a : Int} {m p : Nat} (h : readVarI s a = some (m, p)) : m ≤ 1000000000 ∧ p ≤ s.size := by
  unfold readVarI at h
  split at h
  · rename_i ha
    exact W.readVar_bounds (by omega) h
  · simp at h
theorem implReadVar (s : ByteArray) (a : Int) (w : World) (hs : s.size ≤ 1048576) :
    Calls Tryd.prog 37 #[.string s, .int .i64 a] w fun e w' => e = .returned (rvV (readVarI s a)) ∧ w' = w := by
  by_cases h : 0 ≤ a ∧ a ≤ s.size
  · obtain ⟨n, rfl⟩ := Int.eq_ofNat_of_zero_le h.1
    have e : readVarI s n = W.readVar s n := by unfold readVarI; rw [if_pos h]; rfl
    rw [e]; exact implReadVar_yes s n w hs (by omega)
  · have e : readVarI s a = none := by unfold readVarI; rw [if_neg h]
    rw [e]; exact implReadVar_no s a w (by omega)
theorem specReadVar (s : ByteArray) (a : Int) (w : World) (hs : s.size ≤ 1048576) :
    Calls Tryd.prog 31 #[.string s, .int .i64 a] w fun e w' => e = .returned (rvV (readVarI s a)) ∧ Below w.heap.size w w' := by
  by_cases h : 0 ≤ a ∧ a ≤ s.size
  · obtain ⟨n, rfl⟩ := Int.eq_ofNat_of_zero_le h.1
    have e : readVarI s n = W.readVar s n := by unfold readVarI; rw [if_pos h]; rfl
    rw [e]; exact specReadVar_yes s n w hs (by omega)
  · have e : readVarI s a = none := by unfold readVarI; rw [if_neg h]
    rw [e]; exact specReadVar_no s a w (by omega)
end Go.Proofs.YthhpdkeajogkoaaDoor
