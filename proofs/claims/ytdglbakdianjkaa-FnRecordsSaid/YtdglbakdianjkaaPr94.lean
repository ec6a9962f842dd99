/- Texts of ours, laid one behind the other: ReadVarM, ReadVar, ReadShort, EdE, DrEdA, DrEdB, DrEdC, DrEdD, OpenM, EdC. -/
import Derived.Test.YtdglbakdianjkaaPr93
import Derived.PlainAid
import Derived.Deep.LoopGhost
import Derived.Deep.RegionWith
import Derived.Deep.QuietTactic
import Derived.BigQuiet
import Derived.Deep.RegionHeld3
import Derived.Deep.DrawnRows
import Derived.Test.YtdglbakdianjkaaShelf
import Derived.Deep.Slices
import Derived.Deep.Strs
import Derived.ChangeArms
import Derived.ChangeSame
import Derived.WideShapes
import Derived.OpenShut
/- ReadVarM: Plain facts on reading a number from bytes: what the loops of ReadVar hold from round to round. -/
namespace Go.Proofs.Ytdglbakdianjkaa.W
open Go.PlainAid (bt)

/-- What ReadVar answers at a place of a text. -/
def readVar (s : ByteArray) (a : Nat) : Option (Nat × Nat) := rvs [] (s.data.toList.drop a) a

theorem rv_bounds : ∀ (l : List UInt8) (n w : Nat) (f : Bool) (q m p : Nat), rv n w f l q = some (m, p) → m ≤ 1000000000 ∧ p ≤ q + l.length
  | [], n, w, f, q, m, p, h => by simp [rv] at h
  | b :: l, n, w, f, q, m, p, h => by
    rw [rv] at h
    split at h
    · simp at h
    · split at h
      · have := rv_bounds l _ _ _ _ _ _ h
        simp; omega
      · split at h
        · simp at h
        · split at h
          · simp at h
          · simp at h
            simp; omega
theorem readVar_bounds {s : ByteArray} {a m p : Nat} (ha : a ≤ s.size) (h : readVar s a = some (m, p)) : m ≤ 1000000000 ∧ p ≤ s.size := by
  have := rv_bounds _ _ _ _ _ _ _ h
  simp at this
  have e2 : s.data.size = s.size := rfl
  omega

/-- What has been read, the bytes from a to j: the number so far, its weight. -/
def RvRel (s : ByteArray) (a j : Nat) (nn sc : Int) : Prop :=
  ∃ hd rest : List UInt8, s.data.toList.drop a = hd ++ rest ∧ heads hd ∧ j = a + hd.length ∧ j ≤ s.size ∧ nn = (val hd : Int) ∧ sc = ((128 ^ hd.length : Nat) : Int) ∧ hd.length ≤ 5 ∧ rvs hd rest j = readVar s a

theorem RvRel.start (s : ByteArray) (a : Nat) (h : a ≤ s.size) : RvRel s a a 0 1 :=
  ⟨[], s.data.toList.drop a, rfl, fun _ h => by simp at h, rfl, h, rfl, rfl, by simp, rfl⟩

theorem RvRel.bounds {s : ByteArray} {a j : Nat} {nn sc : Int} (h : RvRel s a j nn sc) : 0 ≤ nn ∧ nn < sc ∧ 1 ≤ sc ∧ sc ≤ 34359738368 ∧ a ≤ j ∧ j ≤ a + 5 ∧ j ≤ s.size := by
  obtain ⟨hd, rest, _, _, rfl, hj, rfl, rfl, hk, _⟩ := h
  have h1 := val_lt hd
  have h2 : 128 ^ hd.length ≤ 128 ^ 5 := Nat.pow_le_pow_right (by omega) hk
  have h3 : 0 < 128 ^ hd.length := Nat.pow_pos (by omega)
  omega

theorem RvRel.over {s : ByteArray} {a j : Nat} {nn sc : Int} (h : RvRel s a j nn sc) (hj : s.size ≤ j) : readVar s a = none := by
  obtain ⟨hd, rest, he, _, rfl, _, rfl, rfl, _, hr⟩ := h
  have hl := congrArg List.length he
  simp at hl
  have : rest = [] := List.eq_nil_of_length_eq_zero (by omega)
  subst this
  rw [← hr]; exact rv_nil _ _ _ _

/-- Five bytes, or a weight beyond the greatest number: that is one. -/
theorem RvRel.five {s : ByteArray} {a j : Nat} {nn sc : Int} (h : RvRel s a j nn sc) : (j = a + 5 ↔ 1000000000 < sc) ∧ (1000000000 < sc → readVar s a = none) := by
  obtain ⟨hd, rest, he, _, rfl, _, rfl, rfl, hk, hr⟩ := h
  refine ⟨⟨fun h => ?_, fun h => ?_⟩, fun h => ?_⟩
  · have : hd.length = 5 := by omega
    rw [this]; omega
  · by_cases h5 : hd.length = 5
    · omega
    · have h2 : 128 ^ hd.length ≤ 128 ^ 4 := Nat.pow_le_pow_right (by omega) (by omega)
      omega
  · rw [← hr]; exact rv_great _ _ _ _ _ (by omega)

/-- The byte at j, and what is left behind it. -/
theorem byte_at (s : ByteArray) (a : Nat) (hd rest : List UInt8) (he : s.data.toList.drop a = hd ++ rest) (hj : a + hd.length < s.size) :
    ∃ b r, rest = b :: r ∧ bt s (a + hd.length) = (b.toNat : Int) := by
  cases rest with
  | nil =>
    have hl := congrArg List.length he
    simp at hl
    have : s.data.size = s.size := rfl
    omega
  | cons b r =>
    refine ⟨b, r, rfl, ?_⟩
    have h1 : (s.data.toList.drop a)[hd.length]? = some b := by rw [he]; simp
    rw [List.getElem?_drop] at h1
    have h2 : s.data.toList[a + hd.length]'(by simpa using hj) = b := by
      rw [List.getElem?_eq_some_iff] at h1
      exact h1.2
    unfold bt
    rw [dif_pos hj]
    have h3 : s[a + hd.length] = s.data.toList[a + hd.length]'(by simpa using hj) := rfl
    rw [h3, h2]

theorem RvRel.head {s : ByteArray} {a j : Nat} {nn sc : Int} (h : RvRel s a j nn sc) (hj : j < s.size) (hs : sc ≤ 1000000000) (hb : 127 < bt s j) :
    RvRel s a (j + 1) (nn + (bt s j - 128) * sc) (sc * 128) ∧ RvRel s a (j + 1) (nn + bt s j % 128 * sc) (sc * 128) := by
  have h5 := h.five
  obtain ⟨hd, rest, he, hh, rfl, _, rfl, rfl, hk, hr⟩ := h
  obtain ⟨b, r, rfl, hbt⟩ := byte_at s a hd rest he hj
  rw [hbt] at hb ⊢
  have hlt := b.toNat_lt
  have e : (b.toNat : Int) % 128 = (b.toNat : Int) - 128 := by omega
  rw [e]
  have key : RvRel s a (a + hd.length + 1) ((val hd : Int) + ((b.toNat : Int) - 128) * ((128 ^ hd.length : Nat) : Int)) (((128 ^ hd.length : Nat) : Int) * 128) := by
    refine ⟨hd ++ [b], r, by rw [he]; simp, fun x hx => ?_, by simp; omega, by omega, ?_, by simp [Nat.pow_succ], by simp; omega, ?_⟩
    · rcases List.mem_append.1 hx with h | h
      · exact hh x h
      · simp at h; subst h; omega
    · rw [val_snoc]
      have : b.toNat % 128 = b.toNat - 128 := by omega
      rw [this, Int.natCast_add, Int.natCast_mul, Int.natCast_sub (by omega)]; rfl
    · rw [← hr]
      have := rvs_step hd b r (a + hd.length) (by omega) (by omega)
      rw [this]
  exact ⟨key, key⟩

theorem RvRel.last {s : ByteArray} {a j : Nat} {nn sc : Int} (h : RvRel s a j nn sc) (hj : j < s.size) (hs : sc ≤ 1000000000) (hb : bt s j ≤ 127) :
    (bt s j = 0 → a < j → readVar s a = none) ∧ (1000000000 < nn + bt s j * sc → readVar s a = none) ∧
    ((bt s j ≠ 0 ∨ j = a) → nn + bt s j * sc ≤ 1000000000 → readVar s a = some ((nn + bt s j * sc).toNat, j + 1)) := by
  obtain ⟨hd, rest, he, hh, rfl, _, rfl, rfl, hk, hr⟩ := h
  obtain ⟨b, r, rfl, hbt⟩ := byte_at s a hd rest he hj
  rw [hbt] at hb ⊢
  have e : (val hd : Int) + (b.toNat : Int) * ((128 ^ hd.length : Nat) : Int) = ((val hd + b.toNat * 128 ^ hd.length : Nat) : Int) := by rw [Int.natCast_add, Int.natCast_mul]
  rw [e, ← hr]
  unfold rvs
  refine ⟨fun h0 h1 => ?_, fun h1 => ?_, fun h0 h1 => ?_⟩
  · rw [decide_eq_false (by omega)]; exact rv_nought _ _ _ _ _ (by omega)
  · exact rv_far _ _ _ _ _ _ (by omega) (by omega)
  · rw [rv_done _ _ _ _ _ _ (by omega) (by omega) (by
      rcases h0 with h | h
      · left; omega
      · right; simp; have : hd.length = 0 := by omega
        exact List.eq_nil_of_length_eq_zero this) (by omega), Int.toNat_natCast]

/-- As the other program tells it: by the bytes of the number. -/
theorem RvRel.same {s : ByteArray} {a j : Nat} {nn sc : Int} (h : RvRel s a j nn sc) (hj : j < s.size) (hs : sc ≤ 1000000000) (hb : bt s j ≤ 127) :
    (1000000000 < nn + bt s j % 128 * sc → readVar s a = none) ∧
    (nn + bt s j % 128 * sc ≤ 1000000000 → readVar s a = if vt (nn + bt s j % 128 * sc).toNat = (s.extract a (j + 1)).data.toList then some ((nn + bt s j % 128 * sc).toNat, j + 1) else none) := by
  obtain ⟨hd, rest, he, hh, rfl, _, rfl, rfl, hk, hr⟩ := h
  obtain ⟨b, r, rfl, hbt⟩ := byte_at s a hd rest he hj
  have hk4 : hd.length ≤ 4 := by
    by_cases h5 : hd.length = 5
    · rw [h5] at hs; omega
    · omega
  rw [hbt] at hb ⊢
  have e0 : (b.toNat : Int) % 128 = b.toNat := by omega
  have e : (val hd : Int) + (b.toNat : Int) * ((128 ^ hd.length : Nat) : Int) = ((val (hd ++ [b]) : Nat) : Int) := by
    rw [val_snoc, Int.natCast_add, Int.natCast_mul]
    have : b.toNat % 128 = b.toNat := by omega
    rw [this]
  have ex : (s.extract a (a + hd.length + 1)).data.toList = hd ++ [b] := by
    have : (s.extract a (a + hd.length + 1)).data.toList = (s.data.toList.drop a).take (hd.length + 1) := by
      simp [ByteArray.data_extract]
      congr 1; omega
    rw [this, he]
    have e3 : hd ++ b :: r = (hd ++ [b]) ++ r := by simp
    rw [e3, List.take_left' (by simp)]
  rw [e0, e, ex, ← hr, rvs_end hd b r _ hk4 hh (by omega)]
  have e4 : ((val (hd ++ [b]) : Nat) : Int).toNat = val (hd ++ [b]) := rfl
  rw [e4]
  refine ⟨fun h1 => ?_, fun h1 => ?_⟩
  · rw [if_neg (fun h => by have := h.1; omega)]
  · by_cases hv : vt (val (hd ++ [b])) = hd ++ [b]
    · rw [if_pos ⟨by omega, hv⟩, if_pos hv]
    · rw [if_neg (fun h => hv h.2), if_neg hv]
end Go.Proofs.Ytdglbakdianjkaa.W
/- ReadVar: The walks of the two ReadVar: each returns what 'readVarI' says. -/
namespace Go.Proofs.Ytdglbakdianjkaa
set_option maxRecDepth 100000
open Go.RowKit
open Go.PlainAid (bt)
attribute [local go_sem ↓] Go.wp_at_zero Go.wp_at_succ

/-- What ReadVar hands back. -/
def rvV : Option (Nat × Nat) → Value
  | none => .tuple #[.int .i64 0, .int .i64 0, .bool false]
  | some (n, p) => .tuple #[.int .i64 n, .int .i64 p, .bool true]
theorem rvV_some {x y : Int} {p : Nat} (hx : 0 ≤ x) (hy : y = (p : Int)) : Value.tuple #[.int .i64 x, .int .i64 y, .bool true] = rvV (some (x.toNat, p)) := by
  have : ((x.toNat : Nat) : Int) = x := by omega
  simp only [rvV]; rw [this, hy]
theorem rvV_form : ∀ x, ∃ (p q : Int) (b : Bool), rvV x = .tuple #[.int .i64 p, .int .i64 q, .bool b]
  | none => ⟨0, 0, false, rfl⟩
  | some (n, p) => ⟨n, p, true, rfl⟩
def readVarI (s : ByteArray) (a : Int) : Option (Nat × Nat) := if 0 ≤ a ∧ a ≤ s.size then W.readVar s a.toNat else none

theorem implReadVar_no (s : ByteArray) (a : Int) (w : World) (h : a < 0 ∨ (s.size : Int) < a) :
    Calls Try.prog 52 #[.string s, .int .i64 a] w fun e w' => e = .returned (.tuple #[.int .i64 0, .int .i64 0, .bool false]) ∧ w' = w := by
  rcases h with h | h
  · go_enter Try.func52, Try.ntmps52
    go_wp2_with fail
    go_step3
    go_wp2_with fail
    try rw [Exit.noGoto_ret]
    go_ret3
    exact ⟨rfl, rfl⟩
  · have h0 : ¬ a < 0 := by omega
    go_enter Try.func52, Try.ntmps52
    go_wp2_with fail
    go_step3
    go_wp2_with fail
    try rw [Exit.noGoto_ret]
    go_ret3
    exact ⟨rfl, rfl⟩

set_option maxHeartbeats 400000 in
theorem implReadVar_yes (s : ByteArray) (a : Nat) (w : World) (hs : s.size ≤ 1048576) (ha : a ≤ s.size) :
    Calls Try.prog 52 #[.string s, .int .i64 a] w fun e w' => e = .returned (rvV (W.readVar s a)) ∧ w' = w := by
  have hb := Go.PlainAid.get_bt s
  have h1 : decide ((a : Int) < 0) = false := by simp
  have h2 : decide ((s.size : Int) < a) = false := by simp; omega
  go_enter Try.func52, Try.ntmps52
  go_wp2_with fail
  go_step3
  go_wp2_with fail
  go_step3
  go_wp2_with fail
  go_loop [7, 8, 9] (fun n c i => ∃ (j : Nat) (nn sc : Int), n = .int .i64 nn ∧ c = .int .i64 sc ∧ i = .int .i64 j ∧ W.RvRel s a j nn sc) (fun _ _ i => s.size - (intOf i).toNat)
  case atStart => exact ⟨a, 0, 1, rfl, rfl, rfl, W.RvRel.start s a ha⟩
  case round =>
    obtain ⟨j, nn, sc, rfl, rfl, rfl, hr⟩ := hrel
    obtain ⟨n0, n1, s0, s1, j0, j1, j2⟩ := hr.bounds
    by_cases hj : j < s.size
    · have b0 := Go.PlainAid.bt_nonneg s j
      have b1 := Go.PlainAid.bt_le s j
      by_cases hsc : 1000000000 < sc
      · have HR : Hid (W.readVar s a = none) := hr.five.2 hsc
        go_wp2
        go_ret3
        exact ⟨by rw [HR.out]; rfl, rfl⟩
      · by_cases hbb : 127 < bt s j
        · have hn := (hr.head hj (by omega) hbb).1
          have p0 : 0 ≤ (bt s j - 128) * sc := Int.mul_nonneg (by omega) (by omega)
          have p1 : (bt s j - 128) * sc ≤ 127 * 1000000000 := Int.mul_le_mul (by omega) (by omega) (by omega) (by omega)
          go_wp2
          go_round
          case rel => exact ⟨j + 1, _, _, rfl, rfl, by go_num, hn⟩
          case measure => simp [intOf]; omega
        · obtain ⟨q1, q2, q3⟩ := hr.last hj (by omega) (by omega)
          have p0 : 0 ≤ bt s j * sc := Int.mul_nonneg (by omega) (by omega)
          have p1 : bt s j * sc ≤ 127 * 1000000000 := Int.mul_le_mul (by omega) (by omega) (by omega) (by omega)
          by_cases hz : bt s j = 0
          · by_cases haj : a < j
            · have HR : Hid (W.readVar s a = none) := q1 hz haj
              clear q1 q2 q3
              go_wp2
              go_ret3
              exact ⟨by rw [HR.out]; rfl, rfl⟩
            · have HR : Hid (W.readVar s a = some (nn.toNat, j + 1)) := by
                have := q3 (.inr (by omega)) (by rw [hz]; omega)
                rw [hz] at this
                show W.readVar s a = some (nn.toNat, j + 1)
                simpa using this
              have hm : nn ≤ 1000000000 := by omega
              clear q1 q2 q3
              go_wp2
              go_ret3
              refine ⟨?_, rfl⟩
              rw [HR.out]
              exact congrArg Ending.returned (rvV_some n0 (by omega))
          · by_cases hm : 1000000000 < nn + bt s j * sc
            · have HR : Hid (W.readVar s a = none) := q2 hm
              clear q1 q2 q3
              go_wp2
              go_ret3
              exact ⟨by rw [HR.out]; rfl, rfl⟩
            · have HR : Hid (W.readVar s a = some ((nn + bt s j * sc).toNat, j + 1)) := q3 (.inl hz) (by omega)
              clear q1 q2 q3
              go_wp2
              go_ret3
              refine ⟨?_, rfl⟩
              rw [HR.out]
              exact congrArg Ending.returned (rvV_some (by omega) (by omega))
    · have HR : Hid (W.readVar s a = none) := hr.over (by omega)
      go_wp2
      go_ret3
      exact ⟨by rw [HR.out]; rfl, rfl⟩

theorem specReadVar_no (s : ByteArray) (a : Int) (w : World) (h : a < 0 ∨ (s.size : Int) < a) :
    Calls Try.prog 34 #[.string s, .int .i64 a] w fun e w' => e = .returned (.tuple #[.int .i64 0, .int .i64 0, .bool false]) ∧ Below w.heap.size w w' := by
  have h : (decide ((0 : Int) ≤ a) && decide (a ≤ s.size)) = false := by
    rcases h with h | h
    · simp; omega
    · simp; omega
  go_enter Try.func34, Try.ntmps34
  go_wp2_with fail
  refine (l01In_any _ _ _ _).mono ?_
  rw [h]
  rintro e w' ⟨rfl, rfl⟩
  go_wp2_with fail
  go_ret3
  exact ⟨rfl, Below.refl _ _⟩

set_option maxHeartbeats 1000000 in
theorem specReadVar_yes (s : ByteArray) (a : Nat) (w : World) (hs : s.size ≤ 1048576) (ha : a ≤ s.size) :
    Calls Try.prog 34 #[.string s, .int .i64 a] w fun e w' => e = .returned (rvV (W.readVar s a)) ∧ Below w.heap.size w w' := by
  have hb := Go.PlainAid.get_bt s
  have h1 : decide ((0 : Int) ≤ a) = true := by simp
  have h2 : decide ((a : Int) ≤ s.size) = true := by simp; omega
  go_enter Try.func34, Try.ntmps34
  go_wp2_with fail
  refine (l01In_any _ _ _ _).mono ?_
  rintro e w' ⟨rfl, rfl⟩
  go_wp2_with fail
  go_loop [7, 8, 9] (fun n c i => ∃ (j : Nat) (nn sc : Int), n = .int .i64 nn ∧ c = .int .i64 sc ∧ i = .int .i64 j ∧ W.RvRel s a j nn sc) (fun _ _ i => s.size - (intOf i).toNat)
  case atStart => exact ⟨a, 0, 1, rfl, rfl, rfl, W.RvRel.start s a ha⟩
  case round =>
    obtain ⟨j, nn, sc, rfl, rfl, rfl, hr⟩ := hrel
    obtain ⟨n0, n1, s0, s1, j0, j1, j2⟩ := hr.bounds
    by_cases hj : j < s.size
    · have b0 := Go.PlainAid.bt_nonneg s j
      have b1 := Go.PlainAid.bt_le s j
      by_cases hsc : j < a + 5
      · have hsc1 : sc ≤ 1000000000 := by have := hr.five.1; omega
        have p0 : 0 ≤ bt s j % 128 * sc := Int.mul_nonneg (by omega) (by omega)
        have p1 : bt s j % 128 * sc ≤ 127 * 1000000000 := Int.mul_le_mul (by omega) (by omega) (by omega) (by omega)
        by_cases hbb : bt s j < 128
        · obtain ⟨q1, q2⟩ := hr.same hj hsc1 (by omega)
          by_cases hm : 1000000000 < nn + bt s j % 128 * sc
          · have HR : Hid (W.readVar s a = none) := q1 hm
            clear q1 q2
            have hmd : decide (1000000000 < nn + bt s j % 128 * sc) = true := by simpa using hm
            go_wp2_with fail
            go_quiet (fail)
            go_wp2_with fail
            go_ret3
            exact ⟨by rw [HR.out]; rfl, below_drewN (Below.refl _ _) _⟩
          · have HR : Hid _ := q2 (by omega)
            clear q1 q2
            have hmd : decide (1000000000 < nn + bt s j % 128 * sc) = false := by simpa using hm
            have hp0 : (0 : Int) ≤ nn + bt s j % 128 * sc := by omega
            have hp1 : nn + bt s j % 128 * sc ≤ 1099511627776 := by omega
            have hj1 : (0 : Int) ≤ (a : Int) := by omega
            have hj2 : (a : Int) ≤ (j : Int) + 1 := by omega
            have hj3 : (j : Int) + 1 ≤ (s.size : Int) := by omega
            have hwr : IntKind.i64.wrap ((j : Int) + 1) = (j : Int) + 1 := IntWalk.i64_in _ ⟨by omega, by omega⟩
            have hsl := slice_str s a (j + 1) (by omega) (by omega)
            rw [show ((j + 1 : Nat) : Int) = (j : Int) + 1 from by omega] at hsl
            go_wp2_with fail
            go_region_held3 (fun _ => True) (exact trivial) ((go_at_call 35; refine (l01Var_int _ _ hp0 hp1).mono ?_; rintro e w1 ⟨rfl, hb1⟩))
            all_goals go_wp2_with fail
            · have hne : (!W.vt (nn + bt s j % 128 * sc).toNat == (s.extract a (j + 1)).toList) = true := by assumption
              go_ret3
              refine ⟨?_, Below.trans (Below.drew (Below.refl _ _)) hb1⟩
              rw [HR.out, if_neg (by rw [← Go.ByteArray.toList_eq]; simpa using hne)]
              rfl
            · have heq : (!W.vt (nn + bt s j % 128 * sc).toNat == (s.extract a (j + 1)).toList) = false := by assumption
              go_ret3
              refine ⟨?_, Below.trans (Below.drew (Below.refl _ _)) hb1⟩
              rw [HR.out, if_pos (by rw [← Go.ByteArray.toList_eq]; simpa using heq)]
              exact congrArg Ending.returned (rvV_some (by omega) (by omega))
        · have hn := (hr.head hj hsc1 (by omega)).2
          go_wp2
          go_round
          case rel => exact ⟨j + 1, _, _, rfl, rfl, by go_num, hn⟩
          case measure => simp [intOf]; omega
      · have HR : Hid (W.readVar s a = none) := hr.five.2 (by have := hr.five.1; omega)
        go_wp2
        go_ret3
        exact ⟨by rw [HR.out]; rfl, Below.refl _ _⟩
    · have HR : Hid (W.readVar s a = none) := hr.over (by omega)
      go_wp2
      go_ret3
      exact ⟨by rw [HR.out]; rfl, Below.refl _ _⟩

theorem readVarI_bounds {s : ByteArray} {a : Int} {m p : Nat} (h : readVarI s a = some (m, p)) : m ≤ 1000000000 ∧ p ≤ s.size := by
  unfold readVarI at h
  split at h
  · rename_i ha
    exact W.readVar_bounds (by omega) h
  · simp at h
theorem implReadVar (s : ByteArray) (a : Int) (w : World) (hs : s.size ≤ 1048576) :
    Calls Try.prog 52 #[.string s, .int .i64 a] w fun e w' => e = .returned (rvV (readVarI s a)) ∧ w' = w := by
  by_cases h : 0 ≤ a ∧ a ≤ s.size
  · obtain ⟨n, rfl⟩ := Int.eq_ofNat_of_zero_le h.1
    have e : readVarI s n = W.readVar s n := by unfold readVarI; rw [if_pos h]; rfl
    rw [e]; exact implReadVar_yes s n w hs (by omega)
  · have e : readVarI s a = none := by unfold readVarI; rw [if_neg h]
    rw [e]; exact implReadVar_no s a w (by omega)
theorem specReadVar (s : ByteArray) (a : Int) (w : World) (hs : s.size ≤ 1048576) :
    Calls Try.prog 34 #[.string s, .int .i64 a] w fun e w' => e = .returned (rvV (readVarI s a)) ∧ Below w.heap.size w w' := by
  by_cases h : 0 ≤ a ∧ a ≤ s.size
  · obtain ⟨n, rfl⟩ := Int.eq_ofNat_of_zero_le h.1
    have e : readVarI s n = W.readVar s n := by unfold readVarI; rw [if_pos h]; rfl
    rw [e]; exact specReadVar_yes s n w hs (by omega)
  · have e : readVarI s a = none := by unfold readVarI; rw [if_neg h]
    rw [e]; exact specReadVar_no s a w (by omega)
end Go.Proofs.Ytdglbakdianjkaa
/- ReadShort: The walks of the two ReadShort: each returns what 'readShortI' says. -/
namespace Go.Proofs.Ytdglbakdianjkaa
open Go.RowKit

def rsV : Option (ByteArray × Nat) → Value
  | none => .tuple #[.string ⟨#[]⟩, .int .i64 0, .bool false]
  | some (t, p) => .tuple #[.string t, .int .i64 p, .bool true]
theorem rsV_form : ∀ x, ∃ (t : ByteArray) (q : Int) (b : Bool), rsV x = .tuple #[.string t, .int .i64 q, .bool b]
  | none => ⟨⟨#[]⟩, 0, false, rfl⟩
  | some (t, p) => ⟨t, p, true, rfl⟩
def readShortI (s : ByteArray) (a : Int) : Option (ByteArray × Nat) :=
  match readVarI s a with
  | none => none
  | some (n, p) => if n ≤ 20000 ∧ p + n ≤ s.size then some (s.extract p (p + n), p + n) else none

theorem strClone (s : ByteArray) (w : World) (h : s.size ≤ 281474976710656) :
    Calls Try.prog 57 #[.string s] w fun e w' => e = .returned (.string s) ∧ Below w.heap.size w w' := by
  go_enter Try.func57, Try.ntmps57
  go_wp2_with fail
  refine (Try.stringslite_Clone s _ h).mono ?_
  rintro e w1 ⟨rfl, hb⟩
  go_wp2_with fail
  go_ret
  exact ⟨rfl, hb⟩

set_option maxHeartbeats 400000 in
theorem implReadShort (s : ByteArray) (a : Int) (w : World) (hs : s.size ≤ 1048576) :
    Calls Try.prog 51 #[.string s, .int .i64 a] w fun e w' => e = .returned (rsV (readShortI s a)) ∧ Below w.heap.size w w' := by
  have hc := implReadVar s a w hs
  unfold readShortI
  cases hv : readVarI s a with
  | none =>
    rw [hv] at hc
    have hc' : Calls Try.prog 52 #[.string s, .int .i64 a] w fun e w' => e = .returned (.tuple #[.int .i64 0, .int .i64 0, .bool false]) ∧ w' = w := hc
    have HC : Hid _ := hc'
    clear hc hc' hv
    go_enter Try.func51, Try.ntmps51
    go_wp2_with fail
    refine Calls.mono HC.out ?_
    rintro e w' ⟨rfl, rfl⟩
    go_wp2_with fail
    go_ret3
    exact ⟨rfl, Below.refl _ _⟩
  | some x =>
    obtain ⟨n, p⟩ := x
    obtain ⟨hn, hp⟩ := readVarI_bounds hv
    rw [hv] at hc
    have hc' : Calls Try.prog 52 #[.string s, .int .i64 a] w fun e w' => e = .returned (.tuple #[.int .i64 n, .int .i64 p, .bool true]) ∧ w' = w := hc
    have HC : Hid _ := hc'
    clear hc hc' hv
    show Calls _ _ _ _ fun e w' => e = .returned (rsV (if n ≤ 20000 ∧ p + n ≤ s.size then some (s.extract p (p + n), p + n) else none)) ∧ _
    by_cases h1 : 20000 < n
    · rw [if_neg (by omega)]
      go_enter Try.func51, Try.ntmps51
      go_wp2_with fail
      refine Calls.mono HC.out ?_
      rintro e w' ⟨rfl, rfl⟩
      go_wp2_with fail
      go_ret3
      exact ⟨rfl, Below.refl _ _⟩
    · by_cases h2 : s.size < p + n
      · rw [if_neg (by omega)]
        go_enter Try.func51, Try.ntmps51
        go_wp2_with fail
        refine Calls.mono HC.out ?_
        rintro e w' ⟨rfl, rfl⟩
        go_wp2_with fail
        go_ret3
        exact ⟨rfl, Below.refl _ _⟩
      · rw [if_pos (by omega)]
        have hsl := slice_str s p (p + n) (by omega) (by omega)
        rw [show ((p + n : Nat) : Int) = (p : Int) + (n : Int) from by omega] at hsl
        have hcl : (s.extract p (p + n)).size ≤ 281474976710656 := by simp; omega
        go_enter Try.func51, Try.ntmps51
        go_wp2_with fail
        refine Calls.mono HC.out ?_
        rintro e w' ⟨rfl, rfl⟩
        go_wp2_with fail
        refine (strClone (s.extract p (p + n)) _ hcl).mono ?_
        rintro e w1 ⟨rfl, hb⟩
        go_wp2_with fail
        go_ret3
        exact ⟨rfl, hb⟩

set_option maxHeartbeats 400000 in
theorem specReadShort (s : ByteArray) (a : Int) (w : World) (hs : s.size ≤ 1048576) :
    Calls Try.prog 33 #[.string s, .int .i64 a] w fun e w' => e = .returned (rsV (readShortI s a)) ∧ Below w.heap.size w w' := by
  have hc := specReadVar s a w hs
  unfold readShortI
  cases hv : readVarI s a with
  | none =>
    rw [hv] at hc
    have hc' : Calls Try.prog 34 #[.string s, .int .i64 a] w fun e w' => e = .returned (.tuple #[.int .i64 0, .int .i64 0, .bool false]) ∧ Below w.heap.size w w' := hc
    have HC : Hid _ := hc'
    clear hc hc' hv
    go_enter Try.func33, Try.ntmps33
    go_wp2_with fail
    refine Calls.mono HC.out ?_
    rintro e w' ⟨rfl, hb0⟩
    go_wp2_with fail
    go_ret3
    exact ⟨rfl, hb0⟩
  | some x =>
    obtain ⟨n, p⟩ := x
    obtain ⟨hn, hp⟩ := readVarI_bounds hv
    rw [hv] at hc
    have hc' : Calls Try.prog 34 #[.string s, .int .i64 a] w fun e w' => e = .returned (.tuple #[.int .i64 n, .int .i64 p, .bool true]) ∧ Below w.heap.size w w' := hc
    have HC : Hid _ := hc'
    clear hc hc' hv
    show Calls _ _ _ _ fun e w' => e = .returned (rsV (if n ≤ 20000 ∧ p + n ≤ s.size then some (s.extract p (p + n), p + n) else none)) ∧ _
    by_cases h1 : 20000 < n
    · rw [if_neg (by omega)]
      go_enter Try.func33, Try.ntmps33
      go_wp2_with fail
      refine Calls.mono HC.out ?_
      rintro e w' ⟨rfl, hb0⟩
      go_wp2_with fail
      go_ret3
      exact ⟨rfl, hb0⟩
    · by_cases h2 : s.size < p + n
      · rw [if_neg (by omega)]
        go_enter Try.func33, Try.ntmps33
        go_wp2_with fail
        refine Calls.mono HC.out ?_
        rintro e w' ⟨rfl, hb0⟩
        go_wp2_with fail
        go_ret3
        exact ⟨rfl, hb0⟩
      · rw [if_pos (by omega)]
        have hsl := slice_str s p (p + n) (by omega) (by omega)
        rw [show ((p + n : Nat) : Int) = (p : Int) + (n : Int) from by omega] at hsl
        go_enter Try.func33, Try.ntmps33
        go_wp2_with fail
        refine Calls.mono HC.out ?_
        rintro e w' ⟨rfl, hb0⟩
        go_wp2_with fail
        go_ret3
        exact ⟨rfl, hb0⟩
end Go.Proofs.Ytdglbakdianjkaa
/- EdE: The model's ReadEdit. -/
namespace Go.Proofs.Ytdglbakdianjkaa
open Go.RowKit
open Go.PlainAid (bt)
attribute [local go_sem ↓] Go.wp_at_zero Go.wp_at_succ

/-- What ReadShort hands back, apart. -/
def r3 (o : Option (ByteArray × Nat)) : ByteArray × Nat × Bool := match o with
  | none => (⟨#[]⟩, 0, false)
  | some (t, p) => (t, p, true)
theorem rsV_r3 (o : Option (ByteArray × Nat)) : rsV o = .tuple #[.string (r3 o).1, .int .i64 ((r3 o).2.1 : Nat), .bool (r3 o).2.2] := by cases o <;> rfl
/-- What ReadVar hands back, apart. -/
def n3 (o : Option (Nat × Nat)) : Nat × Nat × Bool := match o with
  | none => (0, 0, false)
  | some (t, p) => (t, p, true)
theorem rvV_n3 (o : Option (Nat × Nat)) : rvV o = .tuple #[.int .i64 ((n3 o).1 : Nat), .int .i64 ((n3 o).2.1 : Nat), .bool (n3 o).2.2] := by cases o <;> rfl
/-- The three parts of a record's text. -/
def part1 (s : ByteArray) : ByteArray × Nat × Bool := r3 (readShortI s 2)
def part2 (s : ByteArray) : ByteArray × Nat × Bool := r3 (readShortI s ((part1 s).2.1 : Nat))
def part3 (s : ByteArray) : Nat × Nat × Bool := n3 (readVarI s ((part2 s).2.1 : Nat))
/-- The record that a text would be of. -/
def wouldE (s : ByteArray) : EM := ⟨bt s 0, (part1 s).1, (part2 s).1, ((part3 s).1 : Nat), bt s 1⟩
/-- Whether it is. -/
def isE (s : ByteArray) : Bool := decide (2 ≤ s.size) && (part1 s).2.2 && (part2 s).2.2 && (part3 s).2.2 && editOk (wouldE s) && decide (editT (wouldE s) = s)
def zeroE : EM := ⟨0, ⟨#[]⟩, ⟨#[]⟩, 0, 0⟩
def readE (s : ByteArray) : EM × Bool := if isE s then (wouldE s, true) else (zeroE, false)
theorem short_size (s : ByteArray) (a : Int) : (r3 (readShortI s a)).1.size ≤ 20000 := by
  unfold readShortI
  cases readVarI s a with
  | none => exact Nat.zero_le _
  | some x =>
    obtain ⟨n, p⟩ := x
    dsimp only
    split
    · rename_i h
      simp only [r3, ByteArray.size_extract]
      omega
    · exact Nat.zero_le _
/-- Two records in their boxes. -/
def R2 (w0 w : World) (A B : Nat) (X Y : EM) : Prop := WCells w A (ecells X) ∧ WCells w B (ecells Y) ∧ A ≠ B ∧ w0.heap.size ≤ A ∧ w0.heap.size ≤ B ∧ Below w0.heap.size w0 w
theorem R2.below {w0 w w' : World} {A B : Nat} {X Y : EM} (h : R2 w0 w A B X Y) (hb : Below w.heap.size w w') : R2 w0 w' A B X Y :=
  ⟨h.1.grow hb, h.2.1.grow hb, h.2.2.1, h.2.2.2.1, h.2.2.2.2.1, h.2.2.2.2.2.trans (hb.mono h.2.2.2.2.2.size)⟩
theorem R2.set {w0 w : World} {A B : Nat} {X Y Z : EM} (h : R2 w0 w A B X Y) (i : Nat) (v : Value) (hi : i < 5) (hz : (ecells Y).set i v = ecells Z) : R2 w0 (w.setCell ⟨B, i, none⟩ v) A B X Z :=
  ⟨h.1.other _ _ h.2.2.1, by rw [← hz]; exact h.2.1.set i v (by rw [ecells_len]; exact hi), h.2.2.1, h.2.2.2.1, h.2.2.2.2.1, h.2.2.2.2.2.setCell h.2.2.2.2.1 _⟩
theorem R2.swap {w0 w : World} {A B : Nat} {X Y : EM} (h : R2 w0 w A B X Y) : R2 w0 w B A Y X := ⟨h.2.1, h.1, Ne.symm h.2.2.1, h.2.2.2.2.1, h.2.2.2.1, h.2.2.2.2.2⟩
theorem R2.got {w0 w : World} {A B : Nat} {X Y : EM} (h : R2 w0 w A B X Y) (i : Nat) (v : Value) (hv : (ecells Y)[i]? = some v) : w.cell? ⟨B, i, none⟩ = some v ∧ w.frozen? ⟨B, i, none⟩ = false := h.2.1.2 i v hv
/-- A record written into a box. -/
def put5 (w : World) (A : Nat) (X : EM) : World := ((((w.setCell ⟨A, 0, none⟩ (.int .i64 X.kind)).setCell ⟨A, 1, none⟩ (.string X.path)).setCell ⟨A, 2, none⟩ (.string X.dest)).setCell ⟨A, 3, none⟩ (.int .i64 X.num)).setCell ⟨A, 4, none⟩ (.int .i64 X.who)
theorem R2.put {w0 w : World} {A B : Nat} {X Y : EM} (h : R2 w0 w A B X Y) (Z : EM) : R2 w0 (put5 w A Z) A B Z Y :=
  ((((((h.swap).set (Z := ⟨Z.kind, X.path, X.dest, X.num, X.who⟩) 0 _ (by omega) rfl).set (Z := ⟨Z.kind, Z.path, X.dest, X.num, X.who⟩) 1 _ (by omega) rfl).set (Z := ⟨Z.kind, Z.path, Z.dest, X.num, X.who⟩) 2 _ (by omega) rfl).set (Z := ⟨Z.kind, Z.path, Z.dest, Z.num, X.who⟩) 3 _ (by omega) rfl).set (Z := Z) 4 _ (by omega) rfl).swap
theorem str_neE {a b : ByteArray} (h : a ≠ b) : (a.toList == b.toList) = false := by
  rw [ByteArray.toList_eq, ByteArray.toList_eq, beq_eq_false_iff_ne]
  exact fun e => h (ByteArray.ext (Array.toList_inj.1 e))
theorem bt_wrap (s : ByteArray) (k : Nat) : wrap64 (bt s k) = bt s k := by
  have h : 0 ≤ bt s k ∧ bt s k ≤ 255 := by
    unfold bt
    split
    · rename_i h
      have := (s[k]'h).toNat_lt
      omega
    · omega
  unfold wrap64
  omega
set_option maxHeartbeats 1000000 in
theorem specReadEdit (s : ByteArray) (w : World) (hs : s.size ≤ 1048576) : Calls Try.prog 14 #[.string s] w fun r w' => r = .returned (.tuple #[ev (readE s).1, .bool (readE s).2]) ∧ Below w.heap.size w w' := by
  by_cases h2 : s.size < 2
  · have he : readE s = (zeroE, false) := by
      unfold readE isE
      rw [decide_eq_false (by omega)]
      rfl
    rw [he]
    have h2' : (s.size : Int) < 2 := by omega
    go_enter Try.func14, Try.ntmps14
    go_wp2_with fail
    refine bodyPost_ret (v := .tuple #[ev zeroE, .bool false]) (by simp [results, Try.results14, go_sem, zeroE]) rfl ⟨rfl, ?_⟩
    exact (Below.refl _ _).alloc (Nat.le_refl _) _
  · have HS1 := Shut.mk (fun W => specReadShort s 2 W hs)
    have HS2 := Shut.mk (fun W => specReadShort s ((part1 s).2.1 : Nat) W hs)
    have HS3 := Shut.mk (fun W => specReadVar s ((part2 s).2.1 : Nat) W hs)
    have HT := Shut.mk (fun W => specEditText (wouldE s) W ⟨Nat.le_trans (short_size s _) (by omega), Nat.le_trans (short_size s _) (by omega)⟩)
    simp only [rsV_r3] at HS1 HS2
    simp only [rvV_n3] at HS3
    change Shut (∀ W, Calls Try.prog 33 #[.string s, .int .i64 2] W fun e w' => e = .returned (.tuple #[.string (part1 s).1, .int .i64 ((part1 s).2.1 : Nat), .bool (part1 s).2.2]) ∧ Below W.heap.size W w') at HS1
    change Shut (∀ W, Calls Try.prog 33 #[.string s, .int .i64 ((part1 s).2.1 : Nat)] W fun e w' => e = .returned (.tuple #[.string (part2 s).1, .int .i64 ((part2 s).2.1 : Nat), .bool (part2 s).2.2]) ∧ Below W.heap.size W w') at HS2
    change Shut (∀ W, Calls Try.prog 34 #[.string s, .int .i64 ((part2 s).2.1 : Nat)] W fun e w' => e = .returned (.tuple #[.int .i64 ((part3 s).1 : Nat), .int .i64 ((part3 s).2.1 : Nat), .bool (part3 s).2.2]) ∧ Below W.heap.size W w') at HS3
    have HRE : Shut (readE s = if (part1 s).2.2 && (part2 s).2.2 && (part3 s).2.2 && editOk (wouldE s) && decide (editT (wouldE s) = s) then (wouldE s, true) else (zeroE, false)) := ⟨by unfold readE isE; rw [decide_eq_true (by omega), Bool.true_and]⟩
    obtain ⟨E, hE⟩ : ∃ E, E = wouldE s := ⟨_, rfl⟩
    have hE0 : E.kind = bt s 0 := by rw [hE]; rfl
    have hE1 : E.path = (part1 s).1 := by rw [hE]; rfl
    have hE2 : E.dest = (part2 s).1 := by rw [hE]; rfl
    have hE3 : E.num = ((part3 s).1 : Nat) := by rw [hE]; rfl
    have hE4 : E.who = bt s 1 := by rw [hE]; rfl
    rw [← hE] at HT HRE
    rw [← hE1] at HS1
    rw [← hE2] at HS2
    rw [← hE3] at HS3
    clear hE hE1 hE2 hE3
    generalize (part1 s).2.1 = a1 at HS1 HS2
    generalize (part2 s).2.1 = a2 at HS2 HS3
    generalize (part3 s).2.1 = a3 at HS3
    generalize (part1 s).2.2 = b1 at HS1 HRE
    generalize (part2 s).2.2 = b2 at HS2 HRE
    generalize (part3 s).2.2 = b3 at HS3 HRE
    obtain ⟨BK, hBK⟩ : ∃ BK, BK = (if editOk E then editT E else ⟨#[]⟩) := ⟨_, rfl⟩
    have hBT : editOk E = true → BK = editT E := fun h => by rw [hBK, if_pos h]
    rw [← hBK] at HT
    clear hBK
    generalize editOk E = b4 at HT HRE hBT
    have HBT := Shut.mk hBT
    clear hBT
    have hb := Go.PlainAid.get_bt s
    obtain ⟨kind, path, dest, num, who⟩ := E
    dsimp only at *
    subst hE0 hE4
    have h2' : ¬ ((s.size : Int) < 2) := by omega
    have h3' : (0 : Int) < s.size := by omega
    have h4' : (1 : Int) < s.size := by omega
    have h3 : 0 < s.size := by omega
    have h4 : 1 < s.size := by omega
    have hw0 := bt_wrap s 0
    have hw1 := bt_wrap s 1
    go_enter Try.func14, Try.ntmps14
    go_upto_region 3 with fail
    go_region
    have HR : Shut (R2 w ((w.alloc (.cells #[.int .i64 0, .string ⟨#[]⟩, .string ⟨#[]⟩, .int .i64 0, .int .i64 0] 25)).alloc (.cells #[.int .i64 (bt s 0), .string ⟨#[]⟩, .string ⟨#[]⟩, .int .i64 0, .int .i64 (bt s 1)] 25)).drew w.heap.size (w.heap.size + 1) zeroE ⟨bt s 0, ⟨#[]⟩, ⟨#[]⟩, 0, bt s 1⟩) := by
      refine ⟨⟨((wcells_new w _ _).alloc _).grow (Below.drew (Below.refl _ _)), ?_, by omega, by omega, by omega, (((Below.refl _ _).alloc (Nat.le_refl _) _).alloc (by simp) _).drew⟩⟩
      have q := wcells_new (w.alloc (.cells #[.int .i64 0, .string ⟨#[]⟩, .string ⟨#[]⟩, .int .i64 0, .int .i64 0] 25)) #[.int .i64 (bt s 0), .string ⟨#[]⟩, .string ⟨#[]⟩, .int .i64 0, .int .i64 (bt s 1)] 25
      rw [World.size_alloc] at q
      exact q.grow (Below.drew (Below.refl _ _))
    obtain ⟨W4, hW4⟩ : ∃ W4, W4 = ((w.alloc (.cells #[.int .i64 0, .string ⟨#[]⟩, .string ⟨#[]⟩, .int .i64 0, .int .i64 0] 25)).alloc (.cells #[.int .i64 (bt s 0), .string ⟨#[]⟩, .string ⟨#[]⟩, .int .i64 0, .int .i64 (bt s 1)] 25)).drew := ⟨_, rfl⟩
    rw [← hW4] at HR ⊢
    clear hW4
    go_upto_region 5 with (go_at_call 33; refine (HS1.out _).mono ?_; rintro e w5 ⟨rfl, hb5⟩; have HR2 := Shut.mk (HR.out.below hb5); clear hb5 HR; have HR := HR2; clear HR2)
    go_upto_region 6 with (go_at_call 33; refine (HS2.out _).mono ?_; rintro e w5 ⟨rfl, hb5⟩; have HR2 := Shut.mk (HR.out.below hb5); clear hb5 HR; have HR := HR2; clear HR2)
    go_upto_region 7 with (go_at_call 34; refine (HS3.out _).mono ?_; rintro e w5 ⟨rfl, hb5⟩; have HR2 := Shut.mk (HR.out.below hb5); clear hb5 HR; have HR := HR2; clear HR2)
    have x := HR.out.got 1 _ rfl
    obtain ⟨x0, x1⟩ := x
    go_upto_region 8 with fail
    have HR2 : Shut (R2 w (w5.setCell ⟨w.heap.size + 1, 1, none⟩ (.string path)) w.heap.size (w.heap.size + 1) zeroE ⟨bt s 0, path, ⟨#[]⟩, 0, bt s 1⟩) := ⟨HR.out.set 1 _ (by omega) rfl⟩
    obtain ⟨w6, hw6⟩ : ∃ w6, w6 = w5.setCell ⟨w.heap.size + 1, 1, none⟩ (.string path) := ⟨_, rfl⟩
    rw [← hw6] at HR2 ⊢
    clear hw6 HR x0 x1
    have HR := HR2
    clear HR2
    try clear w5
    obtain ⟨w5, hw5⟩ : ∃ w5, w5 = w6 := ⟨_, rfl⟩
    rw [← hw5] at HR ⊢
    clear hw5
    try clear w6
    have x := HR.out.got 2 _ rfl
    obtain ⟨x0, x1⟩ := x
    go_upto_region 9 with fail
    have HR2 : Shut (R2 w (w5.setCell ⟨w.heap.size + 1, 2, none⟩ (.string dest)) w.heap.size (w.heap.size + 1) zeroE ⟨bt s 0, path, dest, 0, bt s 1⟩) := ⟨HR.out.set 2 _ (by omega) rfl⟩
    obtain ⟨w6, hw6⟩ : ∃ w6, w6 = w5.setCell ⟨w.heap.size + 1, 2, none⟩ (.string dest) := ⟨_, rfl⟩
    rw [← hw6] at HR2 ⊢
    clear hw6 HR x0 x1
    have HR := HR2
    clear HR2
    try clear w5
    obtain ⟨w5, hw5⟩ : ∃ w5, w5 = w6 := ⟨_, rfl⟩
    rw [← hw5] at HR ⊢
    clear hw5
    try clear w6
    have x := HR.out.got 3 _ rfl
    obtain ⟨x0, x1⟩ := x
    go_upto_region 10 with fail
    have HR2 : Shut (R2 w (w5.setCell ⟨w.heap.size + 1, 3, none⟩ (.int .i64 num)) w.heap.size (w.heap.size + 1) zeroE ⟨bt s 0, path, dest, num, bt s 1⟩) := ⟨HR.out.set 3 _ (by omega) rfl⟩
    obtain ⟨w6, hw6⟩ : ∃ w6, w6 = w5.setCell ⟨w.heap.size + 1, 3, none⟩ (.int .i64 num) := ⟨_, rfl⟩
    rw [← hw6] at HR2 ⊢
    clear hw6 HR x0 x1
    have HR := HR2
    clear HR2
    try clear w5
    obtain ⟨w5, hw5⟩ : ∃ w5, w5 = w6 := ⟨_, rfl⟩
    rw [← hw5] at HR ⊢
    clear hw5
    try clear w6
    have c0 := (HR.out.got 0 _ rfl).1
    have c1 := (HR.out.got 1 _ rfl).1
    have c2 := (HR.out.got 2 _ rfl).1
    have c3 := (HR.out.got 3 _ rfl).1
    have c4 := (HR.out.got 4 _ rfl).1
    dsimp only at c0 c1 c2 c3 c4
    go_upto_region 11 with (go_at_call 17; refine (HT.out _).mono ?_; rintro e w7 ⟨rfl, hb7⟩; have HR2 := Shut.mk (HR.out.below hb7); clear hb7 HR c0 c1 c2 c3 c4; have HR := HR2; clear HR2)
    have HB := Shut.mk HR.out.2.2.2.2.2
    obtain ⟨z0, y0⟩ := HR.out.swap.got 0 _ rfl
    obtain ⟨z1, y1⟩ := HR.out.swap.got 1 _ rfl
    obtain ⟨z2, y2⟩ := HR.out.swap.got 2 _ rfl
    obtain ⟨z3, y3⟩ := HR.out.swap.got 3 _ rfl
    obtain ⟨z4, y4⟩ := HR.out.swap.got 4 _ rfl
    cases b1 with
    | false =>
      go_wp2_with fail
      have HP := Shut.mk (HR.out.put zeroE)
      change bodyPost _ _ _ _ _ (put5 w7 w.heap.size zeroE)
      generalize put5 w7 w.heap.size zeroE = w8 at HP ⊢
      obtain ⟨g0, -⟩ := HP.out.swap.got 0 _ rfl
      obtain ⟨g1, -⟩ := HP.out.swap.got 1 _ rfl
      obtain ⟨g2, -⟩ := HP.out.swap.got 2 _ rfl
      obtain ⟨g3, -⟩ := HP.out.swap.got 3 _ rfl
      obtain ⟨g4, -⟩ := HP.out.swap.got 4 _ rfl
      refine bodyPost_ret (v := .tuple #[ev zeroE, .bool false]) (by simp [results, Try.results14, go_sem, g0, g1, g2, g3, g4]) rfl ⟨by rw [HRE.out]; rfl, HP.out.2.2.2.2.2⟩
    | true =>
    cases b2 with
    | false =>
      go_wp2_with fail
      have HP := Shut.mk (HR.out.put zeroE)
      change bodyPost _ _ _ _ _ (put5 w7 w.heap.size zeroE)
      generalize put5 w7 w.heap.size zeroE = w8 at HP ⊢
      obtain ⟨g0, -⟩ := HP.out.swap.got 0 _ rfl
      obtain ⟨g1, -⟩ := HP.out.swap.got 1 _ rfl
      obtain ⟨g2, -⟩ := HP.out.swap.got 2 _ rfl
      obtain ⟨g3, -⟩ := HP.out.swap.got 3 _ rfl
      obtain ⟨g4, -⟩ := HP.out.swap.got 4 _ rfl
      refine bodyPost_ret (v := .tuple #[ev zeroE, .bool false]) (by simp [results, Try.results14, go_sem, g0, g1, g2, g3, g4]) rfl ⟨by rw [HRE.out]; rfl, HP.out.2.2.2.2.2⟩
    | true =>
    cases b3 with
    | false =>
      go_wp2_with fail
      have HP := Shut.mk (HR.out.put zeroE)
      change bodyPost _ _ _ _ _ (put5 w7 w.heap.size zeroE)
      generalize put5 w7 w.heap.size zeroE = w8 at HP ⊢
      obtain ⟨g0, -⟩ := HP.out.swap.got 0 _ rfl
      obtain ⟨g1, -⟩ := HP.out.swap.got 1 _ rfl
      obtain ⟨g2, -⟩ := HP.out.swap.got 2 _ rfl
      obtain ⟨g3, -⟩ := HP.out.swap.got 3 _ rfl
      obtain ⟨g4, -⟩ := HP.out.swap.got 4 _ rfl
      refine bodyPost_ret (v := .tuple #[ev zeroE, .bool false]) (by simp [results, Try.results14, go_sem, g0, g1, g2, g3, g4]) rfl ⟨by rw [HRE.out]; rfl, HP.out.2.2.2.2.2⟩
    | true =>
    cases b4 with
    | false =>
      go_wp2_with fail
      have HP := Shut.mk (HR.out.put zeroE)
      change bodyPost _ _ _ _ _ (put5 w7 w.heap.size zeroE)
      generalize put5 w7 w.heap.size zeroE = w8 at HP ⊢
      obtain ⟨g0, -⟩ := HP.out.swap.got 0 _ rfl
      obtain ⟨g1, -⟩ := HP.out.swap.got 1 _ rfl
      obtain ⟨g2, -⟩ := HP.out.swap.got 2 _ rfl
      obtain ⟨g3, -⟩ := HP.out.swap.got 3 _ rfl
      obtain ⟨g4, -⟩ := HP.out.swap.got 4 _ rfl
      refine bodyPost_ret (v := .tuple #[ev zeroE, .bool false]) (by simp [results, Try.results14, go_sem, g0, g1, g2, g3, g4]) rfl ⟨by rw [HRE.out]; rfl, HP.out.2.2.2.2.2⟩
    | true =>
    have hbt := HBT.out rfl
    by_cases hbk : BK = s
    · obtain ⟨c0, -⟩ := HR.out.got 0 _ rfl
      obtain ⟨c1, -⟩ := HR.out.got 1 _ rfl
      obtain ⟨c2, -⟩ := HR.out.got 2 _ rfl
      obtain ⟨c3, -⟩ := HR.out.got 3 _ rfl
      obtain ⟨c4, -⟩ := HR.out.got 4 _ rfl
      dsimp only at c0 c1 c2 c3 c4
      have HX := Shut.mk (hbt.symm.trans hbk)
      clear hbt
      subst hbk
      go_wp2_with fail
      have HP := Shut.mk (HR.out.put ⟨bt BK 0, path, dest, num, bt BK 1⟩)
      change bodyPost _ _ _ _ _ (put5 w7 w.heap.size ⟨bt BK 0, path, dest, num, bt BK 1⟩)
      generalize put5 w7 w.heap.size ⟨bt BK 0, path, dest, num, bt BK 1⟩ = w8 at HP ⊢
      obtain ⟨g0, -⟩ := HP.out.swap.got 0 _ rfl
      obtain ⟨g1, -⟩ := HP.out.swap.got 1 _ rfl
      obtain ⟨g2, -⟩ := HP.out.swap.got 2 _ rfl
      obtain ⟨g3, -⟩ := HP.out.swap.got 3 _ rfl
      obtain ⟨g4, -⟩ := HP.out.swap.got 4 _ rfl
      refine bodyPost_ret (v := .tuple #[ev ⟨bt BK 0, path, dest, num, bt BK 1⟩, .bool true]) (by simp [results, Try.results14, go_sem, g0, g1, g2, g3, g4]) rfl ⟨by rw [HRE.out, HX.out]; simp, HP.out.2.2.2.2.2⟩
    · have HX : Shut (decide (editT ⟨bt s 0, path, dest, num, bt s 1⟩ = s) = false) := ⟨decide_eq_false (fun h => hbk (hbt.trans h))⟩
      clear hbt
      have hne : (BK.toList == s.toList) = false := str_neE hbk
      have hne2 : (BK.toList != s.toList) = true := by rw [bne, hne]; rfl
      go_wp2_with fail
      have HP := Shut.mk (HR.out.put zeroE)
      change bodyPost _ _ _ _ _ (put5 w7 w.heap.size zeroE)
      generalize put5 w7 w.heap.size zeroE = w8 at HP ⊢
      obtain ⟨g0, -⟩ := HP.out.swap.got 0 _ rfl
      obtain ⟨g1, -⟩ := HP.out.swap.got 1 _ rfl
      obtain ⟨g2, -⟩ := HP.out.swap.got 2 _ rfl
      obtain ⟨g3, -⟩ := HP.out.swap.got 3 _ rfl
      obtain ⟨g4, -⟩ := HP.out.swap.got 4 _ rfl
      refine bodyPost_ret (v := .tuple #[ev zeroE, .bool false]) (by simp [results, Try.results14, go_sem, g0, g1, g2, g3, g4]) rfl ⟨by rw [HRE.out]; rw [HX.out]; rfl, HP.out.2.2.2.2.2⟩
end Go.Proofs.Ytdglbakdianjkaa
/- DrEdA: Draws of records: what is kept while one is made. -/
namespace Go.Proofs.Ytdglbakdianjkaa
open Go.RowKit
attribute [local go_sem ↓] Go.wp_at_zero Go.wp_at_succ

theorem Cur.other {w : World} {g B len cap : Nat} {a : Option Addr} (h : Cur w g B a len cap) (p : Addr) (v : Value) (hp : p.block ≠ g) (hB : B ≤ p.block) : Cur (w.setCell p v) g B a len cap := by
  obtain ⟨h1, h2, h3, h4, ⟨i, h5, h5'⟩, ⟨k, h6⟩, h7⟩ := h
  have hblk : ∀ q, q ≠ p.block → (w.setCell p v).heap[q]? = w.heap[q]? := fun q hq => Below.heap_setCell _ _ _ _ hq
  have hb : Below 0 w (w.setCell p v) := (Below.refl _ _).setCell (Nat.zero_le _) v
  refine ⟨h1, Nat.lt_of_lt_of_le h2 hb.size, ⟨h3.1, fun hp' => ?_⟩, (World.cell?_of_block (a := ⟨g, 0, none⟩) (hblk g (Ne.symm hp))).trans h4, ⟨i, (World.cell?_of_block (a := ⟨g, 1, none⟩) (hblk g (Ne.symm hp))).trans h5, h5'⟩, ⟨k, (World.cell?_of_block (a := ⟨g, 2, none⟩) (hblk g (Ne.symm hp))).trans h6⟩, fun j hj => (World.frozen?_of_block (a := ⟨g, j, none⟩) (hblk g (Ne.symm hp))).trans (h7 j hj)⟩
  obtain ⟨b, off, e, hbB, hx⟩ := h3.2 hp'
  exact ⟨b, off, e, hbB, fun j hj => (hx j hj).imp fun x hx => ⟨(World.cell?_of_block (a := ⟨b, off + j, none⟩) (hblk b (by omega))).trans hx.1, hx.2⟩⟩
/-- Numbers that were laid into a new row. -/
theorem new_ints (w : World) (t : TypeId) (L : List Int) (j : Nat) (hj : j < L.length) :
    ∃ y : Int, (w.alloc (.cells (L.map (Value.int .i64 ·)).toArray t)).cell? ⟨w.heap.size, j, none⟩ = some (.int .i64 y) := by
  rw [World.cell?_alloc_mark]
  exact ⟨L[j], by simp [hj]⟩
/-- A record that was drawn: its texts are short, and no z is in them. -/
def EPl (e : EM) : Prop := (e.path.size ≤ 16 ∧ noZ e.path = true) ∧ (e.dest.size ≤ 16 ∧ noZ e.dest = true)
theorem EPl.fit {e : EM} (h : EPl e) : EFit e := ⟨Nat.le_trans h.1.1 (by omega), Nat.le_trans h.2.1 (by omega)⟩
/-- A record in the making: the cursor, the answer's box, the record's box. -/
structure DE (w0 w : World) (g B : Nat) (a : Option Addr) (len cap A E : Nat) (X : EM) : Prop where
  cur : Cur w g B a len cap
  ans : WCells w A (ecells zeroE)
  box : WCells w E (ecells X)
  gr : w0.grownBy w (some g)
  ne : A ≠ E
  hA : w0.heap.size ≤ A
  hE : w0.heap.size ≤ E
  hg : g < w0.heap.size
  pl : EPl X
theorem DE.turn {w0 w w' : World} {g B len cap A E : Nat} {a : Option Addr} {X : EM} (h : DE w0 w g B a len cap A E X) (hc : Cur w' g B a len cap) (hg : w.grownBy w' (some g)) : DE w0 w' g B a len cap A E X :=
  ⟨hc, h.ans.apart hg (by have := h.hA; have := h.hg; omega), h.box.apart hg (by have := h.hE; have := h.hg; omega), gb_two h.gr hg, h.ne, h.hA, h.hE, h.hg, h.pl⟩
theorem gb_fresh {w0 w : World} {g : Nat} (h : w0.grownBy w (some g)) (p : Addr) (v : Value) (hp : w0.heap.size ≤ p.block) : w0.grownBy (w.setCell p v) (some g) := by
  have hb : Below 0 w (w.setCell p v) := (Below.refl _ _).setCell (Nat.zero_le _) v
  exact ⟨hb.os.trans h.os, hb.tape.trans h.tape, hb.output.trans h.output, Nat.le_trans h.size hb.size, fun k hk hn => (Below.heap_setCell _ _ _ _ (by omega)).trans (h.block k hk hn)⟩
theorem DE.set {w0 w : World} {g B len cap A E : Nat} {a : Option Addr} {X : EM} (h : DE w0 w g B a len cap A E X) (i : Nat) (v : Value) (Y : EM) (hi : i < 5) (hz : (ecells X).set i v = ecells Y) (hp : EPl Y) : DE w0 (w.setCell ⟨E, i, none⟩ v) g B a len cap A E Y :=
  ⟨h.cur.other _ _ (by have := h.hE; have := h.hg; show E ≠ g; omega) (by have := h.hE; have := h.hg; have := h.cur.1; show B ≤ E; omega), h.ans.other _ _ h.ne, by rw [← hz]; exact h.box.set i v (by rw [ecells_len]; exact hi), gb_fresh h.gr _ _ h.hE, h.ne, h.hA, h.hE, h.hg, hp⟩
theorem DE.got {w0 w : World} {g B len cap A E : Nat} {a : Option Addr} {X : EM} (h : DE w0 w g B a len cap A E X) : w.cell? ⟨E, 0, none⟩ = some (.int .i64 X.kind) ∧ w.cell? ⟨E, 1, none⟩ = some (.string X.path) ∧ w.cell? ⟨E, 2, none⟩ = some (.string X.dest) ∧ w.cell? ⟨E, 3, none⟩ = some (.int .i64 X.num) ∧ w.cell? ⟨E, 4, none⟩ = some (.int .i64 X.who) :=
  ⟨(h.box.2 0 _ rfl).1, (h.box.2 1 _ rfl).1, (h.box.2 2 _ rfl).1, (h.box.2 3 _ rfl).1, (h.box.2 4 _ rfl).1⟩
theorem DE.may {w0 w : World} {g B len cap A E : Nat} {a : Option Addr} {X : EM} (h : DE w0 w g B a len cap A E X) : w.frozen? ⟨E, 0, none⟩ = false ∧ w.frozen? ⟨E, 1, none⟩ = false ∧ w.frozen? ⟨E, 2, none⟩ = false ∧ w.frozen? ⟨E, 3, none⟩ = false ∧ w.frozen? ⟨E, 4, none⟩ = false :=
  ⟨(h.box.2 0 _ rfl).2, (h.box.2 1 _ rfl).2, (h.box.2 2 _ rfl).2, (h.box.2 3 _ rfl).2, (h.box.2 4 _ rfl).2⟩
theorem DE.room {w0 w : World} {g B len cap A E : Nat} {a : Option Addr} {X : EM} (h : DE w0 w g B a len cap A E X) : (w.cell? ⟨A, 0, none⟩ = some (.int .i64 0) ∧ w.frozen? ⟨A, 0, none⟩ = false) ∧ (w.cell? ⟨A, 1, none⟩ = some (.string ⟨#[]⟩) ∧ w.frozen? ⟨A, 1, none⟩ = false) ∧ (w.cell? ⟨A, 2, none⟩ = some (.string ⟨#[]⟩) ∧ w.frozen? ⟨A, 2, none⟩ = false) ∧ (w.cell? ⟨A, 3, none⟩ = some (.int .i64 0) ∧ w.frozen? ⟨A, 3, none⟩ = false) ∧ (w.cell? ⟨A, 4, none⟩ = some (.int .i64 0) ∧ w.frozen? ⟨A, 4, none⟩ = false) :=
  ⟨h.ans.2 0 _ rfl, h.ans.2 1 _ rfl, h.ans.2 2 _ rfl, h.ans.2 3 _ rfl, h.ans.2 4 _ rfl⟩
/-- What a draw of a record answers. -/
def EdDrawn (w : World) (g B : Nat) (a : Option Addr) (len cap : Nat) (e : Ending) (w' : World) : Prop :=
  ∃ X : EM, e = .returned (ev X) ∧ EPl X ∧ Cur w' g B a len cap ∧ w.grownBy w' (some g)
theorem DE.done {w0 w : World} {g B len cap A E : Nat} {a : Option Addr} {X : EM} (h : DE w0 w g B a len cap A E X) : EPl X ∧ WCells (put5 w A X) A (ecells X) ∧ Cur (put5 w A X) g B a len cap ∧ w0.grownBy (put5 w A X) (some g) := by
  have hAg : A ≠ g := by have := h.hA; have := h.hg; omega
  have hBA : B ≤ A := by have := h.hA; have := h.hg; have := h.cur.1; omega
  refine ⟨h.pl, ?_, ?_, ?_⟩
  · exact ((((h.ans.set 0 (.int .i64 X.kind) (by simp [ecells])).set 1 (.string X.path) (by simp [ecells])).set 2 (.string X.dest) (by simp [ecells])).set 3 (.int .i64 X.num) (by simp [ecells])).set 4 (.int .i64 X.who) (by simp [ecells])
  · exact ((((h.cur.other ⟨A, 0, none⟩ _ hAg hBA).other ⟨A, 1, none⟩ _ hAg hBA).other ⟨A, 2, none⟩ _ hAg hBA).other ⟨A, 3, none⟩ _ hAg hBA).other ⟨A, 4, none⟩ _ hAg hBA
  · exact gb_fresh (gb_fresh (gb_fresh (gb_fresh (gb_fresh h.gr ⟨A, 0, none⟩ _ h.hA) ⟨A, 1, none⟩ _ h.hA) ⟨A, 2, none⟩ _ h.hA) ⟨A, 3, none⟩ _ h.hA) ⟨A, 4, none⟩ _ h.hA
end Go.Proofs.Ytdglbakdianjkaa
/- DrEdB: The model's draws of a record. -/
namespace Go.Proofs.Ytdglbakdianjkaa
open Go.RowKit
attribute [local go_sem ↓] Go.wp_at_zero Go.wp_at_succ

theorem epl_ {k n o : Int} {p t : ByteArray} (h1 : p.size ≤ 16 ∧ noZ p = true) (h2 : t.size ≤ 16 ∧ noZ t = true) : EPl ⟨k, p, t, n, o⟩ := ⟨h1, h2⟩
theorem pl_none : (⟨#[]⟩ : ByteArray).size ≤ 16 ∧ noZ ⟨#[]⟩ = true := ⟨by decide, rfl⟩
theorem pl_root : (⟨#[47]⟩ : ByteArray).size ≤ 16 ∧ noZ ⟨#[47]⟩ = true := ⟨by decide, rfl⟩
theorem de_new {w0 w : World} {g B len cap A : Nat} {a : Option Addr} (X : EM) (T : TypeId) (hc : Cur w g B a len cap) (hA : WCells w A (ecells zeroE)) (hg : w0.grownBy w (some g)) (h1 : w0.heap.size ≤ A) (h2 : g < w0.heap.size) (hp : EPl X) :
    DE w0 (w.alloc (.cells #[.int .i64 X.kind, .string X.path, .string X.dest, .int .i64 X.num, .int .i64 X.who] T)) g B a len cap A w.heap.size X :=
  ⟨hc.below ((Below.refl _ _).alloc (Nat.le_refl _) _), hA.alloc _, wcells_new w #[.int .i64 X.kind, .string X.path, .string X.dest, .int .i64 X.num, .int .i64 X.who] T, gb_two hg (gb_below ((Below.refl _ _).alloc (Nat.le_refl _) _)), by have := hA.1; omega, h1, hg.size, h2, hp⟩
set_option maxRecDepth 100000 in
set_option maxHeartbeats 4000000 in
theorem l11Edit_any (w : World) (g B : Nat) (a : Option Addr) (len cap : Nat) (hc : Cur w g B a len cap) :
    Calls Try.prog 36 #[.pointer (some ⟨g, 0, none⟩)] w fun e w' => EdDrawn w g B a len cap e w' := by
  have HC := Shut.mk hc
  have hgw := Shut.mk hc.2.1
  have HA0 : Shut (WCells (w.alloc (.cells #[.int .i64 0, .string ⟨#[]⟩, .string ⟨#[]⟩, .int .i64 0, .int .i64 0] 25)) w.heap.size (ecells zeroE)) := ⟨wcells_new w #[.int .i64 0, .string ⟨#[]⟩, .string ⟨#[]⟩, .int .i64 0, .int .i64 0] 25⟩
  clear hc
  go_enter Try.func36, Try.ntmps36
  go_upto_region 1 with fail
  obtain ⟨w0, hw0⟩ : ∃ w0, w0 = w.alloc (.cells #[.int .i64 0, .string ⟨#[]⟩, .string ⟨#[]⟩, .int .i64 0, .int .i64 0] 25) := ⟨_, rfl⟩
  have HB0 : Shut (Below w.heap.size w w0) := ⟨by rw [hw0]; exact (Below.refl _ _).alloc (Nat.le_refl _) _⟩
  rw [← hw0] at HA0 ⊢
  clear hw0
  have HC0 := Shut.mk (HC.out.below HB0.out)
  have hlit : (#[.int .i64 1, .int .i64 1, .int .i64 1, .int .i64 2, .int .i64 2, .int .i64 2, .int .i64 3, .int .i64 4, .int .i64 5, .int .i64 6, .int .i64 7, .int .i64 7, .int .i64 7, .int .i64 8, .int .i64 9, .int .i64 10] : Array Value) = (List.map (Value.int .i64 ·) [1, 1, 1, 2, 2, 2, 3, 4, 5, 6, 7, 7, 7, 8, 9, 10]).toArray := rfl
  have HL := Shut.mk (new_ints w0 3 [1, 1, 1, 2, 2, 2, 3, 4, 5, 6, 7, 7, 7, 8, 9, 10])
  rw [← hlit] at HL
  clear hlit
  go_upto_region 2 with (first
    | (go_at_call 39; refine (l01PickInt_any _ g B a len cap w0.heap.size 16 (by decide) (by decide) (by have := HC0.out.2.1; omega) HL.out (HC0.out.below ((Below.refl _ _).alloc (Nat.le_refl _) _))).mono ?_; rintro e w1 ⟨kind, rfl, hc1, hg1⟩; have HC1 := Shut.mk hc1; have HG1 := Shut.mk (gb_two (gb_below (HB0.out.alloc HB0.out.size _)) hg1); have HA1 := Shut.mk ((HA0.out.alloc _).apart hg1 (by have := hgw.out; omega)); clear hc1 hg1)
    | (go_at_call 48; refine (l09Path_any _ g B a len cap HC1.out).mono ?_; rintro e w2 ⟨path, rfl, hp, hc2, hg2⟩; have HP := Shut.mk hp; have HC2 := Shut.mk hc2; have HG2 := Shut.mk (gb_two HG1.out hg2); have HA2 := Shut.mk (HA1.out.apart hg2 (by have := hgw.out; omega)); clear hp hc2 hg2))
  have H9 := Shut.mk (de_new ⟨kind, path, ⟨#[]⟩, 0, 0⟩ 25 HC2.out HA2.out HG2.out (Nat.le_refl _) hgw.out (epl_ HP.out pl_none))
  dsimp only at H9
  generalize w2.alloc (.cells #[.int .i64 kind, .string path, .string ⟨#[]⟩, .int .i64 0, .int .i64 0] 25) = W at H9 ⊢
  generalize w2.heap.size = E at H9 ⊢
  have hne1 : ¬ (w.heap.size = E) := H9.out.ne
  have hne2 : ¬ (E = w.heap.size) := fun h => H9.out.ne h.symm
  clear HC2 HA2 HG2 HC1 HA1 HG1 HC0 HA0 HB0 HL HC hgw
  obtain ⟨c0, c1, c2, c3, c4⟩ := H9.out.got
  obtain ⟨f0, f1, f2, f3, f4⟩ := H9.out.may
  dsimp only at c0 c1 c2 c3 c4
  by_cases q2 : kind = 2
  · have bt2 : (kind == 2) = true := by simp; omega
    have b5 : (kind == 5) = false := by simp; omega
    have b6 : (kind == 6) = false := by simp; omega
    clear q2
    go_upto_region 16 with (go_at_call 37; refine (l01Below_any W g B a len cap 3 (by omega) H9.out.cur).mono ?_; rintro e w4 ⟨x, rfl, x0, x1, hc4, hg4⟩; have x2 : x ≤ 3 := (by omega); replace H9 := Shut.mk (H9.out.turn hc4 hg4); clear hc4 hg4 c0 c1 c2 c3 c4 f0 f1 f2 f3 f4; obtain ⟨c0, c1, c2, c3, c4⟩ := H9.out.got; obtain ⟨f0, f1, f2, f3, f4⟩ := H9.out.may; dsimp only at c0 c1 c2 c3 c4)
    obtain ⟨W4, hW4⟩ : ∃ W4, W4 = World.setCell w4 ⟨E, 4, none⟩ (.int .i64 (1 + x)) := ⟨_, rfl⟩
    rw [← hW4]
    replace H9 : Shut (DE w W4 g B a len cap w.heap.size E ⟨kind, path, ⟨#[]⟩, 0, 1 + x⟩) := ⟨by rw [hW4]; exact H9.out.set 4 _ _ (by omega) rfl (epl_ HP.out pl_none)⟩
    clear hW4 c0 c1 c2 c3 c4 f0 f1 f2 f3 f4
    obtain ⟨c0, c1, c2, c3, c4⟩ := H9.out.got
    obtain ⟨f0, f1, f2, f3, f4⟩ := H9.out.may
    obtain ⟨⟨r0, s0⟩, ⟨r1, s1⟩, ⟨r2, s2⟩, ⟨r3, s3⟩, ⟨r4, s4⟩⟩ := H9.out.room
    dsimp only at c0 c1 c2 c3 c4
    go_wp2_with fail
    have HD := Shut.mk (H9.out.done)
    change bodyPost _ _ _ _ _ (put5 W4 w.heap.size ⟨kind, path, ⟨#[]⟩, 0, 1 + x⟩)
    generalize put5 W4 w.heap.size ⟨kind, path, ⟨#[]⟩, 0, 1 + x⟩ = w8 at HD ⊢
    obtain ⟨k0, -⟩ := HD.out.2.1.2 0 _ rfl
    obtain ⟨k1, -⟩ := HD.out.2.1.2 1 _ rfl
    obtain ⟨k2, -⟩ := HD.out.2.1.2 2 _ rfl
    obtain ⟨k3, -⟩ := HD.out.2.1.2 3 _ rfl
    obtain ⟨k4, -⟩ := HD.out.2.1.2 4 _ rfl
    dsimp only at k0 k1 k2 k3 k4
    refine bodyPost_ret (v := ev ⟨kind, path, ⟨#[]⟩, 0, 1 + x⟩) (by simp [results, Try.results36, go_sem, k0, k1, k2, k3, k4]) rfl ⟨_, rfl, HD.out.1, HD.out.2.2.1, HD.out.2.2.2⟩
  have b2 : (kind == 2) = false := by simp; omega
  by_cases q9 : kind = 9
  · have bt9 : (kind == 9) = true := by simp; omega
    have b5 : (kind == 5) = false := by simp; omega
    have b6 : (kind == 6) = false := by simp; omega
    clear q9
    go_upto_region 16 with (go_at_call 37; refine (l01Below_any W g B a len cap 3 (by omega) H9.out.cur).mono ?_; rintro e w4 ⟨x, rfl, x0, x1, hc4, hg4⟩; have x2 : x ≤ 3 := (by omega); replace H9 := Shut.mk (H9.out.turn hc4 hg4); clear hc4 hg4 c0 c1 c2 c3 c4 f0 f1 f2 f3 f4; obtain ⟨c0, c1, c2, c3, c4⟩ := H9.out.got; obtain ⟨f0, f1, f2, f3, f4⟩ := H9.out.may; dsimp only at c0 c1 c2 c3 c4)
    obtain ⟨W4, hW4⟩ : ∃ W4, W4 = World.setCell w4 ⟨E, 4, none⟩ (.int .i64 (1 + x)) := ⟨_, rfl⟩
    rw [← hW4]
    replace H9 : Shut (DE w W4 g B a len cap w.heap.size E ⟨kind, path, ⟨#[]⟩, 0, 1 + x⟩) := ⟨by rw [hW4]; exact H9.out.set 4 _ _ (by omega) rfl (epl_ HP.out pl_none)⟩
    clear hW4 c0 c1 c2 c3 c4 f0 f1 f2 f3 f4
    obtain ⟨c0, c1, c2, c3, c4⟩ := H9.out.got
    obtain ⟨f0, f1, f2, f3, f4⟩ := H9.out.may
    obtain ⟨⟨r0, s0⟩, ⟨r1, s1⟩, ⟨r2, s2⟩, ⟨r3, s3⟩, ⟨r4, s4⟩⟩ := H9.out.room
    dsimp only at c0 c1 c2 c3 c4
    go_wp2_with fail
    have HD := Shut.mk (H9.out.done)
    change bodyPost _ _ _ _ _ (put5 W4 w.heap.size ⟨kind, path, ⟨#[]⟩, 0, 1 + x⟩)
    generalize put5 W4 w.heap.size ⟨kind, path, ⟨#[]⟩, 0, 1 + x⟩ = w8 at HD ⊢
    obtain ⟨k0, -⟩ := HD.out.2.1.2 0 _ rfl
    obtain ⟨k1, -⟩ := HD.out.2.1.2 1 _ rfl
    obtain ⟨k2, -⟩ := HD.out.2.1.2 2 _ rfl
    obtain ⟨k3, -⟩ := HD.out.2.1.2 3 _ rfl
    obtain ⟨k4, -⟩ := HD.out.2.1.2 4 _ rfl
    dsimp only at k0 k1 k2 k3 k4
    refine bodyPost_ret (v := ev ⟨kind, path, ⟨#[]⟩, 0, 1 + x⟩) (by simp [results, Try.results36, go_sem, k0, k1, k2, k3, k4]) rfl ⟨_, rfl, HD.out.1, HD.out.2.2.1, HD.out.2.2.2⟩
  have b9 : (kind == 9) = false := by simp; omega
  by_cases q3 : kind = 3
  · have bt3 : (kind == 3) = true := by simp; omega
    have b5 : (kind == 5) = false := by simp; omega
    have b6 : (kind == 6) = false := by simp; omega
    clear q3
    go_upto_region 16 with (go_at_call 48; refine (l09Path_any W g B a len cap H9.out.cur).mono ?_; rintro e w4 ⟨t, rfl, ht, hc4, hg4⟩; have HT := Shut.mk ht; replace H9 := Shut.mk (H9.out.turn hc4 hg4); clear ht hc4 hg4 c0 c1 c2 c3 c4 f0 f1 f2 f3 f4; obtain ⟨c0, c1, c2, c3, c4⟩ := H9.out.got; obtain ⟨f0, f1, f2, f3, f4⟩ := H9.out.may; dsimp only at c0 c1 c2 c3 c4)
    obtain ⟨W4, hW4⟩ : ∃ W4, W4 = World.setCell w4 ⟨E, 2, none⟩ (.string t) := ⟨_, rfl⟩
    rw [← hW4]
    replace H9 : Shut (DE w W4 g B a len cap w.heap.size E ⟨kind, path, t, 0, 0⟩) := ⟨by rw [hW4]; exact H9.out.set 2 _ _ (by omega) rfl (epl_ HP.out HT.out)⟩
    clear hW4 c0 c1 c2 c3 c4 f0 f1 f2 f3 f4
    obtain ⟨c0, c1, c2, c3, c4⟩ := H9.out.got
    obtain ⟨f0, f1, f2, f3, f4⟩ := H9.out.may
    obtain ⟨⟨r0, s0⟩, ⟨r1, s1⟩, ⟨r2, s2⟩, ⟨r3, s3⟩, ⟨r4, s4⟩⟩ := H9.out.room
    dsimp only at c0 c1 c2 c3 c4
    go_wp2_with fail
    have HD := Shut.mk (H9.out.done)
    change bodyPost _ _ _ _ _ (put5 W4 w.heap.size ⟨kind, path, t, 0, 0⟩)
    generalize put5 W4 w.heap.size ⟨kind, path, t, 0, 0⟩ = w8 at HD ⊢
    obtain ⟨k0, -⟩ := HD.out.2.1.2 0 _ rfl
    obtain ⟨k1, -⟩ := HD.out.2.1.2 1 _ rfl
    obtain ⟨k2, -⟩ := HD.out.2.1.2 2 _ rfl
    obtain ⟨k3, -⟩ := HD.out.2.1.2 3 _ rfl
    obtain ⟨k4, -⟩ := HD.out.2.1.2 4 _ rfl
    dsimp only at k0 k1 k2 k3 k4
    refine bodyPost_ret (v := ev ⟨kind, path, t, 0, 0⟩) (by simp [results, Try.results36, go_sem, k0, k1, k2, k3, k4]) rfl ⟨_, rfl, HD.out.1, HD.out.2.2.1, HD.out.2.2.2⟩
  have b3 : (kind == 3) = false := by simp; omega
  by_cases q5 : kind = 5
  · have bt5 : (kind == 5) = true := by simp; omega
    have b6 : (kind == 6) = false := by simp; omega
    clear q5
    go_upto_region 16 with (go_at_call 37; refine (l01Below_any W g B a len cap 3 (by omega) H9.out.cur).mono ?_; rintro e w4 ⟨x, rfl, x0, x1, hc4, hg4⟩; have x2 : x ≤ 3 := (by omega); replace H9 := Shut.mk (H9.out.turn hc4 hg4); clear hc4 hg4 c0 c1 c2 c3 c4 f0 f1 f2 f3 f4; obtain ⟨c0, c1, c2, c3, c4⟩ := H9.out.got; obtain ⟨f0, f1, f2, f3, f4⟩ := H9.out.may; dsimp only at c0 c1 c2 c3 c4)
    obtain ⟨W4, hW4⟩ : ∃ W4, W4 = World.setCell w4 ⟨E, 3, none⟩ (.int .i64 (1 + x)) := ⟨_, rfl⟩
    rw [← hW4]
    replace H9 : Shut (DE w W4 g B a len cap w.heap.size E ⟨kind, path, ⟨#[]⟩, 1 + x, 0⟩) := ⟨by rw [hW4]; exact H9.out.set 3 _ _ (by omega) rfl (epl_ HP.out pl_none)⟩
    clear hW4 c0 c1 c2 c3 c4 f0 f1 f2 f3 f4
    obtain ⟨c0, c1, c2, c3, c4⟩ := H9.out.got
    obtain ⟨f0, f1, f2, f3, f4⟩ := H9.out.may
    obtain ⟨⟨r0, s0⟩, ⟨r1, s1⟩, ⟨r2, s2⟩, ⟨r3, s3⟩, ⟨r4, s4⟩⟩ := H9.out.room
    dsimp only at c0 c1 c2 c3 c4
    have HO := Shut.mk (l01Once_any W4 g B a len cap 3 (by omega) H9.out.cur)
    go_wp2_with (go_at_call 31; refine HO.out.mono ?_; rintro e w6 ⟨bb, rfl, hc6, hg6⟩; replace H9 := Shut.mk (H9.out.turn hc6 hg6); clear c0 c1 c2 c3 c4 f0 f1 f2 f3 f4 r0 r1 r2 r3 r4 s0 s1 s2 s3 s4 hc6 hg6; obtain ⟨c0, c1, c2, c3, c4⟩ := H9.out.got; obtain ⟨f0, f1, f2, f3, f4⟩ := H9.out.may; obtain ⟨⟨r0, s0⟩, ⟨r1, s1⟩, ⟨r2, s2⟩, ⟨r3, s3⟩, ⟨r4, s4⟩⟩ := H9.out.room; dsimp only at c0 c1 c2 c3 c4; cases bb)
    · have HD := Shut.mk (H9.out.done)
      change bodyPost _ _ _ _ _ (put5 w6 w.heap.size ⟨kind, path, ⟨#[]⟩, 1 + x, 0⟩)
      generalize put5 w6 w.heap.size ⟨kind, path, ⟨#[]⟩, 1 + x, 0⟩ = w8 at HD ⊢
      obtain ⟨k0, -⟩ := HD.out.2.1.2 0 _ rfl
      obtain ⟨k1, -⟩ := HD.out.2.1.2 1 _ rfl
      obtain ⟨k2, -⟩ := HD.out.2.1.2 2 _ rfl
      obtain ⟨k3, -⟩ := HD.out.2.1.2 3 _ rfl
      obtain ⟨k4, -⟩ := HD.out.2.1.2 4 _ rfl
      dsimp only at k0 k1 k2 k3 k4
      refine bodyPost_ret (v := ev ⟨kind, path, ⟨#[]⟩, 1 + x, 0⟩) (by simp [results, Try.results36, go_sem, k0, k1, k2, k3, k4]) rfl ⟨_, rfl, HD.out.1, HD.out.2.2.1, HD.out.2.2.2⟩
    · replace H9 := Shut.mk (H9.out.set 1 (.string ⟨#[47]⟩) ⟨kind, ⟨#[47]⟩, ⟨#[]⟩, 1 + x, 0⟩ (by omega) rfl (epl_ pl_root pl_none))
      have HD := Shut.mk (H9.out.done)
      change bodyPost _ _ _ _ _ (put5 (w6.setCell ⟨E, 1, none⟩ (.string ⟨#[47]⟩)) w.heap.size ⟨kind, ⟨#[47]⟩, ⟨#[]⟩, 1 + x, 0⟩)
      generalize put5 (w6.setCell ⟨E, 1, none⟩ (.string ⟨#[47]⟩)) w.heap.size ⟨kind, ⟨#[47]⟩, ⟨#[]⟩, 1 + x, 0⟩ = w8 at HD ⊢
      obtain ⟨k0, -⟩ := HD.out.2.1.2 0 _ rfl
      obtain ⟨k1, -⟩ := HD.out.2.1.2 1 _ rfl
      obtain ⟨k2, -⟩ := HD.out.2.1.2 2 _ rfl
      obtain ⟨k3, -⟩ := HD.out.2.1.2 3 _ rfl
      obtain ⟨k4, -⟩ := HD.out.2.1.2 4 _ rfl
      dsimp only at k0 k1 k2 k3 k4
      refine bodyPost_ret (v := ev ⟨kind, ⟨#[47]⟩, ⟨#[]⟩, 1 + x, 0⟩) (by simp [results, Try.results36, go_sem, k0, k1, k2, k3, k4]) rfl ⟨_, rfl, HD.out.1, HD.out.2.2.1, HD.out.2.2.2⟩
  have b5 : (kind == 5) = false := by simp; omega
  by_cases q6 : kind = 6
  · have bt6 : (kind == 6) = true := by simp; omega
    have hlit : (#[.int .i64 0, .int .i64 20, .int .i64 60, .int .i64 1000] : Array Value) = (List.map (Value.int .i64 ·) [0, 20, 60, 1000]).toArray := rfl
    have HL := Shut.mk (new_ints W 3 [0, 20, 60, 1000])
    rw [← hlit] at HL
    clear hlit
    clear q6
    go_upto_region 16 with (go_at_call 39; refine (l01PickInt_any _ g B a len cap W.heap.size 4 (by decide) (by decide) (by have := H9.out.cur.2.1; omega) HL.out (H9.out.cur.below ((Below.refl _ _).alloc (Nat.le_refl _) _))).mono ?_; rintro e w4 ⟨x, rfl, hc4, hg4⟩; replace H9 := Shut.mk (H9.out.turn hc4 (gb_two (gb_below ((Below.refl _ _).alloc (Nat.le_refl _) _)) hg4)); clear hc4 hg4 c0 c1 c2 c3 c4 f0 f1 f2 f3 f4; obtain ⟨c0, c1, c2, c3, c4⟩ := H9.out.got; obtain ⟨f0, f1, f2, f3, f4⟩ := H9.out.may; dsimp only at c0 c1 c2 c3 c4)
    obtain ⟨W4, hW4⟩ : ∃ W4, W4 = World.setCell w4 ⟨E, 3, none⟩ (.int .i64 x) := ⟨_, rfl⟩
    rw [← hW4]
    replace H9 : Shut (DE w W4 g B a len cap w.heap.size E ⟨kind, path, ⟨#[]⟩, x, 0⟩) := ⟨by rw [hW4]; exact H9.out.set 3 _ _ (by omega) rfl (epl_ HP.out pl_none)⟩
    clear hW4 c0 c1 c2 c3 c4 f0 f1 f2 f3 f4
    obtain ⟨c0, c1, c2, c3, c4⟩ := H9.out.got
    obtain ⟨f0, f1, f2, f3, f4⟩ := H9.out.may
    obtain ⟨⟨r0, s0⟩, ⟨r1, s1⟩, ⟨r2, s2⟩, ⟨r3, s3⟩, ⟨r4, s4⟩⟩ := H9.out.room
    dsimp only at c0 c1 c2 c3 c4
    have HO := Shut.mk (l01Once_any W4 g B a len cap 3 (by omega) H9.out.cur)
    go_wp2_with (go_at_call 31; refine HO.out.mono ?_; rintro e w6 ⟨bb, rfl, hc6, hg6⟩; replace H9 := Shut.mk (H9.out.turn hc6 hg6); clear c0 c1 c2 c3 c4 f0 f1 f2 f3 f4 r0 r1 r2 r3 r4 s0 s1 s2 s3 s4 hc6 hg6; obtain ⟨c0, c1, c2, c3, c4⟩ := H9.out.got; obtain ⟨f0, f1, f2, f3, f4⟩ := H9.out.may; obtain ⟨⟨r0, s0⟩, ⟨r1, s1⟩, ⟨r2, s2⟩, ⟨r3, s3⟩, ⟨r4, s4⟩⟩ := H9.out.room; dsimp only at c0 c1 c2 c3 c4; cases bb)
    · have HD := Shut.mk (H9.out.done)
      change bodyPost _ _ _ _ _ (put5 w6 w.heap.size ⟨kind, path, ⟨#[]⟩, x, 0⟩)
      generalize put5 w6 w.heap.size ⟨kind, path, ⟨#[]⟩, x, 0⟩ = w8 at HD ⊢
      obtain ⟨k0, -⟩ := HD.out.2.1.2 0 _ rfl
      obtain ⟨k1, -⟩ := HD.out.2.1.2 1 _ rfl
      obtain ⟨k2, -⟩ := HD.out.2.1.2 2 _ rfl
      obtain ⟨k3, -⟩ := HD.out.2.1.2 3 _ rfl
      obtain ⟨k4, -⟩ := HD.out.2.1.2 4 _ rfl
      dsimp only at k0 k1 k2 k3 k4
      refine bodyPost_ret (v := ev ⟨kind, path, ⟨#[]⟩, x, 0⟩) (by simp [results, Try.results36, go_sem, k0, k1, k2, k3, k4]) rfl ⟨_, rfl, HD.out.1, HD.out.2.2.1, HD.out.2.2.2⟩
    · replace H9 := Shut.mk (H9.out.set 1 (.string ⟨#[47]⟩) ⟨kind, ⟨#[47]⟩, ⟨#[]⟩, x, 0⟩ (by omega) rfl (epl_ pl_root pl_none))
      have HD := Shut.mk (H9.out.done)
      change bodyPost _ _ _ _ _ (put5 (w6.setCell ⟨E, 1, none⟩ (.string ⟨#[47]⟩)) w.heap.size ⟨kind, ⟨#[47]⟩, ⟨#[]⟩, x, 0⟩)
      generalize put5 (w6.setCell ⟨E, 1, none⟩ (.string ⟨#[47]⟩)) w.heap.size ⟨kind, ⟨#[47]⟩, ⟨#[]⟩, x, 0⟩ = w8 at HD ⊢
      obtain ⟨k0, -⟩ := HD.out.2.1.2 0 _ rfl
      obtain ⟨k1, -⟩ := HD.out.2.1.2 1 _ rfl
      obtain ⟨k2, -⟩ := HD.out.2.1.2 2 _ rfl
      obtain ⟨k3, -⟩ := HD.out.2.1.2 3 _ rfl
      obtain ⟨k4, -⟩ := HD.out.2.1.2 4 _ rfl
      dsimp only at k0 k1 k2 k3 k4
      refine bodyPost_ret (v := ev ⟨kind, ⟨#[47]⟩, ⟨#[]⟩, x, 0⟩) (by simp [results, Try.results36, go_sem, k0, k1, k2, k3, k4]) rfl ⟨_, rfl, HD.out.1, HD.out.2.2.1, HD.out.2.2.2⟩
  have b6 : (kind == 6) = false := by simp; omega
  by_cases q7 : kind = 7
  · have bt7 : (kind == 7) = true := by simp; omega
    
    clear q7
    go_upto_region 16 with (go_at_call 37; refine (l01Below_any W g B a len cap 60 (by omega) H9.out.cur).mono ?_; rintro e w4 ⟨x, rfl, x0, x1, hc4, hg4⟩; have x2 : x ≤ 60 := (by omega); replace H9 := Shut.mk (H9.out.turn hc4 hg4); clear hc4 hg4 c0 c1 c2 c3 c4 f0 f1 f2 f3 f4; obtain ⟨c0, c1, c2, c3, c4⟩ := H9.out.got; obtain ⟨f0, f1, f2, f3, f4⟩ := H9.out.may; dsimp only at c0 c1 c2 c3 c4)
    obtain ⟨W4, hW4⟩ : ∃ W4, W4 = World.setCell w4 ⟨E, 3, none⟩ (.int .i64 (1 + x)) := ⟨_, rfl⟩
    rw [← hW4]
    replace H9 : Shut (DE w W4 g B a len cap w.heap.size E ⟨kind, path, ⟨#[]⟩, 1 + x, 0⟩) := ⟨by rw [hW4]; exact H9.out.set 3 _ _ (by omega) rfl (epl_ HP.out pl_none)⟩
    clear hW4 c0 c1 c2 c3 c4 f0 f1 f2 f3 f4
    obtain ⟨c0, c1, c2, c3, c4⟩ := H9.out.got
    obtain ⟨f0, f1, f2, f3, f4⟩ := H9.out.may
    obtain ⟨⟨r0, s0⟩, ⟨r1, s1⟩, ⟨r2, s2⟩, ⟨r3, s3⟩, ⟨r4, s4⟩⟩ := H9.out.room
    dsimp only at c0 c1 c2 c3 c4
    go_wp2_with fail
    have HD := Shut.mk (H9.out.done)
    change bodyPost _ _ _ _ _ (put5 W4 w.heap.size ⟨kind, path, ⟨#[]⟩, 1 + x, 0⟩)
    generalize put5 W4 w.heap.size ⟨kind, path, ⟨#[]⟩, 1 + x, 0⟩ = w8 at HD ⊢
    obtain ⟨k0, -⟩ := HD.out.2.1.2 0 _ rfl
    obtain ⟨k1, -⟩ := HD.out.2.1.2 1 _ rfl
    obtain ⟨k2, -⟩ := HD.out.2.1.2 2 _ rfl
    obtain ⟨k3, -⟩ := HD.out.2.1.2 3 _ rfl
    obtain ⟨k4, -⟩ := HD.out.2.1.2 4 _ rfl
    dsimp only at k0 k1 k2 k3 k4
    refine bodyPost_ret (v := ev ⟨kind, path, ⟨#[]⟩, 1 + x, 0⟩) (by simp [results, Try.results36, go_sem, k0, k1, k2, k3, k4]) rfl ⟨_, rfl, HD.out.1, HD.out.2.2.1, HD.out.2.2.2⟩
  have b7 : (kind == 7) = false := by simp; omega
  by_cases q10 : kind = 10
  · have bt10 : (kind == 10) = true := by simp; omega
    
    clear q10
    go_upto_region 16 with (fail)
    obtain ⟨W4, hW4⟩ : ∃ W4, W4 = World.setCell W ⟨E, 1, none⟩ (.string ⟨#[47]⟩) := ⟨_, rfl⟩
    rw [← hW4]
    replace H9 : Shut (DE w W4 g B a len cap w.heap.size E ⟨kind, ⟨#[47]⟩, ⟨#[]⟩, 0, 0⟩) := ⟨by rw [hW4]; exact H9.out.set 1 _ _ (by omega) rfl (epl_ pl_root pl_none)⟩
    clear hW4 c0 c1 c2 c3 c4 f0 f1 f2 f3 f4
    obtain ⟨c0, c1, c2, c3, c4⟩ := H9.out.got
    obtain ⟨f0, f1, f2, f3, f4⟩ := H9.out.may
    obtain ⟨⟨r0, s0⟩, ⟨r1, s1⟩, ⟨r2, s2⟩, ⟨r3, s3⟩, ⟨r4, s4⟩⟩ := H9.out.room
    dsimp only at c0 c1 c2 c3 c4
    go_wp2_with fail
    have HD := Shut.mk (H9.out.done)
    change bodyPost _ _ _ _ _ (put5 W4 w.heap.size ⟨kind, ⟨#[47]⟩, ⟨#[]⟩, 0, 0⟩)
    generalize put5 W4 w.heap.size ⟨kind, ⟨#[47]⟩, ⟨#[]⟩, 0, 0⟩ = w8 at HD ⊢
    obtain ⟨k0, -⟩ := HD.out.2.1.2 0 _ rfl
    obtain ⟨k1, -⟩ := HD.out.2.1.2 1 _ rfl
    obtain ⟨k2, -⟩ := HD.out.2.1.2 2 _ rfl
    obtain ⟨k3, -⟩ := HD.out.2.1.2 3 _ rfl
    obtain ⟨k4, -⟩ := HD.out.2.1.2 4 _ rfl
    dsimp only at k0 k1 k2 k3 k4
    refine bodyPost_ret (v := ev ⟨kind, ⟨#[47]⟩, ⟨#[]⟩, 0, 0⟩) (by simp [results, Try.results36, go_sem, k0, k1, k2, k3, k4]) rfl ⟨_, rfl, HD.out.1, HD.out.2.2.1, HD.out.2.2.2⟩
  have b10 : (kind == 10) = false := by simp; omega
  · skip
    go_upto_region 16 with (fail)
    clear c0 c1 c2 c3 c4 f0 f1 f2 f3 f4
    obtain ⟨c0, c1, c2, c3, c4⟩ := H9.out.got
    obtain ⟨f0, f1, f2, f3, f4⟩ := H9.out.may
    obtain ⟨⟨r0, s0⟩, ⟨r1, s1⟩, ⟨r2, s2⟩, ⟨r3, s3⟩, ⟨r4, s4⟩⟩ := H9.out.room
    dsimp only at c0 c1 c2 c3 c4
    go_wp2_with fail
    have HD := Shut.mk (H9.out.done)
    change bodyPost _ _ _ _ _ (put5 W w.heap.size ⟨kind, path, ⟨#[]⟩, 0, 0⟩)
    generalize put5 W w.heap.size ⟨kind, path, ⟨#[]⟩, 0, 0⟩ = w8 at HD ⊢
    obtain ⟨k0, -⟩ := HD.out.2.1.2 0 _ rfl
    obtain ⟨k1, -⟩ := HD.out.2.1.2 1 _ rfl
    obtain ⟨k2, -⟩ := HD.out.2.1.2 2 _ rfl
    obtain ⟨k3, -⟩ := HD.out.2.1.2 3 _ rfl
    obtain ⟨k4, -⟩ := HD.out.2.1.2 4 _ rfl
    dsimp only at k0 k1 k2 k3 k4
    refine bodyPost_ret (v := ev ⟨kind, path, ⟨#[]⟩, 0, 0⟩) (by simp [results, Try.results36, go_sem, k0, k1, k2, k3, k4]) rfl ⟨_, rfl, HD.out.1, HD.out.2.2.1, HD.out.2.2.2⟩
end Go.Proofs.Ytdglbakdianjkaa
/- DrEdC: The model's draws of any record, and of a text that may be one's. -/
namespace Go.Proofs.Ytdglbakdianjkaa
open Go.RowKit
attribute [local go_sem ↓] Go.wp_at_zero Go.wp_at_succ

set_option maxRecDepth 100000 in
set_option maxHeartbeats 4000000 in
theorem l11Any_any (w : World) (g B : Nat) (a : Option Addr) (len cap : Nat) (hc : Cur w g B a len cap) :
    Calls Try.prog 19 #[.pointer (some ⟨g, 0, none⟩)] w fun e w' => EdDrawn w g B a len cap e w' := by
  have HC := Shut.mk hc
  have hgw := Shut.mk hc.2.1
  have HA0 : Shut (WCells (w.alloc (.cells #[.int .i64 0, .string ⟨#[]⟩, .string ⟨#[]⟩, .int .i64 0, .int .i64 0] 25)) w.heap.size (ecells zeroE)) := ⟨wcells_new w #[.int .i64 0, .string ⟨#[]⟩, .string ⟨#[]⟩, .int .i64 0, .int .i64 0] 25⟩
  clear hc
  go_enter Try.func19, Try.ntmps19
  go_upto_region 1 with fail
  obtain ⟨w0, hw0⟩ : ∃ w0, w0 = w.alloc (.cells #[.int .i64 0, .string ⟨#[]⟩, .string ⟨#[]⟩, .int .i64 0, .int .i64 0] 25) := ⟨_, rfl⟩
  have HB0 : Shut (Below w.heap.size w w0) := ⟨by rw [hw0]; exact (Below.refl _ _).alloc (Nat.le_refl _) _⟩
  rw [← hw0] at HA0 ⊢
  clear hw0
  have HC0 := Shut.mk (HC.out.below HB0.out)
  go_upto_region 2 with (go_at_call 36; refine (l11Edit_any _ g B a len cap HC0.out).mono ?_; rintro e w2 ⟨⟨kind, path, dest, num, who⟩, rfl, hp, hc2, hg2⟩; have HP := Shut.mk hp; have HC2 := Shut.mk hc2; have HG2 := Shut.mk (gb_two (gb_below HB0.out) hg2); have HA2 := Shut.mk (HA0.out.apart hg2 (by have := hgw.out; omega)); clear hp hc2 hg2)
  have H9 := Shut.mk (de_new ⟨kind, path, dest, num, who⟩ 25 HC2.out HA2.out HG2.out (Nat.le_refl _) hgw.out HP.out)
  dsimp only at H9
  generalize w2.alloc (.cells #[.int .i64 kind, .string path, .string dest, .int .i64 num, .int .i64 who] 25) = W1 at H9 ⊢
  generalize w2.heap.size = E at H9 ⊢
  have hne1 : ¬ (w.heap.size = E) := H9.out.ne
  have hne2 : ¬ (E = w.heap.size) := fun h => H9.out.ne h.symm
  clear HC2 HA2 HG2 HC0 HA0 HB0 HC hgw
  go_upto_region 3 with (go_at_call 37; refine (l01Below_any W1 g B a len cap 16 (by omega) H9.out.cur).mono ?_; rintro e W ⟨x, rfl, x0, x1, hc4, hg4⟩; replace H9 := Shut.mk (H9.out.turn hc4 hg4); clear hc4 hg4)
  obtain ⟨c0, c1, c2, c3, c4⟩ := H9.out.got
  obtain ⟨f0, f1, f2, f3, f4⟩ := H9.out.may
  dsimp only at c0 c1 c2 c3 c4
  by_cases q0 : x = 0
  · have b0 : (x == 0) = true := by simp; omega
    clear q0 x0 x1
    go_upto_region 13 with (go_at_call 37; refine (l01Below_any W g B a len cap 12 (by omega) H9.out.cur).mono ?_; rintro e w4 ⟨y, rfl, y0, y1, hc4, hg4⟩; replace H9 := Shut.mk (H9.out.turn hc4 hg4); clear hc4 hg4 c0 c1 c2 c3 c4 f0 f1 f2 f3 f4; obtain ⟨c0, c1, c2, c3, c4⟩ := H9.out.got; obtain ⟨f0, f1, f2, f3, f4⟩ := H9.out.may; dsimp only at c0 c1 c2 c3 c4)
    obtain ⟨W4, hW4⟩ : ∃ W4, W4 = World.setCell w4 ⟨E, 0, none⟩ (.int .i64 y) := ⟨_, rfl⟩
    rw [← hW4]
    replace H9 : Shut (DE w W4 g B a len cap w.heap.size E ⟨y, path, dest, num, who⟩) := ⟨by rw [hW4]; exact H9.out.set 0 _ _ (by omega) rfl HP.out⟩
    clear hW4 c0 c1 c2 c3 c4 f0 f1 f2 f3 f4
    obtain ⟨c0, c1, c2, c3, c4⟩ := H9.out.got
    obtain ⟨f0, f1, f2, f3, f4⟩ := H9.out.may
    obtain ⟨⟨r0, s0⟩, ⟨r1, s1⟩, ⟨r2, s2⟩, ⟨r3, s3⟩, ⟨r4, s4⟩⟩ := H9.out.room
    dsimp only at c0 c1 c2 c3 c4
    go_wp2_with fail
    have HD := Shut.mk (H9.out.done)
    change bodyPost _ _ _ _ _ (put5 W4 w.heap.size ⟨y, path, dest, num, who⟩)
    generalize put5 W4 w.heap.size ⟨y, path, dest, num, who⟩ = w8 at HD ⊢
    obtain ⟨k0, -⟩ := HD.out.2.1.2 0 _ rfl
    obtain ⟨k1, -⟩ := HD.out.2.1.2 1 _ rfl
    obtain ⟨k2, -⟩ := HD.out.2.1.2 2 _ rfl
    obtain ⟨k3, -⟩ := HD.out.2.1.2 3 _ rfl
    obtain ⟨k4, -⟩ := HD.out.2.1.2 4 _ rfl
    dsimp only at k0 k1 k2 k3 k4
    refine bodyPost_ret (v := ev ⟨y, path, dest, num, who⟩) (by simp [results, Try.results19, go_sem, k0, k1, k2, k3, k4]) rfl ⟨_, rfl, HD.out.1, HD.out.2.2.1, HD.out.2.2.2⟩
  have b0 : (x == 0) = false := by simp; omega
  by_cases q1 : x = 1
  · have b1 : (x == 1) = true := by simp; omega
    clear q1 x0 x1
    go_upto_region 13 with (go_at_call 38; refine (l09Any_any W g B a len cap H9.out.cur).mono ?_; rintro e w4 ⟨t, rfl, ht, hc4, hg4⟩; have HT := Shut.mk ht; clear ht; replace H9 := Shut.mk (H9.out.turn hc4 hg4); clear hc4 hg4 c0 c1 c2 c3 c4 f0 f1 f2 f3 f4; obtain ⟨c0, c1, c2, c3, c4⟩ := H9.out.got; obtain ⟨f0, f1, f2, f3, f4⟩ := H9.out.may; dsimp only at c0 c1 c2 c3 c4)
    obtain ⟨W4, hW4⟩ : ∃ W4, W4 = World.setCell w4 ⟨E, 1, none⟩ (.string t) := ⟨_, rfl⟩
    rw [← hW4]
    replace H9 : Shut (DE w W4 g B a len cap w.heap.size E ⟨kind, t, dest, num, who⟩) := ⟨by rw [hW4]; exact H9.out.set 1 _ _ (by omega) rfl ⟨HT.out, HP.out.2⟩⟩
    clear hW4 c0 c1 c2 c3 c4 f0 f1 f2 f3 f4
    obtain ⟨c0, c1, c2, c3, c4⟩ := H9.out.got
    obtain ⟨f0, f1, f2, f3, f4⟩ := H9.out.may
    obtain ⟨⟨r0, s0⟩, ⟨r1, s1⟩, ⟨r2, s2⟩, ⟨r3, s3⟩, ⟨r4, s4⟩⟩ := H9.out.room
    dsimp only at c0 c1 c2 c3 c4
    go_wp2_with fail
    have HD := Shut.mk (H9.out.done)
    change bodyPost _ _ _ _ _ (put5 W4 w.heap.size ⟨kind, t, dest, num, who⟩)
    generalize put5 W4 w.heap.size ⟨kind, t, dest, num, who⟩ = w8 at HD ⊢
    obtain ⟨k0, -⟩ := HD.out.2.1.2 0 _ rfl
    obtain ⟨k1, -⟩ := HD.out.2.1.2 1 _ rfl
    obtain ⟨k2, -⟩ := HD.out.2.1.2 2 _ rfl
    obtain ⟨k3, -⟩ := HD.out.2.1.2 3 _ rfl
    obtain ⟨k4, -⟩ := HD.out.2.1.2 4 _ rfl
    dsimp only at k0 k1 k2 k3 k4
    refine bodyPost_ret (v := ev ⟨kind, t, dest, num, who⟩) (by simp [results, Try.results19, go_sem, k0, k1, k2, k3, k4]) rfl ⟨_, rfl, HD.out.1, HD.out.2.2.1, HD.out.2.2.2⟩
  have b1 : (x == 1) = false := by simp; omega
  by_cases q2 : x = 2
  · have b2 : (x == 2) = true := by simp; omega
    clear q2 x0 x1
    go_upto_region 13 with (go_at_call 38; refine (l09Any_any W g B a len cap H9.out.cur).mono ?_; rintro e w4 ⟨t, rfl, ht, hc4, hg4⟩; have HT := Shut.mk ht; clear ht; replace H9 := Shut.mk (H9.out.turn hc4 hg4); clear hc4 hg4 c0 c1 c2 c3 c4 f0 f1 f2 f3 f4; obtain ⟨c0, c1, c2, c3, c4⟩ := H9.out.got; obtain ⟨f0, f1, f2, f3, f4⟩ := H9.out.may; dsimp only at c0 c1 c2 c3 c4)
    obtain ⟨W4, hW4⟩ : ∃ W4, W4 = World.setCell w4 ⟨E, 2, none⟩ (.string t) := ⟨_, rfl⟩
    rw [← hW4]
    replace H9 : Shut (DE w W4 g B a len cap w.heap.size E ⟨kind, path, t, num, who⟩) := ⟨by rw [hW4]; exact H9.out.set 2 _ _ (by omega) rfl ⟨HP.out.1, HT.out⟩⟩
    clear hW4 c0 c1 c2 c3 c4 f0 f1 f2 f3 f4
    obtain ⟨c0, c1, c2, c3, c4⟩ := H9.out.got
    obtain ⟨f0, f1, f2, f3, f4⟩ := H9.out.may
    obtain ⟨⟨r0, s0⟩, ⟨r1, s1⟩, ⟨r2, s2⟩, ⟨r3, s3⟩, ⟨r4, s4⟩⟩ := H9.out.room
    dsimp only at c0 c1 c2 c3 c4
    go_wp2_with fail
    have HD := Shut.mk (H9.out.done)
    change bodyPost _ _ _ _ _ (put5 W4 w.heap.size ⟨kind, path, t, num, who⟩)
    generalize put5 W4 w.heap.size ⟨kind, path, t, num, who⟩ = w8 at HD ⊢
    obtain ⟨k0, -⟩ := HD.out.2.1.2 0 _ rfl
    obtain ⟨k1, -⟩ := HD.out.2.1.2 1 _ rfl
    obtain ⟨k2, -⟩ := HD.out.2.1.2 2 _ rfl
    obtain ⟨k3, -⟩ := HD.out.2.1.2 3 _ rfl
    obtain ⟨k4, -⟩ := HD.out.2.1.2 4 _ rfl
    dsimp only at k0 k1 k2 k3 k4
    refine bodyPost_ret (v := ev ⟨kind, path, t, num, who⟩) (by simp [results, Try.results19, go_sem, k0, k1, k2, k3, k4]) rfl ⟨_, rfl, HD.out.1, HD.out.2.2.1, HD.out.2.2.2⟩
  have b2 : (x == 2) = false := by simp; omega
  by_cases q3 : x = 3
  · have b3 : (x == 3) = true := by simp; omega
    clear q3 x0 x1
    have hlit : (#[.int .i64 (-1), .int .i64 0, .int .i64 3, .int .i64 4, .int .i64 200, .int .i64 201, .int .i64 1000, .int .i64 1001] : Array Value) = (List.map (Value.int .i64 ·) [-1, 0, 3, 4, 200, 201, 1000, 1001]).toArray := rfl
    have HL := Shut.mk (new_ints W 3 [-1, 0, 3, 4, 200, 201, 1000, 1001])
    rw [← hlit] at HL
    clear hlit
    go_upto_region 13 with (go_at_call 39; refine (l01PickInt_any _ g B a len cap W.heap.size 8 (by decide) (by decide) (by have := H9.out.cur.2.1; omega) HL.out (H9.out.cur.below ((Below.refl _ _).alloc (Nat.le_refl _) _))).mono ?_; rintro e w4 ⟨y, rfl, hc4, hg4⟩; replace H9 := Shut.mk (H9.out.turn hc4 (gb_two (gb_below ((Below.refl _ _).alloc (Nat.le_refl _) _)) hg4)); clear hc4 hg4 c0 c1 c2 c3 c4 f0 f1 f2 f3 f4; obtain ⟨c0, c1, c2, c3, c4⟩ := H9.out.got; obtain ⟨f0, f1, f2, f3, f4⟩ := H9.out.may; dsimp only at c0 c1 c2 c3 c4)
    obtain ⟨W4, hW4⟩ : ∃ W4, W4 = World.setCell w4 ⟨E, 3, none⟩ (.int .i64 y) := ⟨_, rfl⟩
    rw [← hW4]
    replace H9 : Shut (DE w W4 g B a len cap w.heap.size E ⟨kind, path, dest, y, who⟩) := ⟨by rw [hW4]; exact H9.out.set 3 _ _ (by omega) rfl HP.out⟩
    clear hW4 c0 c1 c2 c3 c4 f0 f1 f2 f3 f4
    obtain ⟨c0, c1, c2, c3, c4⟩ := H9.out.got
    obtain ⟨f0, f1, f2, f3, f4⟩ := H9.out.may
    obtain ⟨⟨r0, s0⟩, ⟨r1, s1⟩, ⟨r2, s2⟩, ⟨r3, s3⟩, ⟨r4, s4⟩⟩ := H9.out.room
    dsimp only at c0 c1 c2 c3 c4
    go_wp2_with fail
    have HD := Shut.mk (H9.out.done)
    change bodyPost _ _ _ _ _ (put5 W4 w.heap.size ⟨kind, path, dest, y, who⟩)
    generalize put5 W4 w.heap.size ⟨kind, path, dest, y, who⟩ = w8 at HD ⊢
    obtain ⟨k0, -⟩ := HD.out.2.1.2 0 _ rfl
    obtain ⟨k1, -⟩ := HD.out.2.1.2 1 _ rfl
    obtain ⟨k2, -⟩ := HD.out.2.1.2 2 _ rfl
    obtain ⟨k3, -⟩ := HD.out.2.1.2 3 _ rfl
    obtain ⟨k4, -⟩ := HD.out.2.1.2 4 _ rfl
    dsimp only at k0 k1 k2 k3 k4
    refine bodyPost_ret (v := ev ⟨kind, path, dest, y, who⟩) (by simp [results, Try.results19, go_sem, k0, k1, k2, k3, k4]) rfl ⟨_, rfl, HD.out.1, HD.out.2.2.1, HD.out.2.2.2⟩
  have b3 : (x == 3) = false := by simp; omega
  by_cases q4 : x = 4
  · have b4 : (x == 4) = true := by simp; omega
    clear q4 x0 x1
    have hlit : (#[.int .i64 (-1), .int .i64 0, .int .i64 9, .int .i64 10] : Array Value) = (List.map (Value.int .i64 ·) [-1, 0, 9, 10]).toArray := rfl
    have HL := Shut.mk (new_ints W 3 [-1, 0, 9, 10])
    rw [← hlit] at HL
    clear hlit
    go_upto_region 13 with (go_at_call 39; refine (l01PickInt_any _ g B a len cap W.heap.size 4 (by decide) (by decide) (by have := H9.out.cur.2.1; omega) HL.out (H9.out.cur.below ((Below.refl _ _).alloc (Nat.le_refl _) _))).mono ?_; rintro e w4 ⟨y, rfl, hc4, hg4⟩; replace H9 := Shut.mk (H9.out.turn hc4 (gb_two (gb_below ((Below.refl _ _).alloc (Nat.le_refl _) _)) hg4)); clear hc4 hg4 c0 c1 c2 c3 c4 f0 f1 f2 f3 f4; obtain ⟨c0, c1, c2, c3, c4⟩ := H9.out.got; obtain ⟨f0, f1, f2, f3, f4⟩ := H9.out.may; dsimp only at c0 c1 c2 c3 c4)
    obtain ⟨W4, hW4⟩ : ∃ W4, W4 = World.setCell w4 ⟨E, 4, none⟩ (.int .i64 y) := ⟨_, rfl⟩
    rw [← hW4]
    replace H9 : Shut (DE w W4 g B a len cap w.heap.size E ⟨kind, path, dest, num, y⟩) := ⟨by rw [hW4]; exact H9.out.set 4 _ _ (by omega) rfl HP.out⟩
    clear hW4 c0 c1 c2 c3 c4 f0 f1 f2 f3 f4
    obtain ⟨c0, c1, c2, c3, c4⟩ := H9.out.got
    obtain ⟨f0, f1, f2, f3, f4⟩ := H9.out.may
    obtain ⟨⟨r0, s0⟩, ⟨r1, s1⟩, ⟨r2, s2⟩, ⟨r3, s3⟩, ⟨r4, s4⟩⟩ := H9.out.room
    dsimp only at c0 c1 c2 c3 c4
    go_wp2_with fail
    have HD := Shut.mk (H9.out.done)
    change bodyPost _ _ _ _ _ (put5 W4 w.heap.size ⟨kind, path, dest, num, y⟩)
    generalize put5 W4 w.heap.size ⟨kind, path, dest, num, y⟩ = w8 at HD ⊢
    obtain ⟨k0, -⟩ := HD.out.2.1.2 0 _ rfl
    obtain ⟨k1, -⟩ := HD.out.2.1.2 1 _ rfl
    obtain ⟨k2, -⟩ := HD.out.2.1.2 2 _ rfl
    obtain ⟨k3, -⟩ := HD.out.2.1.2 3 _ rfl
    obtain ⟨k4, -⟩ := HD.out.2.1.2 4 _ rfl
    dsimp only at k0 k1 k2 k3 k4
    refine bodyPost_ret (v := ev ⟨kind, path, dest, num, y⟩) (by simp [results, Try.results19, go_sem, k0, k1, k2, k3, k4]) rfl ⟨_, rfl, HD.out.1, HD.out.2.2.1, HD.out.2.2.2⟩
  have b4 : (x == 4) = false := by simp; omega
  clear c0 c1 c2 c3 c4 f0 f1 f2 f3 f4
  obtain ⟨c0, c1, c2, c3, c4⟩ := H9.out.got
  obtain ⟨f0, f1, f2, f3, f4⟩ := H9.out.may
  obtain ⟨⟨r0, s0⟩, ⟨r1, s1⟩, ⟨r2, s2⟩, ⟨r3, s3⟩, ⟨r4, s4⟩⟩ := H9.out.room
  dsimp only at c0 c1 c2 c3 c4
  go_wp2_with fail
  have HD := Shut.mk (H9.out.done)
  change bodyPost _ _ _ _ _ (put5 W w.heap.size ⟨kind, path, dest, num, who⟩)
  generalize put5 W w.heap.size ⟨kind, path, dest, num, who⟩ = w8 at HD ⊢
  obtain ⟨k0, -⟩ := HD.out.2.1.2 0 _ rfl
  obtain ⟨k1, -⟩ := HD.out.2.1.2 1 _ rfl
  obtain ⟨k2, -⟩ := HD.out.2.1.2 2 _ rfl
  obtain ⟨k3, -⟩ := HD.out.2.1.2 3 _ rfl
  obtain ⟨k4, -⟩ := HD.out.2.1.2 4 _ rfl
  dsimp only at k0 k1 k2 k3 k4
  refine bodyPost_ret (v := ev ⟨kind, path, dest, num, who⟩) (by simp [results, Try.results19, go_sem, k0, k1, k2, k3, k4]) rfl ⟨_, rfl, HD.out.1, HD.out.2.2.1, HD.out.2.2.2⟩
/-- A record that was drawn from a code. -/
def EdCode (w : World) (e : Ending) (w' : World) : Prop := ∃ X : EM, e = .returned (ev X) ∧ EPl X ∧ Below w.heap.size w w'
set_option maxHeartbeats 1000000 in
theorem drawEditText_any (w : World) (a : Option Addr) (len cap : Nat) (hc : CodeAt w w.heap.size a len) : Calls Try.prog 8 #[.slice a len cap] w fun e w' => EdCode w e w' := by
  have HC : Hid (CodeAt w w.heap.size a len) := hc
  have HB0 : Shut (Below w.heap.size w (w.alloc (.cells #[.int .i64 0, .string ⟨#[]⟩, .string ⟨#[]⟩, .int .i64 0, .int .i64 0] 25))) := ⟨(Below.refl _ _).alloc (Nat.le_refl _) _⟩
  have HA0 : Shut (WCells (w.alloc (.cells #[.int .i64 0, .string ⟨#[]⟩, .string ⟨#[]⟩, .int .i64 0, .int .i64 0] 25)) w.heap.size (ecells zeroE)) := ⟨wcells_new w #[.int .i64 0, .string ⟨#[]⟩, .string ⟨#[]⟩, .int .i64 0, .int .i64 0] 25⟩
  clear hc
  go_enter Try.func8, Try.ntmps8
  go_upto_region 1 with fail
  generalize w.alloc (.cells #[.int .i64 0, .string ⟨#[]⟩, .string ⟨#[]⟩, .int .i64 0, .int .i64 0] 25) = w0 at HA0 HB0 ⊢
  have HC0 : Hid (CodeAt w0 w0.heap.size a len) := ⟨HC.out.1, fun hp => by
    obtain ⟨b, off, e, hb, hx⟩ := (HC.out.below HB0.out (Nat.le_refl _)).2 hp
    exact ⟨b, off, e, Nat.lt_of_lt_of_le hb HB0.out.size, hx⟩⟩
  clear HC
  go_wp2_with (first
    | (go_at_call 20; refine (l01New_any _ a len cap HC0.out).mono ?_; rintro e w1 ⟨g, rfl, hg, hcur, hb0⟩; have HG := Shut.mk hg; have HC1 := Shut.mk hcur; have HB1 := Shut.mk (HB0.out.trans (hb0.mono HB0.out.size)); have HA1 := Shut.mk (HA0.out.grow hb0); clear hg hcur hb0)
    | (go_at_call 19; refine (l11Any_any _ g _ a len cap HC1.out).mono ?_; rintro e w2 ⟨⟨kind, path, dest, num, who⟩, rfl, hp, hc2, hg2⟩; have HP := Shut.mk hp; have HA2 := Shut.mk (HA1.out.apart hg2 (by have := HG.out; have := HA0.out.1; omega)); have HB2 := Shut.mk (HB1.out.trans (below_gb hg2 (by have := HG.out; have := HB0.out.size; omega) HB1.out.size)); clear hp hc2 hg2; obtain ⟨r0, s0⟩ := HA2.out.2 0 _ rfl; obtain ⟨r1, s1⟩ := HA2.out.2 1 _ rfl; obtain ⟨r2, s2⟩ := HA2.out.2 2 _ rfl; obtain ⟨r3, s3⟩ := HA2.out.2 3 _ rfl; obtain ⟨r4, s4⟩ := HA2.out.2 4 _ rfl))
  have HD := Shut.mk (show WCells (put5 w2 w.heap.size ⟨kind, path, dest, num, who⟩) w.heap.size (ecells ⟨kind, path, dest, num, who⟩) from ((((HA2.out.set 0 (.int .i64 kind) (by simp [ecells])).set 1 (.string path) (by simp [ecells])).set 2 (.string dest) (by simp [ecells])).set 3 (.int .i64 num) (by simp [ecells])).set 4 (.int .i64 who) (by simp [ecells]))
  have HE : Shut (Below w.heap.size w (put5 w2 w.heap.size ⟨kind, path, dest, num, who⟩)) := ⟨((((HB2.out.setCell (p := ⟨w.heap.size, 0, none⟩) (Nat.le_refl _) _).setCell (p := ⟨w.heap.size, 1, none⟩) (Nat.le_refl _) _).setCell (p := ⟨w.heap.size, 2, none⟩) (Nat.le_refl _) _).setCell (p := ⟨w.heap.size, 3, none⟩) (Nat.le_refl _) _).setCell (p := ⟨w.heap.size, 4, none⟩) (Nat.le_refl _) _⟩
  change bodyPost _ _ _ _ _ (put5 w2 w.heap.size ⟨kind, path, dest, num, who⟩)
  generalize put5 w2 w.heap.size ⟨kind, path, dest, num, who⟩ = w8 at HD HE ⊢
  obtain ⟨k0, -⟩ := HD.out.2 0 _ rfl
  obtain ⟨k1, -⟩ := HD.out.2 1 _ rfl
  obtain ⟨k2, -⟩ := HD.out.2 2 _ rfl
  obtain ⟨k3, -⟩ := HD.out.2 3 _ rfl
  obtain ⟨k4, -⟩ := HD.out.2 4 _ rfl
  dsimp only at k0 k1 k2 k3 k4
  refine bodyPost_ret (v := ev ⟨kind, path, dest, num, who⟩) (by simp [results, Try.results8, go_sem, k0, k1, k2, k3, k4]) rfl ⟨_, rfl, HP.out, HE.out⟩
end Go.Proofs.Ytdglbakdianjkaa
/- DrEdD: The model's draw of a text that may be a record's. -/
namespace Go.Proofs.Ytdglbakdianjkaa
open Go.RowKit
attribute [local go_sem ↓] Go.wp_at_zero Go.wp_at_succ

def SpPost (s : ByteArray) (w : World) (g B : Nat) (a : Option Addr) (len cap : Nat) (e : Ending) (w' : World) : Prop :=
  ∃ t : ByteArray, e = .returned (.string t) ∧ t.size ≤ s.size + 1 ∧ Cur w' g B a len cap ∧ w.grownBy w' (some g)
set_option maxHeartbeats 2000000 in
theorem l02Spoilt_any (s : ByteArray) (hs : s.size ≤ 100000) (w : World) (g B : Nat) (a : Option Addr) (len cap : Nat) (hc : Cur w g B a len cap) :
    Calls Try.prog 32 #[.pointer (some ⟨g, 0, none⟩), .string s] w fun e w' => SpPost s w g B a len cap e w' := by
  have HC := Shut.mk hc
  clear hc
  go_enter Try.func32, Try.ntmps32
  go_upto_region 2 with (go_at_call 37; refine (l01Below_any _ g B a len cap 12 (by omega) HC.out).mono ?_; rintro e w1 ⟨x, rfl, x0, x1, hc1, hg1⟩; have HC1 := Shut.mk hc1; have HG1 := Shut.mk hg1; clear hc1 hg1)
  by_cases q0 : x = 0
  · have b0 : (x == 0) = true := by simp; omega
    clear q0 x0 x1
    go_wp2_with (go_at_call 47; refine (l01Text_any _ g B a len cap 1 (by omega) HC1.out).mono ?_; rintro e w2 ⟨t, rfl, ht, hc2, hg2⟩; have HC2 := Shut.mk hc2; have HG2 := Shut.mk (gb_two HG1.out hg2); clear hc2 hg2)
    go_ret
    exact ⟨_, rfl, by rw [ByteArray.size_append]; omega, HC2.out, HG2.out⟩
  have b0 : (x == 0) = false := by simp; omega
  by_cases q1 : x = 1
  · have b1 : (x == 1) = true := by simp; omega
    clear q0 q1 x0 x1
    have hn0 : (0 : Int) ≤ s.size := by omega
    go_wp2_with (go_at_call 37; refine (l01Below_any _ g B a len cap (s.size + 1) (by omega) HC1.out).mono ?_; rintro e w2 ⟨y, rfl, y0, y1, hc2, hg2⟩; have HC2 := Shut.mk hc2; have HG2 := Shut.mk (gb_two HG1.out hg2); have y2 : y ≤ s.size := (by omega); clear hc2 hg2 y1)
    go_ret
    exact ⟨_, rfl, by rw [ByteArray.size_extract]; omega, HC2.out, HG2.out⟩
  have b1 : (x == 1) = false := by simp; omega
  by_cases q2 : x = 2
  · have b2 : (x == 2) = true := by simp; omega
    clear q2 x0 x1
    by_cases e0 : 0 < s.size
    · have e1 : (0 : Int) < s.size := by omega
      go_upto_region 10 with (go_at_call 37; refine (l01Below_any _ g B a len cap s.size (by omega) HC1.out).mono ?_; rintro e w2 ⟨y, rfl, y0, y1, hc2, hg2⟩; have HC2 := Shut.mk hc2; have HG2 := Shut.mk (gb_two HG1.out hg2); have y2 : y < s.size := (by omega); clear hc2 hg2 y1)
      obtain ⟨n, rfl⟩ := Int.eq_ofNat_of_zero_le y0
      clear y0
      have y3 : n < s.size := by omega
      have y4 : (n : Int) + 1 ≤ s.size := by omega
      have y5 : ¬ ((s.size : Int) < n) := by omega
      have y6 : ¬ ((s.size : Int) < n + 1) := by omega
      have sl1 : ∀ W : World, (Instr.slice 9 (.string s) none (some (.int .i64 (n : Int))) none).run Try.prog W = .ok (.string (s.extract 0 n)) W := fun W => by
        rw [run_slice_string_h (ht := Try.underlying9) (kh := .i64) (h0 := by omega) (h2 := by omega), Int.toNat_natCast]
      have sl2 : ∀ W : World, (Instr.slice 9 (.string s) (some (.int .i64 ((n : Int) + 1))) none none).run Try.prog W = .ok (.string (s.extract (n + 1) s.size)) W := fun W => by
        rw [run_slice_string_l (ht := Try.underlying9) (kl := .i64) (h0 := by omega) (h1 := by omega)]
        have : ((n : Int) + 1).toNat = n + 1 := by omega
        rw [this]
      have hwr : IntKind.i64.wrap ((n : Int) + 1) = (n : Int) + 1 := IntWalk.i64_in _ ⟨by omega, by omega⟩
      obtain ⟨S1, hS1⟩ : ∃ S, S = s.extract 0 n := ⟨_, rfl⟩
      obtain ⟨S2, hS2⟩ : ∃ S, S = s.extract (n + 1) s.size := ⟨_, rfl⟩
      have z1 : S1.size = n := by rw [hS1, ByteArray.size_extract]; omega
      have z2 : S2.size = s.size - (n + 1) := by rw [hS2, ByteArray.size_extract]; omega
      have Z := Shut.mk (And.intro z1 z2)
      rw [← hS1] at sl1
      rw [← hS2] at sl2
      clear hS1 hS2 z1 z2
      go_region_held3 (fun _ => True) (exact trivial) ((go_at_call 47; refine (l01Text_any _ g B a len cap 1 (by omega) (HC2.out.below (Below.drew (Below.refl _ _)))).mono ?_; rintro e w3 ⟨t, rfl, ht, hc3, hg3⟩; have HC3 := Shut.mk hc3; have HG3 := Shut.mk (gb_two HG2.out (gb_two (gb_below (Below.drew (Below.refl _ _))) hg3)); clear hc3 hg3; have q1 : ¬ (9223372036854775807 < S1.size + t.size) := (by have := Z.out; omega); have q2 : ¬ (9223372036854775807 < S1.size + t.size + S2.size) := (by have := Z.out; omega)))
      go_wp2_with fail
      go_ret
      exact ⟨_, rfl, by have := Z.out; simp only [ByteArray.size_append]; omega, HC3.out, HG3.out⟩
    · have e1 : ¬ ((0 : Int) < s.size) := by omega
      go_wp2_with fail
      go_ret
      exact ⟨_, rfl, by omega, HC1.out, HG1.out⟩
  have b2 : (x == 2) = false := by simp; omega
  by_cases q3 : x = 3
  · have b3 : (x == 3) = true := by simp; omega
    clear q3 x0 x1
    by_cases e0 : 0 < s.size
    · have e1 : (0 : Int) < s.size := by omega
      go_upto_region 10 with (go_at_call 37; refine (l01Below_any _ g B a len cap s.size (by omega) HC1.out).mono ?_; rintro e w2 ⟨y, rfl, y0, y1, hc2, hg2⟩; have HC2 := Shut.mk hc2; have HG2 := Shut.mk (gb_two HG1.out hg2); have y2 : y < s.size := (by omega); clear hc2 hg2 y1)
      obtain ⟨n, rfl⟩ := Int.eq_ofNat_of_zero_le y0
      clear y0
      have y3 : n < s.size := by omega
      have y4 : (n : Int) + 1 ≤ s.size := by omega
      have y5 : ¬ ((s.size : Int) < n) := by omega
      have y6 : ¬ ((s.size : Int) < n + 1) := by omega
      have sl1 : ∀ W : World, (Instr.slice 9 (.string s) none (some (.int .i64 (n : Int))) none).run Try.prog W = .ok (.string (s.extract 0 n)) W := fun W => by
        rw [run_slice_string_h (ht := Try.underlying9) (kh := .i64) (h0 := by omega) (h2 := by omega), Int.toNat_natCast]
      have sl2 : ∀ W : World, (Instr.slice 9 (.string s) (some (.int .i64 ((n : Int) + 1))) none none).run Try.prog W = .ok (.string (s.extract (n + 1) s.size)) W := fun W => by
        rw [run_slice_string_l (ht := Try.underlying9) (kl := .i64) (h0 := by omega) (h1 := by omega)]
        have : ((n : Int) + 1).toNat = n + 1 := by omega
        rw [this]
      have hwr : IntKind.i64.wrap ((n : Int) + 1) = (n : Int) + 1 := IntWalk.i64_in _ ⟨by omega, by omega⟩
      obtain ⟨S1, hS1⟩ : ∃ S, S = s.extract 0 n := ⟨_, rfl⟩
      obtain ⟨S2, hS2⟩ : ∃ S, S = s.extract (n + 1) s.size := ⟨_, rfl⟩
      have z1 : S1.size = n := by rw [hS1, ByteArray.size_extract]; omega
      have z2 : S2.size = s.size - (n + 1) := by rw [hS2, ByteArray.size_extract]; omega
      have Z := Shut.mk (And.intro z1 z2)
      rw [← hS1] at sl1
      rw [← hS2] at sl2
      clear hS1 hS2 z1 z2
      go_region_held3 (fun _ => True) (exact trivial) ((go_at_call 47; refine (l01Text_any _ g B a len cap 1 (by omega) (HC2.out.below (Below.drew (Below.refl _ _)))).mono ?_; rintro e w3 ⟨t, rfl, ht, hc3, hg3⟩; have HC3 := Shut.mk hc3; have HG3 := Shut.mk (gb_two HG2.out (gb_two (gb_below (Below.drew (Below.refl _ _))) hg3)); clear hc3 hg3; have q1 : ¬ (9223372036854775807 < S1.size + t.size) := (by have := Z.out; omega); have q2 : ¬ (9223372036854775807 < S1.size + t.size + S2.size) := (by have := Z.out; omega)))
      go_wp2_with fail
      go_ret
      exact ⟨_, rfl, by have := Z.out; simp only [ByteArray.size_append]; omega, HC3.out, HG3.out⟩
    · have e1 : ¬ ((0 : Int) < s.size) := by omega
      go_wp2_with fail
      go_ret
      exact ⟨_, rfl, by omega, HC1.out, HG1.out⟩
  have b3 : (x == 3) = false := by simp; omega
  clear q0 q1 x0 x1
  go_wp2_with fail
  go_ret
  exact ⟨_, rfl, by omega, HC1.out, HG1.out⟩
def TxCode (w : World) (e : Ending) (w' : World) : Prop := ∃ t : ByteArray, e = .returned (.string t) ∧ t.size ≤ 1048576 ∧ Below w.heap.size w w'
end Go.Proofs.Ytdglbakdianjkaa
/- OpenM: Rows of numbers, of rows of numbers, and of texts, that came in. -/
namespace Go.Proofs.Ytdglbakdianjkaa
open Go.RowKit Go.Deep Go.ChangeShapes Go.WideShapes

theorem cells_int : Try.prog.cellsOf 3 = 1 := by kernel_rfl
theorem cells_ints : Try.prog.cellsOf 58 = 1 := by kernel_rfl
theorem cells_str : Try.prog.cellsOf 9 = 1 := by kernel_rfl
/-- A row out of its elements. -/
theorem rows_from {α : Type} [Inhabited α] {en : α → List Value} {sz : Nat} (hsz : ∀ x, (en x).length = sz) (hp0 : 0 < sz) {W : World} {ad : Addr} {len : Nat} {Pr : α → Prop}
    (each : ∀ i, i < len → ∃ f : α, (∀ r v, (en f)[r]? = some v → W.cell? (ad.add (i * sz + r)) = some v) ∧ Pr f) : ∃ xs : List α, xs.length = len ∧ CRow W (some ad) (xs.flatMap en) ∧ ∀ f ∈ xs, Pr f := by
  obtain ⟨F, hF⟩ := choose_lt each
  have hlen : ((List.range len).map F).length = len := by simp
  have hget : ∀ j (hj : j < ((List.range len).map F).length), ((List.range len).map F)[j] = F j := by intro j hj; simp
  refine ⟨(List.range len).map F, hlen, ?_, ?_⟩
  · intro hp
    rw [flat_len hsz, hlen] at hp
    have hl0 : 0 < len := Nat.pos_of_ne_zero fun e => by rw [e] at hp; simp at hp
    have h00 : ∃ v, (en (F 0))[0]? = some v := by
      have : 0 < (en (F 0)).length := by rw [hsz]; exact hp0
      exact ⟨_, List.getElem?_eq_getElem this⟩
    obtain ⟨v0, hv0⟩ := h00
    have c0 := (hF 0 hl0).1 0 v0 hv0
    have hs : ad.spot = none := by
      have := World.cell?_spot c0
      simpa [Addr.add] using this
    obtain ⟨b, off, spot⟩ := ad
    simp only at hs
    subst hs
    have hadd : ∀ i, (⟨b, off, none⟩ : Addr).add i = ⟨b, off + i, none⟩ := by intro i; cases i <;> simp [Addr.add]
    refine ⟨b, off, rfl, ?_, fun i v hv => ?_⟩
    · by_cases hb : b < W.heap.size
      · exact hb
      · unfold World.cell? at c0
        rw [hadd, Array.getElem?_eq_none (by simpa using hb)] at c0
        simp at c0
    · have hi : i < (((List.range len).map F).flatMap en).length := (List.getElem?_eq_some_iff.1 hv).1
      rw [flat_len hsz, hlen] at hi
      have hq : i / sz < len := Nat.div_lt_of_lt_mul (by rwa [Nat.mul_comm] at hi)
      have hr := Nat.mod_lt i hp0
      have ei : i = i / sz * sz + i % sz := by rw [Nat.mul_comm]; exact (Nat.div_add_mod i sz).symm
      have hj : i / sz < ((List.range len).map F).length := by rw [hlen]; exact hq
      have l1 := flat_get hsz ((List.range len).map F) (i / sz) hj (i % sz) hr
      rw [hget _ hj, ← ei] at l1
      have := (hF (i / sz) hq).1 (i % sz) v (by rw [← l1]; exact hv)
      rw [← ei, hadd] at this
      exact this
  · intro f hf
    obtain ⟨j, hj, rfl⟩ := List.mem_map.1 hf
    exact (hF j (by simpa using hj)).2
theorem ics_flats (xs : List Int) : ics xs = xs.flatMap fun x => [.int .i64 x] := by
  unfold ics
  induction xs with
  | nil => rfl
  | cons x xs ih => simp [ih]
set_option maxRecDepth 100000 in
theorem open_row {H : Type} {enc : TypeId × Value → H} {W : World} {base : Nat} {spare : Nat → Bool} {held : Bool} {fuel : Nat} {cs : List Value} {x : DataW H × List MemPlace}
    (h : DataW.trod enc Try.prog W base spare held fuel 58 cs = some x) : ∃ s : SR, cs = [srv s] ∧ CRow W s.loc (ics s.row) ∧ s.row.length ≤ 9223372036854775807 := by
  rcases open_slice Try.underlying58 h with ⟨rfl, _⟩ | ⟨ad, len, cap, m, n, D, Pl, rfl, hb, hl, hm, hmm, _, hx⟩
  · exact ⟨⟨none, [], 0⟩, rfl, fun h => by simp [ics] at h, by simp⟩
  · have hlm : len ≤ m := by rw [hmm]; split <;> omega
    have each : ∀ i, i < len → ∃ f : Int, (∀ r v, ([.int .i64 f] : List Value)[r]? = some v → W.cell? (ad.add (i * 1 + r)) = some v) ∧ True := by
      intro i hi
      obtain ⟨cs', h1, h2⟩ := hx i (by omega)
      rw [cells_int] at h1
      obtain ⟨_, hlen, hcell⟩ := World.cells?_some h1
      obtain ⟨q, e2, _, z2⟩ := DataW.trod_int Try.underlying3 h2
      have c0 := hcell 0 (by omega)
      rw [add_add] at c0
      subst e2
      refine ⟨q, fun r v hv => ?_, trivial⟩
      match r, hv with
      | 0, hv => simp at hv; subst hv; simpa using c0
    obtain ⟨xs, hxl, hrow, _⟩ := rows_from (en := fun x => [.int .i64 x]) (fun _ => rfl) (by decide) each
    rw [← ics_flats] at hrow
    exact ⟨⟨some ad, xs, cap⟩, by simp only [srv]; rw [hxl], hrow, by show xs.length ≤ _; rw [hxl]; unfold maxLen at hm; omega⟩
theorem svs_flat (ss : List SR) : svs ss = ss.flatMap fun s => [srv s] := by
  unfold svs
  induction ss with
  | nil => rfl
  | cons x xs ih => simp [ih]
end Go.Proofs.Ytdglbakdianjkaa
/- EdC: Records that came in, and what the laws do with them: their size, a copy, a comparison. -/
namespace Go.Proofs.Ytdglbakdianjkaa
open Go.RowKit Go.Deep Go.ChangeShapes Go.WideShapes
attribute [local go_sem ↓] Go.wp_at_zero Go.wp_at_succ

/-- A record whose numbers are the machine's, and whose texts it can count. -/
def EdFit (e : EM) : Prop := e.path.size ≤ 9223372036854775807 ∧ e.dest.size ≤ 9223372036854775807 ∧ (Lit.int .i64 e.kind).wf = true ∧ (Lit.int .i64 e.num).wf = true ∧ (Lit.int .i64 e.who).wf = true
theorem cells_edit : Try.prog.cellsOf 33 = 5 := by kernel_rfl
theorem cells_intE : Try.prog.cellsOf 3 = 1 := by kernel_rfl
theorem cells_strE : Try.prog.cellsOf 9 = 1 := by kernel_rfl
set_option maxRecDepth 100000 in
theorem open_edit_cells {H : Type} {enc : TypeId × Value → H} {W : World} {base : Nat} {spare : Nat → Bool} {held : Bool} {n : Nat} {cs : List Value} {x : DataW H × List MemPlace} (h : DataW.trod enc Try.prog W base spare held n 33 cs = some x) :
    ∃ e : EM, cs = ecells e ∧ EdFit e := by
  obtain ⟨xs, k, _, rfl, hl, hlen, hf⟩ := DataW.trod_struct Try.underlying33 h
  rw [cells_edit] at hl
  match xs, hlen, cs, hl with
  | [y0, y1, y2, y3, y4], _, [v0, v1, v2, v3, v4], _ =>
    have g0 := hf 0 _ rfl
    have g1 := hf 1 _ rfl
    have g2 := hf 2 _ rfl
    have g3 := hf 3 _ rfl
    have g4 := hf 4 _ rfl
    simp [cells_strE, cells_intE] at g0 g1 g2 g3 g4
    obtain ⟨q0, e0, _, z0⟩ := DataW.trod_int Try.underlying3 g0
    obtain ⟨s1, e1, _, z1⟩ := DataW.trod_string Try.underlying9 g1
    obtain ⟨s2, e2, _, z2⟩ := DataW.trod_string Try.underlying9 g2
    obtain ⟨q3, e3, _, z3⟩ := DataW.trod_int Try.underlying3 g3
    obtain ⟨q4, e4, _, z4⟩ := DataW.trod_int Try.underlying3 g4
    simp only [List.cons.injEq, and_true] at e0 e1 e2 e3 e4
    subst e0 e1 e2 e3 e4
    unfold maxLen at z1 z2
    exact ⟨⟨q0, s1, s2, q3, q4⟩, rfl, by simpa using z1, by simpa using z2, z0, z3, z4⟩
set_option maxRecDepth 100000 in
theorem open_edit {H : Type} {enc : TypeId × Value → H} {W : World} {r : Reach} {b0 base : Nat} {spare : Nat → Bool} {held : Bool} {v : Value} {d : DataW H} {p : List MemPlace}
    (hv : Value.okWide Try.prog W r b0 33 v) (h : DataW.Trod enc Try.prog W base spare held 33 v d p) : ∃ e : EM, v = ev e ∧ EdFit e := by
  obtain ⟨cs, rfl, hsz⟩ := okWide_struct Try.underlying33 hv
  obtain ⟨fuel, h⟩ := h
  obtain ⟨f, e, hf⟩ := open_edit_cells h
  refine ⟨f, ?_, hf⟩
  have : cs.toList = ecells f := by simpa [Value.cells] using e
  rw [show cs = (ecells f).toArray by rw [← this]]
  rfl
set_option maxRecDepth 100000 in
theorem szEdit_any (e : EM) (left : Int) (w : World) (h0 : 0 ≤ left) (h1 : left ≤ 1048576) (hf : EdFit e) :
    Calls Try.prog 15 #[ev e, .int .i64 left] w fun r w' => (∃ q : Int, r = .returned (.int .i64 q) ∧ -1 ≤ q ∧ (0 ≤ q → q + e.path.size + e.dest.size = left)) ∧ Below w.heap.size w w' := by
  obtain ⟨kind, path, dest, num, who⟩ := e
  obtain ⟨f1, f2, _⟩ := hf
  dsimp only at *
  by_cases c1 : left - path.size < 0
  · go_enter Try.func15, Try.ntmps15
    go_wp2_with fail
    go_ret
    exact ⟨⟨-1, rfl, by omega, by omega⟩, (Below.refl _ _).alloc (Nat.le_refl _) _⟩
  · by_cases c2 : left - path.size - dest.size < 0
    · go_enter Try.func15, Try.ntmps15
      go_wp2_with fail
      go_ret
      exact ⟨⟨-1, rfl, by omega, by omega⟩, (Below.refl _ _).alloc (Nat.le_refl _) _⟩
    · go_enter Try.func15, Try.ntmps15
      go_wp2_with fail
      go_ret
      exact ⟨⟨left - path.size - dest.size, rfl, by omega, by omega⟩, (Below.refl _ _).alloc (Nat.le_refl _) _⟩
set_option maxRecDepth 100000 in
theorem toEdit_any (e : EM) (w : World) : Calls Try.prog 16 #[ev e] w fun r w' => r = .returned (ev e) ∧ Below w.heap.size w w' := by
  go_enter Try.func16, Try.ntmps16
  go_wp2_with fail
  refine bodyPost_ret (v := ev e) (by simp [results, Try.results16, go_sem]) rfl ⟨rfl, ?_⟩
  exact (((Below.refl _ _).alloc (Nat.le_refl _) _).alloc (by simp) _).alloc (by simp; omega) _
set_option maxRecDepth 100000 in
theorem eqEdit_same (e : EM) (w : World) : Calls Try.prog 18 #[ev e, ev e] w fun r w' => r = .returned (.bool true) ∧ Below w.heap.size w w' := by
  go_enter Try.func18, Try.ntmps18
  go_wp2_with fail
  go_ret
  exact ⟨rfl, ((Below.refl _ _).alloc (Nat.le_refl _) _).alloc (by simp) _⟩
end Go.Proofs.Ytdglbakdianjkaa
