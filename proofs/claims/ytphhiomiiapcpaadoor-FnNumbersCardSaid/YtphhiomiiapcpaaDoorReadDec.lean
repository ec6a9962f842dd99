/- The walks of the two ReadDecimal. -/
import Derived.Test.YtphhiomiiapcpaaDoorDec
import Derived.Test.YtphhiomiiapcpaaDoorRdM
namespace Go.Proofs.YtphhiomiiapcpaaDoor
open Go.RowKit
open Go.PlainAid (bt)

def rdV : Option Nat → Value
  | none => .tuple #[.int .i64 0, .bool false]
  | some n => .tuple #[.int .i64 n, .bool true]
theorem rdV_form : ∀ x, ∃ (q : Int) (b : Bool), rdV x = .tuple #[.int .i64 q, .bool b]
  | none => ⟨0, false, rfl⟩
  | some p => ⟨p, true, rfl⟩
theorem rdV_some {x : Int} (hx : 0 ≤ x) : Value.tuple #[.int .i64 x, .bool true] = rdV (some x.toNat) := by
  have : ((x.toNat : Nat) : Int) = x := by omega
  simp only [rdV]; rw [this]

set_option maxHeartbeats 400000 in
theorem implReadDecimal (s : ByteArray) (w : World) (hs : s.size ≤ 1048576) :
    Calls Tryd.prog 8 #[.string s] w fun e w' => e = .returned (rdV (W.rdS s.data.toList)) ∧ w' = w := by
  have hb := Go.PlainAid.get_bt s
  go_enter Tryd.func8, Tryd.ntmps8
  go_wp2_with fail
  go_step3
  go_wp2_with fail
  go_step3
  go_wp2_with fail
  go_loop [4, 9] (fun n i => ∃ (k : Nat) (nn : Int), n = .int .i64 nn ∧ i = .int .i64 k ∧ W.RdRel s k nn) (fun _ i => s.size - (intOf i).toNat)
  case atStart => exact ⟨0, 0, rfl, rfl, W.RdRel.start s⟩
  case round =>
    obtain ⟨k, nn, rfl, rfl, hr⟩ := hrel
    obtain ⟨n0, n1, k1⟩ := hr.bounds
    by_cases hk : k < s.size
    · have b0 := Go.PlainAid.bt_nonneg s k
      have b1 := Go.PlainAid.bt_le s k
      by_cases c1 : bt s k < 48
      · have HR : Hid (W.rdS s.data.toList = none) := hr.bad hk (.inl c1)
        go_wp2
        go_ret2
        exact ⟨by rw [HR.out]; rfl, rfl⟩
      · by_cases c2 : 57 < bt s k
        · have HR : Hid (W.rdS s.data.toList = none) := hr.bad hk (.inr c2)
          go_wp2
          go_ret2
          exact ⟨by rw [HR.out]; rfl, rfl⟩
        · by_cases c3 : nn = 0 ∧ 0 < k
          · have HR : Hid (W.rdS s.data.toList = none) := hr.again hk c3.1 c3.2
            obtain ⟨c4, c5⟩ := c3
            subst c4
            go_wp2
            go_ret2
            exact ⟨by rw [HR.out]; rfl, rfl⟩
          · obtain ⟨q1, q2, q3⟩ := hr.more hk (by omega) (by omega) (by omega)
            have Q1 : Hid _ := q1
            have Q2 : Hid _ := q2
            have Q3 : Hid _ := q3
            clear q1 q2 q3
            have c4 : ¬ ((nn == 0) = true ∧ 0 < (k : Int)) := by simp; omega
            by_cases c5 : 1000000000 < nn * 10 + (bt s k - 48)
            · have HR : Hid (W.rdS s.data.toList = none) := Q1.out c5
              by_cases c6 : nn = 0
              · have c7 : k = 0 := by omega
                subst c6; omega
              · go_wp2
                go_ret2
                exact ⟨by rw [HR.out]; rfl, rfl⟩
            · by_cases c8 : k + 1 = s.size
              · have HR : Hid (W.rdS s.data.toList = some (nn * 10 + (bt s k - 48)).toNat) := Q2.out (by omega) c8
                have hs1 : (s.size : Int) - 1 = k := by omega
                by_cases c6 : nn = 0
                · have c7 : k = 0 := by omega
                  subst c6 c7
                  simp only [Int.zero_mul, Int.zero_add] at HR
                  clear c3 c4 c5 Q1 Q2 Q3 hr
                  go_wp2
                  go_ret2
                  refine ⟨?_, rfl⟩
                  rw [HR.out]
                  exact congrArg Ending.returned (rdV_some (by omega))
                · clear c3 c4 Q1 Q2 Q3 hr
                  go_wp2
                  go_ret2
                  refine ⟨?_, rfl⟩
                  rw [HR.out]
                  exact congrArg Ending.returned (rdV_some (by omega))
              · have hn := Q3.out (by omega) (by omega)
                have c9 : ((k : Int) == (s.size : Int) - 1) = false := by simp; omega
                by_cases c6 : nn = 0
                · have c7 : k = 0 := by omega
                  subst c6 c7
                  simp only [Int.zero_mul, Int.zero_add] at hn
                  clear c3 c4 c5 Q1 Q2 Q3 hr
                  go_wp2
                  go_round
                  case rel => exact ⟨1, _, rfl, rfl, hn⟩
                  case measure => simp [intOf]; omega
                · clear c3 c4 Q1 Q2 Q3 hr
                  go_wp2
                  go_round
                  case rel => exact ⟨k + 1, _, rfl, by go_num, hn⟩
                  case measure => simp [intOf]; omega
    · have HR : Hid (W.rdS s.data.toList = none) := hr.none (by omega)
      go_wp2
      go_ret2
      exact ⟨by rw [HR.out]; rfl, rfl⟩

end Go.Proofs.YtphhiomiiapcpaaDoor
