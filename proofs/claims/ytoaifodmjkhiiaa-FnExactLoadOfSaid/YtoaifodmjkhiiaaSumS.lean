/- The walks of the sums over bytes. -/
import Derived.Test.YtoaifodmjkhiiaaSumM
import Derived.Test.YtoaifodmjkhiiaaHexM
import Derived.Deep.RegionHeld3
import Derived.Deep.DrawnRows
import Derived.Deep.AppendLies
import Derived.OwnWalk
import Derived.Lib.LaidTab
import Derived.Lib.SmallJoins
namespace Go.Proofs.Ytoaifodmjkhiiaa
set_option maxRecDepth 100000
open Go.RowKit
open W (B32)
open Go.PlainAid (bt)
attribute [local go_sem ↓] Go.wp_at_zero Go.wp_at_succ

def sumTab : List Int := [0, 1166650509, 2333301018, 3466261911, 3189058079, 4221339282, 889615109, 1888477064, 3558460437, 2442158232, 1594529039, 444807554, 1779230218, 797264519, 3776954128, 2761298845]
/-- The table of the sums holds what the program's text lays. -/
abbrev SumTab (w : World) : Prop := Lib.TabIs Try.prog w "loop.example/g00197/impl.sumSteps" .u32 sumTab
set_option maxHeartbeats 1000000 in
theorem specMore (x : B32) (s : ByteArray) (w : World) (hs : s.size ≤ 1048576) :
    Calls Try.prog 71 #[u32 x, .string s] w fun e w' => e = .returned (u32 (W.crc x s.data.toList)) ∧ w' = w := by
  go_enter Try.func71, Try.ntmps71
  go_wp2_with fail
  go_loop [0, 5] (fun v i => ∃ (k : Nat) (y : B32), v = u32 y ∧ i = .int .i64 k ∧ k ≤ s.size ∧ y = W.crc x (W.firstK s k)) (fun _ i => s.size - (intOf i).toNat)
  case atStart => exact ⟨0, x, rfl, rfl, Nat.zero_le _, by simp [W.firstK, W.crc]⟩
  case round =>
    obtain ⟨k, y, rfl, rfl, hk, hy⟩ := hrel
    have HY : Hid (y = W.crc x (W.firstK s k)) := hy
    clear hy
    by_cases hlt : k < s.size
    · obtain ⟨b, hb, hbt⟩ := W.firstK_step s k hlt
      have k0 : (0 : Int) ≤ (k : Int) := by omega
      have k1 : (k : Int) < (s.size : Int) := by omega
      have hix := index_str s k hlt
      rw [hbt] at hix
      have hbw : IntKind.u32.wrap (b.toNat : Int) = (b.toNat : Int) := by
        have := b.toNat_lt
        simp [IntKind.wrap, IntKind.bits, IntKind.signed]; omega
      obtain ⟨z, hz⟩ : ∃ z, z = y ^^^ W.by32 b := ⟨_, rfl⟩
      have hxor := u32_byte y b
      rw [← hz] at hxor
      have HB : Hid (W.firstK s (k + 1) = W.firstK s k ++ [b]) := hb
      have HZ : Hid (z = y ^^^ W.by32 b) := hz
      clear hb hz hbt
      go_wp2_with fail
      go_loop [0, 6] (fun v i => ∃ (j : Nat) (y : B32), v = u32 y ∧ i = .int .i64 j ∧ j ≤ 8 ∧ y = W.stN j z) (fun _ i => 8 - (intOf i).toNat)
      case atStart => exact ⟨0, z, rfl, rfl, Nat.zero_le _, rfl⟩
      case round =>
        obtain ⟨j, y1, rfl, rfl, hj, hy1⟩ := hrel
        have HY1 : Hid (y1 = W.stN j z) := hy1
        clear hy1
        by_cases hj8 : j < 8
        · have hhalf := u32_half y1
          have hodd := u32_odd y1
          have hpoly := u32_poly y1
          obtain ⟨z1, hz1⟩ : ∃ z1, z1 = y1 >>> 1 := ⟨_, rfl⟩
          rw [← hz1] at hhalf hpoly
          have j8 : (j : Int) < 8 := by omega
          have w1 := u32_wrap z1
          by_cases ho : y1.getLsbD 0 = true
          · rw [if_pos ho] at hodd
            have e : W.st y1 = z1 ^^^ W.poly := by unfold W.st; rw [if_pos ho, hz1]
            rw [← e] at hpoly
            have HE : Hid _ := e
            have HZ1 : Hid _ := hz1
            clear e hz1 ho
            go_wp2_with fail
            go_round
            case rel => exact ⟨j + 1, W.st y1, rfl, by go_num, by omega, by rw [HY1.out]; rfl⟩
            case measure => simp [intOf]; omega
          · rw [if_neg ho] at hodd
            have e : W.st y1 = z1 := by unfold W.st; rw [if_neg ho, hz1]; simp
            have HE : Hid _ := e
            have HZ1 : Hid _ := hz1
            clear e hz1 ho hpoly
            go_wp2_with fail
            go_round
            case rel => exact ⟨j + 1, z1, rfl, by go_num, by omega, by rw [← HE.out, HY1.out]; rfl⟩
            case measure => simp [intOf]; omega
        · obtain rfl : j = 8 := by omega
          go_wp2_with fail
          go_round
          case rel => exact ⟨k + 1, y1, rfl, by go_num, by omega, by rw [HB.out, W.crc_snoc, HY1.out, HZ.out, HY.out, W.st8_N]⟩
          case measure => simp [intOf]; omega
    · obtain rfl : y = W.crc x s.data.toList := by rw [HY.out, W.firstK_all s k (by omega)]
      go_wp2_with fail
      go_ret
      exact ⟨rfl, rfl⟩
/-- The sum of a text. -/
def _root_.Go.Proofs.Ytoaifodmjkhiiaa.W.sumOf (s : ByteArray) : B32 := W.crc 4294967295#32 s.data.toList
theorem specSumOf (s : ByteArray) (w : World) (hs : s.size ≤ 1048576) :
    Calls Try.prog 65 #[.string s] w fun e w' => e = .returned (u32 (W.sumOf s)) ∧ w' = w := by
  go_enter Try.func65, Try.ntmps65
  go_wp2_with fail
  refine (specMore 4294967295#32 s _ hs).mono ?_
  rintro e w1 ⟨rfl, rfl⟩
  go_wp2_with fail
  go_ret
  exact ⟨rfl, rfl⟩
end Go.Proofs.Ytoaifodmjkhiiaa
