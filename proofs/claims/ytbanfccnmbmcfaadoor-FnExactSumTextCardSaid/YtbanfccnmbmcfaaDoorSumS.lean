/- The walks of the sums over bytes. -/
import Derived.Test.YtbanfccnmbmcfaaDoorSumM
import Derived.Test.YtbanfccnmbmcfaaDoorHexM
import Derived.Deep.RegionHeld3
import Derived.Deep.DrawnRows
import Derived.Deep.AppendLies
import Derived.OwnWalk
import Derived.Lib.LaidTab
import Derived.Lib.SmallJoins
namespace Go.Proofs.YtbanfccnmbmcfaaDoor
set_option maxRecDepth 100000
open Go.RowKit
open W (B32)
open Go.PlainAid (bt)
attribute [local go_sem ↓] Go.wp_at_zero Go.wp_at_succ

def sumTab : List Int := [0, 1166650509, 2333301018, 3466261911, 3189058079, 4221339282, 889615109, 1888477064, 3558460437, 2442158232, 1594529039, 444807554, 1779230218, 797264519, 3776954128, 2761298845]
/-- The table of the sums holds what the program's text lays. -/
abbrev SumTab (w : World) : Prop := Lib.TabIs Tryd.prog w "loop.example/g00197/impl.sumSteps" .u32 sumTab
theorem gSum : Tryd.prog.globalNamed "loop.example/g00197/impl.sumSteps" = some 0 := by kernel_rfl
theorem SumTab.stays {w w' : World} (h : SumTab w) (hb : Below w.heap.size w w') : SumTab w' := Joins.tab_stays gSum h hb (Nat.le_refl _)
theorem sum_cell {w : World} (h : SumTab w) (x : B32) : w.cell? ⟨0, (x &&& 15#32).toNat, none⟩ = some (u32 (W.st4 (x &&& 15#32))) := by
  have hn : (x &&& 15#32).toNat < 16 := by
    rw [BitVec.toNat_and]; exact Nat.lt_of_le_of_lt Nat.and_le_right (by decide)
  have hc := World.var?_cell gSum h (x &&& 15#32).toNat
  have e : W.tab (x &&& 15#32).toNat = (W.st4 (x &&& 15#32)).toNat := by
    unfold W.tab; rw [BitVec.ofNat_toNat]; simp
  have ht := congrArg (·[(x &&& 15#32).toNat]?) W.tab_all
  simp only [List.getElem?_map, List.getElem?_range hn, Option.map_some] at ht
  rw [hc, show u32 (W.st4 (x &&& 15#32)) = .int .u32 ((W.tab (x &&& 15#32).toNat : Nat) : Int) by rw [e]]
  generalize (x &&& 15#32).toNat = n at hn ht
  generalize W.tab n = m at ht
  match n, hn with
  | 0, _ | 1, _ | 2, _ | 3, _ | 4, _ | 5, _ | 6, _ | 7, _ | 8, _ | 9, _ | 10, _ | 11, _ | 12, _ | 13, _ | 14, _ | 15, _ => simp at ht; subst ht; rfl

theorem fourSteps_plain (a q v r : Int) (n : Nat) (w : World) (h1 : bits BinOp.and IntKind.u32 a 15 = (n : Int)) (h2 : a / 16 = q) (hn : (n : Int) < 16) (hc : w.cell? ⟨0, n, none⟩ = some (.int .u32 v))
    (h3 : bits BinOp.xor IntKind.u32 q v = r) : Calls Tryd.prog 73 #[.int .u32 a] w fun e w' => e = .returned (.int .u32 r) ∧ w' = w := by
  have hn0 : (0 : Int) ≤ (n : Int) := by omega
  go_enter Tryd.func73, Tryd.ntmps73
  go_wp2_with fail
  go_ret
  exact ⟨rfl, rfl⟩
theorem fourSteps (x : B32) (w : World) (h : SumTab w) :
    Calls Tryd.prog 73 #[u32 x] w fun e w' => e = .returned (u32 (W.st4 x)) ∧ w' = w := by
  have hx := u32_xor (x >>> 4) (W.st4 (x &&& 15#32))
  rw [← W.st4_low] at hx
  have hn : ((x &&& 15#32).toNat : Int) < 16 := by
    have : (x &&& 15#32).toNat < 16 := by
      rw [BitVec.toNat_and]; exact Nat.lt_of_le_of_lt Nat.and_le_right (by decide)
    omega
  exact fourSteps_plain _ _ _ _ _ w (u32_and x 15#32) (u32_shr x 4) hn (sum_cell h x) hx
set_option maxHeartbeats 1000000 in
theorem sumMore (x : B32) (s : ByteArray) (w : World) (h : SumTab w) (hs : s.size ≤ 1048576) :
    Calls Tryd.prog 72 #[u32 x, .string s] w fun e w' => e = .returned (u32 (W.crc x s.data.toList)) ∧ w' = w := by
  have HT : Hid (SumTab w) := h
  clear h
  go_enter Tryd.func72, Tryd.ntmps72
  go_wp2_with fail
  go_loop [0, 8] (fun v i => ∃ (k : Nat) (y : B32), v = u32 y ∧ i = .int .i64 k ∧ k ≤ s.size ∧ y = W.crc x (W.firstK s k)) (fun _ i => s.size - (intOf i).toNat)
  case atStart => exact ⟨0, x, rfl, rfl, Nat.zero_le _, by simp [W.firstK, W.crc]⟩
  case round =>
    obtain ⟨k, y, rfl, rfl, hk, hy⟩ := hrel
    have HY : Hid (y = W.crc x (W.firstK s k)) := hy
    clear hy
    by_cases hlt : k < s.size
    · obtain ⟨b, hb, hbt⟩ := W.firstK_step s k hlt
      have k0 : (0 : Int) ≤ (k : Int) := by omega
      have k1 : (k : Int) < (s.size : Int) := by omega
      have hix := index_str s k hlt
      rw [hbt] at hix
      have hbw : IntKind.u32.wrap (b.toNat : Int) = (b.toNat : Int) := by
        have := b.toNat_lt
        simp [IntKind.wrap, IntKind.bits, IntKind.signed]; omega
      obtain ⟨z, hz⟩ : ∃ z, z = y ^^^ W.by32 b := ⟨_, rfl⟩
      have hxor := u32_byte y b
      rw [← hz] at hxor
      have HB : Hid (W.firstK s (k + 1) = W.firstK s k ++ [b]) := hb
      have HZ : Hid (z = y ^^^ W.by32 b) := hz
      clear hb hz hbt
      go_wp2_with fail
      refine (fourSteps z _ HT.out).mono ?_
      rintro e w1 ⟨rfl, rfl⟩
      go_wp2_with fail
      refine (fourSteps _ _ HT.out).mono ?_
      rintro e w2 ⟨rfl, rfl⟩
      go_wp2_with fail
      go_round
      case rel => exact ⟨k + 1, W.st8 z, rfl, by go_num, by omega, by rw [HB.out, W.crc_snoc, HZ.out, HY.out]⟩
      case measure => simp [intOf]; omega
    · obtain rfl : y = W.crc x s.data.toList := by rw [HY.out, W.firstK_all s k (by omega)]
      go_wp2_with fail
      go_ret
      exact ⟨rfl, rfl⟩
set_option maxHeartbeats 1000000 in
theorem specMore (x : B32) (s : ByteArray) (w : World) (hs : s.size ≤ 1048576) :
    Calls Tryd.prog 66 #[u32 x, .string s] w fun e w' => e = .returned (u32 (W.crc x s.data.toList)) ∧ w' = w := by
  go_enter Tryd.func66, Tryd.ntmps66
  go_wp2_with fail
  go_loop [0, 5] (fun v i => ∃ (k : Nat) (y : B32), v = u32 y ∧ i = .int .i64 k ∧ k ≤ s.size ∧ y = W.crc x (W.firstK s k)) (fun _ i => s.size - (intOf i).toNat)
  case atStart => exact ⟨0, x, rfl, rfl, Nat.zero_le _, by simp [W.firstK, W.crc]⟩
  case round =>
    obtain ⟨k, y, rfl, rfl, hk, hy⟩ := hrel
    have HY : Hid (y = W.crc x (W.firstK s k)) := hy
    clear hy
    by_cases hlt : k < s.size
    · obtain ⟨b, hb, hbt⟩ := W.firstK_step s k hlt
      have k0 : (0 : Int) ≤ (k : Int) := by omega
      have k1 : (k : Int) < (s.size : Int) := by omega
      have hix := index_str s k hlt
      rw [hbt] at hix
      have hbw : IntKind.u32.wrap (b.toNat : Int) = (b.toNat : Int) := by
        have := b.toNat_lt
        simp [IntKind.wrap, IntKind.bits, IntKind.signed]; omega
      obtain ⟨z, hz⟩ : ∃ z, z = y ^^^ W.by32 b := ⟨_, rfl⟩
      have hxor := u32_byte y b
      rw [← hz] at hxor
      have HB : Hid (W.firstK s (k + 1) = W.firstK s k ++ [b]) := hb
      have HZ : Hid (z = y ^^^ W.by32 b) := hz
      clear hb hz hbt
      go_wp2_with fail
      go_loop [0, 6] (fun v i => ∃ (j : Nat) (y : B32), v = u32 y ∧ i = .int .i64 j ∧ j ≤ 8 ∧ y = W.stN j z) (fun _ i => 8 - (intOf i).toNat)
      case atStart => exact ⟨0, z, rfl, rfl, Nat.zero_le _, rfl⟩
      case round =>
        obtain ⟨j, y1, rfl, rfl, hj, hy1⟩ := hrel
        have HY1 : Hid (y1 = W.stN j z) := hy1
        clear hy1
        by_cases hj8 : j < 8
        · have hhalf := u32_half y1
          have hodd := u32_odd y1
          have hpoly := u32_poly y1
          obtain ⟨z1, hz1⟩ : ∃ z1, z1 = y1 >>> 1 := ⟨_, rfl⟩
          rw [← hz1] at hhalf hpoly
          have j8 : (j : Int) < 8 := by omega
          have w1 := u32_wrap z1
          by_cases ho : y1.getLsbD 0 = true
          · rw [if_pos ho] at hodd
            have e : W.st y1 = z1 ^^^ W.poly := by unfold W.st; rw [if_pos ho, hz1]
            rw [← e] at hpoly
            have HE : Hid _ := e
            have HZ1 : Hid _ := hz1
            clear e hz1 ho
            go_wp2_with fail
            go_round
            case rel => exact ⟨j + 1, W.st y1, rfl, by go_num, by omega, by rw [HY1.out]; rfl⟩
            case measure => simp [intOf]; omega
          · rw [if_neg ho] at hodd
            have e : W.st y1 = z1 := by unfold W.st; rw [if_neg ho, hz1]; simp
            have HE : Hid _ := e
            have HZ1 : Hid _ := hz1
            clear e hz1 ho hpoly
            go_wp2_with fail
            go_round
            case rel => exact ⟨j + 1, z1, rfl, by go_num, by omega, by rw [← HE.out, HY1.out]; rfl⟩
            case measure => simp [intOf]; omega
        · obtain rfl : j = 8 := by omega
          go_wp2_with fail
          go_round
          case rel => exact ⟨k + 1, y1, rfl, by go_num, by omega, by rw [HB.out, W.crc_snoc, HY1.out, HZ.out, HY.out, W.st8_N]⟩
          case measure => simp [intOf]; omega
    · obtain rfl : y = W.crc x s.data.toList := by rw [HY.out, W.firstK_all s k (by omega)]
      go_wp2_with fail
      go_ret
      exact ⟨rfl, rfl⟩
theorem implSumMore (x : B32) (s : ByteArray) (w : World) (h : SumTab w) (hs : s.size ≤ 1048576) :
    Calls Tryd.prog 65 #[u32 x, .string s] w fun e w' => e = .returned (u32 (W.crc x s.data.toList)) ∧ w' = w := by
  have HT : Hid (SumTab w) := h
  clear h
  have hw := u32_wrap x
  go_enter Tryd.func65, Tryd.ntmps65
  go_wp2_with fail
  refine (sumMore x s _ HT.out hs).mono ?_
  rintro e w1 ⟨rfl, rfl⟩
  go_wp2_with fail
  go_ret
  exact ⟨rfl, rfl⟩
/-- The sum of a text. -/
def _root_.Go.Proofs.YtbanfccnmbmcfaaDoor.W.sumOf (s : ByteArray) : B32 := W.crc 4294967295#32 s.data.toList
theorem implSumOf (s : ByteArray) (w : World) (h : SumTab w) (hs : s.size ≤ 1048576) :
    Calls Tryd.prog 45 #[.string s] w fun e w' => e = .returned (u32 (W.sumOf s)) ∧ w' = w := by
  have HT : Hid (SumTab w) := h
  clear h
  go_enter Tryd.func45, Tryd.ntmps45
  go_wp2_with fail
  refine (implSumMore 4294967295#32 s _ HT.out hs).mono ?_
  rintro e w1 ⟨rfl, rfl⟩
  go_wp2_with fail
  go_ret
  exact ⟨rfl, rfl⟩
theorem specSumOf (s : ByteArray) (w : World) (hs : s.size ≤ 1048576) :
    Calls Tryd.prog 46 #[.string s] w fun e w' => e = .returned (u32 (W.sumOf s)) ∧ w' = w := by
  go_enter Tryd.func46, Tryd.ntmps46
  go_wp2_with fail
  refine (specMore 4294967295#32 s _ hs).mono ?_
  rintro e w1 ⟨rfl, rfl⟩
  go_wp2_with fail
  go_ret
  exact ⟨rfl, rfl⟩
end Go.Proofs.YtbanfccnmbmcfaaDoor
