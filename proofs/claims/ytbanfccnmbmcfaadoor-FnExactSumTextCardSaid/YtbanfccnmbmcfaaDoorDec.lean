/- The walks of the models' Decimal, and of the two ReadDecimal. -/
import Derived.Test.YtbanfccnmbmcfaaDoorDecM
import Derived.Test.YtbanfccnmbmcfaaDoorBytes
import Derived.PlainAid
import Derived.Deep.LoopGhost
import Derived.BigQuiet
import Derived.Deep.QuietTactic
namespace Go.Proofs.YtbanfccnmbmcfaaDoor
set_option maxRecDepth 100000
open Go.RowKit
open Go.PlainAid (bt)

theorem fig_low (x : Int) (w : World) (h0 : 0 ≤ x) (h1 : x < 10) :
    Calls Tryd.prog 33 #[.int .i64 x] w fun e w' => e = .returned (.int .u8 (48 + x)) ∧ w' = w := by
  go_enter Tryd.func33, Tryd.ntmps33
  go_wp2
  go_ret
  exact ⟨rfl, rfl⟩

/-- The text of one byte. -/
def oneB (c : Int) : ByteArray := ⟨#[UInt8.ofNat c.toNat]⟩
theorem oneB_size (c : Int) : (oneB c).size = 1 := rfl
/-- 'string([]byte{c})'. -/
theorem one_byte (W : World) (c : Int) (h0 : 0 ≤ c) (h1 : c < 256) :
    (convert 22 9 (.slice (some ⟨W.heap.size, 0, none⟩) 1 1)).run Tryd.prog (W.alloc (.cells #[.int .u8 c] 5)) =
      .ok (.string (oneB c)) (W.alloc (.cells #[.int .u8 c] 5)) := by
  have := run_convert_bytes_back (P := Tryd.prog) (W.alloc (.cells #[.int .u8 c] 5)) 22 9 5 ⟨W.heap.size, 0, none⟩ 1 [UInt8.ofNat c.toNat] Tryd.underlying22 Tryd.underlying5 Tryd.underlying9
    (fun j hj => by
      have : j = 0 := by simp at hj; omega
      subst this
      have e := byte_of c h0 h1
      rw [e]
      exact cell_one_new W _ _ 0 _ rfl)
  simpa [oneB] using this

theorem dg_more {n m : Nat} {s : ByteArray} (hm : 0 < m) (h : W.dg m ++ s.data.toList = W.dg n) (c : Int) (hc : c = 48 + ((m % 10 : Nat) : Int)) :
    W.dg (m / 10) ++ (oneB c ++ s).data.toList = W.dg n := by
  rw [← h, W.dg_step m hm]
  have e : UInt8.ofNat c.toNat = UInt8.ofNat (48 + m % 10) := by rw [hc]; congr 1
  unfold oneB
  rw [e]
  simp

set_option maxHeartbeats 400000 in
theorem decimal_pos (n : Nat) (w : World) (hn : 0 < n) (hm : n ≤ 9223372036854775807) :
    Calls Tryd.prog 11 #[.int .i64 n] w fun e w' => e = .returned (.string ⟨(W.dg n).toArray⟩) ∧ Below w.heap.size w w' := by
  have h0 : ((n : Int) == 0) = false := by rw [beq_eq_false_iff_ne]; omega
  have h1 : decide ((n : Int) < 0) = false := by simp
  have hl := W.dg_len 20 n (by omega)
  go_enter Tryd.func11, Tryd.ntmps11
  go_wp2_with fail
  go_loopw [0, 4] (fun i v wr => ∃ (m : Nat) (s : ByteArray), i = .int .i64 m ∧ v = .string s ∧ m ≤ n ∧ W.dg m ++ s.data.toList = W.dg n ∧ Below w.heap.size w wr) (fun i _ _ => (intOf i).toNat)
  case atStart => exact ⟨n, ⟨#[]⟩, rfl, rfl, Nat.le_refl _, by simp, Below.refl _ _⟩
  case round =>
    obtain ⟨m, s, rfl, rfl, hmn, hs, hb⟩ := hrel
    have HS : Hid (W.dg m ++ s.data.toList = W.dg n) := hs
    have hsz : s.size ≤ 20 := by have := congrArg List.length hs; simp at this; have e : s.data.size = s.size := rfl; omega
    clear hs
    by_cases hz : m = 0
    · subst hz
      go_wp2_with fail
      go_ret
      refine ⟨?_, hb⟩
      rw [← HS.out, W.dg_zero]
      simp
    · have hz' : ((m : Int) != 0) = true := by rw [bne_iff_ne]; omega
      have hp : 0 < m := by omega
      have hB := hb.size
      have ho := oneB_size (48 + (m : Int) % 10)
      have hcv := one_byte wr (48 + (m : Int) % 10) (by omega) (by omega)
      go_wp2_with fail
      refine (fig_low _ _ (by omega) (by omega)).mono ?_
      rintro e w' ⟨rfl, rfl⟩
      go_wp2_with fail
      go_roundw
      case rel => exact ⟨m / 10, _, by go_num, rfl, by omega, dg_more hp HS.out _ (by omega), hb.alloc hB _⟩
      case measure => simp [intOf]; omega

theorem neg_words (m : Nat) (h : m ≤ 9223372036854775808) : (-(m : Int)).tmod 10 = -((m : Int) % 10) ∧ (-(m : Int)).tdiv 10 = -((m : Int) / 10) := by
  rw [Int.neg_tmod, Int.neg_tdiv, Int.tmod_eq_emod_of_nonneg (by omega), Int.tdiv_eq_ediv_of_nonneg (by omega)]
  exact ⟨rfl, rfl⟩

set_option maxHeartbeats 400000 in
theorem decimal_neg (n : Nat) (w : World) (hn : 0 < n) (hm : n ≤ 9223372036854775808) :
    Calls Tryd.prog 11 #[.int .i64 (-(n : Int))] w fun e w' => e = .returned (.string ((⟨#[45]⟩ : ByteArray) ++ ⟨(W.dg n).toArray⟩)) ∧ Below w.heap.size w w' := by
  have h0 : (-(n : Int) == 0) = false := by rw [beq_eq_false_iff_ne]; omega
  have h1 : decide (-(n : Int) < 0) = true := by simp; omega
  have hl := W.dg_len 20 n (by omega)
  go_enter Tryd.func11, Tryd.ntmps11
  go_wp2_with fail
  go_loopw [0, 4] (fun i v wr => ∃ (m : Nat) (s : ByteArray), i = .int .i64 (-(m : Int)) ∧ v = .string s ∧ m ≤ n ∧ W.dg m ++ s.data.toList = W.dg n ∧ Below w.heap.size w wr) (fun i _ _ => (intOf i).natAbs)
  case atStart => exact ⟨n, ⟨#[]⟩, rfl, rfl, Nat.le_refl _, by simp, Below.refl _ _⟩
  case round =>
    obtain ⟨m, s, rfl, rfl, hmn, hs, hb⟩ := hrel
    have HS : Hid (W.dg m ++ s.data.toList = W.dg n) := hs
    have hsz : s.size ≤ 20 := by have := congrArg List.length hs; simp at this; have e : s.data.size = s.size := rfl; omega
    clear hs
    by_cases hz : m = 0
    · subst hz
      have hst : s = ⟨(W.dg n).toArray⟩ := by
        have := HS.out
        rw [W.dg_zero, List.nil_append] at this
        rw [← this]
      have HT : Hid (s = ⟨(W.dg n).toArray⟩) := hst
      clear hst
      go_wp2_with fail
      go_ret
      refine ⟨?_, hb⟩
      rw [← HT.out]
      rfl
    · have hz' : (-(m : Int) != 0) = true := by rw [bne_iff_ne]; omega
      have hp : 0 < m := by omega
      have hB := hb.size
      have ho := oneB_size (48 + (m : Int) % 10)
      have hcv := one_byte wr (48 + (m : Int) % 10) (by omega) (by omega)
      obtain ⟨t1, t2⟩ := neg_words m (by omega)
      by_cases hd : (m : Int) % 10 = 0
      · have hdd : decide (-((m : Int) % 10) < 0) = false := by simp; omega
        have ho := oneB_size (48 + -((m : Int) % 10))
        have hcv := one_byte wr (48 + -((m : Int) % 10)) (by omega) (by omega)
        have HD : Hid ((m : Int) % 10 = 0) := hd
        have g0 : 0 ≤ -((m : Int) % 10) := by omega
        clear hd
        go_wp2_with fail
        refine (fig_low _ _ (by omega) (by omega)).mono ?_
        rintro e w' ⟨rfl, rfl⟩
        go_wp2_with fail
        go_roundw
        case rel => exact ⟨m / 10, _, by go_num, rfl, by omega, dg_more hp HS.out _ (by have := HD.out; omega), hb.alloc hB _⟩
        case measure => simp [intOf]; omega
      · have hdd : decide (-((m : Int) % 10) < 0) = true := by simp; omega
        go_wp2_with fail
        refine (fig_low _ _ (by omega) (by omega)).mono ?_
        rintro e w' ⟨rfl, rfl⟩
        go_wp2_with fail
        go_roundw
        case rel => exact ⟨m / 10, _, by go_num, rfl, by omega, dg_more hp HS.out _ (by omega), hb.alloc hB _⟩
        case measure => simp [intOf]; omega

theorem decimal_zero (w : World) :
    Calls Tryd.prog 11 #[.int .i64 0] w fun e w' => e = .returned (.string ⟨#[48]⟩) ∧ Below w.heap.size w w' := by
  go_enter Tryd.func11, Tryd.ntmps11
  go_wp2_with fail
  go_ret
  exact ⟨rfl, Below.refl _ _⟩
theorem decimal_nat (x : Int) (w : World) (h0 : 0 ≤ x) (h1 : x ≤ 9223372036854775807) :
    Calls Tryd.prog 11 #[.int .i64 x] w fun e w' => e = .returned (.string ⟨(W.decS x.toNat).toArray⟩) ∧ Below w.heap.size w w' := by
  obtain ⟨n, rfl⟩ := Int.eq_ofNat_of_zero_le h0
  rw [Int.toNat_natCast]
  by_cases h : n = 0
  · subst h; exact decimal_zero w
  · have e : W.decS n = W.dg n := by unfold W.decS; rw [if_neg h]
    rw [e]; exact decimal_pos n w (by omega) (by omega)
end Go.Proofs.YtbanfccnmbmcfaaDoor
