/- The program's own field of bytes: plus, doubled, times, power, inverse. -/
import Derived.Test.YtdlgailodhlbmaaFieldT
namespace Go.Proofs.Ytdlgailodhlbmaa
open Go.RowKit
open W (B8)
attribute [local go_sem ↓] Go.wp_at_zero Go.wp_at_succ
attribute [local irreducible] W.gm W.xt W.gp W.gi addB mulT

abbrev u8v (A : B8) : Value := .int .u8 (A.toNat : Int)
theorem u8_xor8 (A B : B8) : bits .xor .u8 (A.toNat : Int) (B.toNat : Int) = ((A ^^^ B).toNat : Int) := u8_xor ⟨A⟩ ⟨B⟩
theorem implPlus (A B : B8) (w : World) : Calls Try.prog 77 #[.int .u8 (A.toNat : Int), .int .u8 (B.toNat : Int)] w fun e w' => e = .returned (.int .u8 ((A ^^^ B).toNat : Int)) ∧ w' = w := by
  have hx := u8_xor8 A B
  go_enter Try.func77, Try.ntmps77
  go_wp2_with fail
  go_ret
  exact ⟨rfl, rfl⟩
theorem xt_lo : ∀ A : B8, A.toNat < 128 → A.toNat * 2 = (W.xt A).toNat := by unfold W.xt; decide +kernel
theorem xt_hi : ∀ A : B8, ¬ A.toNat < 128 → (BitVec.ofNat 8 (A.toNat * 2 % 256)) ^^^ 29#8 = W.xt A ∧ (BitVec.ofNat 8 (A.toNat * 2 % 256)).toNat = A.toNat * 2 % 256 := by unfold W.xt; decide +kernel
theorem implDoubled (A : B8) (w : World) : Calls Try.prog 84 #[.int .u8 (A.toNat : Int)] w fun e w' => e = .returned (.int .u8 ((W.xt A).toNat : Int)) ∧ w' = w := by
  by_cases h : A.toNat < 128
  · have h' : (A.toNat : Int) < 128 := by omega
    have HX : Hid (((W.xt A).toNat : Int) = (A.toNat : Int) * 2) := by rw [← xt_lo A h]; push_cast; rfl
    go_enter Try.func84, Try.ntmps84
    go_wp2_with fail
    go_ret
    exact ⟨by rw [HX.out]; rfl, rfl⟩
  · have h' : ¬ (A.toNat : Int) < 128 := by omega
    have hx : bits .xor .u8 ((A.toNat : Int) * 2 % 256) 29 = ((W.xt A).toNat : Int) := by
      obtain ⟨e1, e2⟩ := xt_hi A h
      have := u8_xor8 (BitVec.ofNat 8 (A.toNat * 2 % 256)) 29#8
      rw [e1, e2] at this
      exact this
    go_enter Try.func84, Try.ntmps84
    go_wp2_with fail
    go_ret
    exact ⟨rfl, rfl⟩
theorem u8_and8 (A B : B8) : bits .and .u8 (A.toNat : Int) (B.toNat : Int) = ((A &&& B).toNat : Int) := by
  have h1 : ∀ z : B8, (BitVec.ofInt 8 (z.toNat : Int)).toNat = z.toNat := fun z => by rw [BitVec.toNat_ofInt]; have := z.isLt; omega
  have h2 := (A &&& B).isLt
  show IntKind.u8.wrap ((BitVec.ofInt 8 (A.toNat : Int) &&& BitVec.ofInt 8 (B.toNat : Int)).toNat : Nat) = _
  rw [BitVec.toNat_and, h1, h1]
  rw [BitVec.toNat_and] at h2 ⊢
  simp [IntKind.wrap, IntKind.bits, IntKind.signed]
  omega
theorem low_bit : ∀ C : B8, (((C &&& 1#8).toNat : Int) == 1) = C.getLsbD 0 := by decide +kernel
theorem bit_at (B : B8) (k : Nat) : (bits .and .u8 ((B.toNat : Int) / 2 ^ k) 1 == 1) = (B >>> k).getLsbD 0 := by
  have e : ((B >>> k).toNat : Int) = (B.toNat : Int) / 2 ^ k := by rw [BitVec.toNat_ushiftRight, Nat.shiftRight_eq_div_pow]; push_cast; rfl
  rw [← e, ← low_bit, ← u8_and8]; rfl
set_option maxHeartbeats 1000000 in
theorem implTimes (A0 B : B8) (w : World) : Calls Try.prog 78 #[.int .u8 (A0.toNat : Int), .int .u8 (B.toNat : Int)] w fun e w' => e = .returned (.int .u8 ((W.gm A0 B).toNat : Int)) ∧ w' = w := by
  obtain ⟨P, hP⟩ : ∃ P, P = W.gm A0 B := ⟨_, rfl⟩
  rw [← hP]
  have HP : Hid (P = 0#8 ^^^ W.gm A0 (B >>> 0)) := by rw [BitVec.zero_xor, BitVec.ushiftRight_zero]; exact hP
  clear hP
  go_enter Try.func78, Try.ntmps78
  go_wp2_with fail
  go_loop [0, 5, 7] (fun a o i => ∃ (A O : B8) (k : Nat), a = .int .u8 (A.toNat : Int) ∧ o = .int .u8 (O.toNat : Int) ∧ i = .int .i64 k ∧ k ≤ 8 ∧ P = O ^^^ W.gm A (B >>> k)) (fun _ _ i => 8 - (intOf i).toNat)
  case atStart => exact ⟨A0, 0#8, 0, rfl, rfl, rfl, Nat.zero_le _, HP.out⟩
  case round =>
    obtain ⟨A, O, k, rfl, rfl, rfl, hk, hr⟩ := hrel
    by_cases hlt : k < 8
    · have k0 : (0 : Int) ≤ (k : Int) := by omega
      have k8 : (k : Int) < 8 := by omega
      obtain ⟨r1, r2⟩ := gm_round hr
      have hs : B >>> k >>> 1 = B >>> (k + 1) := (BitVec.shiftRight_add ..).symm
      rw [hs] at r1 r2
      have hbit := bit_at B k
      have hd := implDoubled A
      have hp := implPlus O A
      cases hb : (B >>> k).getLsbD 0 with
      | true =>
        rw [hb] at hbit
        have HR : Hid (P = (O ^^^ A) ^^^ W.gm (W.xt A) (B >>> (k + 1))) := r1 hb
        clear r1 r2 hs hr
        generalize W.xt A = A' at *
        generalize O ^^^ A = O' at *
        go_wp2_with fail
        refine (hp _).mono ?_
        rintro e w1 ⟨rfl, rfl⟩
        go_wp2_with fail
        refine (hd _).mono ?_
        rintro e w2 ⟨rfl, rfl⟩
        go_wp2_with fail
        go_round
        case rel => exact ⟨A', O', k + 1, rfl, rfl, by go_num, by omega, HR.out⟩
        case measure => simp [intOf]; omega
      | false =>
        rw [hb] at hbit
        have HR : Hid (P = O ^^^ W.gm (W.xt A) (B >>> (k + 1))) := r2 hb
        clear r1 r2 hs hr
        generalize W.xt A = A' at *
        go_wp2_with fail
        refine (hd _).mono ?_
        rintro e w2 ⟨rfl, rfl⟩
        go_wp2_with fail
        go_round
        case rel => exact ⟨A', O, k + 1, rfl, rfl, by go_num, by omega, HR.out⟩
        case measure => simp [intOf]; omega
    · have hlt' : ¬ (k : Int) < 8 := by omega
      obtain rfl : k = 8 := by omega
      have HR : Hid (P = O) := by
        have e : B >>> 8 = 0#8 := by apply BitVec.eq_of_toNat_eq; simp [BitVec.toNat_ushiftRight, Nat.shiftRight_eq_div_pow]; have := B.isLt; omega
        rw [e, W.gm_zero, BitVec.xor_zero] at hr
        exact hr
      clear hr
      go_wp2_with fail
      go_ret
      exact ⟨by rw [HR.out]; rfl, rfl⟩
set_option maxHeartbeats 1000000 in
theorem implPower (A : B8) (n : Nat) (w : World) (h : n ≤ 1000) : Calls Try.prog 85 #[.int .u8 (A.toNat : Int), .int .i64 (n : Int)] w fun e w' => e = .returned (.int .u8 ((W.gp A n).toNat : Int)) ∧ w' = w := by
  go_enter Try.func85, Try.ntmps85
  go_wp2_with fail
  go_loop [5, 7] (fun o i => ∃ k : Nat, i = .int .i64 k ∧ k ≤ n ∧ o = .int .u8 ((W.gp A k).toNat : Int)) (fun _ i => n - (intOf i).toNat)
  case atStart => exact ⟨0, rfl, Nat.zero_le _, by rw [W.gp_0]; rfl⟩
  case round =>
    obtain ⟨k, rfl, hk, rfl⟩ := hrel
    by_cases hlt : k < n
    · have hlt' : (k : Int) < (n : Int) := by omega
      have hc := implTimes (W.gp A k) A
      rw [← W.gp_succ] at hc
      go_wp2_with fail
      refine (hc _).mono ?_
      rintro e w1 ⟨rfl, rfl⟩
      go_wp2_with fail
      go_round
      case rel => exact ⟨k + 1, by go_num, by omega, rfl⟩
      case measure => simp [intOf]; omega
    · have hlt' : ¬ (k : Int) < (n : Int) := by omega
      obtain rfl : k = n := by omega
      go_wp2_with fail
      go_ret
      exact ⟨rfl, rfl⟩
theorem gi_power (A : B8) : W.gi A = W.gp A 254 := by
  unfold W.gi
  by_cases h : A = 0#8
  · rw [if_pos h, h, W.gp_succ 0#8 253, W.gm_zero]
  · exact if_neg h
theorem implInverse (A : B8) (w : World) : Calls Try.prog 80 #[.int .u8 (A.toNat : Int)] w fun e w' => e = .returned (.int .u8 ((W.gi A).toNat : Int)) ∧ w' = w := by
  have hc := fun w => implPower A 254 w (by omega)
  rw [← gi_power] at hc
  have HC : Hid _ := hc
  clear hc
  go_enter Try.func80, Try.ntmps80
  go_wp2_with fail
  refine (HC.out _).mono ?_
  rintro e w1 ⟨rfl, rfl⟩
  go_wp2_with fail
  go_ret
  exact ⟨rfl, rfl⟩
end Go.Proofs.Ytdlgailodhlbmaa
