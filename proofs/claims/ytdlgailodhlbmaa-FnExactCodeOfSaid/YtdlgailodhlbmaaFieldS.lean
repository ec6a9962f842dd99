/- The walks of the models of the field of bytes: MulG, PowG, InvG. -/
import Derived.Test.YtdlgailodhlbmaaFieldN
import Derived.Test.YtdlgailodhlbmaaVarL
namespace Go.Proofs.Ytdlgailodhlbmaa
open Go.RowKit
open W (B8)
attribute [local irreducible] W.gm W.xt W.gp W.gi

theorem l05Mod_any (x : Int) (w : World) : Calls Try.prog 69 #[.int .i64 x] w fun e w' => e = .returned (.int .i64 ((g8 x).toNat : Int)) ∧ w' = w := by
  have hg := g8_nat x
  have ht : x.tmod 256 = x % 256 ∨ (x.tmod 256 = x % 256 - 256 ∧ 0 < x % 256) := by
    have := Int.tmod_eq_emod (a := x) (b := 256)
    split at this
    · left; omega
    · right; refine ⟨by omega, ?_⟩; omega
  by_cases h : x.tmod 256 < 0
  · have e : x.tmod 256 + 256 = ((g8 x).toNat : Int) := by omega
    have hw : IntKind.i64.wrap (x.tmod 256 + 256) = x.tmod 256 + 256 := IntWalk.i64_in _ ⟨by omega, by omega⟩
    have HE : Hid _ := e
    clear e hg ht
    go_enter Try.func69, Try.ntmps69
    go_wp2_with fail
    go_ret
    exact ⟨by rw [← HE.out]; rfl, rfl⟩
  · have e : x.tmod 256 = ((g8 x).toNat : Int) := by omega
    have HE : Hid _ := e
    clear e hg ht
    go_enter Try.func69, Try.ntmps69
    go_wp2_with fail
    go_ret
    exact ⟨by rw [← HE.out]; rfl, rfl⟩
/-- What a round of the product does. -/
theorem gm_round {P O A B : B8} (h : P = O ^^^ W.gm A B) : (B.getLsbD 0 = true → P = (O ^^^ A) ^^^ W.gm (W.xt A) (B >>> 1)) ∧ (B.getLsbD 0 = false → P = O ^^^ W.gm (W.xt A) (B >>> 1)) := by
  rw [W.gm_step A B] at h
  unfold W.gb at h
  refine ⟨fun hb => ?_, fun hb => ?_⟩
  · rw [hb] at h; rw [h, BitVec.xor_assoc]; rfl
  · rw [hb] at h; simpa using h
set_option maxHeartbeats 1000000 in
theorem specMulG (x y : Int) (w : World) : Calls Try.prog 79 #[.int .i64 x, .int .i64 y] w fun e w' => e = .returned (.int .i64 ((W.gm (g8 x) (g8 y)).toNat : Int)) ∧ w' = w := by
  obtain ⟨P, hP⟩ : ∃ P, P = W.gm (g8 x) (g8 y) := ⟨_, rfl⟩
  rw [← hP]
  go_enter Try.func79, Try.ntmps79
  go_wp2_with fail
  refine (l05Mod_any x _).mono ?_
  rintro e w1 ⟨rfl, rfl⟩
  go_wp2_with fail
  refine (l05Mod_any y _).mono ?_
  rintro e w2 ⟨rfl, rfl⟩
  have HP : Hid (P = 0#8 ^^^ W.gm (g8 x) (g8 y)) := by rw [BitVec.zero_xor]; exact hP
  clear hP
  generalize g8 x = A0 at *
  generalize g8 y = B0 at *
  go_wp2_with fail
  go_loop [0, 1, 5] (fun a b o => ∃ A B O : B8, a = .int .i64 (A.toNat : Int) ∧ b = .int .i64 (B.toNat : Int) ∧ o = .int .i64 (O.toNat : Int) ∧ P = O ^^^ W.gm A B) (fun _ b _ => (intOf b).toNat)
  case atStart => exact ⟨A0, B0, 0#8, rfl, rfl, rfl, HP.out⟩
  case round =>
    obtain ⟨A, B, O, rfl, rfl, rfl, hr⟩ := hrel
    have hA := b8_lt A
    have hO := b8_lt O
    have hBl := b8_lt B
    by_cases hb0 : 0 < B.toNat
    · have hb0' : (0 : Int) < (B.toNat : Int) := by omega
      have hhalf : Value.int .i64 ((B.toNat : Int) / 2) = .int .i64 ((B >>> 1).toNat : Int) := by rw [← W.half8]; congr 1
      have HH : Hid _ := hhalf
      clear hhalf
      have hlt : (B >>> 1).toNat < B.toNat := by rw [← W.half8]; omega
      have hodd := W.odd8 B
      obtain ⟨r1, r2⟩ := gm_round hr
      have hxo := i64_xor8 O A
      by_cases hbit : B.getLsbD 0 = true
      · have hm : ((B.toNat : Int) % 2 == 1) = true := by
          rw [hbit] at hodd
          have := of_decide_eq_true hodd.symm
          rw [beq_iff_eq]; omega
        have HR : Hid _ := r1 hbit
        clear r1 r2 hodd hbit hr
        by_cases hbig : 256 ≤ 2 * A.toNat
        · have hx : bits .xor .i64 (2 * (A.toNat : Int)) 285 = ((W.xt A).toNat : Int) := by
            have := i64_xor (2 * A.toNat) 285 (by omega) (by omega)
            rw [W.xt_big A hbig] at this
            rw [← this]; rfl
          have hbig' : (256 : Int) ≤ 2 * (A.toNat : Int) := by omega
          generalize W.xt A = A' at *
          generalize O ^^^ A = O' at *
          generalize B >>> 1 = B' at *
          go_wp2_with fail
          go_round
          case rel => exact ⟨A', B', O', rfl, HH.out, rfl, HR.out⟩
          case measure => simp [intOf]; omega
        · have hx : 2 * (A.toNat : Int) = ((W.xt A).toNat : Int) := by
            have := W.xt_small A (by omega)
            omega
          have hbig' : ¬ (256 : Int) ≤ 2 * (A.toNat : Int) := by omega
          have HX : Hid _ := hx
          clear hx
          generalize W.xt A = A' at *
          generalize O ^^^ A = O' at *
          generalize B >>> 1 = B' at *
          go_wp2_with fail
          go_round
          case rel => exact ⟨A', B', O', by rw [← HX.out], HH.out, rfl, HR.out⟩
          case measure => simp [intOf]; omega
      · have hbit' : B.getLsbD 0 = false := by simpa using hbit
        have hm : ((B.toNat : Int) % 2 == 1) = false := by
          rw [hbit'] at hodd
          have := of_decide_eq_false hodd.symm
          rw [beq_eq_false_iff_ne]; omega
        have HR : Hid _ := r2 hbit'
        clear r1 r2 hodd hbit hbit' hr
        by_cases hbig : 256 ≤ 2 * A.toNat
        · have hx : bits .xor .i64 (2 * (A.toNat : Int)) 285 = ((W.xt A).toNat : Int) := by
            have := i64_xor (2 * A.toNat) 285 (by omega) (by omega)
            rw [W.xt_big A hbig] at this
            rw [← this]; rfl
          have hbig' : (256 : Int) ≤ 2 * (A.toNat : Int) := by omega
          generalize W.xt A = A' at *
          generalize B >>> 1 = B' at *
          go_wp2_with fail
          go_round
          case rel => exact ⟨A', B', O, rfl, HH.out, rfl, HR.out⟩
          case measure => simp [intOf]; omega
        · have hx : 2 * (A.toNat : Int) = ((W.xt A).toNat : Int) := by
            have := W.xt_small A (by omega)
            omega
          have hbig' : ¬ (256 : Int) ≤ 2 * (A.toNat : Int) := by omega
          have HX : Hid _ := hx
          clear hx
          generalize W.xt A = A' at *
          generalize B >>> 1 = B' at *
          go_wp2_with fail
          go_round
          case rel => exact ⟨A', B', O, by rw [← HX.out], HH.out, rfl, HR.out⟩
          case measure => simp [intOf]; omega
    · have hb0' : ¬ (0 : Int) < (B.toNat : Int) := by omega
      have HR : Hid (P = O) := by
        have e := W.b8_zero (B := B) (by omega)
        rw [e, W.gm_zero, BitVec.xor_zero] at hr
        exact hr
      clear hr
      go_wp2_with fail
      go_ret
      exact ⟨by rw [HR.out]; rfl, rfl⟩
theorem specPowG_no (x n : Int) (w : World) (h : n < 0 ∨ 1000 < n) : Calls Try.prog 70 #[.int .i64 x, .int .i64 n] w fun e w' => e = .returned (.int .i64 0) ∧ w' = w := by
  have hd : (decide ((0 : Int) ≤ n) && decide (n ≤ 1000)) = false := by
    simp only [Bool.and_eq_false_iff, decide_eq_false_iff_not]; omega
  go_enter Try.func70, Try.ntmps70
  go_wp2_with fail
  refine (l01In_any _ _ _ _).mono ?_
  rw [hd]
  rintro e w' ⟨rfl, rfl⟩
  go_wp2_with fail
  go_ret
  exact ⟨rfl, rfl⟩
theorem gp_next (A : B8) (k : Nat) (x : Int) (h : A = g8 x) : W.gm (g8 ((W.gp A k).toNat : Int)) (g8 x) = W.gp A (k + 1) := by
  rw [g8_back, ← h, W.gp_succ]
set_option maxHeartbeats 1000000 in
theorem specPowG_yes (x : Int) (n : Nat) (w : World) (h : n ≤ 1000) : Calls Try.prog 70 #[.int .i64 x, .int .i64 n] w fun e w' => e = .returned (.int .i64 ((W.gp (g8 x) n).toNat : Int)) ∧ w' = w := by
  have h1 : decide ((0 : Int) ≤ (n : Int)) = true := by simp
  have h2 : decide ((n : Int) ≤ 1000) = true := by simp; omega
  go_enter Try.func70, Try.ntmps70
  go_wp2_with fail
  refine (l01In_any _ _ _ _).mono ?_
  rw [h1, h2]
  rintro e w' ⟨rfl, rfl⟩
  go_wp2_with fail
  go_loop [5, 6] (fun o i => ∃ k : Nat, i = .int .i64 k ∧ k ≤ n ∧ o = .int .i64 ((W.gp (g8 x) k).toNat : Int)) (fun _ i => n - (intOf i).toNat)
  case atStart => exact ⟨0, rfl, Nat.zero_le _, by rw [W.gp_0]; rfl⟩
  case round =>
    obtain ⟨k, rfl, hk, rfl⟩ := hrel
    by_cases hlt : k < n
    · have hlt' : (k : Int) < (n : Int) := by omega
      have hc := specMulG ((W.gp (g8 x) k).toNat : Int) x
      rw [gp_next (g8 x) k x rfl] at hc
      go_wp2_with fail
      refine (hc _).mono ?_
      rintro e w1 ⟨rfl, rfl⟩
      go_wp2_with fail
      go_round
      case rel => exact ⟨k + 1, by go_num, by omega, rfl⟩
      case measure => simp [intOf]; omega
    · have hlt' : ¬ (k : Int) < (n : Int) := by omega
      obtain rfl : k = n := by omega
      go_wp2_with fail
      go_ret
      exact ⟨rfl, rfl⟩
theorem specInvG (x : Int) (w : World) : Calls Try.prog 52 #[.int .i64 x] w fun e w' => e = .returned (.int .i64 ((W.gi (g8 x)).toNat : Int)) ∧ w' = w := by
  by_cases h0 : g8 x = 0#8
  · have hz : (((g8 x).toNat : Int) == 0) = true := by rw [h0]; rfl
    have HG : Hid (W.gi (g8 x) = 0#8) := by rw [h0]; exact W.gi_zero
    clear h0
    go_enter Try.func52, Try.ntmps52
    go_wp2_with fail
    refine (l05Mod_any x _).mono ?_
    rintro e w1 ⟨rfl, rfl⟩
    go_wp2_with fail
    go_ret
    exact ⟨by rw [HG.out]; rfl, rfl⟩
  · have hz : (((g8 x).toNat : Int) == 0) = false := by
      rw [beq_eq_false_iff_ne]
      intro e
      exact h0 (W.b8_zero (by omega))
    have hc := specPowG_yes ((g8 x).toNat : Int) 254
    rw [g8_back] at hc
    have HG : Hid (W.gi (g8 x) = W.gp (g8 x) 254) := by unfold W.gi; exact if_neg h0
    clear h0
    have HC : Hid _ := hc
    clear hc
    go_enter Try.func52, Try.ntmps52
    go_wp2_with fail
    refine (l05Mod_any x _).mono ?_
    rintro e w1 ⟨rfl, rfl⟩
    go_wp2_with fail
    refine (HC.out _ (by omega)).mono ?_
    rintro e w2 ⟨rfl, rfl⟩
    go_wp2_with fail
    go_ret
    exact ⟨by rw [HG.out]; rfl, rfl⟩
end Go.Proofs.Ytdlgailodhlbmaa
