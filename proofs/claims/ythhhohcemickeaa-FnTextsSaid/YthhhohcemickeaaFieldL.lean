/- The walk of the law on the field of bytes, over what is told of the program's own functions. -/
import Derived.Test.YthhhohcemickeaaFieldS
import Derived.Test.YthhhohcemickeaaDrawP
namespace Go.Proofs.Ythhhohcemickeaa
open Go.RowKit
open W (B8)
attribute [local irreducible] W.gm W.xt W.gp W.gi

/-- What is told of the program's MulG, PowG and InvG. -/
structure FieldOk : Prop where
  mul : ∀ (A B : B8) (w : World), Calls Try.prog 12 #[.int .i64 (A.toNat : Int), .int .i64 (B.toNat : Int)] w fun e w' => e = .returned (.int .i64 ((W.gm A B).toNat : Int)) ∧ Below w.heap.size w w'
  pow : ∀ (A : B8) (n : Nat) (w : World), n ≤ 1000 → Calls Try.prog 14 #[.int .i64 (A.toNat : Int), .int .i64 (n : Int)] w fun e w' => e = .returned (.int .i64 ((W.gp A n).toNat : Int)) ∧ Below w.heap.size w w'
  less : ∀ (A : B8) (w : World), Calls Try.prog 14 #[.int .i64 (A.toNat : Int), .int .i64 (-1)] w fun e w' => e = .returned (.int .i64 0) ∧ Below w.heap.size w w'
  inv : ∀ (A : B8) (w : World), Calls Try.prog 15 #[.int .i64 (A.toNat : Int)] w fun e w' => e = .returned (.int .i64 ((W.gi A).toNat : Int)) ∧ Below w.heap.size w w'
abbrev MulIs (A B R : B8) : Prop := ∀ w : World, Calls Try.prog 12 #[.int .i64 (A.toNat : Int), .int .i64 (B.toNat : Int)] w fun e w' => e = .returned (.int .i64 (R.toNat : Int)) ∧ Below w.heap.size w w'
theorem FieldOk.mulIs (h : FieldOk) {A B R : B8} (e : W.gm A B = R) : MulIs A B R := fun w => by have := h.mul A B w; rwa [e] at this
abbrev PowIs (A : B8) (n : Int) (R : B8) : Prop := ∀ w : World, Calls Try.prog 14 #[.int .i64 (A.toNat : Int), .int .i64 n] w fun e w' => e = .returned (.int .i64 (R.toNat : Int)) ∧ Below w.heap.size w w'
theorem FieldOk.powIs (h : FieldOk) {A R : B8} {n : Int} (k : Nat) (hn : n = (k : Int)) (hk : k ≤ 1000) (e : W.gp A k = R) : PowIs A n R := fun w => by have := h.pow A k w hk; rw [e] at this; rw [hn]; exact this
theorem two_eight : W.gp 2#8 8 = 29#8 := by
  unfold W.gp W.gp W.gp W.gp W.gp W.gp W.gp W.gp W.gp
  unfold W.gm W.xt
  decide +kernel
set_option maxRecDepth 100000 in
set_option maxHeartbeats 2000000 in
theorem field_walk (hF : FieldOk) (a : Option Addr) (len cap : Nat) (w : World) (hcode : CodeAt w w.heap.size a len) :
    Calls Try.prog 3 #[.slice a len cap] w fun e w' => e = .returned (.bool true) ∧ Below w.heap.size w w' := by
  have hl := hcode.1
  have hbig : decide ((1048576 : Int) < (len : Int)) = false := by simp; omega
  have HC : Hid (CodeAt w w.heap.size a len) := hcode
  have HF : Hid FieldOk := hF
  clear hcode hF
  go_enter Try.func3, Try.ntmps3
  go_wp2_with fail
  refine (big_any a len cap _).mono ?_
  rintro e w1 ⟨rfl, hw1⟩
  obtain rfl : w = w1 := hw1.symm
  clear hw1
  rw [hbig]
  go_wp2_with fail
  refine (drawPlaces_any _ a len cap HC.out).mono ?_
  rintro e w2 ⟨gp, pcap, l, rfl, hgp, hgp2, hll, hlx, hcell, hb2⟩
  have B2 : Hid (Below w.heap.size w w2) := hb2
  have y0 := hcell 0 (by omega)
  have y1 := hcell 1 (by omega)
  have y2 := hcell 2 (by omega)
  have y3 := hcell 3 (by omega)
  have y4 := hcell 4 (by omega)
  have q0 : 0 ≤ l.getD 0 0 ∧ l.getD 0 0 < 10000 := hlx _ (by simp [List.getD, hll])
  have q1 : 0 ≤ l.getD 1 0 ∧ l.getD 1 0 < 10000 := hlx _ (by simp [List.getD, hll])
  have q2 : 0 ≤ l.getD 2 0 ∧ l.getD 2 0 < 10000 := hlx _ (by simp [List.getD, hll])
  have q3 : 0 ≤ l.getD 3 0 ∧ l.getD 3 0 < 10000 := hlx _ (by simp [List.getD, hll])
  have q4 : 0 ≤ l.getD 4 0 ∧ l.getD 4 0 < 10000 := hlx _ (by simp [List.getD, hll])
  generalize l.getD 0 0 = x0 at *
  generalize l.getD 1 0 = x1 at *
  generalize l.getD 2 0 = x2 at *
  generalize l.getD 3 0 = x3 at *
  generalize l.getD 4 0 = x4 at *
  obtain ⟨A, hA⟩ : ∃ A : B8, x0 % 256 = (A.toNat : Int) := ⟨g8 x0, (g8_nat x0).symm⟩
  obtain ⟨B, hB⟩ : ∃ B : B8, x1 % 256 = (B.toNat : Int) := ⟨g8 x1, (g8_nat x1).symm⟩
  obtain ⟨C, hC⟩ : ∃ C : B8, x2 % 256 = (C.toNat : Int) := ⟨g8 x2, (g8_nat x2).symm⟩
  obtain ⟨n, hn⟩ : ∃ n : Nat, x3 % 200 = (n : Int) := ⟨(x3 % 200).toNat, by omega⟩
  obtain ⟨m, hm⟩ : ∃ m : Nat, x4 % 200 = (m : Int) := ⟨(x4 % 200).toNat, by omega⟩
  have hn2 : n < 200 := by omega
  have hm2 : m < 200 := by omega
  clear hcell hll hlx hb2
  obtain ⟨R1, e1⟩ : ∃ R, W.gm A B = R := ⟨_, rfl⟩
  obtain ⟨R2, e2⟩ : ∃ R, W.gm A C = R := ⟨_, rfl⟩
  obtain ⟨R3, e3⟩ : ∃ R, W.gm R1 C = R := ⟨_, rfl⟩
  obtain ⟨R4, e4⟩ : ∃ R, W.gm B C = R := ⟨_, rfl⟩
  obtain ⟨P1, f1⟩ : ∃ R, W.gp A n = R := ⟨_, rfl⟩
  obtain ⟨P2, f2⟩ : ∃ R, W.gp A m = R := ⟨_, rfl⟩
  obtain ⟨P3, f3⟩ : ∃ R, W.gp A (n + m) = R := ⟨_, rfl⟩
  obtain ⟨I, f4⟩ : ∃ R, W.gi A = R := ⟨_, rfl⟩
  have c1 : MulIs A B R1 := HF.out.mulIs e1
  have c2 : MulIs B A R1 := HF.out.mulIs (by rw [W.gm_comm, e1])
  have c3 : MulIs A (B ^^^ C) (R1 ^^^ R2) := HF.out.mulIs (by rw [W.gm_right, e1, e2])
  have c4 := c1
  have c5 : MulIs A C R2 := HF.out.mulIs e2
  have c6 := c1
  have c7 : MulIs R1 C R3 := HF.out.mulIs e3
  have c8 : MulIs B C R4 := HF.out.mulIs e4
  have c9 : MulIs A R4 R3 := HF.out.mulIs (by rw [← e4, ← W.gm_assoc, e1, e3])
  have c10 := c1
  have c11 : ∀ w : World, Calls Try.prog 13 #[.int .i64 (A.toNat : Int), .int .i64 (B.toNat : Int)] w fun e w' => e = .returned (.int .i64 (R1.toNat : Int)) ∧ Below w.heap.size w w' := fun w => by
    have := specMulG (A.toNat : Int) (B.toNat : Int) w
    rw [g8_back, g8_back, e1] at this
    exact this.mono fun e w' h => ⟨h.1, by rw [h.2]; exact Below.refl _ _⟩
  have c12 : PowIs A (n : Int) P1 := HF.out.powIs n rfl (by omega) f1
  have c13 : PowIs A (m : Int) P2 := HF.out.powIs m rfl (by omega) f2
  have c14 : MulIs P1 P2 P3 := HF.out.mulIs (by rw [← f1, ← f2, W.gp_add, f3])
  have c15 : PowIs A ((n : Int) + (m : Int)) P3 := HF.out.powIs (n + m) (by omega) (by omega) f3
  have c16 : ∀ w : World, Calls Try.prog 12 #[.int .i64 (A.toNat : Int), .int .i64 1] w fun e w' => e = .returned (.int .i64 (A.toNat : Int)) ∧ Below w.heap.size w w' := HF.out.mulIs (B := 1#8) (W.gm_one A)
  have c17 : ∀ w : World, Calls Try.prog 12 #[.int .i64 (A.toNat : Int), .int .i64 0] w fun e w' => e = .returned (.int .i64 0) ∧ Below w.heap.size w w' := HF.out.mulIs (B := 0#8) (R := 0#8) (W.gm_zero A)
  have d1 : A = 0#8 → ∀ w : World, Calls Try.prog 15 #[.int .i64 (A.toNat : Int)] w fun e w' => e = .returned (.int .i64 0) ∧ Below w.heap.size w w' := fun h w => by
    have := HF.out.inv A w
    rw [show W.gi A = 0#8 by rw [h]; exact W.gi_zero] at this
    exact this
  have d2 : ∀ w : World, Calls Try.prog 14 #[.int .i64 2, .int .i64 8] w fun e w' => e = .returned (.int .i64 29) ∧ Below w.heap.size w w' := HF.out.powIs (A := 2#8) (R := 29#8) 8 rfl (by omega) two_eight
  have d3 := HF.out.less A
  have d4 : ∀ w : World, Calls Try.prog 14 #[.int .i64 (A.toNat : Int), .int .i64 0] w fun e w' => e = .returned (.int .i64 1) ∧ Below w.heap.size w w' := HF.out.powIs (R := 1#8) 0 rfl (by omega) (W.gp_0 A)
  have g1 : A ≠ 0#8 → ∀ w : World, Calls Try.prog 15 #[.int .i64 (A.toNat : Int)] w fun e w' => e = .returned (.int .i64 (I.toNat : Int)) ∧ Below w.heap.size w w' := fun _ w => by have := HF.out.inv A w; rwa [f4] at this
  have g2 : A ≠ 0#8 → ∀ w : World, Calls Try.prog 12 #[.int .i64 (A.toNat : Int), .int .i64 (I.toNat : Int)] w fun e w' => e = .returned (.int .i64 1) ∧ Below w.heap.size w w' := fun h => HF.out.mulIs (R := 1#8) (by rw [← f4]; exact W.gm_gi A h)
  have g3 : A ≠ 0#8 → ∀ w : World, Calls Try.prog 14 #[.int .i64 (A.toNat : Int), .int .i64 255] w fun e w' => e = .returned (.int .i64 1) ∧ Below w.heap.size w w' := fun h => HF.out.powIs (R := 1#8) 255 rfl (by omega) (W.gp_255 A h)
  have hbc := i64_xor8 B C
  have hrr := i64_xor8 R1 R2
  clear e1 e2 e3 e4 f1 f2 f3 f4 HF
  go_wp2_with fail
  refine (c1 _).mono ?_
  rintro e w3 ⟨rfl, hb3⟩
  have B3 : Hid (Below w.heap.size w w3) := B2.out.trans (hb3.mono B2.out.size)
  clear hb3 B2
  go_wp2_with fail
  refine (c2 _).mono ?_
  rintro e w4 ⟨rfl, hb4⟩
  have B4 : Hid (Below w.heap.size w w4) := B3.out.trans (hb4.mono B3.out.size)
  clear hb4 B3
  go_wp2_with fail
  refine (c3 _).mono ?_
  rintro e w5 ⟨rfl, hb5⟩
  have B5 : Hid (Below w.heap.size w w5) := B4.out.trans (hb5.mono B4.out.size)
  clear hb5 B4
  go_wp2_with fail
  refine (c4 _).mono ?_
  rintro e w6 ⟨rfl, hb6⟩
  have B6 : Hid (Below w.heap.size w w6) := B5.out.trans (hb6.mono B5.out.size)
  clear hb6 B5
  go_wp2_with fail
  refine (c5 _).mono ?_
  rintro e w7 ⟨rfl, hb7⟩
  have B7 : Hid (Below w.heap.size w w7) := B6.out.trans (hb7.mono B6.out.size)
  clear hb7 B6
  go_wp2_with fail
  refine (c6 _).mono ?_
  rintro e w8 ⟨rfl, hb8⟩
  have B8 : Hid (Below w.heap.size w w8) := B7.out.trans (hb8.mono B7.out.size)
  clear hb8 B7
  go_wp2_with fail
  refine (c7 _).mono ?_
  rintro e w9 ⟨rfl, hb9⟩
  have B9 : Hid (Below w.heap.size w w9) := B8.out.trans (hb9.mono B8.out.size)
  clear hb9 B8
  go_wp2_with fail
  refine (c8 _).mono ?_
  rintro e w10 ⟨rfl, hb10⟩
  have B10 : Hid (Below w.heap.size w w10) := B9.out.trans (hb10.mono B9.out.size)
  clear hb10 B9
  go_wp2_with fail
  refine (c9 _).mono ?_
  rintro e w11 ⟨rfl, hb11⟩
  have B11 : Hid (Below w.heap.size w w11) := B10.out.trans (hb11.mono B10.out.size)
  clear hb11 B10
  go_wp2_with fail
  refine (c10 _).mono ?_
  rintro e w12 ⟨rfl, hb12⟩
  have B12 : Hid (Below w.heap.size w w12) := B11.out.trans (hb12.mono B11.out.size)
  clear hb12 B11
  go_wp2_with fail
  refine (c11 _).mono ?_
  rintro e w13 ⟨rfl, hb13⟩
  have B13 : Hid (Below w.heap.size w w13) := B12.out.trans (hb13.mono B12.out.size)
  clear hb13 B12
  go_wp2_with fail
  refine (c12 _).mono ?_
  rintro e w14 ⟨rfl, hb14⟩
  have B14 : Hid (Below w.heap.size w w14) := B13.out.trans (hb14.mono B13.out.size)
  clear hb14 B13
  go_wp2_with fail
  refine (c13 _).mono ?_
  rintro e w15 ⟨rfl, hb15⟩
  have B15 : Hid (Below w.heap.size w w15) := B14.out.trans (hb15.mono B14.out.size)
  clear hb15 B14
  go_wp2_with fail
  refine (c14 _).mono ?_
  rintro e w16 ⟨rfl, hb16⟩
  have B16 : Hid (Below w.heap.size w w16) := B15.out.trans (hb16.mono B15.out.size)
  clear hb16 B15
  go_wp2_with fail
  refine (c15 _).mono ?_
  rintro e w17 ⟨rfl, hb17⟩
  have B17 : Hid (Below w.heap.size w w17) := B16.out.trans (hb17.mono B16.out.size)
  clear hb17 B16
  go_wp2_with fail
  refine (c16 _).mono ?_
  rintro e w18 ⟨rfl, hb18⟩
  have B18 : Hid (Below w.heap.size w w18) := B17.out.trans (hb18.mono B17.out.size)
  clear hb18 B17
  go_wp2_with fail
  refine (c17 _).mono ?_
  rintro e w19 ⟨rfl, hb19⟩
  have B19 : Hid (Below w.heap.size w w19) := B18.out.trans (hb19.mono B18.out.size)
  clear hb19 B18
  by_cases h0 : A = 0#8
  · have hz : ((A.toNat : Int) == 0) = true := by rw [h0]; rfl
    replace d1 := d1 h0
    clear g1 g2 g3 h0
    go_wp2_with fail
    refine (d1 _).mono ?_
    rintro e w20 ⟨rfl, hb20⟩
    have B20 : Hid (Below w.heap.size w w20) := B19.out.trans (hb20.mono B19.out.size)
    clear hb20 B19
    go_wp2_with fail
    refine (d2 _).mono ?_
    rintro e w21 ⟨rfl, hb21⟩
    have B21 : Hid (Below w.heap.size w w21) := B20.out.trans (hb21.mono B20.out.size)
    clear hb21 B20
    go_wp2_with fail
    refine (d3 _).mono ?_
    rintro e w22 ⟨rfl, hb22⟩
    have B22 : Hid (Below w.heap.size w w22) := B21.out.trans (hb22.mono B21.out.size)
    clear hb22 B21
    go_wp2_with fail
    refine (d4 _).mono ?_
    rintro e w23 ⟨rfl, hb23⟩
    have B23 : Hid (Below w.heap.size w w23) := B22.out.trans (hb23.mono B22.out.size)
    clear hb23 B22
    go_wp2_with fail
    go_ret
    exact ⟨rfl, B23.out⟩
  · have hz : ((A.toNat : Int) == 0) = false := by
      rw [beq_eq_false_iff_ne]
      intro e
      exact h0 (W.b8_zero (by omega))
    have e1 := g1 h0
    have e2 := g2 h0
    have e3 := g3 h0
    clear d1 g1 g2 g3 h0
    go_wp2_with fail
    refine (e1 _).mono ?_
    rintro e w20 ⟨rfl, hb20⟩
    have B20 : Hid (Below w.heap.size w w20) := B19.out.trans (hb20.mono B19.out.size)
    clear hb20 B19
    go_wp2_with fail
    refine (e2 _).mono ?_
    rintro e w21 ⟨rfl, hb21⟩
    have B21 : Hid (Below w.heap.size w w21) := B20.out.trans (hb21.mono B20.out.size)
    clear hb21 B20
    go_wp2_with fail
    refine (e3 _).mono ?_
    rintro e w22 ⟨rfl, hb22⟩
    have B22 : Hid (Below w.heap.size w w22) := B21.out.trans (hb22.mono B21.out.size)
    clear hb22 B21
    go_wp2_with fail
    refine (d2 _).mono ?_
    rintro e w23 ⟨rfl, hb23⟩
    have B23 : Hid (Below w.heap.size w w23) := B22.out.trans (hb23.mono B22.out.size)
    clear hb23 B22
    go_wp2_with fail
    refine (d3 _).mono ?_
    rintro e w24 ⟨rfl, hb24⟩
    have B24 : Hid (Below w.heap.size w w24) := B23.out.trans (hb24.mono B23.out.size)
    clear hb24 B23
    go_wp2_with fail
    refine (d4 _).mono ?_
    rintro e w25 ⟨rfl, hb25⟩
    have B25 : Hid (Below w.heap.size w w25) := B24.out.trans (hb25.mono B24.out.size)
    clear hb25 B24
    go_wp2_with fail
    go_ret
    exact ⟨rfl, B25.out⟩
end Go.Proofs.Ythhhohcemickeaa
