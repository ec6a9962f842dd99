/- Texts of ours, laid one behind the other: TFieldN, TFieldS, TMatM, TMatC, TMatE, TMatF. -/
import Derived.Test.YtbkimmbfepjodaaDoorPfT2
import Derived.Deep.AppendLies
import Derived.Deep.RegionHeld3
import Derived.WalkKit
set_option linter.unusedVariables false
set_option linter.unusedSimpArgs false
/- Facts that lead from numbers of the program to the field of bytes, and texts that are summed up or taken so many times. -/
namespace Go.Proofs.YtbkimmbfepjodaaDoorT
set_option maxRecDepth 100000
open Go.RowKit
open W (B8)

theorem i64_xor (m n : Nat) (hm : m < 512) (hn : n < 512) : bits .xor .i64 (m : Int) (n : Int) = ((m ^^^ n : Nat) : Int) := by
  have h1 : ∀ k : Nat, k < 512 → (BitVec.ofInt 64 (k : Int)).toNat = k := fun k hk => by rw [BitVec.toNat_ofInt]; omega
  have h2 : m ^^^ n < 2 ^ 9 := Nat.xor_lt_two_pow (by omega) (by omega)
  show IntKind.i64.wrap ((BitVec.ofInt 64 (m : Int) ^^^ BitVec.ofInt 64 (n : Int)).toNat : Nat) = _
  rw [BitVec.toNat_xor, h1 m hm, h1 n hn, IntKind.wrap_i64]
  omega
theorem b8_lt (A : B8) : A.toNat < 256 := A.isLt
theorem i64_xor8 (A B : B8) : bits .xor .i64 (A.toNat : Int) (B.toNat : Int) = ((A ^^^ B).toNat : Int) := by
  rw [i64_xor _ _ (by have := b8_lt A; omega) (by have := b8_lt B; omega), BitVec.toNat_xor]
/-- A number, taken modulo 256. -/
def g8 (x : Int) : B8 := BitVec.ofInt 8 x
theorem g8_nat (x : Int) : ((g8 x).toNat : Int) = x % 256 := by
  unfold g8
  rw [BitVec.toNat_ofInt]
  omega
theorem g8_back (A : B8) : g8 (A.toNat : Int) = A := by
  apply BitVec.eq_of_toNat_eq
  have := g8_nat (A.toNat : Int)
  have := b8_lt A
  omega
namespace W
theorem xt_big : ∀ A : B8, 256 ≤ 2 * A.toNat → (2 * A.toNat) ^^^ 285 = (xt A).toNat := by decide +kernel
theorem xt_small : ∀ A : B8, 2 * A.toNat < 256 → 2 * A.toNat = (xt A).toNat := by decide +kernel
theorem half8 (B : B8) : B.toNat / 2 = (B >>> 1).toNat := by
  rw [BitVec.toNat_ushiftRight, Nat.shiftRight_eq_div_pow]
theorem odd8 (B : B8) : B.getLsbD 0 = decide (B.toNat % 2 = 1) := by rw [BitVec.getLsbD, Nat.testBit_zero]
theorem b8_zero {B : B8} (h : B.toNat = 0) : B = 0#8 := BitVec.eq_of_toNat_eq h

/-- The sum of two texts. -/
def addL : List UInt8 → List UInt8 → List UInt8
  | [], b => b
  | a, [] => a
  | x :: a, y :: b => (x ^^^ y) :: addL a b
theorem addL_nil (a : List UInt8) : addL a [] = a := by cases a <;> rfl
theorem addL_comm : ∀ (a b : List UInt8), addL a b = addL b a
  | [], b => by rw [addL_nil]; cases b <;> rfl
  | x :: a, [] => rfl
  | x :: a, y :: b => by rw [addL, addL, UInt8.xor_comm, addL_comm a b]
theorem addL_len : ∀ (a b : List UInt8), (addL a b).length = max a.length b.length
  | [], b => by simp [addL]
  | x :: a, [] => by simp [addL]
  | x :: a, y :: b => by
    rw [addL, List.length_cons, addL_len a b]
    simp only [List.length_cons]
    omega
/-- A text so many times. -/
def mulB (A : B8) (c : UInt8) : UInt8 := ⟨gm A c.toBitVec⟩
def mulL (A : B8) (l : List UInt8) : List UInt8 := l.map (mulB A)
theorem mulL_len (A : B8) (a : List UInt8) : (mulL A a).length = a.length := by simp [mulL]
/-- The first bytes done, the others as they were. -/
def addTo (a b : List UInt8) (k : Nat) : List UInt8 := addL (a.take k) (b.take k) ++ a.drop k
theorem addTo_all {a b : List UInt8} (h : b.length ≤ a.length) : addTo a b b.length = addL a b := by
  have key : ∀ (a b : List UInt8), b.length ≤ a.length → addL (a.take b.length) b ++ a.drop b.length = addL a b := by
    intro a b
    induction b generalizing a with
    | nil => intro _; simp [addL_nil]
    | cons y b ih =>
      intro h
      cases a with
      | nil => simp at h
      | cons x a =>
        simp only [List.length_cons, List.take_succ_cons, List.drop_succ_cons, addL, List.cons_append]
        rw [ih a (by simpa using h)]
  unfold addTo
  rw [List.take_of_length_le (Nat.le_refl _)]
  exact key a b h
theorem addTo_len {a b : List UInt8} {k : Nat} (h : b.length ≤ a.length) : (addTo a b k).length = a.length := by
  unfold addTo
  rw [List.length_append, addL_len, List.length_drop, List.length_take, List.length_take]
  omega
theorem addL_snoc : ∀ (a b : List UInt8) (x y : UInt8), a.length = b.length → addL (a ++ [x]) (b ++ [y]) = addL a b ++ [x ^^^ y]
  | [], [], x, y, _ => rfl
  | [], _ :: _, _, _, h => by simp at h
  | _ :: _, [], _, _, h => by simp at h
  | c :: a, d :: b, x, y, h => by
    have := addL_snoc a b x y (by simpa using h)
    simp only [List.cons_append, addL, this]
theorem at_mid (P : List UInt8) (x y : UInt8) (R : List UInt8) (k : Nat) (h : P.length = k) : (P ++ x :: R).getD k 0 = x ∧ (P ++ x :: R).set k y = P ++ y :: R := by
  subst h
  refine ⟨by simp [List.getD], ?_⟩
  rw [List.set_append_right _ _ (Nat.le_refl _)]
  simp
theorem getD_at {l : List UInt8} {k : Nat} (h : k < l.length) : l[k] = l.getD k 0 := by simp [List.getD, h]
theorem addTo_step {a b : List UInt8} {k : Nat} (h : b.length ≤ a.length) (hk : k < b.length) :
    (addTo a b k).getD k 0 = a.getD k 0 ∧ (addTo a b k).set k (a.getD k 0 ^^^ b.getD k 0) = addTo a b (k + 1) := by
  have ha : k < a.length := by omega
  have hl : (addL (a.take k) (b.take k)).length = k := by rw [addL_len, List.length_take, List.length_take]; omega
  have e1 : a.drop k = a.getD k 0 :: a.drop (k + 1) := by rw [List.drop_eq_getElem_cons ha, getD_at ha]
  have e2 : a.take (k + 1) = a.take k ++ [a.getD k 0] := by rw [List.take_succ_eq_append_getElem ha, getD_at ha]
  have e3 : b.take (k + 1) = b.take k ++ [b.getD k 0] := by rw [List.take_succ_eq_append_getElem hk, getD_at hk]
  have m := at_mid (addL (a.take k) (b.take k)) (a.getD k 0) (a.getD k 0 ^^^ b.getD k 0) (a.drop (k + 1)) k hl
  unfold addTo
  rw [e1, e2, e3, addL_snoc _ _ _ _ (by rw [List.length_take, List.length_take]; omega), List.append_assoc]
  exact ⟨m.1, m.2⟩
theorem addTo_zero (a b : List UInt8) : addTo a b 0 = a := by simp [addTo, addL]
def mulTo (A : B8) (l : List UInt8) (k : Nat) : List UInt8 := mulL A (l.take k) ++ l.drop k
theorem mulTo_zero (A : B8) (l : List UInt8) : mulTo A l 0 = l := by simp [mulTo, mulL]
theorem mulTo_all (A : B8) (l : List UInt8) {k : Nat} (h : l.length ≤ k) : mulTo A l k = mulL A l := by
  unfold mulTo
  rw [List.take_of_length_le h, List.drop_of_length_le h, List.append_nil]
theorem mulTo_len (A : B8) (l : List UInt8) (k : Nat) : (mulTo A l k).length = l.length := by
  unfold mulTo
  rw [List.length_append, mulL_len, List.length_take, List.length_drop]
  omega
theorem mulTo_step (A : B8) {l : List UInt8} {k : Nat} (h : k < l.length) : (mulTo A l k).getD k 0 = l.getD k 0 ∧ (mulTo A l k).set k (mulB A (l.getD k 0)) = mulTo A l (k + 1) := by
  have e1 : l.drop k = l.getD k 0 :: l.drop (k + 1) := by rw [List.drop_eq_getElem_cons h, getD_at h]
  have e2 : l.take (k + 1) = l.take k ++ [l.getD k 0] := by rw [List.take_succ_eq_append_getElem h, getD_at h]
  have m := at_mid (mulL A (l.take k)) (l.getD k 0) (mulB A (l.getD k 0)) (l.drop (k + 1)) k (by rw [mulL_len, List.length_take]; omega)
  unfold mulTo
  rw [e1, e2]
  refine ⟨m.1, ?_⟩
  rw [m.2]
  simp [mulL]
end W
end Go.Proofs.YtbkimmbfepjodaaDoorT
/- The walks of the models of the field of bytes: MulG, PowG, InvG. -/
namespace Go.Proofs.YtbkimmbfepjodaaDoorT
set_option maxRecDepth 100000
open Go.RowKit
open W (B8)
attribute [local irreducible] W.gm W.xt W.gp W.gi

theorem l05Mod_any (x : Int) (w : World) : Calls Tw.prog 63 #[.int .i64 x] w fun e w' => e = .returned (.int .i64 ((g8 x).toNat : Int)) ∧ w' = w := by
  have hg := g8_nat x
  have ht : x.tmod 256 = x % 256 ∨ (x.tmod 256 = x % 256 - 256 ∧ 0 < x % 256) := by
    have := Int.tmod_eq_emod (a := x) (b := 256)
    split at this
    · left; omega
    · right; refine ⟨by omega, ?_⟩; omega
  by_cases h : x.tmod 256 < 0
  · have e : x.tmod 256 + 256 = ((g8 x).toNat : Int) := by omega
    have hw : IntKind.i64.wrap (x.tmod 256 + 256) = x.tmod 256 + 256 := IntWalk.i64_in _ ⟨by omega, by omega⟩
    have HE : Hid _ := e
    clear e hg ht
    go_enter Tw.func63, Tw.ntmps63
    go_wp2_with fail
    go_ret
    exact ⟨by rw [← HE.out]; rfl, rfl⟩
  · have e : x.tmod 256 = ((g8 x).toNat : Int) := by omega
    have HE : Hid _ := e
    clear e hg ht
    go_enter Tw.func63, Tw.ntmps63
    go_wp2_with fail
    go_ret
    exact ⟨by rw [← HE.out]; rfl, rfl⟩
/-- What a round of the product does. -/
theorem gm_round {P O A B : B8} (h : P = O ^^^ W.gm A B) : (B.getLsbD 0 = true → P = (O ^^^ A) ^^^ W.gm (W.xt A) (B >>> 1)) ∧ (B.getLsbD 0 = false → P = O ^^^ W.gm (W.xt A) (B >>> 1)) := by
  rw [W.gm_step A B] at h
  unfold W.gb at h
  refine ⟨fun hb => ?_, fun hb => ?_⟩
  · rw [hb] at h; rw [h, BitVec.xor_assoc]; rfl
  · rw [hb] at h; simpa using h
set_option maxHeartbeats 1000000 in
theorem specMulG (x y : Int) (w : World) : Calls Tw.prog 65 #[.int .i64 x, .int .i64 y] w fun e w' => e = .returned (.int .i64 ((W.gm (g8 x) (g8 y)).toNat : Int)) ∧ w' = w := by
  obtain ⟨P, hP⟩ : ∃ P, P = W.gm (g8 x) (g8 y) := ⟨_, rfl⟩
  rw [← hP]
  go_enter Tw.func65, Tw.ntmps65
  go_wp2_with fail
  refine (l05Mod_any x _).mono ?_
  rintro e w1 ⟨rfl, rfl⟩
  go_wp2_with fail
  refine (l05Mod_any y _).mono ?_
  rintro e w2 ⟨rfl, rfl⟩
  have HP : Hid (P = 0#8 ^^^ W.gm (g8 x) (g8 y)) := by rw [BitVec.zero_xor]; exact hP
  clear hP
  generalize g8 x = A0 at *
  generalize g8 y = B0 at *
  go_wp2_with fail
  go_loop [0, 1, 5] (fun a b o => ∃ A B O : B8, a = .int .i64 (A.toNat : Int) ∧ b = .int .i64 (B.toNat : Int) ∧ o = .int .i64 (O.toNat : Int) ∧ P = O ^^^ W.gm A B) (fun _ b _ => (intOf b).toNat)
  case atStart => exact ⟨A0, B0, 0#8, rfl, rfl, rfl, HP.out⟩
  case round =>
    obtain ⟨A, B, O, rfl, rfl, rfl, hr⟩ := hrel
    have hA := b8_lt A
    have hO := b8_lt O
    have hBl := b8_lt B
    by_cases hb0 : 0 < B.toNat
    · have hb0' : (0 : Int) < (B.toNat : Int) := by omega
      have hhalf : Value.int .i64 ((B.toNat : Int) / 2) = .int .i64 ((B >>> 1).toNat : Int) := by rw [← W.half8]; congr 1
      have HH : Hid _ := hhalf
      clear hhalf
      have hlt : (B >>> 1).toNat < B.toNat := by rw [← W.half8]; omega
      have hodd := W.odd8 B
      obtain ⟨r1, r2⟩ := gm_round hr
      have hxo := i64_xor8 O A
      by_cases hbit : B.getLsbD 0 = true
      · have hm : ((B.toNat : Int) % 2 == 1) = true := by
          rw [hbit] at hodd
          have := of_decide_eq_true hodd.symm
          rw [beq_iff_eq]; omega
        have HR : Hid _ := r1 hbit
        clear r1 r2 hodd hbit hr
        by_cases hbig : 256 ≤ 2 * A.toNat
        · have hx : bits .xor .i64 (2 * (A.toNat : Int)) 285 = ((W.xt A).toNat : Int) := by
            have := i64_xor (2 * A.toNat) 285 (by omega) (by omega)
            rw [W.xt_big A hbig] at this
            rw [← this]; rfl
          have hbig' : (256 : Int) ≤ 2 * (A.toNat : Int) := by omega
          generalize W.xt A = A' at *
          generalize O ^^^ A = O' at *
          generalize B >>> 1 = B' at *
          go_wp2_with fail
          go_round
          case rel => exact ⟨A', B', O', rfl, HH.out, rfl, HR.out⟩
          case measure => simp [intOf]; omega
        · have hx : 2 * (A.toNat : Int) = ((W.xt A).toNat : Int) := by
            have := W.xt_small A (by omega)
            omega
          have hbig' : ¬ (256 : Int) ≤ 2 * (A.toNat : Int) := by omega
          have HX : Hid _ := hx
          clear hx
          generalize W.xt A = A' at *
          generalize O ^^^ A = O' at *
          generalize B >>> 1 = B' at *
          go_wp2_with fail
          go_round
          case rel => exact ⟨A', B', O', by rw [← HX.out], HH.out, rfl, HR.out⟩
          case measure => simp [intOf]; omega
      · have hbit' : B.getLsbD 0 = false := by simpa using hbit
        have hm : ((B.toNat : Int) % 2 == 1) = false := by
          rw [hbit'] at hodd
          have := of_decide_eq_false hodd.symm
          rw [beq_eq_false_iff_ne]; omega
        have HR : Hid _ := r2 hbit'
        clear r1 r2 hodd hbit hbit' hr
        by_cases hbig : 256 ≤ 2 * A.toNat
        · have hx : bits .xor .i64 (2 * (A.toNat : Int)) 285 = ((W.xt A).toNat : Int) := by
            have := i64_xor (2 * A.toNat) 285 (by omega) (by omega)
            rw [W.xt_big A hbig] at this
            rw [← this]; rfl
          have hbig' : (256 : Int) ≤ 2 * (A.toNat : Int) := by omega
          generalize W.xt A = A' at *
          generalize B >>> 1 = B' at *
          go_wp2_with fail
          go_round
          case rel => exact ⟨A', B', O, rfl, HH.out, rfl, HR.out⟩
          case measure => simp [intOf]; omega
        · have hx : 2 * (A.toNat : Int) = ((W.xt A).toNat : Int) := by
            have := W.xt_small A (by omega)
            omega
          have hbig' : ¬ (256 : Int) ≤ 2 * (A.toNat : Int) := by omega
          have HX : Hid _ := hx
          clear hx
          generalize W.xt A = A' at *
          generalize B >>> 1 = B' at *
          go_wp2_with fail
          go_round
          case rel => exact ⟨A', B', O, by rw [← HX.out], HH.out, rfl, HR.out⟩
          case measure => simp [intOf]; omega
    · have hb0' : ¬ (0 : Int) < (B.toNat : Int) := by omega
      have HR : Hid (P = O) := by
        have e := W.b8_zero (B := B) (by omega)
        rw [e, W.gm_zero, BitVec.xor_zero] at hr
        exact hr
      clear hr
      go_wp2_with fail
      go_ret
      exact ⟨by rw [HR.out]; rfl, rfl⟩
theorem gp_next (A : B8) (k : Nat) (x : Int) (h : A = g8 x) : W.gm (g8 ((W.gp A k).toNat : Int)) (g8 x) = W.gp A (k + 1) := by
  rw [g8_back, ← h, W.gp_succ]
set_option maxHeartbeats 1000000 in
theorem specPowG_yes (x : Int) (n : Nat) (w : World) (h : n ≤ 1000) : Calls Tw.prog 64 #[.int .i64 x, .int .i64 n] w fun e w' => e = .returned (.int .i64 ((W.gp (g8 x) n).toNat : Int)) ∧ w' = w := by
  have h1 : decide ((0 : Int) ≤ (n : Int)) = true := by simp
  have h2 : decide ((n : Int) ≤ 1000) = true := by simp; omega
  go_enter Tw.func64, Tw.ntmps64
  go_wp2_with fail
  refine (l01In_any _ _ _ _).mono ?_
  rw [h1, h2]
  rintro e w' ⟨rfl, rfl⟩
  go_wp2_with fail
  go_loop [5, 6] (fun o i => ∃ k : Nat, i = .int .i64 k ∧ k ≤ n ∧ o = .int .i64 ((W.gp (g8 x) k).toNat : Int)) (fun _ i => n - (intOf i).toNat)
  case atStart => exact ⟨0, rfl, Nat.zero_le _, by rw [W.gp_0]; rfl⟩
  case round =>
    obtain ⟨k, rfl, hk, rfl⟩ := hrel
    by_cases hlt : k < n
    · have hlt' : (k : Int) < (n : Int) := by omega
      have hc := specMulG ((W.gp (g8 x) k).toNat : Int) x
      rw [gp_next (g8 x) k x rfl] at hc
      go_wp2_with fail
      refine (hc _).mono ?_
      rintro e w1 ⟨rfl, rfl⟩
      go_wp2_with fail
      go_round
      case rel => exact ⟨k + 1, by go_num, by omega, rfl⟩
      case measure => simp [intOf]; omega
    · have hlt' : ¬ (k : Int) < (n : Int) := by omega
      obtain rfl : k = n := by omega
      go_wp2_with fail
      go_ret
      exact ⟨rfl, rfl⟩
theorem specInvG (x : Int) (w : World) : Calls Tw.prog 43 #[.int .i64 x] w fun e w' => e = .returned (.int .i64 ((W.gi (g8 x)).toNat : Int)) ∧ w' = w := by
  by_cases h0 : g8 x = 0#8
  · have hz : (((g8 x).toNat : Int) == 0) = true := by rw [h0]; rfl
    have HG : Hid (W.gi (g8 x) = 0#8) := by rw [h0]; exact W.gi_zero
    clear h0
    go_enter Tw.func43, Tw.ntmps43
    go_wp2_with fail
    refine (l05Mod_any x _).mono ?_
    rintro e w1 ⟨rfl, rfl⟩
    go_wp2_with fail
    go_ret
    exact ⟨by rw [HG.out]; rfl, rfl⟩
  · have hz : (((g8 x).toNat : Int) == 0) = false := by
      rw [beq_eq_false_iff_ne]
      intro e
      exact h0 (W.b8_zero (by omega))
    have hc := specPowG_yes ((g8 x).toNat : Int) 254
    rw [g8_back] at hc
    have HG : Hid (W.gi (g8 x) = W.gp (g8 x) 254) := by unfold W.gi; exact if_neg h0
    clear h0
    have HC : Hid _ := hc
    clear hc
    go_enter Tw.func43, Tw.ntmps43
    go_wp2_with fail
    refine (l05Mod_any x _).mono ?_
    rintro e w1 ⟨rfl, rfl⟩
    go_wp2_with fail
    refine (HC.out _ (by omega)).mono ?_
    rintro e w2 ⟨rfl, rfl⟩
    go_wp2_with fail
    go_ret
    exact ⟨by rw [HG.out]; rfl, rfl⟩
end Go.Proofs.YtbkimmbfepjodaaDoorT
/- Plain facts on matrices over the field of bytes: products, inverses, and what the steps of an elimination keep; nothing of the program is read here. -/
namespace Go.Proofs.YtbkimmbfepjodaaDoorT.W

/-- A sum of so many. -/
def xs : Nat → (Nat → B8) → B8
  | 0, _ => 0#8
  | n + 1, f => xs n f ^^^ f n
theorem xs_congr {n : Nat} {f g : Nat → B8} (h : ∀ k, k < n → f k = g k) : xs n f = xs n g := by
  induction n with
  | zero => rfl
  | succ n ih => rw [xs, xs, ih (fun k hk => h k (by omega)), h n (by omega)]
theorem xs_add (n : Nat) (f g : Nat → B8) : xs n (fun k => f k ^^^ g k) = xs n f ^^^ xs n g := by
  induction n with
  | zero => simp [xs]
  | succ n ih => rw [xs, xs, xs, ih, xor_swap]
theorem xs_zero (n : Nat) : xs n (fun _ => 0#8) = 0#8 := by
  induction n with
  | zero => rfl
  | succ n ih => rw [xs, ih]; rfl
theorem xs_left (a : B8) (n : Nat) (f : Nat → B8) : gm a (xs n f) = xs n (fun k => gm a (f k)) := by
  induction n with
  | zero => exact gm_zero a
  | succ n ih => rw [xs, xs, gm_right, ih]
theorem xs_right (a : B8) (n : Nat) (f : Nat → B8) : gm (xs n f) a = xs n (fun k => gm (f k) a) := by
  induction n with
  | zero => exact zero_gm a
  | succ n ih => rw [xs, xs, gm_left, ih]
theorem xs_swap (n m : Nat) (f : Nat → Nat → B8) : xs n (fun i => xs m (fun j => f i j)) = xs m (fun j => xs n (fun i => f i j)) := by
  induction n with
  | zero => exact (xs_zero m).symm
  | succ n ih => simp only [xs]; rw [ih, ← xs_add]
theorem xs_one {n k : Nat} {f : Nat → B8} (hk : k < n) (h : ∀ j, j < n → j ≠ k → f j = 0#8) : xs n f = f k := by
  induction n with
  | zero => omega
  | succ n ih =>
    rw [xs]
    by_cases e : k = n
    · subst e
      rw [xs_congr (g := fun _ => 0#8) (fun j hj => h j (by omega) (by omega)), xs_zero, BitVec.zero_xor]
    · rw [ih (by omega) (fun j hj hne => h j (by omega) hne), h n (by omega) (by omega), BitVec.xor_zero]
theorem xs_two {n k l : Nat} {f : Nat → B8} (hk : k < n) (hl : l < n) (hkl : k ≠ l) (h : ∀ j, j < n → j ≠ k → j ≠ l → f j = 0#8) : xs n f = f k ^^^ f l := by
  have e : ∀ j, f j = (if j = k then f k else 0#8) ^^^ (if j = k then 0#8 else f j) := fun j => by
    by_cases hj : j = k
    · rw [if_pos hj, if_pos hj, hj, BitVec.xor_zero]
    · rw [if_neg hj, if_neg hj, BitVec.zero_xor]
  rw [xs_congr (g := fun j => (if j = k then f k else 0#8) ^^^ (if j = k then 0#8 else f j)) (fun j _ => e j), xs_add]
  rw [xs_one (k := k) hk (fun j _ hj => if_neg hj), if_pos rfl]
  rw [xs_one (k := l) hl (fun j hj hjl => by
    by_cases hjk : j = k
    · rw [if_pos hjk]
    · rw [if_neg hjk]; exact h j hj hjk hjl), if_neg (Ne.symm hkl)]

abbrev Mx := Nat → Nat → B8
def mm (n : Nat) (A B : Mx) : Mx := fun i j => xs n fun k => gm (A i k) (B k j)
def one : Mx := fun i j => if i = j then 1#8 else 0#8
/-- Two matrices of so many rows and columns are the same. -/
def eqM (n m : Nat) (A B : Mx) : Prop := ∀ i, i < n → ∀ j, j < m → A i j = B i j
theorem eqM.refl (n m : Nat) (A : Mx) : eqM n m A A := fun _ _ _ _ => rfl
theorem eqM.symm {n m : Nat} {A B : Mx} (h : eqM n m A B) : eqM n m B A := fun i hi j hj => (h i hi j hj).symm
theorem eqM.trans {n m : Nat} {A B C : Mx} (h : eqM n m A B) (k : eqM n m B C) : eqM n m A C := fun i hi j hj => (h i hi j hj).trans (k i hi j hj)
theorem mm_assoc (n m : Nat) (A B C : Mx) : mm m (mm n A B) C = mm n A (mm m B C) := by
  funext i j
  unfold mm
  rw [xs_congr (n := m) (g := fun k => xs n fun l => gm (gm (A i l) (B l k)) (C k j)) (fun k _ => xs_right _ n _), xs_swap]
  refine xs_congr fun l _ => ?_
  rw [xs_left]
  exact xs_congr fun k _ => gm_assoc _ _ _
theorem mm_left {n r m : Nat} {A A' B : Mx} (h : eqM r n A A') : eqM r m (mm n A B) (mm n A' B) := fun i hi j _ => xs_congr fun k hk => by rw [h i hi k hk]
theorem mm_right {n r m : Nat} {A B B' : Mx} (h : eqM n m B B') : eqM r m (mm n A B) (mm n A B') := fun i _ j hj => xs_congr fun k hk => by rw [h k hk j hj]
theorem one_mm {n i : Nat} (hi : i < n) (B : Mx) (j : Nat) : mm n one B i j = B i j := by
  unfold mm one
  rw [xs_one (k := i) hi (fun k _ hk => by rw [if_neg (Ne.symm hk), zero_gm]), if_pos rfl, one_gm]
theorem mm_one {n j : Nat} (hj : j < n) (A : Mx) (i : Nat) : mm n A one i j = A i j := by
  unfold mm one
  rw [xs_one (k := j) hj (fun k _ hk => by rw [if_neg hk, gm_zero]), if_pos rfl, gm_one]
/-- Its product with another one is OneM: from the left. -/
def Linv (n : Nat) (B M : Mx) : Prop := eqM n n (mm n B M) one
theorem Linv.only {n : Nat} {B B' M : Mx} (h' : Linv n B' M) (r : Linv n M B) : eqM n n B' B := by
  have e1 : eqM n n (mm n B' (mm n M B)) (mm n B' one) := mm_right r
  rw [← mm_assoc] at e1
  have e2 : eqM n n (mm n (mm n B' M) B) (mm n one B) := mm_left h'
  exact fun i hi j hj => by
    have h1 := e1 i hi j hj
    have h2 := e2 i hi j hj
    rw [mm_one hj] at h1
    rw [one_mm hi] at h2
    rw [← h1, h2]
/-- Steps that can be taken back: what stands at their left and at their right is OneM. -/
structure Step (n : Nat) (P Q : Mx) : Prop where
  left : Linv n P Q
  right : Linv n Q P
theorem Step.start (n : Nat) : Step n one one := ⟨fun _ hi j _ => one_mm hi one j, fun _ hi j _ => one_mm hi one j⟩
theorem Step.next {n : Nat} {P Q E D : Mx} (h : Step n P Q) (k : Step n E D) : Step n (mm n E P) (mm n Q D) := by
  refine ⟨?_, ?_⟩
  · unfold Linv
    rw [mm_assoc, ← mm_assoc n n P Q D]
    have e1 : eqM n n (mm n (mm n P Q) D) (mm n one D) := mm_left h.left
    have e2 : eqM n n (mm n E (mm n (mm n P Q) D)) (mm n E (mm n one D)) := mm_right e1
    have e3 : eqM n n (mm n E (mm n one D)) (mm n E D) := mm_right (fun i hi j _ => one_mm hi D j)
    exact (e2.trans e3).trans k.left
  · unfold Linv
    rw [mm_assoc, ← mm_assoc n n D E P]
    have e1 : eqM n n (mm n (mm n D E) P) (mm n one P) := mm_left k.right
    have e2 : eqM n n (mm n Q (mm n (mm n D E) P)) (mm n Q (mm n one P)) := mm_right e1
    have e3 : eqM n n (mm n Q (mm n one P)) (mm n Q P) := mm_right (fun i hi j _ => one_mm hi P j)
    exact (e2.trans e3).trans h.right
/-- The end of an elimination: what was done to OneM is the inverse, from both sides. -/
theorem Step.fin {n : Nat} {P Q M : Mx} (h : Step n P Q) (hp : Linv n P M) : Linv n M P := by
  have e1 : eqM n n (mm n Q (mm n P M)) (mm n Q one) := mm_right hp
  have e2 : eqM n n (mm n (mm n Q P) M) (mm n one M) := mm_left h.right
  rw [mm_assoc] at e2
  have eM : eqM n n M Q := fun i hi j hj => by
    have h1 := e1 i hi j hj
    have h2 := e2 i hi j hj
    rw [mm_one hj] at h1
    rw [one_mm hi] at h2
    rw [← h2, h1]
  exact (mm_left eM).trans h.right
/-- Rows p and c in each other's place. -/
def swapE (p c : Nat) : Mx := fun i j => if i = p then (if j = c then 1#8 else 0#8) else if i = c then (if j = p then 1#8 else 0#8) else one i j
def swapR (p c : Nat) (A : Mx) : Mx := fun i j => if i = p then A c j else if i = c then A p j else A i j
theorem swap_mm {n p c : Nat} (hp : p < n) (hc : c < n) (A : Mx) : eqM n n (mm n (swapE p c) A) (swapR p c A) := by
  intro i hi j _
  unfold mm swapE swapR
  by_cases h1 : i = p
  · simp only [if_pos h1]
    rw [xs_one (k := c) hc (fun k _ hk => by rw [if_neg hk, zero_gm]), if_pos rfl, one_gm]
  · simp only [if_neg h1]
    by_cases h2 : i = c
    · simp only [if_pos h2]
      rw [xs_one (k := p) hp (fun k _ hk => by rw [if_neg hk, zero_gm]), if_pos rfl, one_gm]
    · simp only [if_neg h2]
      exact one_mm hi A j
theorem swap_twice (p c : Nat) (A : Mx) : swapR p c (swapR p c A) = A := by
  funext i j
  unfold swapR
  by_cases h1 : i = p
  · subst h1
    rw [if_pos rfl]
    by_cases h2 : c = i
    · subst h2; rw [if_pos rfl]
    · rw [if_neg h2, if_pos rfl]
  · rw [if_neg h1]
    by_cases h2 : i = c
    · subst h2; rw [if_pos rfl, if_pos rfl]
    · rw [if_neg h2, if_neg h1, if_neg h2]
/-- Row c so many times. -/
def timesE (c : Nat) (s : B8) : Mx := fun i j => if i = c then (if j = c then s else 0#8) else one i j
def timesR (c : Nat) (s : B8) (A : Mx) : Mx := fun i j => if i = c then gm s (A c j) else A i j
theorem times_mm {n c : Nat} (hc : c < n) (s : B8) (A : Mx) : eqM n n (mm n (timesE c s) A) (timesR c s A) := by
  intro i hi j _
  unfold mm timesE timesR
  by_cases h1 : i = c
  · simp only [if_pos h1]
    rw [xs_one (k := c) hc (fun k _ hk => by rw [if_neg hk, zero_gm]), if_pos rfl]
  · simp only [if_neg h1]
    exact one_mm hi A j
/-- Row c, so many times, to row r. -/
def plusE (r c : Nat) (t : B8) : Mx := fun i j => if i = r then (if j = c then t else one i j) else one i j
def plusR (r c : Nat) (t : B8) (A : Mx) : Mx := fun i j => if i = r then A r j ^^^ gm t (A c j) else A i j
theorem plus_mm {n r c : Nat} (hr : r < n) (hc : c < n) (hrc : r ≠ c) (t : B8) (A : Mx) : eqM n n (mm n (plusE r c t) A) (plusR r c t A) := by
  intro i hi j _
  unfold mm plusE plusR
  by_cases h1 : i = r
  · subst h1
    simp only [if_true]
    rw [xs_two (k := i) (l := c) hr hc hrc (fun k _ hk hkc => by rw [if_neg hkc]; unfold one; rw [if_neg (Ne.symm hk), zero_gm]), if_neg hrc, if_pos rfl]
    unfold one
    rw [if_pos rfl, one_gm]
  · simp only [if_neg h1]
    exact one_mm hi A j
theorem step_swap {n p c : Nat} (hp : p < n) (hc : c < n) : Step n (swapE p c) (swapE p c) := by
  have e : Linv n (swapE p c) (swapE p c) := by
    have h1 : eqM n n (swapE p c) (swapR p c one) := fun i hi j hj => by
      have := swap_mm hp hc one i hi j hj
      rwa [mm_one hj] at this
    refine (swap_mm hp hc _).trans ?_
    intro i hi j hj
    have h2 : swapR p c (swapE p c) i j = swapR p c (swapR p c one) i j := by
      unfold swapR
      by_cases a1 : i = p
      · rw [if_pos a1, if_pos a1]; exact h1 c hc j hj
      · rw [if_neg a1, if_neg a1]
        by_cases a2 : i = c
        · rw [if_pos a2, if_pos a2]; exact h1 p hp j hj
        · rw [if_neg a2, if_neg a2]; exact h1 i hi j hj
    rw [h2, swap_twice]
  exact ⟨e, e⟩
theorem times_two {c : Nat} {s t : B8} (h : gm s t = 1#8) (A : Mx) : timesR c s (timesR c t A) = A := by
  funext i j
  unfold timesR
  by_cases h1 : i = c
  · subst h1; rw [if_pos rfl, if_pos rfl, ← gm_assoc, h, one_gm]
  · rw [if_neg h1, if_neg h1]
theorem linv_times {n c : Nat} (hc : c < n) {s t : B8} (h : gm s t = 1#8) : Linv n (timesE c s) (timesE c t) := by
  have h1 : eqM n n (timesE c t) (timesR c t one) := fun i hi j hj => by
    have := times_mm hc t one i hi j hj
    rwa [mm_one hj] at this
  refine (times_mm hc s _).trans ?_
  intro i hi j hj
  have h2 : timesR c s (timesE c t) i j = timesR c s (timesR c t one) i j := by
    show (if i = c then gm s (timesE c t c j) else timesE c t i j) = (if i = c then gm s (timesR c t one c j) else timesR c t one i j)
    rw [h1 c hc j hj, h1 i hi j hj]
  rw [h2, times_two h]
theorem step_times {n c : Nat} (hc : c < n) {s t : B8} (h : gm s t = 1#8) : Step n (timesE c s) (timesE c t) := ⟨linv_times hc h, linv_times hc (by rw [gm_comm]; exact h)⟩
theorem plus_twice {r c : Nat} (hrc : r ≠ c) (t : B8) (A : Mx) : plusR r c t (plusR r c t A) = A := by
  funext i j
  unfold plusR
  by_cases h1 : i = r
  · subst h1; rw [if_pos rfl, if_pos rfl, if_neg (Ne.symm hrc), BitVec.xor_assoc, BitVec.xor_self, BitVec.xor_zero]
  · rw [if_neg h1, if_neg h1]
theorem step_plus {n r c : Nat} (hr : r < n) (hc : c < n) (hrc : r ≠ c) (t : B8) : Step n (plusE r c t) (plusE r c t) := by
  have e : Linv n (plusE r c t) (plusE r c t) := by
    have h1 : eqM n n (plusE r c t) (plusR r c t one) := fun i hi j hj => by
      have := plus_mm hr hc hrc t one i hi j hj
      rwa [mm_one hj] at this
    refine (plus_mm hr hc hrc t _).trans ?_
    intro i hi j hj
    have h2 : plusR r c t (plusE r c t) i j = plusR r c t (plusR r c t one) i j := by
      show (if i = r then plusE r c t r j ^^^ gm t (plusE r c t c j) else plusE r c t i j) = (if i = r then plusR r c t one r j ^^^ gm t (plusR r c t one c j) else plusR r c t one i j)
      rw [h1 r hr j hj, h1 c hc j hj, h1 i hi j hj]
    rw [h2, plus_twice hrc]
  exact ⟨e, e⟩
/-- Where an elimination stands: what was done to OneM makes M to A, and can be taken back. -/
def Elim (n : Nat) (M A P : Mx) : Prop := (∃ Q, Step n P Q) ∧ eqM n n (mm n P M) A
theorem Elim.start (n : Nat) (M : Mx) : Elim n M M one := ⟨⟨one, Step.start n⟩, fun _ hi j _ => one_mm hi M j⟩
theorem Elim.congr {n : Nat} {M A A' P P' : Mx} (h : Elim n M A P) (hA : eqM n n A A') (hP : eqM n n P P') : Elim n M A' P' := by
  obtain ⟨⟨Q, s⟩, e⟩ := h
  refine ⟨⟨Q, ⟨(mm_left hP.symm).trans s.left, (mm_right hP.symm).trans s.right⟩⟩, ((mm_left hP.symm).trans e).trans hA⟩
theorem Elim.by {n : Nat} {M A P E D : Mx} (h : Elim n M A P) (k : Step n E D) : Elim n M (mm n E A) (mm n E P) := by
  obtain ⟨⟨Q, s⟩, e⟩ := h
  refine ⟨⟨_, s.next k⟩, ?_⟩
  rw [mm_assoc]
  exact mm_right e
theorem Elim.swap {n : Nat} {M A P : Mx} (h : Elim n M A P) {p c : Nat} (hp : p < n) (hc : c < n) : Elim n M (swapR p c A) (swapR p c P) := (h.by (step_swap hp hc)).congr (swap_mm hp hc A) (swap_mm hp hc P)
theorem Elim.times {n : Nat} {M A P : Mx} (h : Elim n M A P) {c : Nat} {s t : B8} (hc : c < n) (hs : gm s t = 1#8) : Elim n M (timesR c s A) (timesR c s P) := (h.by (step_times hc hs)).congr (times_mm hc s A) (times_mm hc s P)
theorem Elim.plus {n : Nat} {M A P : Mx} (h : Elim n M A P) {r c : Nat} (hr : r < n) (hc : c < n) (hrc : r ≠ c) (t : B8) : Elim n M (plusR r c t A) (plusR r c t P) := (h.by (step_plus hr hc hrc t)).congr (plus_mm hr hc hrc t A) (plus_mm hr hc hrc t P)
theorem Elim.done {n : Nat} {M A P : Mx} (h : Elim n M A P) (hA : eqM n n A one) : Linv n P M ∧ Linv n M P := by
  obtain ⟨⟨Q, s⟩, e⟩ := h
  have h1 : Linv n P M := e.trans hA
  exact ⟨h1, s.fin h1⟩
/-- The first columns are those of OneM. -/
def Cols (n c : Nat) (A : Mx) : Prop := ∀ i, i < n → ∀ j, j < c → A i j = one i j
/-- No row from c on has a number in column c: there is no inverse. -/
theorem Elim.none {n c : Nat} {M A P : Mx} (h : Elim n M A P) (hc : c < n) (hcol : Cols n c A) (hz : ∀ i, c ≤ i → i < n → A i c = 0#8) (B : Mx) : ¬ Linv n B M := by
  intro hB
  obtain ⟨⟨Q, s⟩, e⟩ := h
  let v : Mx := fun k _ => if k < c then A k c else if k = c then 1#8 else 0#8
  have hv : ∀ i, i < n → mm n A v i 0 = 0#8 := fun i hi => by
    have hsum : ∀ k, k < n → gm (A i k) (v k 0) = (if k < c then gm (A i k) (A k c) else 0#8) ^^^ (if k = c then A i c else 0#8) := fun k hk => by
      show gm (A i k) (if k < c then A k c else if k = c then 1#8 else 0#8) = _
      by_cases h1 : k < c
      · rw [if_pos h1, if_pos h1, if_neg (by omega), BitVec.xor_zero]
      · rw [if_neg h1, if_neg h1, BitVec.zero_xor]
        by_cases h2 : k = c
        · rw [if_pos h2, if_pos h2, gm_one, h2]
        · rw [if_neg h2, if_neg h2, gm_zero]
    unfold mm
    rw [xs_congr hsum, xs_add, xs_one (k := c) (f := fun k => if k = c then A i c else 0#8) hc (fun k _ hk => if_neg hk), if_pos rfl]
    by_cases hic : i < c
    · rw [xs_one (k := i) hi (fun k hk hki => by
        by_cases h1 : k < c
        · rw [if_pos h1, hcol i hi k h1]; unfold one; rw [if_neg (Ne.symm hki), zero_gm]
        · rw [if_neg h1]), if_pos hic, hcol i hi i hic]
      unfold one
      rw [if_pos rfl, one_gm, BitVec.xor_self]
    · rw [xs_congr (g := fun _ => 0#8) (fun k hk => by
        by_cases h1 : k < c
        · rw [if_pos h1, hcol i hi k h1]; unfold one; rw [if_neg (by omega), zero_gm]
        · rw [if_neg h1]), xs_zero, hz i (by omega) hi]
      rfl
  have hPM : ∀ i, i < n → mm n (mm n P M) v i 0 = 0#8 := fun i hi => by
    rw [← hv i hi]
    exact xs_congr fun k hk => by rw [e i hi k hk]
  have hMv : ∀ i, i < n → mm n M v i 0 = 0#8 := fun i hi => by
    have e1 : mm n (mm n Q P) (mm n M v) i 0 = mm n one (mm n M v) i 0 := xs_congr fun k hk => by rw [s.right i hi k hk]
    rw [one_mm hi] at e1
    rw [← e1, mm_assoc]
    have e2 : mm n Q (mm n P (mm n M v)) i 0 = xs n fun _ => 0#8 := xs_congr fun k hk => by
      have := hPM k hk
      rw [mm_assoc] at this
      rw [this, gm_zero]
    rw [e2, xs_zero]
  have hvc : v c 0 = 0#8 := by
    have e1 : mm n (mm n B M) v c 0 = mm n one v c 0 := xs_congr fun k hk => by rw [hB c hc k hk]
    rw [one_mm hc] at e1
    rw [← e1, mm_assoc]
    have e2 : mm n B (mm n M v) c 0 = xs n fun _ => 0#8 := xs_congr fun k hk => by rw [hMv k hk, gm_zero]
    rw [e2, xs_zero]
  have : v c 0 = 1#8 := by show (if c < c then _ else if c = c then 1#8 else 0#8) = 1#8; rw [if_neg (by omega), if_pos rfl]
  rw [this] at hvc
  exact absurd hvc (by decide)
end Go.Proofs.YtbkimmbfepjodaaDoorT.W
/- The walk of the model's MulM. -/
namespace Go.Proofs.YtbkimmbfepjodaaDoorT
set_option maxRecDepth 100000
open Go.RowKit
open W (B8 Mx)
attribute [local go_sem ↓] Go.wp_at_zero Go.wp_at_succ
attribute [local irreducible] W.gm W.xs

/-- Rows of numbers as a matrix over the field. -/
def mx (X : List (List Int)) : Mx := fun i j => g8 ((X.getD i []).getD j 0)
def colsOf (X : List (List Int)) : Nat := (X.headD []).length
theorem matOk_iff {X : List (List Int)} (h : matOk X = true) : (1 ≤ X.length ∧ X.length ≤ 8) ∧ (1 ≤ colsOf X ∧ colsOf X ≤ 8) ∧ ∀ x ∈ X, x.length = colsOf X ∧ ∀ y ∈ x, 0 ≤ y ∧ y ≤ 255 := by
  unfold matOk at h
  simp only [Bool.and_eq_true, decide_eq_true_eq, List.all_eq_true] at h
  obtain ⟨h1, h2, h3⟩ := h
  have each : ∀ x ∈ X, x.length = colsOf X ∧ (1 ≤ x.length ∧ x.length ≤ 8) ∧ ∀ y ∈ x, 0 ≤ y ∧ y ≤ 255 := fun x hx => by
    have := h1 x hx
    unfold rowOk numOk at this
    simp only [Bool.and_eq_true, decide_eq_true_eq, List.all_eq_true] at this
    obtain ⟨⟨q1, q2, q3⟩, q4⟩ := this
    exact ⟨q1, ⟨by omega, by omega⟩, q4⟩
  refine ⟨⟨by omega, by omega⟩, ?_, fun x hx => ⟨(each x hx).1, (each x hx).2.2⟩⟩
  cases X with
  | nil => simp at h2
  | cons x X => have := each x (by simp); have e : colsOf (x :: X) = x.length := rfl; omega
theorem WCells.drew {w : World} {g : Nat} {L : List Value} (h : WCells w g L) : WCells w.drew g L := h.below (Below.drew (Below.refl w.heap.size w)) h.1
/-- What the walk of a product wants of one of its rows. -/
structure RowAt2 (w : World) (cols : Nat) (A : Mx) (i b off : Nat) (loc : Option Addr) (cp : Nat) (row : List Int) : Prop where
  cell : w.cell? ⟨b, off + i, none⟩ = some (.slice loc cols cp)
  lt : b < w.heap.size
  len : row.length = cols
  crow : CRow w loc (ics row)
  num : ∀ j, j < cols → A i j = g8 (row.getD j 0)
theorem RowAt2.below {w w' : World} {cols : Nat} {A : Mx} {i b off : Nat} {loc : Option Addr} {cp : Nat} {row : List Int} (h : RowAt2 w cols A i b off loc cp row) (hb : Below w.heap.size w w') : RowAt2 w' cols A i b off loc cp row :=
  ⟨(hb.cell (p := ⟨b, off + i, none⟩) h.lt).trans h.cell, Nat.lt_of_lt_of_le h.lt hb.size, h.len, h.crow.stays hb, h.num⟩
/-- A matrix that lies in memory, row by row. -/
def Lies (w : World) (n cols : Nat) (A : Mx) (b off : Nat) : Prop := ∀ i, i < n → ∃ loc cp row, RowAt2 w cols A i b off loc cp row
theorem row_at {w : World} {a : Option Addr} {ss : List SR} {lo hi : Nat} {X : List (List Int)} (h : MR w a ss lo hi) (hX : rws ss = X) (hok : matOk X = true) :
    ∃ b off, a = some ⟨b, off, none⟩ ∧ Lies w X.length (colsOf X) (mx X) b off := by
  have hl : ss.length = X.length := by rw [← hX, rws_len]
  obtain ⟨h1, _, h3⟩ := matOk_iff hok
  obtain ⟨b, off, e, hb, hc⟩ := h.at (by omega)
  refine ⟨b, off, e, fun i hi => ?_⟩
  have his : i < ss.length := by omega
  have hmem : ss[i].row ∈ X := by rw [← hX]; exact List.mem_map.2 ⟨ss[i], List.getElem_mem his, rfl⟩
  have hlen := (h3 _ hmem).1
  have hget : X.getD i [] = ss[i].row := by rw [← hX, List.getD_eq_getElem?_getD]; simp [rws, his]
  refine ⟨ss[i].loc, ss[i].cap, ss[i].row, ⟨?_, hb, hlen, (h.2 _ (List.getElem_mem his)).crow, fun j _ => by unfold mx; rw [hget]⟩⟩
  have := hc i his
  unfold srv at this
  rw [hlen] at this
  exact this
end Go.Proofs.YtbkimmbfepjodaaDoorT
/- The walks of the model's two steps on rows: a row so many times, and a row from which so many times another is taken. -/
namespace Go.Proofs.YtbkimmbfepjodaaDoorT
set_option maxRecDepth 100000
open Go.RowKit
open W (B8 Mx)
attribute [local go_sem ↓] Go.wp_at_zero Go.wp_at_succ
attribute [local irreducible] W.gm W.xs W.mm

/-- A row so many times, and two rows summed so. -/
def timesL (t : B8) (row : List Int) : List Int := row.map fun x => ((W.gm t (g8 x)).toNat : Int)
def plusL (t : B8) (dst src : List Int) : List Int := (List.range dst.length).map fun k => ((g8 (dst.getD k 0) ^^^ W.gm t (g8 (src.getD k 0))).toNat : Int)
theorem timesL_len (t : B8) (row : List Int) : (timesL t row).length = row.length := by simp [timesL]
theorem plusL_len (t : B8) (dst src : List Int) : (plusL t dst src).length = dst.length := by simp [plusL]
/-- A new row. -/
def RowPost (row : List Int) (w : World) (e : Ending) (w' : World) : Prop := ∃ g cap, e = .returned (.slice (some ⟨g, 0, none⟩) row.length cap) ∧ w.heap.size ≤ g ∧ WCells w' g (ics row) ∧ row.length ≤ cap ∧ Below w.heap.size w w'
theorem ownsRow_one {W : World} {base : Nat} {e : TypeId} {size : Nat} {v : Value} {k : Nat} {xs : List Value} (h : W.ownsRow base e size v (k + 1) xs) : ∃ g cap, v = .slice (some ⟨g, 0, none⟩) (k + 1) cap := by
  rcases h.2 with ⟨_, h0⟩ | ⟨g, cap, _, rfl, _⟩
  · omega
  · exact ⟨g, cap, rfl⟩
theorem row_post {row : List Int} {w w' : World} {v : Value} {n : Nat} (hp : 0 < n) (hn : row.length = n) (hown : w'.ownsRow w.heap.size 3 1 v n (ics row)) (hb : Below w.heap.size w w') : RowPost row w (.returned v) w' := by
  obtain ⟨m, rfl⟩ : ∃ m, n = m + 1 := ⟨n - 1, by omega⟩
  obtain ⟨g, cap, rfl⟩ := ownsRow_one hown
  have hown2 := hown
  obtain ⟨_, ⟨h0, _⟩ | ⟨g', cap', cur, he, _, _, hc, _⟩⟩ := hown
  · cases h0
  · have e1 : cap' = cap := by simp at he; exact he.2.symm
    exact ⟨g, cap, by rw [hn], (hown2.lt g rfl).1, own_wcells hown2, by omega, hb⟩
set_option maxHeartbeats 1000000 in
theorem l06Times_any (loc : Option Addr) (row : List Int) (cp : Nat) (t : Int) (w : World) (hr : CRow w loc (ics row)) (hp : 0 < row.length) (hl : row.length ≤ 1000) :
    Calls Tw.prog 45 #[.slice loc row.length cp, .int .i64 t] w fun e w' => RowPost (timesL (g8 t) row) w e w' := by
  obtain ⟨i1, hi1, hy0, hy1, hy2⟩ := info_parts infoIntG
  have HR : Hid (CRow w loc (ics row)) := hr
  obtain ⟨n, hn⟩ : ∃ n, n = row.length := ⟨_, rfl⟩
  have HN : Hid (n = row.length) := hn
  rw [← hn]
  rw [← hn] at hp hl
  clear hr hn
  go_enter Tw.func45, Tw.ntmps45
  go_wp2_with fail
  go_loopw [5, 6] (fun v i wr => ∃ (k : Nat) (vv : Value), vv = v ∧ i = .int .i64 k ∧ k ≤ n ∧ wr.ownsRow w.heap.size 3 1 vv k (ics (timesL (g8 t) (row.take k))) ∧ Below w.heap.size w wr) (fun _ i _ => n - (intOf i).toNat)
  case atStart => exact ⟨0, _, rfl, rfl, by omega, World.ownsRow_made w #[] 0 (Nat.le_refl _) (by decide) rfl, (Below.refl _ _).alloc (Nat.le_refl _) _⟩
  case round =>
    obtain ⟨k, v, rfl, rfl, hk, hown, hb⟩ := hrel
    have hB := hb.size
    by_cases hlt : k < n
    · have hkr : k < row.length := by have := HN.out; omega
      obtain ⟨b, off, rfl, lb, hc⟩ := crow_int (HR.out.stays hb) (by omega)
      have d0 := hc k hkr
      have k0 : (0 : Int) ≤ (k : Int) := by omega
      have k1 : (k : Int) < (n : Int) := by omega
      have hst : ics (timesL (g8 t) (row.take (k + 1))) = ics (timesL (g8 t) (row.take k)) ++ [.int .i64 ((W.gm (g8 t) (g8 (row.getD k 0))).toNat : Int)] := by
        have e : row[k] = row.getD k 0 := by simp [List.getD, hkr]
        rw [List.take_succ_eq_append_getElem hkr, e]
        simp [timesL, ics]
      have hmul := specMulG t (row.getD k 0)
      generalize row.getD k 0 = x at *
      generalize W.gm (g8 t) (g8 x) = G at *
      have HST : Hid (ics (timesL (g8 t) (row.take (k + 1))) = ics (timesL (g8 t) (row.take k)) ++ [.int .i64 (G.toNat : Int)]) := hst
      have HMUL : Hid (∀ w : World, Calls Tw.prog 65 #[.int .i64 t, .int .i64 x] w fun e w' => e = .returned (.int .i64 (G.toNat : Int)) ∧ w' = w) := hmul
      clear hst hmul hc
      go_wp2_with fail
      refine (HMUL.out _).mono ?_
      rintro e w1 ⟨rfl, rfl⟩
      go_wp2_with (at_builtin; refine wpList_append_own _ rfl _ _ 52 rfl w.heap.size 3 i1 (.int .i64 0) 1 8 Tw.underlying52 hi1 hy0 hy1 hy2 rfl (by decide) _ _ _ rfl (hown.alloc _) ⟨w1.heap.size, 0, none⟩ 1 1 [.int .i64 (G.toNat : Int)] rfl rfl (cell_one_new _ _ _) ?c2 ?c3 ?c4 ?c5 ?_)
      case c2 => first | rfl | (intro u hu; simp at hu; subst hu; rfl)
      case c3 => unfold maxLen; omega
      case c4 => omega
      case c5 => first | omega | (simp; omega)
      · intro v' w2 hown' hgrow _
        rw [← HST.out] at hown'
        have hb2 : Below w.heap.size w w2 := (hb.alloc hB _).grown hgrow (by simp; omega) (fun j hj => (hown.lt j hj).1)
        clear hgrow hown hb
        go_wp2_with fail
        go_roundw
        case rel => exact ⟨k + 1, v', rfl, by go_num, by omega, hown', hb2⟩
        case measure => simp [intOf]; omega
    · have e : k = n := by omega
      have hlt' : ¬ (k : Int) < (n : Int) := by omega
      have hfin : RowPost (timesL (g8 t) row) w (.returned v) wr := row_post (n := k) (by omega) (by rw [timesL_len]; have := HN.out; omega) (by
        have h := hown
        rw [List.take_of_length_le (by have := HN.out; omega)] at h
        exact h) hb
      clear hown hb e
      go_wp2_with fail
      go_ret
      exact hfin
end Go.Proofs.YtbkimmbfepjodaaDoorT
/- The walk of the model's step on two rows: so many times a row is taken from another one. -/
namespace Go.Proofs.YtbkimmbfepjodaaDoorT
set_option maxRecDepth 100000
open Go.RowKit
open W (B8 Mx)
attribute [local go_sem ↓] Go.wp_at_zero Go.wp_at_succ
attribute [local irreducible] W.gm W.xs W.mm

theorem plusL_step (t : B8) (dst src : List Int) {k : Nat} (h : k < dst.length) : (plusL t dst src).take (k + 1) = (plusL t dst src).take k ++ [((g8 (dst.getD k 0) ^^^ W.gm t (g8 (src.getD k 0))).toNat : Int)] := by
  have hk : k < (plusL t dst src).length := by rw [plusL_len]; exact h
  rw [List.take_succ_eq_append_getElem hk]
  congr 2
  simp [plusL]
theorem g8_self {x : Int} (h0 : 0 ≤ x) (h1 : x ≤ 255) : ((g8 x).toNat : Int) = x := by rw [g8_nat]; omega
theorem kept_app {w w' : World} {o : Obj} {q : Option Nat} {a : Addr} {v : Value} (hg : (w.drew.alloc o).grownBy w' q) (hl : a.block < w.heap.size) (hq : q ≠ some a.block) (h : w.cell? a = some v) : w'.cell? a = some v := by
  have h1 : (w.drew.alloc o).cell? a = some v := ((((Below.refl w.heap.size w).drew).alloc (Nat.le_refl _) o).cell (p := a) hl).trans h
  have hl2 : a.block < (w.drew.alloc o).heap.size := by simp; omega
  exact (World.cell?_of_block (a := a) (hg.block a.block hl2 (fun e => hq e.symm))).trans h1
set_option maxHeartbeats 1000000 in
theorem l06Row_any (loc1 loc2 : Option Addr) (dst src : List Int) (c1 c2 : Nat) (t : Int) (w : World) (h1 : CRow w loc1 (ics dst)) (h2 : CRow w loc2 (ics src)) (hls : src.length = dst.length) (hp : 0 < dst.length) (hl : dst.length ≤ 1000) (hd : ∀ y ∈ dst, 0 ≤ y ∧ y ≤ 255) :
    Calls Tw.prog 46 #[.slice loc1 dst.length c1, .slice loc2 src.length c2, .int .i64 t] w fun e w' => RowPost (plusL (g8 t) dst src) w e w' := by
  obtain ⟨i1, hi1, hy0, hy1, hy2⟩ := info_parts infoIntG
  have HR1 : Hid (CRow w loc1 (ics dst)) := h1
  have HR2 : Hid (CRow w loc2 (ics src)) := h2
  have HD : Hid (∀ y ∈ dst, 0 ≤ y ∧ y ≤ 255) := hd
  obtain ⟨n, hn⟩ : ∃ n, n = dst.length := ⟨_, rfl⟩
  have HN : Hid (n = dst.length ∧ n = src.length) := ⟨hn, by omega⟩
  rw [hls, ← hn]
  rw [← hn] at hp hl
  clear h1 h2 hn hd hls
  go_enter Tw.func46, Tw.ntmps46
  go_wp2_with fail
  go_loopw [7, 8] (fun v i wr => ∃ (k : Nat) (vv : Value), vv = v ∧ i = .int .i64 k ∧ k ≤ n ∧ wr.ownsRow w.heap.size 3 1 vv k (ics ((plusL (g8 t) dst src).take k)) ∧ Below w.heap.size w wr) (fun _ i _ => n - (intOf i).toNat)
  case atStart => exact ⟨0, _, rfl, rfl, by omega, World.ownsRow_made w #[] 0 (Nat.le_refl _) (by decide) rfl, (Below.refl _ _).alloc (Nat.le_refl _) _⟩
  case round =>
    obtain ⟨k, v, rfl, rfl, hk, hown, hb⟩ := hrel
    have hB := hb.size
    by_cases hlt : k < n
    · have hkd : k < dst.length := by have := HN.out; omega
      have hks : k < src.length := by have := HN.out; omega
      obtain ⟨b1, o1, rfl, l1, hc1⟩ := crow_int HR1.out (by omega)
      obtain ⟨b2, o2, rfl, l2, hc2⟩ := crow_int HR2.out (by omega)
      have d1 := (hb.cell (p := ⟨b1, o1 + k, none⟩) l1).trans (hc1 k hkd)
      have d2 := (hb.cell (p := ⟨b2, o2 + k, none⟩) l2).trans (hc2 k hks)
      have n1 : v.ownBlock ≠ some b1 := fun e => by have := (hown.lt _ e).1; omega
      have n2 : v.ownBlock ≠ some b2 := fun e => by have := (hown.lt _ e).1; omega
      have k0 : (0 : Int) ≤ (k : Int) := by omega
      have k1 : (k : Int) < (n : Int) := by omega
      have hst := congrArg ics (plusL_step (g8 t) dst src hkd)
      have hmul := specMulG t (src.getD k 0)
      have hx := HD.out (dst.getD k 0) (by simp [List.getD, hkd])
      have hxs := g8_self hx.1 hx.2
      generalize src.getD k 0 = y at *
      generalize dst.getD k 0 = x at *
      generalize W.gm (g8 t) (g8 y) = G at *
      have hxo := i64_xor8 (g8 x) G
      rw [hxs] at hxo
      generalize g8 x ^^^ G = S at *
      have HST : Hid (ics ((plusL (g8 t) dst src).take (k + 1)) = ics ((plusL (g8 t) dst src).take k) ++ [.int .i64 (S.toNat : Int)]) := hst.trans (by simp [ics])
      have HMUL : Hid (∀ w : World, Calls Tw.prog 65 #[.int .i64 t, .int .i64 y] w fun e w' => e = .returned (.int .i64 (G.toNat : Int)) ∧ w' = w) := hmul
      have HB : Hid (Below w.heap.size w wr) := hb
      clear hst hmul hc1 hc2 hx hxs hb
      go_wp2_with fail
      have tokA : True := trivial
      go_region_held3 (fun w' => w'.cell? ⟨b1, o1 + k, none⟩ = some (.int .i64 x) ∧ w'.cell? ⟨b2, o2 + k, none⟩ = some (.int .i64 y))
        (first | assumption | (exact ⟨kept_app hgrow (Nat.lt_of_lt_of_le l1 hB) n1 d1, kept_app hgrow (Nat.lt_of_lt_of_le l2 hB) n2 d2⟩) | go_keep)
        (first
          | (go_at_call 65; have _t := tokA; refine (HMUL.out _).mono ?_; rintro e w9 ⟨rfl, rfl⟩; clear _t tokA)
          | ((fail_if_success (have _t := tokA)); refine step_append_lies _ (by rfl) _ _ _ (by rfl) w.heap.size 3 i1 _ 1 8 Tw.underlying52 hi1 hy0 hy1 hy2 rfl (by omega) _ _ _ (by rfl) ((hown.drew).alloc _) ⟨wr.heap.size, 0, none⟩ 1 1 [.int .i64 (S.toNat : Int)] (by rfl) (by rfl) (World.news_of_block (cs := #[.int .i64 (S.toNat : Int)]) (t := 3) (fr := (0, 0)) (heap_alloc_new wr _)) (by simp [Value.oneCell']) (by omega) (by unfold maxLen; omega) (by omega) (by simp; omega) (wr.heap.size + 1) (by simp) ?_; intro gg cap1 w8 hown1 hgrow hat hlt'))
      all_goals go_wp2_with fail
      all_goals
        have hbn := ((HB.out.alloc hB _).drew).grown hgrow (by simp; omega) (fun j hj => (hown.lt j hj).1)
        exact ⟨⟨k + 1, _, rfl, by go_num, by omega, by rw [HST.out]; exact hown1, hbn⟩, by simp [intOf]; omega⟩
    · have e : k = n := by omega
      have hlt' : ¬ (k : Int) < (n : Int) := by omega
      have hfin : RowPost (plusL (g8 t) dst src) w (.returned v) wr := row_post (n := k) (by omega) (by rw [plusL_len]; have := HN.out; omega) (by
        have h := hown
        rw [List.take_of_length_le (by rw [plusL_len]; have := HN.out; omega)] at h
        exact h) hb
      clear hown hb e
      go_wp2_with fail
      go_ret
      exact hfin
end Go.Proofs.YtbkimmbfepjodaaDoorT
