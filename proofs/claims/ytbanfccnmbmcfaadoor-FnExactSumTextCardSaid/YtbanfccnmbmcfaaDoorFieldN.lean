/- Facts that lead from numbers of the program to the field of bytes, and texts that are summed up or taken so many times. -/
import Derived.Test.YtbanfccnmbmcfaaDoorFieldM
import Derived.Test.YtbanfccnmbmcfaaDoorBytes
namespace Go.Proofs.YtbanfccnmbmcfaaDoor
set_option maxRecDepth 100000
open Go.RowKit
open W (B8)

theorem i64_xor (m n : Nat) (hm : m < 512) (hn : n < 512) : bits .xor .i64 (m : Int) (n : Int) = ((m ^^^ n : Nat) : Int) := by
  have h1 : ∀ k : Nat, k < 512 → (BitVec.ofInt 64 (k : Int)).toNat = k := fun k hk => by rw [BitVec.toNat_ofInt]; omega
  have h2 : m ^^^ n < 2 ^ 9 := Nat.xor_lt_two_pow (by omega) (by omega)
  show IntKind.i64.wrap ((BitVec.ofInt 64 (m : Int) ^^^ BitVec.ofInt 64 (n : Int)).toNat : Nat) = _
  rw [BitVec.toNat_xor, h1 m hm, h1 n hn, IntKind.wrap_i64]
  omega
theorem b8_lt (A : B8) : A.toNat < 256 := A.isLt
theorem i64_xor8 (A B : B8) : bits .xor .i64 (A.toNat : Int) (B.toNat : Int) = ((A ^^^ B).toNat : Int) := by
  rw [i64_xor _ _ (by have := b8_lt A; omega) (by have := b8_lt B; omega), BitVec.toNat_xor]
/-- A number, taken modulo 256. -/
def g8 (x : Int) : B8 := BitVec.ofInt 8 x
theorem g8_nat (x : Int) : ((g8 x).toNat : Int) = x % 256 := by
  unfold g8
  rw [BitVec.toNat_ofInt]
  omega
theorem g8_back (A : B8) : g8 (A.toNat : Int) = A := by
  apply BitVec.eq_of_toNat_eq
  have := g8_nat (A.toNat : Int)
  have := b8_lt A
  omega
theorem g8_mod (x : Int) : g8 (x % 256) = g8 x := by
  apply BitVec.eq_of_toNat_eq
  have := g8_nat (x % 256)
  have := g8_nat x
  omega
namespace W
theorem xt_big : ∀ A : B8, 256 ≤ 2 * A.toNat → (2 * A.toNat) ^^^ 285 = (xt A).toNat := by decide +kernel
theorem xt_small : ∀ A : B8, 2 * A.toNat < 256 → 2 * A.toNat = (xt A).toNat := by decide +kernel
theorem half8 (B : B8) : B.toNat / 2 = (B >>> 1).toNat := by
  rw [BitVec.toNat_ushiftRight, Nat.shiftRight_eq_div_pow]
theorem odd8 (B : B8) : B.getLsbD 0 = decide (B.toNat % 2 = 1) := by rw [BitVec.getLsbD, Nat.testBit_zero]
theorem b8_zero {B : B8} (h : B.toNat = 0) : B = 0#8 := BitVec.eq_of_toNat_eq h

/-- The sum of two texts. -/
def addL : List UInt8 → List UInt8 → List UInt8
  | [], b => b
  | a, [] => a
  | x :: a, y :: b => (x ^^^ y) :: addL a b
theorem addL_nil (a : List UInt8) : addL a [] = a := by cases a <;> rfl
theorem addL_comm : ∀ (a b : List UInt8), addL a b = addL b a
  | [], b => by rw [addL_nil]; cases b <;> rfl
  | x :: a, [] => rfl
  | x :: a, y :: b => by rw [addL, addL, UInt8.xor_comm, addL_comm a b]
theorem addL_len : ∀ (a b : List UInt8), (addL a b).length = max a.length b.length
  | [], b => by simp [addL]
  | x :: a, [] => by simp [addL]
  | x :: a, y :: b => by
    rw [addL, List.length_cons, addL_len a b]
    simp only [List.length_cons]
    omega
theorem addL_twice : ∀ (a b : List UInt8), ∃ r, addL (addL a b) b = a ++ r
  | [], b => ⟨addL b b, by simp [addL]⟩
  | x :: a, [] => ⟨[], by simp [addL]⟩
  | x :: a, y :: b => by
    obtain ⟨r, hr⟩ := addL_twice a b
    refine ⟨r, ?_⟩
    rw [addL, addL, hr, UInt8.xor_assoc, UInt8.xor_self, UInt8.xor_zero]
    rfl
/-- A text so many times. -/
def mulB (A : B8) (c : UInt8) : UInt8 := ⟨gm A c.toBitVec⟩
def mulL (A : B8) (l : List UInt8) : List UInt8 := l.map (mulB A)
theorem mulB_add (A : B8) (x y : UInt8) : mulB A (x ^^^ y) = mulB A x ^^^ mulB A y := by
  unfold mulB
  apply UInt8.eq_of_toBitVec_eq
  simp only [UInt8.toBitVec_xor, gm_right]
theorem mulL_add (A : B8) : ∀ (a b : List UInt8), mulL A (addL a b) = addL (mulL A a) (mulL A b)
  | [], b => rfl
  | x :: a, [] => rfl
  | x :: a, y :: b => by
    have := mulL_add A a b
    unfold mulL at *
    rw [addL, List.map_cons, List.map_cons, List.map_cons, addL, mulB_add, this]
theorem mulL_one (a : List UInt8) : mulL 1#8 a = a := by
  unfold mulL
  rw [show mulB 1#8 = id from funext fun c => by unfold mulB; rw [one_gm]; rfl]
  simp
theorem mulL_len (A : B8) (a : List UInt8) : (mulL A a).length = a.length := by simp [mulL]
/-- The first bytes done, the others as they were. -/
def addTo (a b : List UInt8) (k : Nat) : List UInt8 := addL (a.take k) (b.take k) ++ a.drop k
theorem addTo_all {a b : List UInt8} (h : b.length ≤ a.length) : addTo a b b.length = addL a b := by
  have key : ∀ (a b : List UInt8), b.length ≤ a.length → addL (a.take b.length) b ++ a.drop b.length = addL a b := by
    intro a b
    induction b generalizing a with
    | nil => intro _; simp [addL_nil]
    | cons y b ih =>
      intro h
      cases a with
      | nil => simp at h
      | cons x a =>
        simp only [List.length_cons, List.take_succ_cons, List.drop_succ_cons, addL, List.cons_append]
        rw [ih a (by simpa using h)]
  unfold addTo
  rw [List.take_of_length_le (Nat.le_refl _)]
  exact key a b h
theorem addTo_len {a b : List UInt8} {k : Nat} (h : b.length ≤ a.length) : (addTo a b k).length = a.length := by
  unfold addTo
  rw [List.length_append, addL_len, List.length_drop, List.length_take, List.length_take]
  omega
theorem addL_snoc : ∀ (a b : List UInt8) (x y : UInt8), a.length = b.length → addL (a ++ [x]) (b ++ [y]) = addL a b ++ [x ^^^ y]
  | [], [], x, y, _ => rfl
  | [], _ :: _, _, _, h => by simp at h
  | _ :: _, [], _, _, h => by simp at h
  | c :: a, d :: b, x, y, h => by
    have := addL_snoc a b x y (by simpa using h)
    simp only [List.cons_append, addL, this]
theorem at_mid (P : List UInt8) (x y : UInt8) (R : List UInt8) (k : Nat) (h : P.length = k) : (P ++ x :: R).getD k 0 = x ∧ (P ++ x :: R).set k y = P ++ y :: R := by
  subst h
  refine ⟨by simp [List.getD], ?_⟩
  rw [List.set_append_right _ _ (Nat.le_refl _)]
  simp
theorem getD_at {l : List UInt8} {k : Nat} (h : k < l.length) : l[k] = l.getD k 0 := by simp [List.getD, h]
theorem addTo_step {a b : List UInt8} {k : Nat} (h : b.length ≤ a.length) (hk : k < b.length) :
    (addTo a b k).getD k 0 = a.getD k 0 ∧ (addTo a b k).set k (a.getD k 0 ^^^ b.getD k 0) = addTo a b (k + 1) := by
  have ha : k < a.length := by omega
  have hl : (addL (a.take k) (b.take k)).length = k := by rw [addL_len, List.length_take, List.length_take]; omega
  have e1 : a.drop k = a.getD k 0 :: a.drop (k + 1) := by rw [List.drop_eq_getElem_cons ha, getD_at ha]
  have e2 : a.take (k + 1) = a.take k ++ [a.getD k 0] := by rw [List.take_succ_eq_append_getElem ha, getD_at ha]
  have e3 : b.take (k + 1) = b.take k ++ [b.getD k 0] := by rw [List.take_succ_eq_append_getElem hk, getD_at hk]
  have m := at_mid (addL (a.take k) (b.take k)) (a.getD k 0) (a.getD k 0 ^^^ b.getD k 0) (a.drop (k + 1)) k hl
  unfold addTo
  rw [e1, e2, e3, addL_snoc _ _ _ _ (by rw [List.length_take, List.length_take]; omega), List.append_assoc]
  exact ⟨m.1, m.2⟩
theorem addTo_zero (a b : List UInt8) : addTo a b 0 = a := by simp [addTo, addL]
def mulTo (A : B8) (l : List UInt8) (k : Nat) : List UInt8 := mulL A (l.take k) ++ l.drop k
theorem mulTo_zero (A : B8) (l : List UInt8) : mulTo A l 0 = l := by simp [mulTo, mulL]
theorem mulTo_all (A : B8) (l : List UInt8) {k : Nat} (h : l.length ≤ k) : mulTo A l k = mulL A l := by
  unfold mulTo
  rw [List.take_of_length_le h, List.drop_of_length_le h, List.append_nil]
theorem mulTo_len (A : B8) (l : List UInt8) (k : Nat) : (mulTo A l k).length = l.length := by
  unfold mulTo
  rw [List.length_append, mulL_len, List.length_take, List.length_drop]
  omega
theorem mulTo_step (A : B8) {l : List UInt8} {k : Nat} (h : k < l.length) : (mulTo A l k).getD k 0 = l.getD k 0 ∧ (mulTo A l k).set k (mulB A (l.getD k 0)) = mulTo A l (k + 1) := by
  have e1 : l.drop k = l.getD k 0 :: l.drop (k + 1) := by rw [List.drop_eq_getElem_cons h, getD_at h]
  have e2 : l.take (k + 1) = l.take k ++ [l.getD k 0] := by rw [List.take_succ_eq_append_getElem h, getD_at h]
  have m := at_mid (mulL A (l.take k)) (l.getD k 0) (mulB A (l.getD k 0)) (l.drop (k + 1)) k (by rw [mulL_len, List.length_take]; omega)
  unfold mulTo
  rw [e1, e2]
  refine ⟨m.1, ?_⟩
  rw [m.2]
  simp [mulL]
end W
end Go.Proofs.YtbanfccnmbmcfaaDoor
