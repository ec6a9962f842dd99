/- Texts of ours, laid one behind the other: MatB, FieldM, FieldN, FieldS, MatM, MatC, MatE, MatF, MatG, MatI. -/
import Derived.Test.YtplcdcfhfaghiaaPa3
import Derived.Deep.CutRange
import Derived.Deep.AppendLies
import Derived.Deep.RegionHeld3
import Derived.WalkKit
/- MatB: The walk of the model's OneM. -/
namespace Go.Proofs.Ytplcdcfhfaghiaa
set_option maxRecDepth 100000
open Go.RowKit
attribute [local go_sem ↓] Go.wp_at_zero Go.wp_at_succ

/-- OneM, as it is answered. -/
def oneRow (n i : Nat) : List Int := (List.range n).map fun j => if i = j then 1 else 0
def oneX (n : Int) : List (List Int) := if 1 ≤ n ∧ n ≤ 8 then (List.range n.toNat).map (oneRow n.toNat) else []
theorem oneRow_len (n i : Nat) : (oneRow n i).length = n := by simp [oneRow]
theorem oneRow_set {n i : Nat} (_ : i < n) : (List.replicate n (0 : Int)).set i 1 = oneRow n i := by
  apply List.ext_getElem
  · simp [oneRow]
  · intro j h1 h2
    simp only [oneRow, List.getElem_map, List.getElem_range, List.getElem_set]
    by_cases e : i = j
    · rw [if_pos e, if_pos e]
    · rw [if_neg e, if_neg e]; simp
end Go.Proofs.Ytplcdcfhfaghiaa
/- FieldM: Plain facts on the field of bytes: products of polynomials over bits, modulo the one of the number 285; nothing of the program is read here. -/
namespace Go.Proofs.Ytplcdcfhfaghiaa.W
abbrev B8 := BitVec 8

/-- Twice a number. -/
def xt (a : B8) : B8 := if a.msb then (a <<< 1) ^^^ 29#8 else a <<< 1
def gb (b : B8) (i : Nat) (x : B8) : B8 := if b.getLsbD i then x else 0#8
def gm (a b : B8) : B8 :=
  gb b 0 a ^^^ (gb b 1 (xt a) ^^^ (gb b 2 (xt (xt a)) ^^^ (gb b 3 (xt (xt (xt a))) ^^^ (gb b 4 (xt (xt (xt (xt a)))) ^^^ (gb b 5 (xt (xt (xt (xt (xt a))))) ^^^ (gb b 6 (xt (xt (xt (xt (xt (xt a)))))) ^^^ gb b 7 (xt (xt (xt (xt (xt (xt (xt a)))))))))))))
theorem xor_swap (a b c d : B8) : (a ^^^ b) ^^^ (c ^^^ d) = (a ^^^ c) ^^^ (b ^^^ d) := by
  rw [BitVec.xor_assoc, BitVec.xor_assoc, ← BitVec.xor_assoc b c d, BitVec.xor_comm b c, BitVec.xor_assoc c b d]
theorem xor_two (a b : B8) {A B C : B8} (h : A ^^^ B = C) : (a ^^^ A) ^^^ (b ^^^ B) = (a ^^^ b) ^^^ C := by rw [xor_swap, h]
theorem xt_add (a b : B8) : xt (a ^^^ b) = xt a ^^^ xt b := by
  unfold xt
  rw [BitVec.msb_xor, BitVec.shiftLeft_xor_distrib]
  cases a.msb <;> cases b.msb <;> simp
  · rw [BitVec.xor_assoc]
  · rw [BitVec.xor_assoc, BitVec.xor_assoc, BitVec.xor_comm (b <<< 1)]
  · rw [xor_swap, BitVec.xor_self, BitVec.xor_zero]
theorem gb_add (b : B8) (i : Nat) (x y : B8) : gb b i (x ^^^ y) = gb b i x ^^^ gb b i y := by
  unfold gb; cases b.getLsbD i <;> simp
theorem gb_bits (b c : B8) (i : Nat) (x : B8) : gb (b ^^^ c) i x = gb b i x ^^^ gb c i x := by
  unfold gb
  rw [BitVec.getLsbD_xor]
  cases b.getLsbD i <;> cases c.getLsbD i <;> simp
theorem gm_left (a b c : B8) : gm (a ^^^ b) c = gm a c ^^^ gm b c := by
  unfold gm
  simp only [xt_add, gb_add]
  exact (xor_two _ _ (xor_two _ _ (xor_two _ _ (xor_two _ _ (xor_two _ _ (xor_two _ _ (xor_two _ _ rfl))))))).symm
theorem gm_right (a b c : B8) : gm a (b ^^^ c) = gm a b ^^^ gm a c := by
  unfold gm
  simp only [gb_bits]
  exact (xor_two _ _ (xor_two _ _ (xor_two _ _ (xor_two _ _ (xor_two _ _ (xor_two _ _ (xor_two _ _ rfl))))))).symm
theorem xt_zero : xt 0#8 = 0#8 := by decide
theorem gb_zero (b : B8) (i : Nat) : gb b i 0#8 = 0#8 := by unfold gb; simp
theorem gm_zero (a : B8) : gm a 0#8 = 0#8 := by unfold gm gb; simp
theorem zero_gm (a : B8) : gm 0#8 a = 0#8 := by unfold gm; simp only [xt_zero, gb_zero]; simp
/-- One round of the product: the lowest bit, and the rest of them with twice the number. -/
theorem gm_step (a b : B8) : gm a b = gb b 0 a ^^^ gm (xt a) (b >>> 1) := by
  have e : ∀ (i : Nat) (x : B8), gb (b >>> 1) i x = gb b (i + 1) x := fun i x => by unfold gb; rw [BitVec.getLsbD_ushiftRight, Nat.add_comm]
  have h8 : ∀ x : B8, gb b 8 x = 0#8 := fun x => by unfold gb; rw [BitVec.getLsbD_of_ge b 8 (by decide)]; rfl
  unfold gm
  simp only [e]
  rw [show 7 + 1 = 8 from rfl, h8]
  simp
/-- The bits of a number. -/
theorem bits_of : ∀ x : B8, x = gb x 0 1#8 ^^^ (gb x 1 2#8 ^^^ (gb x 2 4#8 ^^^ (gb x 3 8#8 ^^^ (gb x 4 16#8 ^^^ (gb x 5 32#8 ^^^ (gb x 6 64#8 ^^^ gb x 7 128#8)))))) := by decide +kernel
def adds (f : B8 → B8) : Prop := ∀ x y, f (x ^^^ y) = f x ^^^ f y
theorem adds.zero {f : B8 → B8} (h : adds f) : f 0#8 = 0#8 := by
  have := h 0#8 0#8
  rw [BitVec.xor_self, BitVec.xor_self] at this
  exact this
theorem adds.bit {f : B8 → B8} (h : adds f) (x : B8) (i : Nat) (y : B8) : f (gb x i y) = gb x i (f y) := by
  unfold gb; cases x.getLsbD i
  · simp [h.zero]
  · simp
/-- What goes through sums is told by its answers at the eight bits. -/
theorem adds.ext {f g : B8 → B8} (hf : adds f) (hg : adds g) (h : ∀ e ∈ [1#8, 2#8, 4#8, 8#8, 16#8, 32#8, 64#8, 128#8], f e = g e) (x : B8) : f x = g x := by
  have key : ∀ {f : B8 → B8}, adds f → f x = gb x 0 (f 1#8) ^^^ (gb x 1 (f 2#8) ^^^ (gb x 2 (f 4#8) ^^^ (gb x 3 (f 8#8) ^^^ (gb x 4 (f 16#8) ^^^ (gb x 5 (f 32#8) ^^^ (gb x 6 (f 64#8) ^^^ gb x 7 (f 128#8))))))) := fun {f} hf => by
    conv => lhs; rw [bits_of x]
    rw [hf, hf, hf, hf, hf, hf, hf]
    simp only [hf.bit]
  rw [key hf, key hg]
  rw [h 1#8 (by simp), h 2#8 (by simp), h 4#8 (by simp), h 8#8 (by simp), h 16#8 (by simp), h 32#8 (by simp), h 64#8 (by simp), h 128#8 (by simp)]
def eightB : List B8 := [1#8, 2#8, 4#8, 8#8, 16#8, 32#8, 64#8, 128#8]
theorem gm_comm_bits : ∀ x ∈ eightB, ∀ y ∈ eightB, gm x y = gm y x := by decide +kernel
theorem gm_comm (a b : B8) : gm a b = gm b a := by
  refine adds.ext (f := fun x => gm x b) (g := fun x => gm b x) (fun x y => gm_left x y b) (fun x y => gm_right b x y) (fun e he => ?_) a
  exact adds.ext (f := fun y => gm e y) (g := fun y => gm y e) (fun x y => gm_right e x y) (fun x y => gm_left x y e) (fun d hd => gm_comm_bits e he d hd) b
theorem gm_assoc_bits : ∀ x ∈ eightB, ∀ y ∈ eightB, ∀ z ∈ eightB, gm (gm x y) z = gm x (gm y z) := by decide +kernel
theorem gm_assoc (a b c : B8) : gm (gm a b) c = gm a (gm b c) := by
  refine adds.ext (f := fun x => gm (gm x b) c) (g := fun x => gm x (gm b c)) (fun x y => by simp only [gm_left]) (fun x y => gm_left x y _) (fun e he => ?_) a
  refine adds.ext (f := fun y => gm (gm e y) c) (g := fun y => gm e (gm y c)) (fun x y => by simp only [gm_right, gm_left]) (fun x y => by simp only [gm_left, gm_right]) (fun d hd => ?_) b
  exact adds.ext (f := fun z => gm (gm e d) z) (g := fun z => gm e (gm d z)) (fun x y => gm_right _ x y) (fun x y => by simp only [gm_right]) (fun g hg => gm_assoc_bits e he d hd g hg) c
theorem gm_one (a : B8) : gm a 1#8 = a := by
  unfold gm gb; simp
theorem one_gm (a : B8) : gm 1#8 a = a := by rw [gm_comm, gm_one]
/-- Powers. -/
def gp (a : B8) : Nat → B8
  | 0 => 1#8
  | n + 1 => gm (gp a n) a
theorem gp_0 (a : B8) : gp a 0 = 1#8 := rfl
theorem gp_succ (a : B8) (n : Nat) : gp a (n + 1) = gm (gp a n) a := rfl
theorem gp_add (a : B8) (n : Nat) : ∀ m, gm (gp a n) (gp a m) = gp a (n + m)
  | 0 => gm_one _
  | m + 1 => by rw [gp, ← gm_assoc, gp_add a n m]; rfl
theorem gp_two (a : B8) (n : Nat) : gp a (n + n) = gm (gp a n) (gp a n) := (gp_add a n n).symm
theorem gp_one (a : B8) : gp a 1 = a := one_gm a
/-- The product of the powers by 1, 2, 4 .. 128. -/
def round (a : B8) : B8 :=
  let b := gm a a; let c := gm b b; let d := gm c c; let e := gm d d; let f := gm e e; let g := gm f f; let h := gm g g
  gm a (gm b (gm c (gm d (gm e (gm f (gm g h))))))
theorem gp_round (a : B8) : gp a 255 = round a := by
  have h2 : gp a 2 = gm a a := by rw [show 2 = 1 + 1 from rfl, gp_two, gp_one]
  have h4 : gp a 4 = gm (gp a 2) (gp a 2) := gp_two a 2
  have h8 : gp a 8 = gm (gp a 4) (gp a 4) := gp_two a 4
  have h16 : gp a 16 = gm (gp a 8) (gp a 8) := gp_two a 8
  have h32 : gp a 32 = gm (gp a 16) (gp a 16) := gp_two a 16
  have h64 : gp a 64 = gm (gp a 32) (gp a 32) := gp_two a 32
  have h128 : gp a 128 = gm (gp a 64) (gp a 64) := gp_two a 64
  have s7 : gm (gp a 64) (gp a 128) = gp a 192 := gp_add a 64 128
  have s6 : gm (gp a 32) (gp a 192) = gp a 224 := gp_add a 32 192
  have s5 : gm (gp a 16) (gp a 224) = gp a 240 := gp_add a 16 224
  have s4 : gm (gp a 8) (gp a 240) = gp a 248 := gp_add a 8 240
  have s3 : gm (gp a 4) (gp a 248) = gp a 252 := gp_add a 4 248
  have s2 : gm (gp a 2) (gp a 252) = gp a 254 := gp_add a 2 252
  have s1 : gm (gp a 1) (gp a 254) = gp a 255 := gp_add a 1 254
  rw [← s1, ← s2, ← s3, ← s4, ← s5, ← s6, ← s7, h128, h64, h32, h16, h8, h4, h2, gp_one]
  rfl
theorem round_all : ∀ a : B8, a ≠ 0#8 → round a = 1#8 := by decide +kernel
theorem gp_255 (a : B8) (h : a ≠ 0#8) : gp a 255 = 1#8 := by rw [gp_round, round_all a h]
/-- The number with which one is 1. -/
def gi (a : B8) : B8 := if a = 0#8 then 0#8 else gp a 254
theorem gi_zero : gi 0#8 = 0#8 := if_pos rfl
theorem gm_gi (a : B8) (h : a ≠ 0#8) : gm a (gi a) = 1#8 := by
  unfold gi
  rw [if_neg h, gm_comm, ← gp_255 a h]
  rfl
theorem gi_only {a b : B8} (h : gm a b = 1#8) : b = gi a := by
  have h0 : a ≠ 0#8 := by
    intro e; subst e
    rw [zero_gm] at h
    exact absurd h (by decide)
  rw [← gm_one b, ← gm_gi a h0, ← gm_assoc, gm_comm b a, h, one_gm]
end Go.Proofs.Ytplcdcfhfaghiaa.W
/- FieldN: Facts that lead from numbers of the program to the field of bytes, and texts that are summed up or taken so many times. -/
namespace Go.Proofs.Ytplcdcfhfaghiaa
set_option maxRecDepth 100000
open Go.RowKit
open W (B8)

theorem i64_xor (m n : Nat) (hm : m < 512) (hn : n < 512) : bits .xor .i64 (m : Int) (n : Int) = ((m ^^^ n : Nat) : Int) := by
  have h1 : ∀ k : Nat, k < 512 → (BitVec.ofInt 64 (k : Int)).toNat = k := fun k hk => by rw [BitVec.toNat_ofInt]; omega
  have h2 : m ^^^ n < 2 ^ 9 := Nat.xor_lt_two_pow (by omega) (by omega)
  show IntKind.i64.wrap ((BitVec.ofInt 64 (m : Int) ^^^ BitVec.ofInt 64 (n : Int)).toNat : Nat) = _
  rw [BitVec.toNat_xor, h1 m hm, h1 n hn, IntKind.wrap_i64]
  omega
theorem b8_lt (A : B8) : A.toNat < 256 := A.isLt
theorem i64_xor8 (A B : B8) : bits .xor .i64 (A.toNat : Int) (B.toNat : Int) = ((A ^^^ B).toNat : Int) := by
  rw [i64_xor _ _ (by have := b8_lt A; omega) (by have := b8_lt B; omega), BitVec.toNat_xor]
/-- A number, taken modulo 256. -/
def g8 (x : Int) : B8 := BitVec.ofInt 8 x
theorem g8_nat (x : Int) : ((g8 x).toNat : Int) = x % 256 := by
  unfold g8
  rw [BitVec.toNat_ofInt]
  omega
theorem g8_back (A : B8) : g8 (A.toNat : Int) = A := by
  apply BitVec.eq_of_toNat_eq
  have := g8_nat (A.toNat : Int)
  have := b8_lt A
  omega
theorem g8_mod (x : Int) : g8 (x % 256) = g8 x := by
  apply BitVec.eq_of_toNat_eq
  have := g8_nat (x % 256)
  have := g8_nat x
  omega
namespace W
theorem xt_big : ∀ A : B8, 256 ≤ 2 * A.toNat → (2 * A.toNat) ^^^ 285 = (xt A).toNat := by decide +kernel
theorem xt_small : ∀ A : B8, 2 * A.toNat < 256 → 2 * A.toNat = (xt A).toNat := by decide +kernel
theorem half8 (B : B8) : B.toNat / 2 = (B >>> 1).toNat := by
  rw [BitVec.toNat_ushiftRight, Nat.shiftRight_eq_div_pow]
theorem odd8 (B : B8) : B.getLsbD 0 = decide (B.toNat % 2 = 1) := by rw [BitVec.getLsbD, Nat.testBit_zero]
theorem b8_zero {B : B8} (h : B.toNat = 0) : B = 0#8 := BitVec.eq_of_toNat_eq h

/-- The sum of two texts. -/
def addL : List UInt8 → List UInt8 → List UInt8
  | [], b => b
  | a, [] => a
  | x :: a, y :: b => (x ^^^ y) :: addL a b
theorem addL_nil (a : List UInt8) : addL a [] = a := by cases a <;> rfl
theorem addL_comm : ∀ (a b : List UInt8), addL a b = addL b a
  | [], b => by rw [addL_nil]; cases b <;> rfl
  | x :: a, [] => rfl
  | x :: a, y :: b => by rw [addL, addL, UInt8.xor_comm, addL_comm a b]
theorem addL_len : ∀ (a b : List UInt8), (addL a b).length = max a.length b.length
  | [], b => by simp [addL]
  | x :: a, [] => by simp [addL]
  | x :: a, y :: b => by
    rw [addL, List.length_cons, addL_len a b]
    simp only [List.length_cons]
    omega
theorem addL_twice : ∀ (a b : List UInt8), ∃ r, addL (addL a b) b = a ++ r
  | [], b => ⟨addL b b, by simp [addL]⟩
  | x :: a, [] => ⟨[], by simp [addL]⟩
  | x :: a, y :: b => by
    obtain ⟨r, hr⟩ := addL_twice a b
    refine ⟨r, ?_⟩
    rw [addL, addL, hr, UInt8.xor_assoc, UInt8.xor_self, UInt8.xor_zero]
    rfl
/-- A text so many times. -/
def mulB (A : B8) (c : UInt8) : UInt8 := ⟨gm A c.toBitVec⟩
def mulL (A : B8) (l : List UInt8) : List UInt8 := l.map (mulB A)
theorem mulB_add (A : B8) (x y : UInt8) : mulB A (x ^^^ y) = mulB A x ^^^ mulB A y := by
  unfold mulB
  apply UInt8.eq_of_toBitVec_eq
  simp only [UInt8.toBitVec_xor, gm_right]
theorem mulL_add (A : B8) : ∀ (a b : List UInt8), mulL A (addL a b) = addL (mulL A a) (mulL A b)
  | [], b => rfl
  | x :: a, [] => rfl
  | x :: a, y :: b => by
    have := mulL_add A a b
    unfold mulL at *
    rw [addL, List.map_cons, List.map_cons, List.map_cons, addL, mulB_add, this]
theorem mulL_one (a : List UInt8) : mulL 1#8 a = a := by
  unfold mulL
  rw [show mulB 1#8 = id from funext fun c => by unfold mulB; rw [one_gm]; rfl]
  simp
theorem mulL_len (A : B8) (a : List UInt8) : (mulL A a).length = a.length := by simp [mulL]
/-- The first bytes done, the others as they were. -/
def addTo (a b : List UInt8) (k : Nat) : List UInt8 := addL (a.take k) (b.take k) ++ a.drop k
theorem addTo_all {a b : List UInt8} (h : b.length ≤ a.length) : addTo a b b.length = addL a b := by
  have key : ∀ (a b : List UInt8), b.length ≤ a.length → addL (a.take b.length) b ++ a.drop b.length = addL a b := by
    intro a b
    induction b generalizing a with
    | nil => intro _; simp [addL_nil]
    | cons y b ih =>
      intro h
      cases a with
      | nil => simp at h
      | cons x a =>
        simp only [List.length_cons, List.take_succ_cons, List.drop_succ_cons, addL, List.cons_append]
        rw [ih a (by simpa using h)]
  unfold addTo
  rw [List.take_of_length_le (Nat.le_refl _)]
  exact key a b h
theorem addTo_len {a b : List UInt8} {k : Nat} (h : b.length ≤ a.length) : (addTo a b k).length = a.length := by
  unfold addTo
  rw [List.length_append, addL_len, List.length_drop, List.length_take, List.length_take]
  omega
theorem addL_snoc : ∀ (a b : List UInt8) (x y : UInt8), a.length = b.length → addL (a ++ [x]) (b ++ [y]) = addL a b ++ [x ^^^ y]
  | [], [], x, y, _ => rfl
  | [], _ :: _, _, _, h => by simp at h
  | _ :: _, [], _, _, h => by simp at h
  | c :: a, d :: b, x, y, h => by
    have := addL_snoc a b x y (by simpa using h)
    simp only [List.cons_append, addL, this]
theorem at_mid (P : List UInt8) (x y : UInt8) (R : List UInt8) (k : Nat) (h : P.length = k) : (P ++ x :: R).getD k 0 = x ∧ (P ++ x :: R).set k y = P ++ y :: R := by
  subst h
  refine ⟨by simp [List.getD], ?_⟩
  rw [List.set_append_right _ _ (Nat.le_refl _)]
  simp
theorem getD_at {l : List UInt8} {k : Nat} (h : k < l.length) : l[k] = l.getD k 0 := by simp [List.getD, h]
theorem addTo_step {a b : List UInt8} {k : Nat} (h : b.length ≤ a.length) (hk : k < b.length) :
    (addTo a b k).getD k 0 = a.getD k 0 ∧ (addTo a b k).set k (a.getD k 0 ^^^ b.getD k 0) = addTo a b (k + 1) := by
  have ha : k < a.length := by omega
  have hl : (addL (a.take k) (b.take k)).length = k := by rw [addL_len, List.length_take, List.length_take]; omega
  have e1 : a.drop k = a.getD k 0 :: a.drop (k + 1) := by rw [List.drop_eq_getElem_cons ha, getD_at ha]
  have e2 : a.take (k + 1) = a.take k ++ [a.getD k 0] := by rw [List.take_succ_eq_append_getElem ha, getD_at ha]
  have e3 : b.take (k + 1) = b.take k ++ [b.getD k 0] := by rw [List.take_succ_eq_append_getElem hk, getD_at hk]
  have m := at_mid (addL (a.take k) (b.take k)) (a.getD k 0) (a.getD k 0 ^^^ b.getD k 0) (a.drop (k + 1)) k hl
  unfold addTo
  rw [e1, e2, e3, addL_snoc _ _ _ _ (by rw [List.length_take, List.length_take]; omega), List.append_assoc]
  exact ⟨m.1, m.2⟩
theorem addTo_zero (a b : List UInt8) : addTo a b 0 = a := by simp [addTo, addL]
def mulTo (A : B8) (l : List UInt8) (k : Nat) : List UInt8 := mulL A (l.take k) ++ l.drop k
theorem mulTo_zero (A : B8) (l : List UInt8) : mulTo A l 0 = l := by simp [mulTo, mulL]
theorem mulTo_all (A : B8) (l : List UInt8) {k : Nat} (h : l.length ≤ k) : mulTo A l k = mulL A l := by
  unfold mulTo
  rw [List.take_of_length_le h, List.drop_of_length_le h, List.append_nil]
theorem mulTo_len (A : B8) (l : List UInt8) (k : Nat) : (mulTo A l k).length = l.length := by
  unfold mulTo
  rw [List.length_append, mulL_len, List.length_take, List.length_drop]
  omega
theorem mulTo_step (A : B8) {l : List UInt8} {k : Nat} (h : k < l.length) : (mulTo A l k).getD k 0 = l.getD k 0 ∧ (mulTo A l k).set k (mulB A (l.getD k 0)) = mulTo A l (k + 1) := by
  have e1 : l.drop k = l.getD k 0 :: l.drop (k + 1) := by rw [List.drop_eq_getElem_cons h, getD_at h]
  have e2 : l.take (k + 1) = l.take k ++ [l.getD k 0] := by rw [List.take_succ_eq_append_getElem h, getD_at h]
  have m := at_mid (mulL A (l.take k)) (l.getD k 0) (mulB A (l.getD k 0)) (l.drop (k + 1)) k (by rw [mulL_len, List.length_take]; omega)
  unfold mulTo
  rw [e1, e2]
  refine ⟨m.1, ?_⟩
  rw [m.2]
  simp [mulL]
end W
end Go.Proofs.Ytplcdcfhfaghiaa
/- FieldS: The walks of the models of the field of bytes: MulG, PowG, InvG. -/
namespace Go.Proofs.Ytplcdcfhfaghiaa
set_option maxRecDepth 100000
open Go.RowKit
open W (B8)
attribute [local irreducible] W.gm W.xt W.gp W.gi

/-- What a round of the product does. -/
theorem gm_round {P O A B : B8} (h : P = O ^^^ W.gm A B) : (B.getLsbD 0 = true → P = (O ^^^ A) ^^^ W.gm (W.xt A) (B >>> 1)) ∧ (B.getLsbD 0 = false → P = O ^^^ W.gm (W.xt A) (B >>> 1)) := by
  rw [W.gm_step A B] at h
  unfold W.gb at h
  refine ⟨fun hb => ?_, fun hb => ?_⟩
  · rw [hb] at h; rw [h, BitVec.xor_assoc]; rfl
  · rw [hb] at h; simpa using h
theorem gp_next (A : B8) (k : Nat) (x : Int) (h : A = g8 x) : W.gm (g8 ((W.gp A k).toNat : Int)) (g8 x) = W.gp A (k + 1) := by
  rw [g8_back, ← h, W.gp_succ]
end Go.Proofs.Ytplcdcfhfaghiaa
/- MatM: Plain facts on matrices over the field of bytes: products, inverses, and what the steps of an elimination keep; nothing of the program is read here. -/
namespace Go.Proofs.Ytplcdcfhfaghiaa.W

/-- A sum of so many. -/
def xs : Nat → (Nat → B8) → B8
  | 0, _ => 0#8
  | n + 1, f => xs n f ^^^ f n
theorem xs_0 (f : Nat → B8) : xs 0 f = 0#8 := rfl
theorem xs_succ (n : Nat) (f : Nat → B8) : xs (n + 1) f = xs n f ^^^ f n := rfl
theorem xs_congr {n : Nat} {f g : Nat → B8} (h : ∀ k, k < n → f k = g k) : xs n f = xs n g := by
  induction n with
  | zero => rfl
  | succ n ih => rw [xs, xs, ih (fun k hk => h k (by omega)), h n (by omega)]
theorem xs_add (n : Nat) (f g : Nat → B8) : xs n (fun k => f k ^^^ g k) = xs n f ^^^ xs n g := by
  induction n with
  | zero => simp [xs]
  | succ n ih => rw [xs, xs, xs, ih, xor_swap]
theorem xs_zero (n : Nat) : xs n (fun _ => 0#8) = 0#8 := by
  induction n with
  | zero => rfl
  | succ n ih => rw [xs, ih]; rfl
theorem xs_left (a : B8) (n : Nat) (f : Nat → B8) : gm a (xs n f) = xs n (fun k => gm a (f k)) := by
  induction n with
  | zero => exact gm_zero a
  | succ n ih => rw [xs, xs, gm_right, ih]
theorem xs_right (a : B8) (n : Nat) (f : Nat → B8) : gm (xs n f) a = xs n (fun k => gm (f k) a) := by
  induction n with
  | zero => exact zero_gm a
  | succ n ih => rw [xs, xs, gm_left, ih]
theorem xs_swap (n m : Nat) (f : Nat → Nat → B8) : xs n (fun i => xs m (fun j => f i j)) = xs m (fun j => xs n (fun i => f i j)) := by
  induction n with
  | zero => exact (xs_zero m).symm
  | succ n ih => simp only [xs]; rw [ih, ← xs_add]
theorem xs_one {n k : Nat} {f : Nat → B8} (hk : k < n) (h : ∀ j, j < n → j ≠ k → f j = 0#8) : xs n f = f k := by
  induction n with
  | zero => omega
  | succ n ih =>
    rw [xs]
    by_cases e : k = n
    · subst e
      rw [xs_congr (g := fun _ => 0#8) (fun j hj => h j (by omega) (by omega)), xs_zero, BitVec.zero_xor]
    · rw [ih (by omega) (fun j hj hne => h j (by omega) hne), h n (by omega) (by omega), BitVec.xor_zero]
theorem xs_two {n k l : Nat} {f : Nat → B8} (hk : k < n) (hl : l < n) (hkl : k ≠ l) (h : ∀ j, j < n → j ≠ k → j ≠ l → f j = 0#8) : xs n f = f k ^^^ f l := by
  have e : ∀ j, f j = (if j = k then f k else 0#8) ^^^ (if j = k then 0#8 else f j) := fun j => by
    by_cases hj : j = k
    · rw [if_pos hj, if_pos hj, hj, BitVec.xor_zero]
    · rw [if_neg hj, if_neg hj, BitVec.zero_xor]
  rw [xs_congr (g := fun j => (if j = k then f k else 0#8) ^^^ (if j = k then 0#8 else f j)) (fun j _ => e j), xs_add]
  rw [xs_one (k := k) hk (fun j _ hj => if_neg hj), if_pos rfl]
  rw [xs_one (k := l) hl (fun j hj hjl => by
    by_cases hjk : j = k
    · rw [if_pos hjk]
    · rw [if_neg hjk]; exact h j hj hjk hjl), if_neg (Ne.symm hkl)]

abbrev Mx := Nat → Nat → B8
def mm (n : Nat) (A B : Mx) : Mx := fun i j => xs n fun k => gm (A i k) (B k j)
def one : Mx := fun i j => if i = j then 1#8 else 0#8
/-- Two matrices of so many rows and columns are the same. -/
def eqM (n m : Nat) (A B : Mx) : Prop := ∀ i, i < n → ∀ j, j < m → A i j = B i j
theorem eqM.refl (n m : Nat) (A : Mx) : eqM n m A A := fun _ _ _ _ => rfl
theorem eqM.symm {n m : Nat} {A B : Mx} (h : eqM n m A B) : eqM n m B A := fun i hi j hj => (h i hi j hj).symm
theorem eqM.trans {n m : Nat} {A B C : Mx} (h : eqM n m A B) (k : eqM n m B C) : eqM n m A C := fun i hi j hj => (h i hi j hj).trans (k i hi j hj)
theorem mm_assoc (n m : Nat) (A B C : Mx) : mm m (mm n A B) C = mm n A (mm m B C) := by
  funext i j
  unfold mm
  rw [xs_congr (n := m) (g := fun k => xs n fun l => gm (gm (A i l) (B l k)) (C k j)) (fun k _ => xs_right _ n _), xs_swap]
  refine xs_congr fun l _ => ?_
  rw [xs_left]
  exact xs_congr fun k _ => gm_assoc _ _ _
theorem mm_left {n r m : Nat} {A A' B : Mx} (h : eqM r n A A') : eqM r m (mm n A B) (mm n A' B) := fun i hi j _ => xs_congr fun k hk => by rw [h i hi k hk]
theorem mm_right {n r m : Nat} {A B B' : Mx} (h : eqM n m B B') : eqM r m (mm n A B) (mm n A B') := fun i _ j hj => xs_congr fun k hk => by rw [h k hk j hj]
theorem one_mm {n i : Nat} (hi : i < n) (B : Mx) (j : Nat) : mm n one B i j = B i j := by
  unfold mm one
  rw [xs_one (k := i) hi (fun k _ hk => by rw [if_neg (Ne.symm hk), zero_gm]), if_pos rfl, one_gm]
theorem mm_one {n j : Nat} (hj : j < n) (A : Mx) (i : Nat) : mm n A one i j = A i j := by
  unfold mm one
  rw [xs_one (k := j) hj (fun k _ hk => by rw [if_neg hk, gm_zero]), if_pos rfl, gm_one]
/-- Its product with another one is OneM: from the left. -/
def Linv (n : Nat) (B M : Mx) : Prop := eqM n n (mm n B M) one
theorem Linv.only {n : Nat} {B B' M : Mx} (h' : Linv n B' M) (r : Linv n M B) : eqM n n B' B := by
  have e1 : eqM n n (mm n B' (mm n M B)) (mm n B' one) := mm_right r
  rw [← mm_assoc] at e1
  have e2 : eqM n n (mm n (mm n B' M) B) (mm n one B) := mm_left h'
  exact fun i hi j hj => by
    have h1 := e1 i hi j hj
    have h2 := e2 i hi j hj
    rw [mm_one hj] at h1
    rw [one_mm hi] at h2
    rw [← h1, h2]
/-- Steps that can be taken back: what stands at their left and at their right is OneM. -/
structure Step (n : Nat) (P Q : Mx) : Prop where
  left : Linv n P Q
  right : Linv n Q P
theorem Step.start (n : Nat) : Step n one one := ⟨fun _ hi j _ => one_mm hi one j, fun _ hi j _ => one_mm hi one j⟩
theorem Step.next {n : Nat} {P Q E D : Mx} (h : Step n P Q) (k : Step n E D) : Step n (mm n E P) (mm n Q D) := by
  refine ⟨?_, ?_⟩
  · unfold Linv
    rw [mm_assoc, ← mm_assoc n n P Q D]
    have e1 : eqM n n (mm n (mm n P Q) D) (mm n one D) := mm_left h.left
    have e2 : eqM n n (mm n E (mm n (mm n P Q) D)) (mm n E (mm n one D)) := mm_right e1
    have e3 : eqM n n (mm n E (mm n one D)) (mm n E D) := mm_right (fun i hi j _ => one_mm hi D j)
    exact (e2.trans e3).trans k.left
  · unfold Linv
    rw [mm_assoc, ← mm_assoc n n D E P]
    have e1 : eqM n n (mm n (mm n D E) P) (mm n one P) := mm_left k.right
    have e2 : eqM n n (mm n Q (mm n (mm n D E) P)) (mm n Q (mm n one P)) := mm_right e1
    have e3 : eqM n n (mm n Q (mm n one P)) (mm n Q P) := mm_right (fun i hi j _ => one_mm hi P j)
    exact (e2.trans e3).trans h.right
/-- The end of an elimination: what was done to OneM is the inverse, from both sides. -/
theorem Step.fin {n : Nat} {P Q M : Mx} (h : Step n P Q) (hp : Linv n P M) : Linv n M P := by
  have e1 : eqM n n (mm n Q (mm n P M)) (mm n Q one) := mm_right hp
  have e2 : eqM n n (mm n (mm n Q P) M) (mm n one M) := mm_left h.right
  rw [mm_assoc] at e2
  have eM : eqM n n M Q := fun i hi j hj => by
    have h1 := e1 i hi j hj
    have h2 := e2 i hi j hj
    rw [mm_one hj] at h1
    rw [one_mm hi] at h2
    rw [← h2, h1]
  exact (mm_left eM).trans h.right
/-- Rows p and c in each other's place. -/
def swapE (p c : Nat) : Mx := fun i j => if i = p then (if j = c then 1#8 else 0#8) else if i = c then (if j = p then 1#8 else 0#8) else one i j
def swapR (p c : Nat) (A : Mx) : Mx := fun i j => if i = p then A c j else if i = c then A p j else A i j
theorem swap_mm {n p c : Nat} (hp : p < n) (hc : c < n) (A : Mx) : eqM n n (mm n (swapE p c) A) (swapR p c A) := by
  intro i hi j _
  unfold mm swapE swapR
  by_cases h1 : i = p
  · simp only [if_pos h1]
    rw [xs_one (k := c) hc (fun k _ hk => by rw [if_neg hk, zero_gm]), if_pos rfl, one_gm]
  · simp only [if_neg h1]
    by_cases h2 : i = c
    · simp only [if_pos h2]
      rw [xs_one (k := p) hp (fun k _ hk => by rw [if_neg hk, zero_gm]), if_pos rfl, one_gm]
    · simp only [if_neg h2]
      exact one_mm hi A j
theorem swap_twice (p c : Nat) (A : Mx) : swapR p c (swapR p c A) = A := by
  funext i j
  unfold swapR
  by_cases h1 : i = p
  · subst h1
    rw [if_pos rfl]
    by_cases h2 : c = i
    · subst h2; rw [if_pos rfl]
    · rw [if_neg h2, if_pos rfl]
  · rw [if_neg h1]
    by_cases h2 : i = c
    · subst h2; rw [if_pos rfl, if_pos rfl]
    · rw [if_neg h2, if_neg h1, if_neg h2]
/-- Row c so many times. -/
def timesE (c : Nat) (s : B8) : Mx := fun i j => if i = c then (if j = c then s else 0#8) else one i j
def timesR (c : Nat) (s : B8) (A : Mx) : Mx := fun i j => if i = c then gm s (A c j) else A i j
theorem times_mm {n c : Nat} (hc : c < n) (s : B8) (A : Mx) : eqM n n (mm n (timesE c s) A) (timesR c s A) := by
  intro i hi j _
  unfold mm timesE timesR
  by_cases h1 : i = c
  · simp only [if_pos h1]
    rw [xs_one (k := c) hc (fun k _ hk => by rw [if_neg hk, zero_gm]), if_pos rfl]
  · simp only [if_neg h1]
    exact one_mm hi A j
/-- Row c, so many times, to row r. -/
def plusE (r c : Nat) (t : B8) : Mx := fun i j => if i = r then (if j = c then t else one i j) else one i j
def plusR (r c : Nat) (t : B8) (A : Mx) : Mx := fun i j => if i = r then A r j ^^^ gm t (A c j) else A i j
theorem plus_mm {n r c : Nat} (hr : r < n) (hc : c < n) (hrc : r ≠ c) (t : B8) (A : Mx) : eqM n n (mm n (plusE r c t) A) (plusR r c t A) := by
  intro i hi j _
  unfold mm plusE plusR
  by_cases h1 : i = r
  · subst h1
    simp only [if_true]
    rw [xs_two (k := i) (l := c) hr hc hrc (fun k _ hk hkc => by rw [if_neg hkc]; unfold one; rw [if_neg (Ne.symm hk), zero_gm]), if_neg hrc, if_pos rfl]
    unfold one
    rw [if_pos rfl, one_gm]
  · simp only [if_neg h1]
    exact one_mm hi A j
theorem step_swap {n p c : Nat} (hp : p < n) (hc : c < n) : Step n (swapE p c) (swapE p c) := by
  have e : Linv n (swapE p c) (swapE p c) := by
    have h1 : eqM n n (swapE p c) (swapR p c one) := fun i hi j hj => by
      have := swap_mm hp hc one i hi j hj
      rwa [mm_one hj] at this
    refine (swap_mm hp hc _).trans ?_
    intro i hi j hj
    have h2 : swapR p c (swapE p c) i j = swapR p c (swapR p c one) i j := by
      unfold swapR
      by_cases a1 : i = p
      · rw [if_pos a1, if_pos a1]; exact h1 c hc j hj
      · rw [if_neg a1, if_neg a1]
        by_cases a2 : i = c
        · rw [if_pos a2, if_pos a2]; exact h1 p hp j hj
        · rw [if_neg a2, if_neg a2]; exact h1 i hi j hj
    rw [h2, swap_twice]
  exact ⟨e, e⟩
theorem times_two {c : Nat} {s t : B8} (h : gm s t = 1#8) (A : Mx) : timesR c s (timesR c t A) = A := by
  funext i j
  unfold timesR
  by_cases h1 : i = c
  · subst h1; rw [if_pos rfl, if_pos rfl, ← gm_assoc, h, one_gm]
  · rw [if_neg h1, if_neg h1]
theorem linv_times {n c : Nat} (hc : c < n) {s t : B8} (h : gm s t = 1#8) : Linv n (timesE c s) (timesE c t) := by
  have h1 : eqM n n (timesE c t) (timesR c t one) := fun i hi j hj => by
    have := times_mm hc t one i hi j hj
    rwa [mm_one hj] at this
  refine (times_mm hc s _).trans ?_
  intro i hi j hj
  have h2 : timesR c s (timesE c t) i j = timesR c s (timesR c t one) i j := by
    show (if i = c then gm s (timesE c t c j) else timesE c t i j) = (if i = c then gm s (timesR c t one c j) else timesR c t one i j)
    rw [h1 c hc j hj, h1 i hi j hj]
  rw [h2, times_two h]
theorem step_times {n c : Nat} (hc : c < n) {s t : B8} (h : gm s t = 1#8) : Step n (timesE c s) (timesE c t) := ⟨linv_times hc h, linv_times hc (by rw [gm_comm]; exact h)⟩
theorem plus_twice {r c : Nat} (hrc : r ≠ c) (t : B8) (A : Mx) : plusR r c t (plusR r c t A) = A := by
  funext i j
  unfold plusR
  by_cases h1 : i = r
  · subst h1; rw [if_pos rfl, if_pos rfl, if_neg (Ne.symm hrc), BitVec.xor_assoc, BitVec.xor_self, BitVec.xor_zero]
  · rw [if_neg h1, if_neg h1]
theorem step_plus {n r c : Nat} (hr : r < n) (hc : c < n) (hrc : r ≠ c) (t : B8) : Step n (plusE r c t) (plusE r c t) := by
  have e : Linv n (plusE r c t) (plusE r c t) := by
    have h1 : eqM n n (plusE r c t) (plusR r c t one) := fun i hi j hj => by
      have := plus_mm hr hc hrc t one i hi j hj
      rwa [mm_one hj] at this
    refine (plus_mm hr hc hrc t _).trans ?_
    intro i hi j hj
    have h2 : plusR r c t (plusE r c t) i j = plusR r c t (plusR r c t one) i j := by
      show (if i = r then plusE r c t r j ^^^ gm t (plusE r c t c j) else plusE r c t i j) = (if i = r then plusR r c t one r j ^^^ gm t (plusR r c t one c j) else plusR r c t one i j)
      rw [h1 r hr j hj, h1 c hc j hj, h1 i hi j hj]
    rw [h2, plus_twice hrc]
  exact ⟨e, e⟩
/-- Where an elimination stands: what was done to OneM makes M to A, and can be taken back. -/
def Elim (n : Nat) (M A P : Mx) : Prop := (∃ Q, Step n P Q) ∧ eqM n n (mm n P M) A
theorem Elim.start (n : Nat) (M : Mx) : Elim n M M one := ⟨⟨one, Step.start n⟩, fun _ hi j _ => one_mm hi M j⟩
theorem Elim.congr {n : Nat} {M A A' P P' : Mx} (h : Elim n M A P) (hA : eqM n n A A') (hP : eqM n n P P') : Elim n M A' P' := by
  obtain ⟨⟨Q, s⟩, e⟩ := h
  refine ⟨⟨Q, ⟨(mm_left hP.symm).trans s.left, (mm_right hP.symm).trans s.right⟩⟩, ((mm_left hP.symm).trans e).trans hA⟩
theorem Elim.by {n : Nat} {M A P E D : Mx} (h : Elim n M A P) (k : Step n E D) : Elim n M (mm n E A) (mm n E P) := by
  obtain ⟨⟨Q, s⟩, e⟩ := h
  refine ⟨⟨_, s.next k⟩, ?_⟩
  rw [mm_assoc]
  exact mm_right e
theorem Elim.swap {n : Nat} {M A P : Mx} (h : Elim n M A P) {p c : Nat} (hp : p < n) (hc : c < n) : Elim n M (swapR p c A) (swapR p c P) := (h.by (step_swap hp hc)).congr (swap_mm hp hc A) (swap_mm hp hc P)
theorem Elim.times {n : Nat} {M A P : Mx} (h : Elim n M A P) {c : Nat} {s t : B8} (hc : c < n) (hs : gm s t = 1#8) : Elim n M (timesR c s A) (timesR c s P) := (h.by (step_times hc hs)).congr (times_mm hc s A) (times_mm hc s P)
theorem Elim.plus {n : Nat} {M A P : Mx} (h : Elim n M A P) {r c : Nat} (hr : r < n) (hc : c < n) (hrc : r ≠ c) (t : B8) : Elim n M (plusR r c t A) (plusR r c t P) := (h.by (step_plus hr hc hrc t)).congr (plus_mm hr hc hrc t A) (plus_mm hr hc hrc t P)
theorem Elim.done {n : Nat} {M A P : Mx} (h : Elim n M A P) (hA : eqM n n A one) : Linv n P M ∧ Linv n M P := by
  obtain ⟨⟨Q, s⟩, e⟩ := h
  have h1 : Linv n P M := e.trans hA
  exact ⟨h1, s.fin h1⟩
/-- The first columns are those of OneM. -/
def Cols (n c : Nat) (A : Mx) : Prop := ∀ i, i < n → ∀ j, j < c → A i j = one i j
/-- No row from c on has a number in column c: there is no inverse. -/
theorem Elim.none {n c : Nat} {M A P : Mx} (h : Elim n M A P) (hc : c < n) (hcol : Cols n c A) (hz : ∀ i, c ≤ i → i < n → A i c = 0#8) (B : Mx) : ¬ Linv n B M := by
  intro hB
  obtain ⟨⟨Q, s⟩, e⟩ := h
  let v : Mx := fun k _ => if k < c then A k c else if k = c then 1#8 else 0#8
  have hv : ∀ i, i < n → mm n A v i 0 = 0#8 := fun i hi => by
    have hsum : ∀ k, k < n → gm (A i k) (v k 0) = (if k < c then gm (A i k) (A k c) else 0#8) ^^^ (if k = c then A i c else 0#8) := fun k hk => by
      show gm (A i k) (if k < c then A k c else if k = c then 1#8 else 0#8) = _
      by_cases h1 : k < c
      · rw [if_pos h1, if_pos h1, if_neg (by omega), BitVec.xor_zero]
      · rw [if_neg h1, if_neg h1, BitVec.zero_xor]
        by_cases h2 : k = c
        · rw [if_pos h2, if_pos h2, gm_one, h2]
        · rw [if_neg h2, if_neg h2, gm_zero]
    unfold mm
    rw [xs_congr hsum, xs_add, xs_one (k := c) (f := fun k => if k = c then A i c else 0#8) hc (fun k _ hk => if_neg hk), if_pos rfl]
    by_cases hic : i < c
    · rw [xs_one (k := i) hi (fun k hk hki => by
        by_cases h1 : k < c
        · rw [if_pos h1, hcol i hi k h1]; unfold one; rw [if_neg (Ne.symm hki), zero_gm]
        · rw [if_neg h1]), if_pos hic, hcol i hi i hic]
      unfold one
      rw [if_pos rfl, one_gm, BitVec.xor_self]
    · rw [xs_congr (g := fun _ => 0#8) (fun k hk => by
        by_cases h1 : k < c
        · rw [if_pos h1, hcol i hi k h1]; unfold one; rw [if_neg (by omega), zero_gm]
        · rw [if_neg h1]), xs_zero, hz i (by omega) hi]
      rfl
  have hPM : ∀ i, i < n → mm n (mm n P M) v i 0 = 0#8 := fun i hi => by
    rw [← hv i hi]
    exact xs_congr fun k hk => by rw [e i hi k hk]
  have hMv : ∀ i, i < n → mm n M v i 0 = 0#8 := fun i hi => by
    have e1 : mm n (mm n Q P) (mm n M v) i 0 = mm n one (mm n M v) i 0 := xs_congr fun k hk => by rw [s.right i hi k hk]
    rw [one_mm hi] at e1
    rw [← e1, mm_assoc]
    have e2 : mm n Q (mm n P (mm n M v)) i 0 = xs n fun _ => 0#8 := xs_congr fun k hk => by
      have := hPM k hk
      rw [mm_assoc] at this
      rw [this, gm_zero]
    rw [e2, xs_zero]
  have hvc : v c 0 = 0#8 := by
    have e1 : mm n (mm n B M) v c 0 = mm n one v c 0 := xs_congr fun k hk => by rw [hB c hc k hk]
    rw [one_mm hc] at e1
    rw [← e1, mm_assoc]
    have e2 : mm n B (mm n M v) c 0 = xs n fun _ => 0#8 := xs_congr fun k hk => by rw [hMv k hk, gm_zero]
    rw [e2, xs_zero]
  have : v c 0 = 1#8 := by show (if c < c then _ else if c = c then 1#8 else 0#8) = 1#8; rw [if_neg (by omega), if_pos rfl]
  rw [this] at hvc
  exact absurd hvc (by decide)
/-- Two rows that are the same: there is no inverse from the right. -/
theorem twin_none {n p q : Nat} {M B : Mx} (hp : p < n) (hq : q < n) (hpq : p ≠ q) (h : ∀ j, j < n → M p j = M q j) : ¬ Linv n M B := by
  intro hb
  have e1 := hb p hp p hp
  have e2 := hb q hq p hp
  have : mm n M B p p = mm n M B q p := xs_congr fun k hk => by rw [h k hk]
  rw [this, e2] at e1
  unfold one at e1
  rw [if_neg (Ne.symm hpq), if_pos rfl] at e1
  exact absurd e1 (by decide)
end Go.Proofs.Ytplcdcfhfaghiaa.W
/- MatC: The walk of the model's MulM. -/
namespace Go.Proofs.Ytplcdcfhfaghiaa
set_option maxRecDepth 100000
open Go.RowKit
open W (B8 Mx)
attribute [local go_sem ↓] Go.wp_at_zero Go.wp_at_succ
attribute [local irreducible] W.gm W.xs

/-- Rows of numbers as a matrix over the field. -/
def mx (X : List (List Int)) : Mx := fun i j => g8 ((X.getD i []).getD j 0)
def colsOf (X : List (List Int)) : Nat := (X.headD []).length
/-- Rows of numbers, out of a matrix over the field. -/
def rowsX (n m : Nat) (A : Mx) : List (List Int) := (List.range n).map fun i => (List.range m).map fun j => ((A i j).toNat : Int)
/-- The product, as it is answered. -/
def mulX (X Y : List (List Int)) : List (List Int) := if matOk X = true ∧ matOk Y = true ∧ colsOf X = Y.length then rowsX X.length (colsOf Y) (W.mm Y.length (mx X) (mx Y)) else []
theorem matOk_iff {X : List (List Int)} (h : matOk X = true) : (1 ≤ X.length ∧ X.length ≤ 8) ∧ (1 ≤ colsOf X ∧ colsOf X ≤ 8) ∧ ∀ x ∈ X, x.length = colsOf X ∧ ∀ y ∈ x, 0 ≤ y ∧ y ≤ 255 := by
  unfold matOk at h
  simp only [Bool.and_eq_true, decide_eq_true_eq, List.all_eq_true] at h
  obtain ⟨h1, h2, h3⟩ := h
  have each : ∀ x ∈ X, x.length = colsOf X ∧ (1 ≤ x.length ∧ x.length ≤ 8) ∧ ∀ y ∈ x, 0 ≤ y ∧ y ≤ 255 := fun x hx => by
    have := h1 x hx
    unfold rowOk numOk at this
    simp only [Bool.and_eq_true, decide_eq_true_eq, List.all_eq_true] at this
    obtain ⟨⟨q1, q2, q3⟩, q4⟩ := this
    exact ⟨q1, ⟨by omega, by omega⟩, q4⟩
  refine ⟨⟨by omega, by omega⟩, ?_, fun x hx => ⟨(each x hx).1, (each x hx).2.2⟩⟩
  cases X with
  | nil => simp at h2
  | cons x X => have := each x (by simp); have e : colsOf (x :: X) = x.length := rfl; omega
/-- A row of a product that is under way: the first k numbers are there, of the next one a sum of j. -/
def partRow (m cols : Nat) (A B : Mx) (i k j : Nat) : List Int := (List.range cols).map fun c => if c < k then ((W.mm m A B i c).toNat : Int) else if c = k then ((W.xs j fun l => W.gm (A i l) (B l k)).toNat : Int) else 0
theorem partRow_len (m cols : Nat) (A B : Mx) (i k j : Nat) : (partRow m cols A B i k j).length = cols := by simp [partRow]
theorem partRow_start (m cols : Nat) (A B : Mx) (i : Nat) : List.replicate cols (0 : Int) = partRow m cols A B i 0 0 := by
  apply List.ext_getElem
  · simp [partRow]
  · intro c h1 h2
    simp only [partRow, List.getElem_map, List.getElem_range, List.getElem_replicate]
    rw [if_neg (by omega)]
    split
    · rw [W.xs_0]; rfl
    · rfl
theorem partRow_next (m cols : Nat) (A B : Mx) (i k : Nat) : partRow m cols A B i k m = partRow m cols A B i (k + 1) 0 := by
  unfold partRow
  apply List.map_congr_left
  intro c _
  by_cases h1 : c < k
  · rw [if_pos h1, if_pos (by omega)]
  · rw [if_neg h1]
    by_cases h2 : c = k
    · subst h2; rw [if_pos rfl, if_pos (by omega)]; rfl
    · rw [if_neg h2, if_neg (by omega)]
      split
      · rw [W.xs_0]; rfl
      · rfl
theorem partRow_end (m cols : Nat) (A B : Mx) (i : Nat) : partRow m cols A B i cols 0 = (List.range cols).map fun j => ((W.mm m A B i j).toNat : Int) := by
  unfold partRow
  apply List.map_congr_left
  intro c hc
  rw [if_pos (List.mem_range.1 hc)]
theorem partRow_get {m cols : Nat} {A B : Mx} {i k j : Nat} (h : k < cols) : (partRow m cols A B i k j).getD k 0 = ((W.xs j fun l => W.gm (A i l) (B l k)).toNat : Int) := by
  unfold partRow
  rw [List.getD_eq_getElem?_getD, List.getElem?_map, List.getElem?_range h]
  simp
theorem partRow_at {m cols : Nat} {A B : Mx} {i k j c : Nat} (h : c < (partRow m cols A B i k j).length) : (partRow m cols A B i k j)[c] = if c < k then ((W.mm m A B i c).toNat : Int) else if c = k then ((W.xs j fun l => W.gm (A i l) (B l k)).toNat : Int) else 0 := by
  simp only [partRow, List.getElem_map, List.getElem_range]
theorem partRow_set {m cols : Nat} {A B : Mx} {i k j : Nat} : (partRow m cols A B i k j).set k (((W.xs j fun l => W.gm (A i l) (B l k)) ^^^ W.gm (A i j) (B j k)).toNat : Int) = partRow m cols A B i k (j + 1) := by
  apply List.ext_getElem
  · simp [partRow]
  · intro c h1 h2
    rw [List.getElem_set, partRow_at, partRow_at]
    by_cases e : k = c
    · subst e
      rw [if_pos rfl, if_neg (by omega), if_pos rfl, W.xs_succ]
    · rw [if_neg e]
      by_cases e2 : c < k
      · rw [if_pos e2, if_pos e2]
      · rw [if_neg e2, if_neg e2, if_neg (Ne.symm e), if_neg (Ne.symm e)]
theorem mulX_no {X Y : List (List Int)} (h : ¬ (matOk X = true ∧ matOk Y = true ∧ colsOf X = Y.length)) : mulX X Y = [] := if_neg h
theorem BI.drew {w wr : World} {v : Value} {ts : List SR} (h : BI w wr v ts) : BI w wr.drew v ts := h.below (Below.drew (Below.refl _ _))
theorem WCells.drew {w : World} {g : Nat} {L : List Value} (h : WCells w g L) : WCells w.drew g L := h.below (Below.drew (Below.refl w.heap.size w)) h.1
/-- What the walk of a product wants of one of its rows. -/
structure RowAt2 (w : World) (cols : Nat) (A : Mx) (i b off : Nat) (loc : Option Addr) (cp : Nat) (row : List Int) : Prop where
  cell : w.cell? ⟨b, off + i, none⟩ = some (.slice loc cols cp)
  lt : b < w.heap.size
  len : row.length = cols
  crow : CRow w loc (ics row)
  num : ∀ j, j < cols → A i j = g8 (row.getD j 0)
theorem RowAt2.below {w w' : World} {cols : Nat} {A : Mx} {i b off : Nat} {loc : Option Addr} {cp : Nat} {row : List Int} (h : RowAt2 w cols A i b off loc cp row) (hb : Below w.heap.size w w') : RowAt2 w' cols A i b off loc cp row :=
  ⟨(hb.cell (p := ⟨b, off + i, none⟩) h.lt).trans h.cell, Nat.lt_of_lt_of_le h.lt hb.size, h.len, h.crow.stays hb, h.num⟩
/-- Its number in a column, where it lies. -/
theorem RowAt2.at {w : World} {cols : Nat} {A : Mx} {i b off : Nat} {loc : Option Addr} {cp : Nat} {row : List Int} (h : RowAt2 w cols A i b off loc cp row) {j : Nat} (hj : j < cols) : ∃ b' o' x, loc = some ⟨b', o', none⟩ ∧ b' < w.heap.size ∧ w.cell? ⟨b', o' + j, none⟩ = some (.int .i64 x) ∧ A i j = g8 x := by
  obtain ⟨b', o', e, hb, hc⟩ := crow_int h.crow (by rw [h.len]; omega)
  exact ⟨b', o', row.getD j 0, e, hb, hc j (by rw [h.len]; exact hj), h.num j hj⟩
/-- A matrix that lies in memory, row by row. -/
def Lies (w : World) (n cols : Nat) (A : Mx) (b off : Nat) : Prop := ∀ i, i < n → ∃ loc cp row, RowAt2 w cols A i b off loc cp row
theorem Lies.below {w w' : World} {n cols : Nat} {A : Mx} {b off : Nat} (h : Lies w n cols A b off) (hb : Below w.heap.size w w') : Lies w' n cols A b off := fun i hi => by
  obtain ⟨loc, cp, row, hr⟩ := h i hi
  exact ⟨loc, cp, row, hr.below hb⟩
theorem row_at {w : World} {a : Option Addr} {ss : List SR} {lo hi : Nat} {X : List (List Int)} (h : MR w a ss lo hi) (hX : rws ss = X) (hok : matOk X = true) :
    ∃ b off, a = some ⟨b, off, none⟩ ∧ Lies w X.length (colsOf X) (mx X) b off := by
  have hl : ss.length = X.length := by rw [← hX, rws_len]
  obtain ⟨h1, _, h3⟩ := matOk_iff hok
  obtain ⟨b, off, e, hb, hc⟩ := h.at (by omega)
  refine ⟨b, off, e, fun i hi => ?_⟩
  have his : i < ss.length := by omega
  have hmem : ss[i].row ∈ X := by rw [← hX]; exact List.mem_map.2 ⟨ss[i], List.getElem_mem his, rfl⟩
  have hlen := (h3 _ hmem).1
  have hget : X.getD i [] = ss[i].row := by rw [← hX, List.getD_eq_getElem?_getD]; simp [rws, his]
  refine ⟨ss[i].loc, ss[i].cap, ss[i].row, ⟨?_, hb, hlen, (h.2 _ (List.getElem_mem his)).crow, fun j _ => by unfold mx; rw [hget]⟩⟩
  have := hc i his
  unfold srv at this
  rw [hlen] at this
  exact this
end Go.Proofs.Ytplcdcfhfaghiaa
/- MatE: The walks of the model's two steps on rows: a row so many times, and a row from which so many times another is taken. -/
namespace Go.Proofs.Ytplcdcfhfaghiaa
set_option maxRecDepth 100000
open Go.RowKit
open W (B8 Mx)
attribute [local go_sem ↓] Go.wp_at_zero Go.wp_at_succ
attribute [local irreducible] W.gm W.xs W.mm

/-- A row so many times, and two rows summed so. -/
def timesL (t : B8) (row : List Int) : List Int := row.map fun x => ((W.gm t (g8 x)).toNat : Int)
def plusL (t : B8) (dst src : List Int) : List Int := (List.range dst.length).map fun k => ((g8 (dst.getD k 0) ^^^ W.gm t (g8 (src.getD k 0))).toNat : Int)
theorem timesL_len (t : B8) (row : List Int) : (timesL t row).length = row.length := by simp [timesL]
theorem plusL_len (t : B8) (dst src : List Int) : (plusL t dst src).length = dst.length := by simp [plusL]
/-- A new row. -/
def RowPost (row : List Int) (w : World) (e : Ending) (w' : World) : Prop := ∃ g cap, e = .returned (.slice (some ⟨g, 0, none⟩) row.length cap) ∧ w.heap.size ≤ g ∧ WCells w' g (ics row) ∧ row.length ≤ cap ∧ Below w.heap.size w w'
theorem ownsRow_one {W : World} {base : Nat} {e : TypeId} {size : Nat} {v : Value} {k : Nat} {xs : List Value} (h : W.ownsRow base e size v (k + 1) xs) : ∃ g cap, v = .slice (some ⟨g, 0, none⟩) (k + 1) cap := by
  rcases h.2 with ⟨_, h0⟩ | ⟨g, cap, _, rfl, _⟩
  · omega
  · exact ⟨g, cap, rfl⟩
theorem row_post {row : List Int} {w w' : World} {v : Value} {n : Nat} (hp : 0 < n) (hn : row.length = n) (hown : w'.ownsRow w.heap.size 3 1 v n (ics row)) (hb : Below w.heap.size w w') : RowPost row w (.returned v) w' := by
  obtain ⟨m, rfl⟩ : ∃ m, n = m + 1 := ⟨n - 1, by omega⟩
  obtain ⟨g, cap, rfl⟩ := ownsRow_one hown
  have hown2 := hown
  obtain ⟨_, ⟨h0, _⟩ | ⟨g', cap', cur, he, _, _, hc, _⟩⟩ := hown
  · cases h0
  · have e1 : cap' = cap := by simp at he; exact he.2.symm
    exact ⟨g, cap, by rw [hn], (hown2.lt g rfl).1, own_wcells hown2, by omega, hb⟩
end Go.Proofs.Ytplcdcfhfaghiaa
/- MatF: The walk of the model's step on two rows: so many times a row is taken from another one. -/
namespace Go.Proofs.Ytplcdcfhfaghiaa
set_option maxRecDepth 100000
open Go.RowKit
open W (B8 Mx)
attribute [local go_sem ↓] Go.wp_at_zero Go.wp_at_succ
attribute [local irreducible] W.gm W.xs W.mm

theorem plusL_step (t : B8) (dst src : List Int) {k : Nat} (h : k < dst.length) : (plusL t dst src).take (k + 1) = (plusL t dst src).take k ++ [((g8 (dst.getD k 0) ^^^ W.gm t (g8 (src.getD k 0))).toNat : Int)] := by
  have hk : k < (plusL t dst src).length := by rw [plusL_len]; exact h
  rw [List.take_succ_eq_append_getElem hk]
  congr 2
  simp [plusL]
theorem g8_self {x : Int} (h0 : 0 ≤ x) (h1 : x ≤ 255) : ((g8 x).toNat : Int) = x := by rw [g8_nat]; omega
theorem kept_app {w w' : World} {o : Obj} {q : Option Nat} {a : Addr} {v : Value} (hg : (w.drew.alloc o).grownBy w' q) (hl : a.block < w.heap.size) (hq : q ≠ some a.block) (h : w.cell? a = some v) : w'.cell? a = some v := by
  have h1 : (w.drew.alloc o).cell? a = some v := ((((Below.refl w.heap.size w).drew).alloc (Nat.le_refl _) o).cell (p := a) hl).trans h
  have hl2 : a.block < (w.drew.alloc o).heap.size := by simp; omega
  exact (World.cell?_of_block (a := a) (hg.block a.block hl2 (fun e => hq e.symm))).trans h1
end Go.Proofs.Ytplcdcfhfaghiaa
/- MatG: An elimination as it lies in memory: two rows of rows, of which rows are put in the places of others; and what its steps do to the two as matrices. -/
namespace Go.Proofs.Ytplcdcfhfaghiaa
set_option maxRecDepth 100000
open Go.RowKit
open W (B8 Mx)
attribute [local irreducible] W.gm W.xs W.mm

/-- A square of numbers that is right. -/
structure Sq (n : Nat) (X : List (List Int)) : Prop where
  len : X.length = n
  row : ∀ x ∈ X, x.length = n ∧ ∀ y ∈ x, 0 ≤ y ∧ y ≤ 255
theorem Sq.at {n : Nat} {X : List (List Int)} (h : Sq n X) {i : Nat} (hi : i < n) : (X.getD i []).length = n ∧ ∀ y ∈ X.getD i [], 0 ≤ y ∧ y ≤ 255 := by
  have hi' : i < X.length := by rw [h.len]; exact hi
  have e : X.getD i [] = X[i] := by simp [List.getD, hi']
  rw [e]; exact h.row _ (List.getElem_mem hi')
theorem Sq.num {n : Nat} {X : List (List Int)} (h : Sq n X) {i j : Nat} (hi : i < n) (hj : j < n) : (((mx X) i j).toNat : Int) = (X.getD i []).getD j 0 := by
  obtain ⟨h1, h2⟩ := h.at hi
  have hj' : j < (X.getD i []).length := by omega
  obtain ⟨q1, q2⟩ := h2 ((X.getD i []).getD j 0) (by generalize X.getD i [] = r at *; simp [List.getD, hj'])
  exact g8_self q1 q2
theorem Sq.set {n : Nat} {X : List (List Int)} (h : Sq n X) (i : Nat) {r : List Int} (hl : r.length = n) (hr : ∀ y ∈ r, 0 ≤ y ∧ y ≤ 255) : Sq n (X.set i r) :=
  ⟨by rw [List.length_set]; exact h.len, fun x hx => by
    rcases List.mem_or_eq_of_mem_set hx with h1 | rfl
    · exact h.row x h1
    · exact ⟨hl, hr⟩⟩
theorem mx_set {X : List (List Int)} {i : Nat} (hi : i < X.length) (r : List Int) (k j : Nat) : mx (X.set i r) k j = if k = i then g8 (r.getD j 0) else mx X k j := by
  unfold mx
  by_cases e : k = i
  · subst e; rw [if_pos rfl]; congr 2; simp [List.getD, hi]
  · rw [if_neg e]; congr 2; simp [List.getD, List.getElem?_set_ne (Ne.symm e)]
/-- The three steps, as rows. -/
def swapX (p c : Nat) (X : List (List Int)) : List (List Int) := (X.set p (X.getD c [])).set c (X.getD p [])
theorem Sq.swap {n : Nat} {X : List (List Int)} (h : Sq n X) {p c : Nat} (hp : p < n) (hc : c < n) : Sq n (swapX p c X) := (h.set p (h.at hc).1 (h.at hc).2).set c (h.at hp).1 (h.at hp).2
theorem mx_swap {n : Nat} {X : List (List Int)} (h : Sq n X) {p c : Nat} (hp : p < n) (hc : c < n) : mx (swapX p c X) = W.swapR p c (mx X) := by
  funext k j
  unfold swapX W.swapR
  rw [mx_set (by rw [List.length_set, h.len]; exact hc), mx_set (by rw [h.len]; exact hp)]
  by_cases e1 : k = p
  · subst e1
    rw [if_pos rfl, if_pos rfl]
    by_cases e2 : k = c
    · subst e2; rw [if_pos rfl]; rfl
    · rw [if_neg e2]; rfl
  · rw [if_neg e1, if_neg e1]
    by_cases e2 : k = c
    · rw [if_pos e2, if_pos e2]; rfl
    · rw [if_neg e2, if_neg e2]
theorem b8_num (A : B8) : 0 ≤ (A.toNat : Int) ∧ (A.toNat : Int) ≤ 255 := by have := A.isLt; omega
theorem timesL_num (t : B8) (row : List Int) : ∀ y ∈ timesL t row, 0 ≤ y ∧ y ≤ 255 := fun y hy => by
  obtain ⟨x, _, rfl⟩ := List.mem_map.1 hy
  exact b8_num _
theorem plusL_num (t : B8) (a b : List Int) : ∀ y ∈ plusL t a b, 0 ≤ y ∧ y ≤ 255 := fun y hy => by
  obtain ⟨x, _, rfl⟩ := List.mem_map.1 hy
  exact b8_num _
theorem timesL_get {t : B8} {row : List Int} {j : Nat} (h : j < row.length) : g8 ((timesL t row).getD j 0) = W.gm t (g8 (row.getD j 0)) := by
  have e : (timesL t row).getD j 0 = ((W.gm t (g8 (row.getD j 0))).toNat : Int) := by simp [timesL, List.getD, h]
  rw [e, g8_back]
theorem plusL_get {t : B8} {a b : List Int} {j : Nat} (h : j < a.length) : g8 ((plusL t a b).getD j 0) = g8 (a.getD j 0) ^^^ W.gm t (g8 (b.getD j 0)) := by
  have e : (plusL t a b).getD j 0 = ((g8 (a.getD j 0) ^^^ W.gm t (g8 (b.getD j 0))).toNat : Int) := by
    unfold plusL; rw [List.getD_eq_getElem?_getD, List.getElem?_map, List.getElem?_range h]; rfl
  rw [e, g8_back]
theorem mx_times {n : Nat} {X : List (List Int)} (h : Sq n X) {c : Nat} (hc : c < n) (t : B8) : W.eqM n n (mx (X.set c (timesL t (X.getD c [])))) (W.timesR c t (mx X)) := by
  intro k _ j hj
  rw [mx_set (by rw [h.len]; exact hc)]
  unfold W.timesR
  by_cases e : k = c
  · rw [if_pos e, if_pos e, timesL_get (by rw [(h.at hc).1]; exact hj)]; rfl
  · rw [if_neg e, if_neg e]
theorem mx_plus {n : Nat} {X : List (List Int)} (h : Sq n X) {i c : Nat} (hi : i < n) (t : B8) : W.eqM n n (mx (X.set i (plusL t (X.getD i []) (X.getD c [])))) (W.plusR i c t (mx X)) := by
  intro k _ j hj
  rw [mx_set (by rw [h.len]; exact hi)]
  unfold W.plusR
  by_cases e : k = i
  · rw [if_pos e, if_pos e, plusL_get (by rw [(h.at hi).1]; exact hj)]; rfl
  · rw [if_neg e, if_neg e]

/-- A row of numbers in a block of its own, apart from two. -/
def RowIn (w wr : World) (ga gb : Nat) (s : SR) : Prop := ∃ b, s.loc = some ⟨b, 0, none⟩ ∧ w.heap.size ≤ b ∧ b ≠ ga ∧ b ≠ gb ∧ WCells wr b (ics s.row) ∧ s.row.length ≤ s.cap
theorem RowIn.below {w wr w' : World} {ga gb : Nat} {s : SR} (h : RowIn w wr ga gb s) (hb : Below wr.heap.size wr w') : RowIn w w' ga gb s := by
  obtain ⟨b, e, h1, h2, h3, h4, h5⟩ := h
  exact ⟨b, e, h1, h2, h3, h4.grow hb, h5⟩
theorem RowIn.setA {w wr : World} {ga gb : Nat} {s : SR} (h : RowIn w wr ga gb s) (i : Nat) (v : Value) : RowIn w (wr.setCell ⟨ga, i, none⟩ v) ga gb s := by
  obtain ⟨b, e, h1, h2, h3, h4, h5⟩ := h
  exact ⟨b, e, h1, h2, h3, h4.other _ _ h2, h5⟩
theorem RowIn.setB {w wr : World} {ga gb : Nat} {s : SR} (h : RowIn w wr ga gb s) (i : Nat) (v : Value) : RowIn w (wr.setCell ⟨gb, i, none⟩ v) ga gb s := by
  obtain ⟨b, e, h1, h2, h3, h4, h5⟩ := h
  exact ⟨b, e, h1, h2, h3, h4.other _ _ h3, h5⟩
/-- Two rows of rows in memory. -/
structure Two (w wr : World) (ga gb : Nat) (ssA ssB : List SR) : Prop where
  outA : WCells wr ga (svs ssA)
  outB : WCells wr gb (svs ssB)
  la : w.heap.size ≤ ga
  lb : w.heap.size ≤ gb
  ne : ga ≠ gb
  rowA : ∀ s ∈ ssA, RowIn w wr ga gb s
  rowB : ∀ s ∈ ssB, RowIn w wr ga gb s
  bel : Below w.heap.size w wr
theorem Two.below {w wr w' : World} {ga gb : Nat} {ssA ssB : List SR} (h : Two w wr ga gb ssA ssB) (hb : Below wr.heap.size wr w') : Two w w' ga gb ssA ssB :=
  ⟨h.outA.grow hb, h.outB.grow hb, h.la, h.lb, h.ne, fun s hs => (h.rowA s hs).below hb, fun s hs => (h.rowB s hs).below hb, h.bel.trans (hb.mono h.bel.size)⟩
theorem svs_set (ss : List SR) (i : Nat) (s : SR) : (svs ss).set i (srv s) = svs (ss.set i s) := by simp [svs, List.map_set]
theorem rws_set (ss : List SR) (i : Nat) (s : SR) : (rws ss).set i s.row = rws (ss.set i s) := by simp [rws, List.map_set]
theorem Two.setA {w wr : World} {ga gb : Nat} {ssA ssB : List SR} (h : Two w wr ga gb ssA ssB) {i : Nat} (hi : i < ssA.length) {s : SR} {v : Value} (hv : v = srv s) (hs : RowIn w wr ga gb s) : Two w (wr.setCell ⟨ga, i, none⟩ v) ga gb (ssA.set i s) ssB := by
  subst hv
  refine ⟨?_, h.outB.other _ _ (fun e => h.ne e.symm), h.la, h.lb, h.ne, fun t ht => ?_, fun t ht => (h.rowB t ht).setA i _, h.bel.setCell h.la _⟩
  · rw [← svs_set]; exact h.outA.set i _ (by rw [svs_len]; exact hi)
  · rcases List.mem_or_eq_of_mem_set ht with h1 | rfl
    · exact (h.rowA t h1).setA i _
    · exact hs.setA i _
theorem Two.setB {w wr : World} {ga gb : Nat} {ssA ssB : List SR} (h : Two w wr ga gb ssA ssB) {i : Nat} (hi : i < ssB.length) {s : SR} {v : Value} (hv : v = srv s) (hs : RowIn w wr ga gb s) : Two w (wr.setCell ⟨gb, i, none⟩ v) ga gb ssA (ssB.set i s) := by
  subst hv
  refine ⟨h.outA.other _ _ h.ne, ?_, h.la, h.lb, h.ne, fun t ht => (h.rowA t ht).setB i _, fun t ht => ?_, h.bel.setCell h.lb _⟩
  · rw [← svs_set]; exact h.outB.set i _ (by rw [svs_len]; exact hi)
  · rcases List.mem_or_eq_of_mem_set ht with h1 | rfl
    · exact (h.rowB t h1).setB i _
    · exact hs.setB i _
/-- What the walk wants of a row: its cell, and its numbers. -/
structure RowGot (w wr : World) (ga gb n g i b cp : Nat) (ss : List SR) : Prop where
  lt : i < ss.length
  cell : wr.cell? ⟨g, i, none⟩ = some (.slice (some ⟨b, 0, none⟩) n cp)
  free : wr.frozen? ⟨g, i, none⟩ = false
  is : ss.getD i default = ⟨some ⟨b, 0, none⟩, (rws ss).getD i [], cp⟩
  val : Value.slice (some ⟨b, 0, none⟩) n cp = srv (ss.getD i default)
  row : RowIn w wr ga gb (ss.getD i default)
  num : ∀ j, j < n → wr.cell? ⟨b, j, none⟩ = some (.int .i64 (((rws ss).getD i []).getD j 0))
  crow : CRow wr (some ⟨b, 0, none⟩) (ics ((rws ss).getD i []))
theorem row_got {w wr : World} {ga gb n g i : Nat} {ss : List SR} (hsq : Sq n (rws ss)) (hi : i < n) (ho : WCells wr g (svs ss)) (hr : ∀ s ∈ ss, RowIn w wr ga gb s) : ∃ b cp, RowGot w wr ga gb n g i b cp ss := by
  have hl : i < ss.length := by have := hsq.len; rw [rws_len] at this; omega
  have e0 : ss.getD i default = ss[i] := by simp [List.getD, hl]
  have e1 : (rws ss).getD i [] = ss[i].row := by simp [rws, List.getD, hl]
  obtain ⟨b, e, h1, h2, h3, h4, h5⟩ := hr ss[i] (List.getElem_mem hl)
  obtain ⟨c1, c2⟩ := ho.2 i _ (svs_get ss i hl)
  have hn : ss[i].row.length = n := by rw [← e1]; exact (hsq.at hi).1
  have ev : srv ss[i] = .slice (some ⟨b, 0, none⟩) n ss[i].cap := by unfold srv; rw [e, hn]
  refine ⟨b, ss[i].cap, hl, by rw [c1, ev], c2, ?_, by rw [e0, ev], by rw [e0]; exact ⟨b, e, h1, h2, h3, h4, h5⟩, fun j hj => ?_, by rw [e1]; exact h4.crow⟩
  · rw [e0, e1]
    have := e
    cases hx : ss[i] with
    | mk l r cc => rw [hx] at this; simp at this; rw [this]
  · rw [e1]
    exact (h4.2 j _ (ics_get _ j (by omega))).1
theorem Two.gotA {w wr : World} {ga gb n i : Nat} {ssA ssB : List SR} (h : Two w wr ga gb ssA ssB) (hsq : Sq n (rws ssA)) (hi : i < n) : ∃ b cp, RowGot w wr ga gb n ga i b cp ssA := row_got hsq hi h.outA h.rowA
theorem Two.gotB {w wr : World} {ga gb n i : Nat} {ssA ssB : List SR} (h : Two w wr ga gb ssA ssB) (hsq : Sq n (rws ssB)) (hi : i < n) : ∃ b cp, RowGot w wr ga gb n gb i b cp ssB := row_got hsq hi h.outB h.rowB
/-- A new row stands apart. -/
theorem row_new {w wr w' : World} {ga gb g cp : Nat} {row : List Int} {ssA ssB : List SR} (h : Two w wr ga gb ssA ssB) (hg : wr.heap.size ≤ g) (hc : WCells w' g (ics row)) (hl : row.length ≤ cp) : RowIn w w' ga gb ⟨some ⟨g, 0, none⟩, row, cp⟩ :=
  ⟨g, rfl, Nat.le_trans h.bel.size hg, by have := h.outA.1; omega, by have := h.outB.1; omega, hc, hl⟩
/-- The rows of the second one are apart from each other. -/
abbrev Apart (ss : List SR) : Prop := (ss.map SR.loc).Nodup
theorem apart_iff {ss : List SR} : Apart ss ↔ ∀ i j, i < j → j < ss.length → (ss.getD i default).loc ≠ (ss.getD j default).loc := by
  unfold Apart
  rw [List.nodup_iff_pairwise_ne, List.pairwise_iff_getElem]
  constructor
  · intro h i j hij hj
    have := h i j (by rw [List.length_map]; omega) (by rw [List.length_map]; exact hj) hij
    rw [List.getElem_map, List.getElem_map] at this
    rw [show ss.getD i default = ss[i] by simp [List.getD, show i < ss.length by omega], show ss.getD j default = ss[j] by simp [List.getD, hj]]
    exact this
  · intro h i j hi hj hij
    rw [List.length_map] at hi hj
    have := h i j hij hj
    rw [show ss.getD i default = ss[i] by simp [List.getD, hi], show ss.getD j default = ss[j] by simp [List.getD, hj]] at this
    rw [List.getElem_map, List.getElem_map]
    exact this
theorem Apart.ne {ss : List SR} (h : Apart ss) {i j : Nat} (hi : i < ss.length) (hj : j < ss.length) (hij : i ≠ j) : (ss.getD i default).loc ≠ (ss.getD j default).loc := by
  rcases Nat.lt_or_gt_of_ne hij with q | q
  · exact apart_iff.1 h i j q hj
  · exact fun e => apart_iff.1 h j i q hi e.symm
theorem set_get {ss : List SR} {i : Nat} (s : SR) (hi : i < ss.length) (k : Nat) : (ss.set i s).getD k default = if k = i then s else ss.getD k default := by
  by_cases e : k = i
  · subst e; rw [if_pos rfl]; simp [List.getD, hi]
  · rw [if_neg e]; simp [List.getD, List.getElem?_set_ne (Ne.symm e)]
theorem Apart.set {ss : List SR} (h : Apart ss) {i : Nat} (hi : i < ss.length) {s : SR} (hs : ∀ k, k < ss.length → k ≠ i → (ss.getD k default).loc ≠ s.loc) : Apart (ss.set i s) := by
  rw [apart_iff]
  intro a b hab hb
  rw [List.length_set] at hb
  rw [set_get s hi, set_get s hi]
  by_cases e1 : a = i
  · rw [if_pos e1, if_neg (by omega)]; exact fun e => hs b hb (by omega) e.symm
  · rw [if_neg e1]
    by_cases e2 : b = i
    · rw [if_pos e2]; exact hs a (by omega) e1
    · rw [if_neg e2]; exact apart_iff.1 h a b hab hb
theorem Apart.swap {ss : List SR} (h : Apart ss) {p c : Nat} (hp : p < ss.length) (hc : c < ss.length) : Apart ((ss.set p (ss.getD c default)).set c (ss.getD p default)) := by
  rw [apart_iff]
  intro a b hab hb
  rw [List.length_set, List.length_set] at hb
  have hc' : c < (ss.set p (ss.getD c default)).length := by rw [List.length_set]; exact hc
  rw [set_get (ss := ss.set p (ss.getD c default)) _ hc' a, set_get (ss := ss.set p (ss.getD c default)) _ hc' b, set_get (ss := ss) _ hp a, set_get (ss := ss) _ hp b]
  by_cases a1 : a = c
  · rw [if_pos a1, if_neg (show ¬ b = c by omega)]
    by_cases b1 : b = p
    · rw [if_pos b1]; exact h.ne hp hc (by omega)
    · rw [if_neg b1]; exact h.ne hp hb (by omega)
  · rw [if_neg a1]
    by_cases a2 : a = p
    · rw [if_pos a2]
      by_cases b1 : b = c
      · rw [if_pos b1]; exact h.ne hc hp (by omega)
      · rw [if_neg b1, if_neg (show ¬ b = p by omega)]; exact h.ne hc hb (by omega)
    · rw [if_neg a2]
      by_cases b1 : b = c
      · rw [if_pos b1]; exact h.ne (by omega) hp (by omega)
      · rw [if_neg b1]
        by_cases b2 : b = p
        · rw [if_pos b2]; exact h.ne (by omega) hc (by omega)
        · rw [if_neg b2]; exact h.ne (by omega) hb (by omega)
/-- The second one as an answer. -/
theorem Two.fin {w wr : World} {ga gb n cap : Nat} {ssA ssB : List SR} (h : Two w wr ga gb ssA ssB) (hap : Apart ssB) (hn : ssB.length = n) (hc : n ≤ cap) : MAns wr (.slice (some ⟨gb, 0, none⟩) n cap) (rws ssB) w.heap.size wr.heap.size := by
  refine ⟨_, cap, ssB, by rw [hn], rfl, by omega, .inr ⟨gb, rfl, h.outB, h.lb, h.outB.1, fun s hs => ?_, hap⟩⟩
  obtain ⟨b, e, h1, _, h3, h4, h5⟩ := h.rowB s hs
  exact ⟨b, e, h1, h4.1, h3, h4, h5⟩
/-- The steps of the elimination, as far as they are of numbers: the first columns. -/
theorem cols_swap {n c p : Nat} {A : Mx} (h : W.Cols n c A) (hc : c < n) (hp : p < n) (hcp : c ≤ p) : W.Cols n c (W.swapR p c A) := by
  intro i hi j hj
  unfold W.swapR
  by_cases e1 : i = p
  · rw [if_pos e1, h c hc j hj]; unfold W.one; rw [if_neg (by omega), if_neg (by omega)]
  · rw [if_neg e1]
    by_cases e2 : i = c
    · rw [if_pos e2, h p hp j hj]; unfold W.one; rw [if_neg (by omega), if_neg (by omega)]
    · rw [if_neg e2]; exact h i hi j hj
theorem cols_times {n c : Nat} {A : Mx} (h : W.Cols n c A) (hc : c < n) (t : B8) : W.Cols n c (W.timesR c t A) := by
  intro i hi j hj
  unfold W.timesR
  by_cases e : i = c
  · rw [if_pos e, h c hc j hj]; unfold W.one; rw [if_neg (by omega), if_neg (by omega), W.gm_zero]
  · rw [if_neg e]; exact h i hi j hj
theorem cols_plus {n c i : Nat} {A : Mx} (h : W.Cols n c A) (hc : c < n) (t : B8) : W.Cols n c (W.plusR i c t A) := by
  intro k hk j hj
  unfold W.plusR
  by_cases e : k = i
  · subst e; rw [if_pos rfl, h c hc j hj]; rw [show W.one c j = 0#8 by unfold W.one; rw [if_neg (by omega)]]; rw [W.gm_zero, BitVec.xor_zero]; exact h k hk j hj
  · rw [if_neg e]; exact h k hk j hj
theorem cols_congr {n c : Nat} {A B : Mx} (h : W.Cols n c A) (hc : c ≤ n) (e : W.eqM n n A B) : W.Cols n c B := fun i hi j hj => by rw [← e i hi j (by omega)]; exact h i hi j hj
/-- Column c under way: the diagonal is there, and the first i rows are done. -/
def ColDone (n c i : Nat) (A : Mx) : Prop := A c c = 1#8 ∧ ∀ k, k < i → k < n → k ≠ c → A k c = 0#8
theorem col_all {n c : Nat} {A : Mx} (h : W.Cols n c A) (hd : ColDone n c n A) : W.Cols n (c + 1) A := fun i hi j hj => by
  by_cases e : j < c
  · exact h i hi j e
  · obtain rfl : j = c := by omega
    unfold W.one
    by_cases e2 : i = j
    · rw [if_pos e2, e2]; exact hd.1
    · rw [if_neg e2]; exact hd.2 i hi hi e2
end Go.Proofs.Ytplcdcfhfaghiaa
/- MatI: An elimination: what is known of its two rows of rows as matrices, from step to step; and what its end says. -/
namespace Go.Proofs.Ytplcdcfhfaghiaa
set_option maxRecDepth 100000
open Go.RowKit
open W (B8 Mx)
attribute [local irreducible] W.gm W.xs W.mm

theorem mx_is (X : List (List Int)) (i j : Nat) : mx X i j = g8 ((X.getD i []).getD j 0) := rfl
/-- No row of the second one lies where a new one does. -/
theorem Two.newB {w wr : World} {ga gb g : Nat} {ssA ssB : List SR} (h : Two w wr ga gb ssA ssB) (hg : wr.heap.size ≤ g) : ∀ k, k < ssB.length → (ssB.getD k default).loc ≠ some ⟨g, 0, none⟩ := by
  intro k hk e
  have e0 : ssB.getD k default = ssB[k] := by simp [List.getD, hk]
  obtain ⟨b, eb, _, _, _, q, _⟩ := h.rowB ssB[k] (List.getElem_mem hk)
  rw [e0, eb] at e
  have : b = g := congrArg Addr.block (Option.some.inj e)
  have := q.1
  omega
/-- The cell of a row may be written. -/
theorem Two.freeA {w wr : World} {ga gb : Nat} {ssA ssB : List SR} (h : Two w wr ga gb ssA ssB) {i : Nat} (hi : i < ssA.length) : ∃ v, wr.cell? ⟨ga, i, none⟩ = some v ∧ wr.frozen? ⟨ga, i, none⟩ = false := ⟨_, h.outA.2 i _ (svs_get ssA i hi)⟩
theorem Two.freeB {w wr : World} {ga gb : Nat} {ssA ssB : List SR} (h : Two w wr ga gb ssA ssB) {i : Nat} (hi : i < ssB.length) : ∃ v, wr.cell? ⟨gb, i, none⟩ = some v ∧ wr.frozen? ⟨gb, i, none⟩ = false := ⟨_, h.outB.2 i _ (svs_get ssB i hi)⟩
theorem srv_is (g n cp : Nat) (r : List Int) (h : r.length = n) : Value.slice (some ⟨g, 0, none⟩) n cp = srv ⟨some ⟨g, 0, none⟩, r, cp⟩ := by unfold srv; rw [h]
/-- Rows with two in each other's place. -/
def swapS (p c : Nat) (ss : List SR) : List SR := (ss.set p (ss.getD c default)).set c (ss.getD p default)
theorem swapS_len (p c : Nat) (ss : List SR) : (swapS p c ss).length = ss.length := by simp [swapS]
theorem getD_row (ss : List SR) (i : Nat) : (ss.getD i default).row = (rws ss).getD i [] := by
  by_cases h : i < ss.length
  · simp [rws, List.getD, h]
  · simp [rws, List.getD, Nat.le_of_not_lt h]; rfl
theorem rws_swap (p c : Nat) (ss : List SR) : rws (swapS p c ss) = swapX p c (rws ss) := by
  unfold swapS swapX
  rw [← rws_set, ← rws_set, getD_row, getD_row]
/-- What is known of the two, with the first c columns done. -/
structure Pu (n c : Nat) (M : Mx) (ssA ssB : List SR) : Prop where
  sa : Sq n (rws ssA)
  sb : Sq n (rws ssB)
  ap : Apart ssB
  el : W.Elim n M (mx (rws ssA)) (mx (rws ssB))
  co : W.Cols n c (mx (rws ssA))
theorem Pu.lenA {n c : Nat} {M : Mx} {ssA ssB : List SR} (h : Pu n c M ssA ssB) : ssA.length = n := by rw [← rws_len]; exact h.sa.len
theorem Pu.lenB {n c : Nat} {M : Mx} {ssA ssB : List SR} (h : Pu n c M ssA ssB) : ssB.length = n := by rw [← rws_len]; exact h.sb.len
theorem Pu.swap {n c p : Nat} {M : Mx} {ssA ssB : List SR} (h : Pu n c M ssA ssB) (hc : c < n) (hp : p < n) (hcp : c ≤ p) : Pu n c M (swapS p c ssA) (swapS p c ssB) := by
  refine ⟨?_, ?_, h.ap.swap (by rw [h.lenB]; exact hp) (by rw [h.lenB]; exact hc), ?_, ?_⟩
  · rw [rws_swap]; exact h.sa.swap hp hc
  · rw [rws_swap]; exact h.sb.swap hp hc
  · rw [rws_swap, rws_swap, mx_swap h.sa hp hc, mx_swap h.sb hp hc]; exact h.el.swap hp hc
  · rw [rws_swap, mx_swap h.sa hp hc]; exact cols_swap h.co hc hp hcp
theorem mx_swap_c {n c p : Nat} {ss : List SR} (h : Sq n (rws ss)) (hc : c < n) (hp : p < n) : mx (rws (swapS p c ss)) c c = mx (rws ss) p c := by
  rw [rws_swap, mx_swap h hp hc]
  unfold W.swapR
  by_cases e : c = p
  · subst e; rw [if_pos rfl]
  · rw [if_neg e, if_pos rfl]
theorem Pu.times {n c : Nat} {M : Mx} {ssA ssB : List SR} (h : Pu n c M ssA ssB) (hc : c < n) {x : B8} (hx : x = mx (rws ssA) c c) (h0 : x ≠ 0#8) {sA sB : SR} (hA : sA.row = timesL (W.gi x) ((rws ssA).getD c [])) (hB : sB.row = timesL (W.gi x) ((rws ssB).getD c []))
    (hnew : ∀ k, k < ssB.length → (ssB.getD k default).loc ≠ sB.loc) : Pu n c M (ssA.set c sA) (ssB.set c sB) ∧ ColDone n c 0 (mx (rws (ssA.set c sA))) := by
  have e1 := mx_times h.sa hc (W.gi x)
  have e2 := mx_times h.sb hc (W.gi x)
  rw [← hA, rws_set] at e1
  rw [← hB, rws_set] at e2
  have hs : W.gm (W.gi x) x = 1#8 := by rw [W.gm_comm]; exact W.gm_gi x h0
  refine ⟨⟨?_, ?_, h.ap.set (by rw [h.lenB]; exact hc) (fun k hk _ => hnew k hk), (h.el.times hc hs).congr e1.symm e2.symm, cols_congr (cols_times h.co hc (W.gi x)) (Nat.le_of_lt hc) e1.symm⟩, ?_, fun k hk => by omega⟩
  · rw [← rws_set, hA]; exact h.sa.set c (by rw [timesL_len]; exact (h.sa.at hc).1) (timesL_num _ _)
  · rw [← rws_set, hB]; exact h.sb.set c (by rw [timesL_len]; exact (h.sb.at hc).1) (timesL_num _ _)
  · rw [e1 c hc c hc]
    unfold W.timesR
    rw [if_pos rfl, ← hx, hs]
theorem Pu.plus {n c i : Nat} {M : Mx} {ssA ssB : List SR} (h : Pu n c M ssA ssB) (hc : c < n) (hi : i < n) (hic : i ≠ c) (hd : ColDone n c i (mx (rws ssA))) {t : B8} (ht : t = mx (rws ssA) i c) {sA sB : SR} (hA : sA.row = plusL t ((rws ssA).getD i []) ((rws ssA).getD c [])) (hB : sB.row = plusL t ((rws ssB).getD i []) ((rws ssB).getD c []))
    (hnew : ∀ k, k < ssB.length → (ssB.getD k default).loc ≠ sB.loc) : Pu n c M (ssA.set i sA) (ssB.set i sB) ∧ ColDone n c (i + 1) (mx (rws (ssA.set i sA))) := by
  have e1 := mx_plus (c := c) h.sa hi t
  have e2 := mx_plus (c := c) h.sb hi t
  rw [← hA, rws_set] at e1
  rw [← hB, rws_set] at e2
  refine ⟨⟨?_, ?_, h.ap.set (by rw [h.lenB]; exact hi) (fun k hk _ => hnew k hk), (h.el.plus hi hc hic t).congr e1.symm e2.symm, cols_congr (cols_plus h.co hc t) (Nat.le_of_lt hc) e1.symm⟩, ?_, fun k hk hkn hkc => ?_⟩
  · rw [← rws_set, hA]; exact h.sa.set i (by rw [plusL_len]; exact (h.sa.at hi).1) (plusL_num _ _ _)
  · rw [← rws_set, hB]; exact h.sb.set i (by rw [plusL_len]; exact (h.sb.at hi).1) (plusL_num _ _ _)
  · rw [e1 c hc c hc]
    unfold W.plusR
    rw [if_neg (Ne.symm hic)]; exact hd.1
  · rw [e1 k hkn c hc]
    unfold W.plusR
    by_cases e : k = i
    · rw [if_pos e, hd.1, W.gm_one, ht, BitVec.xor_self]
    · rw [if_neg e]; exact hd.2 k (by omega) hkn hkc
theorem ColDone.skip {n c i : Nat} {A : Mx} (h : ColDone n c i A) (hs : i = c ∨ A i c = 0#8) : ColDone n c (i + 1) A := ⟨h.1, fun k hk hkn hkc => by
  by_cases e : k = i
  · rcases hs with q | q
    · omega
    · rw [e]; exact q
  · exact h.2 k (by omega) hkn hkc⟩
theorem Pu.next {n c : Nat} {M : Mx} {ssA ssB : List SR} (h : Pu n c M ssA ssB) (hd : ColDone n c n (mx (rws ssA))) : Pu n (c + 1) M ssA ssB := ⟨h.sa, h.sb, h.ap, h.el, col_all h.co hd⟩
/-- A number is 0 where its byte is. -/
theorem Sq.zero {n : Nat} {X : List (List Int)} (h : Sq n X) {i j : Nat} (hi : i < n) (hj : j < n) : (X.getD i []).getD j 0 = 0 ↔ mx X i j = 0#8 := by
  have e := h.num hi hj
  constructor
  · intro h0; rw [h0] at e; exact W.b8_zero (by omega)
  · intro h0; rw [h0] at e; exact e.symm
/-- The inverse. -/
def IsInv (X Y : List (List Int)) : Prop := matOk X = true ∧ colsOf X = X.length ∧ Sq X.length Y ∧ W.Linv X.length (mx Y) (mx X) ∧ W.Linv X.length (mx X) (mx Y)
theorem Sq.ext {n : Nat} {X Y : List (List Int)} (h : Sq n X) (k : Sq n Y) (e : W.eqM n n (mx X) (mx Y)) : X = Y := by
  apply List.ext_getElem (by rw [h.len, k.len])
  intro i h1 h2
  have hi : i < n := by rw [← h.len]; exact h1
  have a1 : X.getD i [] = X[i] := by simp [List.getD, h1]
  have a2 : Y.getD i [] = Y[i] := by simp [List.getD, h2]
  rw [← a1, ← a2]
  have q1 := (h.at hi).1
  have q2 := (k.at hi).1
  apply List.ext_getElem (by rw [q1, q2])
  intro j h3 h4
  have hj : j < n := by omega
  have b1 := h.num hi hj
  have b2 := k.num hi hj
  rw [e i hi j hj] at b1
  have c1 : (X.getD i []).getD j 0 = (X.getD i [])[j] := by rw [List.getD_eq_getElem?_getD, List.getElem?_eq_getElem h3]; rfl
  have c2 : (Y.getD i []).getD j 0 = (Y.getD i [])[j] := by rw [List.getD_eq_getElem?_getD, List.getElem?_eq_getElem h4]; rfl
  rw [← c1, ← c2, ← b1, ← b2]
theorem isInv_only {X Y Z : List (List Int)} (h : IsInv X Y) (k : IsInv X Z) : Y = Z := h.2.2.1.ext k.2.2.1 (h.2.2.2.1.only k.2.2.2.2)
open Classical in
noncomputable def invX (X : List (List Int)) : List (List Int) × Bool := if h : ∃ Y, IsInv X Y then (h.choose, true) else ([], false)
theorem invX_yes {X Y : List (List Int)} (h : IsInv X Y) : invX X = (Y, true) := by
  have hx : ∃ Y, IsInv X Y := ⟨Y, h⟩
  unfold invX
  rw [dif_pos hx, isInv_only hx.choose_spec h]
theorem invX_no {X : List (List Int)} (h : ¬ ∃ Y, IsInv X Y) : invX X = ([], false) := by
  unfold invX
  rw [dif_neg h]
theorem Pu.done {n : Nat} {X : List (List Int)} {ssA ssB : List SR} (h : Pu n n (mx X) ssA ssB) (hX : matOk X = true) (hn : X.length = n) (hc : colsOf X = n) : IsInv X (rws ssB) := by
  obtain ⟨h1, h2⟩ := h.el.done (fun i hi j hj => h.co i hi j hj)
  exact ⟨hX, by omega, by rw [hn]; exact h.sb, by rw [hn]; exact h1, by rw [hn]; exact h2⟩
theorem Pu.none {n c : Nat} {X : List (List Int)} {ssA ssB : List SR} (h : Pu n c (mx X) ssA ssB) (hn : X.length = n) (hc : c < n) (hz : ∀ i, c ≤ i → i < n → mx (rws ssA) i c = 0#8) : ¬ ∃ Y, IsInv X Y := by
  rintro ⟨Y, hY⟩
  have := hY.2.2.2.1
  rw [hn] at this
  exact h.el.none hc h.co hz _ this
/-- The two at the start. -/
theorem mx_one {n : Nat} (h1 : 1 ≤ n) (h8 : n ≤ 8) : oneX (n : Int) = (List.range n).map (oneRow n) ∧ Sq n (oneX (n : Int)) ∧ W.eqM n n W.one (mx (oneX (n : Int))) := by
  have e : oneX (n : Int) = (List.range n).map (oneRow n) := by unfold oneX; rw [if_pos (by omega)]; rfl
  refine ⟨e, ⟨by rw [e]; simp, fun x hx => ?_⟩, fun i hi j hj => ?_⟩
  · rw [e] at hx
    obtain ⟨i, _, rfl⟩ := List.mem_map.1 hx
    refine ⟨oneRow_len n i, fun y hy => ?_⟩
    obtain ⟨j, _, rfl⟩ := List.mem_map.1 hy
    split <;> omega
  · unfold mx W.one
    rw [e]
    have a1 : ((List.range n).map (oneRow n)).getD i [] = oneRow n i := by rw [List.getD_eq_getElem?_getD, List.getElem?_map, List.getElem?_range hi]; rfl
    have a2 : (oneRow n i).getD j 0 = if i = j then 1 else 0 := by unfold oneRow; rw [List.getD_eq_getElem?_getD, List.getElem?_map, List.getElem?_range hj]; rfl
    rw [a1, a2]
    split <;> rfl
theorem Pu.start {n : Nat} {X : List (List Int)} {ssA ssB : List SR} (hX : Sq n X) (h1 : 1 ≤ n) (h8 : n ≤ 8) (hA : rws ssA = X) (hB : rws ssB = oneX (n : Int)) (hap : Apart ssB) : Pu n 0 (mx X) ssA ssB := by
  obtain ⟨_, q1, q2⟩ := mx_one h1 h8
  exact ⟨by rw [hA]; exact hX, by rw [hB]; exact q1, hap, by rw [hA, hB]; exact (W.Elim.start n (mx X)).congr (W.eqM.refl _ _ _) q2, fun i _ j hj => by omega⟩
theorem two_start {w wr w2 : World} {ga cap n : Nat} {v2 : Value} {ts : List SR} {Y : List (List Int)} (hbi : BI w wr (.slice (some ⟨ga, 0, none⟩) n cap) ts) (hn : ts.length = n) (hp : 0 < n) (hY : Y.length = n) (hb : Below wr.heap.size wr w2) (hv : MAns w2 v2 Y wr.heap.size w2.heap.size) :
    ∃ gb cap2 ssB, v2 = .slice (some ⟨gb, 0, none⟩) n cap2 ∧ n ≤ cap2 ∧ rws ssB = Y ∧ Apart ssB ∧ Two w w2 ga gb ts ssB := by
  obtain ⟨a, cap2, ssB, rfl, hr, hc, h1⟩ := hv
  have hl : ssB.length = n := by rw [← hY, ← hr, rws_len]
  have hne : ts ≠ [] := by rintro rfl; simp at hn; omega
  rcases h1 with rfl | ⟨gb, rfl, hm⟩
  · simp at hl; omega
  · have hown : wr.ownsRow w.heap.size 28 1 (.slice (some ⟨ga, 0, none⟩) n cap) n (svs ts) := by have := hbi.own; rw [hn] at this; exact this
    have hlt := hown.lt ga rfl
    have hglo := hm.glo
    refine ⟨gb, cap2, ssB, by rw [hl], by omega, hr, hm.apart, ⟨(own_wcells hown).grow hb, hm.out, hlt.1, by have := hbi.bel.size; omega, by omega, fun s hs => ?_, fun s hs => ?_, hbi.bel.trans (hb.mono hbi.bel.size)⟩⟩
    · obtain ⟨b, e, q1, q2, q3, q4⟩ := hbi.rows s hs
      have hbg : b ≠ ga := fun eb => by subst eb; exact row_apart q2 q4 hbi.own hne rfl
      have := q2.1
      exact ⟨b, e, q1, hbg, by omega, q2.grow hb, q3⟩
    · obtain ⟨b, e, q1, q2, q3, q4, q5⟩ := hm.rows s hs
      have := hbi.bel.size
      exact ⟨b, e, by omega, by omega, q3, q4, q5⟩
theorem RowGot.below {w wr w' : World} {ga gb n g i b cp : Nat} {ss : List SR} (h : RowGot w wr ga gb n g i b cp ss) (hg : g < wr.heap.size) (hb : Below wr.heap.size wr w') : RowGot w w' ga gb n g i b cp ss := by
  have hbl : b < wr.heap.size := by
    obtain ⟨b', e, _, _, _, q, _⟩ := h.row
    rw [h.is] at e
    have : b = b' := congrArg Addr.block (Option.some.inj e)
    rw [this]; exact q.1
  exact ⟨h.lt, (hb.cell (p := ⟨g, i, none⟩) hg).trans h.cell, (hb.frozen (p := ⟨g, i, none⟩) hg).trans h.free, h.is, h.val, h.row.below hb, fun j hj => (hb.cell (p := ⟨b, j, none⟩) hbl).trans (h.num j hj), h.crow.stays hb⟩
end Go.Proofs.Ytplcdcfhfaghiaa
