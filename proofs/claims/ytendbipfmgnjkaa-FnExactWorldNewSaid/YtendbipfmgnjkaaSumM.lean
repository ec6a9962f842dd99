/- Plain facts on check sums of 32 bits: one step of the sum is told by 'st', a sum over bytes by 'crc', its four bytes by 'four'; nothing of the program is read here. -/
import Derived.Test.YtendbipfmgnjkaaBytes
import Derived.PlainAid
namespace Go.Proofs.Ytendbipfmgnjkaa.W
abbrev B32 := BitVec 32
def poly : B32 := 3558460437#32
/-- One step: half of it, and the number when it was odd. -/
def st (x : B32) : B32 := (x >>> 1) ^^^ (if x.getLsbD 0 then poly else 0#32)
def st4 (x : B32) : B32 := st (st (st (st x)))
def st8 (x : B32) : B32 := st4 (st4 x)
theorem st_xor (x y : B32) : st (x ^^^ y) = st x ^^^ st y := by
  unfold st
  rw [BitVec.getLsbD_xor, BitVec.ushiftRight_xor_distrib]
  generalize x >>> 1 = a
  generalize y >>> 1 = b
  generalize poly = p
  cases x.getLsbD 0 <;> cases y.getLsbD 0 <;> (ext i hi; simp; try (cases a[i] <;> cases b[i] <;> cases p[i] <;> rfl))
theorem st4_xor (x y : B32) : st4 (x ^^^ y) = st4 x ^^^ st4 y := by unfold st4; rw [st_xor, st_xor, st_xor, st_xor]
theorem st8_xor (x y : B32) : st8 (x ^^^ y) = st8 x ^^^ st8 y := by unfold st8; rw [st4_xor, st4_xor]
theorem st_even (x : B32) (h : x.getLsbD 0 = false) : st x = x >>> 1 := by unfold st; rw [h]; simp
theorem st4_high (x : B32) (h0 : x.getLsbD 0 = false) (h1 : x.getLsbD 1 = false) (h2 : x.getLsbD 2 = false) (h3 : x.getLsbD 3 = false) : st4 x = x >>> 4 := by
  unfold st4
  rw [st_even x h0, st_even (x >>> 1) (by simpa using h1), st_even (x >>> 1 >>> 1) (by simpa [BitVec.getLsbD_ushiftRight] using h2), st_even (x >>> 1 >>> 1 >>> 1) (by simpa [BitVec.getLsbD_ushiftRight] using h3)]
  simp [← BitVec.shiftRight_add]
def tab (n : Nat) : Nat := (st4 (BitVec.ofNat 32 n)).toNat
theorem tab_all : (List.range 16).map tab = [0, 1166650509, 2333301018, 3466261911, 3189058079, 4221339282, 889615109, 1888477064, 3558460437, 2442158232, 1594529039, 444807554, 1779230218, 797264519, 3776954128, 2761298845] := by decide +kernel
/-- Four steps at once: the lowest four bits tell all that is added, the others only move. -/
theorem st4_low (x : B32) : st4 x = (x >>> 4) ^^^ st4 (x &&& 15#32) := by
  have e : x = (x &&& ~~~(15#32)) ^^^ (x &&& 15#32) := by
    ext i hi; simp only [BitVec.getElem_xor, BitVec.getElem_and, BitVec.getElem_not]
    cases x[i] <;> cases (15#32)[i] <;> rfl
  have h : st4 (x &&& ~~~(15#32)) = x >>> 4 := by
    rw [st4_high]
    · ext i hi
      simp only [BitVec.getElem_ushiftRight, BitVec.getLsbD_and, BitVec.getLsbD_not]
      by_cases h : 4 + i < 32
      · have : (15#32).getLsbD (4 + i) = false := by
          have : i < 28 := by omega
          have hall : ∀ j : Fin 28, (15#32).getLsbD (4 + j.val) = false := by decide
          exact hall ⟨i, this⟩
        simp only [this, h]; simp [BitVec.getLsbD_eq_getElem h]
      · simp [BitVec.getLsbD_of_ge x (4 + i) (by omega)]
    all_goals simp
  have h2 := st4_xor (x &&& ~~~(15#32)) (x &&& 15#32)
  rw [h] at h2
  rw [← e] at h2
  exact h2
def stN : Nat → B32 → B32
  | 0, z => z
  | j + 1, z => st (stN j z)
theorem st8_N (z : B32) : stN 8 z = st8 z := rfl
/-- A sum over bytes. -/
def by32 (b : UInt8) : B32 := BitVec.ofNat 32 b.toNat
def crc (s : B32) (l : List UInt8) : B32 := l.foldl (fun s b => st8 (s ^^^ by32 b)) s
theorem crc_snoc (s : B32) (l : List UInt8) (b : UInt8) : crc s (l ++ [b]) = st8 (crc s l ^^^ by32 b) := by simp [crc]
theorem crc_app (s : B32) (l m : List UInt8) : crc s (l ++ m) = crc (crc s l) m := by simp [crc]
/-- The four bytes of a sum, the highest first. -/
def four (x : B32) : List UInt8 := [UInt8.ofNat (x.toNat / 16777216), UInt8.ofNat (x.toNat / 65536), UInt8.ofNat (x.toNat / 256), UInt8.ofNat x.toNat]
theorem four_len (x : B32) : (four x).length = 4 := rfl
theorem four_inj (x y : B32) (h : four x = four y) : x = y := by
  unfold four at h
  simp only [List.cons.injEq, and_true] at h
  obtain ⟨h1, h2, h3, h4⟩ := h
  have g1 := congrArg UInt8.toNat h1
  have g2 := congrArg UInt8.toNat h2
  have g3 := congrArg UInt8.toNat h3
  have g4 := congrArg UInt8.toNat h4
  simp at g1 g2 g3 g4
  have lx := x.isLt
  have ly := y.isLt
  apply BitVec.eq_of_toNat_eq
  omega
theorem st_inj (x y : B32) (h : st x = st y) : x = y := by
  have hz : ∀ z : B32, st z = 0#32 → z = 0#32 := by
    intro z hz
    unfold st at hz
    by_cases h0 : z.getLsbD 0 = true
    · rw [if_pos h0] at hz
      have := congrArg (fun v => BitVec.getLsbD v 31) hz
      simp [poly] at this
    · rw [if_neg h0] at hz
      simp only [BitVec.xor_zero] at hz
      ext i hi
      by_cases hi0 : i = 0
      · subst hi0; simpa using h0
      · have := congrArg (fun v => BitVec.getLsbD v (i - 1)) hz
        simp only [BitVec.getLsbD_ushiftRight] at this
        rw [show 1 + (i - 1) = i by omega] at this
        rw [← BitVec.getLsbD_eq_getElem hi, this]; simp
  have h2 : st (x ^^^ y) = 0#32 := by rw [st_xor, h]; simp
  have h3 := hz _ h2
  exact BitVec.xor_eq_zero_iff.1 h3
theorem st8_inj (x y : B32) (h : st8 x = st8 y) : x = y := by
  unfold st8 st4 at h
  iterate 8 replace h := st_inj _ _ h
  exact h
theorem crc_inj : ∀ (l : List UInt8) (x y : B32), crc x l = crc y l → x = y
  | [], x, y, h => h
  | b :: l, x, y, h => by
    have h1 := st8_inj _ _ (crc_inj l _ _ h)
    have h2 := congrArg (· ^^^ by32 b) h1
    simpa [BitVec.xor_assoc] using h2
theorem by32_inj (a b : UInt8) (h : by32 a = by32 b) : a = b := by
  have := congrArg BitVec.toNat h
  have la := a.toNat_lt
  have lb := b.toNat_lt
  simp [by32] at this
  apply UInt8.toNat_inj.1
  omega
/-- A byte that is another makes another sum. -/
theorem crc_turned (s : B32) (l m : List UInt8) (a b : UInt8) (h : crc s (l ++ a :: m) = crc s (l ++ b :: m)) : a = b := by
  rw [crc_app, crc_app] at h
  have h1 := st8_inj _ _ (crc_inj m _ _ h)
  have h2 := congrArg (crc s l ^^^ ·) h1
  simp [← BitVec.xor_assoc] at h2
  exact by32_inj _ _ h2
end Go.Proofs.Ytendbipfmgnjkaa.W
namespace Go.Proofs.Ytendbipfmgnjkaa
set_option maxRecDepth 100000
open Go.RowKit
open W (B32)
/-- A sum as the model holds it. -/
abbrev u32 (x : B32) : Value := .int .u32 (x.toNat : Int)
theorem u32_of (a : Int) (h0 : 0 ≤ a) (h1 : a < 4294967296) : ∃ x : B32, a = (x.toNat : Int) := by
  refine ⟨BitVec.ofNat 32 a.toNat, ?_⟩
  simp; omega
theorem u32_lt (x : B32) : (0 : Int) ≤ (x.toNat : Int) ∧ (x.toNat : Int) < 4294967296 := ⟨by omega, by have := x.isLt; omega⟩
theorem u32_wrap (x : B32) : IntKind.u32.wrap (x.toNat : Int) = (x.toNat : Int) := by
  have := x.isLt
  simp [IntKind.wrap, IntKind.bits, IntKind.signed]; omega
theorem u32_back (x : B32) : BitVec.ofInt IntKind.u32.bits (x.toNat : Int) = x := by
  show BitVec.ofInt 32 (x.toNat : Int) = x
  simp
theorem u32_xor (x y : B32) : bits .xor .u32 (x.toNat : Int) (y.toNat : Int) = ((x ^^^ y).toNat : Int) := by
  unfold bits
  simp only [u32_back]
  exact u32_wrap (x ^^^ y)
theorem u32_and (x y : B32) : bits .and .u32 (x.toNat : Int) (y.toNat : Int) = ((x &&& y).toNat : Int) := by
  unfold bits
  simp only [u32_back]
  exact u32_wrap (x &&& y)
theorem u32_shr (x : B32) (n : Nat) : (x.toNat : Int) / 2 ^ n = ((x >>> n).toNat : Int) := by
  rw [BitVec.toNat_ushiftRight, Nat.shiftRight_eq_div_pow]
  norm_cast
theorem u32_byte (y : B32) (b : UInt8) : bits .xor .u32 (y.toNat : Int) (b.toNat : Int) = ((y ^^^ W.by32 b).toNat : Int) := by
  have h := u32_xor y (W.by32 b)
  have e : (W.by32 b).toNat = b.toNat := by have := b.toNat_lt; simp [W.by32]
  rw [e] at h
  exact h
theorem u32_odd (y : B32) : (y.toNat : Int).tmod 2 = if y.getLsbD 0 then 1 else 0 := by
  rw [Int.tmod_eq_emod_of_nonneg (by omega)]
  have e : y.getLsbD 0 = decide (y.toNat % 2 = 1) := by
    rw [BitVec.getLsbD, Nat.testBit_zero]
  rw [e]
  by_cases h : y.toNat % 2 = 1 <;> simp [h] <;> omega
theorem u32_half (y : B32) : (y.toNat : Int).tdiv 2 = ((y >>> 1).toNat : Int) := by
  rw [Int.tdiv_eq_ediv_of_nonneg (by omega)]
  exact u32_shr y 1
theorem u32_poly (y : B32) : bits .xor .u32 ((y >>> 1).toNat : Int) 3558460437 = (((y >>> 1) ^^^ W.poly).toNat : Int) := u32_xor (y >>> 1) W.poly
end Go.Proofs.Ytendbipfmgnjkaa
