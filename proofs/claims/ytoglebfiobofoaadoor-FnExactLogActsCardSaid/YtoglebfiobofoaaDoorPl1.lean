/- Texts of ours, laid one behind the other: Words, ReadVarM, VtM, Bytes, SumM, HexM, SumS, Seal, FrM, VarL, Var, ReadVar, FrA, StrsA, DecM. -/
import Derived.PlainAid
import Derived.Test.YtoglebfiobofoaaDoorRows
import Derived.WalkKit
import Derived.WalkLawsBesides
import Derived.Handy
import Derived.Below
import Derived.Laws.IdiomStrings
import Derived.Laws.BytesArg
import Derived.Maps.AppendAt
import Derived.Laws.DeepStrings4
import Derived.Deep.RegionHeld3
import Derived.Deep.DrawnRows
import Derived.Deep.AppendLies
import Derived.OwnWalk
import Derived.Lib.LaidTab
import Derived.Lib.SmallJoins
import Derived.Test.YtoglebfiobofoaaDoorShelf
import Derived.BigQuiet
import Derived.Deep.LoopGhost
import Derived.Deep.RegionWith
import Derived.Deep.QuietTactic
/- Words: Plain facts on the bytes of numbers: the bytes of a number by sevens of bits are told by 'vt', the number that bytes begin by 'rv'; nothing of the program is read here. -/
namespace Go.Proofs.YtoglebfiobofoaaDoor.W
/-- The bytes of a number, by sevens of bits, with fuel. -/
def vtF : Nat → Nat → List UInt8
  | 0, n => [UInt8.ofNat n]
  | f + 1, n => if 127 < n then UInt8.ofNat (n % 128 + 128) :: vtF f (n / 128) else [UInt8.ofNat n]
def vt (n : Nat) : List UInt8 := vtF n n
theorem vtF_enough : ∀ (f g n : Nat), n ≤ f → n ≤ g → vtF f n = vtF g n
  | 0, 0, n, _, _ => rfl
  | 0, g + 1, n, h, _ => by have : n = 0 := by omega
                            subst this; simp [vtF]
  | f + 1, 0, n, _, h => by have : n = 0 := by omega
                            subst this; simp [vtF]
  | f + 1, g + 1, n, h1, h2 => by
    unfold vtF
    by_cases h : 127 < n
    · rw [if_pos h, if_pos h, vtF_enough f g (n / 128) (by omega) (by omega)]
    · rw [if_neg h, if_neg h]
theorem vt_big (n : Nat) (h : 127 < n) : vt n = UInt8.ofNat (n % 128 + 128) :: vt (n / 128) := by
  unfold vt
  match n, h with
  | k + 1, h =>
    rw [vtF, if_pos h, vtF_enough k ((k + 1) / 128) ((k + 1) / 128) (by omega) (by omega)]
theorem vt_small (n : Nat) (h : n ≤ 127) : vt n = [UInt8.ofNat n] := by
  unfold vt
  match n with
  | 0 => rfl
  | k + 1 => rw [vtF, if_neg (by omega)]
theorem vt_len (n : Nat) : (vt n).length ≤ n + 1 := by
  suffices h : ∀ f m, (vtF f m).length ≤ f + 1 from h n n
  intro f
  induction f with
  | zero => intro m; simp [vtF]
  | succ f ih => intro m; unfold vtF; split
                 · have := ih (m / 128); simp; omega
                 · simp

/-- The number of bytes by sevens: each with its high bit left off. -/
def val : List UInt8 → Nat
  | [] => 0
  | b :: l => b.toNat % 128 + 128 * val l

/-- All but the last are 128 or more. -/
def heads (l : List UInt8) : Prop := ∀ b ∈ l, 128 ≤ b.toNat

theorem ofNat_self (b : UInt8) : UInt8.ofNat b.toNat = b := by simp

theorem vt_one (b : UInt8) (h : b.toNat < 128) : vt b.toNat = [b] := by
  rw [vt_small _ (by omega)]; simp

theorem val_pos : ∀ (l : List UInt8) (b : UInt8), b.toNat < 128 → b ≠ 0 → 0 < val (l ++ [b])
  | [], b, h, h0 => by
    have : b.toNat ≠ 0 := fun e => h0 (by have := UInt8.toNat_inj (a := b) (b := 0); simp at this; exact this.1 e)
    simp [val]; omega
  | c :: l, b, h, h0 => by
    have := val_pos l b h h0
    simp [val]; omega

/-- The bytes of the number of some bytes are those bytes, where they have no needless nought at the end. -/
theorem vt_val : ∀ (l : List UInt8) (b : UInt8), heads l → b.toNat < 128 → (l = [] ∨ b ≠ 0) → vt (val (l ++ [b])) = l ++ [b]
  | [], b, _, hb, _ => by
    have : val ([] ++ [b]) = b.toNat := by simp [val]; omega
    rw [this]; exact vt_one b hb
  | c :: l, b, hl, hb, h0 => by
    have h0 : b ≠ 0 := by rcases h0 with h | h; cases h; exact h
    have hc : 128 ≤ c.toNat := hl c (by simp)
    have ih := vt_val l b (fun x hx => hl x (by simp [hx])) hb (.inr h0)
    have hp := val_pos l b hb h0
    have hlt := c.toNat_lt
    have e : val (c :: l ++ [b]) = c.toNat % 128 + 128 * val (l ++ [b]) := rfl
    rw [e, vt_big _ (by omega)]
    have e1 : (c.toNat % 128 + 128 * val (l ++ [b])) % 128 + 128 = c.toNat := by omega
    have e2 : (c.toNat % 128 + 128 * val (l ++ [b])) / 128 = val (l ++ [b]) := by omega
    rw [e1, e2, ih]; simp

/-- With a needless nought at the end they are not. -/
theorem vt_last : ∀ (f n : Nat), n ≤ f → 0 < n → (vtF f n).getLast? ≠ some 0
  | 0, n, h, h' => by omega
  | f + 1, n, h, h' => by
    unfold vtF
    by_cases hb : 127 < n
    · rw [if_pos hb]
      have ih := vt_last f (n / 128) (by omega) (by omega)
      have hne : vtF f (n / 128) ≠ [] := by cases f <;> simp [vtF] <;> split <;> simp
      rw [List.getLast?_cons_of_ne_nil hne]
      exact ih
    · rw [if_neg hb]
      simp
      intro e
      have := congrArg UInt8.toNat e
      simp at this
      omega
theorem vt_not (l : List UInt8) (hl : l ≠ []) : vt (val (l ++ [0])) ≠ l ++ [0] := by
  intro e
  by_cases h : val (l ++ [0]) = 0
  · rw [h] at e
    have := congrArg List.length e
    simp [vt, vtF] at this
    exact hl this
  · have := vt_last _ _ (Nat.le_refl (val (l ++ [0]))) (by omega)
    unfold vt at e
    rw [e] at this
    simp at this

/-- What stands behind some bytes: the number that they begin, its weight, whether none has come yet, the bytes that are left, their place. -/
def rv : Nat → Nat → Bool → List UInt8 → Nat → Option (Nat × Nat)
  | _, _, _, [], _ => none
  | n, w, first, b :: l, p =>
    if 1000000000 < w then none
    else if 127 < b.toNat then rv (n + (b.toNat - 128) * w) (w * 128) false l (p + 1)
    else if b.toNat = 0 ∧ first = false then none
    else if 1000000000 < n + b.toNat * w then none
    else some (n + b.toNat * w, p + 1)

theorem val_snoc : ∀ (l : List UInt8) (b : UInt8), val (l ++ [b]) = val l + b.toNat % 128 * 128 ^ l.length
  | [], b => by simp [val]
  | c :: l, b => by
    have ih := val_snoc l b
    show c.toNat % 128 + 128 * val (l ++ [b]) = _
    rw [ih]
    simp only [val, List.length_cons, Nat.pow_succ, Nat.mul_add]
    rw [← Nat.mul_assoc (b.toNat % 128), Nat.mul_comm 128 (b.toNat % 128 * 128 ^ l.length)]
    omega
theorem val_lt : ∀ (l : List UInt8), val l < 128 ^ l.length
  | [] => by simp [val]
  | c :: l => by
    have := val_lt l
    simp only [val, List.length_cons, Nat.pow_succ]
    omega
theorem rv_nil (n w : Nat) (f : Bool) (p : Nat) : rv n w f [] p = none := rfl
theorem rv_great (n w : Nat) (f : Bool) (l : List UInt8) (p : Nat) (h : 1000000000 < w) : rv n w f l p = none := by
  cases l
  · rfl
  · rw [rv, if_pos h]
theorem rv_head (n w : Nat) (f : Bool) (b : UInt8) (l : List UInt8) (p : Nat) (h : w ≤ 1000000000) (hb : 127 < b.toNat) : rv n w f (b :: l) p = rv (n + (b.toNat - 128) * w) (w * 128) false l (p + 1) := by
  rw [rv, if_neg (by omega), if_pos hb]
theorem rv_nought (n w : Nat) (b : UInt8) (l : List UInt8) (p : Nat) (hb : b.toNat = 0) : rv n w false (b :: l) p = none := by
  rw [rv]; split
  · rfl
  · rw [if_neg (by omega), if_pos ⟨hb, rfl⟩]
theorem rv_far (n w : Nat) (f : Bool) (b : UInt8) (l : List UInt8) (p : Nat) (hb : b.toNat ≤ 127) (h : 1000000000 < n + b.toNat * w) : rv n w f (b :: l) p = none := by
  rw [rv]; split
  · rfl
  · rw [if_neg (by omega)]; split
    · rfl
    · rfl
theorem rv_done (n w : Nat) (f : Bool) (b : UInt8) (l : List UInt8) (p : Nat) (h : w ≤ 1000000000) (hb : b.toNat ≤ 127) (h0 : b.toNat ≠ 0 ∨ f = true) (hm : n + b.toNat * w ≤ 1000000000) :
    rv n w f (b :: l) p = some (n + b.toNat * w, p + 1) := by
  rw [rv, if_neg (by omega), if_neg (by omega), if_neg (by rcases h0 with h | h <;> simp [h]), if_neg (by omega)]

/-- As the bytes so far tell it. -/
def rvs (hd : List UInt8) (l : List UInt8) (p : Nat) : Option (Nat × Nat) := rv (val hd) (128 ^ hd.length) (decide (hd.length = 0)) l p
theorem rvs_step (hd : List UInt8) (b : UInt8) (l : List UInt8) (p : Nat) (hk : hd.length ≤ 4) (hb : 127 < b.toNat) : rvs hd (b :: l) p = rvs (hd ++ [b]) l (p + 1) := by
  have hw : 128 ^ hd.length ≤ 128 ^ 4 := Nat.pow_le_pow_right (by omega) hk
  have hlt := b.toNat_lt
  unfold rvs
  rw [rv_head _ _ _ _ _ _ (by omega) hb, val_snoc, List.length_append, List.length_singleton, Nat.pow_succ, decide_eq_false (p := hd.length + 1 = 0) (by omega)]
  have : b.toNat % 128 = b.toNat - 128 := by omega
  rw [this]
theorem rvs_five (hd : List UInt8) (l : List UInt8) (p : Nat) (hk : 5 ≤ hd.length) : rvs hd l p = none := by
  have hw : 128 ^ 5 ≤ 128 ^ hd.length := Nat.pow_le_pow_right (by omega) hk
  exact rv_great _ _ _ _ _ (by omega)
/-- The test by the bytes of the number says the same as the test for a needless nought. -/
theorem rvs_end (hd : List UInt8) (b : UInt8) (l : List UInt8) (p : Nat) (hk : hd.length ≤ 4) (hh : heads hd) (hb : b.toNat ≤ 127) :
    rvs hd (b :: l) p = if val (hd ++ [b]) ≤ 1000000000 ∧ vt (val (hd ++ [b])) = hd ++ [b] then some (val (hd ++ [b]), p + 1) else none := by
  have hw : 128 ^ hd.length ≤ 128 ^ 4 := Nat.pow_le_pow_right (by omega) hk
  have ev : val (hd ++ [b]) = val hd + b.toNat * 128 ^ hd.length := by rw [val_snoc]; congr 2; omega
  by_cases h0 : b.toNat = 0 ∧ hd ≠ []
  · have eb : b = 0 := by have := UInt8.toNat_inj (a := b) (b := 0); simp at this; exact this.1 h0.1
    rw [if_neg (by rw [eb]; exact fun h => vt_not hd h0.2 h.2)]
    unfold rvs
    rw [decide_eq_false (by simpa using h0.2), rv_nought _ _ _ _ _ h0.1]
  · have hv : vt (val (hd ++ [b])) = hd ++ [b] := vt_val hd b hh (by omega) (by
      by_cases e : hd = []
      · exact .inl e
      · right; intro eb; exact h0 ⟨by rw [eb]; rfl, e⟩)
    by_cases hm : val (hd ++ [b]) ≤ 1000000000
    · rw [if_pos ⟨hm, hv⟩]
      unfold rvs
      rw [rv_done _ _ _ _ _ _ (by omega) hb (by
        by_cases e : hd = []
        · right; simp [e]
        · left; exact fun eb => h0 ⟨eb, e⟩) (by omega), ev]
    · rw [if_neg (fun h => hm h.1)]
      exact rv_far _ _ _ _ _ _ hb (by omega)
end Go.Proofs.YtoglebfiobofoaaDoor.W
/- ReadVarM: Plain facts on reading a number from bytes: what the loops of ReadVar hold from round to round. -/
namespace Go.Proofs.YtoglebfiobofoaaDoor.W
open Go.PlainAid (bt)

/-- What ReadVar answers at a place of a text. -/
def readVar (s : ByteArray) (a : Nat) : Option (Nat × Nat) := rvs [] (s.data.toList.drop a) a

theorem rv_bounds : ∀ (l : List UInt8) (n w : Nat) (f : Bool) (q m p : Nat), rv n w f l q = some (m, p) → m ≤ 1000000000 ∧ p ≤ q + l.length
  | [], n, w, f, q, m, p, h => by simp [rv] at h
  | b :: l, n, w, f, q, m, p, h => by
    rw [rv] at h
    split at h
    · simp at h
    · split at h
      · have := rv_bounds l _ _ _ _ _ _ h
        simp; omega
      · split at h
        · simp at h
        · split at h
          · simp at h
          · simp at h
            simp; omega
theorem readVar_bounds {s : ByteArray} {a m p : Nat} (ha : a ≤ s.size) (h : readVar s a = some (m, p)) : m ≤ 1000000000 ∧ p ≤ s.size := by
  have := rv_bounds _ _ _ _ _ _ _ h
  simp at this
  have e2 : s.data.size = s.size := rfl
  omega

/-- What has been read, the bytes from a to j: the number so far, its weight. -/
def RvRel (s : ByteArray) (a j : Nat) (nn sc : Int) : Prop :=
  ∃ hd rest : List UInt8, s.data.toList.drop a = hd ++ rest ∧ heads hd ∧ j = a + hd.length ∧ j ≤ s.size ∧ nn = (val hd : Int) ∧ sc = ((128 ^ hd.length : Nat) : Int) ∧ hd.length ≤ 5 ∧ rvs hd rest j = readVar s a

theorem RvRel.start (s : ByteArray) (a : Nat) (h : a ≤ s.size) : RvRel s a a 0 1 :=
  ⟨[], s.data.toList.drop a, rfl, fun _ h => by simp at h, rfl, h, rfl, rfl, by simp, rfl⟩

theorem RvRel.bounds {s : ByteArray} {a j : Nat} {nn sc : Int} (h : RvRel s a j nn sc) : 0 ≤ nn ∧ nn < sc ∧ 1 ≤ sc ∧ sc ≤ 34359738368 ∧ a ≤ j ∧ j ≤ a + 5 ∧ j ≤ s.size := by
  obtain ⟨hd, rest, _, _, rfl, hj, rfl, rfl, hk, _⟩ := h
  have h1 := val_lt hd
  have h2 : 128 ^ hd.length ≤ 128 ^ 5 := Nat.pow_le_pow_right (by omega) hk
  have h3 : 0 < 128 ^ hd.length := Nat.pow_pos (by omega)
  omega

theorem RvRel.over {s : ByteArray} {a j : Nat} {nn sc : Int} (h : RvRel s a j nn sc) (hj : s.size ≤ j) : readVar s a = none := by
  obtain ⟨hd, rest, he, _, rfl, _, rfl, rfl, _, hr⟩ := h
  have hl := congrArg List.length he
  simp at hl
  have : rest = [] := List.eq_nil_of_length_eq_zero (by omega)
  subst this
  rw [← hr]; exact rv_nil _ _ _ _

/-- Five bytes, or a weight beyond the greatest number: that is one. -/
theorem RvRel.five {s : ByteArray} {a j : Nat} {nn sc : Int} (h : RvRel s a j nn sc) : (j = a + 5 ↔ 1000000000 < sc) ∧ (1000000000 < sc → readVar s a = none) := by
  obtain ⟨hd, rest, he, _, rfl, _, rfl, rfl, hk, hr⟩ := h
  refine ⟨⟨fun h => ?_, fun h => ?_⟩, fun h => ?_⟩
  · have : hd.length = 5 := by omega
    rw [this]; omega
  · by_cases h5 : hd.length = 5
    · omega
    · have h2 : 128 ^ hd.length ≤ 128 ^ 4 := Nat.pow_le_pow_right (by omega) (by omega)
      omega
  · rw [← hr]; exact rv_great _ _ _ _ _ (by omega)

/-- The byte at j, and what is left behind it. -/
theorem byte_at (s : ByteArray) (a : Nat) (hd rest : List UInt8) (he : s.data.toList.drop a = hd ++ rest) (hj : a + hd.length < s.size) :
    ∃ b r, rest = b :: r ∧ bt s (a + hd.length) = (b.toNat : Int) := by
  cases rest with
  | nil =>
    have hl := congrArg List.length he
    simp at hl
    have : s.data.size = s.size := rfl
    omega
  | cons b r =>
    refine ⟨b, r, rfl, ?_⟩
    have h1 : (s.data.toList.drop a)[hd.length]? = some b := by rw [he]; simp
    rw [List.getElem?_drop] at h1
    have h2 : s.data.toList[a + hd.length]'(by simpa using hj) = b := by
      rw [List.getElem?_eq_some_iff] at h1
      exact h1.2
    unfold bt
    rw [dif_pos hj]
    have h3 : s[a + hd.length] = s.data.toList[a + hd.length]'(by simpa using hj) := rfl
    rw [h3, h2]

theorem RvRel.head {s : ByteArray} {a j : Nat} {nn sc : Int} (h : RvRel s a j nn sc) (hj : j < s.size) (hs : sc ≤ 1000000000) (hb : 127 < bt s j) :
    RvRel s a (j + 1) (nn + (bt s j - 128) * sc) (sc * 128) ∧ RvRel s a (j + 1) (nn + bt s j % 128 * sc) (sc * 128) := by
  have h5 := h.five
  obtain ⟨hd, rest, he, hh, rfl, _, rfl, rfl, hk, hr⟩ := h
  obtain ⟨b, r, rfl, hbt⟩ := byte_at s a hd rest he hj
  rw [hbt] at hb ⊢
  have hlt := b.toNat_lt
  have e : (b.toNat : Int) % 128 = (b.toNat : Int) - 128 := by omega
  rw [e]
  have key : RvRel s a (a + hd.length + 1) ((val hd : Int) + ((b.toNat : Int) - 128) * ((128 ^ hd.length : Nat) : Int)) (((128 ^ hd.length : Nat) : Int) * 128) := by
    refine ⟨hd ++ [b], r, by rw [he]; simp, fun x hx => ?_, by simp; omega, by omega, ?_, by simp [Nat.pow_succ], by simp; omega, ?_⟩
    · rcases List.mem_append.1 hx with h | h
      · exact hh x h
      · simp at h; subst h; omega
    · rw [val_snoc]
      have : b.toNat % 128 = b.toNat - 128 := by omega
      rw [this, Int.natCast_add, Int.natCast_mul, Int.natCast_sub (by omega)]; rfl
    · rw [← hr]
      have := rvs_step hd b r (a + hd.length) (by omega) (by omega)
      rw [this]
  exact ⟨key, key⟩

theorem RvRel.last {s : ByteArray} {a j : Nat} {nn sc : Int} (h : RvRel s a j nn sc) (hj : j < s.size) (hs : sc ≤ 1000000000) (hb : bt s j ≤ 127) :
    (bt s j = 0 → a < j → readVar s a = none) ∧ (1000000000 < nn + bt s j * sc → readVar s a = none) ∧
    ((bt s j ≠ 0 ∨ j = a) → nn + bt s j * sc ≤ 1000000000 → readVar s a = some ((nn + bt s j * sc).toNat, j + 1)) := by
  obtain ⟨hd, rest, he, hh, rfl, _, rfl, rfl, hk, hr⟩ := h
  obtain ⟨b, r, rfl, hbt⟩ := byte_at s a hd rest he hj
  rw [hbt] at hb ⊢
  have e : (val hd : Int) + (b.toNat : Int) * ((128 ^ hd.length : Nat) : Int) = ((val hd + b.toNat * 128 ^ hd.length : Nat) : Int) := by rw [Int.natCast_add, Int.natCast_mul]
  rw [e, ← hr]
  unfold rvs
  refine ⟨fun h0 h1 => ?_, fun h1 => ?_, fun h0 h1 => ?_⟩
  · rw [decide_eq_false (by omega)]; exact rv_nought _ _ _ _ _ (by omega)
  · exact rv_far _ _ _ _ _ _ (by omega) (by omega)
  · rw [rv_done _ _ _ _ _ _ (by omega) (by omega) (by
      rcases h0 with h | h
      · left; omega
      · right; simp; have : hd.length = 0 := by omega
        exact List.eq_nil_of_length_eq_zero this) (by omega), Int.toNat_natCast]

/-- As the other program tells it: by the bytes of the number. -/
theorem RvRel.same {s : ByteArray} {a j : Nat} {nn sc : Int} (h : RvRel s a j nn sc) (hj : j < s.size) (hs : sc ≤ 1000000000) (hb : bt s j ≤ 127) :
    (1000000000 < nn + bt s j % 128 * sc → readVar s a = none) ∧
    (nn + bt s j % 128 * sc ≤ 1000000000 → readVar s a = if vt (nn + bt s j % 128 * sc).toNat = (s.extract a (j + 1)).data.toList then some ((nn + bt s j % 128 * sc).toNat, j + 1) else none) := by
  obtain ⟨hd, rest, he, hh, rfl, _, rfl, rfl, hk, hr⟩ := h
  obtain ⟨b, r, rfl, hbt⟩ := byte_at s a hd rest he hj
  have hk4 : hd.length ≤ 4 := by
    by_cases h5 : hd.length = 5
    · rw [h5] at hs; omega
    · omega
  rw [hbt] at hb ⊢
  have e0 : (b.toNat : Int) % 128 = b.toNat := by omega
  have e : (val hd : Int) + (b.toNat : Int) * ((128 ^ hd.length : Nat) : Int) = ((val (hd ++ [b]) : Nat) : Int) := by
    rw [val_snoc, Int.natCast_add, Int.natCast_mul]
    have : b.toNat % 128 = b.toNat := by omega
    rw [this]
  have ex : (s.extract a (a + hd.length + 1)).data.toList = hd ++ [b] := by
    have : (s.extract a (a + hd.length + 1)).data.toList = (s.data.toList.drop a).take (hd.length + 1) := by
      simp [ByteArray.data_extract]
      congr 1; omega
    rw [this, he]
    have e3 : hd ++ b :: r = (hd ++ [b]) ++ r := by simp
    rw [e3, List.take_left' (by simp)]
  rw [e0, e, ex, ← hr, rvs_end hd b r _ hk4 hh (by omega)]
  have e4 : ((val (hd ++ [b]) : Nat) : Int).toNat = val (hd ++ [b]) := rfl
  rw [e4]
  refine ⟨fun h1 => ?_, fun h1 => ?_⟩
  · rw [if_neg (fun h => by have := h.1; omega)]
  · by_cases hv : vt (val (hd ++ [b])) = hd ++ [b]
    · rw [if_pos ⟨by omega, hv⟩, if_pos hv]
    · rw [if_neg (fun h => hv h.2), if_neg hv]
end Go.Proofs.YtoglebfiobofoaaDoor.W
/- VtM: Plain: what was read as a number are the bytes of this number. -/
namespace Go.Proofs.YtoglebfiobofoaaDoor.W

/-- What was read as a number are the bytes of this number. -/
theorem rvs_vt : ∀ (rest hd : List UInt8) (q n p : Nat), heads hd → hd.length ≤ 5 → rvs hd rest q = some (n, p) →
    ∃ mid r, rest = mid ++ r ∧ 0 < mid.length ∧ p = q + mid.length ∧ hd ++ mid = vt n
  | [], hd, q, n, p, _, _, h => by simp [rvs, rv] at h
  | b :: r, hd, q, n, p, hh, hk, h => by
    by_cases h5 : hd.length = 5
    · rw [rvs_five hd _ _ (by omega)] at h; cases h
    by_cases hb : 127 < b.toNat
    · rw [rvs_step hd b r q (by omega) hb] at h
      obtain ⟨mid, r', e1, e2, e3, e4⟩ := rvs_vt r (hd ++ [b]) (q + 1) n p (fun x hx => by
        rcases List.mem_append.1 hx with h | h
        · exact hh x h
        · simp at h; subst h; omega) (by simp; omega) h
      exact ⟨b :: mid, r', by rw [e1]; rfl, by simp, by simp; omega, by rw [← e4]; simp⟩
    · rw [rvs_end hd b r q (by omega) hh (by omega)] at h
      split at h
      · rename_i hc
        simp at h
        exact ⟨[b], r, rfl, by simp, by simp; omega, by rw [← h.1]; exact hc.2.symm⟩
      · cases h
theorem extract_list (s : ByteArray) (a b : Nat) : (s.extract a b).data.toList = (s.data.toList.drop a).take (b - a) := by
  simp [ByteArray.data_extract]
theorem readVar_vt {s : ByteArray} {a n p : Nat} (h : readVar s a = some (n, p)) : a < p ∧ n ≤ 1000000000 ∧ s.extract a p = ⟨(vt n).toArray⟩ := by
  have hn := rv_bounds _ _ _ _ _ _ _ h
  obtain ⟨mid, r, e1, e2, e3, e4⟩ := rvs_vt _ [] a n p (fun _ h => by simp at h) (by simp) h
  refine ⟨by omega, hn.1, ?_⟩
  apply Go.WideShapes.bytes_inj
  rw [extract_list, e1]
  have : p - a = mid.length := by omega
  rw [this, List.take_left' rfl]
  simpa using e4
end Go.Proofs.YtoglebfiobofoaaDoor.W
/- Bytes: Rows of bytes that a call owns, and the string that is made of one: facts for the walks of this seat. -/
namespace Go.Proofs.YtoglebfiobofoaaDoor
set_option maxRecDepth 100000
open Go.RowKit

/-- Bytes as the cells of a row. -/
def bv (l : List UInt8) : List Value := l.map fun b => .int .u8 (b.toNat : Int)
theorem bv_nil : bv [] = [] := rfl
theorem bv_snoc (l : List UInt8) (b : UInt8) : bv l ++ [.int .u8 (b.toNat : Int)] = bv (l ++ [b]) := by simp [bv]
theorem bv_len (l : List UInt8) : (bv l).length = l.length := by simp [bv]
theorem byte_of (n : Int) (h0 : 0 ≤ n) (h1 : n < 256) : Value.int .u8 n = .int .u8 ((UInt8.ofNat n.toNat).toNat : Int) := by
  have : (UInt8.ofNat n.toNat).toNat = n.toNat := by simp; omega
  rw [this]; congr 1; omega

theorem Tryd.info5 : (Tryd.prog.info? 5).map (fun i => (i.zero, i.size, i.bytes)) = some (some (.int .u8 0), 1, 1) := by kernel_rfl

/-- The string of a row of bytes that a call owns. -/
theorem own_string {w : World} {base : Nat} {v : Value} {l : List UInt8} (h : w.ownsRow base 5 1 v l.length (bv l)) :
    (convert 59 9 v).run Tryd.prog w = .ok (.string ⟨l.toArray⟩) w := by
  have hc : ∀ g, v.ownBlock = some g → ∀ j u, (bv l)[j]? = some u → w.cell? ((⟨g, 0, none⟩ : Addr).add j) = some u := fun g hg => h.cells hg
  obtain ⟨h1, ⟨rfl, h0⟩ | ⟨g, cap, cur, rfl, _⟩⟩ := h
  · have : l = [] := List.eq_nil_of_length_eq_zero h0
    subst this
    exact run_convert_bytes_nil _ 59 5 Tryd.underlying59 Tryd.underlying5 0 0 _ Tryd.underlying9
  · exact run_convert_bytes_back w 59 9 5 ⟨g, 0, none⟩ cap l Tryd.underlying59 Tryd.underlying5 Tryd.underlying9 (fun j hj => hc g rfl j _ (by simp [bv, hj]))

/-- A part of a string. -/
theorem slice_str (s : ByteArray) (a b : Nat) (h1 : a ≤ b) (h2 : b ≤ s.size) (w : World) :
    (Instr.slice 9 (.string s) (some (.int .i64 (a : Int))) (some (.int .i64 (b : Int))) none).run Tryd.prog w = .ok (.string (s.extract a b)) w := by
  rw [run_slice_string_if w 9 s .i64 .i64 a b Tryd.underlying9, if_pos ⟨by omega, by omega⟩, if_pos ⟨by omega, by omega⟩]
  rfl
end Go.Proofs.YtoglebfiobofoaaDoor
/- SumM: Plain facts on check sums of 32 bits: one step of the sum is told by 'st', a sum over bytes by 'crc', its four bytes by 'four'; nothing of the program is read here. -/
namespace Go.Proofs.YtoglebfiobofoaaDoor.W
abbrev B32 := BitVec 32
def poly : B32 := 3558460437#32
/-- One step: half of it, and the number when it was odd. -/
def st (x : B32) : B32 := (x >>> 1) ^^^ (if x.getLsbD 0 then poly else 0#32)
def st4 (x : B32) : B32 := st (st (st (st x)))
def st8 (x : B32) : B32 := st4 (st4 x)
theorem st_xor (x y : B32) : st (x ^^^ y) = st x ^^^ st y := by
  unfold st
  rw [BitVec.getLsbD_xor, BitVec.ushiftRight_xor_distrib]
  generalize x >>> 1 = a
  generalize y >>> 1 = b
  generalize poly = p
  cases x.getLsbD 0 <;> cases y.getLsbD 0 <;> (ext i hi; simp; try (cases a[i] <;> cases b[i] <;> cases p[i] <;> rfl))
theorem st4_xor (x y : B32) : st4 (x ^^^ y) = st4 x ^^^ st4 y := by unfold st4; rw [st_xor, st_xor, st_xor, st_xor]
theorem st8_xor (x y : B32) : st8 (x ^^^ y) = st8 x ^^^ st8 y := by unfold st8; rw [st4_xor, st4_xor]
theorem st_even (x : B32) (h : x.getLsbD 0 = false) : st x = x >>> 1 := by unfold st; rw [h]; simp
theorem st4_high (x : B32) (h0 : x.getLsbD 0 = false) (h1 : x.getLsbD 1 = false) (h2 : x.getLsbD 2 = false) (h3 : x.getLsbD 3 = false) : st4 x = x >>> 4 := by
  unfold st4
  rw [st_even x h0, st_even (x >>> 1) (by simpa using h1), st_even (x >>> 1 >>> 1) (by simpa [BitVec.getLsbD_ushiftRight] using h2), st_even (x >>> 1 >>> 1 >>> 1) (by simpa [BitVec.getLsbD_ushiftRight] using h3)]
  simp [← BitVec.shiftRight_add]
def tab (n : Nat) : Nat := (st4 (BitVec.ofNat 32 n)).toNat
theorem tab_all : (List.range 16).map tab = [0, 1166650509, 2333301018, 3466261911, 3189058079, 4221339282, 889615109, 1888477064, 3558460437, 2442158232, 1594529039, 444807554, 1779230218, 797264519, 3776954128, 2761298845] := by decide +kernel
/-- Four steps at once: the lowest four bits tell all that is added, the others only move. -/
theorem st4_low (x : B32) : st4 x = (x >>> 4) ^^^ st4 (x &&& 15#32) := by
  have e : x = (x &&& ~~~(15#32)) ^^^ (x &&& 15#32) := by
    ext i hi; simp only [BitVec.getElem_xor, BitVec.getElem_and, BitVec.getElem_not]
    cases x[i] <;> cases (15#32)[i] <;> rfl
  have h : st4 (x &&& ~~~(15#32)) = x >>> 4 := by
    rw [st4_high]
    · ext i hi
      simp only [BitVec.getElem_ushiftRight, BitVec.getLsbD_and, BitVec.getLsbD_not]
      by_cases h : 4 + i < 32
      · have : (15#32).getLsbD (4 + i) = false := by
          have : i < 28 := by omega
          have hall : ∀ j : Fin 28, (15#32).getLsbD (4 + j.val) = false := by decide
          exact hall ⟨i, this⟩
        simp only [this, h]; simp [BitVec.getLsbD_eq_getElem h]
      · simp [BitVec.getLsbD_of_ge x (4 + i) (by omega)]
    all_goals simp
  have h2 := st4_xor (x &&& ~~~(15#32)) (x &&& 15#32)
  rw [h] at h2
  rw [← e] at h2
  exact h2
def stN : Nat → B32 → B32
  | 0, z => z
  | j + 1, z => st (stN j z)
theorem st8_N (z : B32) : stN 8 z = st8 z := rfl
/-- A sum over bytes. -/
def by32 (b : UInt8) : B32 := BitVec.ofNat 32 b.toNat
def crc (s : B32) (l : List UInt8) : B32 := l.foldl (fun s b => st8 (s ^^^ by32 b)) s
theorem crc_snoc (s : B32) (l : List UInt8) (b : UInt8) : crc s (l ++ [b]) = st8 (crc s l ^^^ by32 b) := by simp [crc]
theorem crc_app (s : B32) (l m : List UInt8) : crc s (l ++ m) = crc (crc s l) m := by simp [crc]
/-- The four bytes of a sum, the highest first. -/
def four (x : B32) : List UInt8 := [UInt8.ofNat (x.toNat / 16777216), UInt8.ofNat (x.toNat / 65536), UInt8.ofNat (x.toNat / 256), UInt8.ofNat x.toNat]
theorem four_len (x : B32) : (four x).length = 4 := rfl
theorem four_inj (x y : B32) (h : four x = four y) : x = y := by
  unfold four at h
  simp only [List.cons.injEq, and_true] at h
  obtain ⟨h1, h2, h3, h4⟩ := h
  have g1 := congrArg UInt8.toNat h1
  have g2 := congrArg UInt8.toNat h2
  have g3 := congrArg UInt8.toNat h3
  have g4 := congrArg UInt8.toNat h4
  simp at g1 g2 g3 g4
  have lx := x.isLt
  have ly := y.isLt
  apply BitVec.eq_of_toNat_eq
  omega
theorem st_inj (x y : B32) (h : st x = st y) : x = y := by
  have hz : ∀ z : B32, st z = 0#32 → z = 0#32 := by
    intro z hz
    unfold st at hz
    by_cases h0 : z.getLsbD 0 = true
    · rw [if_pos h0] at hz
      have := congrArg (fun v => BitVec.getLsbD v 31) hz
      simp [poly] at this
    · rw [if_neg h0] at hz
      simp only [BitVec.xor_zero] at hz
      ext i hi
      by_cases hi0 : i = 0
      · subst hi0; simpa using h0
      · have := congrArg (fun v => BitVec.getLsbD v (i - 1)) hz
        simp only [BitVec.getLsbD_ushiftRight] at this
        rw [show 1 + (i - 1) = i by omega] at this
        rw [← BitVec.getLsbD_eq_getElem hi, this]; simp
  have h2 : st (x ^^^ y) = 0#32 := by rw [st_xor, h]; simp
  have h3 := hz _ h2
  exact BitVec.xor_eq_zero_iff.1 h3
theorem st8_inj (x y : B32) (h : st8 x = st8 y) : x = y := by
  unfold st8 st4 at h
  iterate 8 replace h := st_inj _ _ h
  exact h
theorem crc_inj : ∀ (l : List UInt8) (x y : B32), crc x l = crc y l → x = y
  | [], x, y, h => h
  | b :: l, x, y, h => by
    have h1 := st8_inj _ _ (crc_inj l _ _ h)
    have h2 := congrArg (· ^^^ by32 b) h1
    simpa [BitVec.xor_assoc] using h2
theorem by32_inj (a b : UInt8) (h : by32 a = by32 b) : a = b := by
  have := congrArg BitVec.toNat h
  have la := a.toNat_lt
  have lb := b.toNat_lt
  simp [by32] at this
  apply UInt8.toNat_inj.1
  omega
/-- A byte that is another makes another sum. -/
theorem crc_turned (s : B32) (l m : List UInt8) (a b : UInt8) (h : crc s (l ++ a :: m) = crc s (l ++ b :: m)) : a = b := by
  rw [crc_app, crc_app] at h
  have h1 := st8_inj _ _ (crc_inj m _ _ h)
  have h2 := congrArg (crc s l ^^^ ·) h1
  simp [← BitVec.xor_assoc] at h2
  exact by32_inj _ _ h2
end Go.Proofs.YtoglebfiobofoaaDoor.W
namespace Go.Proofs.YtoglebfiobofoaaDoor
set_option maxRecDepth 100000
open Go.RowKit
open W (B32)
/-- A sum as the model holds it. -/
abbrev u32 (x : B32) : Value := .int .u32 (x.toNat : Int)
theorem u32_of (a : Int) (h0 : 0 ≤ a) (h1 : a < 4294967296) : ∃ x : B32, a = (x.toNat : Int) := by
  refine ⟨BitVec.ofNat 32 a.toNat, ?_⟩
  simp; omega
theorem u32_lt (x : B32) : (0 : Int) ≤ (x.toNat : Int) ∧ (x.toNat : Int) < 4294967296 := ⟨by omega, by have := x.isLt; omega⟩
theorem u32_wrap (x : B32) : IntKind.u32.wrap (x.toNat : Int) = (x.toNat : Int) := by
  have := x.isLt
  simp [IntKind.wrap, IntKind.bits, IntKind.signed]; omega
theorem u32_back (x : B32) : BitVec.ofInt IntKind.u32.bits (x.toNat : Int) = x := by
  show BitVec.ofInt 32 (x.toNat : Int) = x
  simp
theorem u32_xor (x y : B32) : bits .xor .u32 (x.toNat : Int) (y.toNat : Int) = ((x ^^^ y).toNat : Int) := by
  unfold bits
  simp only [u32_back]
  exact u32_wrap (x ^^^ y)
theorem u32_and (x y : B32) : bits .and .u32 (x.toNat : Int) (y.toNat : Int) = ((x &&& y).toNat : Int) := by
  unfold bits
  simp only [u32_back]
  exact u32_wrap (x &&& y)
theorem u32_shr (x : B32) (n : Nat) : (x.toNat : Int) / 2 ^ n = ((x >>> n).toNat : Int) := by
  rw [BitVec.toNat_ushiftRight, Nat.shiftRight_eq_div_pow]
  norm_cast
theorem u32_byte (y : B32) (b : UInt8) : bits .xor .u32 (y.toNat : Int) (b.toNat : Int) = ((y ^^^ W.by32 b).toNat : Int) := by
  have h := u32_xor y (W.by32 b)
  have e : (W.by32 b).toNat = b.toNat := by have := b.toNat_lt; simp [W.by32]
  rw [e] at h
  exact h
theorem u32_odd (y : B32) : (y.toNat : Int).tmod 2 = if y.getLsbD 0 then 1 else 0 := by
  rw [Int.tmod_eq_emod_of_nonneg (by omega)]
  have e : y.getLsbD 0 = decide (y.toNat % 2 = 1) := by
    rw [BitVec.getLsbD, Nat.testBit_zero]
  rw [e]
  by_cases h : y.toNat % 2 = 1 <;> simp [h] <;> omega
theorem u32_half (y : B32) : (y.toNat : Int).tdiv 2 = ((y >>> 1).toNat : Int) := by
  rw [Int.tdiv_eq_ediv_of_nonneg (by omega)]
  exact u32_shr y 1
theorem u32_poly (y : B32) : bits .xor .u32 ((y >>> 1).toNat : Int) 3558460437 = (((y >>> 1) ^^^ W.poly).toNat : Int) := u32_xor (y >>> 1) W.poly
end Go.Proofs.YtoglebfiobofoaaDoor
/- HexM: Plain facts on hexadecimal figures. -/
namespace Go.Proofs.YtoglebfiobofoaaDoor.W
open Go.PlainAid (bt)

/-- The figure of a number below 16. -/
def hfI (x : Int) : Int := if x < 10 then 48 + x else 87 + x
theorem hfI_bd (x : Int) (h0 : 0 ≤ x) (h1 : x < 16) : 0 ≤ hfI x ∧ hfI x < 256 := by unfold hfI; split <;> omega
def hf (n : Nat) : UInt8 := UInt8.ofNat (hfI n).toNat
theorem hf_toNat (n : Nat) (h : n < 16) : ((hf n).toNat : Int) = hfI n := by
  have := hfI_bd n (by omega) (by omega)
  unfold hf; simp; omega
def hexL (l : List UInt8) : List UInt8 := l.flatMap fun b => [hf (b.toNat / 16), hf (b.toNat % 16)]
theorem hexL_len (l : List UInt8) : (hexL l).length = 2 * l.length := by
  induction l with
  | nil => rfl
  | cons b l ih => simp [hexL] at ih ⊢; omega
theorem hexL_snoc (l : List UInt8) (b : UInt8) : hexL (l ++ [b]) = hexL l ++ [hf (b.toNat / 16), hf (b.toNat % 16)] := by simp [hexL]

/-- The first k bytes of a text. -/
def firstK (s : ByteArray) (k : Nat) : List UInt8 := s.data.toList.take k
theorem firstK_len (s : ByteArray) (k : Nat) (h : k ≤ s.size) : (firstK s k).length = k := by
  have e : s.data.size = s.size := rfl
  simp [firstK]; omega
theorem firstK_all (s : ByteArray) (k : Nat) (h : s.size ≤ k) : firstK s k = s.data.toList := by
  have e : s.data.size = s.size := rfl
  unfold firstK; exact List.take_of_length_le (by simp; omega)
theorem firstK_step (s : ByteArray) (k : Nat) (h : k < s.size) : ∃ b : UInt8, firstK s (k + 1) = firstK s k ++ [b] ∧ bt s k = (b.toNat : Int) := by
  refine ⟨s[k], ?_, ?_⟩
  · unfold firstK; rw [List.take_succ_eq_append_getElem (by simpa using h)]; rfl
  · unfold bt; rw [dif_pos h]
end Go.Proofs.YtoglebfiobofoaaDoor.W
namespace Go.Proofs.YtoglebfiobofoaaDoor
set_option maxRecDepth 100000
open Go.RowKit
open Go.PlainAid (bt)
theorem bt_words (s : ByteArray) (k : Nat) : IntKind.i64.wrap (bt s k) = bt s k ∧ (bt s k).tdiv 16 = bt s k / 16 ∧ IntKind.i64.wrap (bt s k / 16) = bt s k / 16 ∧ (bt s k).tmod 16 = bt s k % 16 ∧ IntKind.i64.wrap (bt s k % 16) = bt s k % 16 := by
  have b0 := Go.PlainAid.bt_nonneg s k
  have b1 := Go.PlainAid.bt_le s k
  refine ⟨IntWalk.i64_in _ ⟨by omega, by omega⟩, Int.tdiv_eq_ediv_of_nonneg b0, IntWalk.i64_in _ ⟨by omega, by omega⟩, Int.tmod_eq_emod_of_nonneg b0, IntWalk.i64_in _ ⟨by omega, by omega⟩⟩
theorem bt_words8 (s : ByteArray) (k : Nat) : IntKind.u8.wrap (bt s k / 16) = bt s k / 16 ∧ IntKind.u8.wrap (bt s k % 16) = bt s k % 16 := by
  have b0 := Go.PlainAid.bt_nonneg s k
  have b1 := Go.PlainAid.bt_le s k
  exact ⟨IntWalk.u8_in _ ⟨by omega, by omega⟩, IntWalk.u8_in _ ⟨by omega, by omega⟩⟩
/-- A byte of a string. -/
theorem index_str (s : ByteArray) (k : Nat) (h : k < s.size) (w : World) :
    (Instr.index 9 (.string s) (.int .i64 (k : Int))).run Tryd.prog w = .ok (.int .u8 (bt s k)) w := by
  have hb := Go.PlainAid.get_bt s k h
  rw [run_index_string _ 9 s .i64 k Tryd.underlying9, dif_pos ⟨by omega, by omega⟩, ← hb]
  rfl
/-- Behind the two figures of byte k. -/
theorem hex_own {B k : Nat} {s : ByteArray} {w1 : World} {v' : Value} {x y : Int} (hk : k < s.size) (hx : x = W.hfI (bt s k / 16)) (hy : y = W.hfI (bt s k % 16))
    (h : w1.ownsRow B 5 1 v' (2 * k + 2) (bv (W.hexL (W.firstK s k)) ++ [.int .u8 x, .int .u8 y])) :
    w1.ownsRow B 5 1 v' (2 * (k + 1)) (bv (W.hexL (W.firstK s (k + 1)))) := by
  obtain ⟨b, hb, e⟩ := W.firstK_step s k hk
  have hlt := b.toNat_lt
  have e1 : Value.int .u8 x = .int .u8 ((W.hf (b.toNat / 16)).toNat : Int) := by
    rw [W.hf_toNat _ (by omega), hx, e]; congr 2
  have e2 : Value.int .u8 y = .int .u8 ((W.hf (b.toNat % 16)).toNat : Int) := by
    rw [W.hf_toNat _ (by omega), hy, e]; congr 2
  have e3 : bv (W.hexL (W.firstK s k)) ++ [.int .u8 x, .int .u8 y] = bv (W.hexL (W.firstK s (k + 1))) := by
    rw [hb, W.hexL_snoc, e1, e2]; simp [bv]
  rw [e3] at h
  exact h
end Go.Proofs.YtoglebfiobofoaaDoor
/- SumS: The walks of the sums over bytes. -/
namespace Go.Proofs.YtoglebfiobofoaaDoor
set_option maxRecDepth 100000
open Go.RowKit
open W (B32)
open Go.PlainAid (bt)
attribute [local go_sem ↓] Go.wp_at_zero Go.wp_at_succ

def sumTab : List Int := [0, 1166650509, 2333301018, 3466261911, 3189058079, 4221339282, 889615109, 1888477064, 3558460437, 2442158232, 1594529039, 444807554, 1779230218, 797264519, 3776954128, 2761298845]
/-- The table of the sums holds what the program's text lays. -/
abbrev SumTab (w : World) : Prop := Lib.TabIs Tryd.prog w "loop.example/g00197/impl.sumSteps" .u32 sumTab
theorem gSum : Tryd.prog.globalNamed "loop.example/g00197/impl.sumSteps" = some 0 := by kernel_rfl
theorem SumTab.stays {w w' : World} (h : SumTab w) (hb : Below w.heap.size w w') : SumTab w' := Joins.tab_stays gSum h hb (Nat.le_refl _)
theorem sum_cell {w : World} (h : SumTab w) (x : B32) : w.cell? ⟨0, (x &&& 15#32).toNat, none⟩ = some (u32 (W.st4 (x &&& 15#32))) := by
  have hn : (x &&& 15#32).toNat < 16 := by
    rw [BitVec.toNat_and]; exact Nat.lt_of_le_of_lt Nat.and_le_right (by decide)
  have hc := World.var?_cell gSum h (x &&& 15#32).toNat
  have e : W.tab (x &&& 15#32).toNat = (W.st4 (x &&& 15#32)).toNat := by
    unfold W.tab; rw [BitVec.ofNat_toNat]; simp
  have ht := congrArg (·[(x &&& 15#32).toNat]?) W.tab_all
  simp only [List.getElem?_map, List.getElem?_range hn, Option.map_some] at ht
  rw [hc, show u32 (W.st4 (x &&& 15#32)) = .int .u32 ((W.tab (x &&& 15#32).toNat : Nat) : Int) by rw [e]]
  generalize (x &&& 15#32).toNat = n at hn ht
  generalize W.tab n = m at ht
  match n, hn with
  | 0, _ | 1, _ | 2, _ | 3, _ | 4, _ | 5, _ | 6, _ | 7, _ | 8, _ | 9, _ | 10, _ | 11, _ | 12, _ | 13, _ | 14, _ | 15, _ => simp at ht; subst ht; rfl

theorem fourSteps_plain (a q v r : Int) (n : Nat) (w : World) (h1 : bits BinOp.and IntKind.u32 a 15 = (n : Int)) (h2 : a / 16 = q) (hn : (n : Int) < 16) (hc : w.cell? ⟨0, n, none⟩ = some (.int .u32 v))
    (h3 : bits BinOp.xor IntKind.u32 q v = r) : Calls Tryd.prog 65 #[.int .u32 a] w fun e w' => e = .returned (.int .u32 r) ∧ w' = w := by
  have hn0 : (0 : Int) ≤ (n : Int) := by omega
  go_enter Tryd.func65, Tryd.ntmps65
  go_wp2_with fail
  go_ret
  exact ⟨rfl, rfl⟩
theorem fourSteps (x : B32) (w : World) (h : SumTab w) :
    Calls Tryd.prog 65 #[u32 x] w fun e w' => e = .returned (u32 (W.st4 x)) ∧ w' = w := by
  have hx := u32_xor (x >>> 4) (W.st4 (x &&& 15#32))
  rw [← W.st4_low] at hx
  have hn : ((x &&& 15#32).toNat : Int) < 16 := by
    have : (x &&& 15#32).toNat < 16 := by
      rw [BitVec.toNat_and]; exact Nat.lt_of_le_of_lt Nat.and_le_right (by decide)
    omega
  exact fourSteps_plain _ _ _ _ _ w (u32_and x 15#32) (u32_shr x 4) hn (sum_cell h x) hx
set_option maxHeartbeats 1000000 in
theorem sumMore (x : B32) (s : ByteArray) (w : World) (h : SumTab w) (hs : s.size ≤ 1048576) :
    Calls Tryd.prog 54 #[u32 x, .string s] w fun e w' => e = .returned (u32 (W.crc x s.data.toList)) ∧ w' = w := by
  have HT : Hid (SumTab w) := h
  clear h
  go_enter Tryd.func54, Tryd.ntmps54
  go_wp2_with fail
  go_loop [0, 8] (fun v i => ∃ (k : Nat) (y : B32), v = u32 y ∧ i = .int .i64 k ∧ k ≤ s.size ∧ y = W.crc x (W.firstK s k)) (fun _ i => s.size - (intOf i).toNat)
  case atStart => exact ⟨0, x, rfl, rfl, Nat.zero_le _, by simp [W.firstK, W.crc]⟩
  case round =>
    obtain ⟨k, y, rfl, rfl, hk, hy⟩ := hrel
    have HY : Hid (y = W.crc x (W.firstK s k)) := hy
    clear hy
    by_cases hlt : k < s.size
    · obtain ⟨b, hb, hbt⟩ := W.firstK_step s k hlt
      have k0 : (0 : Int) ≤ (k : Int) := by omega
      have k1 : (k : Int) < (s.size : Int) := by omega
      have hix := index_str s k hlt
      rw [hbt] at hix
      have hbw : IntKind.u32.wrap (b.toNat : Int) = (b.toNat : Int) := by
        have := b.toNat_lt
        simp [IntKind.wrap, IntKind.bits, IntKind.signed]; omega
      obtain ⟨z, hz⟩ : ∃ z, z = y ^^^ W.by32 b := ⟨_, rfl⟩
      have hxor := u32_byte y b
      rw [← hz] at hxor
      have HB : Hid (W.firstK s (k + 1) = W.firstK s k ++ [b]) := hb
      have HZ : Hid (z = y ^^^ W.by32 b) := hz
      clear hb hz hbt
      go_wp2_with fail
      refine (fourSteps z _ HT.out).mono ?_
      rintro e w1 ⟨rfl, rfl⟩
      go_wp2_with fail
      refine (fourSteps _ _ HT.out).mono ?_
      rintro e w2 ⟨rfl, rfl⟩
      go_wp2_with fail
      go_round
      case rel => exact ⟨k + 1, W.st8 z, rfl, by go_num, by omega, by rw [HB.out, W.crc_snoc, HZ.out, HY.out]⟩
      case measure => simp [intOf]; omega
    · obtain rfl : y = W.crc x s.data.toList := by rw [HY.out, W.firstK_all s k (by omega)]
      go_wp2_with fail
      go_ret
      exact ⟨rfl, rfl⟩
set_option maxHeartbeats 1000000 in
theorem specMore (x : B32) (s : ByteArray) (w : World) (hs : s.size ≤ 1048576) :
    Calls Tryd.prog 42 #[u32 x, .string s] w fun e w' => e = .returned (u32 (W.crc x s.data.toList)) ∧ w' = w := by
  go_enter Tryd.func42, Tryd.ntmps42
  go_wp2_with fail
  go_loop [0, 5] (fun v i => ∃ (k : Nat) (y : B32), v = u32 y ∧ i = .int .i64 k ∧ k ≤ s.size ∧ y = W.crc x (W.firstK s k)) (fun _ i => s.size - (intOf i).toNat)
  case atStart => exact ⟨0, x, rfl, rfl, Nat.zero_le _, by simp [W.firstK, W.crc]⟩
  case round =>
    obtain ⟨k, y, rfl, rfl, hk, hy⟩ := hrel
    have HY : Hid (y = W.crc x (W.firstK s k)) := hy
    clear hy
    by_cases hlt : k < s.size
    · obtain ⟨b, hb, hbt⟩ := W.firstK_step s k hlt
      have k0 : (0 : Int) ≤ (k : Int) := by omega
      have k1 : (k : Int) < (s.size : Int) := by omega
      have hix := index_str s k hlt
      rw [hbt] at hix
      have hbw : IntKind.u32.wrap (b.toNat : Int) = (b.toNat : Int) := by
        have := b.toNat_lt
        simp [IntKind.wrap, IntKind.bits, IntKind.signed]; omega
      obtain ⟨z, hz⟩ : ∃ z, z = y ^^^ W.by32 b := ⟨_, rfl⟩
      have hxor := u32_byte y b
      rw [← hz] at hxor
      have HB : Hid (W.firstK s (k + 1) = W.firstK s k ++ [b]) := hb
      have HZ : Hid (z = y ^^^ W.by32 b) := hz
      clear hb hz hbt
      go_wp2_with fail
      go_loop [0, 6] (fun v i => ∃ (j : Nat) (y : B32), v = u32 y ∧ i = .int .i64 j ∧ j ≤ 8 ∧ y = W.stN j z) (fun _ i => 8 - (intOf i).toNat)
      case atStart => exact ⟨0, z, rfl, rfl, Nat.zero_le _, rfl⟩
      case round =>
        obtain ⟨j, y1, rfl, rfl, hj, hy1⟩ := hrel
        have HY1 : Hid (y1 = W.stN j z) := hy1
        clear hy1
        by_cases hj8 : j < 8
        · have hhalf := u32_half y1
          have hodd := u32_odd y1
          have hpoly := u32_poly y1
          obtain ⟨z1, hz1⟩ : ∃ z1, z1 = y1 >>> 1 := ⟨_, rfl⟩
          rw [← hz1] at hhalf hpoly
          have j8 : (j : Int) < 8 := by omega
          have w1 := u32_wrap z1
          by_cases ho : y1.getLsbD 0 = true
          · rw [if_pos ho] at hodd
            have e : W.st y1 = z1 ^^^ W.poly := by unfold W.st; rw [if_pos ho, hz1]
            rw [← e] at hpoly
            have HE : Hid _ := e
            have HZ1 : Hid _ := hz1
            clear e hz1 ho
            go_wp2_with fail
            go_round
            case rel => exact ⟨j + 1, W.st y1, rfl, by go_num, by omega, by rw [HY1.out]; rfl⟩
            case measure => simp [intOf]; omega
          · rw [if_neg ho] at hodd
            have e : W.st y1 = z1 := by unfold W.st; rw [if_neg ho, hz1]; simp
            have HE : Hid _ := e
            have HZ1 : Hid _ := hz1
            clear e hz1 ho hpoly
            go_wp2_with fail
            go_round
            case rel => exact ⟨j + 1, z1, rfl, by go_num, by omega, by rw [← HE.out, HY1.out]; rfl⟩
            case measure => simp [intOf]; omega
        · obtain rfl : j = 8 := by omega
          go_wp2_with fail
          go_round
          case rel => exact ⟨k + 1, y1, rfl, by go_num, by omega, by rw [HB.out, W.crc_snoc, HY1.out, HZ.out, HY.out, W.st8_N]⟩
          case measure => simp [intOf]; omega
    · obtain rfl : y = W.crc x s.data.toList := by rw [HY.out, W.firstK_all s k (by omega)]
      go_wp2_with fail
      go_ret
      exact ⟨rfl, rfl⟩
theorem implSumMore (x : B32) (s : ByteArray) (w : World) (h : SumTab w) (hs : s.size ≤ 1048576) :
    Calls Tryd.prog 47 #[u32 x, .string s] w fun e w' => e = .returned (u32 (W.crc x s.data.toList)) ∧ w' = w := by
  have HT : Hid (SumTab w) := h
  clear h
  have hw := u32_wrap x
  go_enter Tryd.func47, Tryd.ntmps47
  go_wp2_with fail
  refine (sumMore x s _ HT.out hs).mono ?_
  rintro e w1 ⟨rfl, rfl⟩
  go_wp2_with fail
  go_ret
  exact ⟨rfl, rfl⟩
/-- The sum of a text. -/
def _root_.Go.Proofs.YtoglebfiobofoaaDoor.W.sumOf (s : ByteArray) : B32 := W.crc 4294967295#32 s.data.toList
theorem implSumOf (s : ByteArray) (w : World) (h : SumTab w) (hs : s.size ≤ 1048576) :
    Calls Tryd.prog 35 #[.string s] w fun e w' => e = .returned (u32 (W.sumOf s)) ∧ w' = w := by
  have HT : Hid (SumTab w) := h
  clear h
  go_enter Tryd.func35, Tryd.ntmps35
  go_wp2_with fail
  refine (implSumMore 4294967295#32 s _ HT.out hs).mono ?_
  rintro e w1 ⟨rfl, rfl⟩
  go_wp2_with fail
  go_ret
  exact ⟨rfl, rfl⟩
theorem specSumOf (s : ByteArray) (w : World) (hs : s.size ≤ 1048576) :
    Calls Tryd.prog 31 #[.string s] w fun e w' => e = .returned (u32 (W.sumOf s)) ∧ w' = w := by
  go_enter Tryd.func31, Tryd.ntmps31
  go_wp2_with fail
  refine (specMore 4294967295#32 s _ hs).mono ?_
  rintro e w1 ⟨rfl, rfl⟩
  go_wp2_with fail
  go_ret
  exact ⟨rfl, rfl⟩
end Go.Proofs.YtoglebfiobofoaaDoor
/- Seal: The walks of the two Sealed and the two Unsealed. -/
namespace Go.Proofs.YtoglebfiobofoaaDoor
set_option maxRecDepth 100000
open Go.RowKit
open W (B32)
attribute [local go_sem ↓] Go.wp_at_zero Go.wp_at_succ

theorem four_words (x : B32) : IntKind.u8.wrap ((x.toNat : Int) / 16777216) = ((UInt8.ofNat (x.toNat / 16777216)).toNat : Int) ∧ IntKind.u8.wrap ((x.toNat : Int) / 65536) = ((UInt8.ofNat (x.toNat / 65536)).toNat : Int) ∧
    IntKind.u8.wrap ((x.toNat : Int) / 256) = ((UInt8.ofNat (x.toNat / 256)).toNat : Int) ∧ IntKind.u8.wrap (x.toNat : Int) = ((UInt8.ofNat x.toNat).toNat : Int) := by
  refine ⟨?_, ?_, ?_, ?_⟩ <;> simp [IntKind.wrap, IntKind.bits, IntKind.signed]
/-- The four bytes of a sum, as a text. -/
def fourB (x : B32) : ByteArray := ⟨(W.four x).toArray⟩
theorem fourB_size (x : B32) : (fourB x).size = 4 := rfl
theorem four_made (w : World) (c1 c2 c3 c4 : UInt8) : (convert 59 9 (.slice (some ⟨w.heap.size, 0, none⟩) 4 4)).run Tryd.prog (w.alloc (.cells #[.int .u8 (c1.toNat : Int), .int .u8 (c2.toNat : Int), .int .u8 (c3.toNat : Int), .int .u8 (c4.toNat : Int)] 5)) =
    .ok (.string ⟨[c1, c2, c3, c4].toArray⟩) (w.alloc (.cells #[.int .u8 (c1.toNat : Int), .int .u8 (c2.toNat : Int), .int .u8 (c3.toNat : Int), .int .u8 (c4.toNat : Int)] 5)) := by
  refine run_convert_bytes_back _ 59 9 5 ⟨w.heap.size, 0, none⟩ 4 [c1, c2, c3, c4] Tryd.underlying59 Tryd.underlying5 Tryd.underlying9 (fun j hj => ?_)
  have e : (⟨w.heap.size, 0, none⟩ : Addr).add j = ⟨w.heap.size, j, none⟩ := by cases j <;> simp [Addr.add]
  rw [e, World.cell?_alloc_mark]
  match j, hj with
  | 0, _ | 1, _ | 2, _ | 3, _ => rfl
def FourPost (x : B32) (w : World) (e : Ending) (w' : World) : Prop := e = .returned (.string (fourB x)) ∧ Below w.heap.size w w'
theorem implFour (x : B32) (w : World) :
    Calls Tryd.prog 36 #[u32 x] w fun e w' => FourPost x w e w' := by
  obtain ⟨h1, h2, h3, h4⟩ := four_words x
  have hf : W.four x = [UInt8.ofNat (x.toNat / 16777216), UInt8.ofNat (x.toNat / 65536), UInt8.ofNat (x.toNat / 256), UInt8.ofNat x.toNat] := rfl
  generalize UInt8.ofNat (x.toNat / 16777216) = c1 at h1 hf
  generalize UInt8.ofNat (x.toNat / 65536) = c2 at h2 hf
  generalize UInt8.ofNat (x.toNat / 256) = c3 at h3 hf
  generalize UInt8.ofNat x.toNat = c4 at h4 hf
  have HF : Hid (W.four x = [c1, c2, c3, c4]) := hf
  clear hf
  have hmade := four_made w c1 c2 c3 c4
  go_enter Tryd.func36, Tryd.ntmps36
  go_wp2_with fail
  go_ret
  exact ⟨by unfold fourB; rw [HF.out]; rfl, (Below.refl _ _).alloc (Nat.le_refl _) _⟩
theorem specFour (x : B32) (w : World) :
    Calls Tryd.prog 30 #[u32 x] w fun e w' => FourPost x w e w' := by
  obtain ⟨h1, h2, h3, h4⟩ := four_words x
  have hf : W.four x = [UInt8.ofNat (x.toNat / 16777216), UInt8.ofNat (x.toNat / 65536), UInt8.ofNat (x.toNat / 256), UInt8.ofNat x.toNat] := rfl
  generalize UInt8.ofNat (x.toNat / 16777216) = c1 at h1 hf
  generalize UInt8.ofNat (x.toNat / 65536) = c2 at h2 hf
  generalize UInt8.ofNat (x.toNat / 256) = c3 at h3 hf
  generalize UInt8.ofNat x.toNat = c4 at h4 hf
  have HF : Hid (W.four x = [c1, c2, c3, c4]) := hf
  clear hf
  have hmade := four_made w c1 c2 c3 c4
  go_enter Tryd.func30, Tryd.ntmps30
  go_wp2_with fail
  go_ret
  exact ⟨by unfold fourB; rw [HF.out]; rfl, (Below.refl _ _).alloc (Nat.le_refl _) _⟩

/-- A text, sealed. -/
def sealB (s : ByteArray) : ByteArray := s ++ fourB (W.sumOf s)
theorem strCloneS (s : ByteArray) (w : World) (h : s.size ≤ 281474976710656) :
    Calls Tryd.prog 56 #[.string s] w fun e w' => e = .returned (.string s) ∧ Below w.heap.size w w' := by
  go_enter Tryd.func56, Tryd.ntmps56
  go_wp2_with fail
  refine (Tryd.stringslite_Clone s _ h).mono ?_
  rintro e w1 ⟨rfl, hb⟩
  go_wp2_with fail
  go_ret
  exact ⟨rfl, hb⟩
/-- The text and the sum of what is sealed. -/
theorem cut_lo (s : ByteArray) (h : 4 ≤ s.size) (w : World) : (Instr.slice 9 (.string s) none (some (.int .i64 ((s.size : Int) - 4))) none).run Tryd.prog w = .ok (.string (s.extract 0 (s.size - 4))) w := by
  rw [run_slice_string_h (ht := Tryd.underlying9) (kh := .i64) (h0 := by omega) (h2 := by omega), show ((s.size : Int) - 4).toNat = s.size - 4 by omega]
theorem cut_hi (s : ByteArray) (h : 4 ≤ s.size) (w : World) : (Instr.slice 9 (.string s) (some (.int .i64 ((s.size : Int) - 4))) none none).run Tryd.prog w = .ok (.string (s.extract (s.size - 4) s.size)) w := by
  rw [run_slice_string_l (ht := Tryd.underlying9) (kl := .i64) (h0 := by omega) (h1 := by omega), show ((s.size : Int) - 4).toNat = s.size - 4 by omega]
theorem bytes_ne {a b : ByteArray} (h : a ≠ b) : (a.toList == b.toList) = false := by
  rw [ByteArray.toList_eq, ByteArray.toList_eq, beq_eq_false_iff_ne]
  exact fun e => h (ByteArray.ext (Array.toList_inj.1 e))
/-- What is sealed right. -/
def SealOk (s : ByteArray) : Prop := 4 ≤ s.size ∧ s.size ≤ 20004 ∧ fourB (W.sumOf (s.extract 0 (s.size - 4))) = s.extract (s.size - 4) s.size
end Go.Proofs.YtoglebfiobofoaaDoor
/- FrM: Plain facts on frames: the records that the bytes of a file begin with, one behind the other; nothing of the program is read here. -/
namespace Go.Proofs.YtoglebfiobofoaaDoor.W

/-- The frame that stands in a file from a place on: its record, and the place behind it. -/
def frameAt (s : ByteArray) (a : Nat) : Option (ByteArray × Nat) :=
  match readVar s a with
  | none => none
  | some (n, p) => if 1 ≤ n ∧ n ≤ 9000 ∧ p + 4 + n ≤ s.size ∧ fourB (sumOf (s.extract (p + 4) (p + 4 + n))) = s.extract p (p + 4) then some (s.extract (p + 4) (p + 4 + n), p + 4 + n) else none
theorem frameAt_bounds {s : ByteArray} {a : Nat} {r : ByteArray} {b : Nat} (h : frameAt s a = some (r, b)) : a + 6 ≤ b ∧ b ≤ s.size ∧ 1 ≤ r.size ∧ r.size ≤ 9000 := by
  unfold frameAt at h
  split at h
  · cases h
  · rename_i n p hr
    split at h
    · rename_i hc
      simp at h
      obtain ⟨rfl, rfl⟩ := h
      have := readVar_vt hr
      simp
      omega
    · cases h
def framesF (s : ByteArray) : Nat → Nat → List (ByteArray × Nat)
  | 0, _ => []
  | f + 1, a => if a < s.size then (match frameAt s a with | none => [] | some (r, b) => (r, b) :: framesF s f b) else []
theorem framesF_enough (s : ByteArray) : ∀ (f g a : Nat), s.size - a ≤ f → s.size - a ≤ g → framesF s f a = framesF s g a
  | 0, 0, a, _, _ => rfl
  | 0, g + 1, a, h, _ => by rw [framesF, framesF, if_neg (by omega)]
  | f + 1, 0, a, _, h => by rw [framesF, framesF, if_neg (by omega)]
  | f + 1, g + 1, a, h1, h2 => by
    rw [framesF, framesF]
    split
    · cases hf : frameAt s a with
      | none => rfl
      | some x =>
        obtain ⟨r, b⟩ := x
        have := frameAt_bounds hf
        simp only
        rw [framesF_enough s f g b (by omega) (by omega)]
    · rfl
/-- The frames that stand in a file from a place on. -/
def framesFrom (s : ByteArray) (a : Nat) : List (ByteArray × Nat) := framesF s (s.size - a) a
theorem framesFrom_over {s : ByteArray} {a : Nat} (h : s.size ≤ a) : framesFrom s a = [] := by
  unfold framesFrom
  rw [show s.size - a = 0 by omega]; rfl
theorem framesFrom_none {s : ByteArray} {a : Nat} (h : frameAt s a = none) : framesFrom s a = [] := by
  unfold framesFrom
  cases s.size - a with
  | zero => rfl
  | succ f => rw [framesF, h]; simp
theorem framesFrom_some {s : ByteArray} {a b : Nat} {r : ByteArray} (h : frameAt s a = some (r, b)) : framesFrom s a = (r, b) :: framesFrom s b := by
  have hb := frameAt_bounds h
  unfold framesFrom
  obtain ⟨f, hf⟩ : ∃ f, s.size - a = f + 1 := ⟨s.size - a - 1, by omega⟩
  rw [hf, framesF, if_pos (by omega), h]
  simp only
  rw [framesF_enough s f (s.size - b) b (by omega) (Nat.le_refl _)]
def framesOf (s : ByteArray) : List (ByteArray × Nat) := if 20000 < s.size then [] else framesFrom s 0
/-- The place behind the last frame. -/
def endOf (l : List (ByteArray × Nat)) : Nat := (l.getLast?.map (·.2)).getD 0
theorem endOf_nil : endOf [] = 0 := rfl
theorem endOf_snoc (l : List (ByteArray × Nat)) (x : ByteArray × Nat) : endOf (l ++ [x]) = x.2 := by simp [endOf]
def recsOf (l : List (ByteArray × Nat)) : List ByteArray := l.map (·.1)
theorem recsOf_snoc (l : List (ByteArray × Nat)) (x : ByteArray × Nat) : recsOf (l ++ [x]) = recsOf l ++ [x.1] := by simp [recsOf]
theorem recsOf_len (l : List (ByteArray × Nat)) : (recsOf l).length = l.length := by simp [recsOf]
theorem framesF_len (s : ByteArray) : ∀ (f a : Nat), (framesF s f a).length + a ≤ Nat.max a s.size
  | 0, a => by simp [framesF]; exact Nat.le_max_left _ _
  | f + 1, a => by
    rw [framesF]
    split
    · cases hf : frameAt s a with
      | none => simp; exact Nat.le_max_left _ _
      | some x =>
        obtain ⟨r, b⟩ := x
        have h1 := frameAt_bounds hf
        have := framesF_len s f b
        simp only [List.length_cons]
        have e1 : Nat.max b s.size = s.size := Nat.max_eq_right (by omega)
        have e2 : Nat.max a s.size = s.size := Nat.max_eq_right (by omega)
        rw [e1] at this
        rw [e2]
        omega
    · simp; exact Nat.le_max_left _ _
theorem framesOf_len (s : ByteArray) : (framesOf s).length ≤ 20000 := by
  unfold framesOf
  split
  · simp
  · have := framesF_len s (s.size - 0) 0
    have e2 : Nat.max 0 s.size = s.size := Nat.max_eq_right (by omega)
    rw [e2] at this
    unfold framesFrom
    omega
theorem endOf_le (s : ByteArray) (f : Nat) : ∀ (a : Nat) (x : ByteArray × Nat), x ∈ framesF s f a → x.2 ≤ s.size := by
  induction f with
  | zero => intro a x h; simp [framesF] at h
  | succ f ih =>
    intro a x h
    rw [framesF] at h
    split at h
    · cases hf : frameAt s a with
      | none => rw [hf] at h; simp at h
      | some y =>
        obtain ⟨r, b⟩ := y
        rw [hf] at h
        have hb := frameAt_bounds hf
        simp only [List.mem_cons] at h
        rcases h with rfl | h
        · exact hb.2.1
        · exact ih b x h
    · simp at h
end Go.Proofs.YtoglebfiobofoaaDoor.W
/- VarL: The walks of l01Var and l01In. -/
namespace Go.Proofs.YtoglebfiobofoaaDoor
set_option maxRecDepth 100000
open Go.RowKit

/-- What one round of the loop does to the row of bytes. -/
theorem step_byte {B n m : Nat} {l : List UInt8} {w wr w1 : World} {v v' : Value} {o : Obj} {x : Int} (hB : B ≤ wr.heap.size) (hx : x = (m % 128 + 128 : Nat))
    (hm : 127 < m) (hl : l.length + m ≤ n) (ht : l ++ W.vt m = W.vt n)
    (hown : wr.ownsRow B 5 1 v l.length (bv l)) (hb : Below B w wr)
    (hown' : w1.ownsRow B 5 1 v' (l.length + 1) (bv l ++ [.int .u8 x])) (hg : (wr.alloc o).grownBy w1 v.ownBlock) :
    ∃ l', l'.length + m / 128 ≤ n ∧ l' ++ W.vt (m / 128) = W.vt n ∧ w1.ownsRow B 5 1 v' l'.length (bv l') ∧ Below B w w1 := by
  refine ⟨l ++ [UInt8.ofNat (m % 128 + 128)], by simp; omega, by rw [← ht, W.vt_big m hm]; simp, ?_, ?_⟩
  · have e := byte_of x (by omega) (by omega)
    rw [e, bv_snoc] at hown'
    have : UInt8.ofNat x.toNat = UInt8.ofNat (m % 128 + 128) := by rw [hx]; rfl
    rw [this] at hown'
    simpa using hown'
  · exact (hb.alloc hB o).grown hg (by simp; omega) (fun j hj => by have := (hown.lt j hj).1; omega)
theorem last_byte {B n m : Nat} {l : List UInt8} {w wr w1 : World} {v v' : Value} {o : Obj} {x : Int} (hB : B ≤ wr.heap.size) (hx : x = m)
    (hm : m ≤ 127) (ht : l ++ W.vt m = W.vt n)
    (hown : wr.ownsRow B 5 1 v l.length (bv l)) (hb : Below B w wr)
    (hown' : w1.ownsRow B 5 1 v' (l.length + 1) (bv l ++ [.int .u8 x])) (hg : (wr.alloc o).grownBy w1 v.ownBlock) :
    (convert 59 9 v').run Tryd.prog w1 = .ok (.string ⟨(W.vt n).toArray⟩) w1 ∧ Below B w w1 := by
  refine ⟨?_, (hb.alloc hB o).grown hg (by simp; omega) (fun j hj => by have := (hown.lt j hj).1; omega)⟩
  have e := byte_of x (by omega) (by omega)
  rw [e, bv_snoc] at hown'
  have : UInt8.ofNat x.toNat = UInt8.ofNat m := by rw [hx]; rfl
  rw [this] at hown'
  have hn : W.vt n = l ++ [UInt8.ofNat m] := by rw [← ht, W.vt_small m hm]
  rw [hn]
  exact own_string (by simpa using hown')

set_option maxHeartbeats 400000 in
theorem l01Var_any (n : Nat) (w : World) (hn : n ≤ 1099511627776) :
    Calls Tryd.prog 28 #[.int .i64 n] w fun e w' => e = .returned (.string ⟨(W.vt n).toArray⟩) ∧ Below w.heap.size w w' := by
  obtain ⟨i0, hi, hz0, hz1, hz2⟩ := info_parts Tryd.info5
  go_enter Tryd.func28, Tryd.ntmps28
  go_wp2_with fail
  go_loopw [0, 3] (fun i v wr => ∃ (m : Nat) (l : List UInt8), i = .int .i64 m ∧ l.length + m ≤ n ∧ l ++ W.vt m = W.vt n ∧ wr.ownsRow w.heap.size 5 1 v l.length (bv l) ∧ Below w.heap.size w wr) (fun i _ _ => (intOf i).toNat)
  case atStart => exact ⟨n, [], rfl, by simp, rfl, World.ownsRow_made w #[] 0 (Nat.le_refl _) (by decide) rfl, (Below.refl _ _).alloc (Nat.le_refl _) _⟩
  case round =>
    obtain ⟨m, l, rfl, hl, ht, hown, hb⟩ := hrel
    have hB := hb.size
    have HT : Hid (l ++ W.vt m = W.vt n) := ht
    clear ht
    by_cases hm : 127 < m
    · go_wp2_with (at_builtin; refine wpList_append_own _ rfl _ _ 59 rfl w.heap.size 5 i0 (.int .u8 0) 1 1 Tryd.underlying59 hi hz0 hz1 hz2 rfl (by decide) _ _ _ rfl (hown.alloc _) ⟨wr.heap.size, 0, none⟩ 1 1 [.int .u8 _] rfl rfl (cell_one_new _ _ _) ?c2 ?c3 ?c4 ?c5 ?_)
      case c2 => intro u hu; simp at hu; subst hu; rfl
      case c3 => unfold maxLen; omega
      case c4 => omega
      case c5 => simp; omega
      · intro v' w1 hown' hgrow _
        obtain ⟨l', h1, h2, h3, h4⟩ := step_byte hB (by omega) hm hl HT.out hown hb hown' hgrow
        have H2 : Hid (l' ++ W.vt (m / 128) = W.vt n) := h2
        clear hown' hgrow hown h2
        go_wp2
        go_roundw
        case rel => exact ⟨m / 128, l', by go_num, h1, H2.out, h3, h4⟩
        case measure => simp [intOf]; omega
    · go_wp2_with (at_builtin; refine wpList_append_own _ rfl _ _ 59 rfl w.heap.size 5 i0 (.int .u8 0) 1 1 Tryd.underlying59 hi hz0 hz1 hz2 rfl (by decide) _ _ _ rfl (hown.alloc _) ⟨wr.heap.size, 0, none⟩ 1 1 [.int .u8 _] rfl rfl (cell_one_new _ _ _) ?c2 ?c3 ?c4 ?c5 ?_)
      case c2 => intro u hu; simp at hu; subst hu; rfl
      case c3 => unfold maxLen; omega
      case c4 => omega
      case c5 => simp; omega
      · intro v' w1 hown' hgrow _
        obtain ⟨hc, h4⟩ := last_byte hB (by omega) (by omega) HT.out hown hb hown' hgrow
        clear hown' hgrow hown
        go_wp2
        go_ret
        exact ⟨rfl, h4⟩

theorem l01Var_int (x : Int) (w : World) (h0 : 0 ≤ x) (h1 : x ≤ 1099511627776) :
    Calls Tryd.prog 28 #[.int .i64 x] w fun e w' => e = .returned (.string ⟨(W.vt x.toNat).toArray⟩) ∧ Below w.heap.size w w' := by
  obtain ⟨n, rfl⟩ := Int.eq_ofNat_of_zero_le h0
  exact l01Var_any n w (by omega)

theorem l01In_any (x a b : Int) (w : World) :
    Calls Tryd.prog 29 #[.int .i64 x, .int .i64 a, .int .i64 b] w fun e w' => e = .returned (.bool (decide (a ≤ x) && decide (x ≤ b))) ∧ w' = w := by
  by_cases h : a ≤ x
  · by_cases h' : x ≤ b
    · go_enter Tryd.func29, Tryd.ntmps29
      go_wp2
      go_ret
      exact ⟨by simp [h, h'], rfl⟩
    · go_enter Tryd.func29, Tryd.ntmps29
      go_wp2
      go_ret
      exact ⟨by simp [h'], rfl⟩
  · go_enter Tryd.func29, Tryd.ntmps29
    go_wp2
    go_ret
    exact ⟨by simp; omega, rfl⟩
end Go.Proofs.YtoglebfiobofoaaDoor
/- Var: The walks of the two VarText: each returns the bytes 'vt n'. -/
namespace Go.Proofs.YtoglebfiobofoaaDoor
set_option maxRecDepth 100000
open Go.RowKit

theorem implVarText_no (n : Int) (w : World) (hn : n < 0 ∨ 1000000000 < n) :
    Calls Tryd.prog 34 #[.int .i64 n] w fun e w' => e = .returned (.tuple #[.string ⟨#[]⟩, .bool false]) ∧ Below w.heap.size w w' := by
  rcases hn with h | h
  · go_enter Tryd.func34, Tryd.ntmps34
    go_wp2_with fail
    go_ret2
    exact ⟨rfl, Below.refl _ _⟩
  · have h0 : ¬ n < 0 := by omega
    go_enter Tryd.func34, Tryd.ntmps34
    go_wp2_with fail
    go_ret2
    exact ⟨rfl, Below.refl _ _⟩
set_option maxHeartbeats 400000 in
theorem implVarText_yes (n : Nat) (w : World) (hn : n ≤ 1000000000) :
    Calls Tryd.prog 34 #[.int .i64 n] w fun e w' => e = .returned (.tuple #[.string ⟨(W.vt n).toArray⟩, .bool true]) ∧ Below w.heap.size w w' := by
  obtain ⟨i0, hi, hz0, hz1, hz2⟩ := info_parts Tryd.info5
  have h1 : decide ((n : Int) < 0) = false := by simp
  have h2 : decide ((1000000000 : Int) < n) = false := by simp; omega
  go_enter Tryd.func34, Tryd.ntmps34
  go_wp2_with fail
  go_loopw [0, 4] (fun i v wr => ∃ (m : Nat) (l : List UInt8), i = .int .i64 m ∧ l.length + m ≤ n ∧ l ++ W.vt m = W.vt n ∧ wr.ownsRow w.heap.size 5 1 v l.length (bv l) ∧ Below w.heap.size w wr) (fun i _ _ => (intOf i).toNat)
  case atStart => exact ⟨n, [], rfl, by simp, rfl, World.ownsRow_nil w _ _ _, Below.refl _ _⟩
  case round =>
    obtain ⟨m, l, rfl, hl, ht, hown, hb⟩ := hrel
    have hB := hb.size
    have HT : Hid (l ++ W.vt m = W.vt n) := ht
    clear ht
    by_cases hm : 127 < m
    · go_wp2_with (at_builtin; refine wpList_append_own _ rfl _ _ 59 rfl w.heap.size 5 i0 (.int .u8 0) 1 1 Tryd.underlying59 hi hz0 hz1 hz2 rfl (by decide) _ _ _ rfl (hown.alloc _) ⟨wr.heap.size, 0, none⟩ 1 1 [.int .u8 _] rfl rfl (cell_one_new _ _ _) ?c2 ?c3 ?c4 ?c5 ?_)
      case c2 => intro u hu; simp at hu; subst hu; rfl
      case c3 => unfold maxLen; omega
      case c4 => omega
      case c5 => simp; omega
      · intro v' w1 hown' hgrow _
        obtain ⟨l', h1, h2, h3, h4⟩ := step_byte hB (by omega) hm hl HT.out hown hb hown' hgrow
        have H2 : Hid (l' ++ W.vt (m / 128) = W.vt n) := h2
        clear hown' hgrow hown h2
        go_wp2
        go_roundw
        case rel => exact ⟨m / 128, l', by go_num, h1, H2.out, h3, h4⟩
        case measure => simp [intOf]; omega
    · go_wp2_with (at_builtin; refine wpList_append_own _ rfl _ _ 59 rfl w.heap.size 5 i0 (.int .u8 0) 1 1 Tryd.underlying59 hi hz0 hz1 hz2 rfl (by decide) _ _ _ rfl (hown.alloc _) ⟨wr.heap.size, 0, none⟩ 1 1 [.int .u8 _] rfl rfl (cell_one_new _ _ _) ?c2 ?c3 ?c4 ?c5 ?_)
      case c2 => intro u hu; simp at hu; subst hu; rfl
      case c3 => unfold maxLen; omega
      case c4 => omega
      case c5 => simp; omega
      · intro v' w1 hown' hgrow _
        obtain ⟨hc, h4⟩ := last_byte hB (by omega) (by omega) HT.out hown hb hown' hgrow
        clear hown' hgrow hown
        go_wp2
        go_ret2
        exact ⟨rfl, h4⟩
end Go.Proofs.YtoglebfiobofoaaDoor
/- ReadVar: The walks of the two ReadVar: each returns what 'readVarI' says. -/
namespace Go.Proofs.YtoglebfiobofoaaDoor
set_option maxRecDepth 100000
open Go.RowKit
open Go.PlainAid (bt)
attribute [local go_sem ↓] Go.wp_at_zero Go.wp_at_succ

/-- What ReadVar hands back. -/
def rvV : Option (Nat × Nat) → Value
  | none => .tuple #[.int .i64 0, .int .i64 0, .bool false]
  | some (n, p) => .tuple #[.int .i64 n, .int .i64 p, .bool true]
theorem rvV_some {x y : Int} {p : Nat} (hx : 0 ≤ x) (hy : y = (p : Int)) : Value.tuple #[.int .i64 x, .int .i64 y, .bool true] = rvV (some (x.toNat, p)) := by
  have : ((x.toNat : Nat) : Int) = x := by omega
  simp only [rvV]; rw [this, hy]
theorem rvV_form : ∀ x, ∃ (p q : Int) (b : Bool), rvV x = .tuple #[.int .i64 p, .int .i64 q, .bool b]
  | none => ⟨0, 0, false, rfl⟩
  | some (n, p) => ⟨n, p, true, rfl⟩
def readVarI (s : ByteArray) (a : Int) : Option (Nat × Nat) := if 0 ≤ a ∧ a ≤ s.size then W.readVar s a.toNat else none

theorem implReadVar_no (s : ByteArray) (a : Int) (w : World) (h : a < 0 ∨ (s.size : Int) < a) :
    Calls Tryd.prog 55 #[.string s, .int .i64 a] w fun e w' => e = .returned (.tuple #[.int .i64 0, .int .i64 0, .bool false]) ∧ w' = w := by
  rcases h with h | h
  · go_enter Tryd.func55, Tryd.ntmps55
    go_wp2_with fail
    go_step3
    go_wp2_with fail
    try rw [Exit.noGoto_ret]
    go_ret3
    exact ⟨rfl, rfl⟩
  · have h0 : ¬ a < 0 := by omega
    go_enter Tryd.func55, Tryd.ntmps55
    go_wp2_with fail
    go_step3
    go_wp2_with fail
    try rw [Exit.noGoto_ret]
    go_ret3
    exact ⟨rfl, rfl⟩

set_option maxHeartbeats 400000 in
theorem implReadVar_yes (s : ByteArray) (a : Nat) (w : World) (hs : s.size ≤ 1048576) (ha : a ≤ s.size) :
    Calls Tryd.prog 55 #[.string s, .int .i64 a] w fun e w' => e = .returned (rvV (W.readVar s a)) ∧ w' = w := by
  have hb := Go.PlainAid.get_bt s
  have h1 : decide ((a : Int) < 0) = false := by simp
  have h2 : decide ((s.size : Int) < a) = false := by simp; omega
  go_enter Tryd.func55, Tryd.ntmps55
  go_wp2_with fail
  go_step3
  go_wp2_with fail
  go_step3
  go_wp2_with fail
  go_loop [7, 8, 9] (fun n c i => ∃ (j : Nat) (nn sc : Int), n = .int .i64 nn ∧ c = .int .i64 sc ∧ i = .int .i64 j ∧ W.RvRel s a j nn sc) (fun _ _ i => s.size - (intOf i).toNat)
  case atStart => exact ⟨a, 0, 1, rfl, rfl, rfl, W.RvRel.start s a ha⟩
  case round =>
    obtain ⟨j, nn, sc, rfl, rfl, rfl, hr⟩ := hrel
    obtain ⟨n0, n1, s0, s1, j0, j1, j2⟩ := hr.bounds
    by_cases hj : j < s.size
    · have b0 := Go.PlainAid.bt_nonneg s j
      have b1 := Go.PlainAid.bt_le s j
      by_cases hsc : 1000000000 < sc
      · have HR : Hid (W.readVar s a = none) := hr.five.2 hsc
        go_wp2
        go_ret3
        exact ⟨by rw [HR.out]; rfl, rfl⟩
      · by_cases hbb : 127 < bt s j
        · have hn := (hr.head hj (by omega) hbb).1
          have p0 : 0 ≤ (bt s j - 128) * sc := Int.mul_nonneg (by omega) (by omega)
          have p1 : (bt s j - 128) * sc ≤ 127 * 1000000000 := Int.mul_le_mul (by omega) (by omega) (by omega) (by omega)
          go_wp2
          go_round
          case rel => exact ⟨j + 1, _, _, rfl, rfl, by go_num, hn⟩
          case measure => simp [intOf]; omega
        · obtain ⟨q1, q2, q3⟩ := hr.last hj (by omega) (by omega)
          have p0 : 0 ≤ bt s j * sc := Int.mul_nonneg (by omega) (by omega)
          have p1 : bt s j * sc ≤ 127 * 1000000000 := Int.mul_le_mul (by omega) (by omega) (by omega) (by omega)
          by_cases hz : bt s j = 0
          · by_cases haj : a < j
            · have HR : Hid (W.readVar s a = none) := q1 hz haj
              clear q1 q2 q3
              go_wp2
              go_ret3
              exact ⟨by rw [HR.out]; rfl, rfl⟩
            · have HR : Hid (W.readVar s a = some (nn.toNat, j + 1)) := by
                have := q3 (.inr (by omega)) (by rw [hz]; omega)
                rw [hz] at this
                show W.readVar s a = some (nn.toNat, j + 1)
                simpa using this
              have hm : nn ≤ 1000000000 := by omega
              clear q1 q2 q3
              go_wp2
              go_ret3
              refine ⟨?_, rfl⟩
              rw [HR.out]
              exact congrArg Ending.returned (rvV_some n0 (by omega))
          · by_cases hm : 1000000000 < nn + bt s j * sc
            · have HR : Hid (W.readVar s a = none) := q2 hm
              clear q1 q2 q3
              go_wp2
              go_ret3
              exact ⟨by rw [HR.out]; rfl, rfl⟩
            · have HR : Hid (W.readVar s a = some ((nn + bt s j * sc).toNat, j + 1)) := q3 (.inl hz) (by omega)
              clear q1 q2 q3
              go_wp2
              go_ret3
              refine ⟨?_, rfl⟩
              rw [HR.out]
              exact congrArg Ending.returned (rvV_some (by omega) (by omega))
    · have HR : Hid (W.readVar s a = none) := hr.over (by omega)
      go_wp2
      go_ret3
      exact ⟨by rw [HR.out]; rfl, rfl⟩

theorem specReadVar_no (s : ByteArray) (a : Int) (w : World) (h : a < 0 ∨ (s.size : Int) < a) :
    Calls Tryd.prog 37 #[.string s, .int .i64 a] w fun e w' => e = .returned (.tuple #[.int .i64 0, .int .i64 0, .bool false]) ∧ Below w.heap.size w w' := by
  have h : (decide ((0 : Int) ≤ a) && decide (a ≤ s.size)) = false := by
    rcases h with h | h
    · simp; omega
    · simp; omega
  go_enter Tryd.func37, Tryd.ntmps37
  go_wp2_with fail
  refine (l01In_any _ _ _ _).mono ?_
  rw [h]
  rintro e w' ⟨rfl, rfl⟩
  go_wp2_with fail
  go_ret3
  exact ⟨rfl, Below.refl _ _⟩

set_option maxHeartbeats 1000000 in
theorem specReadVar_yes (s : ByteArray) (a : Nat) (w : World) (hs : s.size ≤ 1048576) (ha : a ≤ s.size) :
    Calls Tryd.prog 37 #[.string s, .int .i64 a] w fun e w' => e = .returned (rvV (W.readVar s a)) ∧ Below w.heap.size w w' := by
  have hb := Go.PlainAid.get_bt s
  have h1 : decide ((0 : Int) ≤ a) = true := by simp
  have h2 : decide ((a : Int) ≤ s.size) = true := by simp; omega
  go_enter Tryd.func37, Tryd.ntmps37
  go_wp2_with fail
  refine (l01In_any _ _ _ _).mono ?_
  rintro e w' ⟨rfl, rfl⟩
  go_wp2_with fail
  go_loop [7, 8, 9] (fun n c i => ∃ (j : Nat) (nn sc : Int), n = .int .i64 nn ∧ c = .int .i64 sc ∧ i = .int .i64 j ∧ W.RvRel s a j nn sc) (fun _ _ i => s.size - (intOf i).toNat)
  case atStart => exact ⟨a, 0, 1, rfl, rfl, rfl, W.RvRel.start s a ha⟩
  case round =>
    obtain ⟨j, nn, sc, rfl, rfl, rfl, hr⟩ := hrel
    obtain ⟨n0, n1, s0, s1, j0, j1, j2⟩ := hr.bounds
    by_cases hj : j < s.size
    · have b0 := Go.PlainAid.bt_nonneg s j
      have b1 := Go.PlainAid.bt_le s j
      by_cases hsc : j < a + 5
      · have hsc1 : sc ≤ 1000000000 := by have := hr.five.1; omega
        have p0 : 0 ≤ bt s j % 128 * sc := Int.mul_nonneg (by omega) (by omega)
        have p1 : bt s j % 128 * sc ≤ 127 * 1000000000 := Int.mul_le_mul (by omega) (by omega) (by omega) (by omega)
        by_cases hbb : bt s j < 128
        · obtain ⟨q1, q2⟩ := hr.same hj hsc1 (by omega)
          by_cases hm : 1000000000 < nn + bt s j % 128 * sc
          · have HR : Hid (W.readVar s a = none) := q1 hm
            clear q1 q2
            have hmd : decide (1000000000 < nn + bt s j % 128 * sc) = true := by simpa using hm
            go_wp2_with fail
            go_quiet (fail)
            go_wp2_with fail
            go_ret3
            exact ⟨by rw [HR.out]; rfl, below_drewN (Below.refl _ _) _⟩
          · have HR : Hid _ := q2 (by omega)
            clear q1 q2
            have hmd : decide (1000000000 < nn + bt s j % 128 * sc) = false := by simpa using hm
            have hp0 : (0 : Int) ≤ nn + bt s j % 128 * sc := by omega
            have hp1 : nn + bt s j % 128 * sc ≤ 1099511627776 := by omega
            have hj1 : (0 : Int) ≤ (a : Int) := by omega
            have hj2 : (a : Int) ≤ (j : Int) + 1 := by omega
            have hj3 : (j : Int) + 1 ≤ (s.size : Int) := by omega
            have hwr : IntKind.i64.wrap ((j : Int) + 1) = (j : Int) + 1 := IntWalk.i64_in _ ⟨by omega, by omega⟩
            have hsl := slice_str s a (j + 1) (by omega) (by omega)
            rw [show ((j + 1 : Nat) : Int) = (j : Int) + 1 from by omega] at hsl
            go_wp2_with fail
            go_region_held3 (fun _ => True) (exact trivial) ((go_at_call 28; refine (l01Var_int _ _ hp0 hp1).mono ?_; rintro e w1 ⟨rfl, hb1⟩))
            all_goals go_wp2_with fail
            · have hne : (!W.vt (nn + bt s j % 128 * sc).toNat == (s.extract a (j + 1)).toList) = true := by assumption
              go_ret3
              refine ⟨?_, Below.trans (Below.drew (Below.refl _ _)) hb1⟩
              rw [HR.out, if_neg (by rw [← Go.ByteArray.toList_eq]; simpa using hne)]
              rfl
            · have heq : (!W.vt (nn + bt s j % 128 * sc).toNat == (s.extract a (j + 1)).toList) = false := by assumption
              go_ret3
              refine ⟨?_, Below.trans (Below.drew (Below.refl _ _)) hb1⟩
              rw [HR.out, if_pos (by rw [← Go.ByteArray.toList_eq]; simpa using heq)]
              exact congrArg Ending.returned (rvV_some (by omega) (by omega))
        · have hn := (hr.head hj hsc1 (by omega)).2
          go_wp2
          go_round
          case rel => exact ⟨j + 1, _, _, rfl, rfl, by go_num, hn⟩
          case measure => simp [intOf]; omega
      · have HR : Hid (W.readVar s a = none) := hr.five.2 (by have := hr.five.1; omega)
        go_wp2
        go_ret3
        exact ⟨by rw [HR.out]; rfl, Below.refl _ _⟩
    · have HR : Hid (W.readVar s a = none) := hr.over (by omega)
      go_wp2
      go_ret3
      exact ⟨by rw [HR.out]; rfl, Below.refl _ _⟩

theorem readVarI_bounds {s : ByteArray} {a : Int} {m p : Nat} (h : readVarI s a = some (m, p)) : m ≤ 1000000000 ∧ p ≤ s.size := by
  unfold readVarI at h
  split at h
  · rename_i ha
    exact W.readVar_bounds (by omega) h
  · simp at h
theorem implReadVar (s : ByteArray) (a : Int) (w : World) (hs : s.size ≤ 1048576) :
    Calls Tryd.prog 55 #[.string s, .int .i64 a] w fun e w' => e = .returned (rvV (readVarI s a)) ∧ w' = w := by
  by_cases h : 0 ≤ a ∧ a ≤ s.size
  · obtain ⟨n, rfl⟩ := Int.eq_ofNat_of_zero_le h.1
    have e : readVarI s n = W.readVar s n := by unfold readVarI; rw [if_pos h]; rfl
    rw [e]; exact implReadVar_yes s n w hs (by omega)
  · have e : readVarI s a = none := by unfold readVarI; rw [if_neg h]
    rw [e]; exact implReadVar_no s a w (by omega)
theorem specReadVar (s : ByteArray) (a : Int) (w : World) (hs : s.size ≤ 1048576) :
    Calls Tryd.prog 37 #[.string s, .int .i64 a] w fun e w' => e = .returned (rvV (readVarI s a)) ∧ Below w.heap.size w w' := by
  by_cases h : 0 ≤ a ∧ a ≤ s.size
  · obtain ⟨n, rfl⟩ := Int.eq_ofNat_of_zero_le h.1
    have e : readVarI s n = W.readVar s n := by unfold readVarI; rw [if_pos h]; rfl
    rw [e]; exact specReadVar_yes s n w hs (by omega)
  · have e : readVarI s a = none := by unfold readVarI; rw [if_neg h]
    rw [e]; exact specReadVar_no s a w (by omega)
end Go.Proofs.YtoglebfiobofoaaDoor
/- FrA: The walks of the two Frame, and of the program's own reader of one frame. -/
namespace Go.Proofs.YtoglebfiobofoaaDoor
set_option maxRecDepth 100000
open Go.RowKit
open W (B32)
attribute [local go_sem ↓] Go.wp_at_zero Go.wp_at_succ

/-- A record in its frame. -/
def frameB (s : ByteArray) : ByteArray := (⟨(W.vt s.size).toArray⟩ ++ fourB (W.sumOf s)) ++ s
/-- What Frame answers. -/
def frV (s : ByteArray) : Value := if 1 ≤ s.size ∧ s.size ≤ 9000 then .tuple #[.string (frameB s), .bool true] else .tuple #[.string ⟨#[]⟩, .bool false]
theorem specFrame_no (s : ByteArray) (w : World) (h : ¬ (1 ≤ s.size ∧ s.size ≤ 9000)) :
    Calls Tryd.prog 18 #[.string s] w fun e w' => e = .returned (.tuple #[.string ⟨#[]⟩, .bool false]) ∧ Below w.heap.size w w' := by
  have hd : (decide ((1 : Int) ≤ (s.size : Int)) && decide ((s.size : Int) ≤ 9000)) = false := by
    simp only [Bool.and_eq_false_iff, decide_eq_false_iff_not]; omega
  go_enter Tryd.func18, Tryd.ntmps18
  go_wp2_with fail
  refine (l01In_any _ _ _ _).mono ?_
  rw [hd]
  rintro e w' ⟨rfl, rfl⟩
  go_wp2_with fail
  go_ret2
  exact ⟨rfl, Below.refl _ _⟩
theorem implFrame_no (s : ByteArray) (w : World) (h : ¬ (1 ≤ s.size ∧ s.size ≤ 9000)) :
    Calls Tryd.prog 20 #[.string s] w fun e w' => e = .returned (.tuple #[.string ⟨#[]⟩, .bool false]) ∧ Below w.heap.size w w' := by
  by_cases h1 : s.size < 1
  · have h1' : (s.size : Int) < 1 := by omega
    go_enter Tryd.func20, Tryd.ntmps20
    go_wp2_with fail
    go_ret2
    exact ⟨rfl, Below.refl _ _⟩
  · have h1' : ¬ (s.size : Int) < 1 := by omega
    have h2' : (9000 : Int) < (s.size : Int) := by omega
    go_enter Tryd.func20, Tryd.ntmps20
    go_wp2_with fail
    go_ret2
    exact ⟨rfl, Below.refl _ _⟩
theorem specFrame_yes (s : ByteArray) (w : World) (h : 1 ≤ s.size ∧ s.size ≤ 9000) :
    Calls Tryd.prog 18 #[.string s] w fun e w' => e = .returned (.tuple #[.string (frameB s), .bool true]) ∧ Below w.heap.size w w' := by
  have h1 : decide ((1 : Int) ≤ (s.size : Int)) = true := by simp; omega
  have h2 : decide ((s.size : Int) ≤ 9000) = true := by simp; omega
  have hl := W.vt_len s.size
  have hz := fourB_size (W.sumOf s)
  obtain ⟨hs1, hs2⟩ := h
  go_enter Tryd.func18, Tryd.ntmps18
  go_wp2_with fail
  refine (l01In_any _ _ _ _).mono ?_
  rw [h1, h2]
  rintro e w' ⟨rfl, rfl⟩
  go_wp2_with fail
  refine (l01Var_any s.size _ (by omega)).mono ?_
  rintro e w1 ⟨rfl, hb1⟩
  go_wp2_with fail
  refine (specSumOf s _ (by omega)).mono ?_
  rintro e w2 ⟨rfl, rfl⟩
  go_wp2_with fail
  refine (specFour (W.sumOf s) _).mono ?_
  rintro e w3 ⟨rfl, hb3⟩
  have hb := hb1.trans (hb3.mono hb1.size)
  go_wp2_with fail
  go_ret2
  exact ⟨rfl, hb⟩
theorem implFrame_yes (s : ByteArray) (w : World) (ht : SumTab w) (h : 1 ≤ s.size ∧ s.size ≤ 9000) :
    Calls Tryd.prog 20 #[.string s] w fun e w' => e = .returned (.tuple #[.string (frameB s), .bool true]) ∧ Below w.heap.size w w' := by
  have HT : Hid (SumTab w) := ht
  clear ht
  have hw := u32_wrap (W.sumOf s)
  have hl := W.vt_len s.size
  have hz := fourB_size (W.sumOf s)
  obtain ⟨hs1, hs2⟩ := h
  have h1' : ¬ (s.size : Int) < 1 := by omega
  have h2' : ¬ (9000 : Int) < (s.size : Int) := by omega
  go_enter Tryd.func20, Tryd.ntmps20
  go_wp2_with fail
  refine (implVarText_yes s.size _ (by omega)).mono ?_
  rintro e w1 ⟨rfl, hb1⟩
  go_wp2_with fail
  refine (implSumOf s _ (HT.out.stays hb1) (by omega)).mono ?_
  rintro e w2 ⟨rfl, rfl⟩
  go_wp2_with fail
  refine (implFour (W.sumOf s) _).mono ?_
  rintro e w3 ⟨rfl, hb3⟩
  have hb := hb1.trans (hb3.mono hb1.size)
  go_wp2_with fail
  go_ret2
  exact ⟨rfl, hb⟩
theorem specFrame (s : ByteArray) (w : World) : Calls Tryd.prog 18 #[.string s] w fun e w' => e = .returned (frV s) ∧ Below w.heap.size w w' := by
  unfold frV
  by_cases h : 1 ≤ s.size ∧ s.size ≤ 9000
  · rw [if_pos h]; exact specFrame_yes s w h
  · rw [if_neg h]; exact specFrame_no s w h
theorem implFrame (s : ByteArray) (w : World) (ht : SumTab w) : Calls Tryd.prog 20 #[.string s] w fun e w' => e = .returned (frV s) ∧ Below w.heap.size w w' := by
  unfold frV
  by_cases h : 1 ≤ s.size ∧ s.size ≤ 9000
  · rw [if_pos h]; exact implFrame_yes s w ht h
  · rw [if_neg h]; exact implFrame_no s w h

/-- What the reader of one frame answers. -/
def faV : Option (ByteArray × Nat) → Value
  | none => .tuple #[.string ⟨#[]⟩, .int .i64 0, .bool false]
  | some (r, b) => .tuple #[.string r, .int .i64 b, .bool true]
theorem rv_some {n p : Nat} : rvV (some (n, p)) = .tuple #[.int .i64 n, .int .i64 p, .bool true] := rfl
theorem rv_none : rvV none = .tuple #[.int .i64 0, .int .i64 0, .bool false] := rfl

theorem frameAt_no1 (s : ByteArray) (a : Nat) (w : World) (hs : s.size ≤ 20000) (ha : a ≤ s.size) (h : W.readVar s a = none) :
    Calls Tryd.prog 48 #[.string s, .int .i64 a] w fun e w' => e = .returned (faV none) ∧ Below w.heap.size w w' := by
  have HR : Hid _ := h
  clear h
  go_enter Tryd.func48, Tryd.ntmps48
  go_wp2_with fail
  refine (implReadVar_yes s a _ (by omega) ha).mono ?_
  rw [HR.out, rv_none]
  rintro e w1 ⟨rfl, rfl⟩
  go_wp2_with fail
  go_ret3
  exact ⟨rfl, Below.refl _ _⟩
theorem frameAt_no2 (s : ByteArray) (a n p : Nat) (w : World) (hs : s.size ≤ 20000) (ha : a ≤ s.size) (h : W.readVar s a = some (n, p)) (hp : p ≤ s.size) (hm : n ≤ 1000000000) (hn : n < 1 ∨ 9000 < n ∨ s.size < p + 4 + n) :
    Calls Tryd.prog 48 #[.string s, .int .i64 a] w fun e w' => e = .returned (faV none) ∧ Below w.heap.size w w' := by
  have HR : Hid _ := h
  clear h
  by_cases h1 : n < 1
  · have h1' : (n : Int) < 1 := by omega
    go_enter Tryd.func48, Tryd.ntmps48
    go_wp2_with fail
    refine (implReadVar_yes s a _ (by omega) ha).mono ?_
    rw [HR.out, rv_some]
    rintro e w1 ⟨rfl, rfl⟩
    go_wp2_with fail
    go_ret3
    exact ⟨rfl, Below.refl _ _⟩
  · have h1' : ¬ (n : Int) < 1 := by omega
    by_cases h2 : 9000 < n
    · have h2' : (9000 : Int) < (n : Int) := by omega
      go_enter Tryd.func48, Tryd.ntmps48
      go_wp2_with fail
      refine (implReadVar_yes s a _ (by omega) ha).mono ?_
      rw [HR.out, rv_some]
      rintro e w1 ⟨rfl, rfl⟩
      go_wp2_with fail
      go_ret3
      exact ⟨rfl, Below.refl _ _⟩
    · have h2' : ¬ (9000 : Int) < (n : Int) := by omega
      have h3' : (s.size : Int) - (p : Int) - 4 < (n : Int) := by omega
      go_enter Tryd.func48, Tryd.ntmps48
      go_wp2_with fail
      refine (implReadVar_yes s a _ (by omega) ha).mono ?_
      rw [HR.out, rv_some]
      rintro e w1 ⟨rfl, rfl⟩
      go_wp2_with fail
      go_ret3
      exact ⟨rfl, Below.refl _ _⟩
theorem cut_rec (s : ByteArray) (p n : Nat) (h : p + 4 + n ≤ s.size) (w : World) : (Instr.slice 9 (.string s) (some (.int .i64 ((p : Int) + 4))) (some (.int .i64 ((p : Int) + 4 + (n : Int)))) none).run Tryd.prog w = .ok (.string (s.extract (p + 4) (p + 4 + n))) w := by
  have := slice_str s (p + 4) (p + 4 + n) (by omega) h w
  rw [show ((p + 4 + n : Nat) : Int) = (p : Int) + 4 + (n : Int) by omega, show ((p + 4 : Nat) : Int) = (p : Int) + 4 by omega] at this
  exact this
theorem cut_sum (s : ByteArray) (p : Nat) (h : p + 4 ≤ s.size) (w : World) : (Instr.slice 9 (.string s) (some (.int .i64 (p : Int))) (some (.int .i64 ((p : Int) + 4))) none).run Tryd.prog w = .ok (.string (s.extract p (p + 4))) w := by
  have := slice_str s p (p + 4) (by omega) h w
  rw [show ((p + 4 : Nat) : Int) = (p : Int) + 4 by omega] at this
  exact this
set_option maxHeartbeats 1000000 in
theorem frameAt_no3 (s : ByteArray) (a n p : Nat) (w : World) (ht : SumTab w) (hs : s.size ≤ 20000) (ha : a ≤ s.size) (h : W.readVar s a = some (n, p)) (h1 : 1 ≤ n) (h2 : n ≤ 9000) (h3 : p + 4 + n ≤ s.size)
    (h4 : fourB (W.sumOf (s.extract (p + 4) (p + 4 + n))) ≠ s.extract p (p + 4)) :
    Calls Tryd.prog 48 #[.string s, .int .i64 a] w fun e w' => e = .returned (faV none) ∧ Below w.heap.size w w' := by
  have HR : Hid _ := h
  clear h
  have h1' : ¬ (n : Int) < 1 := by omega
  have h2' : ¬ (9000 : Int) < (n : Int) := by omega
  have h3' : ¬ (s.size : Int) - (p : Int) - 4 < (n : Int) := by omega
  have c1 := cut_rec s p n h3
  have c2 := cut_sum s p (by omega)
  have hal : (s.extract (p + 4) (p + 4 + n)).size ≤ 1048576 := by simp; omega
  generalize s.extract (p + 4) (p + 4 + n) = r at *
  generalize s.extract p (p + 4) = z at *
  have hw := u32_wrap (W.sumOf r)
  have hne := bytes_ne h4
  go_enter Tryd.func48, Tryd.ntmps48
  go_wp2_with fail
  refine (implReadVar_yes s a _ (by omega) ha).mono ?_
  rw [HR.out, rv_some]
  rintro e w1 ⟨rfl, rfl⟩
  go_wp2_with fail
  go_region_held3 (fun w' => SumTab w') (first | assumption | (exact SumTab.stays (by assumption) hb) | go_keep) (first
    | (go_at_call 35; refine (implSumOf r _ (by assumption) hal).mono ?_; rintro e w1 ⟨rfl, rfl⟩)
    | (go_at_call 36; refine (implFour (W.sumOf r) _).mono ?_; rintro e w2 ⟨rfl, hb⟩))
  all_goals go_wp2_with fail
  all_goals
    go_ret3
    exact ⟨rfl, (Below.drew (Below.refl _ _)).trans hb⟩
set_option maxHeartbeats 1000000 in
theorem frameAt_yes (s : ByteArray) (a n p : Nat) (w : World) (ht : SumTab w) (hs : s.size ≤ 20000) (ha : a ≤ s.size) (h : W.readVar s a = some (n, p)) (h1 : 1 ≤ n) (h2 : n ≤ 9000) (h3 : p + 4 + n ≤ s.size)
    (h4 : fourB (W.sumOf (s.extract (p + 4) (p + 4 + n))) = s.extract p (p + 4)) :
    Calls Tryd.prog 48 #[.string s, .int .i64 a] w fun e w' => e = .returned (faV (some (s.extract (p + 4) (p + 4 + n), p + 4 + n))) ∧ Below w.heap.size w w' := by
  have HR : Hid _ := h
  clear h
  have h1' : ¬ (n : Int) < 1 := by omega
  have h2' : ¬ (9000 : Int) < (n : Int) := by omega
  have h3' : ¬ (s.size : Int) - (p : Int) - 4 < (n : Int) := by omega
  have c1 := cut_rec s p n h3
  have c2 := cut_sum s p (by omega)
  have hal : (s.extract (p + 4) (p + 4 + n)).size ≤ 1048576 := by simp; omega
  generalize s.extract (p + 4) (p + 4 + n) = r at *
  generalize s.extract p (p + 4) = z at *
  subst h4
  have hw := u32_wrap (W.sumOf r)
  go_enter Tryd.func48, Tryd.ntmps48
  go_wp2_with fail
  refine (implReadVar_yes s a _ (by omega) ha).mono ?_
  rw [HR.out, rv_some]
  rintro e w1 ⟨rfl, rfl⟩
  go_wp2_with fail
  go_region_held3 (fun w' => SumTab w') (first | assumption | (exact SumTab.stays (by assumption) hb) | go_keep) (first
    | (go_at_call 35; refine (implSumOf r _ (by assumption) hal).mono ?_; rintro e w1 ⟨rfl, rfl⟩)
    | (go_at_call 36; refine (implFour (W.sumOf r) _).mono ?_; rintro e w2 ⟨rfl, hb⟩))
  all_goals go_wp2_with fail
  all_goals
    refine (strCloneS r _ (by omega)).mono ?_
    rintro e w3 ⟨rfl, hb3⟩
    go_wp2_with fail
    go_ret3
    exact ⟨rfl, (Below.drew (Below.refl _ _)).trans (hb.trans (hb3.mono hb.size))⟩
theorem implFrameAt (s : ByteArray) (a : Nat) (w : World) (ht : SumTab w) (hs : s.size ≤ 20000) (ha : a ≤ s.size) :
    Calls Tryd.prog 48 #[.string s, .int .i64 a] w fun e w' => e = .returned (faV (W.frameAt s a)) ∧ Below w.heap.size w w' := by
  unfold W.frameAt
  cases h : W.readVar s a with
  | none => exact frameAt_no1 s a w hs ha h
  | some x =>
    obtain ⟨n, p⟩ := x
    simp only
    have hb := W.readVar_bounds ha h
    by_cases hc : 1 ≤ n ∧ n ≤ 9000 ∧ p + 4 + n ≤ s.size
    · by_cases h4 : fourB (W.sumOf (s.extract (p + 4) (p + 4 + n))) = s.extract p (p + 4)
      · rw [if_pos ⟨hc.1, hc.2.1, hc.2.2, h4⟩]; exact frameAt_yes s a n p w ht hs ha h hc.1 hc.2.1 hc.2.2 h4
      · rw [if_neg (fun e => h4 e.2.2.2)]; exact frameAt_no3 s a n p w ht hs ha h hc.1 hc.2.1 hc.2.2 h4
    · rw [if_neg (fun e => hc ⟨e.1, e.2.1, e.2.2.1⟩)]; exact frameAt_no2 s a n p w hs ha h hb.2 hb.1 (by omega)
end Go.Proofs.YtoglebfiobofoaaDoor
/- StrsA: Slices of strings: how they are held against each other. -/
namespace Go.Proofs.YtoglebfiobofoaaDoor
set_option maxRecDepth 100000
open Go.RowKit

theorem drewN_two (w : World) (a b : Nat) : (w.drewN a).drewN b = w.drewN (a + b) := by simp [World.drewN, Nat.add_assoc]
/-- A slice of strings, as it reads. -/
def SRow (w : World) (a : Option Addr) (xs : List ByteArray) : Prop :=
  0 < xs.length → ∃ g, a = some ⟨g, 0, none⟩ ∧ g < w.heap.size ∧ ∀ j, j < xs.length → w.cell? ⟨g, j, none⟩ = some (.string (xs.getD j ⟨#[]⟩))

def eqS (xs ys : List ByteArray) : Bool := decide (xs = ys)
theorem eqS_len (xs ys : List ByteArray) (h : xs.length ≠ ys.length) : eqS xs ys = false := by
  unfold eqS; rw [decide_eq_false]; intro e; rw [e] at h; exact h rfl
/-- The first k are the same. -/
def sameTo (xs ys : List ByteArray) (k : Nat) : Prop := ∀ j, j < k → xs.getD j ⟨#[]⟩ = ys.getD j ⟨#[]⟩
theorem eqS_yes (xs ys : List ByteArray) (h : xs.length = ys.length) (hs : sameTo xs ys xs.length) : eqS xs ys = true := by
  unfold eqS; rw [decide_eq_true]
  apply List.ext_getElem h
  intro j h1 h2
  have := hs j h1
  simpa [List.getD, h1, h2] using this
theorem eqS_no (xs ys : List ByteArray) (k : Nat) (h : xs.getD k ⟨#[]⟩ ≠ ys.getD k ⟨#[]⟩) : eqS xs ys = false := by
  unfold eqS; rw [decide_eq_false]; intro e; rw [e] at h; exact h rfl
theorem sameTo_step (xs ys : List ByteArray) (k : Nat) (h : sameTo xs ys k) (hk : xs.getD k ⟨#[]⟩ = ys.getD k ⟨#[]⟩) : sameTo xs ys (k + 1) := by
  intro j hj
  by_cases e : j = k
  · subst e; exact hk
  · exact h j (by omega)

end Go.Proofs.YtoglebfiobofoaaDoor
/- DecM: Plain facts on figures: 'dg n' are the figures of n (none of 0), 'decS n' those that Decimal writes; the two ways of reading them back are one. -/
namespace Go.Proofs.YtoglebfiobofoaaDoor.W

def dgF : Nat → Nat → List UInt8
  | 0, _ => []
  | f + 1, n => if n = 0 then [] else dgF f (n / 10) ++ [UInt8.ofNat (48 + n % 10)]
def dg (n : Nat) : List UInt8 := dgF n n
theorem dgF_enough : ∀ (f g n : Nat), n ≤ f → n ≤ g → dgF f n = dgF g n
  | 0, 0, _, _, _ => rfl
  | 0, g + 1, n, h, _ => by have : n = 0 := by omega
                            subst this; simp [dgF]
  | f + 1, 0, n, _, h => by have : n = 0 := by omega
                            subst this; simp [dgF]
  | f + 1, g + 1, n, h1, h2 => by
    unfold dgF
    by_cases h : n = 0
    · rw [if_pos h, if_pos h]
    · rw [if_neg h, if_neg h, dgF_enough f g (n / 10) (by omega) (by omega)]
theorem dg_zero : dg 0 = [] := rfl
theorem dg_step (n : Nat) (h : 0 < n) : dg n = dg (n / 10) ++ [UInt8.ofNat (48 + n % 10)] := by
  unfold dg
  match n, h with
  | k + 1, _ => rw [dgF, if_neg (by omega), dgF_enough k ((k + 1) / 10) ((k + 1) / 10) (by omega) (by omega)]
def decS (n : Nat) : List UInt8 := if n = 0 then [48] else dg n
theorem dg_len : ∀ (k n : Nat), n < 10 ^ k → (dg n).length ≤ k
  | 0, n, h => by have : n = 0 := by simpa using h
                  subst this; simp [dg_zero]
  | k + 1, n, h => by
    by_cases hn : n = 0
    · subst hn; simp [dg_zero]
    · rw [dg_step n (by omega)]
      have := dg_len k (n / 10) (by rw [Nat.pow_succ] at h; omega)
      simp; omega
/-- No figures begin with a nought. -/
theorem dg_head : ∀ (f n : Nat), n ≤ f → (dg n).head? ≠ some 48
  | 0, n, h => by have : n = 0 := by omega
                  subst this; simp [dg_zero]
  | f + 1, n, h => by
    by_cases hn : n = 0
    · subst hn; simp [dg_zero]
    · rw [dg_step n (by omega)]
      by_cases h10 : n / 10 = 0
      · rw [h10, dg_zero]
        simp
        intro e
        have := congrArg UInt8.toNat e
        simp at this
        omega
      · have ih := dg_head f (n / 10) (by omega)
        have hne : dg (n / 10) ≠ [] := by rw [dg_step _ (by omega)]; simp
        cases hc : dg (n / 10) with
        | nil => exact absurd hc hne
        | cons a r => rw [hc] at ih; simpa using ih

abbrev isFig (c : UInt8) : Prop := 48 ≤ c.toNat ∧ c.toNat ≤ 57
def numV (l : List UInt8) : Nat := l.foldl (fun n c => 10 * n + (c.toNat - 48)) 0
theorem numV_snoc (l : List UInt8) (c : UInt8) : numV (l ++ [c]) = 10 * numV l + (c.toNat - 48) := by simp [numV]
theorem foldl_le (l : List UInt8) : ∀ n : Nat, n ≤ l.foldl (fun n c => 10 * n + (c.toNat - 48)) n := by
  induction l with
  | nil => intro n; simp
  | cons c l ih => intro n; simp only [List.foldl_cons]; have := ih (10 * n + (c.toNat - 48)); omega
theorem numV_app (l r : List UInt8) : numV l ≤ numV (l ++ r) := by
  unfold numV; rw [List.foldl_append]; exact foldl_le r _
theorem numV_bd : ∀ (l : List UInt8) (n : Nat), (∀ c ∈ l, isFig c) → l.foldl (fun n c => 10 * n + (c.toNat - 48)) n + 1 ≤ (n + 1) * 10 ^ l.length
  | [], n, _ => by simp
  | c :: l, n, h => by
    have hc := h c (by simp)
    have := numV_bd l (10 * n + (c.toNat - 48)) (fun x hx => h x (by simp [hx]))
    simp only [List.foldl_cons, List.length_cons, Nat.pow_succ]
    have h2 : (10 * n + (c.toNat - 48) + 1) * 10 ^ l.length ≤ ((n + 1) * 10) * 10 ^ l.length := Nat.mul_le_mul_right _ (by unfold isFig at hc; omega)
    have h3 : (n + 1) * 10 * 10 ^ l.length = (n + 1) * (10 ^ l.length * 10) := by rw [Nat.mul_assoc, Nat.mul_comm 10]
    omega
theorem numV_lt (l : List UInt8) (h : ∀ c ∈ l, isFig c) : numV l < 10 ^ l.length := by
  have := numV_bd l 0 h
  unfold numV; omega

/-- What ReadDecimal answers. -/
def rdS (l : List UInt8) : Option Nat :=
  if l.length ≤ 10 ∧ (∀ c ∈ l, isFig c) ∧ numV l ≤ 1000000000 ∧ decS (numV l) = l then some (numV l) else none

theorem rdS_no (l : List UInt8) (h : ¬ (l.length ≤ 10 ∧ (∀ c ∈ l, isFig c) ∧ numV l ≤ 1000000000 ∧ decS (numV l) = l)) : rdS l = none := by
  unfold rdS; rw [if_neg h]
theorem rdS_yes (l : List UInt8) (h1 : l.length ≤ 10) (h2 : ∀ c ∈ l, isFig c) (h3 : numV l ≤ 1000000000) (h4 : decS (numV l) = l) : rdS l = some (numV l) := by
  unfold rdS; rw [if_pos ⟨h1, h2, h3, h4⟩]
theorem rdS_nil : rdS [] = none := rdS_no _ (by rintro ⟨_, _, _, h⟩; simp [numV, decS] at h)
theorem rdS_bad (p r : List UInt8) (c : UInt8) (h : ¬ isFig c) : rdS (p ++ c :: r) = none := rdS_no _ (fun x => h (x.2.1 c (by simp)))
theorem rdS_great (p r : List UInt8) (h : 1000000000 < numV p) : rdS (p ++ r) = none := rdS_no _ (fun x => by have := numV_app p r; have := x.2.2.1; omega)
theorem rdS_nought (r : List UInt8) (h : r ≠ []) : rdS (48 :: r) = none := rdS_no _ (fun x => by
  have h4 := x.2.2.2
  unfold decS at h4
  split at h4
  · simp at h4; exact h h4
  · have := dg_head _ _ (Nat.le_refl (numV (48 :: r)))
    rw [h4] at this
    simp at this)

/-- Figures read so far, with no needless nought. -/
def good (p : List UInt8) : Prop := (∀ c ∈ p, isFig c) ∧ (p = [] ∨ p = [48] ∨ (0 < numV p ∧ dg (numV p) = p))
theorem good_nil : good [] := ⟨fun _ h => by simp at h, .inl rfl⟩
theorem fig_byte (c : UInt8) (h : isFig c) : UInt8.ofNat (48 + (c.toNat - 48)) = c := by
  unfold isFig at h
  have : 48 + (c.toNat - 48) = c.toNat := by omega
  rw [this]; simp
theorem good_step (p : List UInt8) (c : UInt8) (hp : good p) (hc : isFig c) (h0 : p = [] ∨ 0 < numV p) : good (p ++ [c]) := by
  have h0c : (∀ x ∈ p ++ [c], isFig x) := by
    intro x hx
    rcases List.mem_append.1 hx with h | h
    · exact hp.1 x h
    · simp at h; subst h; exact hc
  refine ⟨h0c, ?_⟩
  have hd : dg (numV p) = p := by
    rcases hp.2 with h | h | h
    · subst h; rfl
    · subst h; rcases h0 with h | h
      · simp at h
      · simp [numV] at h
    · exact h.2
  by_cases hz : numV (p ++ [c]) = 0
  · rw [numV_snoc] at hz
    have hp0 : p = [] := by rcases h0 with h | h
                            · exact h
                            · omega
    right; left
    subst hp0
    have : c.toNat = 48 := by unfold isFig at hc; omega
    have e : c = 48 := UInt8.toNat_inj.1 (by simpa using this)
    rw [e]; rfl
  · right; right
    refine ⟨by omega, ?_⟩
    have hlt : c.toNat - 48 < 10 := by unfold isFig at hc; omega
    rw [dg_step _ (by omega), numV_snoc]
    have e1 : (10 * numV p + (c.toNat - 48)) / 10 = numV p := by omega
    have e2 : (10 * numV p + (c.toNat - 48)) % 10 = c.toNat - 48 := by omega
    rw [e1, e2, hd, fig_byte c hc]
theorem good_yes (p : List UInt8) (hp : good p) (hne : p ≠ []) (h : numV p ≤ 1000000000) : rdS p = some (numV p) := by
  have h4 : decS (numV p) = p := by
    rcases hp.2 with e | e | e
    · exact absurd e hne
    · subst e; rfl
    · unfold decS; rw [if_neg (by omega)]; exact e.2
  refine rdS_yes p ?_ hp.1 h h4
  rcases hp.2 with e | e | e
  · subst e; simp
  · subst e; simp
  · rw [← e.2]; exact dg_len 10 _ (by omega)
theorem good_again (p r : List UInt8) (hp : good p) (hne : p ≠ []) (hr : r ≠ []) (h : numV p = 0) : rdS (p ++ r) = none := by
  rcases hp.2 with e | e | e
  · exact absurd e hne
  · subst e; exact rdS_nought r hr
  · omega
end Go.Proofs.YtoglebfiobofoaaDoor.W
