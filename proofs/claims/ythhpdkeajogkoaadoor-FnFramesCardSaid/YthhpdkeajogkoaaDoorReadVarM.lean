/- Plain facts on reading a number from bytes: what the loops of ReadVar hold from round to round. -/
import Derived.Test.YthhpdkeajogkoaaDoorWords
import Derived.PlainAid
namespace Go.Proofs.YthhpdkeajogkoaaDoor.W
open Go.PlainAid (bt)

/-- What ReadVar answers at a place of a text. -/
def readVar (s : ByteArray) (a : Nat) : Option (Nat × Nat) := rvs [] (s.data.toList.drop a) a

theorem rv_bounds : ∀ (l : List UInt8) (n w : Nat) (f : Bool) (q m p : Nat), rv n w f l q = some (m, p) → m ≤ 1000000000 ∧ p ≤ q + l.length
  | [], n, w, f, q, m, p, h => by simp [rv] at h
  | b :: l, n, w, f, q, m, p, h => by
    rw [rv] at h
    split at h
    · simp at h
    · split at h
      · have := rv_bounds l _ _ _ _ _ _ h
        simp; omega
      · split at h
        · simp at h
        · split at h
          · simp at h
          · simp at h
            simp; omega
theorem readVar_bounds {s : ByteArray} {a m p : Nat} (ha : a ≤ s.size) (h : readVar s a = some (m, p)) : m ≤ 1000000000 ∧ p ≤ s.size := by
  have := rv_bounds _ _ _ _ _ _ _ h
  simp at this
  have e2 : s.data.size = s.size := rfl
  omega

/-- What has been read, the bytes from a to j: the number so far, its weight. -/
def RvRel (s : ByteArray) (a j : Nat) (nn sc : Int) : Prop :=
  ∃ hd rest : List UInt8, s.data.toList.drop a = hd ++ rest ∧ heads hd ∧ j = a + hd.length ∧ j ≤ s.size ∧ nn = (val hd : Int) ∧ sc = ((128 ^ hd.length : Nat) : Int) ∧ hd.length ≤ 5 ∧ rvs hd rest j = readVar s a

theorem RvRel.start (s : ByteArray) (a : Nat) (h : a ≤ s.size) : RvRel s a a 0 1 :=
  ⟨[], s.data.toList.drop a, rfl, fun _ h => by simp at h, rfl, h, rfl, rfl, by simp, rfl⟩

theorem RvRel.bounds {s : ByteArray} {a j : Nat} {nn sc : Int} (h : RvRel s a j nn sc) : 0 ≤ nn ∧ nn < sc ∧ 1 ≤ sc ∧ sc ≤ 34359738368 ∧ a ≤ j ∧ j ≤ a + 5 ∧ j ≤ s.size := by
  obtain ⟨hd, rest, _, _, rfl, hj, rfl, rfl, hk, _⟩ := h
  have h1 := val_lt hd
  have h2 : 128 ^ hd.length ≤ 128 ^ 5 := Nat.pow_le_pow_right (by omega) hk
  have h3 : 0 < 128 ^ hd.length := Nat.pow_pos (by omega)
  omega

theorem RvRel.over {s : ByteArray} {a j : Nat} {nn sc : Int} (h : RvRel s a j nn sc) (hj : s.size ≤ j) : readVar s a = none := by
  obtain ⟨hd, rest, he, _, rfl, _, rfl, rfl, _, hr⟩ := h
  have hl := congrArg List.length he
  simp at hl
  have : rest = [] := List.eq_nil_of_length_eq_zero (by omega)
  subst this
  rw [← hr]; exact rv_nil _ _ _ _

/-- Five bytes, or a weight beyond the greatest number: that is one. -/
theorem RvRel.five {s : ByteArray} {a j : Nat} {nn sc : Int} (h : RvRel s a j nn sc) : (j = a + 5 ↔ 1000000000 < sc) ∧ (1000000000 < sc → readVar s a = none) := by
  obtain ⟨hd, rest, he, _, rfl, _, rfl, rfl, hk, hr⟩ := h
  refine ⟨⟨fun h => ?_, fun h => ?_⟩, fun h => ?_⟩
  · have : hd.length = 5 := by omega
    rw [this]; omega
  · by_cases h5 : hd.length = 5
    · omega
    · have h2 : 128 ^ hd.length ≤ 128 ^ 4 := Nat.pow_le_pow_right (by omega) (by omega)
      omega
  · rw [← hr]; exact rv_great _ _ _ _ _ (by omega)

/-- The byte at j, and what is left behind it. -/
theorem byte_at (s : ByteArray) (a : Nat) (hd rest : List UInt8) (he : s.data.toList.drop a = hd ++ rest) (hj : a + hd.length < s.size) :
    ∃ b r, rest = b :: r ∧ bt s (a + hd.length) = (b.toNat : Int) := by
  cases rest with
  | nil =>
    have hl := congrArg List.length he
    simp at hl
    have : s.data.size = s.size := rfl
    omega
  | cons b r =>
    refine ⟨b, r, rfl, ?_⟩
    have h1 : (s.data.toList.drop a)[hd.length]? = some b := by rw [he]; simp
    rw [List.getElem?_drop] at h1
    have h2 : s.data.toList[a + hd.length]'(by simpa using hj) = b := by
      rw [List.getElem?_eq_some_iff] at h1
      exact h1.2
    unfold bt
    rw [dif_pos hj]
    have h3 : s[a + hd.length] = s.data.toList[a + hd.length]'(by simpa using hj) := rfl
    rw [h3, h2]

theorem RvRel.head {s : ByteArray} {a j : Nat} {nn sc : Int} (h : RvRel s a j nn sc) (hj : j < s.size) (hs : sc ≤ 1000000000) (hb : 127 < bt s j) :
    RvRel s a (j + 1) (nn + (bt s j - 128) * sc) (sc * 128) ∧ RvRel s a (j + 1) (nn + bt s j % 128 * sc) (sc * 128) := by
  have h5 := h.five
  obtain ⟨hd, rest, he, hh, rfl, _, rfl, rfl, hk, hr⟩ := h
  obtain ⟨b, r, rfl, hbt⟩ := byte_at s a hd rest he hj
  rw [hbt] at hb ⊢
  have hlt := b.toNat_lt
  have e : (b.toNat : Int) % 128 = (b.toNat : Int) - 128 := by omega
  rw [e]
  have key : RvRel s a (a + hd.length + 1) ((val hd : Int) + ((b.toNat : Int) - 128) * ((128 ^ hd.length : Nat) : Int)) (((128 ^ hd.length : Nat) : Int) * 128) := by
    refine ⟨hd ++ [b], r, by rw [he]; simp, fun x hx => ?_, by simp; omega, by omega, ?_, by simp [Nat.pow_succ], by simp; omega, ?_⟩
    · rcases List.mem_append.1 hx with h | h
      · exact hh x h
      · simp at h; subst h; omega
    · rw [val_snoc]
      have : b.toNat % 128 = b.toNat - 128 := by omega
      rw [this, Int.natCast_add, Int.natCast_mul, Int.natCast_sub (by omega)]; rfl
    · rw [← hr]
      have := rvs_step hd b r (a + hd.length) (by omega) (by omega)
      rw [this]
  exact ⟨key, key⟩

theorem RvRel.last {s : ByteArray} {a j : Nat} {nn sc : Int} (h : RvRel s a j nn sc) (hj : j < s.size) (hs : sc ≤ 1000000000) (hb : bt s j ≤ 127) :
    (bt s j = 0 → a < j → readVar s a = none) ∧ (1000000000 < nn + bt s j * sc → readVar s a = none) ∧
    ((bt s j ≠ 0 ∨ j = a) → nn + bt s j * sc ≤ 1000000000 → readVar s a = some ((nn + bt s j * sc).toNat, j + 1)) := by
  obtain ⟨hd, rest, he, hh, rfl, _, rfl, rfl, hk, hr⟩ := h
  obtain ⟨b, r, rfl, hbt⟩ := byte_at s a hd rest he hj
  rw [hbt] at hb ⊢
  have e : (val hd : Int) + (b.toNat : Int) * ((128 ^ hd.length : Nat) : Int) = ((val hd + b.toNat * 128 ^ hd.length : Nat) : Int) := by rw [Int.natCast_add, Int.natCast_mul]
  rw [e, ← hr]
  unfold rvs
  refine ⟨fun h0 h1 => ?_, fun h1 => ?_, fun h0 h1 => ?_⟩
  · rw [decide_eq_false (by omega)]; exact rv_nought _ _ _ _ _ (by omega)
  · exact rv_far _ _ _ _ _ _ (by omega) (by omega)
  · rw [rv_done _ _ _ _ _ _ (by omega) (by omega) (by
      rcases h0 with h | h
      · left; omega
      · right; simp; have : hd.length = 0 := by omega
        exact List.eq_nil_of_length_eq_zero this) (by omega), Int.toNat_natCast]

/-- As the other program tells it: by the bytes of the number. -/
theorem RvRel.same {s : ByteArray} {a j : Nat} {nn sc : Int} (h : RvRel s a j nn sc) (hj : j < s.size) (hs : sc ≤ 1000000000) (hb : bt s j ≤ 127) :
    (1000000000 < nn + bt s j % 128 * sc → readVar s a = none) ∧
    (nn + bt s j % 128 * sc ≤ 1000000000 → readVar s a = if vt (nn + bt s j % 128 * sc).toNat = (s.extract a (j + 1)).data.toList then some ((nn + bt s j % 128 * sc).toNat, j + 1) else none) := by
  obtain ⟨hd, rest, he, hh, rfl, _, rfl, rfl, hk, hr⟩ := h
  obtain ⟨b, r, rfl, hbt⟩ := byte_at s a hd rest he hj
  have hk4 : hd.length ≤ 4 := by
    by_cases h5 : hd.length = 5
    · rw [h5] at hs; omega
    · omega
  rw [hbt] at hb ⊢
  have e0 : (b.toNat : Int) % 128 = b.toNat := by omega
  have e : (val hd : Int) + (b.toNat : Int) * ((128 ^ hd.length : Nat) : Int) = ((val (hd ++ [b]) : Nat) : Int) := by
    rw [val_snoc, Int.natCast_add, Int.natCast_mul]
    have : b.toNat % 128 = b.toNat := by omega
    rw [this]
  have ex : (s.extract a (a + hd.length + 1)).data.toList = hd ++ [b] := by
    have : (s.extract a (a + hd.length + 1)).data.toList = (s.data.toList.drop a).take (hd.length + 1) := by
      simp [ByteArray.data_extract]
      congr 1; omega
    rw [this, he]
    have e3 : hd ++ b :: r = (hd ++ [b]) ++ r := by simp
    rw [e3, List.take_left' (by simp)]
  rw [e0, e, ex, ← hr, rvs_end hd b r _ hk4 hh (by omega)]
  have e4 : ((val (hd ++ [b]) : Nat) : Int).toNat = val (hd ++ [b]) := rfl
  rw [e4]
  refine ⟨fun h1 => ?_, fun h1 => ?_⟩
  · rw [if_neg (fun h => by have := h.1; omega)]
  · by_cases hv : vt (val (hd ++ [b])) = hd ++ [b]
    · rw [if_pos ⟨by omega, hv⟩, if_pos hv]
    · rw [if_neg (fun h => hv h.2), if_neg hv]
end Go.Proofs.YthhpdkeajogkoaaDoor.W
