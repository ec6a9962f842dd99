/- Plain facts on frames: the records that the bytes of a file begin with, one behind the other; nothing of the program is read here. -/
import Derived.Test.YthhpdkeajogkoaaDoorReadVarM
import Derived.Test.YthhpdkeajogkoaaDoorSeal
namespace Go.Proofs.YthhpdkeajogkoaaDoor.W

/-- What was read as a number are the bytes of this number. -/
theorem rvs_vt : ∀ (rest hd : List UInt8) (q n p : Nat), heads hd → hd.length ≤ 5 → rvs hd rest q = some (n, p) →
    ∃ mid r, rest = mid ++ r ∧ 0 < mid.length ∧ p = q + mid.length ∧ hd ++ mid = vt n
  | [], hd, q, n, p, _, _, h => by simp [rvs, rv] at h
  | b :: r, hd, q, n, p, hh, hk, h => by
    by_cases h5 : hd.length = 5
    · rw [rvs_five hd _ _ (by omega)] at h; cases h
    by_cases hb : 127 < b.toNat
    · rw [rvs_step hd b r q (by omega) hb] at h
      obtain ⟨mid, r', e1, e2, e3, e4⟩ := rvs_vt r (hd ++ [b]) (q + 1) n p (fun x hx => by
        rcases List.mem_append.1 hx with h | h
        · exact hh x h
        · simp at h; subst h; omega) (by simp; omega) h
      exact ⟨b :: mid, r', by rw [e1]; rfl, by simp, by simp; omega, by rw [← e4]; simp⟩
    · rw [rvs_end hd b r q (by omega) hh (by omega)] at h
      split at h
      · rename_i hc
        simp at h
        exact ⟨[b], r, rfl, by simp, by simp; omega, by rw [← h.1]; exact hc.2.symm⟩
      · cases h
theorem extract_list (s : ByteArray) (a b : Nat) : (s.extract a b).data.toList = (s.data.toList.drop a).take (b - a) := by
  simp [ByteArray.data_extract]
theorem readVar_vt {s : ByteArray} {a n p : Nat} (h : readVar s a = some (n, p)) : a < p ∧ n ≤ 1000000000 ∧ s.extract a p = ⟨(vt n).toArray⟩ := by
  have hn := rv_bounds _ _ _ _ _ _ _ h
  obtain ⟨mid, r, e1, e2, e3, e4⟩ := rvs_vt _ [] a n p (fun _ h => by simp at h) (by simp) h
  refine ⟨by omega, hn.1, ?_⟩
  apply Go.WideShapes.bytes_inj
  rw [extract_list, e1]
  have : p - a = mid.length := by omega
  rw [this, List.take_left' rfl]
  simpa using e4

/-- The frame that stands in a file from a place on: its record, and the place behind it. -/
def frameAt (s : ByteArray) (a : Nat) : Option (ByteArray × Nat) :=
  match readVar s a with
  | none => none
  | some (n, p) => if 1 ≤ n ∧ n ≤ 9000 ∧ p + 4 + n ≤ s.size ∧ fourB (sumOf (s.extract (p + 4) (p + 4 + n))) = s.extract p (p + 4) then some (s.extract (p + 4) (p + 4 + n), p + 4 + n) else none
theorem frameAt_bounds {s : ByteArray} {a : Nat} {r : ByteArray} {b : Nat} (h : frameAt s a = some (r, b)) : a + 6 ≤ b ∧ b ≤ s.size ∧ 1 ≤ r.size ∧ r.size ≤ 9000 := by
  unfold frameAt at h
  split at h
  · cases h
  · rename_i n p hr
    split at h
    · rename_i hc
      simp at h
      obtain ⟨rfl, rfl⟩ := h
      have := readVar_vt hr
      simp
      omega
    · cases h
def framesF (s : ByteArray) : Nat → Nat → List (ByteArray × Nat)
  | 0, _ => []
  | f + 1, a => if a < s.size then (match frameAt s a with | none => [] | some (r, b) => (r, b) :: framesF s f b) else []
theorem framesF_enough (s : ByteArray) : ∀ (f g a : Nat), s.size - a ≤ f → s.size - a ≤ g → framesF s f a = framesF s g a
  | 0, 0, a, _, _ => rfl
  | 0, g + 1, a, h, _ => by rw [framesF, framesF, if_neg (by omega)]
  | f + 1, 0, a, _, h => by rw [framesF, framesF, if_neg (by omega)]
  | f + 1, g + 1, a, h1, h2 => by
    rw [framesF, framesF]
    split
    · cases hf : frameAt s a with
      | none => rfl
      | some x =>
        obtain ⟨r, b⟩ := x
        have := frameAt_bounds hf
        simp only
        rw [framesF_enough s f g b (by omega) (by omega)]
    · rfl
/-- The frames that stand in a file from a place on. -/
def framesFrom (s : ByteArray) (a : Nat) : List (ByteArray × Nat) := framesF s (s.size - a) a
theorem framesFrom_over {s : ByteArray} {a : Nat} (h : s.size ≤ a) : framesFrom s a = [] := by
  unfold framesFrom
  rw [show s.size - a = 0 by omega]; rfl
theorem framesFrom_none {s : ByteArray} {a : Nat} (h : frameAt s a = none) : framesFrom s a = [] := by
  unfold framesFrom
  cases s.size - a with
  | zero => rfl
  | succ f => rw [framesF, h]; simp
theorem framesFrom_some {s : ByteArray} {a b : Nat} {r : ByteArray} (h : frameAt s a = some (r, b)) : framesFrom s a = (r, b) :: framesFrom s b := by
  have hb := frameAt_bounds h
  unfold framesFrom
  obtain ⟨f, hf⟩ : ∃ f, s.size - a = f + 1 := ⟨s.size - a - 1, by omega⟩
  rw [hf, framesF, if_pos (by omega), h]
  simp only
  rw [framesF_enough s f (s.size - b) b (by omega) (Nat.le_refl _)]
def framesOf (s : ByteArray) : List (ByteArray × Nat) := if 20000 < s.size then [] else framesFrom s 0
/-- The place behind the last frame. -/
def endOf (l : List (ByteArray × Nat)) : Nat := (l.getLast?.map (·.2)).getD 0
theorem endOf_nil : endOf [] = 0 := rfl
theorem endOf_snoc (l : List (ByteArray × Nat)) (x : ByteArray × Nat) : endOf (l ++ [x]) = x.2 := by simp [endOf]
def recsOf (l : List (ByteArray × Nat)) : List ByteArray := l.map (·.1)
theorem recsOf_snoc (l : List (ByteArray × Nat)) (x : ByteArray × Nat) : recsOf (l ++ [x]) = recsOf l ++ [x.1] := by simp [recsOf]
theorem recsOf_len (l : List (ByteArray × Nat)) : (recsOf l).length = l.length := by simp [recsOf]
theorem framesF_len (s : ByteArray) : ∀ (f a : Nat), (framesF s f a).length + a ≤ Nat.max a s.size
  | 0, a => by simp [framesF]; exact Nat.le_max_left _ _
  | f + 1, a => by
    rw [framesF]
    split
    · cases hf : frameAt s a with
      | none => simp; exact Nat.le_max_left _ _
      | some x =>
        obtain ⟨r, b⟩ := x
        have h1 := frameAt_bounds hf
        have := framesF_len s f b
        simp only [List.length_cons]
        have e1 : Nat.max b s.size = s.size := Nat.max_eq_right (by omega)
        have e2 : Nat.max a s.size = s.size := Nat.max_eq_right (by omega)
        rw [e1] at this
        rw [e2]
        omega
    · simp; exact Nat.le_max_left _ _
theorem framesOf_len (s : ByteArray) : (framesOf s).length ≤ 20000 := by
  unfold framesOf
  split
  · simp
  · have := framesF_len s (s.size - 0) 0
    have e2 : Nat.max 0 s.size = s.size := Nat.max_eq_right (by omega)
    rw [e2] at this
    unfold framesFrom
    omega
theorem endOf_le (s : ByteArray) (f : Nat) : ∀ (a : Nat) (x : ByteArray × Nat), x ∈ framesF s f a → x.2 ≤ s.size := by
  induction f with
  | zero => intro a x h; simp [framesF] at h
  | succ f ih =>
    intro a x h
    rw [framesF] at h
    split at h
    · cases hf : frameAt s a with
      | none => rw [hf] at h; simp at h
      | some y =>
        obtain ⟨r, b⟩ := y
        rw [hf] at h
        have hb := frameAt_bounds hf
        simp only [List.mem_cons] at h
        rcases h with rfl | h
        · exact hb.2.1
        · exact ih b x h
    · simp at h
end Go.Proofs.YthhpdkeajogkoaaDoor.W
