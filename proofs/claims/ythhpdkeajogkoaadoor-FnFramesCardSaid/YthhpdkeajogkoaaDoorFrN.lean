/- Plain facts on frames that stand behind one another, cut anywhere: just the whole ones are read. -/
import Derived.Test.YthhpdkeajogkoaaDoorFrS
import Derived.Test.YthhpdkeajogkoaaDoorVarBack
namespace Go.Proofs.YthhpdkeajogkoaaDoor.W

def okRec (r : ByteArray) : Prop := 1 ≤ r.size ∧ r.size ≤ 9000
theorem frameB_list (r : ByteArray) : (frameB r).data.toList = vt r.size ++ ((four (sumOf r)) ++ r.data.toList) := by
  unfold frameB fourB
  rw [ByteArray.toList_data_append, ByteArray.toList_data_append, List.append_assoc]
theorem frameB_len (r : ByteArray) : (frameB r).data.toList.length = (frameB r).size := rfl
theorem size_list (s : ByteArray) : s.data.toList.length = s.size := rfl
theorem frameB_size (r : ByteArray) : (frameB r).size = (vt r.size).length + 4 + r.size := by
  rw [← frameB_len, frameB_list]
  simp only [List.length_append, four_len, size_list]
  omega
theorem frameB_le (r : ByteArray) : (frameB r).size ≤ 2 * r.size + 5 := by
  have := frameB_size r
  have := vt_len r.size
  omega
theorem vt_pos (n : Nat) : 0 < (vt n).length := by
  by_cases h : 127 < n
  · rw [vt_big n h]; simp
  · rw [vt_small n (by omega)]; simp
/-- A whole frame is read. -/
theorem frameAt_front {s r : ByteArray} {a : Nat} {rest : List UInt8} (hr : okRec r) (h : s.data.toList.drop a = (frameB r).data.toList ++ rest) : frameAt s a = some (r, a + (frameB r).size) := by
  have hz := frameB_size r
  have hlen := congrArg List.length h
  rw [List.length_append, frameB_len, List.length_drop, size_list] at hlen
  rw [frameB_list] at h
  have hv := readVar_back s a r.size (((four (sumOf r)) ++ r.data.toList) ++ rest) (by have := hr.2; omega) (by rw [h, List.append_assoc])
  obtain ⟨p, hp⟩ : ∃ p, p = a + (vt r.size).length := ⟨_, rfl⟩
  rw [← hp] at hv
  have d1 : s.data.toList.drop p = four (sumOf r) ++ (r.data.toList ++ rest) := by
    rw [hp, ← List.drop_drop, h, List.append_assoc, List.drop_left, List.append_assoc]
  have d2 : s.data.toList.drop (p + 4) = r.data.toList ++ rest := by
    rw [← List.drop_drop, d1]
    exact List.drop_left' (four_len _)
  have e1 : s.extract p (p + 4) = fourB (sumOf r) := by
    apply Go.WideShapes.bytes_inj
    rw [extract_list, d1, show p + 4 - p = 4 by omega]
    exact List.take_left' (four_len _)
  have e2 : s.extract (p + 4) (p + 4 + r.size) = r := by
    apply Go.WideShapes.bytes_inj
    rw [extract_list, d2, show p + 4 + r.size - (p + 4) = r.size by omega]
    exact List.take_left' rfl
  unfold frameAt
  rw [hv]
  simp only
  rw [e1, e2, if_pos ⟨hr.1, hr.2, by omega, rfl⟩, hz]
  congr 2
  omega
/-- A frame that is torn is not. -/
theorem frameAt_torn {s r : ByteArray} {a j : Nat} (hr : okRec r) (h : s.data.toList.drop a = (frameB r).data.toList.take j) (hj : j < (frameB r).size) : frameAt s a = none := by
  have hz := frameB_size r
  have hlen := congrArg List.length h
  rw [List.length_take, frameB_len, List.length_drop, size_list] at hlen
  unfold frameAt
  cases hv : readVar s a with
  | none => rfl
  | some x =>
    obtain ⟨n, p⟩ := x
    simp only
    rw [if_neg]
    rintro ⟨h1, h2, h3, _⟩
    obtain ⟨mid, r', e1, e2, e3, e4⟩ := rvs_vt _ [] a n p (fun _ h => by simp at h) (by simp) hv
    rw [h] at e1
    have hn := rv_bounds _ _ _ _ _ _ _ hv
    have hmid : mid = vt n := by simpa using e4
    have hL : (frameB r).data.toList = vt n ++ (r' ++ (frameB r).data.toList.drop j) := by
      rw [← List.append_assoc, ← hmid, ← e1, List.take_append_drop]
    have b1 := readVar_back (frameB r) 0 n _ hn.1 hL
    have b2 := readVar_back (frameB r) 0 r.size _ (by have := hr.2; omega) (frameB_list r)
    rw [b1] at b2
    simp only [Option.some.injEq, Prod.mk.injEq] at b2
    obtain ⟨b3, b4⟩ := b2
    rw [hmid] at e3
    omega
def fbs (l : List ByteArray) : List UInt8 := l.flatMap fun r => (frameB r).data.toList
theorem fbs_cons (r : ByteArray) (l : List ByteArray) : fbs (r :: l) = (frameB r).data.toList ++ fbs l := by simp [fbs]
theorem fbs_snoc (l : List ByteArray) (r : ByteArray) : fbs (l ++ [r]) = fbs l ++ (frameB r).data.toList := by simp [fbs]
def takeFrames : List ByteArray → Nat → Nat → List (ByteArray × Nat)
  | [], _, _ => []
  | r :: rs, a, j => if (frameB r).size ≤ j then (r, a + (frameB r).size) :: takeFrames rs (a + (frameB r).size) (j - (frameB r).size) else []
theorem framesFrom_take : ∀ (rs : List ByteArray) (s : ByteArray) (a j : Nat), (∀ r ∈ rs, okRec r) → s.data.toList.drop a = (fbs rs).take j → framesFrom s a = takeFrames rs a j
  | [], s, a, j, _, h => by
    have : s.size ≤ a := by
      have := congrArg List.length h
      rw [List.length_drop, size_list] at this
      simp [fbs] at this
      omega
    rw [framesFrom_over this, takeFrames]
  | r :: rs, s, a, j, hok, h => by
    rw [takeFrames]
    rw [fbs_cons] at h
    by_cases hj : (frameB r).size ≤ j
    · rw [if_pos hj]
      have h' : s.data.toList.drop a = (frameB r).data.toList ++ (fbs rs).take (j - (frameB r).size) := by
        rw [h, List.take_append, frameB_len, List.take_of_length_le (by rw [frameB_len]; exact hj)]
      rw [framesFrom_some (frameAt_front (hok r (by simp)) h')]
      congr 1
      refine framesFrom_take rs s _ _ (fun x hx => hok x (by simp [hx])) ?_
      rw [← List.drop_drop, h']
      exact List.drop_left' (frameB_len r)
    · rw [if_neg hj]
      refine framesFrom_none (frameAt_torn (j := j) (hok r (by simp)) ?_ (by omega))
      rw [h, List.take_append, frameB_len, show j - (frameB r).size = 0 by omega]
      simp
theorem framesOf_cut {f : ByteArray} {l : List ByteArray} {k : Nat} (hf : f.data.toList = fbs l) (hok : ∀ r ∈ l, okRec r) (hs : f.size ≤ 20000) : framesOf (f.extract 0 k) = takeFrames l 0 k := by
  unfold framesOf
  rw [if_neg (by simp; omega)]
  refine framesFrom_take l _ 0 k hok ?_
  rw [extract_list, ← hf]
  simp
theorem framesOf_whole {f : ByteArray} {l : List ByteArray} (hf : f.data.toList = fbs l) (hok : ∀ r ∈ l, okRec r) (hs : f.size ≤ 20000) : framesOf f = takeFrames l 0 f.size := by
  unfold framesOf
  rw [if_neg (by omega)]
  refine framesFrom_take l _ 0 _ hok ?_
  rw [← hf]
  rw [List.take_of_length_le (by rw [size_list]; exact Nat.le_refl _)]
  rfl
/-- Three frames, whole and cut. -/
theorem three_whole {f r0 r1 r2 : ByteArray} (hf : f.data.toList = fbs [r0, r1, r2]) (hok : ∀ r ∈ [r0, r1, r2], okRec r) (hs : f.size ≤ 20000) :
    f.size = (frameB r0).size + (frameB r1).size + (frameB r2).size ∧ framesOf f = [(r0, (frameB r0).size), (r1, (frameB r0).size + (frameB r1).size), (r2, (frameB r0).size + (frameB r1).size + (frameB r2).size)] := by
  have hz : f.size = (frameB r0).size + (frameB r1).size + (frameB r2).size := by
    have := congrArg List.length hf
    rw [size_list, fbs_cons, fbs_cons, fbs_cons] at this
    simp only [List.length_append, frameB_len, fbs, List.flatMap_nil, List.length_nil] at this
    omega
  refine ⟨hz, ?_⟩
  rw [framesOf_whole hf hok hs, hz, takeFrames, if_pos (by omega), takeFrames, if_pos (by omega), takeFrames, if_pos (by omega), takeFrames, Nat.zero_add]
theorem three_cut {f r0 r1 r2 : ByteArray} (k : Nat) (hf : f.data.toList = fbs [r0, r1, r2]) (hok : ∀ r ∈ [r0, r1, r2], okRec r) (hs : f.size ≤ 20000) :
    (k < (frameB r0).size ∧ framesOf (f.extract 0 k) = []) ∨
    ((frameB r0).size ≤ k ∧ k < (frameB r0).size + (frameB r1).size ∧ framesOf (f.extract 0 k) = [(r0, (frameB r0).size)]) ∨
    ((frameB r0).size + (frameB r1).size ≤ k ∧ k < (frameB r0).size + (frameB r1).size + (frameB r2).size ∧ framesOf (f.extract 0 k) = [(r0, (frameB r0).size), (r1, (frameB r0).size + (frameB r1).size)]) ∨
    ((frameB r0).size + (frameB r1).size + (frameB r2).size ≤ k ∧ framesOf (f.extract 0 k) = [(r0, (frameB r0).size), (r1, (frameB r0).size + (frameB r1).size), (r2, (frameB r0).size + (frameB r1).size + (frameB r2).size)]) := by
  rw [framesOf_cut hf hok hs]
  by_cases h0 : (frameB r0).size ≤ k
  · by_cases h1 : (frameB r0).size + (frameB r1).size ≤ k
    · by_cases h2 : (frameB r0).size + (frameB r1).size + (frameB r2).size ≤ k
      · refine .inr (.inr (.inr ⟨h2, ?_⟩))
        rw [takeFrames, if_pos (by omega), takeFrames, if_pos (by omega), takeFrames, if_pos (by omega), takeFrames, Nat.zero_add]
      · refine .inr (.inr (.inl ⟨h1, by omega, ?_⟩))
        rw [takeFrames, if_pos (by omega), takeFrames, if_pos (by omega), takeFrames, if_neg (by omega), Nat.zero_add]
    · refine .inr (.inl ⟨h0, by omega, ?_⟩)
      rw [takeFrames, if_pos (by omega), takeFrames, if_neg (by omega), Nat.zero_add]
  · refine .inl ⟨by omega, ?_⟩
    rw [takeFrames, if_neg (by omega)]
end Go.Proofs.YthhpdkeajogkoaaDoor.W
