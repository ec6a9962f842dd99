/- A heap of places, plain: how one goes up, how one goes down, who comes first. -/
import Derived.Test.YtoaifodmjkhiiaaOrM
namespace Go.Proofs.Ytoaifodmjkhiiaa
set_option maxRecDepth 100000
open Go.RowKit

def par (k : Nat) : Nat := (k - 1) / 2
def sw (Q : List Nat) (i j : Nat) : List Nat := (Q.set i (Q.getD j 0)).set j (Q.getD i 0)
theorem sw_len (Q : List Nat) (i j : Nat) : (sw Q i j).length = Q.length := by simp [sw]
theorem sw_at (Q : List Nat) (i j : Nat) (hi : i < Q.length) (hj : j < Q.length) (t : Nat) : (sw Q i j).getD t 0 = if t = j then Q.getD i 0 else if t = i then Q.getD j 0 else Q.getD t 0 := by
  unfold sw
  simp only [List.getD, List.getElem?_set, List.length_set]
  by_cases h1 : j = t
  · subst h1
    simp [hj]
  · by_cases h2 : i = t
    · subst h2
      simp [hi, h1, Ne.symm h1]
    · simp [h1, h2, Ne.symm h1, Ne.symm h2]
theorem sw_perm (Q : List Nat) (i j : Nat) (hi : i < Q.length) (hj : j < Q.length) : (sw Q i j).Perm Q := by
  have e1 : Q.getD i 0 = Q[i] := by simp [List.getD, hi]
  have e2 : Q.getD j 0 = Q[j] := by simp [List.getD, hj]
  unfold sw
  rw [e1, e2]
  exact List.set_set_perm hi hj
theorem lt3_asymm {p : Nat → Nat × Int} {a b : Nat} (h : lt3 p a b) : ¬ lt3 p b a := by
  unfold lt3 at *
  omega
theorem le3_trans {p : Nat → Nat × Int} {a b c : Nat} (h : ¬ lt3 p b a) (k : ¬ lt3 p c b) : ¬ lt3 p c a := by
  unfold lt3 at *
  omega
/-- A heap, up to a place. -/
def HpN (p : Nat → Nat × Int) (Q : List Nat) (n : Nat) : Prop := ∀ k, 0 < k → k < n → ¬ lt3 p (Q.getD k 0) (Q.getD (par k) 0)
theorem par_lt {k : Nat} (h : 0 < k) : par k < k := by unfold par; omega
theorem HpN.first {p : Nat → Nat × Int} {Q : List Nat} {n : Nat} (h : HpN p Q n) : ∀ k, k < n → ¬ lt3 p (Q.getD k 0) (Q.getD 0 0) := by
  intro k
  induction k using Nat.strongRecOn with
  | ind k ih =>
    intro hk
    by_cases h0 : k = 0
    · subst h0
      unfold lt3
      omega
    · have l := par_lt (k := k) (by omega)
      exact le3_trans (ih _ l (by omega)) (h k (by omega) hk)
/-- One is on its way up. -/
structure UpI (p : Nat → Nat × Int) (Q : List Nat) (n j : Nat) : Prop where
  rest : ∀ k, 0 < k → k < n → k ≠ j → ¬ lt3 p (Q.getD k 0) (Q.getD (par k) 0)
  kids : ∀ k, 0 < k → k < n → par k = j → 0 < j → ¬ lt3 p (Q.getD k 0) (Q.getD (par j) 0)
theorem UpI.done {p : Nat → Nat × Int} {Q : List Nat} {n : Nat} (h : UpI p Q n 0) : HpN p Q n := fun k h0 hk => h.rest k h0 hk (by omega)
theorem UpI.stop {p : Nat → Nat × Int} {Q : List Nat} {n j : Nat} (h : UpI p Q n j) (hl : ¬ lt3 p (Q.getD j 0) (Q.getD (par j) 0)) : HpN p Q n := fun k h0 hk => by
  by_cases e : k = j
  · subst e; exact hl
  · exact h.rest k h0 hk e
theorem UpI.swap {p : Nat → Nat × Int} {Q : List Nat} {n j : Nat} (h : UpI p Q n j) (h0 : 0 < j) (hj : j < n) (hn : n ≤ Q.length) (hl : lt3 p (Q.getD j 0) (Q.getD (par j) 0)) : UpI p (sw Q (par j) j) n (par j) := by
  have l := par_lt h0
  have e := sw_at Q (par j) j (by omega) (by omega)
  refine ⟨fun k k0 kn kj => ?_, fun k k0 kn kj i0 => ?_⟩
  · have lk := par_lt k0
    by_cases c1 : k = j
    · subst c1
      rw [e k, if_pos rfl, e (par k), if_neg (by omega), if_pos rfl]
      exact lt3_asymm hl
    · rw [e k, if_neg c1, if_neg kj]
      by_cases c2 : par k = j
      · rw [e (par k), if_pos c2]
        exact h.kids k k0 kn c2 h0
      · by_cases c3 : par k = par j
        · rw [e (par k), if_neg c2, if_pos c3]
          have q := h.rest k k0 kn c1
          rw [c3] at q
          exact le3_trans (lt3_asymm hl) q
        · rw [e (par k), if_neg c2, if_neg c3]
          exact h.rest k k0 kn c1
  · have li := par_lt i0
    have lk := par_lt k0
    rw [e (par (par j)), if_neg (by omega), if_neg (by omega)]
    have q := h.rest (par j) i0 (by omega) (by omega)
    by_cases c1 : k = j
    · subst c1
      rw [e k, if_pos rfl]
      exact q
    · rw [e k, if_neg c1, if_neg (by omega)]
      have q2 := h.rest k k0 kn c1
      rw [kj] at q2
      exact le3_trans q q2
/-- One is put behind a heap. -/
theorem HpN.more {p : Nat → Nat × Int} {Q : List Nat} (h : HpN p Q Q.length) (x : Nat) : UpI p (Q ++ [x]) (Q.length + 1) Q.length := by
  have e : ∀ k, k < Q.length → (Q ++ [x]).getD k 0 = Q.getD k 0 := fun k hk => by simp [List.getD, List.getElem?_append_left hk]
  refine ⟨fun k k0 kn kj => ?_, fun k k0 kn kj _ => ?_⟩
  · have lk := par_lt k0
    rw [e k (by omega), e (par k) (by omega)]
    exact h k k0 (by omega)
  · have lk := par_lt k0
    omega
/-- One is on its way down. -/
structure DnI (p : Nat → Nat × Int) (Q : List Nat) (n i : Nat) : Prop where
  rest : ∀ k, 0 < k → k < n → par k ≠ i → ¬ lt3 p (Q.getD k 0) (Q.getD (par k) 0)
  kids : ∀ k, 0 < k → k < n → par k = i → 0 < i → ¬ lt3 p (Q.getD k 0) (Q.getD (par i) 0)
theorem par_is {k i : Nat} (h0 : 0 < k) : par k = i ↔ k = 2 * i + 1 ∨ k = 2 * i + 2 := by unfold par; omega
theorem DnI.stop {p : Nat → Nat × Int} {Q : List Nat} {n i : Nat} (h : DnI p Q n i) (h1 : 2 * i + 1 < n → ¬ lt3 p (Q.getD (2 * i + 1) 0) (Q.getD i 0)) (h2 : 2 * i + 2 < n → ¬ lt3 p (Q.getD (2 * i + 2) 0) (Q.getD i 0)) : HpN p Q n := fun k h0 hk => by
  by_cases e : par k = i
  · rw [e]
    rcases (par_is h0).1 e with rfl | rfl
    · exact h1 hk
    · exact h2 hk
  · exact h.rest k h0 hk e
theorem DnI.swap {p : Nat → Nat × Int} {Q : List Nat} {n i j : Nat} (h : DnI p Q n i) (hj : par j = i) (h0 : 0 < j) (hjn : j < n) (hn : n ≤ Q.length) (hl : lt3 p (Q.getD j 0) (Q.getD i 0))
    (h1 : ¬ lt3 p (Q.getD (2 * i + 1) 0) (Q.getD j 0)) (h2 : 2 * i + 2 < n → ¬ lt3 p (Q.getD (2 * i + 2) 0) (Q.getD j 0)) : DnI p (sw Q i j) n j := by
  have l := par_lt h0
  have e := sw_at Q i j (by omega) (by omega)
  refine ⟨fun k k0 kn kj => ?_, fun k k0 kn kj _ => ?_⟩
  · have lk := par_lt k0
    by_cases c1 : k = j
    · subst c1
      rw [e k, if_pos rfl, hj, e i, if_neg (by omega), if_pos rfl]
      exact lt3_asymm hl
    · rw [e k, if_neg c1]
      by_cases c2 : k = i
      · subst c2
        rw [if_pos rfl, e (par k), if_neg kj, if_neg (by omega)]
        exact h.kids j h0 hjn hj k0
      · rw [if_neg c2, e (par k), if_neg kj]
        by_cases c3 : par k = i
        · rw [if_pos c3]
          rcases (par_is k0).1 c3 with rfl | rfl
          · exact h1
          · exact h2 kn
        · rw [if_neg c3]
          exact h.rest k k0 kn c3
  · have lk := par_lt k0
    rw [hj, e i, if_neg (by omega), if_pos rfl, e k, if_neg (by omega), if_neg (by omega)]
    have q := h.rest k k0 kn (by omega)
    rw [kj] at q
    exact q
/-- The first one goes to the end. -/
theorem HpN.pop {p : Nat → Nat × Int} {Q : List Nat} {n : Nat} (h : HpN p Q (n + 1)) (hn : Q.length = n + 1) : DnI p (sw Q 0 n) n 0 := by
  have e := sw_at Q 0 n (by omega) (by omega)
  refine ⟨fun k k0 kn kj => ?_, fun k k0 kn kj i0 => by omega⟩
  have lk := par_lt k0
  rw [e k, if_neg (by omega), if_neg (by omega), e (par k), if_neg (by omega), if_neg (by omega)]
  exact h k k0 (by omega)
theorem HpN.take {p : Nat → Nat × Int} {Q : List Nat} {n : Nat} (h : HpN p Q n) : HpN p (Q.take n) n := by
  have e : ∀ k, k < n → (Q.take n).getD k 0 = Q.getD k 0 := fun k hk => by simp [List.getD, hk]
  intro k k0 kn
  have lk := par_lt k0
  rw [e k kn, e (par k) (by omega)]
  exact h k k0 kn
/-- Those that came first, and those that wait. -/
structure Out (p : Nat → Nat × Int) (U P Q : List Nat) : Prop where
  all : (P ++ Q).Perm U
  up : P.Pairwise fun a b => ¬ lt3 p b a
  ahead : ∀ a ∈ P, ∀ b ∈ Q, ¬ lt3 p b a
theorem Out.start {p : Nat → Nat × Int} {U Q : List Nat} (h : Q.Perm U) : Out p U [] Q := ⟨h, .nil, fun a ha => by cases ha⟩
theorem Out.next {p : Nat → Nat × Int} {U P Q R : List Nat} {n : Nat} (h : Out p U P Q) (hh : HpN p Q (n + 1)) (hn : Q.length = n + 1) (hr : R.Perm Q) (hl : R.getD n 0 = Q.getD 0 0) : Out p U (P ++ [Q.getD 0 0]) (R.take n) := by
  have hrl := hr.length_eq
  have e : R = R.take n ++ [Q.getD 0 0] := by
    have e1 : R[n]'(by omega) = Q.getD 0 0 := by rw [← hl]; simp [List.getD, show n < R.length by omega]
    have e2 : R.take (n + 1) = R := List.take_of_length_le (by omega)
    conv => lhs; rw [← e2]
    rw [List.take_succ_eq_append_getElem (by omega), e1]
  have hq : (Q.getD 0 0 :: R.take n).Perm Q := by
    refine List.Perm.trans ?_ hr
    conv => rhs; rw [e]
    exact (List.perm_append_comm (l₁ := [Q.getD 0 0]) (l₂ := R.take n))
  have q0 : Q.getD 0 0 ∈ Q := hq.mem_iff.1 (List.mem_cons_self ..)
  refine ⟨?_, ?_, fun a ha b hb => ?_⟩
  · rw [List.append_assoc]
    exact (hq.append_left P).trans h.all
  · rw [List.pairwise_append]
    refine ⟨h.up, List.pairwise_singleton _ _, fun a ha b hb => ?_⟩
    rw [List.mem_singleton.1 hb]
    exact h.ahead a ha _ q0
  · have hbQ : b ∈ Q := hq.mem_iff.1 (List.mem_cons_of_mem _ hb)
    rcases List.mem_append.1 ha with ha | ha
    · exact h.ahead a ha b hbQ
    · rw [List.mem_singleton.1 ha]
      obtain ⟨k, hk, rfl⟩ := List.getElem_of_mem hbQ
      have := hh.first k (by omega)
      simpa [List.getD, hk] using this
/-- Who came first are the first of the order. -/
theorem Out.is {hs : List HM} {P Q : List Nat} (h : Out (pk hs) (upTo hs hs.length) P Q) : P.map (pk hs) = (ordP hs).take P.length := by
  have hle : ∀ a b, ¬ lt3 (pk hs) b a → plLe (pk hs a) (pk hs b) = true := fun a b q => by
    rw [plLe_iff]
    unfold lt3 at q
    omega
  have e : P.map (pk hs) ++ (Q.map (pk hs)).mergeSort plLe = ordP hs := by
    refine ordP_of ?_ ?_
    · rw [← upTo_pairs]
      refine List.Perm.trans (List.Perm.append_left _ (List.mergeSort_perm _ _)) ?_
      rw [← List.map_append]
      exact h.all.map _
    · rw [List.pairwise_append]
      refine ⟨?_, List.pairwise_mergeSort (fun a b c h k => by rw [plLe_iff] at *; omega) (fun a b => by rw [Bool.or_eq_true, plLe_iff, plLe_iff]; omega) _, fun a ha b hb => ?_⟩
      · rw [List.pairwise_map]
        exact h.up.imp fun q => hle _ _ q
      · obtain ⟨x, hx, rfl⟩ := List.mem_map.1 ha
        obtain ⟨y, hy, rfl⟩ := List.mem_map.1 ((List.mergeSort_perm _ _).mem_iff.1 hb)
        exact hle x y (h.ahead x hx y hy)
  rw [← e, List.take_append_of_le_length (by simp), List.take_of_length_le (by simp)]
end Go.Proofs.Ytoaifodmjkhiiaa
