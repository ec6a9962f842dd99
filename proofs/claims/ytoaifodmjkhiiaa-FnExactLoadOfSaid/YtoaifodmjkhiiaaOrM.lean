/- The order in which hosts take units, plain: an insertion of places, by load, then number, then place. -/
import Derived.Test.YtoaifodmjkhiiaaPlM
namespace Go.Proofs.Ytoaifodmjkhiiaa
set_option maxRecDepth 100000
open Go.RowKit

/-- One place ahead of another. -/
def lt3 (p : Nat → Nat × Int) (a b : Nat) : Prop := (p a).1 < (p b).1 ∨ ((p a).1 = (p b).1 ∧ ((p a).2 < (p b).2 ∨ ((p a).2 = (p b).2 ∧ a < b)))
/-- What the model asks. -/
def gt2 (p : Nat → Nat × Int) (a b : Nat) : Bool := decide ((p b).1 < (p a).1) || ((p a).1 == (p b).1 && decide ((p b).2 < (p a).2))
theorem gt2_iff (p : Nat → Nat × Int) (a b : Nat) : gt2 p a b = true ↔ (p b).1 < (p a).1 ∨ ((p a).1 = (p b).1 ∧ (p b).2 < (p a).2) := by
  unfold gt2
  simp
/-- Sorted, up to a place. -/
def Sd (p : Nat → Nat × Int) (L : List Nat) (i : Nat) : Prop := ∀ a b, a < b → b < i → lt3 p (L.getD a 0) (L.getD b 0)
/-- One is on its way, from place i to place k. -/
structure Mv (p : Nat → Nat × Int) (L : List Nat) (i k : Nat) : Prop where
  rest : ∀ a b, a < b → b ≤ i → a ≠ k → b ≠ k → lt3 p (L.getD a 0) (L.getD b 0)
  behind : ∀ b, k < b → b ≤ i → lt3 p (L.getD k 0) (L.getD b 0)
  last : ∀ a, a ≤ i → a ≠ k → L.getD a 0 < L.getD k 0
def swapL (L : List Nat) (k : Nat) : List Nat := (L.set k (L.getD (k - 1) 0)).set (k - 1) (L.getD k 0)
theorem swapL_len (L : List Nat) (k : Nat) : (swapL L k).length = L.length := by simp [swapL]
theorem swapL_at (L : List Nat) (k : Nat) (hk : 0 < k) (hl : k < L.length) (t : Nat) : (swapL L k).getD t 0 = if t = k - 1 then L.getD k 0 else if t = k then L.getD (k - 1) 0 else L.getD t 0 := by
  unfold swapL
  simp only [List.getD, List.getElem?_set, List.length_set]
  by_cases h1 : k - 1 = t
  · subst h1
    simp [show k - 1 < L.length by omega]
  · by_cases h2 : k = t
    · subst h2
      simp [hl, h1, show ¬ k = k - 1 by omega]
    · simp [h1, h2, Ne.symm h1, Ne.symm h2]
theorem swapL_perm (L : List Nat) (k : Nat) (hk : 0 < k) (hl : k < L.length) : (swapL L k).Perm L := by
  have e1 : L.getD (k - 1) 0 = L[k - 1] := by simp [List.getD, show k - 1 < L.length by omega]
  have e2 : L.getD k 0 = L[k] := by simp [List.getD, hl]
  have hL : L = L.take (k - 1) ++ L[k - 1] :: L[k] :: L.drop (k + 1) := by
    have q1 : L.drop (k - 1) = L[k - 1] :: L.drop k := by rw [List.drop_eq_getElem_cons (by omega)]; congr 1; congr 1; omega
    have q2 : L.drop k = L[k] :: L.drop (k + 1) := List.drop_eq_getElem_cons hl
    conv => lhs; rw [← List.take_append_drop (k - 1) L, q1, q2]
  have hS : swapL L k = L.take (k - 1) ++ L[k] :: L[k - 1] :: L.drop (k + 1) := by
    apply List.ext_getElem?
    intro t
    have lt : (L.take (k - 1)).length = k - 1 := by rw [List.length_take]; omega
    unfold swapL
    rw [e1, e2]
    simp only [List.getElem?_set, List.length_set]
    by_cases h5 : t < k - 1
    · rw [if_neg (by omega), if_neg (by omega), List.getElem?_append_left (by omega), List.getElem?_take, if_pos h5]
    · rw [List.getElem?_append_right (by omega), lt]
      by_cases h3 : t = k - 1
      · subst h3
        rw [if_pos rfl, if_pos (by omega), Nat.sub_self]
        rfl
      · rw [if_neg (by omega)]
        by_cases h4 : t = k
        · subst h4
          rw [if_pos rfl, if_pos hl, show t - (t - 1) = 1 by omega]
          rfl
        · rw [if_neg (by omega)]
          obtain ⟨z, hz⟩ : ∃ z, t - (k - 1) = z + 2 := ⟨t - (k - 1) - 2, by omega⟩
          rw [hz]
          simp only [List.getElem?_cons_succ, List.getElem?_drop]
          congr 1
          omega
  rw [hS]
  conv => rhs; rw [hL]
  exact List.Perm.append_left _ (List.Perm.swap _ _ _)
theorem Mv.swap {p : Nat → Nat × Int} {L : List Nat} {i k : Nat} (h : Mv p L i k) (hk : 0 < k) (hki : k ≤ i) (hl : i < L.length) (hg : gt2 p (L.getD (k - 1) 0) (L.getD k 0) = true) : Mv p (swapL L k) i (k - 1) := by
  have e := swapL_at L k hk (by omega)
  rw [gt2_iff] at hg
  refine ⟨fun a b hab hb ha9 hb9 => ?_, fun b hb hbi => ?_, fun a ha ha9 => ?_⟩
  · rw [e a, e b, if_neg ha9, if_neg hb9]
    by_cases h1 : a = k
    · subst h1
      rw [if_pos rfl, if_neg (by omega)]
      exact h.rest (a - 1) b (by omega) hb (by omega) (by omega)
    · rw [if_neg h1]
      by_cases h2 : b = k
      · subst h2
        rw [if_pos rfl]
        exact h.rest a (b - 1) (by omega) (by omega) (by omega) (by omega)
      · rw [if_neg h2]
        exact h.rest a b hab hb h1 h2
  · rw [e (k - 1), e b, if_pos rfl, if_neg (by omega)]
    by_cases h2 : b = k
    · subst h2
      rw [if_pos rfl]
      unfold lt3
      omega
    · rw [if_neg h2]
      exact h.behind b (by omega) hbi
  · rw [e (k - 1), e a, if_pos rfl, if_neg ha9]
    by_cases h2 : a = k
    · subst h2
      rw [if_pos rfl]
      exact h.last (a - 1) (by omega) (by omega)
    · rw [if_neg h2]
      exact h.last a ha h2
theorem lt3_trans {p : Nat → Nat × Int} {a b c : Nat} (h : lt3 p a b) (k : lt3 p b c) : lt3 p a c := by
  unfold lt3 at *
  omega
theorem Mv.stop {p : Nat → Nat × Int} {L : List Nat} {i k : Nat} (h : Mv p L i k) (hk : 0 < k) (hki : k ≤ i) (hg : gt2 p (L.getD (k - 1) 0) (L.getD k 0) = false) : Sd p L (i + 1) := by
  have hg2 : ¬ ((p (L.getD k 0)).1 < (p (L.getD (k - 1) 0)).1 ∨ ((p (L.getD (k - 1) 0)).1 = (p (L.getD k 0)).1 ∧ (p (L.getD k 0)).2 < (p (L.getD (k - 1) 0)).2)) := by rw [← gt2_iff, hg]; simp
  have h1 : lt3 p (L.getD (k - 1) 0) (L.getD k 0) := by
    have := h.last (k - 1) (by omega) (by omega)
    unfold lt3
    omega
  intro a b hab hb
  by_cases ha : a = k
  · subst ha
    exact h.behind b hab (by omega)
  · by_cases hb9 : b = k
    · subst hb9
      by_cases ha2 : a = b - 1
      · subst ha2; exact h1
      · exact lt3_trans (h.rest a (b - 1) (by omega) (by omega) ha (by omega)) h1
    · exact h.rest a b hab (by omega) ha hb9
theorem Mv.done {p : Nat → Nat × Int} {L : List Nat} {i : Nat} (h : Mv p L i 0) : Sd p L (i + 1) := fun a b hab hb => by
  by_cases ha : a = 0
  · subst ha; exact h.behind b hab (by omega)
  · exact h.rest a b hab (by omega) ha (by omega)
theorem Sd.quiet {p : Nat → Nat × Int} {L : List Nat} {i k : Nat} (h : Sd p L (i + 1)) (hk : 0 < k) (hki : k ≤ i) : gt2 p (L.getD (k - 1) 0) (L.getD k 0) = false := by
  have q := h (k - 1) k (by omega) (by omega)
  cases hg : gt2 p (L.getD (k - 1) 0) (L.getD k 0) with
  | false => rfl
  | true =>
    rw [gt2_iff] at hg
    unfold lt3 at q
    omega
/-- The places of hosts that are up. -/
def pk (hs : List HM) (i : Nat) : Nat × Int := keyP (hs.getD i default)
def upTo (hs : List HM) (k : Nat) : List Nat := (List.range k).filter fun i => (hs.getD i default).up
theorem upTo_step (hs : List HM) (k : Nat) : upTo hs (k + 1) = upTo hs k ++ if (hs.getD k default).up = true then [k] else [] := by
  unfold upTo
  rw [List.range_succ, List.filter_append]
  congr 1
  rw [List.filter_cons, List.filter_nil]
theorem upTo_lt (hs : List HM) (k : Nat) : ∀ x ∈ upTo hs k, x < k := fun x hx => by simpa using (List.mem_filter.1 hx).1
theorem upTo_up (hs : List HM) (k : Nat) : (upTo hs k).Pairwise (· < ·) := List.Pairwise.filter _ List.pairwise_lt_range
theorem upTo_len (hs : List HM) (k : Nat) : (upTo hs k).length ≤ k := by
  have := List.length_filter_le (fun i => (hs.getD i default).up) (List.range k)
  simpa [upTo] using this
/-- One sets out. -/
theorem mv_start {p : Nat → Nat × Int} {L U : List Nat} {i : Nat} (h : Sd p L i) (hp : L.Perm U) (hU : U.Pairwise (· < ·)) (hr : ∀ t, i ≤ t → L[t]? = U[t]?) (hi : i < L.length) : Mv p L i i := by
  refine ⟨fun a b hab hb ha9 hb9 => h a b hab (by omega), fun b hb hbi => by omega, fun a ha ha9 => ?_⟩
  have hd : L.drop i = U.drop i := by
    apply List.ext_getElem?
    intro t
    rw [List.getElem?_drop, List.getElem?_drop]
    exact hr _ (by omega)
  have ht : (L.take i).Perm (U.take i) := by
    have q : (L.take i ++ L.drop i).Perm (U.take i ++ U.drop i) := by rw [List.take_append_drop, List.take_append_drop]; exact hp
    rw [hd] at q
    exact (List.perm_append_right_iff _).1 q
  have hUi : i < U.length := by rw [← hp.length_eq]; exact hi
  have hLi : L.getD i 0 = U[i] := by
    have := hr i (Nat.le_refl _)
    rw [List.getD, this, List.getElem?_eq_getElem hUi]
    rfl
  have ha' : a < i := by omega
  have hLa : L.getD a 0 ∈ L.take i := by
    have e : L.getD a 0 = (L.take i)[a]'(by rw [List.length_take]; omega) := by rw [List.getElem_take]; simp [List.getD, show a < L.length by omega]
    rw [e]
    exact List.getElem_mem _
  have hm := ht.mem_iff.1 hLa
  obtain ⟨c, hc, e⟩ := List.getElem_of_mem hm
  rw [List.length_take] at hc
  rw [List.getElem_take] at e
  rw [hLi, ← e]
  exact List.pairwise_iff_getElem.1 hU c i (by omega) hUi (by omega)
/-- The places in their order. -/
def OrdI (hs : List HM) (L : List Nat) : Prop := Sd (pk hs) L L.length ∧ L.Perm (upTo hs hs.length)
theorem upTo_pairs (hs : List HM) : (upTo hs hs.length).map (pk hs) = upPairs hs := by
  have e : (List.range hs.length).map (fun i => hs.getD i default) = hs := by
    apply List.ext_getElem
    · simp
    · intro i h1 h2
      simp [List.getD, h2]
  unfold upPairs
  conv => rhs; rw [← e]
  rw [List.filter_map, List.map_map]
  rfl
end Go.Proofs.Ytoaifodmjkhiiaa
