/- Texts of ours, laid one behind the other: OrM, HeM, GrwB, HpA, HeA, OwS, HeB. -/
import Derived.Test.YtoaifodmjkhiiaaPy3
import Derived.BigQuiet
import Derived.OrdersHeld
import Derived.Handy
import Derived.Maps.AppendAt
/- OrM: The order in which hosts take units, plain: an insertion of places, by load, then number, then place. -/
namespace Go.Proofs.Ytoaifodmjkhiiaa
set_option maxRecDepth 100000
open Go.RowKit

/-- One place ahead of another. -/
def lt3 (p : Nat → Nat × Int) (a b : Nat) : Prop := (p a).1 < (p b).1 ∨ ((p a).1 = (p b).1 ∧ ((p a).2 < (p b).2 ∨ ((p a).2 = (p b).2 ∧ a < b)))
/-- What the model asks. -/
def gt2 (p : Nat → Nat × Int) (a b : Nat) : Bool := decide ((p b).1 < (p a).1) || ((p a).1 == (p b).1 && decide ((p b).2 < (p a).2))
theorem gt2_iff (p : Nat → Nat × Int) (a b : Nat) : gt2 p a b = true ↔ (p b).1 < (p a).1 ∨ ((p a).1 = (p b).1 ∧ (p b).2 < (p a).2) := by
  unfold gt2
  simp
/-- Sorted, up to a place. -/
def Sd (p : Nat → Nat × Int) (L : List Nat) (i : Nat) : Prop := ∀ a b, a < b → b < i → lt3 p (L.getD a 0) (L.getD b 0)
/-- One is on its way, from place i to place k. -/
structure Mv (p : Nat → Nat × Int) (L : List Nat) (i k : Nat) : Prop where
  rest : ∀ a b, a < b → b ≤ i → a ≠ k → b ≠ k → lt3 p (L.getD a 0) (L.getD b 0)
  behind : ∀ b, k < b → b ≤ i → lt3 p (L.getD k 0) (L.getD b 0)
  last : ∀ a, a ≤ i → a ≠ k → L.getD a 0 < L.getD k 0
def swapL (L : List Nat) (k : Nat) : List Nat := (L.set k (L.getD (k - 1) 0)).set (k - 1) (L.getD k 0)
theorem swapL_len (L : List Nat) (k : Nat) : (swapL L k).length = L.length := by simp [swapL]
theorem swapL_at (L : List Nat) (k : Nat) (hk : 0 < k) (hl : k < L.length) (t : Nat) : (swapL L k).getD t 0 = if t = k - 1 then L.getD k 0 else if t = k then L.getD (k - 1) 0 else L.getD t 0 := by
  unfold swapL
  simp only [List.getD, List.getElem?_set, List.length_set]
  by_cases h1 : k - 1 = t
  · subst h1
    simp [show k - 1 < L.length by omega]
  · by_cases h2 : k = t
    · subst h2
      simp [hl, h1, show ¬ k = k - 1 by omega]
    · simp [h1, h2, Ne.symm h1, Ne.symm h2]
theorem swapL_perm (L : List Nat) (k : Nat) (hk : 0 < k) (hl : k < L.length) : (swapL L k).Perm L := by
  have e1 : L.getD (k - 1) 0 = L[k - 1] := by simp [List.getD, show k - 1 < L.length by omega]
  have e2 : L.getD k 0 = L[k] := by simp [List.getD, hl]
  have hL : L = L.take (k - 1) ++ L[k - 1] :: L[k] :: L.drop (k + 1) := by
    have q1 : L.drop (k - 1) = L[k - 1] :: L.drop k := by rw [List.drop_eq_getElem_cons (by omega)]; congr 1; congr 1; omega
    have q2 : L.drop k = L[k] :: L.drop (k + 1) := List.drop_eq_getElem_cons hl
    conv => lhs; rw [← List.take_append_drop (k - 1) L, q1, q2]
  have hS : swapL L k = L.take (k - 1) ++ L[k] :: L[k - 1] :: L.drop (k + 1) := by
    apply List.ext_getElem?
    intro t
    have lt : (L.take (k - 1)).length = k - 1 := by rw [List.length_take]; omega
    unfold swapL
    rw [e1, e2]
    simp only [List.getElem?_set, List.length_set]
    by_cases h5 : t < k - 1
    · rw [if_neg (by omega), if_neg (by omega), List.getElem?_append_left (by omega), List.getElem?_take, if_pos h5]
    · rw [List.getElem?_append_right (by omega), lt]
      by_cases h3 : t = k - 1
      · subst h3
        rw [if_pos rfl, if_pos (by omega), Nat.sub_self]
        rfl
      · rw [if_neg (by omega)]
        by_cases h4 : t = k
        · subst h4
          rw [if_pos rfl, if_pos hl, show t - (t - 1) = 1 by omega]
          rfl
        · rw [if_neg (by omega)]
          obtain ⟨z, hz⟩ : ∃ z, t - (k - 1) = z + 2 := ⟨t - (k - 1) - 2, by omega⟩
          rw [hz]
          simp only [List.getElem?_cons_succ, List.getElem?_drop]
          congr 1
          omega
  rw [hS]
  conv => rhs; rw [hL]
  exact List.Perm.append_left _ (List.Perm.swap _ _ _)
theorem Mv.swap {p : Nat → Nat × Int} {L : List Nat} {i k : Nat} (h : Mv p L i k) (hk : 0 < k) (hki : k ≤ i) (hl : i < L.length) (hg : gt2 p (L.getD (k - 1) 0) (L.getD k 0) = true) : Mv p (swapL L k) i (k - 1) := by
  have e := swapL_at L k hk (by omega)
  rw [gt2_iff] at hg
  refine ⟨fun a b hab hb ha9 hb9 => ?_, fun b hb hbi => ?_, fun a ha ha9 => ?_⟩
  · rw [e a, e b, if_neg ha9, if_neg hb9]
    by_cases h1 : a = k
    · subst h1
      rw [if_pos rfl, if_neg (by omega)]
      exact h.rest (a - 1) b (by omega) hb (by omega) (by omega)
    · rw [if_neg h1]
      by_cases h2 : b = k
      · subst h2
        rw [if_pos rfl]
        exact h.rest a (b - 1) (by omega) (by omega) (by omega) (by omega)
      · rw [if_neg h2]
        exact h.rest a b hab hb h1 h2
  · rw [e (k - 1), e b, if_pos rfl, if_neg (by omega)]
    by_cases h2 : b = k
    · subst h2
      rw [if_pos rfl]
      unfold lt3
      omega
    · rw [if_neg h2]
      exact h.behind b (by omega) hbi
  · rw [e (k - 1), e a, if_pos rfl, if_neg ha9]
    by_cases h2 : a = k
    · subst h2
      rw [if_pos rfl]
      exact h.last (a - 1) (by omega) (by omega)
    · rw [if_neg h2]
      exact h.last a ha h2
theorem lt3_trans {p : Nat → Nat × Int} {a b c : Nat} (h : lt3 p a b) (k : lt3 p b c) : lt3 p a c := by
  unfold lt3 at *
  omega
theorem Mv.stop {p : Nat → Nat × Int} {L : List Nat} {i k : Nat} (h : Mv p L i k) (hk : 0 < k) (hki : k ≤ i) (hg : gt2 p (L.getD (k - 1) 0) (L.getD k 0) = false) : Sd p L (i + 1) := by
  have hg2 : ¬ ((p (L.getD k 0)).1 < (p (L.getD (k - 1) 0)).1 ∨ ((p (L.getD (k - 1) 0)).1 = (p (L.getD k 0)).1 ∧ (p (L.getD k 0)).2 < (p (L.getD (k - 1) 0)).2)) := by rw [← gt2_iff, hg]; simp
  have h1 : lt3 p (L.getD (k - 1) 0) (L.getD k 0) := by
    have := h.last (k - 1) (by omega) (by omega)
    unfold lt3
    omega
  intro a b hab hb
  by_cases ha : a = k
  · subst ha
    exact h.behind b hab (by omega)
  · by_cases hb9 : b = k
    · subst hb9
      by_cases ha2 : a = b - 1
      · subst ha2; exact h1
      · exact lt3_trans (h.rest a (b - 1) (by omega) (by omega) ha (by omega)) h1
    · exact h.rest a b hab (by omega) ha hb9
theorem Mv.done {p : Nat → Nat × Int} {L : List Nat} {i : Nat} (h : Mv p L i 0) : Sd p L (i + 1) := fun a b hab hb => by
  by_cases ha : a = 0
  · subst ha; exact h.behind b hab (by omega)
  · exact h.rest a b hab (by omega) ha (by omega)
theorem Sd.quiet {p : Nat → Nat × Int} {L : List Nat} {i k : Nat} (h : Sd p L (i + 1)) (hk : 0 < k) (hki : k ≤ i) : gt2 p (L.getD (k - 1) 0) (L.getD k 0) = false := by
  have q := h (k - 1) k (by omega) (by omega)
  cases hg : gt2 p (L.getD (k - 1) 0) (L.getD k 0) with
  | false => rfl
  | true =>
    rw [gt2_iff] at hg
    unfold lt3 at q
    omega
/-- The places of hosts that are up. -/
def pk (hs : List HM) (i : Nat) : Nat × Int := keyP (hs.getD i default)
def upTo (hs : List HM) (k : Nat) : List Nat := (List.range k).filter fun i => (hs.getD i default).up
theorem upTo_step (hs : List HM) (k : Nat) : upTo hs (k + 1) = upTo hs k ++ if (hs.getD k default).up = true then [k] else [] := by
  unfold upTo
  rw [List.range_succ, List.filter_append]
  congr 1
  rw [List.filter_cons, List.filter_nil]
theorem upTo_lt (hs : List HM) (k : Nat) : ∀ x ∈ upTo hs k, x < k := fun x hx => by simpa using (List.mem_filter.1 hx).1
theorem upTo_up (hs : List HM) (k : Nat) : (upTo hs k).Pairwise (· < ·) := List.Pairwise.filter _ List.pairwise_lt_range
theorem upTo_len (hs : List HM) (k : Nat) : (upTo hs k).length ≤ k := by
  have := List.length_filter_le (fun i => (hs.getD i default).up) (List.range k)
  simpa [upTo] using this
/-- One sets out. -/
theorem mv_start {p : Nat → Nat × Int} {L U : List Nat} {i : Nat} (h : Sd p L i) (hp : L.Perm U) (hU : U.Pairwise (· < ·)) (hr : ∀ t, i ≤ t → L[t]? = U[t]?) (hi : i < L.length) : Mv p L i i := by
  refine ⟨fun a b hab hb ha9 hb9 => h a b hab (by omega), fun b hb hbi => by omega, fun a ha ha9 => ?_⟩
  have hd : L.drop i = U.drop i := by
    apply List.ext_getElem?
    intro t
    rw [List.getElem?_drop, List.getElem?_drop]
    exact hr _ (by omega)
  have ht : (L.take i).Perm (U.take i) := by
    have q : (L.take i ++ L.drop i).Perm (U.take i ++ U.drop i) := by rw [List.take_append_drop, List.take_append_drop]; exact hp
    rw [hd] at q
    exact (List.perm_append_right_iff _).1 q
  have hUi : i < U.length := by rw [← hp.length_eq]; exact hi
  have hLi : L.getD i 0 = U[i] := by
    have := hr i (Nat.le_refl _)
    rw [List.getD, this, List.getElem?_eq_getElem hUi]
    rfl
  have ha' : a < i := by omega
  have hLa : L.getD a 0 ∈ L.take i := by
    have e : L.getD a 0 = (L.take i)[a]'(by rw [List.length_take]; omega) := by rw [List.getElem_take]; simp [List.getD, show a < L.length by omega]
    rw [e]
    exact List.getElem_mem _
  have hm := ht.mem_iff.1 hLa
  obtain ⟨c, hc, e⟩ := List.getElem_of_mem hm
  rw [List.length_take] at hc
  rw [List.getElem_take] at e
  rw [hLi, ← e]
  exact List.pairwise_iff_getElem.1 hU c i (by omega) hUi (by omega)
/-- The places in their order. -/
def OrdI (hs : List HM) (L : List Nat) : Prop := Sd (pk hs) L L.length ∧ L.Perm (upTo hs hs.length)
theorem upTo_pairs (hs : List HM) : (upTo hs hs.length).map (pk hs) = upPairs hs := by
  have e : (List.range hs.length).map (fun i => hs.getD i default) = hs := by
    apply List.ext_getElem
    · simp
    · intro i h1 h2
      simp [List.getD, h2]
  unfold upPairs
  conv => rhs; rw [← e]
  rw [List.filter_map, List.map_map]
  rfl
end Go.Proofs.Ytoaifodmjkhiiaa
/- HeM: A heap of places, plain: how one goes up, how one goes down, who comes first. -/
namespace Go.Proofs.Ytoaifodmjkhiiaa
set_option maxRecDepth 100000
open Go.RowKit

def par (k : Nat) : Nat := (k - 1) / 2
def sw (Q : List Nat) (i j : Nat) : List Nat := (Q.set i (Q.getD j 0)).set j (Q.getD i 0)
theorem sw_len (Q : List Nat) (i j : Nat) : (sw Q i j).length = Q.length := by simp [sw]
theorem sw_at (Q : List Nat) (i j : Nat) (hi : i < Q.length) (hj : j < Q.length) (t : Nat) : (sw Q i j).getD t 0 = if t = j then Q.getD i 0 else if t = i then Q.getD j 0 else Q.getD t 0 := by
  unfold sw
  simp only [List.getD, List.getElem?_set, List.length_set]
  by_cases h1 : j = t
  · subst h1
    simp [hj]
  · by_cases h2 : i = t
    · subst h2
      simp [hi, h1, Ne.symm h1]
    · simp [h1, h2, Ne.symm h1, Ne.symm h2]
theorem sw_perm (Q : List Nat) (i j : Nat) (hi : i < Q.length) (hj : j < Q.length) : (sw Q i j).Perm Q := by
  have e1 : Q.getD i 0 = Q[i] := by simp [List.getD, hi]
  have e2 : Q.getD j 0 = Q[j] := by simp [List.getD, hj]
  unfold sw
  rw [e1, e2]
  exact List.set_set_perm hi hj
theorem lt3_asymm {p : Nat → Nat × Int} {a b : Nat} (h : lt3 p a b) : ¬ lt3 p b a := by
  unfold lt3 at *
  omega
theorem le3_trans {p : Nat → Nat × Int} {a b c : Nat} (h : ¬ lt3 p b a) (k : ¬ lt3 p c b) : ¬ lt3 p c a := by
  unfold lt3 at *
  omega
/-- A heap, up to a place. -/
def HpN (p : Nat → Nat × Int) (Q : List Nat) (n : Nat) : Prop := ∀ k, 0 < k → k < n → ¬ lt3 p (Q.getD k 0) (Q.getD (par k) 0)
theorem par_lt {k : Nat} (h : 0 < k) : par k < k := by unfold par; omega
theorem HpN.first {p : Nat → Nat × Int} {Q : List Nat} {n : Nat} (h : HpN p Q n) : ∀ k, k < n → ¬ lt3 p (Q.getD k 0) (Q.getD 0 0) := by
  intro k
  induction k using Nat.strongRecOn with
  | ind k ih =>
    intro hk
    by_cases h0 : k = 0
    · subst h0
      unfold lt3
      omega
    · have l := par_lt (k := k) (by omega)
      exact le3_trans (ih _ l (by omega)) (h k (by omega) hk)
/-- One is on its way up. -/
structure UpI (p : Nat → Nat × Int) (Q : List Nat) (n j : Nat) : Prop where
  rest : ∀ k, 0 < k → k < n → k ≠ j → ¬ lt3 p (Q.getD k 0) (Q.getD (par k) 0)
  kids : ∀ k, 0 < k → k < n → par k = j → 0 < j → ¬ lt3 p (Q.getD k 0) (Q.getD (par j) 0)
theorem UpI.done {p : Nat → Nat × Int} {Q : List Nat} {n : Nat} (h : UpI p Q n 0) : HpN p Q n := fun k h0 hk => h.rest k h0 hk (by omega)
theorem UpI.stop {p : Nat → Nat × Int} {Q : List Nat} {n j : Nat} (h : UpI p Q n j) (hl : ¬ lt3 p (Q.getD j 0) (Q.getD (par j) 0)) : HpN p Q n := fun k h0 hk => by
  by_cases e : k = j
  · subst e; exact hl
  · exact h.rest k h0 hk e
theorem UpI.swap {p : Nat → Nat × Int} {Q : List Nat} {n j : Nat} (h : UpI p Q n j) (h0 : 0 < j) (hj : j < n) (hn : n ≤ Q.length) (hl : lt3 p (Q.getD j 0) (Q.getD (par j) 0)) : UpI p (sw Q (par j) j) n (par j) := by
  have l := par_lt h0
  have e := sw_at Q (par j) j (by omega) (by omega)
  refine ⟨fun k k0 kn kj => ?_, fun k k0 kn kj i0 => ?_⟩
  · have lk := par_lt k0
    by_cases c1 : k = j
    · subst c1
      rw [e k, if_pos rfl, e (par k), if_neg (by omega), if_pos rfl]
      exact lt3_asymm hl
    · rw [e k, if_neg c1, if_neg kj]
      by_cases c2 : par k = j
      · rw [e (par k), if_pos c2]
        exact h.kids k k0 kn c2 h0
      · by_cases c3 : par k = par j
        · rw [e (par k), if_neg c2, if_pos c3]
          have q := h.rest k k0 kn c1
          rw [c3] at q
          exact le3_trans (lt3_asymm hl) q
        · rw [e (par k), if_neg c2, if_neg c3]
          exact h.rest k k0 kn c1
  · have li := par_lt i0
    have lk := par_lt k0
    rw [e (par (par j)), if_neg (by omega), if_neg (by omega)]
    have q := h.rest (par j) i0 (by omega) (by omega)
    by_cases c1 : k = j
    · subst c1
      rw [e k, if_pos rfl]
      exact q
    · rw [e k, if_neg c1, if_neg (by omega)]
      have q2 := h.rest k k0 kn c1
      rw [kj] at q2
      exact le3_trans q q2
/-- One is put behind a heap. -/
theorem HpN.more {p : Nat → Nat × Int} {Q : List Nat} (h : HpN p Q Q.length) (x : Nat) : UpI p (Q ++ [x]) (Q.length + 1) Q.length := by
  have e : ∀ k, k < Q.length → (Q ++ [x]).getD k 0 = Q.getD k 0 := fun k hk => by simp [List.getD, List.getElem?_append_left hk]
  refine ⟨fun k k0 kn kj => ?_, fun k k0 kn kj _ => ?_⟩
  · have lk := par_lt k0
    rw [e k (by omega), e (par k) (by omega)]
    exact h k k0 (by omega)
  · have lk := par_lt k0
    omega
/-- One is on its way down. -/
structure DnI (p : Nat → Nat × Int) (Q : List Nat) (n i : Nat) : Prop where
  rest : ∀ k, 0 < k → k < n → par k ≠ i → ¬ lt3 p (Q.getD k 0) (Q.getD (par k) 0)
  kids : ∀ k, 0 < k → k < n → par k = i → 0 < i → ¬ lt3 p (Q.getD k 0) (Q.getD (par i) 0)
theorem par_is {k i : Nat} (h0 : 0 < k) : par k = i ↔ k = 2 * i + 1 ∨ k = 2 * i + 2 := by unfold par; omega
theorem DnI.stop {p : Nat → Nat × Int} {Q : List Nat} {n i : Nat} (h : DnI p Q n i) (h1 : 2 * i + 1 < n → ¬ lt3 p (Q.getD (2 * i + 1) 0) (Q.getD i 0)) (h2 : 2 * i + 2 < n → ¬ lt3 p (Q.getD (2 * i + 2) 0) (Q.getD i 0)) : HpN p Q n := fun k h0 hk => by
  by_cases e : par k = i
  · rw [e]
    rcases (par_is h0).1 e with rfl | rfl
    · exact h1 hk
    · exact h2 hk
  · exact h.rest k h0 hk e
theorem DnI.swap {p : Nat → Nat × Int} {Q : List Nat} {n i j : Nat} (h : DnI p Q n i) (hj : par j = i) (h0 : 0 < j) (hjn : j < n) (hn : n ≤ Q.length) (hl : lt3 p (Q.getD j 0) (Q.getD i 0))
    (h1 : ¬ lt3 p (Q.getD (2 * i + 1) 0) (Q.getD j 0)) (h2 : 2 * i + 2 < n → ¬ lt3 p (Q.getD (2 * i + 2) 0) (Q.getD j 0)) : DnI p (sw Q i j) n j := by
  have l := par_lt h0
  have e := sw_at Q i j (by omega) (by omega)
  refine ⟨fun k k0 kn kj => ?_, fun k k0 kn kj _ => ?_⟩
  · have lk := par_lt k0
    by_cases c1 : k = j
    · subst c1
      rw [e k, if_pos rfl, hj, e i, if_neg (by omega), if_pos rfl]
      exact lt3_asymm hl
    · rw [e k, if_neg c1]
      by_cases c2 : k = i
      · subst c2
        rw [if_pos rfl, e (par k), if_neg kj, if_neg (by omega)]
        exact h.kids j h0 hjn hj k0
      · rw [if_neg c2, e (par k), if_neg kj]
        by_cases c3 : par k = i
        · rw [if_pos c3]
          rcases (par_is k0).1 c3 with rfl | rfl
          · exact h1
          · exact h2 kn
        · rw [if_neg c3]
          exact h.rest k k0 kn c3
  · have lk := par_lt k0
    rw [hj, e i, if_neg (by omega), if_pos rfl, e k, if_neg (by omega), if_neg (by omega)]
    have q := h.rest k k0 kn (by omega)
    rw [kj] at q
    exact q
/-- The first one goes to the end. -/
theorem HpN.pop {p : Nat → Nat × Int} {Q : List Nat} {n : Nat} (h : HpN p Q (n + 1)) (hn : Q.length = n + 1) : DnI p (sw Q 0 n) n 0 := by
  have e := sw_at Q 0 n (by omega) (by omega)
  refine ⟨fun k k0 kn kj => ?_, fun k k0 kn kj i0 => by omega⟩
  have lk := par_lt k0
  rw [e k, if_neg (by omega), if_neg (by omega), e (par k), if_neg (by omega), if_neg (by omega)]
  exact h k k0 (by omega)
theorem HpN.take {p : Nat → Nat × Int} {Q : List Nat} {n : Nat} (h : HpN p Q n) : HpN p (Q.take n) n := by
  have e : ∀ k, k < n → (Q.take n).getD k 0 = Q.getD k 0 := fun k hk => by simp [List.getD, hk]
  intro k k0 kn
  have lk := par_lt k0
  rw [e k kn, e (par k) (by omega)]
  exact h k k0 kn
/-- Those that came first, and those that wait. -/
structure Out (p : Nat → Nat × Int) (U P Q : List Nat) : Prop where
  all : (P ++ Q).Perm U
  up : P.Pairwise fun a b => ¬ lt3 p b a
  ahead : ∀ a ∈ P, ∀ b ∈ Q, ¬ lt3 p b a
theorem Out.start {p : Nat → Nat × Int} {U Q : List Nat} (h : Q.Perm U) : Out p U [] Q := ⟨h, .nil, fun a ha => by cases ha⟩
theorem Out.next {p : Nat → Nat × Int} {U P Q R : List Nat} {n : Nat} (h : Out p U P Q) (hh : HpN p Q (n + 1)) (hn : Q.length = n + 1) (hr : R.Perm Q) (hl : R.getD n 0 = Q.getD 0 0) : Out p U (P ++ [Q.getD 0 0]) (R.take n) := by
  have hrl := hr.length_eq
  have e : R = R.take n ++ [Q.getD 0 0] := by
    have e1 : R[n]'(by omega) = Q.getD 0 0 := by rw [← hl]; simp [List.getD, show n < R.length by omega]
    have e2 : R.take (n + 1) = R := List.take_of_length_le (by omega)
    conv => lhs; rw [← e2]
    rw [List.take_succ_eq_append_getElem (by omega), e1]
  have hq : (Q.getD 0 0 :: R.take n).Perm Q := by
    refine List.Perm.trans ?_ hr
    conv => rhs; rw [e]
    exact (List.perm_append_comm (l₁ := [Q.getD 0 0]) (l₂ := R.take n))
  have q0 : Q.getD 0 0 ∈ Q := hq.mem_iff.1 (List.mem_cons_self ..)
  refine ⟨?_, ?_, fun a ha b hb => ?_⟩
  · rw [List.append_assoc]
    exact (hq.append_left P).trans h.all
  · rw [List.pairwise_append]
    refine ⟨h.up, List.pairwise_singleton _ _, fun a ha b hb => ?_⟩
    rw [List.mem_singleton.1 hb]
    exact h.ahead a ha _ q0
  · have hbQ : b ∈ Q := hq.mem_iff.1 (List.mem_cons_of_mem _ hb)
    rcases List.mem_append.1 ha with ha | ha
    · exact h.ahead a ha b hbQ
    · rw [List.mem_singleton.1 ha]
      obtain ⟨k, hk, rfl⟩ := List.getElem_of_mem hbQ
      have := hh.first k (by omega)
      simpa [List.getD, hk] using this
/-- Who came first are the first of the order. -/
theorem Out.is {hs : List HM} {P Q : List Nat} (h : Out (pk hs) (upTo hs hs.length) P Q) : P.map (pk hs) = (ordP hs).take P.length := by
  have hle : ∀ a b, ¬ lt3 (pk hs) b a → plLe (pk hs a) (pk hs b) = true := fun a b q => by
    rw [plLe_iff]
    unfold lt3 at q
    omega
  have e : P.map (pk hs) ++ (Q.map (pk hs)).mergeSort plLe = ordP hs := by
    refine ordP_of ?_ ?_
    · rw [← upTo_pairs]
      refine List.Perm.trans (List.Perm.append_left _ (List.mergeSort_perm _ _)) ?_
      rw [← List.map_append]
      exact h.all.map _
    · rw [List.pairwise_append]
      refine ⟨?_, List.pairwise_mergeSort (fun a b c h k => by rw [plLe_iff] at *; omega) (fun a b => by rw [Bool.or_eq_true, plLe_iff, plLe_iff]; omega) _, fun a ha b hb => ?_⟩
      · rw [List.pairwise_map]
        exact h.up.imp fun q => hle _ _ q
      · obtain ⟨x, hx, rfl⟩ := List.mem_map.1 ha
        obtain ⟨y, hy, rfl⟩ := List.mem_map.1 ((List.mergeSort_perm _ _).mem_iff.1 hb)
        exact hle x y (h.ahead x hx y hy)
  rw [← e, List.take_append_of_le_length (by simp), List.take_of_length_le (by simp)]
end Go.Proofs.Ytoaifodmjkhiiaa
/- GrwB: A region that draws its order, some of whose operations make memory: what answers one value in every later world is taken first, calls that only make memory too. The way of the proof is that of the library's Derived.OrdersHeld, which is imported; the class of worlds is ours. -/
namespace Go.Proofs.Ytoaifodmjkhiiaa
set_option maxRecDepth 100000
open Go.RowKit

/-- A later world: more memory, what was there untouched. -/
def Later (w w' : World) : Prop := Below w.heap.size w w'
theorem Later.refl (w : World) : Later w w := Below.refl _ _
theorem Later.trans {a b c : World} (h : Later a b) (g : Later b c) : Later a c := Below.trans h (Below.mono g (Below.size h))
section
variable {P : Program} {ops : Array Oper} {Q : Exit → Act → World → Prop} {md : Region.Mode}
/-- Whatever order is picked from here on, in whatever later world. -/
def wpL (P : Program) (md : Region.Mode) (ops : Array Oper) (Q : Exit → Act → World → Prop) : Nat → Array Bool → Act → World → Prop
  | 0, l, a, w => Region.ready md ops l = [] ∧ ∀ x, Later w x → Q .normal a x
  | n + 1, l, a, w => ∀ x, Later w x → (Region.ready md ops l = [] → Q .normal a x) ∧
      ∀ i ∈ Region.ready md ops l, wpOp P ops Q i (fun a' y => Later x y ∧ wpL P md ops Q n (l.setIfInBounds i true) a' y) a x
theorem wpL_later : ∀ (n : Nat) (l : Array Bool) (a : Act) (w y : World), Later w y → wpL P md ops Q n l a w → wpL P md ops Q n l a y
  | 0, _, _, _, _, hy, h => ⟨h.1, fun x hx => h.2 x (hy.trans hx)⟩
  | _ + 1, _, _, _, _, hy, h => fun x hx => h x (hy.trans hx)
theorem wpAny_of_L : ∀ (n : Nat) (l : Array Bool) (a : Act) (w : World), wpL P md ops Q n l a w → wpAny P md ops Q n l a w
  | 0, _, _, w, h => ⟨h.1, h.2 w (Later.refl w)⟩
  | n + 1, _, _, w, h => ⟨(h w (Later.refl w)).1, fun i hi => wpOp_mono (fun a' y hh => wpAny_of_L n _ a' y hh.2) ((h w (Later.refl w)).2 i hi)⟩
/-- One value, in every later world; a call may make memory. -/
def YL (P : Program) (ops : Array Oper) (o : Oper) (v : Value) (a : Act) (w : World) : Prop :=
  (Region.wanted o (yielded ops a.tmps) = true ∧ ∀ x, Later w x → o.quietAt P a (Later x) x v) ∨ (Region.wanted o (yielded ops a.tmps) = false ∧ v = undef)
theorem YL.later {o : Oper} {v : Value} {a : Act} {w y : World} (h : YL P ops o v a w) (hy : Later w y) : YL P ops o v a y :=
  h.imp (fun q => ⟨q.1, fun x hx => q.2 x (hy.trans hx)⟩) id
theorem YL.same {o : Oper} {v : Value} {a b : Act} {w : World} (h : YL P ops o v a w) (he : execOp b.eval o = execOp a.eval o) (hw : Region.wanted o (yielded ops b.tmps) = Region.wanted o (yielded ops a.tmps)) : YL P ops o v b w := by
  unfold YL Oper.quietAt at *
  rw [he, hw]
  exact h
theorem YL.op {i : Nat} {o : Oper} {v : Value} {a : Act} {w x : World} {K : Act → World → Prop} (hi : ops[i]? = some o) (h : YL P ops o v a w) (hx : Later w x) (hk : ∀ y, Later x y → K (a.put o.dst v) y) : wpOp P ops Q i K a x := by
  unfold wpOp
  rw [hi]
  dsimp only
  rcases h with ⟨hw, hq⟩ | ⟨hw, hv⟩
  · rw [if_pos hw]
    refine Or.inl ?_
    have q := hq x hx
    unfold Oper.quietAt at q
    unfold Oper.wp
    revert q
    cases (execOp a.eval o).run P x with
    | halt _ _ => exact False.elim
    | ok r y =>
      cases r with
      | value u => rintro ⟨rfl, rfl⟩; exact hk _ (Later.refl _)
      | skip => rintro ⟨rfl, rfl⟩; exact hk _ (Later.refl _)
      | enter f args => rintro ⟨rfl, hc⟩; exact hc.mono (by rintro _ z ⟨rfl, hz⟩; exact hk _ hz)
      | _ => exact False.elim
  · rw [if_neg (by rw [hw]; exact Bool.false_ne_true), ← hv]
    exact hk _ (Later.refl _)
/-- What an operation may do to the frame: its own slot, or a call that is put off. -/
def Fr (d : Option Tmp) (a b : Act) : Prop := ∃ u, b = a.put d u ∨ ∃ f, b = { a with defers := f :: a.defers }.put d u
theorem op_frame {j : Nat} {oj : Oper} {K : Act → World → Prop} {a : Act} {x : World} (hj : ops[j]? = some oj) (h : wpOp P ops Q j K a x) : wpOp P ops Q j (fun b y => Fr oj.dst a b ∧ K b y) a x := by
  unfold wpOp at h ⊢
  rw [hj] at h ⊢
  dsimp only at h ⊢
  split
  · rename_i hw
    rw [if_pos hw] at h
    refine h.imp_left fun q => ?_
    unfold Oper.wp at q ⊢
    revert q
    cases (execOp a.eval oj).run P x with
    | halt r y => cases r <;> exact id
    | ok r y =>
      cases r with
      | value u => exact fun q => ⟨⟨u, .inl rfl⟩, q⟩
      | skip => exact fun q => ⟨⟨undef, .inl rfl⟩, q⟩
      | defer f => exact fun q => ⟨⟨undef, .inr ⟨f, rfl⟩⟩, q⟩
      | enter f args => exact fun q => Calls.mono q fun e z hz => by cases e <;> first | exact ⟨⟨_, .inl rfl⟩, hz⟩ | exact hz
      | row r args => exact fun q => Rows.mono q fun u z hz => ⟨⟨u, .inl rfl⟩, hz⟩
      | _ => exact id
  · rename_i hw
    rw [if_neg hw] at h
    exact ⟨⟨undef, .inl rfl⟩, h⟩
/-- An operation beside another that has its value already: the library's law for no world at all, and what the frame may be behind it. -/
theorem op_beside {j : Nat} {oi oj : Oper} {v : Value} {w : World} (hj : ops[j]? = some oj) (hap : oi.apart ops oj = true) (hsi : ∀ cs b, oi.op ≠ .select cs b) (hsj : ∀ cs b, oj.op ≠ .select cs b)
    (hQ : ∀ c a w, Q (.panic c) (a.put oi.dst v) w → Q (.panic c) a w) {K : Act → World → Prop} {a : Act} {x : World} (hy : YL P ops oi v a w) (h : wpOp P ops Q j K (a.put oi.dst v) x) :
    wpOp P ops Q j (fun a' y => YL P ops oi v a' w ∧ K (a'.put oi.dst v) y) a x := by
  have h3 := (Oper.apart_spec hap).2.2
  refine wpOp_mono ?_ (op_frame hj (wpOp_putIf (S := fun _ => False) hj hap hsi hsj hQ (hy.imp (fun q => ⟨q.1, fun _ hf => hf.elim⟩) id) h))
  rintro b y ⟨⟨u, rfl | ⟨f, rfl⟩⟩, -, hk⟩
  · exact ⟨hy.same (execOp_put oi hsi a oj.dst u h3) (wanted_put oi a oj.dst u h3), hk⟩
  · have q : YL P ops oi v { a with defers := f :: a.defers } w := hy.same rfl rfl
    exact ⟨q.same (execOp_put oi hsi _ oj.dst u h3) (wanted_put oi _ oj.dst u h3), hk⟩
/-- Who may come up waits for nobody who has not come up. -/
theorem ready_free {l : Array Bool} {i j : Nat} {oj : Oper} (hi : i ∈ Region.ready md ops l) (hj : j ∈ Region.ready md ops l) (ho : ops[j]? = some oj) : ∀ e ∈ oj.after, Region.binds md e = true → e.on ≠ i := by
  obtain ⟨-, o', ho', hall⟩ := mem_ready.1 hj
  obtain rfl : oj = o' := Option.some.inj (ho.symm.trans ho')
  rintro e he hb rfl
  have q := hall e he hb
  have z := (mem_ready.1 hi).1
  grind
theorem wpL_first {i : Nat} {oi : Oper} {v : Value} (hi : ops[i]? = some oi) (hsel : ∀ (j : Nat) (o : Oper) cs b, ops[j]? = some o → o.op ≠ .select cs b) (hQ : ∀ c a w, Q (.panic c) (a.put oi.dst v) w → Q (.panic c) a w) :
    ∀ (n : Nat) (l : Array Bool) (a : Act) (w : World), (∀ j oj, ops[j]? = some oj → j ≠ i → l.getD j true = false → (∀ e ∈ oj.after, Region.binds md e = true → e.on ≠ i) → oi.apart ops oj = true) →
      i ∈ Region.ready md ops l → YL P ops oi v a w → wpL P md ops Q n (l.setIfInBounds i true) (a.put oi.dst v) w → wpL P md ops Q (n + 1) l a w := by
  intro n
  induction n with
  | zero =>
    intro l a w _ hr hy H x hx
    refine ⟨fun h => (by rw [h] at hr; cases hr), fun j hj => ?_⟩
    by_cases hji : j = i
    · subst hji
      exact hy.op hi hx fun y hxy => ⟨hxy, wpL_later 0 _ _ _ _ (hx.trans hxy) H⟩
    · have q := ready_mono hj hji
      rw [H.1] at q
      cases q
  | succ n ih =>
    intro l a w hfree hr hy H x hx
    refine ⟨fun h => (by rw [h] at hr; cases hr), fun j hj => ?_⟩
    by_cases hji : j = i
    · subst hji
      exact hy.op hi hx fun y hxy => ⟨hxy, wpL_later (n + 1) _ _ _ _ (hx.trans hxy) H⟩
    · obtain ⟨hun, oj, hoj, -⟩ := mem_ready.1 hj
      have q := op_beside hoj (hfree j oj hoj hji hun (ready_free hr hj hoj)) (fun cs b => hsel i oi cs b hi) (fun cs b => hsel j oj cs b hoj) hQ hy ((H x hx).2 j (ready_mono hj hji))
      refine wpOp_mono (fun b y hb => ⟨hb.2.1, ih (l.setIfInBounds j true) b y (fun k ok hk hki hku hno => hfree k ok hk hki ?_ hno) (ready_mono hr (Ne.symm hji)) (hb.1.later (hx.trans hb.2.1)) ?_⟩) q
      · by_cases hjk : j = k
        · subst hjk; exact hun
        · rw [getD_set_ne true hjk] at hku; exact hku
      · rw [Array.setIfInBounds_comm _ _ hji]
        exact hb.2.2
theorem at_drop {L r : List Oper} {i : Nat} {o : Oper} (h : L.drop i = o :: r) : L.toArray[i]? = some o := by
  have q : (L.drop i)[0]? = some o := by rw [h]; rfl
  simpa using q
/-- Take number i: a value. -/
theorem wpL_val {L r : List Oper} {i : Nat} {oi : Oper} {v : Value} {n : Nat} {l : Array Bool} {a : Act} {w : World} (hi : L.drop i = oi :: r) (hs : Region.noSelect L.toArray = true) (hf : Region.free md L.toArray l i = true) (hr : (Region.ready md L.toArray l).contains i = true)
    (hQ : ∀ c a w, Q (.panic c) (a.put oi.dst v) w → Q (.panic c) a w) (hw : Region.wanted oi (yielded L.toArray a.tmps) = true) (hy : ∀ x, Later w x → (execOp a.eval oi).run P x = .ok (.value v) x)
    (h : wpL P md L.toArray Q n (l.setIfInBounds i true) (a.put oi.dst v) w) : wpL P md L.toArray Q (n + 1) l a w :=
  wpL_first (at_drop hi) (Region.noSelect_spec hs) hQ n l a w (Region.free_spec (at_drop hi) hf) (by simpa using hr) (Or.inl ⟨hw, fun x hx => by unfold Oper.quietAt; rw [hy x hx]; exact ⟨rfl, rfl⟩⟩) h
/-- Take number i: a call. -/
theorem wpL_call {L r : List Oper} {i : Nat} {oi : Oper} {v : Value} {f : FuncId} {args : Array Value} {n : Nat} {l : Array Bool} {a : Act} {w : World} (hi : L.drop i = oi :: r) (hs : Region.noSelect L.toArray = true) (hf : Region.free md L.toArray l i = true) (hr : (Region.ready md L.toArray l).contains i = true)
    (hQ : ∀ c a w, Q (.panic c) (a.put oi.dst v) w → Q (.panic c) a w) (hw : Region.wanted oi (yielded L.toArray a.tmps) = true) (hy : ∀ x, Later w x → (execOp a.eval oi).run P x = .ok (.enter f args) x)
    (hc : ∀ x, Later w x → Calls P f args x fun e y => e = .returned v ∧ Below x.heap.size x y)
    (h : wpL P md L.toArray Q n (l.setIfInBounds i true) (a.put oi.dst v) w) : wpL P md L.toArray Q (n + 1) l a w :=
  wpL_first (at_drop hi) (Region.noSelect_spec hs) hQ n l a w (Region.free_spec (at_drop hi) hf) (by simpa using hr) (Or.inl ⟨hw, fun x hx => by unfold Oper.quietAt; rw [hy x hx]; exact ⟨rfl, hc x hx⟩⟩) h
/-- One alone may come up: it is carried out in a later world. -/
theorem wpL_one {L r : List Oper} {i : Nat} {oi : Oper} {n : Nat} {l : Array Bool} {a : Act} {w : World} (hr : Region.ready md L.toArray l = [i]) (hi : L.drop i = oi :: r) (hw : Region.wanted oi (yielded L.toArray a.tmps) = true)
    (h : ∀ x, Later w x → ∃ (v : Value) (y : World), (execOp a.eval oi).run P x = .ok (.value v) y ∧ Later x y ∧ wpL P md L.toArray Q n (l.setIfInBounds i true) (a.put oi.dst v) y) : wpL P md L.toArray Q (n + 1) l a w := by
  intro x hx
  rw [hr]
  refine ⟨fun h => (by cases h), fun j hj => ?_⟩
  rw [List.mem_singleton] at hj
  subst hj
  obtain ⟨v, y, h1, h2, h3⟩ := h x hx
  unfold wpOp
  rw [at_drop hi]
  dsimp only
  rw [if_pos hw]
  refine Or.inl ?_
  unfold Oper.wp
  rw [h1]
  exact ⟨h2, h3⟩
theorem wpL_done {l : Array Bool} {a : Act} {w : World} (hr : Region.ready md ops l = []) (h : ∀ x, Later w x → Q .normal a x) : ∀ n, wpL P md ops Q n l a w
  | 0 => ⟨hr, h⟩
  | _ + 1 => fun x hx => ⟨fun _ => h x hx, by rw [hr]; simp⟩
theorem wp_region_later {id : Nat} {a : Act} {w : World} (hm : P.follows .mixedOrders = true) (h : wpL P .any ops Q ops.size (Array.replicate ops.size false) a w.drew) : (Code.region id ops true).wp P Q a w :=
  wp_region_any hm (wpAny_of_L _ _ _ _ h)
end
section
variable {P : Program} {Q : Exit → Act → World → Prop} {md : Region.Mode}
/-- One alone may come up, and its call panics. -/
theorem wpL_panics {L r : List Oper} {i : Nat} {oi : Oper} {f : FuncId} {args : Array Value} {chain : List PanicEntry} {n : Nat} {l : Array Bool} {a : Act} {w : World} (hr : Region.ready md L.toArray l = [i]) (hi : L.drop i = oi :: r) (hw : Region.wanted oi (yielded L.toArray a.tmps) = true)
    (hy : ∀ x, Later w x → (execOp a.eval oi).run P x = .ok (.enter f args) x) (hc : ∀ x, Later w x → Calls P f args x fun e y => e = .panicked chain ∧ Q (.panic chain) a y) : wpL P md L.toArray Q (n + 1) l a w := by
  intro x hx
  rw [hr]
  refine ⟨fun h => (by cases h), fun j hj => ?_⟩
  rw [List.mem_singleton] at hj
  subst hj
  unfold wpOp
  rw [at_drop hi]
  dsimp only
  rw [if_pos hw]
  refine Or.inl ?_
  unfold Oper.wp
  rw [hy x hx]
  exact (hc x hx).mono (by rintro e y ⟨rfl, hq⟩; exact hq)
end
section
variable {P : Program} {Q : Exit → Act → World → Prop} {md : Region.Mode}
/-- Take number i: it is not wanted. -/
theorem wpL_skip {L r : List Oper} {i : Nat} {oi : Oper} {n : Nat} {l : Array Bool} {a : Act} {w : World} (hi : L.drop i = oi :: r) (hs : Region.noSelect L.toArray = true) (hf : Region.free md L.toArray l i = true) (hr : (Region.ready md L.toArray l).contains i = true)
    (hQ : ∀ c a w, Q (.panic c) (a.put oi.dst undef) w → Q (.panic c) a w) (hw : Region.wanted oi (yielded L.toArray a.tmps) = false)
    (h : wpL P md L.toArray Q n (l.setIfInBounds i true) (a.put oi.dst undef) w) : wpL P md L.toArray Q (n + 1) l a w :=
  wpL_first (at_drop hi) (Region.noSelect_spec hs) hQ n l a w (Region.free_spec (at_drop hi) hf) (by simpa using hr) (Or.inr ⟨hw, rfl⟩) h
end
end Go.Proofs.Ytoaifodmjkhiiaa
/- HpA: The program's own: one unit held against another; units and hosts that are right (written by gen/mkhpa.py). -/
namespace Go.Proofs.Ytoaifodmjkhiiaa
set_option maxRecDepth 100000
open Go.RowKit BigFrame
attribute [local go_sem ↓] Go.wp_at_zero Go.wp_at_succ

def cmpI (x y : Int) : Int := if x < y then -1 else if y < x then 1 else 0
def cmpU (a b : UnM) : Int := if cmpI a.group b.group = 0 then cmpI a.index b.index else cmpI a.group b.group
theorem cmpI_is (x y : Int) : (x < y ∧ cmpI x y = -1) ∨ (y < x ∧ cmpI x y = 1) ∨ (x = y ∧ cmpI x y = 0) := by
  unfold cmpI
  split
  · exact .inl ⟨by assumption, rfl⟩
  · split
    · exact .inr (.inl ⟨by assumption, rfl⟩)
    · exact .inr (.inr ⟨by omega, rfl⟩)
theorem cmpU_neg (a b : UnM) : cmpU a b < 0 ↔ unLt a b = true := by
  rw [lt_iff]
  unfold cmpU
  have h1 := cmpI_is a.group b.group
  have h2 := cmpI_is a.index b.index
  split <;> omega
theorem cmpU_zero (a b : UnM) : cmpU a b = 0 ↔ unSame a b = true := by
  rw [same_iff]
  unfold cmpU
  have h1 := cmpI_is a.group b.group
  have h2 := cmpI_is a.index b.index
  split <;> omega
theorem nan_int (x : Int) (w : World) : Calls Try.prog 99 #[.int .i64 x] w fun e w' => e = .returned (.bool false) ∧ w' = w := by
  have h : (x != x) = false := by simp
  go_enter Try.func99, Try.ntmps99
  go_wp2_with fail
  go_ret
  exact ⟨rfl, rfl⟩
theorem cmp_int (x y : Int) (w : World) : Calls Try.prog 98 #[.int .i64 x, .int .i64 y] w fun e w' => e = .returned (.int .i64 (cmpI x y)) ∧ w' = w := by
  have HN := Shut.mk (fun z => nan_int z w)
  rcases cmpI_is x y with ⟨h, e⟩ | ⟨h, e⟩ | ⟨h, e⟩
  · rw [e]
    clear e
    go_enter Try.func98, Try.ntmps98
    go_wp2_with (go_at_call 99; refine (HN.out _).mono ?_; rintro e w1 ⟨rfl, hw1⟩; subst hw1)
    go_ret
    exact ⟨rfl, rfl⟩
  · rw [e]
    have h1 : ¬ x < y := by omega
    clear e
    go_enter Try.func98, Try.ntmps98
    go_wp2_with (go_at_call 99; refine (HN.out _).mono ?_; rintro e w1 ⟨rfl, hw1⟩; subst hw1)
    go_ret
    exact ⟨rfl, rfl⟩
  · rw [e]
    have h1 : ¬ x < y := by omega
    have h2 : ¬ y < x := by omega
    clear e h
    go_enter Try.func98, Try.ntmps98
    go_wp2_with (go_at_call 99; refine (HN.out _).mono ?_; rintro e w1 ⟨rfl, hw1⟩; subst hw1)
    go_ret
    exact ⟨rfl, rfl⟩
theorem or_two (g : Nat) (x y : Int) (c : Nat) (w : World) (h0 : w.cell? ⟨g, 0, none⟩ = some (.int .i64 x)) (h1 : w.cell? ⟨g, 1, none⟩ = some (.int .i64 y)) :
    Calls Try.prog 97 #[.slice (some ⟨g, 0, none⟩) 2 c] w fun e w' => e = .returned (.int .i64 (if x = 0 then y else x)) ∧ w' = w := by
  obtain ⟨R, hR⟩ : ∃ R, R = if x = 0 then y else x := ⟨_, rfl⟩
  rw [← hR]
  have HR := Shut.mk hR
  clear hR
  go_enter Try.func97, Try.ntmps97
  go_wp2_with fail
  go_loop [8] (fun i9 => ∃ (k : Nat), i9 = .int .i64 k ∧ k ≤ 2 ∧ Shut (1 ≤ k → x = 0) ∧ Shut (2 ≤ k → y = 0)) (fun i9 => 2 - (intOf i9).toNat)
  case atStart => exact ⟨0, rfl, by omega, ⟨by omega⟩, ⟨by omega⟩⟩
  case round =>
    obtain ⟨k, rfl, hk, HX, HY⟩ := hrel
    match k, hk with
    | 0, _ =>
      by_cases hx : x = 0
      · have hx1 : (x != 0) = false := by simp [hx]
        have HX0 := Shut.mk hx
        clear hx
        go_wp2_with fail
        go_round
        case rel => exact ⟨1, by go_num, by omega, ⟨fun _ => HX0.out⟩, ⟨by omega⟩⟩
        case measure => simp [intOf]
      · have hx1 : (x != 0) = true := by simp [hx]
        have HE : Shut (R = x) := ⟨by rw [HR.out, if_neg hx]⟩
        clear hx
        go_wp2_with fail
        go_ret
        exact ⟨by rw [HE.out]; rfl, rfl⟩
    | 1, _ =>
      have HE : Shut (R = y) := ⟨by rw [HR.out, if_pos (HX.out (Nat.le_refl _))]⟩
      by_cases hy : y = 0
      · have hy1 : (y != 0) = false := by simp [hy]
        have HY0 := Shut.mk hy
        clear hy
        go_wp2_with fail
        go_round
        case rel => exact ⟨2, by go_num, by omega, ⟨fun _ => HX.out (Nat.le_refl _)⟩, ⟨fun _ => HY0.out⟩⟩
        case measure => simp [intOf]
      · have hy1 : (y != 0) = true := by simp [hy]
        clear hy
        go_wp2_with fail
        go_ret
        exact ⟨by rw [HE.out]; rfl, rfl⟩
    | 2, _ =>
      have HE : Shut (R = 0) := ⟨by rw [HR.out, if_pos (HX.out (by omega)), HY.out (Nat.le_refl _)]⟩
      go_wp2_with fail
      go_ret
      exact ⟨by rw [HE.out]; rfl, rfl⟩
end Go.Proofs.Ytoaifodmjkhiiaa
/- HeA: The program's own: a host's load; one seat held against another (written by gen/mkhea.py). -/
namespace Go.Proofs.Ytoaifodmjkhiiaa
set_option maxRecDepth 100000
open Go.RowKit BigFrame
attribute [local go_sem ↓] Go.wp_at_zero Go.wp_at_succ

theorem implLoad (H : HM) (a : Option Addr) (cap : Nat) (w : World) : Calls Try.prog 9 #[hov H a cap] w fun e w' => e = .returned (.int .i64 (H.us.length : Nat)) ∧ Below w.heap.size w w' := by
  obtain ⟨id, up, us⟩ := H
  dsimp only [hov]
  generalize us.length = n
  go_enter Try.func9, Try.ntmps9
  go_wp2_with fail
  go_ret
  exact ⟨rfl, (Below.refl _ _).alloc (Nat.le_refl _) _⟩
theorem implLoadOf (H : HM) (a : Option Addr) (cap : Nat) (w : World) (_ : UnRow w a H.us) (_ : H.us.length ≤ 1048576) (_ : unSum H.us ≤ 1048576) : Calls Try.prog 9 #[hov H a cap] w fun e w' => e = .returned (.int .i64 (H.us.length : Nat)) ∧ Below w.heap.size w w' := implLoad H a cap w
def or3 (x y z : Int) : Int := if x = 0 then (if y = 0 then z else y) else x
theorem or_three (g : Nat) (x y z : Int) (c : Nat) (w : World) (h0 : w.cell? ⟨g, 0, none⟩ = some (.int .i64 x)) (h1 : w.cell? ⟨g, 1, none⟩ = some (.int .i64 y)) (h2 : w.cell? ⟨g, 2, none⟩ = some (.int .i64 z)) :
    Calls Try.prog 97 #[.slice (some ⟨g, 0, none⟩) 3 c] w fun e w' => e = .returned (.int .i64 (or3 x y z)) ∧ w' = w := by
  obtain ⟨R, hR⟩ : ∃ R, R = or3 x y z := ⟨_, rfl⟩
  rw [← hR]
  have HR := Shut.mk hR
  unfold or3 at HR
  clear hR
  go_enter Try.func97, Try.ntmps97
  go_wp2_with fail
  go_loop [8] (fun i9 => ∃ (k : Nat), i9 = .int .i64 k ∧ k ≤ 3 ∧ Shut (1 ≤ k → x = 0) ∧ Shut (2 ≤ k → y = 0) ∧ Shut (3 ≤ k → z = 0)) (fun i9 => 3 - (intOf i9).toNat)
  case atStart => exact ⟨0, rfl, by omega, ⟨by omega⟩, ⟨by omega⟩, ⟨by omega⟩⟩
  case round =>
    obtain ⟨k, rfl, hk, HX, HY, HZ⟩ := hrel
    match k, hk with
    | 0, _ =>
      by_cases h : x = 0
      · have hx1 : (x != 0) = false := by simp [h]
        have HV0 := Shut.mk h
        clear h
        go_wp2_with fail
        go_round
        case rel => exact ⟨1, by go_num, by omega, ⟨fun _ => HV0.out⟩, ⟨by omega⟩, ⟨by omega⟩⟩
        case measure => simp [intOf]
      · have hx1 : (x != 0) = true := by simp [h]
        have HE : Shut (R = x) := ⟨by rw [HR.out, if_neg h]⟩
        clear h
        go_wp2_with fail
        go_ret
        exact ⟨by rw [HE.out]; rfl, rfl⟩
    | 1, _ =>
      by_cases h : y = 0
      · have hx1 : (y != 0) = false := by simp [h]
        have HV0 := Shut.mk h
        clear h
        go_wp2_with fail
        go_round
        case rel => exact ⟨2, by go_num, by omega, ⟨fun _ => HX.out (by omega)⟩, ⟨fun _ => HV0.out⟩, ⟨by omega⟩⟩
        case measure => simp [intOf]
      · have hx1 : (y != 0) = true := by simp [h]
        have HE : Shut (R = y) := ⟨by rw [HR.out, if_pos (HX.out (Nat.le_refl _)), if_neg h]⟩
        clear h
        go_wp2_with fail
        go_ret
        exact ⟨by rw [HE.out]; rfl, rfl⟩
    | 2, _ =>
      by_cases h : z = 0
      · have hx1 : (z != 0) = false := by simp [h]
        have HV0 := Shut.mk h
        clear h
        go_wp2_with fail
        go_round
        case rel => exact ⟨3, by go_num, by omega, ⟨fun _ => HX.out (by omega)⟩, ⟨fun _ => HY.out (by omega)⟩, ⟨fun _ => HV0.out⟩⟩
        case measure => simp [intOf]
      · have hx1 : (z != 0) = true := by simp [h]
        have HE : Shut (R = z) := ⟨by rw [HR.out, if_pos (HX.out (by omega)), if_pos (HY.out (Nat.le_refl _))]⟩
        clear h
        go_wp2_with fail
        go_ret
        exact ⟨by rw [HE.out]; rfl, rfl⟩
    | 3, _ =>
      have HE : Shut (R = 0) := ⟨by rw [HR.out, if_pos (HX.out (by omega)), if_pos (HY.out (by omega)), HZ.out (Nat.le_refl _)]⟩
      go_wp2_with fail
      go_ret
      exact ⟨by rw [HE.out]; rfl, rfl⟩
/-- A seat: where the host of a place lies, and the place. -/
def seC (b off t : Nat) : List Value := [.pointer (some ⟨b, off + t * 3, none⟩), .int .i64 (t : Nat)]
theorem seC_len (b off t : Nat) : (seC b off t).length = 2 := rfl
abbrev sev (b off t : Nat) : Value := .agg #[.pointer (some ⟨b, off + t * 3, none⟩), .int .i64 (t : Nat)]
def seS (b off : Nat) (Q : List Nat) : List Value := Q.flatMap (seC b off)
theorem seS_len (b off : Nat) (Q : List Nat) : (seS b off Q).length = Q.length * 2 := flat_len (seC_len b off) Q
/-- How one seat compares to another. -/
def cmpS (hs : List HM) (s t : Nat) : Int := or3 (cmpI (pk hs s).1 (pk hs t).1) (cmpI (pk hs s).2 (pk hs t).2) (cmpI s t)
theorem cmpS_neg (hs : List HM) (s t : Nat) : cmpS hs s t < 0 ↔ lt3 (pk hs) s t := by
  unfold cmpS or3 lt3
  have h1 := cmpI_is (pk hs s).1 (pk hs t).1
  have h2 := cmpI_is (pk hs s).2 (pk hs t).2
  have h3 := cmpI_is s t
  split <;> (try split) <;> omega
set_option maxRecDepth 100000 in
set_option maxHeartbeats 2000000 in
theorem implCmpS (b off : Nat) (rs : List HoR) (s t : Nat) (w : World) (hr : HsRow w (some ⟨b, off, none⟩) rs) (hs : s < rs.length) (ht : t < rs.length) :
    Calls Try.prog 96 #[sev b off s, sev b off t] w fun e w' => e = .returned (.int .i64 (cmpS (hms rs) s t)) ∧ Below w.heap.size w w' := by
  have HS0 := Shut.mk (((SL.start w).new #[.pointer (some ⟨b, off + s * 3, none⟩), .int .i64 (s : Nat)] 77).new #[.pointer (some ⟨b, off + t * 3, none⟩), .int .i64 (t : Nat)] 77)
  simp only [World.size_alloc] at HS0
  obtain ⟨b1, o1, r, e1, hre, lb1, hcr⟩ := hs_at hr (Below.refl _ _) hs
  obtain ⟨b2, o2, q, e2, hqe, lb2, hcq⟩ := hs_at hr (Below.refl _ _) ht
  simp only [Option.some.injEq, Addr.mk.injEq, and_true] at e1 e2
  obtain ⟨rfl, rfl⟩ := e1
  obtain ⟨rfl, rfl⟩ := e2
  have p1 : pk (hms rs) s = (r.h.us.length, r.h.id) := by unfold pk keyP; simp [hms, List.getD, hs, hre]
  have p2 : pk (hms rs) t = (q.h.us.length, q.h.id) := by unfold pk keyP; simp [hms, List.getD, ht, hqe]
  have HQ : Shut (cmpS (hms rs) s t = or3 (cmpI r.h.us.length q.h.us.length) (cmpI r.h.id q.h.id) (cmpI s t)) := ⟨by unfold cmpS; rw [p1, p2]⟩
  generalize cmpS (hms rs) s t = R at HQ ⊢
  have HL1 := Shut.mk (fun x => implLoad r.h r.loc r.cap x)
  have HL2 := Shut.mk (fun x => implLoad q.h q.loc q.cap x)
  obtain ⟨⟨rid, rup, rus⟩, rl, rc⟩ := r
  obtain ⟨⟨qid, qup, qus⟩, ql, qc⟩ := q
  dsimp only [hov] at *
  clear hre hqe p1 p2
  generalize rus.length = n1 at *
  generalize qus.length = n2 at *
  have HC1 := Shut.mk (fun x => cmp_int n1 n2 x)
  have HC2 := Shut.mk (fun x => cmp_int rid qid x)
  have HC3 := Shut.mk (fun x => cmp_int s t x)
  generalize cmpI n1 n2 = c1 at HQ HC1
  generalize cmpI rid qid = c2 at HQ HC2
  generalize cmpI s t = c3 at HQ HC3
  go_enter Try.func96, Try.ntmps96
  go_upto_region 1 with fail
  refine wp_shade (fun W => SL w W [bxS (w.heap.size + 1) [.pointer (some ⟨b, off + t * 3, none⟩), .int .i64 (t : Nat)], bxS w.heap.size [.pointer (some ⟨b, off + s * 3, none⟩), .int .i64 (s : Nat)]]) HS0.out ?_
  intro W0 hW
  have HT : Shut (∀ x, Later W0.drew x → SL w x [bxS (w.heap.size + 1) [.pointer (some ⟨b, off + t * 3, none⟩), .int .i64 (t : Nat)], bxS w.heap.size [.pointer (some ⟨b, off + s * 3, none⟩), .int .i64 (s : Nat)]]) := ⟨fun x hx => hW.drew.below hx⟩
  have HLE : Shut (∀ x, Later W0.drew x → x.cell? ⟨w.heap.size, 0, none⟩ = some (.pointer (some ⟨b, off + s * 3, none⟩)) ∧ x.cell? ⟨w.heap.size, 1, none⟩ = some (.int .i64 (s : Nat)) ∧ x.cell? ⟨w.heap.size + 1, 0, none⟩ = some (.pointer (some ⟨b, off + t * 3, none⟩)) ∧ x.cell? ⟨w.heap.size + 1, 1, none⟩ = some (.int .i64 (t : Nat)) ∧
      x.cell? ⟨b, off + s * 3, none⟩ = some (.int .i64 rid) ∧ x.cell? ⟨b, off + s * 3 + 1, none⟩ = some (.bool rup) ∧ x.cell? ⟨b, off + s * 3 + 2, none⟩ = some (.slice rl n1 rc) ∧ x.cell? ⟨b, off + t * 3, none⟩ = some (.int .i64 qid) ∧ x.cell? ⟨b, off + t * 3 + 1, none⟩ = some (.bool qup) ∧ x.cell? ⟨b, off + t * 3 + 2, none⟩ = some (.slice ql n2 qc)) := ⟨fun x hx => by
    have hb := (HT.out x hx).bel
    obtain ⟨a0, a1, a2, _⟩ := hcr x hb
    obtain ⟨a3, a4, a5, _⟩ := hcq x hb
    exact ⟨((HT.out x hx).bx 1 rfl 0 _ rfl).1, ((HT.out x hx).bx 1 rfl 1 _ rfl).1, ((HT.out x hx).bx 0 rfl 0 _ rfl).1, ((HT.out x hx).bx 0 rfl 1 _ rfl).1, a0, a1, a2, a3, a4, a5⟩⟩
  clear HS0 hW hcr hcq
  refine wp_region_later (by kernel_rfl) ?_
  refine wpL_val (i := 0) (v := ?v0) rfl (by kernel_rfl) (by kernel_rfl) (by kernel_rfl) (fun _ _ _ h => h) (by rfl) ?hy0 ?rest0
  case hy0 => (intro x hx; obtain ⟨d0, d1, d2, d3, d4, d5, d6, d7, d8, d9⟩ := HLE.out x hx; go_simp; try with_reducible rfl)
  try simp only [Act.put, List.setIfInBounds_toArray, List.set_cons_zero, List.set_cons_succ]
  refine wpL_val (i := 1) (v := ?v1) rfl (by kernel_rfl) (by kernel_rfl) (by kernel_rfl) (fun _ _ _ h => h) (by rfl) ?hy1 ?rest1
  case hy1 => (intro x hx; obtain ⟨d0, d1, d2, d3, d4, d5, d6, d7, d8, d9⟩ := HLE.out x hx; go_simp; try with_reducible rfl)
  try simp only [Act.put, List.setIfInBounds_toArray, List.set_cons_zero, List.set_cons_succ]
  refine wpL_val (i := 2) (v := ?v2) rfl (by kernel_rfl) (by kernel_rfl) (by kernel_rfl) (fun _ _ _ h => h) (by rfl) ?hy2 ?rest2
  case hy2 => (intro x hx; obtain ⟨d0, d1, d2, d3, d4, d5, d6, d7, d8, d9⟩ := HLE.out x hx; go_simp; try with_reducible rfl)
  try simp only [Act.put, List.setIfInBounds_toArray, List.set_cons_zero, List.set_cons_succ]
  refine wpL_val (i := 3) (v := ?v3) rfl (by kernel_rfl) (by kernel_rfl) (by kernel_rfl) (fun _ _ _ h => h) (by rfl) ?hy3 ?rest3
  case hy3 => (intro x hx; obtain ⟨d0, d1, d2, d3, d4, d5, d6, d7, d8, d9⟩ := HLE.out x hx; go_simp; try with_reducible rfl)
  try simp only [Act.put, List.setIfInBounds_toArray, List.set_cons_zero, List.set_cons_succ]
  refine wpL_call (i := 4) (v := .int .i64 (n1 : Nat)) (f := 9) (args := #[.agg #[.int .i64 rid, .bool rup, .slice rl n1 rc]]) rfl (by kernel_rfl) (by kernel_rfl) (by kernel_rfl) (fun _ _ _ h => h) (by rfl) ?hy4 (fun x _ => HL1.out x) ?rest4
  case hy4 => (intro x hx; obtain ⟨d0, d1, d2, d3, d4, d5, d6, d7, d8, d9⟩ := HLE.out x hx; go_simp; try with_reducible rfl)
  try simp only [Act.put, List.setIfInBounds_toArray, List.set_cons_zero, List.set_cons_succ]
  refine wpL_val (i := 5) (v := ?v5) rfl (by kernel_rfl) (by kernel_rfl) (by kernel_rfl) (fun _ _ _ h => h) (by rfl) ?hy5 ?rest5
  case hy5 => (intro x hx; obtain ⟨d0, d1, d2, d3, d4, d5, d6, d7, d8, d9⟩ := HLE.out x hx; go_simp; try with_reducible rfl)
  try simp only [Act.put, List.setIfInBounds_toArray, List.set_cons_zero, List.set_cons_succ]
  refine wpL_val (i := 6) (v := ?v6) rfl (by kernel_rfl) (by kernel_rfl) (by kernel_rfl) (fun _ _ _ h => h) (by rfl) ?hy6 ?rest6
  case hy6 => (intro x hx; obtain ⟨d0, d1, d2, d3, d4, d5, d6, d7, d8, d9⟩ := HLE.out x hx; go_simp; try with_reducible rfl)
  try simp only [Act.put, List.setIfInBounds_toArray, List.set_cons_zero, List.set_cons_succ]
  refine wpL_val (i := 7) (v := ?v7) rfl (by kernel_rfl) (by kernel_rfl) (by kernel_rfl) (fun _ _ _ h => h) (by rfl) ?hy7 ?rest7
  case hy7 => (intro x hx; obtain ⟨d0, d1, d2, d3, d4, d5, d6, d7, d8, d9⟩ := HLE.out x hx; go_simp; try with_reducible rfl)
  try simp only [Act.put, List.setIfInBounds_toArray, List.set_cons_zero, List.set_cons_succ]
  refine wpL_val (i := 8) (v := ?v8) rfl (by kernel_rfl) (by kernel_rfl) (by kernel_rfl) (fun _ _ _ h => h) (by rfl) ?hy8 ?rest8
  case hy8 => (intro x hx; obtain ⟨d0, d1, d2, d3, d4, d5, d6, d7, d8, d9⟩ := HLE.out x hx; go_simp; try with_reducible rfl)
  try simp only [Act.put, List.setIfInBounds_toArray, List.set_cons_zero, List.set_cons_succ]
  refine wpL_call (i := 9) (v := .int .i64 (n2 : Nat)) (f := 9) (args := #[.agg #[.int .i64 qid, .bool qup, .slice ql n2 qc]]) rfl (by kernel_rfl) (by kernel_rfl) (by kernel_rfl) (fun _ _ _ h => h) (by rfl) ?hy9 (fun x _ => HL2.out x) ?rest9
  case hy9 => (intro x hx; obtain ⟨d0, d1, d2, d3, d4, d5, d6, d7, d8, d9⟩ := HLE.out x hx; go_simp; try with_reducible rfl)
  try simp only [Act.put, List.setIfInBounds_toArray, List.set_cons_zero, List.set_cons_succ]
  refine wpL_call (i := 10) (v := .int .i64 c1) (f := 98) (args := #[.int .i64 (n1 : Nat), .int .i64 (n2 : Nat)]) rfl (by kernel_rfl) (by kernel_rfl) (by kernel_rfl) (fun _ _ _ h => h) (by rfl) ?hy10 (fun x _ => (HC1.out x).mono (by rintro e y ⟨rfl, hy⟩; subst hy; exact ⟨rfl, Later.refl _⟩)) ?rest10
  case hy10 => (intro x hx; obtain ⟨d0, d1, d2, d3, d4, d5, d6, d7, d8, d9⟩ := HLE.out x hx; go_simp; try with_reducible rfl)
  try simp only [Act.put, List.setIfInBounds_toArray, List.set_cons_zero, List.set_cons_succ]
  refine wpL_val (i := 11) (v := ?v11) rfl (by kernel_rfl) (by kernel_rfl) (by kernel_rfl) (fun _ _ _ h => h) (by rfl) ?hy11 ?rest11
  case hy11 => (intro x hx; obtain ⟨d0, d1, d2, d3, d4, d5, d6, d7, d8, d9⟩ := HLE.out x hx; go_simp; try with_reducible rfl)
  try simp only [Act.put, List.setIfInBounds_toArray, List.set_cons_zero, List.set_cons_succ]
  refine wpL_val (i := 12) (v := ?v12) rfl (by kernel_rfl) (by kernel_rfl) (by kernel_rfl) (fun _ _ _ h => h) (by rfl) ?hy12 ?rest12
  case hy12 => (intro x hx; obtain ⟨d0, d1, d2, d3, d4, d5, d6, d7, d8, d9⟩ := HLE.out x hx; go_simp; try with_reducible rfl)
  try simp only [Act.put, List.setIfInBounds_toArray, List.set_cons_zero, List.set_cons_succ]
  refine wpL_val (i := 13) (v := ?v13) rfl (by kernel_rfl) (by kernel_rfl) (by kernel_rfl) (fun _ _ _ h => h) (by rfl) ?hy13 ?rest13
  case hy13 => (intro x hx; obtain ⟨d0, d1, d2, d3, d4, d5, d6, d7, d8, d9⟩ := HLE.out x hx; go_simp; try with_reducible rfl)
  try simp only [Act.put, List.setIfInBounds_toArray, List.set_cons_zero, List.set_cons_succ]
  refine wpL_val (i := 14) (v := ?v14) rfl (by kernel_rfl) (by kernel_rfl) (by kernel_rfl) (fun _ _ _ h => h) (by rfl) ?hy14 ?rest14
  case hy14 => (intro x hx; obtain ⟨d0, d1, d2, d3, d4, d5, d6, d7, d8, d9⟩ := HLE.out x hx; go_simp; try with_reducible rfl)
  try simp only [Act.put, List.setIfInBounds_toArray, List.set_cons_zero, List.set_cons_succ]
  refine wpL_val (i := 15) (v := ?v15) rfl (by kernel_rfl) (by kernel_rfl) (by kernel_rfl) (fun _ _ _ h => h) (by rfl) ?hy15 ?rest15
  case hy15 => (intro x hx; obtain ⟨d0, d1, d2, d3, d4, d5, d6, d7, d8, d9⟩ := HLE.out x hx; go_simp; try with_reducible rfl)
  try simp only [Act.put, List.setIfInBounds_toArray, List.set_cons_zero, List.set_cons_succ]
  refine wpL_val (i := 16) (v := ?v16) rfl (by kernel_rfl) (by kernel_rfl) (by kernel_rfl) (fun _ _ _ h => h) (by rfl) ?hy16 ?rest16
  case hy16 => (intro x hx; obtain ⟨d0, d1, d2, d3, d4, d5, d6, d7, d8, d9⟩ := HLE.out x hx; go_simp; try with_reducible rfl)
  try simp only [Act.put, List.setIfInBounds_toArray, List.set_cons_zero, List.set_cons_succ]
  refine wpL_val (i := 17) (v := ?v17) rfl (by kernel_rfl) (by kernel_rfl) (by kernel_rfl) (fun _ _ _ h => h) (by rfl) ?hy17 ?rest17
  case hy17 => (intro x hx; obtain ⟨d0, d1, d2, d3, d4, d5, d6, d7, d8, d9⟩ := HLE.out x hx; go_simp; try with_reducible rfl)
  try simp only [Act.put, List.setIfInBounds_toArray, List.set_cons_zero, List.set_cons_succ]
  refine wpL_val (i := 18) (v := ?v18) rfl (by kernel_rfl) (by kernel_rfl) (by kernel_rfl) (fun _ _ _ h => h) (by rfl) ?hy18 ?rest18
  case hy18 => (intro x hx; obtain ⟨d0, d1, d2, d3, d4, d5, d6, d7, d8, d9⟩ := HLE.out x hx; go_simp; try with_reducible rfl)
  try simp only [Act.put, List.setIfInBounds_toArray, List.set_cons_zero, List.set_cons_succ]
  refine wpL_val (i := 19) (v := ?v19) rfl (by kernel_rfl) (by kernel_rfl) (by kernel_rfl) (fun _ _ _ h => h) (by rfl) ?hy19 ?rest19
  case hy19 => (intro x hx; obtain ⟨d0, d1, d2, d3, d4, d5, d6, d7, d8, d9⟩ := HLE.out x hx; go_simp; try with_reducible rfl)
  try simp only [Act.put, List.setIfInBounds_toArray, List.set_cons_zero, List.set_cons_succ]
  refine wpL_val (i := 20) (v := ?v20) rfl (by kernel_rfl) (by kernel_rfl) (by kernel_rfl) (fun _ _ _ h => h) (by rfl) ?hy20 ?rest20
  case hy20 => (intro x hx; obtain ⟨d0, d1, d2, d3, d4, d5, d6, d7, d8, d9⟩ := HLE.out x hx; go_simp; try with_reducible rfl)
  try simp only [Act.put, List.setIfInBounds_toArray, List.set_cons_zero, List.set_cons_succ]
  refine wpL_call (i := 21) (v := .int .i64 c2) (f := 98) (args := #[.int .i64 rid, .int .i64 qid]) rfl (by kernel_rfl) (by kernel_rfl) (by kernel_rfl) (fun _ _ _ h => h) (by rfl) ?hy21 (fun x _ => (HC2.out x).mono (by rintro e y ⟨rfl, hy⟩; subst hy; exact ⟨rfl, Later.refl _⟩)) ?rest21
  case hy21 => (intro x hx; obtain ⟨d0, d1, d2, d3, d4, d5, d6, d7, d8, d9⟩ := HLE.out x hx; go_simp; try with_reducible rfl)
  try simp only [Act.put, List.setIfInBounds_toArray, List.set_cons_zero, List.set_cons_succ]
  refine wpL_val (i := 22) (v := ?v22) rfl (by kernel_rfl) (by kernel_rfl) (by kernel_rfl) (fun _ _ _ h => h) (by rfl) ?hy22 ?rest22
  case hy22 => (intro x hx; obtain ⟨d0, d1, d2, d3, d4, d5, d6, d7, d8, d9⟩ := HLE.out x hx; go_simp; try with_reducible rfl)
  try simp only [Act.put, List.setIfInBounds_toArray, List.set_cons_zero, List.set_cons_succ]
  refine wpL_val (i := 23) (v := ?v23) rfl (by kernel_rfl) (by kernel_rfl) (by kernel_rfl) (fun _ _ _ h => h) (by rfl) ?hy23 ?rest23
  case hy23 => (intro x hx; obtain ⟨d0, d1, d2, d3, d4, d5, d6, d7, d8, d9⟩ := HLE.out x hx; go_simp; try with_reducible rfl)
  try simp only [Act.put, List.setIfInBounds_toArray, List.set_cons_zero, List.set_cons_succ]
  refine wpL_val (i := 24) (v := ?v24) rfl (by kernel_rfl) (by kernel_rfl) (by kernel_rfl) (fun _ _ _ h => h) (by rfl) ?hy24 ?rest24
  case hy24 => (intro x hx; obtain ⟨d0, d1, d2, d3, d4, d5, d6, d7, d8, d9⟩ := HLE.out x hx; go_simp; try with_reducible rfl)
  try simp only [Act.put, List.setIfInBounds_toArray, List.set_cons_zero, List.set_cons_succ]
  refine wpL_val (i := 25) (v := ?v25) rfl (by kernel_rfl) (by kernel_rfl) (by kernel_rfl) (fun _ _ _ h => h) (by rfl) ?hy25 ?rest25
  case hy25 => (intro x hx; obtain ⟨d0, d1, d2, d3, d4, d5, d6, d7, d8, d9⟩ := HLE.out x hx; go_simp; try with_reducible rfl)
  try simp only [Act.put, List.setIfInBounds_toArray, List.set_cons_zero, List.set_cons_succ]
  refine wpL_call (i := 26) (v := .int .i64 c3) (f := 98) (args := #[.int .i64 (s : Nat), .int .i64 (t : Nat)]) rfl (by kernel_rfl) (by kernel_rfl) (by kernel_rfl) (fun _ _ _ h => h) (by rfl) ?hy26 (fun x _ => (HC3.out x).mono (by rintro e y ⟨rfl, hy⟩; subst hy; exact ⟨rfl, Later.refl _⟩)) ?rest26
  case hy26 => (intro x hx; obtain ⟨d0, d1, d2, d3, d4, d5, d6, d7, d8, d9⟩ := HLE.out x hx; go_simp; try with_reducible rfl)
  try simp only [Act.put, List.setIfInBounds_toArray, List.set_cons_zero, List.set_cons_succ]
  refine wpL_one (i := 27) (by kernel_rfl) rfl (by rfl) ?_
  intro x hx
  refine ⟨.slice (some ⟨x.heap.size, 0, none⟩) 3 3, x.alloc (.cells #[.int .i64 c1, .int .i64 c2, .int .i64 c3] 3), ?_, (Below.refl _ _).alloc (Nat.le_refl _) _, ?_⟩
  · go_simp
  have hwx := wcells_new x #[.int .i64 c1, .int .i64 c2, .int .i64 c3] 3
  have HBX : Shut (Below w.heap.size w (x.alloc (.cells #[.int .i64 c1, .int .i64 c2, .int .i64 c3] 3))) := ⟨((HT.out x hx).below ((Below.refl _ _).alloc (Nat.le_refl _) _)).bel⟩
  have HOR : Shut (∀ y, Later (x.alloc (.cells #[.int .i64 c1, .int .i64 c2, .int .i64 c3] 3)) y → Calls Try.prog 97 #[.slice (some ⟨x.heap.size, 0, none⟩) 3 3] y fun e z => e = .returned (.int .i64 R) ∧ Later y z) := ⟨fun y hy => by
    rw [HQ.out]
    refine (or_three x.heap.size c1 c2 c3 3 y ((hwx.grow hy).2 0 _ rfl).1 ((hwx.grow hy).2 1 _ rfl).1 ((hwx.grow hy).2 2 _ rfl).1).mono ?_
    rintro e z ⟨rfl, hz⟩
    subst hz
    exact ⟨rfl, Later.refl _⟩⟩
  clear hwx
  try simp only [Act.put, List.setIfInBounds_toArray, List.set_cons_zero, List.set_cons_succ]
  refine wpL_call (i := 28) (v := .int .i64 R) (f := 97) (args := #[.slice (some ⟨x.heap.size, 0, none⟩) 3 3]) rfl (by kernel_rfl) (by kernel_rfl) (by kernel_rfl) (fun _ _ _ h => h) (by rfl) ?hyq28 (fun y hy => HOR.out y hy) ?restq28
  case hyq28 => (intro x hx; go_simp; try with_reducible rfl)
  try simp only [Act.put, List.setIfInBounds_toArray, List.set_cons_zero, List.set_cons_succ]
  refine wpL_val (i := 29) (v := ?vq29) rfl (by kernel_rfl) (by kernel_rfl) (by kernel_rfl) (fun _ _ _ h => h) (by rfl) ?hyq29 ?restq29
  case hyq29 => (intro x hx; go_simp; try with_reducible rfl)
  try simp only [Act.put, List.setIfInBounds_toArray, List.set_cons_zero, List.set_cons_succ]
  refine wpL_done (by kernel_rfl) ?_ _
  intro y hy
  have HB := Shut.mk (HBX.out.trans (Below.mono hy HBX.out.size))
  go_wp2_with fail
  go_ret
  exact ⟨rfl, HB.out⟩
/-- The queue's own order. -/
theorem seS_at {w : World} {g b off : Nat} {Q : List Nat} (h : CRow w (some ⟨g, 0, none⟩) (seS b off Q)) {i : Nat} (hi : i < Q.length) : w.cell? ⟨g, i * 2, none⟩ = some (.pointer (some ⟨b, off + Q.getD i 0 * 3, none⟩)) ∧ w.cell? ⟨g, i * 2 + 1, none⟩ = some (.int .i64 (Q.getD i 0 : Nat)) ∧ g < w.heap.size := by
  obtain ⟨b', o', e, lb, hc⟩ := h (by rw [seS_len]; omega)
  simp only [Option.some.injEq, Addr.mk.injEq, and_true] at e
  obtain ⟨rfl, rfl⟩ := e
  have e9 : Q.getD i 0 = Q[i] := by simp [List.getD, hi]
  have q0 := hc (i * 2 + 0) _ (flat_get (seC_len b off) Q i hi 0 (by omega))
  have q1 := hc (i * 2 + 1) _ (flat_get (seC_len b off) Q i hi 1 (by omega))
  rw [Nat.zero_add] at q0 q1
  rw [e9]
  exact ⟨q0, q1, lb⟩
set_option maxRecDepth 100000 in
set_option maxHeartbeats 2000000 in
theorem implLess (b off g : Nat) (rs : List HoR) (Q : List Nat) (c i j : Nat) (w : World) (hr : HsRow w (some ⟨b, off, none⟩) rs) (hq : CRow w (some ⟨g, 0, none⟩) (seS b off Q)) (hQ : ∀ x ∈ Q, x < rs.length) (hi : i < Q.length) (hj : j < Q.length) :
    Calls Try.prog 92 #[.slice (some ⟨g, 0, none⟩) Q.length c, .int .i64 (i : Nat), .int .i64 (j : Nat)] w fun e w' => e = .returned (.bool (decide (cmpS (hms rs) (Q.getD i 0) (Q.getD j 0) < 0))) ∧ Below w.heap.size w w' := by
  obtain ⟨a0, a1, lg⟩ := seS_at hq hi
  obtain ⟨a2, a3, _⟩ := seS_at hq hj
  have hm : ∀ k, k < Q.length → Q.getD k 0 < rs.length := fun k hk => hQ _ (by simp [List.getD, hk])
  have HCS := Shut.mk (fun W (hW : Below w.heap.size w W) => implCmpS b off rs (Q.getD i 0) (Q.getD j 0) W (hr.stays hW) (hm i hi) (hm j hj))
  generalize Q.getD i 0 = s at *
  generalize Q.getD j 0 = t at *
  generalize cmpS (hms rs) s t = R at *
  generalize Q.length = n at *
  have HLE : Shut (∀ x, Later w.drew x → x.cell? ⟨g, i * 2, none⟩ = some (.pointer (some ⟨b, off + s * 3, none⟩)) ∧ x.cell? ⟨g, i * 2 + 1, none⟩ = some (.int .i64 (s : Nat)) ∧ x.cell? ⟨g, j * 2, none⟩ = some (.pointer (some ⟨b, off + t * 3, none⟩)) ∧ x.cell? ⟨g, j * 2 + 1, none⟩ = some (.int .i64 (t : Nat))) := ⟨fun x hx => by
    have hb : Below w.heap.size w x := (Below.drew (Below.refl _ _)).trans hx
    exact ⟨(hb.cell (p := ⟨g, i * 2, none⟩) lg).trans a0, (hb.cell (p := ⟨g, i * 2 + 1, none⟩) lg).trans a1, (hb.cell (p := ⟨g, j * 2, none⟩) lg).trans a2, (hb.cell (p := ⟨g, j * 2 + 1, none⟩) lg).trans a3⟩⟩
  have HBX : Shut (∀ x, Later w.drew x → Below w.heap.size w x) := ⟨fun x hx => (Below.drew (Below.refl _ _)).trans hx⟩
  have i0 : (0 : Int) ≤ (i : Int) := by omega
  have j0 : (0 : Int) ≤ (j : Int) := by omega
  have i1 : (i : Int) < (n : Int) := by omega
  have j1 : (j : Int) < (n : Int) := by omega
  clear hr hq hQ hm a0 a1 a2 a3
  go_enter Try.func92, Try.ntmps92
  go_upto_region 1 with fail
  refine wp_region_later (by kernel_rfl) ?_
  refine wpL_val (i := 0) (v := ?v0) rfl (by kernel_rfl) (by kernel_rfl) (by kernel_rfl) (fun _ _ _ h => h) (by rfl) ?hy0 ?rest0
  case hy0 => (intro x hx; obtain ⟨d0, d1, d2, d3⟩ := HLE.out x hx; go_simp; try with_reducible rfl)
  try simp only [Act.put, List.setIfInBounds_toArray, List.set_cons_zero, List.set_cons_succ]
  refine wpL_val (i := 1) (v := ?v1) rfl (by kernel_rfl) (by kernel_rfl) (by kernel_rfl) (fun _ _ _ h => h) (by rfl) ?hy1 ?rest1
  case hy1 => (intro x hx; obtain ⟨d0, d1, d2, d3⟩ := HLE.out x hx; go_simp; try with_reducible rfl)
  try simp only [Act.put, List.setIfInBounds_toArray, List.set_cons_zero, List.set_cons_succ]
  refine wpL_val (i := 2) (v := ?v2) rfl (by kernel_rfl) (by kernel_rfl) (by kernel_rfl) (fun _ _ _ h => h) (by rfl) ?hy2 ?rest2
  case hy2 => (intro x hx; obtain ⟨d0, d1, d2, d3⟩ := HLE.out x hx; go_simp; try with_reducible rfl)
  try simp only [Act.put, List.setIfInBounds_toArray, List.set_cons_zero, List.set_cons_succ]
  refine wpL_val (i := 3) (v := ?v3) rfl (by kernel_rfl) (by kernel_rfl) (by kernel_rfl) (fun _ _ _ h => h) (by rfl) ?hy3 ?rest3
  case hy3 => (intro x hx; obtain ⟨d0, d1, d2, d3⟩ := HLE.out x hx; go_simp; try with_reducible rfl)
  try simp only [Act.put, List.setIfInBounds_toArray, List.set_cons_zero, List.set_cons_succ]
  refine wpL_val (i := 4) (v := ?v4) rfl (by kernel_rfl) (by kernel_rfl) (by kernel_rfl) (fun _ _ _ h => h) (by rfl) ?hy4 ?rest4
  case hy4 => (intro x hx; obtain ⟨d0, d1, d2, d3⟩ := HLE.out x hx; go_simp; try with_reducible rfl)
  try simp only [Act.put, List.setIfInBounds_toArray, List.set_cons_zero, List.set_cons_succ]
  refine wpL_val (i := 5) (v := ?v5) rfl (by kernel_rfl) (by kernel_rfl) (by kernel_rfl) (fun _ _ _ h => h) (by rfl) ?hy5 ?rest5
  case hy5 => (intro x hx; obtain ⟨d0, d1, d2, d3⟩ := HLE.out x hx; go_simp; try with_reducible rfl)
  try simp only [Act.put, List.setIfInBounds_toArray, List.set_cons_zero, List.set_cons_succ]
  refine wpL_val (i := 6) (v := ?v6) rfl (by kernel_rfl) (by kernel_rfl) (by kernel_rfl) (fun _ _ _ h => h) (by rfl) ?hy6 ?rest6
  case hy6 => (intro x hx; obtain ⟨d0, d1, d2, d3⟩ := HLE.out x hx; go_simp; try with_reducible rfl)
  try simp only [Act.put, List.setIfInBounds_toArray, List.set_cons_zero, List.set_cons_succ]
  refine wpL_val (i := 7) (v := ?v7) rfl (by kernel_rfl) (by kernel_rfl) (by kernel_rfl) (fun _ _ _ h => h) (by rfl) ?hy7 ?rest7
  case hy7 => (intro x hx; obtain ⟨d0, d1, d2, d3⟩ := HLE.out x hx; go_simp; try with_reducible rfl)
  try simp only [Act.put, List.setIfInBounds_toArray, List.set_cons_zero, List.set_cons_succ]
  refine wpL_call (i := 8) (v := .int .i64 R) (f := 96) (args := #[.agg #[.pointer (some ⟨b, off + s * 3, none⟩), .int .i64 (s : Nat)], .agg #[.pointer (some ⟨b, off + t * 3, none⟩), .int .i64 (t : Nat)]]) rfl (by kernel_rfl) (by kernel_rfl) (by kernel_rfl) (fun _ _ _ h => h) (by rfl) ?hy8 (fun x hx => HCS.out x (HBX.out x hx)) ?rest8
  case hy8 => (intro x hx; obtain ⟨d0, d1, d2, d3⟩ := HLE.out x hx; go_simp; try with_reducible rfl)
  try simp only [Act.put, List.setIfInBounds_toArray, List.set_cons_zero, List.set_cons_succ]
  refine wpL_val (i := 9) (v := ?v9) rfl (by kernel_rfl) (by kernel_rfl) (by kernel_rfl) (fun _ _ _ h => h) (by rfl) ?hy9 ?rest9
  case hy9 => (intro x hx; obtain ⟨d0, d1, d2, d3⟩ := HLE.out x hx; go_simp; try with_reducible rfl)
  try simp only [Act.put, List.setIfInBounds_toArray, List.set_cons_zero, List.set_cons_succ]
  refine wpL_val (i := 10) (v := ?v10) rfl (by kernel_rfl) (by kernel_rfl) (by kernel_rfl) (fun _ _ _ h => h) (by rfl) ?hy10 ?rest10
  case hy10 => (intro x hx; obtain ⟨d0, d1, d2, d3⟩ := HLE.out x hx; go_simp; try with_reducible rfl)
  try simp only [Act.put, List.setIfInBounds_toArray, List.set_cons_zero, List.set_cons_succ]
  refine wpL_done (by kernel_rfl) ?_ _
  intro y hy
  have HB := Shut.mk (HBX.out y hy)
  go_wp2_with fail
  go_ret
  exact ⟨rfl, HB.out⟩
end Go.Proofs.Ytoaifodmjkhiiaa
/- OwS: A row of one's own that is made longer, beside stretches of memory. -/
namespace Go.Proofs.Ytoaifodmjkhiiaa
set_option maxRecDepth 100000
open Go.RowKit

structure OwS (w0 W : World) (S : List Str) (ty sz : Nat) (v : Value) (n : Nat) (L : List Value) : Prop where
  sl : SL w0 W S
  own : W.ownsRow w0.heap.size ty sz v n L
  far : ∀ q, v.ownBlock = some q → ∀ s ∈ S, s.hi ≤ q ∨ q < s.lo
section
variable {w0 W W' : World} {S : List Str} {s : Str} {ty sz n : Nat} {v : Value} {L : List Value}
theorem own_row_slice (h : W.ownsRow w0.heap.size ty sz v n L) : ∃ a c, v = .slice a n c := by
  rcases h.2 with ⟨rfl, h0⟩ | ⟨g, cap, cur, e, _⟩
  · exact ⟨none, 0, by rw [h0]⟩
  · exact ⟨_, _, e⟩
theorem OwS.new (h : SL w0 W S) : OwS w0 (W.alloc (.cells #[] ty)) S ty sz (.slice (some ⟨W.heap.size, 0, none⟩) 0 0) 0 [] := by
  refine ⟨h.below ((Below.refl _ _).alloc (Nat.le_refl _) _), World.ownsRow_made (e := ty) (size := sz) (base := w0.heap.size) W #[] 0 h.bel.size (by decide) (by simp), fun q e s hs => ?_⟩
  have eq : W.heap.size = q := by simpa [Value.ownBlock] using e
  have := (h.is s hs).2.2.2
  omega
theorem OwS.nil (h : SL w0 W S) : OwS w0 W S ty sz (.slice none 0 0) 0 [] := ⟨h, World.ownsRow_nil _ _ _ _, fun q e => by cases e⟩
theorem OwS.below (h : OwS w0 W S ty sz v n L) (hb : Below W.heap.size W W') : OwS w0 W' S ty sz v n L :=
  ⟨h.sl.below hb, h.own.kept (row := none) ⟨hb.os, hb.tape, hb.output, hb.size, fun k hk _ => hb.block k hk⟩ (Classical.em _), h.far⟩
theorem OwS.alloc (h : OwS w0 W S ty sz v n L) (o : Obj) : OwS w0 (W.alloc o) S ty sz v n L := h.below ((Below.refl _ _).alloc (Nat.le_refl _) o)
theorem OwS.lt (h : OwS w0 W S ty sz v n L) (q : Nat) (e : v.ownBlock = some q) : w0.heap.size ≤ q ∧ q < W.heap.size := h.own.lt q e
theorem OwS.add (h : OwS w0 W S ty sz v n L) (hb : Below W.heap.size W W') (hp : s.p W') (hl : s.Loc) (h1 : W.heap.size ≤ s.lo) (h2 : s.hi ≤ W'.heap.size) : OwS w0 W' (s :: S) ty sz v n L := by
  have k := h.below hb
  refine ⟨h.sl.add hb hp hl h1 h2, k.own, fun q e x hx => ?_⟩
  rcases List.mem_cons.1 hx with rfl | hx
  · exact .inr (by have := (h.lt q e).2; omega)
  · exact h.far q e x hx
theorem OwS.box (h : OwS w0 W S ty sz v n L) (cs : Array Value) (t : TypeId) : OwS w0 (W.alloc (.cells cs t)) (bxS W.heap.size cs.toList :: S) ty sz v n L :=
  h.add ((Below.refl _ _).alloc (Nat.le_refl _) _) (wcells_new W cs t) (bxS.loc _ _) (Nat.le_refl _) (by simp)
theorem OwS.tail (h : OwS w0 W (s :: S) ty sz v n L) : OwS w0 W S ty sz v n L := ⟨h.sl.tail, h.own, fun q e x hx => h.far q e x (List.mem_cons_of_mem _ hx)⟩
theorem OwS.put (h : OwS w0 W S ty sz v n L) (i : Nat) {b : Nat} {X : List Value} (hs : S[i]? = some (bxS b X)) (j : Nat) (x : Value) (hj : j < X.length) : OwS w0 (W.setCell ⟨b, j, none⟩ x) (S.set i (bxS b (X.set j x))) ty sz v n L := by
  have hm := List.mem_of_getElem? hs
  have hne : ∀ q, v.ownBlock = some q → q ≠ b := fun q e hq => by
    have := h.far q e _ hm
    dsimp only [bxS] at this
    omega
  refine ⟨h.sl.put i hs j x hj, h.own.kept (gb_set' W b j x) ?_, fun q e s hq => ?_⟩
  · cases e : v.ownBlock with
    | none => exact .inl rfl
    | some k => exact .inr fun e2 => hne k e (by cases e2; rfl)
  · obtain ⟨k, hk, rfl⟩ := List.getElem_of_mem hq
    rw [List.length_set] at hk
    by_cases ek : k = i
    · subst ek
      rw [List.getElem_set_self]
      have := h.far q e _ hm
      exact this
    · rw [List.getElem_set_ne (Ne.symm ek)]
      exact h.far q e _ (List.getElem_mem hk)
/-- More is put behind it. -/
theorem OwS.more {Wa : World} {v' : Value} {m : Nat} {L' : List Value} (h : OwS w0 W S ty sz v n L) (hb : Below W.heap.size W Wa) (ho : W'.ownsRow w0.heap.size ty sz v' m L') (hg : Wa.grownBy W' v.ownBlock) (hat : v'.ownBlock = v.ownBlock ∨ v'.ownBlock = some Wa.heap.size) : OwS w0 W' S ty sz v' m L' := by
  have k := h.below hb
  refine ⟨k.sl.grown hg fun q e => ⟨(k.lt q e).1, k.far q e⟩, ho, fun q e s hs => ?_⟩
  rcases hat with e2 | e2
  · exact h.far q (by rw [← e2]; exact e) s hs
  · rw [e2] at e
    have eq : Wa.heap.size = q := by simpa using e
    have := (k.sl.is s hs).2.2.2
    omega
theorem OwS.frw (h : OwS w0 W S ty sz v n L) : ∃ a c, v = .slice a n c ∧ FRw W a L w0.heap.size W.heap.size ∧ n ≤ c := by
  obtain ⟨a, c, rfl⟩ := own_row_slice h.own
  exact ⟨a, c, rfl, (FRw.of_own h.own).1, (FRw.of_own h.own).2⟩
theorem OwS.row (h : OwS w0 W S ty sz v n L) : ∃ a c, v = .slice a n c ∧ CRow W a L ∧ n ≤ c := by
  obtain ⟨a, c, e, h1, h2⟩ := h.frw
  exact ⟨a, c, e, h1.crow, h2⟩
end
end Go.Proofs.Ytoaifodmjkhiiaa
/- HeB: The program's own: the queue's methods. -/
namespace Go.Proofs.Ytoaifodmjkhiiaa
set_option maxRecDepth 100000
open Go.RowKit BigFrame
attribute [local go_sem ↓] Go.wp_at_zero Go.wp_at_succ

theorem seS_set (b off : Nat) (Q : List Nat) (i x : Nat) : ((seS b off Q).set (i * 2) (.pointer (some ⟨b, off + x * 3, none⟩))).set (i * 2 + 1) (.int .i64 (x : Nat)) = seS b off (Q.set i x) := by
  apply List.ext_getElem?
  intro k
  by_cases hk : k < Q.length * 2
  · obtain ⟨m, r, hr, rfl⟩ : ∃ m r, r < 2 ∧ k = m * 2 + r := ⟨k / 2, k % 2, by omega, by omega⟩
    have hm : m < Q.length := by omega
    have e1 : (seS b off Q)[m * 2 + r]? = (seC b off Q[m])[r]? := flat_get (seC_len b off) Q m hm r hr
    have e2 : (seS b off (Q.set i x))[m * 2 + r]? = (seC b off ((Q.set i x)[m]'(by rw [List.length_set]; exact hm)))[r]? := flat_get (seC_len b off) (Q.set i x) m (by rw [List.length_set]; exact hm) r hr
    rw [e2, List.getElem_set, List.getElem?_set, List.getElem?_set, List.length_set, seS_len]
    match r, hr with
    | 0, _ =>
      rw [if_neg (by omega)]
      by_cases e : i = m
      · subst e
        rw [if_pos (by omega), if_pos (by omega), if_pos rfl]
        rfl
      · rw [if_neg (by omega), if_neg e, e1]
    | 1, _ =>
      by_cases e : i = m
      · subst e
        rw [if_pos rfl, if_pos (by omega), if_pos rfl]
        rfl
      · rw [if_neg (by omega), if_neg (by omega), if_neg e, e1]
  · rw [List.getElem?_eq_none (by simp only [List.length_set, seS_len]; omega), List.getElem?_eq_none (by rw [seS_len, List.length_set]; omega)]
/-- A cell of a row of one's own is set. -/
theorem OwS.cell {w0 W : World} {S : List Str} {ty sz g n c : Nat} {L : List Value} (h : OwS w0 W S ty sz (.slice (some ⟨g, 0, none⟩) n c) n L) (j : Nat) (u : Value) : OwS w0 (W.setCell ⟨g, j, none⟩ u) S ty sz (.slice (some ⟨g, 0, none⟩) n c) n (L.set j u) := by
  have q := h.own.stored j u
  have e : (Value.slice (some ⟨g, 0, none⟩) n c).ownBlock = some g := rfl
  exact ⟨h.sl.grown q.2 fun k hk => by cases hk; exact ⟨(h.lt g e).1, h.far g e⟩, q.1, h.far⟩
theorem OwS.drew {w0 W : World} {S : List Str} {ty sz n : Nat} {v : Value} {L : List Value} (h : OwS w0 W S ty sz v n L) : OwS w0 W.drew S ty sz v n L := h.below (Below.drew (Below.refl _ _))
/-- Two seats change places. -/
theorem OwS.swap {w0 W : World} {S : List Str} {g n c b off : Nat} {Q : List Nat} (h : OwS w0 W S 77 2 (.slice (some ⟨g, 0, none⟩) n c) n (seS b off Q)) (i j : Nat) :
    OwS w0 ((((W.setCell ⟨g, i * 2, none⟩ (.pointer (some ⟨b, off + Q.getD j 0 * 3, none⟩))).setCell ⟨g, i * 2 + 1, none⟩ (.int .i64 (Q.getD j 0 : Nat))).setCell ⟨g, j * 2, none⟩ (.pointer (some ⟨b, off + Q.getD i 0 * 3, none⟩))).setCell ⟨g, j * 2 + 1, none⟩ (.int .i64 (Q.getD i 0 : Nat))) S 77 2 (.slice (some ⟨g, 0, none⟩) n c) n (seS b off (sw Q i j)) := by
  have q := (((h.cell (i * 2) (.pointer (some ⟨b, off + Q.getD j 0 * 3, none⟩))).cell (i * 2 + 1) (.int .i64 (Q.getD j 0 : Nat))).cell (j * 2) (.pointer (some ⟨b, off + Q.getD i 0 * 3, none⟩))).cell (j * 2 + 1) (.int .i64 (Q.getD i 0 : Nat))
  rw [seS_set b off Q i, seS_set b off _ j] at q
  exact q
set_option maxRecDepth 100000 in
set_option maxHeartbeats 2000000 in
theorem implSwap {w0 w : World} {S : List Str} {g n c b off : Nat} {Q : List Nat} (h : OwS w0 w S 77 2 (.slice (some ⟨g, 0, none⟩) n c) n (seS b off Q)) (hn : Q.length = n) (i j : Nat) (hi : i < n) (hj : j < n) :
    Calls Try.prog 95 #[.slice (some ⟨g, 0, none⟩) n c, .int .i64 (i : Nat), .int .i64 (j : Nat)] w fun e w' => e = .returned (.tuple #[]) ∧ OwS w0 w' S 77 2 (.slice (some ⟨g, 0, none⟩) n c) n (seS b off (sw Q i j)) := by
  have HSW := Shut.mk (h.swap i j).drew
  obtain ⟨a0, a1, lg⟩ := seS_at (FRw.of_own h.own).1.crow (show i < Q.length by omega)
  obtain ⟨a2, a3, _⟩ := seS_at (FRw.of_own h.own).1.crow (show j < Q.length by omega)
  have z0 := h.own.frozenAt (i * 2)
  have z1 := h.own.frozenAt (i * 2 + 1)
  have z2 := h.own.frozenAt (j * 2)
  have z3 := h.own.frozenAt (j * 2 + 1)
  have i0 : (0 : Int) ≤ (i : Int) := by omega
  have j0 : (0 : Int) ≤ (j : Int) := by omega
  have i1 : (i : Int) < (n : Int) := by omega
  have j1 : (j : Int) < (n : Int) := by omega
  have hst : i = j → Q.getD j 0 = Q.getD i 0 := fun e => by rw [e]
  generalize sw Q i j = R at *
  generalize Q.getD i 0 = s at *
  generalize Q.getD j 0 = t at *
  clear h hn
  by_cases e : i = j
  · obtain rfl := hst e
    subst e
    clear hst
    go_enter Try.func95, Try.ntmps95
    go_wp2_with fail
    go_region
    go_wp2_with fail
    go_end0
    exact ⟨rfl, HSW.out⟩
  · clear hst
    have e1 : ¬ i * 2 = j * 2 := by omega
    have e2 : ¬ i * 2 + 1 = j * 2 := by omega
    have e3 : ¬ i * 2 = j * 2 + 1 := by omega
    have e4 : ¬ i * 2 + 1 = j * 2 + 1 := by omega
    have e5 : ¬ j * 2 = i * 2 := by omega
    have e6 : ¬ j * 2 + 1 = i * 2 := by omega
    have e7 : ¬ j * 2 = i * 2 + 1 := by omega
    go_enter Try.func95, Try.ntmps95
    go_wp2_with fail
    go_region
    go_wp2_with fail
    go_end0
    exact ⟨rfl, HSW.out⟩
theorem implLen (v : Option Addr) (n c : Nat) (w : World) : Calls Try.prog 30 #[.slice v n c] w fun e w' => e = .returned (.int .i64 (n : Nat)) ∧ w' = w := by
  go_enter Try.func30, Try.ntmps30
  go_wp2_with fail
  go_ret
  exact ⟨rfl, rfl⟩
theorem find_q (name : String) (f : Nat) (h : ((Try.t55.methods.find? fun x => x.name == name).map fun m => (m.path.size, m.func)) = some (0, some (f, false))) : ∃ m, (Try.t55.methods.find? fun x => x.name == name) = some m ∧ m.path = #[] ∧ m.func = some (f, false) := by
  cases e : (Try.t55.methods.find? fun x => x.name == name) with
  | none => rw [e] at h; cases h
  | some m =>
    rw [e] at h
    simp only [Option.map_some, Option.some.injEq, Prod.mk.injEq] at h
    exact ⟨m, rfl, Array.eq_empty_of_size_eq_zero h.1, h.2⟩
theorem meth_q (name : String) (f : Nat) (h : ((Try.t55.methods.find? fun x => x.name == name).map fun m => (m.path.size, m.func)) = some (0, some (f, false))) (m B : Nat) (v : Value) (x : World) (hx : x.cell? ⟨B, 0, none⟩ = some v) :
    Sem.run Try.prog (method (m + 1) 55 (.pointer (some ⟨B, 0, none⟩)) name) x = .ok (f, v) x := by
  obtain ⟨mm, h1, h2, h3⟩ := find_q name f h
  have hs : ∀ (nm : String) (y : World), Sem.run Try.prog (Builtin.ssaWrapNilChk_ #[55] 55 #[.pointer (some ⟨B, 0, none⟩), strVal "", strVal nm]) y = .ok (.pointer (some ⟨B, 0, none⟩)) y := fun nm y => rfl
  unfold method
  simp [go_sem, h1, h2, h3, follow, receiverAt, Place.get, hs, hx]
abbrev qif (B : Nat) : Value := .iface 55 (.pointer (some ⟨B, 0, none⟩))
theorem less_meth (B : Nat) (v : Value) (x : World) (hx : x.cell? ⟨B, 0, none⟩ = some v) (m : Nat) : Sem.run Try.prog (method (m + 1) 55 (.pointer (some ⟨B, 0, none⟩)) "Less") x = .ok (92, v) x := meth_q "Less" 92 (by kernel_rfl) m B v x hx
theorem swap_meth (B : Nat) (v : Value) (x : World) (hx : x.cell? ⟨B, 0, none⟩ = some v) (m : Nat) : Sem.run Try.prog (method (m + 1) 55 (.pointer (some ⟨B, 0, none⟩)) "Swap") x = .ok (95, v) x := meth_q "Swap" 95 (by kernel_rfl) m B v x hx
theorem len_meth (B : Nat) (v : Value) (x : World) (hx : x.cell? ⟨B, 0, none⟩ = some v) (m : Nat) : Sem.run Try.prog (method (m + 1) 55 (.pointer (some ⟨B, 0, none⟩)) "Len") x = .ok (30, v) x := meth_q "Len" 30 (by kernel_rfl) m B v x hx
theorem perm_lt {Q R : List Nat} (h : R.Perm Q) {n : Nat} (hQ : ∀ x ∈ Q, x < n) : ∀ x ∈ R, x < n := fun x hx => hQ x (h.mem_iff.1 hx)
set_option maxRecDepth 100000 in
set_option maxHeartbeats 2000000 in
theorem implUp {w0 w : World} {S : List Str} {B g n c b off : Nat} {Q : List Nat} {rs : List HoR} (h : OwS w0 w (bxS B [.slice (some ⟨g, 0, none⟩) n c] :: S) 77 2 (.slice (some ⟨g, 0, none⟩) n c) n (seS b off Q)) (hn : Q.length = n) (hnl : n ≤ 1048576) (hr : HsRow w0 (some ⟨b, off, none⟩) rs) (hQ : ∀ x ∈ Q, x < rs.length) (j : Nat) (hj : j < n) (hu : UpI (pk (hms rs)) Q n j) :
    Calls Try.prog 48 #[qif B, .int .i64 (j : Nat)] w fun e w' => e = .returned (.tuple #[]) ∧ ∃ R, R.Perm Q ∧ HpN (pk (hms rs)) R n ∧ OwS w0 w' (bxS B [.slice (some ⟨g, 0, none⟩) n c] :: S) 77 2 (.slice (some ⟨g, 0, none⟩) n c) n (seS b off R) := by
  have H := Shut.mk (And.intro h (And.intro hn (And.intro hQ hu)))
  have HR := Shut.mk hr
  clear h hn hr hQ hu
  go_enter Try.func48, Try.ntmps48
  go_wp2_with fail
  go_loopw [1] (fun v wr => ∃ (k : Nat) (R : List Nat), v = .int .i64 (k : Nat) ∧ k < n ∧ Shut (OwS w0 wr (bxS B [.slice (some ⟨g, 0, none⟩) n c] :: S) 77 2 (.slice (some ⟨g, 0, none⟩) n c) n (seS b off R) ∧ R.Perm Q ∧ UpI (pk (hms rs)) R n k)) (fun v _ => (intOf v).toNat)
  case atStart => exact ⟨j, Q, rfl, hj, ⟨H.out.1, List.Perm.refl _, H.out.2.2.2⟩⟩
  case round =>
    obtain ⟨k, R, rfl, hk, HW⟩ := hrel
    by_cases hz : k = 0
    · subst hz
      go_wp2_with fail
      go_end0
      exact ⟨rfl, R, HW.out.2.1, HW.out.2.2.done, HW.out.1⟩
    · obtain ⟨q, hq⟩ : ∃ q, q = par k := ⟨_, rfl⟩
      have hp : ((k : Int) - 1) / 2 = (q : Int) := by rw [hq]; unfold par; omega
      have hqk : q < k := by rw [hq]; exact par_lt (by omega)
      have hqe : ((q : Int) == (k : Int)) = false := by simp; omega
      have hqn : ¬ (q : Int) = (k : Int) := by omega
      have hRl : R.length = n := by rw [HW.out.2.1.length_eq]; exact H.out.2.1
      have HLS := Shut.mk (implLess b off g rs R c k q wr (HR.out.stays HW.out.1.sl.bel) (FRw.of_own HW.out.1.own).1.crow (perm_lt HW.out.2.1 H.out.2.2.1) (by omega) (by omega))
      rw [hRl] at HLS
      have HCN := Shut.mk (cmpS_neg (hms rs) (R.getD k 0) (R.getD q 0))
      have x0 := (HW.out.1.sl.bx 0 rfl 0 _ rfl).1
      have hm := less_meth B _ wr x0
      have HQ := Shut.mk hq
      have HRL := Shut.mk hRl
      generalize cmpS (hms rs) (R.getD k 0) (R.getD q 0) = cv at *
      clear hq hRl
      by_cases hc : cv < 0
      · have hcd : decide (cv < 0) = true := by simpa using hc
        rw [hcd] at HLS
        have HU := Shut.mk (HW.out.2.2.swap (by omega) hk (Nat.le_of_eq HRL.out.symm) (by rw [← HQ.out]; exact HCN.out.1 hc))
        rw [← HQ.out] at HU
        have HP : Shut ((sw R q k).Perm Q) := ⟨(sw_perm R q k (by have := HRL.out; omega) (by have := HRL.out; omega)).trans HW.out.2.1⟩
        clear hc hcd HCN
        go_wp2_with (first
          | (go_at_call 92; refine HLS.out.mono ?_; rintro e w2 ⟨rfl, hb⟩; have HW2 := Shut.mk (HW.out.1.below hb); clear hb hm x0; have x2 := (HW2.out.sl.bx 0 rfl 0 _ rfl).1; have hm2 := swap_meth B _ w2 x2)
          | (go_at_call 95; refine (implSwap HW2.out HRL.out q k (by omega) hk).mono ?_; rintro e w3 ⟨rfl, h3⟩; have HW3 := Shut.mk h3; clear h3))
        go_roundw
        case rel => exact ⟨q, sw R q k, rfl, by omega, ⟨HW3.out, HP.out, HU.out⟩⟩
        case measure => simp [intOf]; omega
      · have HS : Shut (HpN (pk (hms rs)) R n) := ⟨HW.out.2.2.stop (by rw [← HQ.out]; exact fun q => hc (HCN.out.2 q))⟩
        have hcd : decide (cv < 0) = false := by simpa using hc
        rw [hcd] at HLS
        clear hc hcd HCN
        go_wp2_with (go_at_call 92; refine HLS.out.mono ?_; rintro e w2 ⟨rfl, hb⟩; have HW2 := Shut.mk (HW.out.1.below hb); clear hb)
        go_end0
        exact ⟨rfl, R, HW.out.2.1, HS.out, HW2.out⟩
end Go.Proofs.Ytoaifodmjkhiiaa
