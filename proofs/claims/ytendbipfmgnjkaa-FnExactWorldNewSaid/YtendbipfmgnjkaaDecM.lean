/- Plain facts on figures: 'dg n' are the figures of n (none of 0), 'decS n' those that Decimal writes; the two ways of reading them back are one. -/
namespace Go.Proofs.Ytendbipfmgnjkaa.W

def dgF : Nat → Nat → List UInt8
  | 0, _ => []
  | f + 1, n => if n = 0 then [] else dgF f (n / 10) ++ [UInt8.ofNat (48 + n % 10)]
def dg (n : Nat) : List UInt8 := dgF n n
theorem dgF_enough : ∀ (f g n : Nat), n ≤ f → n ≤ g → dgF f n = dgF g n
  | 0, 0, _, _, _ => rfl
  | 0, g + 1, n, h, _ => by have : n = 0 := (by omega); subst this; simp [dgF]
  | f + 1, 0, n, _, h => by have : n = 0 := (by omega); subst this; simp [dgF]
  | f + 1, g + 1, n, h1, h2 => by
    unfold dgF
    by_cases h : n = 0
    · rw [if_pos h, if_pos h]
    · rw [if_neg h, if_neg h, dgF_enough f g (n / 10) (by omega) (by omega)]
theorem dg_zero : dg 0 = [] := rfl
theorem dg_step (n : Nat) (h : 0 < n) : dg n = dg (n / 10) ++ [UInt8.ofNat (48 + n % 10)] := by
  unfold dg
  match n, h with
  | k + 1, _ => rw [dgF, if_neg (by omega), dgF_enough k ((k + 1) / 10) ((k + 1) / 10) (by omega) (by omega)]
def decS (n : Nat) : List UInt8 := if n = 0 then [48] else dg n
theorem dg_len : ∀ (k n : Nat), n < 10 ^ k → (dg n).length ≤ k
  | 0, n, h => by have : n = 0 := (by simpa using h); subst this; simp [dg_zero]
  | k + 1, n, h => by
    by_cases hn : n = 0
    · subst hn; simp [dg_zero]
    · rw [dg_step n (by omega)]
      have := dg_len k (n / 10) (by rw [Nat.pow_succ] at h; omega)
      simp; omega
/-- No figures begin with a nought. -/
theorem dg_head : ∀ (f n : Nat), n ≤ f → (dg n).head? ≠ some 48
  | 0, n, h => by have : n = 0 := (by omega); subst this; simp [dg_zero]
  | f + 1, n, h => by
    by_cases hn : n = 0
    · subst hn; simp [dg_zero]
    · rw [dg_step n (by omega)]
      by_cases h10 : n / 10 = 0
      · rw [h10, dg_zero]
        simp
        intro e
        have := congrArg UInt8.toNat e
        simp at this
        omega
      · have ih := dg_head f (n / 10) (by omega)
        have hne : dg (n / 10) ≠ [] := by rw [dg_step _ (by omega)]; simp
        cases hc : dg (n / 10) with
        | nil => exact absurd hc hne
        | cons a r => rw [hc] at ih; simpa using ih

abbrev isFig (c : UInt8) : Prop := 48 ≤ c.toNat ∧ c.toNat ≤ 57
def numV (l : List UInt8) : Nat := l.foldl (fun n c => 10 * n + (c.toNat - 48)) 0
theorem numV_snoc (l : List UInt8) (c : UInt8) : numV (l ++ [c]) = 10 * numV l + (c.toNat - 48) := by simp [numV]
theorem foldl_le (l : List UInt8) : ∀ n : Nat, n ≤ l.foldl (fun n c => 10 * n + (c.toNat - 48)) n := by
  induction l with
  | nil => intro n; simp
  | cons c l ih => intro n; simp only [List.foldl_cons]; have := ih (10 * n + (c.toNat - 48)); omega
theorem numV_app (l r : List UInt8) : numV l ≤ numV (l ++ r) := by
  unfold numV; rw [List.foldl_append]; exact foldl_le r _
theorem numV_bd : ∀ (l : List UInt8) (n : Nat), (∀ c ∈ l, isFig c) → l.foldl (fun n c => 10 * n + (c.toNat - 48)) n + 1 ≤ (n + 1) * 10 ^ l.length
  | [], n, _ => by simp
  | c :: l, n, h => by
    have hc := h c (by simp)
    have := numV_bd l (10 * n + (c.toNat - 48)) (fun x hx => h x (by simp [hx]))
    simp only [List.foldl_cons, List.length_cons, Nat.pow_succ]
    have h2 : (10 * n + (c.toNat - 48) + 1) * 10 ^ l.length ≤ ((n + 1) * 10) * 10 ^ l.length := Nat.mul_le_mul_right _ (by unfold isFig at hc; omega)
    have h3 : (n + 1) * 10 * 10 ^ l.length = (n + 1) * (10 ^ l.length * 10) := by rw [Nat.mul_assoc, Nat.mul_comm 10]
    omega
theorem numV_lt (l : List UInt8) (h : ∀ c ∈ l, isFig c) : numV l < 10 ^ l.length := by
  have := numV_bd l 0 h
  unfold numV; omega

/-- What ReadDecimal answers. -/
def rdS (l : List UInt8) : Option Nat :=
  if l.length ≤ 10 ∧ (∀ c ∈ l, isFig c) ∧ numV l ≤ 1000000000 ∧ decS (numV l) = l then some (numV l) else none

theorem rdS_no (l : List UInt8) (h : ¬ (l.length ≤ 10 ∧ (∀ c ∈ l, isFig c) ∧ numV l ≤ 1000000000 ∧ decS (numV l) = l)) : rdS l = none := by
  unfold rdS; rw [if_neg h]
theorem rdS_yes (l : List UInt8) (h1 : l.length ≤ 10) (h2 : ∀ c ∈ l, isFig c) (h3 : numV l ≤ 1000000000) (h4 : decS (numV l) = l) : rdS l = some (numV l) := by
  unfold rdS; rw [if_pos ⟨h1, h2, h3, h4⟩]
theorem rdS_nil : rdS [] = none := rdS_no _ (by rintro ⟨_, _, _, h⟩; simp [numV, decS] at h)
theorem rdS_bad (p r : List UInt8) (c : UInt8) (h : ¬ isFig c) : rdS (p ++ c :: r) = none := rdS_no _ (fun x => h (x.2.1 c (by simp)))
theorem rdS_great (p r : List UInt8) (h : 1000000000 < numV p) : rdS (p ++ r) = none := rdS_no _ (fun x => by have := numV_app p r; have := x.2.2.1; omega)
theorem rdS_nought (r : List UInt8) (h : r ≠ []) : rdS (48 :: r) = none := rdS_no _ (fun x => by
  have h4 := x.2.2.2
  unfold decS at h4
  split at h4
  · simp at h4; exact h h4
  · have := dg_head _ _ (Nat.le_refl (numV (48 :: r)))
    rw [h4] at this
    simp at this)

/-- Figures read so far, with no needless nought. -/
def good (p : List UInt8) : Prop := (∀ c ∈ p, isFig c) ∧ (p = [] ∨ p = [48] ∨ (0 < numV p ∧ dg (numV p) = p))
theorem good_nil : good [] := ⟨fun _ h => by simp at h, .inl rfl⟩
theorem fig_byte (c : UInt8) (h : isFig c) : UInt8.ofNat (48 + (c.toNat - 48)) = c := by
  unfold isFig at h
  have : 48 + (c.toNat - 48) = c.toNat := by omega
  rw [this]; simp
theorem good_step (p : List UInt8) (c : UInt8) (hp : good p) (hc : isFig c) (h0 : p = [] ∨ 0 < numV p) : good (p ++ [c]) := by
  have h0c : (∀ x ∈ p ++ [c], isFig x) := by
    intro x hx
    rcases List.mem_append.1 hx with h | h
    · exact hp.1 x h
    · simp at h; subst h; exact hc
  refine ⟨h0c, ?_⟩
  have hd : dg (numV p) = p := by
    rcases hp.2 with h | h | h
    · subst h; rfl
    · subst h; rcases h0 with h | h
      · simp at h
      · simp [numV] at h
    · exact h.2
  by_cases hz : numV (p ++ [c]) = 0
  · rw [numV_snoc] at hz
    have hp0 : p = [] := by
      rcases h0 with h | h
      · exact h
      · omega
    right; left
    subst hp0
    have : c.toNat = 48 := by unfold isFig at hc; omega
    have e : c = 48 := UInt8.toNat_inj.1 (by simpa using this)
    rw [e]; rfl
  · right; right
    refine ⟨by omega, ?_⟩
    have hlt : c.toNat - 48 < 10 := by unfold isFig at hc; omega
    rw [dg_step _ (by omega), numV_snoc]
    have e1 : (10 * numV p + (c.toNat - 48)) / 10 = numV p := by omega
    have e2 : (10 * numV p + (c.toNat - 48)) % 10 = c.toNat - 48 := by omega
    rw [e1, e2, hd, fig_byte c hc]
theorem good_yes (p : List UInt8) (hp : good p) (hne : p ≠ []) (h : numV p ≤ 1000000000) : rdS p = some (numV p) := by
  have h4 : decS (numV p) = p := by
    rcases hp.2 with e | e | e
    · exact absurd e hne
    · subst e; rfl
    · unfold decS; rw [if_neg (by omega)]; exact e.2
  refine rdS_yes p ?_ hp.1 h h4
  rcases hp.2 with e | e | e
  · subst e; simp
  · subst e; simp
  · rw [← e.2]; exact dg_len 10 _ (by omega)
theorem good_again (p r : List UInt8) (hp : good p) (hne : p ≠ []) (hr : r ≠ []) (h : numV p = 0) : rdS (p ++ r) = none := by
  rcases hp.2 with e | e | e
  · exact absurd e hne
  · subst e; exact rdS_nought r hr
  · omega
end Go.Proofs.Ytendbipfmgnjkaa.W
