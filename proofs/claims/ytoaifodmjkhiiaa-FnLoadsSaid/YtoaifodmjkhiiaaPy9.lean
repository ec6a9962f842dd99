/- Texts of ours, laid one behind the other: MatM, MatC, MatE, MatF, MatG, MatI, MatH, MatJ, BRowM. -/
import Derived.Test.YtoaifodmjkhiiaaPy8
import Derived.Deep.AppendLies
import Derived.Deep.RegionHeld3
import Derived.WalkKit
import Derived.Deep.CutRange
import Derived.Deep.DrawnRows
/- MatM: Plain facts on matrices over the field of bytes: products, inverses, and what the steps of an elimination keep; nothing of the program is read here. -/
namespace Go.Proofs.Ytoaifodmjkhiiaa.W

/-- A sum of so many. -/
def xs : Nat → (Nat → B8) → B8
  | 0, _ => 0#8
  | n + 1, f => xs n f ^^^ f n
theorem xs_0 (f : Nat → B8) : xs 0 f = 0#8 := rfl
theorem xs_succ (n : Nat) (f : Nat → B8) : xs (n + 1) f = xs n f ^^^ f n := rfl
theorem xs_congr {n : Nat} {f g : Nat → B8} (h : ∀ k, k < n → f k = g k) : xs n f = xs n g := by
  induction n with
  | zero => rfl
  | succ n ih => rw [xs, xs, ih (fun k hk => h k (by omega)), h n (by omega)]
theorem xs_add (n : Nat) (f g : Nat → B8) : xs n (fun k => f k ^^^ g k) = xs n f ^^^ xs n g := by
  induction n with
  | zero => simp [xs]
  | succ n ih => rw [xs, xs, xs, ih, xor_swap]
theorem xs_zero (n : Nat) : xs n (fun _ => 0#8) = 0#8 := by
  induction n with
  | zero => rfl
  | succ n ih => rw [xs, ih]; rfl
theorem xs_left (a : B8) (n : Nat) (f : Nat → B8) : gm a (xs n f) = xs n (fun k => gm a (f k)) := by
  induction n with
  | zero => exact gm_zero a
  | succ n ih => rw [xs, xs, gm_right, ih]
theorem xs_right (a : B8) (n : Nat) (f : Nat → B8) : gm (xs n f) a = xs n (fun k => gm (f k) a) := by
  induction n with
  | zero => exact zero_gm a
  | succ n ih => rw [xs, xs, gm_left, ih]
theorem xs_swap (n m : Nat) (f : Nat → Nat → B8) : xs n (fun i => xs m (fun j => f i j)) = xs m (fun j => xs n (fun i => f i j)) := by
  induction n with
  | zero => exact (xs_zero m).symm
  | succ n ih => simp only [xs]; rw [ih, ← xs_add]
theorem xs_one {n k : Nat} {f : Nat → B8} (hk : k < n) (h : ∀ j, j < n → j ≠ k → f j = 0#8) : xs n f = f k := by
  induction n with
  | zero => omega
  | succ n ih =>
    rw [xs]
    by_cases e : k = n
    · subst e
      rw [xs_congr (g := fun _ => 0#8) (fun j hj => h j (by omega) (by omega)), xs_zero, BitVec.zero_xor]
    · rw [ih (by omega) (fun j hj hne => h j (by omega) hne), h n (by omega) (by omega), BitVec.xor_zero]
theorem xs_two {n k l : Nat} {f : Nat → B8} (hk : k < n) (hl : l < n) (hkl : k ≠ l) (h : ∀ j, j < n → j ≠ k → j ≠ l → f j = 0#8) : xs n f = f k ^^^ f l := by
  have e : ∀ j, f j = (if j = k then f k else 0#8) ^^^ (if j = k then 0#8 else f j) := fun j => by
    by_cases hj : j = k
    · rw [if_pos hj, if_pos hj, hj, BitVec.xor_zero]
    · rw [if_neg hj, if_neg hj, BitVec.zero_xor]
  rw [xs_congr (g := fun j => (if j = k then f k else 0#8) ^^^ (if j = k then 0#8 else f j)) (fun j _ => e j), xs_add]
  rw [xs_one (k := k) hk (fun j _ hj => if_neg hj), if_pos rfl]
  rw [xs_one (k := l) hl (fun j hj hjl => by
    by_cases hjk : j = k
    · rw [if_pos hjk]
    · rw [if_neg hjk]; exact h j hj hjk hjl), if_neg (Ne.symm hkl)]

abbrev Mx := Nat → Nat → B8
def mm (n : Nat) (A B : Mx) : Mx := fun i j => xs n fun k => gm (A i k) (B k j)
def one : Mx := fun i j => if i = j then 1#8 else 0#8
/-- Two matrices of so many rows and columns are the same. -/
def eqM (n m : Nat) (A B : Mx) : Prop := ∀ i, i < n → ∀ j, j < m → A i j = B i j
theorem eqM.refl (n m : Nat) (A : Mx) : eqM n m A A := fun _ _ _ _ => rfl
theorem eqM.symm {n m : Nat} {A B : Mx} (h : eqM n m A B) : eqM n m B A := fun i hi j hj => (h i hi j hj).symm
theorem eqM.trans {n m : Nat} {A B C : Mx} (h : eqM n m A B) (k : eqM n m B C) : eqM n m A C := fun i hi j hj => (h i hi j hj).trans (k i hi j hj)
theorem mm_assoc (n m : Nat) (A B C : Mx) : mm m (mm n A B) C = mm n A (mm m B C) := by
  funext i j
  unfold mm
  rw [xs_congr (n := m) (g := fun k => xs n fun l => gm (gm (A i l) (B l k)) (C k j)) (fun k _ => xs_right _ n _), xs_swap]
  refine xs_congr fun l _ => ?_
  rw [xs_left]
  exact xs_congr fun k _ => gm_assoc _ _ _
theorem mm_left {n r m : Nat} {A A' B : Mx} (h : eqM r n A A') : eqM r m (mm n A B) (mm n A' B) := fun i hi j _ => xs_congr fun k hk => by rw [h i hi k hk]
theorem mm_right {n r m : Nat} {A B B' : Mx} (h : eqM n m B B') : eqM r m (mm n A B) (mm n A B') := fun i _ j hj => xs_congr fun k hk => by rw [h k hk j hj]
theorem one_mm {n i : Nat} (hi : i < n) (B : Mx) (j : Nat) : mm n one B i j = B i j := by
  unfold mm one
  rw [xs_one (k := i) hi (fun k _ hk => by rw [if_neg (Ne.symm hk), zero_gm]), if_pos rfl, one_gm]
theorem mm_one {n j : Nat} (hj : j < n) (A : Mx) (i : Nat) : mm n A one i j = A i j := by
  unfold mm one
  rw [xs_one (k := j) hj (fun k _ hk => by rw [if_neg hk, gm_zero]), if_pos rfl, gm_one]
/-- Its product with another one is OneM: from the left. -/
def Linv (n : Nat) (B M : Mx) : Prop := eqM n n (mm n B M) one
theorem Linv.only {n : Nat} {B B' M : Mx} (h' : Linv n B' M) (r : Linv n M B) : eqM n n B' B := by
  have e1 : eqM n n (mm n B' (mm n M B)) (mm n B' one) := mm_right r
  rw [← mm_assoc] at e1
  have e2 : eqM n n (mm n (mm n B' M) B) (mm n one B) := mm_left h'
  exact fun i hi j hj => by
    have h1 := e1 i hi j hj
    have h2 := e2 i hi j hj
    rw [mm_one hj] at h1
    rw [one_mm hi] at h2
    rw [← h1, h2]
/-- Steps that can be taken back: what stands at their left and at their right is OneM. -/
structure Step (n : Nat) (P Q : Mx) : Prop where
  left : Linv n P Q
  right : Linv n Q P
theorem Step.start (n : Nat) : Step n one one := ⟨fun _ hi j _ => one_mm hi one j, fun _ hi j _ => one_mm hi one j⟩
theorem Step.next {n : Nat} {P Q E D : Mx} (h : Step n P Q) (k : Step n E D) : Step n (mm n E P) (mm n Q D) := by
  refine ⟨?_, ?_⟩
  · unfold Linv
    rw [mm_assoc, ← mm_assoc n n P Q D]
    have e1 : eqM n n (mm n (mm n P Q) D) (mm n one D) := mm_left h.left
    have e2 : eqM n n (mm n E (mm n (mm n P Q) D)) (mm n E (mm n one D)) := mm_right e1
    have e3 : eqM n n (mm n E (mm n one D)) (mm n E D) := mm_right (fun i hi j _ => one_mm hi D j)
    exact (e2.trans e3).trans k.left
  · unfold Linv
    rw [mm_assoc, ← mm_assoc n n D E P]
    have e1 : eqM n n (mm n (mm n D E) P) (mm n one P) := mm_left k.right
    have e2 : eqM n n (mm n Q (mm n (mm n D E) P)) (mm n Q (mm n one P)) := mm_right e1
    have e3 : eqM n n (mm n Q (mm n one P)) (mm n Q P) := mm_right (fun i hi j _ => one_mm hi P j)
    exact (e2.trans e3).trans h.right
/-- The end of an elimination: what was done to OneM is the inverse, from both sides. -/
theorem Step.fin {n : Nat} {P Q M : Mx} (h : Step n P Q) (hp : Linv n P M) : Linv n M P := by
  have e1 : eqM n n (mm n Q (mm n P M)) (mm n Q one) := mm_right hp
  have e2 : eqM n n (mm n (mm n Q P) M) (mm n one M) := mm_left h.right
  rw [mm_assoc] at e2
  have eM : eqM n n M Q := fun i hi j hj => by
    have h1 := e1 i hi j hj
    have h2 := e2 i hi j hj
    rw [mm_one hj] at h1
    rw [one_mm hi] at h2
    rw [← h2, h1]
  exact (mm_left eM).trans h.right
/-- Rows p and c in each other's place. -/
def swapE (p c : Nat) : Mx := fun i j => if i = p then (if j = c then 1#8 else 0#8) else if i = c then (if j = p then 1#8 else 0#8) else one i j
def swapR (p c : Nat) (A : Mx) : Mx := fun i j => if i = p then A c j else if i = c then A p j else A i j
theorem swap_mm {n p c : Nat} (hp : p < n) (hc : c < n) (A : Mx) : eqM n n (mm n (swapE p c) A) (swapR p c A) := by
  intro i hi j _
  unfold mm swapE swapR
  by_cases h1 : i = p
  · simp only [if_pos h1]
    rw [xs_one (k := c) hc (fun k _ hk => by rw [if_neg hk, zero_gm]), if_pos rfl, one_gm]
  · simp only [if_neg h1]
    by_cases h2 : i = c
    · simp only [if_pos h2]
      rw [xs_one (k := p) hp (fun k _ hk => by rw [if_neg hk, zero_gm]), if_pos rfl, one_gm]
    · simp only [if_neg h2]
      exact one_mm hi A j
theorem swap_twice (p c : Nat) (A : Mx) : swapR p c (swapR p c A) = A := by
  funext i j
  unfold swapR
  by_cases h1 : i = p
  · subst h1
    rw [if_pos rfl]
    by_cases h2 : c = i
    · subst h2; rw [if_pos rfl]
    · rw [if_neg h2, if_pos rfl]
  · rw [if_neg h1]
    by_cases h2 : i = c
    · subst h2; rw [if_pos rfl, if_pos rfl]
    · rw [if_neg h2, if_neg h1, if_neg h2]
/-- Row c so many times. -/
def timesE (c : Nat) (s : B8) : Mx := fun i j => if i = c then (if j = c then s else 0#8) else one i j
def timesR (c : Nat) (s : B8) (A : Mx) : Mx := fun i j => if i = c then gm s (A c j) else A i j
theorem times_mm {n c : Nat} (hc : c < n) (s : B8) (A : Mx) : eqM n n (mm n (timesE c s) A) (timesR c s A) := by
  intro i hi j _
  unfold mm timesE timesR
  by_cases h1 : i = c
  · simp only [if_pos h1]
    rw [xs_one (k := c) hc (fun k _ hk => by rw [if_neg hk, zero_gm]), if_pos rfl]
  · simp only [if_neg h1]
    exact one_mm hi A j
/-- Row c, so many times, to row r. -/
def plusE (r c : Nat) (t : B8) : Mx := fun i j => if i = r then (if j = c then t else one i j) else one i j
def plusR (r c : Nat) (t : B8) (A : Mx) : Mx := fun i j => if i = r then A r j ^^^ gm t (A c j) else A i j
theorem plus_mm {n r c : Nat} (hr : r < n) (hc : c < n) (hrc : r ≠ c) (t : B8) (A : Mx) : eqM n n (mm n (plusE r c t) A) (plusR r c t A) := by
  intro i hi j _
  unfold mm plusE plusR
  by_cases h1 : i = r
  · subst h1
    simp only [if_true]
    rw [xs_two (k := i) (l := c) hr hc hrc (fun k _ hk hkc => by rw [if_neg hkc]; unfold one; rw [if_neg (Ne.symm hk), zero_gm]), if_neg hrc, if_pos rfl]
    unfold one
    rw [if_pos rfl, one_gm]
  · simp only [if_neg h1]
    exact one_mm hi A j
theorem step_swap {n p c : Nat} (hp : p < n) (hc : c < n) : Step n (swapE p c) (swapE p c) := by
  have e : Linv n (swapE p c) (swapE p c) := by
    have h1 : eqM n n (swapE p c) (swapR p c one) := fun i hi j hj => by
      have := swap_mm hp hc one i hi j hj
      rwa [mm_one hj] at this
    refine (swap_mm hp hc _).trans ?_
    intro i hi j hj
    have h2 : swapR p c (swapE p c) i j = swapR p c (swapR p c one) i j := by
      unfold swapR
      by_cases a1 : i = p
      · rw [if_pos a1, if_pos a1]; exact h1 c hc j hj
      · rw [if_neg a1, if_neg a1]
        by_cases a2 : i = c
        · rw [if_pos a2, if_pos a2]; exact h1 p hp j hj
        · rw [if_neg a2, if_neg a2]; exact h1 i hi j hj
    rw [h2, swap_twice]
  exact ⟨e, e⟩
theorem times_two {c : Nat} {s t : B8} (h : gm s t = 1#8) (A : Mx) : timesR c s (timesR c t A) = A := by
  funext i j
  unfold timesR
  by_cases h1 : i = c
  · subst h1; rw [if_pos rfl, if_pos rfl, ← gm_assoc, h, one_gm]
  · rw [if_neg h1, if_neg h1]
theorem linv_times {n c : Nat} (hc : c < n) {s t : B8} (h : gm s t = 1#8) : Linv n (timesE c s) (timesE c t) := by
  have h1 : eqM n n (timesE c t) (timesR c t one) := fun i hi j hj => by
    have := times_mm hc t one i hi j hj
    rwa [mm_one hj] at this
  refine (times_mm hc s _).trans ?_
  intro i hi j hj
  have h2 : timesR c s (timesE c t) i j = timesR c s (timesR c t one) i j := by
    show (if i = c then gm s (timesE c t c j) else timesE c t i j) = (if i = c then gm s (timesR c t one c j) else timesR c t one i j)
    rw [h1 c hc j hj, h1 i hi j hj]
  rw [h2, times_two h]
theorem step_times {n c : Nat} (hc : c < n) {s t : B8} (h : gm s t = 1#8) : Step n (timesE c s) (timesE c t) := ⟨linv_times hc h, linv_times hc (by rw [gm_comm]; exact h)⟩
theorem plus_twice {r c : Nat} (hrc : r ≠ c) (t : B8) (A : Mx) : plusR r c t (plusR r c t A) = A := by
  funext i j
  unfold plusR
  by_cases h1 : i = r
  · subst h1; rw [if_pos rfl, if_pos rfl, if_neg (Ne.symm hrc), BitVec.xor_assoc, BitVec.xor_self, BitVec.xor_zero]
  · rw [if_neg h1, if_neg h1]
theorem step_plus {n r c : Nat} (hr : r < n) (hc : c < n) (hrc : r ≠ c) (t : B8) : Step n (plusE r c t) (plusE r c t) := by
  have e : Linv n (plusE r c t) (plusE r c t) := by
    have h1 : eqM n n (plusE r c t) (plusR r c t one) := fun i hi j hj => by
      have := plus_mm hr hc hrc t one i hi j hj
      rwa [mm_one hj] at this
    refine (plus_mm hr hc hrc t _).trans ?_
    intro i hi j hj
    have h2 : plusR r c t (plusE r c t) i j = plusR r c t (plusR r c t one) i j := by
      show (if i = r then plusE r c t r j ^^^ gm t (plusE r c t c j) else plusE r c t i j) = (if i = r then plusR r c t one r j ^^^ gm t (plusR r c t one c j) else plusR r c t one i j)
      rw [h1 r hr j hj, h1 c hc j hj, h1 i hi j hj]
    rw [h2, plus_twice hrc]
  exact ⟨e, e⟩
/-- Where an elimination stands: what was done to OneM makes M to A, and can be taken back. -/
def Elim (n : Nat) (M A P : Mx) : Prop := (∃ Q, Step n P Q) ∧ eqM n n (mm n P M) A
theorem Elim.start (n : Nat) (M : Mx) : Elim n M M one := ⟨⟨one, Step.start n⟩, fun _ hi j _ => one_mm hi M j⟩
theorem Elim.congr {n : Nat} {M A A' P P' : Mx} (h : Elim n M A P) (hA : eqM n n A A') (hP : eqM n n P P') : Elim n M A' P' := by
  obtain ⟨⟨Q, s⟩, e⟩ := h
  refine ⟨⟨Q, ⟨(mm_left hP.symm).trans s.left, (mm_right hP.symm).trans s.right⟩⟩, ((mm_left hP.symm).trans e).trans hA⟩
theorem Elim.by {n : Nat} {M A P E D : Mx} (h : Elim n M A P) (k : Step n E D) : Elim n M (mm n E A) (mm n E P) := by
  obtain ⟨⟨Q, s⟩, e⟩ := h
  refine ⟨⟨_, s.next k⟩, ?_⟩
  rw [mm_assoc]
  exact mm_right e
theorem Elim.swap {n : Nat} {M A P : Mx} (h : Elim n M A P) {p c : Nat} (hp : p < n) (hc : c < n) : Elim n M (swapR p c A) (swapR p c P) := (h.by (step_swap hp hc)).congr (swap_mm hp hc A) (swap_mm hp hc P)
theorem Elim.times {n : Nat} {M A P : Mx} (h : Elim n M A P) {c : Nat} {s t : B8} (hc : c < n) (hs : gm s t = 1#8) : Elim n M (timesR c s A) (timesR c s P) := (h.by (step_times hc hs)).congr (times_mm hc s A) (times_mm hc s P)
theorem Elim.plus {n : Nat} {M A P : Mx} (h : Elim n M A P) {r c : Nat} (hr : r < n) (hc : c < n) (hrc : r ≠ c) (t : B8) : Elim n M (plusR r c t A) (plusR r c t P) := (h.by (step_plus hr hc hrc t)).congr (plus_mm hr hc hrc t A) (plus_mm hr hc hrc t P)
theorem Elim.done {n : Nat} {M A P : Mx} (h : Elim n M A P) (hA : eqM n n A one) : Linv n P M ∧ Linv n M P := by
  obtain ⟨⟨Q, s⟩, e⟩ := h
  have h1 : Linv n P M := e.trans hA
  exact ⟨h1, s.fin h1⟩
/-- The first columns are those of OneM. -/
def Cols (n c : Nat) (A : Mx) : Prop := ∀ i, i < n → ∀ j, j < c → A i j = one i j
/-- No row from c on has a number in column c: there is no inverse. -/
theorem Elim.none {n c : Nat} {M A P : Mx} (h : Elim n M A P) (hc : c < n) (hcol : Cols n c A) (hz : ∀ i, c ≤ i → i < n → A i c = 0#8) (B : Mx) : ¬ Linv n B M := by
  intro hB
  obtain ⟨⟨Q, s⟩, e⟩ := h
  let v : Mx := fun k _ => if k < c then A k c else if k = c then 1#8 else 0#8
  have hv : ∀ i, i < n → mm n A v i 0 = 0#8 := fun i hi => by
    have hsum : ∀ k, k < n → gm (A i k) (v k 0) = (if k < c then gm (A i k) (A k c) else 0#8) ^^^ (if k = c then A i c else 0#8) := fun k hk => by
      show gm (A i k) (if k < c then A k c else if k = c then 1#8 else 0#8) = _
      by_cases h1 : k < c
      · rw [if_pos h1, if_pos h1, if_neg (by omega), BitVec.xor_zero]
      · rw [if_neg h1, if_neg h1, BitVec.zero_xor]
        by_cases h2 : k = c
        · rw [if_pos h2, if_pos h2, gm_one, h2]
        · rw [if_neg h2, if_neg h2, gm_zero]
    unfold mm
    rw [xs_congr hsum, xs_add, xs_one (k := c) (f := fun k => if k = c then A i c else 0#8) hc (fun k _ hk => if_neg hk), if_pos rfl]
    by_cases hic : i < c
    · rw [xs_one (k := i) hi (fun k hk hki => by
        by_cases h1 : k < c
        · rw [if_pos h1, hcol i hi k h1]; unfold one; rw [if_neg (Ne.symm hki), zero_gm]
        · rw [if_neg h1]), if_pos hic, hcol i hi i hic]
      unfold one
      rw [if_pos rfl, one_gm, BitVec.xor_self]
    · rw [xs_congr (g := fun _ => 0#8) (fun k hk => by
        by_cases h1 : k < c
        · rw [if_pos h1, hcol i hi k h1]; unfold one; rw [if_neg (by omega), zero_gm]
        · rw [if_neg h1]), xs_zero, hz i (by omega) hi]
      rfl
  have hPM : ∀ i, i < n → mm n (mm n P M) v i 0 = 0#8 := fun i hi => by
    rw [← hv i hi]
    exact xs_congr fun k hk => by rw [e i hi k hk]
  have hMv : ∀ i, i < n → mm n M v i 0 = 0#8 := fun i hi => by
    have e1 : mm n (mm n Q P) (mm n M v) i 0 = mm n one (mm n M v) i 0 := xs_congr fun k hk => by rw [s.right i hi k hk]
    rw [one_mm hi] at e1
    rw [← e1, mm_assoc]
    have e2 : mm n Q (mm n P (mm n M v)) i 0 = xs n fun _ => 0#8 := xs_congr fun k hk => by
      have := hPM k hk
      rw [mm_assoc] at this
      rw [this, gm_zero]
    rw [e2, xs_zero]
  have hvc : v c 0 = 0#8 := by
    have e1 : mm n (mm n B M) v c 0 = mm n one v c 0 := xs_congr fun k hk => by rw [hB c hc k hk]
    rw [one_mm hc] at e1
    rw [← e1, mm_assoc]
    have e2 : mm n B (mm n M v) c 0 = xs n fun _ => 0#8 := xs_congr fun k hk => by rw [hMv k hk, gm_zero]
    rw [e2, xs_zero]
  have : v c 0 = 1#8 := by show (if c < c then _ else if c = c then 1#8 else 0#8) = 1#8; rw [if_neg (by omega), if_pos rfl]
  rw [this] at hvc
  exact absurd hvc (by decide)
/-- Two rows that are the same: there is no inverse from the right. -/
theorem twin_none {n p q : Nat} {M B : Mx} (hp : p < n) (hq : q < n) (hpq : p ≠ q) (h : ∀ j, j < n → M p j = M q j) : ¬ Linv n M B := by
  intro hb
  have e1 := hb p hp p hp
  have e2 := hb q hq p hp
  have : mm n M B p p = mm n M B q p := xs_congr fun k hk => by rw [h k hk]
  rw [this, e2] at e1
  unfold one at e1
  rw [if_neg (Ne.symm hpq), if_pos rfl] at e1
  exact absurd e1 (by decide)
end Go.Proofs.Ytoaifodmjkhiiaa.W
/- MatC: The walk of the model's MulM. -/
namespace Go.Proofs.Ytoaifodmjkhiiaa
set_option maxRecDepth 100000
open Go.RowKit
open W (B8 Mx)
attribute [local go_sem ↓] Go.wp_at_zero Go.wp_at_succ
attribute [local irreducible] W.gm W.xs

/-- Rows of numbers as a matrix over the field. -/
def mx (X : List (List Int)) : Mx := fun i j => g8 ((X.getD i []).getD j 0)
def colsOf (X : List (List Int)) : Nat := (X.headD []).length
/-- Rows of numbers, out of a matrix over the field. -/
def rowsX (n m : Nat) (A : Mx) : List (List Int) := (List.range n).map fun i => (List.range m).map fun j => ((A i j).toNat : Int)
/-- The product, as it is answered. -/
def mulX (X Y : List (List Int)) : List (List Int) := if matOk X = true ∧ matOk Y = true ∧ colsOf X = Y.length then rowsX X.length (colsOf Y) (W.mm Y.length (mx X) (mx Y)) else []
theorem matOk_iff {X : List (List Int)} (h : matOk X = true) : (1 ≤ X.length ∧ X.length ≤ 8) ∧ (1 ≤ colsOf X ∧ colsOf X ≤ 8) ∧ ∀ x ∈ X, x.length = colsOf X ∧ ∀ y ∈ x, 0 ≤ y ∧ y ≤ 255 := by
  unfold matOk at h
  simp only [Bool.and_eq_true, decide_eq_true_eq, List.all_eq_true] at h
  obtain ⟨h1, h2, h3⟩ := h
  have each : ∀ x ∈ X, x.length = colsOf X ∧ (1 ≤ x.length ∧ x.length ≤ 8) ∧ ∀ y ∈ x, 0 ≤ y ∧ y ≤ 255 := fun x hx => by
    have := h1 x hx
    unfold rowOk numOk at this
    simp only [Bool.and_eq_true, decide_eq_true_eq, List.all_eq_true] at this
    obtain ⟨⟨q1, q2, q3⟩, q4⟩ := this
    exact ⟨q1, ⟨by omega, by omega⟩, q4⟩
  refine ⟨⟨by omega, by omega⟩, ?_, fun x hx => ⟨(each x hx).1, (each x hx).2.2⟩⟩
  cases X with
  | nil => simp at h2
  | cons x X => have := each x (by simp); have e : colsOf (x :: X) = x.length := rfl; omega
/-- A row of a product that is under way: the first k numbers are there, of the next one a sum of j. -/
def partRow (m cols : Nat) (A B : Mx) (i k j : Nat) : List Int := (List.range cols).map fun c => if c < k then ((W.mm m A B i c).toNat : Int) else if c = k then ((W.xs j fun l => W.gm (A i l) (B l k)).toNat : Int) else 0
theorem partRow_len (m cols : Nat) (A B : Mx) (i k j : Nat) : (partRow m cols A B i k j).length = cols := by simp [partRow]
theorem partRow_start (m cols : Nat) (A B : Mx) (i : Nat) : List.replicate cols (0 : Int) = partRow m cols A B i 0 0 := by
  apply List.ext_getElem
  · simp [partRow]
  · intro c h1 h2
    simp only [partRow, List.getElem_map, List.getElem_range, List.getElem_replicate]
    rw [if_neg (by omega)]
    split
    · rw [W.xs_0]; rfl
    · rfl
theorem partRow_next (m cols : Nat) (A B : Mx) (i k : Nat) : partRow m cols A B i k m = partRow m cols A B i (k + 1) 0 := by
  unfold partRow
  apply List.map_congr_left
  intro c _
  by_cases h1 : c < k
  · rw [if_pos h1, if_pos (by omega)]
  · rw [if_neg h1]
    by_cases h2 : c = k
    · subst h2; rw [if_pos rfl, if_pos (by omega)]; rfl
    · rw [if_neg h2, if_neg (by omega)]
      split
      · rw [W.xs_0]; rfl
      · rfl
theorem partRow_end (m cols : Nat) (A B : Mx) (i : Nat) : partRow m cols A B i cols 0 = (List.range cols).map fun j => ((W.mm m A B i j).toNat : Int) := by
  unfold partRow
  apply List.map_congr_left
  intro c hc
  rw [if_pos (List.mem_range.1 hc)]
theorem partRow_get {m cols : Nat} {A B : Mx} {i k j : Nat} (h : k < cols) : (partRow m cols A B i k j).getD k 0 = ((W.xs j fun l => W.gm (A i l) (B l k)).toNat : Int) := by
  unfold partRow
  rw [List.getD_eq_getElem?_getD, List.getElem?_map, List.getElem?_range h]
  simp
theorem partRow_at {m cols : Nat} {A B : Mx} {i k j c : Nat} (h : c < (partRow m cols A B i k j).length) : (partRow m cols A B i k j)[c] = if c < k then ((W.mm m A B i c).toNat : Int) else if c = k then ((W.xs j fun l => W.gm (A i l) (B l k)).toNat : Int) else 0 := by
  simp only [partRow, List.getElem_map, List.getElem_range]
theorem partRow_set {m cols : Nat} {A B : Mx} {i k j : Nat} : (partRow m cols A B i k j).set k (((W.xs j fun l => W.gm (A i l) (B l k)) ^^^ W.gm (A i j) (B j k)).toNat : Int) = partRow m cols A B i k (j + 1) := by
  apply List.ext_getElem
  · simp [partRow]
  · intro c h1 h2
    rw [List.getElem_set, partRow_at, partRow_at]
    by_cases e : k = c
    · subst e
      rw [if_pos rfl, if_neg (by omega), if_pos rfl, W.xs_succ]
    · rw [if_neg e]
      by_cases e2 : c < k
      · rw [if_pos e2, if_pos e2]
      · rw [if_neg e2, if_neg e2, if_neg (Ne.symm e), if_neg (Ne.symm e)]
theorem mulX_no {X Y : List (List Int)} (h : ¬ (matOk X = true ∧ matOk Y = true ∧ colsOf X = Y.length)) : mulX X Y = [] := if_neg h
theorem BI.drew {w wr : World} {v : Value} {ts : List SR} (h : BI w wr v ts) : BI w wr.drew v ts := h.below (Below.drew (Below.refl _ _))
theorem WCells.drew {w : World} {g : Nat} {L : List Value} (h : WCells w g L) : WCells w.drew g L := h.below (Below.drew (Below.refl w.heap.size w)) h.1
/-- What the walk of a product wants of one of its rows. -/
structure RowAt2 (w : World) (cols : Nat) (A : Mx) (i b off : Nat) (loc : Option Addr) (cp : Nat) (row : List Int) : Prop where
  cell : w.cell? ⟨b, off + i, none⟩ = some (.slice loc cols cp)
  lt : b < w.heap.size
  len : row.length = cols
  crow : CRow w loc (ics row)
  num : ∀ j, j < cols → A i j = g8 (row.getD j 0)
theorem RowAt2.below {w w' : World} {cols : Nat} {A : Mx} {i b off : Nat} {loc : Option Addr} {cp : Nat} {row : List Int} (h : RowAt2 w cols A i b off loc cp row) (hb : Below w.heap.size w w') : RowAt2 w' cols A i b off loc cp row :=
  ⟨(hb.cell (p := ⟨b, off + i, none⟩) h.lt).trans h.cell, Nat.lt_of_lt_of_le h.lt hb.size, h.len, h.crow.stays hb, h.num⟩
/-- Its number in a column, where it lies. -/
theorem RowAt2.at {w : World} {cols : Nat} {A : Mx} {i b off : Nat} {loc : Option Addr} {cp : Nat} {row : List Int} (h : RowAt2 w cols A i b off loc cp row) {j : Nat} (hj : j < cols) : ∃ b' o' x, loc = some ⟨b', o', none⟩ ∧ b' < w.heap.size ∧ w.cell? ⟨b', o' + j, none⟩ = some (.int .i64 x) ∧ A i j = g8 x := by
  obtain ⟨b', o', e, hb, hc⟩ := crow_int h.crow (by rw [h.len]; omega)
  exact ⟨b', o', row.getD j 0, e, hb, hc j (by rw [h.len]; exact hj), h.num j hj⟩
/-- A matrix that lies in memory, row by row. -/
def Lies (w : World) (n cols : Nat) (A : Mx) (b off : Nat) : Prop := ∀ i, i < n → ∃ loc cp row, RowAt2 w cols A i b off loc cp row
theorem Lies.below {w w' : World} {n cols : Nat} {A : Mx} {b off : Nat} (h : Lies w n cols A b off) (hb : Below w.heap.size w w') : Lies w' n cols A b off := fun i hi => by
  obtain ⟨loc, cp, row, hr⟩ := h i hi
  exact ⟨loc, cp, row, hr.below hb⟩
theorem row_at {w : World} {a : Option Addr} {ss : List SR} {lo hi : Nat} {X : List (List Int)} (h : MR w a ss lo hi) (hX : rws ss = X) (hok : matOk X = true) :
    ∃ b off, a = some ⟨b, off, none⟩ ∧ Lies w X.length (colsOf X) (mx X) b off := by
  have hl : ss.length = X.length := by rw [← hX, rws_len]
  obtain ⟨h1, _, h3⟩ := matOk_iff hok
  obtain ⟨b, off, e, hb, hc⟩ := h.at (by omega)
  refine ⟨b, off, e, fun i hi => ?_⟩
  have his : i < ss.length := by omega
  have hmem : ss[i].row ∈ X := by rw [← hX]; exact List.mem_map.2 ⟨ss[i], List.getElem_mem his, rfl⟩
  have hlen := (h3 _ hmem).1
  have hget : X.getD i [] = ss[i].row := by rw [← hX, List.getD_eq_getElem?_getD]; simp [rws, his]
  refine ⟨ss[i].loc, ss[i].cap, ss[i].row, ⟨?_, hb, hlen, (h.2 _ (List.getElem_mem his)).crow, fun j _ => by unfold mx; rw [hget]⟩⟩
  have := hc i his
  unfold srv at this
  rw [hlen] at this
  exact this
end Go.Proofs.Ytoaifodmjkhiiaa
/- MatE: The walks of the model's two steps on rows: a row so many times, and a row from which so many times another is taken. -/
namespace Go.Proofs.Ytoaifodmjkhiiaa
set_option maxRecDepth 100000
open Go.RowKit
open W (B8 Mx)
attribute [local go_sem ↓] Go.wp_at_zero Go.wp_at_succ
attribute [local irreducible] W.gm W.xs W.mm

/-- A row so many times, and two rows summed so. -/
def timesL (t : B8) (row : List Int) : List Int := row.map fun x => ((W.gm t (g8 x)).toNat : Int)
def plusL (t : B8) (dst src : List Int) : List Int := (List.range dst.length).map fun k => ((g8 (dst.getD k 0) ^^^ W.gm t (g8 (src.getD k 0))).toNat : Int)
theorem timesL_len (t : B8) (row : List Int) : (timesL t row).length = row.length := by simp [timesL]
theorem plusL_len (t : B8) (dst src : List Int) : (plusL t dst src).length = dst.length := by simp [plusL]
/-- A new row. -/
def RowPost (row : List Int) (w : World) (e : Ending) (w' : World) : Prop := ∃ g cap, e = .returned (.slice (some ⟨g, 0, none⟩) row.length cap) ∧ w.heap.size ≤ g ∧ WCells w' g (ics row) ∧ row.length ≤ cap ∧ Below w.heap.size w w'
theorem ownsRow_one {W : World} {base : Nat} {e : TypeId} {size : Nat} {v : Value} {k : Nat} {xs : List Value} (h : W.ownsRow base e size v (k + 1) xs) : ∃ g cap, v = .slice (some ⟨g, 0, none⟩) (k + 1) cap := by
  rcases h.2 with ⟨_, h0⟩ | ⟨g, cap, _, rfl, _⟩
  · omega
  · exact ⟨g, cap, rfl⟩
theorem row_post {row : List Int} {w w' : World} {v : Value} {n : Nat} (hp : 0 < n) (hn : row.length = n) (hown : w'.ownsRow w.heap.size 3 1 v n (ics row)) (hb : Below w.heap.size w w') : RowPost row w (.returned v) w' := by
  obtain ⟨m, rfl⟩ : ∃ m, n = m + 1 := ⟨n - 1, by omega⟩
  obtain ⟨g, cap, rfl⟩ := ownsRow_one hown
  have hown2 := hown
  obtain ⟨_, ⟨h0, _⟩ | ⟨g', cap', cur, he, _, _, hc, _⟩⟩ := hown
  · cases h0
  · have e1 : cap' = cap := by simp at he; exact he.2.symm
    exact ⟨g, cap, by rw [hn], (hown2.lt g rfl).1, own_wcells hown2, by omega, hb⟩
end Go.Proofs.Ytoaifodmjkhiiaa
/- MatF: The walk of the model's step on two rows: so many times a row is taken from another one. -/
namespace Go.Proofs.Ytoaifodmjkhiiaa
set_option maxRecDepth 100000
open Go.RowKit
open W (B8 Mx)
attribute [local go_sem ↓] Go.wp_at_zero Go.wp_at_succ
attribute [local irreducible] W.gm W.xs W.mm

theorem plusL_step (t : B8) (dst src : List Int) {k : Nat} (h : k < dst.length) : (plusL t dst src).take (k + 1) = (plusL t dst src).take k ++ [((g8 (dst.getD k 0) ^^^ W.gm t (g8 (src.getD k 0))).toNat : Int)] := by
  have hk : k < (plusL t dst src).length := by rw [plusL_len]; exact h
  rw [List.take_succ_eq_append_getElem hk]
  congr 2
  simp [plusL]
theorem g8_self {x : Int} (h0 : 0 ≤ x) (h1 : x ≤ 255) : ((g8 x).toNat : Int) = x := by rw [g8_nat]; omega
theorem kept_app {w w' : World} {o : Obj} {q : Option Nat} {a : Addr} {v : Value} (hg : (w.drew.alloc o).grownBy w' q) (hl : a.block < w.heap.size) (hq : q ≠ some a.block) (h : w.cell? a = some v) : w'.cell? a = some v := by
  have h1 : (w.drew.alloc o).cell? a = some v := ((((Below.refl w.heap.size w).drew).alloc (Nat.le_refl _) o).cell (p := a) hl).trans h
  have hl2 : a.block < (w.drew.alloc o).heap.size := by simp; omega
  exact (World.cell?_of_block (a := a) (hg.block a.block hl2 (fun e => hq e.symm))).trans h1
end Go.Proofs.Ytoaifodmjkhiiaa
/- MatG: An elimination as it lies in memory: two rows of rows, of which rows are put in the places of others; and what its steps do to the two as matrices. -/
namespace Go.Proofs.Ytoaifodmjkhiiaa
set_option maxRecDepth 100000
open Go.RowKit
open W (B8 Mx)
attribute [local irreducible] W.gm W.xs W.mm

/-- A square of numbers that is right. -/
structure Sq (n : Nat) (X : List (List Int)) : Prop where
  len : X.length = n
  row : ∀ x ∈ X, x.length = n ∧ ∀ y ∈ x, 0 ≤ y ∧ y ≤ 255
theorem Sq.at {n : Nat} {X : List (List Int)} (h : Sq n X) {i : Nat} (hi : i < n) : (X.getD i []).length = n ∧ ∀ y ∈ X.getD i [], 0 ≤ y ∧ y ≤ 255 := by
  have hi' : i < X.length := by rw [h.len]; exact hi
  have e : X.getD i [] = X[i] := by simp [List.getD, hi']
  rw [e]; exact h.row _ (List.getElem_mem hi')
theorem Sq.num {n : Nat} {X : List (List Int)} (h : Sq n X) {i j : Nat} (hi : i < n) (hj : j < n) : (((mx X) i j).toNat : Int) = (X.getD i []).getD j 0 := by
  obtain ⟨h1, h2⟩ := h.at hi
  have hj' : j < (X.getD i []).length := by omega
  obtain ⟨q1, q2⟩ := h2 ((X.getD i []).getD j 0) (by generalize X.getD i [] = r at *; simp [List.getD, hj'])
  exact g8_self q1 q2
theorem Sq.set {n : Nat} {X : List (List Int)} (h : Sq n X) (i : Nat) {r : List Int} (hl : r.length = n) (hr : ∀ y ∈ r, 0 ≤ y ∧ y ≤ 255) : Sq n (X.set i r) :=
  ⟨by rw [List.length_set]; exact h.len, fun x hx => by
    rcases List.mem_or_eq_of_mem_set hx with h1 | rfl
    · exact h.row x h1
    · exact ⟨hl, hr⟩⟩
theorem mx_set {X : List (List Int)} {i : Nat} (hi : i < X.length) (r : List Int) (k j : Nat) : mx (X.set i r) k j = if k = i then g8 (r.getD j 0) else mx X k j := by
  unfold mx
  by_cases e : k = i
  · subst e; rw [if_pos rfl]; congr 2; simp [List.getD, hi]
  · rw [if_neg e]; congr 2; simp [List.getD, List.getElem?_set_ne (Ne.symm e)]
/-- The three steps, as rows. -/
def swapX (p c : Nat) (X : List (List Int)) : List (List Int) := (X.set p (X.getD c [])).set c (X.getD p [])
theorem Sq.swap {n : Nat} {X : List (List Int)} (h : Sq n X) {p c : Nat} (hp : p < n) (hc : c < n) : Sq n (swapX p c X) := (h.set p (h.at hc).1 (h.at hc).2).set c (h.at hp).1 (h.at hp).2
theorem mx_swap {n : Nat} {X : List (List Int)} (h : Sq n X) {p c : Nat} (hp : p < n) (hc : c < n) : mx (swapX p c X) = W.swapR p c (mx X) := by
  funext k j
  unfold swapX W.swapR
  rw [mx_set (by rw [List.length_set, h.len]; exact hc), mx_set (by rw [h.len]; exact hp)]
  by_cases e1 : k = p
  · subst e1
    rw [if_pos rfl, if_pos rfl]
    by_cases e2 : k = c
    · subst e2; rw [if_pos rfl]; rfl
    · rw [if_neg e2]; rfl
  · rw [if_neg e1, if_neg e1]
    by_cases e2 : k = c
    · rw [if_pos e2, if_pos e2]; rfl
    · rw [if_neg e2, if_neg e2]
theorem b8_num (A : B8) : 0 ≤ (A.toNat : Int) ∧ (A.toNat : Int) ≤ 255 := by have := A.isLt; omega
theorem timesL_num (t : B8) (row : List Int) : ∀ y ∈ timesL t row, 0 ≤ y ∧ y ≤ 255 := fun y hy => by
  obtain ⟨x, _, rfl⟩ := List.mem_map.1 hy
  exact b8_num _
theorem plusL_num (t : B8) (a b : List Int) : ∀ y ∈ plusL t a b, 0 ≤ y ∧ y ≤ 255 := fun y hy => by
  obtain ⟨x, _, rfl⟩ := List.mem_map.1 hy
  exact b8_num _
theorem timesL_get {t : B8} {row : List Int} {j : Nat} (h : j < row.length) : g8 ((timesL t row).getD j 0) = W.gm t (g8 (row.getD j 0)) := by
  have e : (timesL t row).getD j 0 = ((W.gm t (g8 (row.getD j 0))).toNat : Int) := by simp [timesL, List.getD, h]
  rw [e, g8_back]
theorem plusL_get {t : B8} {a b : List Int} {j : Nat} (h : j < a.length) : g8 ((plusL t a b).getD j 0) = g8 (a.getD j 0) ^^^ W.gm t (g8 (b.getD j 0)) := by
  have e : (plusL t a b).getD j 0 = ((g8 (a.getD j 0) ^^^ W.gm t (g8 (b.getD j 0))).toNat : Int) := by
    unfold plusL; rw [List.getD_eq_getElem?_getD, List.getElem?_map, List.getElem?_range h]; rfl
  rw [e, g8_back]
theorem mx_times {n : Nat} {X : List (List Int)} (h : Sq n X) {c : Nat} (hc : c < n) (t : B8) : W.eqM n n (mx (X.set c (timesL t (X.getD c [])))) (W.timesR c t (mx X)) := by
  intro k _ j hj
  rw [mx_set (by rw [h.len]; exact hc)]
  unfold W.timesR
  by_cases e : k = c
  · rw [if_pos e, if_pos e, timesL_get (by rw [(h.at hc).1]; exact hj)]; rfl
  · rw [if_neg e, if_neg e]
theorem mx_plus {n : Nat} {X : List (List Int)} (h : Sq n X) {i c : Nat} (hi : i < n) (t : B8) : W.eqM n n (mx (X.set i (plusL t (X.getD i []) (X.getD c [])))) (W.plusR i c t (mx X)) := by
  intro k _ j hj
  rw [mx_set (by rw [h.len]; exact hi)]
  unfold W.plusR
  by_cases e : k = i
  · rw [if_pos e, if_pos e, plusL_get (by rw [(h.at hi).1]; exact hj)]; rfl
  · rw [if_neg e, if_neg e]

/-- A row of numbers in a block of its own, apart from two. -/
def RowIn (w wr : World) (ga gb : Nat) (s : SR) : Prop := ∃ b, s.loc = some ⟨b, 0, none⟩ ∧ w.heap.size ≤ b ∧ b ≠ ga ∧ b ≠ gb ∧ WCells wr b (ics s.row) ∧ s.row.length ≤ s.cap
theorem RowIn.below {w wr w' : World} {ga gb : Nat} {s : SR} (h : RowIn w wr ga gb s) (hb : Below wr.heap.size wr w') : RowIn w w' ga gb s := by
  obtain ⟨b, e, h1, h2, h3, h4, h5⟩ := h
  exact ⟨b, e, h1, h2, h3, h4.grow hb, h5⟩
theorem RowIn.setA {w wr : World} {ga gb : Nat} {s : SR} (h : RowIn w wr ga gb s) (i : Nat) (v : Value) : RowIn w (wr.setCell ⟨ga, i, none⟩ v) ga gb s := by
  obtain ⟨b, e, h1, h2, h3, h4, h5⟩ := h
  exact ⟨b, e, h1, h2, h3, h4.other _ _ h2, h5⟩
theorem RowIn.setB {w wr : World} {ga gb : Nat} {s : SR} (h : RowIn w wr ga gb s) (i : Nat) (v : Value) : RowIn w (wr.setCell ⟨gb, i, none⟩ v) ga gb s := by
  obtain ⟨b, e, h1, h2, h3, h4, h5⟩ := h
  exact ⟨b, e, h1, h2, h3, h4.other _ _ h3, h5⟩
/-- Two rows of rows in memory. -/
structure Two (w wr : World) (ga gb : Nat) (ssA ssB : List SR) : Prop where
  outA : WCells wr ga (svs ssA)
  outB : WCells wr gb (svs ssB)
  la : w.heap.size ≤ ga
  lb : w.heap.size ≤ gb
  ne : ga ≠ gb
  rowA : ∀ s ∈ ssA, RowIn w wr ga gb s
  rowB : ∀ s ∈ ssB, RowIn w wr ga gb s
  bel : Below w.heap.size w wr
theorem Two.below {w wr w' : World} {ga gb : Nat} {ssA ssB : List SR} (h : Two w wr ga gb ssA ssB) (hb : Below wr.heap.size wr w') : Two w w' ga gb ssA ssB :=
  ⟨h.outA.grow hb, h.outB.grow hb, h.la, h.lb, h.ne, fun s hs => (h.rowA s hs).below hb, fun s hs => (h.rowB s hs).below hb, h.bel.trans (hb.mono h.bel.size)⟩
theorem svs_set (ss : List SR) (i : Nat) (s : SR) : (svs ss).set i (srv s) = svs (ss.set i s) := by simp [svs, List.map_set]
theorem rws_set (ss : List SR) (i : Nat) (s : SR) : (rws ss).set i s.row = rws (ss.set i s) := by simp [rws, List.map_set]
theorem Two.setA {w wr : World} {ga gb : Nat} {ssA ssB : List SR} (h : Two w wr ga gb ssA ssB) {i : Nat} (hi : i < ssA.length) {s : SR} {v : Value} (hv : v = srv s) (hs : RowIn w wr ga gb s) : Two w (wr.setCell ⟨ga, i, none⟩ v) ga gb (ssA.set i s) ssB := by
  subst hv
  refine ⟨?_, h.outB.other _ _ (fun e => h.ne e.symm), h.la, h.lb, h.ne, fun t ht => ?_, fun t ht => (h.rowB t ht).setA i _, h.bel.setCell h.la _⟩
  · rw [← svs_set]; exact h.outA.set i _ (by rw [svs_len]; exact hi)
  · rcases List.mem_or_eq_of_mem_set ht with h1 | rfl
    · exact (h.rowA t h1).setA i _
    · exact hs.setA i _
theorem Two.setB {w wr : World} {ga gb : Nat} {ssA ssB : List SR} (h : Two w wr ga gb ssA ssB) {i : Nat} (hi : i < ssB.length) {s : SR} {v : Value} (hv : v = srv s) (hs : RowIn w wr ga gb s) : Two w (wr.setCell ⟨gb, i, none⟩ v) ga gb ssA (ssB.set i s) := by
  subst hv
  refine ⟨h.outA.other _ _ h.ne, ?_, h.la, h.lb, h.ne, fun t ht => (h.rowA t ht).setB i _, fun t ht => ?_, h.bel.setCell h.lb _⟩
  · rw [← svs_set]; exact h.outB.set i _ (by rw [svs_len]; exact hi)
  · rcases List.mem_or_eq_of_mem_set ht with h1 | rfl
    · exact (h.rowB t h1).setB i _
    · exact hs.setB i _
/-- What the walk wants of a row: its cell, and its numbers. -/
structure RowGot (w wr : World) (ga gb n g i b cp : Nat) (ss : List SR) : Prop where
  lt : i < ss.length
  cell : wr.cell? ⟨g, i, none⟩ = some (.slice (some ⟨b, 0, none⟩) n cp)
  free : wr.frozen? ⟨g, i, none⟩ = false
  is : ss.getD i default = ⟨some ⟨b, 0, none⟩, (rws ss).getD i [], cp⟩
  val : Value.slice (some ⟨b, 0, none⟩) n cp = srv (ss.getD i default)
  row : RowIn w wr ga gb (ss.getD i default)
  num : ∀ j, j < n → wr.cell? ⟨b, j, none⟩ = some (.int .i64 (((rws ss).getD i []).getD j 0))
  crow : CRow wr (some ⟨b, 0, none⟩) (ics ((rws ss).getD i []))
theorem row_got {w wr : World} {ga gb n g i : Nat} {ss : List SR} (hsq : Sq n (rws ss)) (hi : i < n) (ho : WCells wr g (svs ss)) (hr : ∀ s ∈ ss, RowIn w wr ga gb s) : ∃ b cp, RowGot w wr ga gb n g i b cp ss := by
  have hl : i < ss.length := by have := hsq.len; rw [rws_len] at this; omega
  have e0 : ss.getD i default = ss[i] := by simp [List.getD, hl]
  have e1 : (rws ss).getD i [] = ss[i].row := by simp [rws, List.getD, hl]
  obtain ⟨b, e, h1, h2, h3, h4, h5⟩ := hr ss[i] (List.getElem_mem hl)
  obtain ⟨c1, c2⟩ := ho.2 i _ (svs_get ss i hl)
  have hn : ss[i].row.length = n := by rw [← e1]; exact (hsq.at hi).1
  have ev : srv ss[i] = .slice (some ⟨b, 0, none⟩) n ss[i].cap := by unfold srv; rw [e, hn]
  refine ⟨b, ss[i].cap, hl, by rw [c1, ev], c2, ?_, by rw [e0, ev], by rw [e0]; exact ⟨b, e, h1, h2, h3, h4, h5⟩, fun j hj => ?_, by rw [e1]; exact h4.crow⟩
  · rw [e0, e1]
    have := e
    cases hx : ss[i] with
    | mk l r cc => rw [hx] at this; simp at this; rw [this]
  · rw [e1]
    exact (h4.2 j _ (ics_get _ j (by omega))).1
theorem Two.gotA {w wr : World} {ga gb n i : Nat} {ssA ssB : List SR} (h : Two w wr ga gb ssA ssB) (hsq : Sq n (rws ssA)) (hi : i < n) : ∃ b cp, RowGot w wr ga gb n ga i b cp ssA := row_got hsq hi h.outA h.rowA
theorem Two.gotB {w wr : World} {ga gb n i : Nat} {ssA ssB : List SR} (h : Two w wr ga gb ssA ssB) (hsq : Sq n (rws ssB)) (hi : i < n) : ∃ b cp, RowGot w wr ga gb n gb i b cp ssB := row_got hsq hi h.outB h.rowB
/-- A new row stands apart. -/
theorem row_new {w wr w' : World} {ga gb g cp : Nat} {row : List Int} {ssA ssB : List SR} (h : Two w wr ga gb ssA ssB) (hg : wr.heap.size ≤ g) (hc : WCells w' g (ics row)) (hl : row.length ≤ cp) : RowIn w w' ga gb ⟨some ⟨g, 0, none⟩, row, cp⟩ :=
  ⟨g, rfl, Nat.le_trans h.bel.size hg, by have := h.outA.1; omega, by have := h.outB.1; omega, hc, hl⟩
/-- The rows of the second one are apart from each other. -/
abbrev Apart (ss : List SR) : Prop := (ss.map SR.loc).Nodup
theorem apart_iff {ss : List SR} : Apart ss ↔ ∀ i j, i < j → j < ss.length → (ss.getD i default).loc ≠ (ss.getD j default).loc := by
  unfold Apart
  rw [List.nodup_iff_pairwise_ne, List.pairwise_iff_getElem]
  constructor
  · intro h i j hij hj
    have := h i j (by rw [List.length_map]; omega) (by rw [List.length_map]; exact hj) hij
    rw [List.getElem_map, List.getElem_map] at this
    rw [show ss.getD i default = ss[i] by simp [List.getD, show i < ss.length by omega], show ss.getD j default = ss[j] by simp [List.getD, hj]]
    exact this
  · intro h i j hi hj hij
    rw [List.length_map] at hi hj
    have := h i j hij hj
    rw [show ss.getD i default = ss[i] by simp [List.getD, hi], show ss.getD j default = ss[j] by simp [List.getD, hj]] at this
    rw [List.getElem_map, List.getElem_map]
    exact this
theorem Apart.ne {ss : List SR} (h : Apart ss) {i j : Nat} (hi : i < ss.length) (hj : j < ss.length) (hij : i ≠ j) : (ss.getD i default).loc ≠ (ss.getD j default).loc := by
  rcases Nat.lt_or_gt_of_ne hij with q | q
  · exact apart_iff.1 h i j q hj
  · exact fun e => apart_iff.1 h j i q hi e.symm
theorem set_get {ss : List SR} {i : Nat} (s : SR) (hi : i < ss.length) (k : Nat) : (ss.set i s).getD k default = if k = i then s else ss.getD k default := by
  by_cases e : k = i
  · subst e; rw [if_pos rfl]; simp [List.getD, hi]
  · rw [if_neg e]; simp [List.getD, List.getElem?_set_ne (Ne.symm e)]
theorem Apart.set {ss : List SR} (h : Apart ss) {i : Nat} (hi : i < ss.length) {s : SR} (hs : ∀ k, k < ss.length → k ≠ i → (ss.getD k default).loc ≠ s.loc) : Apart (ss.set i s) := by
  rw [apart_iff]
  intro a b hab hb
  rw [List.length_set] at hb
  rw [set_get s hi, set_get s hi]
  by_cases e1 : a = i
  · rw [if_pos e1, if_neg (by omega)]; exact fun e => hs b hb (by omega) e.symm
  · rw [if_neg e1]
    by_cases e2 : b = i
    · rw [if_pos e2]; exact hs a (by omega) e1
    · rw [if_neg e2]; exact apart_iff.1 h a b hab hb
theorem Apart.swap {ss : List SR} (h : Apart ss) {p c : Nat} (hp : p < ss.length) (hc : c < ss.length) : Apart ((ss.set p (ss.getD c default)).set c (ss.getD p default)) := by
  rw [apart_iff]
  intro a b hab hb
  rw [List.length_set, List.length_set] at hb
  have hc' : c < (ss.set p (ss.getD c default)).length := by rw [List.length_set]; exact hc
  rw [set_get (ss := ss.set p (ss.getD c default)) _ hc' a, set_get (ss := ss.set p (ss.getD c default)) _ hc' b, set_get (ss := ss) _ hp a, set_get (ss := ss) _ hp b]
  by_cases a1 : a = c
  · rw [if_pos a1, if_neg (show ¬ b = c by omega)]
    by_cases b1 : b = p
    · rw [if_pos b1]; exact h.ne hp hc (by omega)
    · rw [if_neg b1]; exact h.ne hp hb (by omega)
  · rw [if_neg a1]
    by_cases a2 : a = p
    · rw [if_pos a2]
      by_cases b1 : b = c
      · rw [if_pos b1]; exact h.ne hc hp (by omega)
      · rw [if_neg b1, if_neg (show ¬ b = p by omega)]; exact h.ne hc hb (by omega)
    · rw [if_neg a2]
      by_cases b1 : b = c
      · rw [if_pos b1]; exact h.ne (by omega) hp (by omega)
      · rw [if_neg b1]
        by_cases b2 : b = p
        · rw [if_pos b2]; exact h.ne (by omega) hc (by omega)
        · rw [if_neg b2]; exact h.ne (by omega) hb (by omega)
/-- The second one as an answer. -/
theorem Two.fin {w wr : World} {ga gb n cap : Nat} {ssA ssB : List SR} (h : Two w wr ga gb ssA ssB) (hap : Apart ssB) (hn : ssB.length = n) (hc : n ≤ cap) : MAns wr (.slice (some ⟨gb, 0, none⟩) n cap) (rws ssB) w.heap.size wr.heap.size := by
  refine ⟨_, cap, ssB, by rw [hn], rfl, by omega, .inr ⟨gb, rfl, h.outB, h.lb, h.outB.1, fun s hs => ?_, hap⟩⟩
  obtain ⟨b, e, h1, _, h3, h4, h5⟩ := h.rowB s hs
  exact ⟨b, e, h1, h4.1, h3, h4, h5⟩
/-- The steps of the elimination, as far as they are of numbers: the first columns. -/
theorem cols_swap {n c p : Nat} {A : Mx} (h : W.Cols n c A) (hc : c < n) (hp : p < n) (hcp : c ≤ p) : W.Cols n c (W.swapR p c A) := by
  intro i hi j hj
  unfold W.swapR
  by_cases e1 : i = p
  · rw [if_pos e1, h c hc j hj]; unfold W.one; rw [if_neg (by omega), if_neg (by omega)]
  · rw [if_neg e1]
    by_cases e2 : i = c
    · rw [if_pos e2, h p hp j hj]; unfold W.one; rw [if_neg (by omega), if_neg (by omega)]
    · rw [if_neg e2]; exact h i hi j hj
theorem cols_times {n c : Nat} {A : Mx} (h : W.Cols n c A) (hc : c < n) (t : B8) : W.Cols n c (W.timesR c t A) := by
  intro i hi j hj
  unfold W.timesR
  by_cases e : i = c
  · rw [if_pos e, h c hc j hj]; unfold W.one; rw [if_neg (by omega), if_neg (by omega), W.gm_zero]
  · rw [if_neg e]; exact h i hi j hj
theorem cols_plus {n c i : Nat} {A : Mx} (h : W.Cols n c A) (hc : c < n) (t : B8) : W.Cols n c (W.plusR i c t A) := by
  intro k hk j hj
  unfold W.plusR
  by_cases e : k = i
  · subst e; rw [if_pos rfl, h c hc j hj]; rw [show W.one c j = 0#8 by unfold W.one; rw [if_neg (by omega)]]; rw [W.gm_zero, BitVec.xor_zero]; exact h k hk j hj
  · rw [if_neg e]; exact h k hk j hj
theorem cols_congr {n c : Nat} {A B : Mx} (h : W.Cols n c A) (hc : c ≤ n) (e : W.eqM n n A B) : W.Cols n c B := fun i hi j hj => by rw [← e i hi j (by omega)]; exact h i hi j hj
/-- Column c under way: the diagonal is there, and the first i rows are done. -/
def ColDone (n c i : Nat) (A : Mx) : Prop := A c c = 1#8 ∧ ∀ k, k < i → k < n → k ≠ c → A k c = 0#8
theorem col_all {n c : Nat} {A : Mx} (h : W.Cols n c A) (hd : ColDone n c n A) : W.Cols n (c + 1) A := fun i hi j hj => by
  by_cases e : j < c
  · exact h i hi j e
  · obtain rfl : j = c := by omega
    unfold W.one
    by_cases e2 : i = j
    · rw [if_pos e2, e2]; exact hd.1
    · rw [if_neg e2]; exact hd.2 i hi hi e2
end Go.Proofs.Ytoaifodmjkhiiaa
/- MatI: An elimination: what is known of its two rows of rows as matrices, from step to step; and what its end says. -/
namespace Go.Proofs.Ytoaifodmjkhiiaa
set_option maxRecDepth 100000
open Go.RowKit
open W (B8 Mx)
attribute [local irreducible] W.gm W.xs W.mm

theorem mx_is (X : List (List Int)) (i j : Nat) : mx X i j = g8 ((X.getD i []).getD j 0) := rfl
/-- No row of the second one lies where a new one does. -/
theorem Two.newB {w wr : World} {ga gb g : Nat} {ssA ssB : List SR} (h : Two w wr ga gb ssA ssB) (hg : wr.heap.size ≤ g) : ∀ k, k < ssB.length → (ssB.getD k default).loc ≠ some ⟨g, 0, none⟩ := by
  intro k hk e
  have e0 : ssB.getD k default = ssB[k] := by simp [List.getD, hk]
  obtain ⟨b, eb, _, _, _, q, _⟩ := h.rowB ssB[k] (List.getElem_mem hk)
  rw [e0, eb] at e
  have : b = g := congrArg Addr.block (Option.some.inj e)
  have := q.1
  omega
/-- The cell of a row may be written. -/
theorem Two.freeA {w wr : World} {ga gb : Nat} {ssA ssB : List SR} (h : Two w wr ga gb ssA ssB) {i : Nat} (hi : i < ssA.length) : ∃ v, wr.cell? ⟨ga, i, none⟩ = some v ∧ wr.frozen? ⟨ga, i, none⟩ = false := ⟨_, h.outA.2 i _ (svs_get ssA i hi)⟩
theorem Two.freeB {w wr : World} {ga gb : Nat} {ssA ssB : List SR} (h : Two w wr ga gb ssA ssB) {i : Nat} (hi : i < ssB.length) : ∃ v, wr.cell? ⟨gb, i, none⟩ = some v ∧ wr.frozen? ⟨gb, i, none⟩ = false := ⟨_, h.outB.2 i _ (svs_get ssB i hi)⟩
theorem srv_is (g n cp : Nat) (r : List Int) (h : r.length = n) : Value.slice (some ⟨g, 0, none⟩) n cp = srv ⟨some ⟨g, 0, none⟩, r, cp⟩ := by unfold srv; rw [h]
/-- Rows with two in each other's place. -/
def swapS (p c : Nat) (ss : List SR) : List SR := (ss.set p (ss.getD c default)).set c (ss.getD p default)
theorem swapS_len (p c : Nat) (ss : List SR) : (swapS p c ss).length = ss.length := by simp [swapS]
theorem getD_row (ss : List SR) (i : Nat) : (ss.getD i default).row = (rws ss).getD i [] := by
  by_cases h : i < ss.length
  · simp [rws, List.getD, h]
  · simp [rws, List.getD, Nat.le_of_not_lt h]; rfl
theorem rws_swap (p c : Nat) (ss : List SR) : rws (swapS p c ss) = swapX p c (rws ss) := by
  unfold swapS swapX
  rw [← rws_set, ← rws_set, getD_row, getD_row]
/-- What is known of the two, with the first c columns done. -/
structure Pu (n c : Nat) (M : Mx) (ssA ssB : List SR) : Prop where
  sa : Sq n (rws ssA)
  sb : Sq n (rws ssB)
  ap : Apart ssB
  el : W.Elim n M (mx (rws ssA)) (mx (rws ssB))
  co : W.Cols n c (mx (rws ssA))
theorem Pu.lenA {n c : Nat} {M : Mx} {ssA ssB : List SR} (h : Pu n c M ssA ssB) : ssA.length = n := by rw [← rws_len]; exact h.sa.len
theorem Pu.lenB {n c : Nat} {M : Mx} {ssA ssB : List SR} (h : Pu n c M ssA ssB) : ssB.length = n := by rw [← rws_len]; exact h.sb.len
theorem Pu.swap {n c p : Nat} {M : Mx} {ssA ssB : List SR} (h : Pu n c M ssA ssB) (hc : c < n) (hp : p < n) (hcp : c ≤ p) : Pu n c M (swapS p c ssA) (swapS p c ssB) := by
  refine ⟨?_, ?_, h.ap.swap (by rw [h.lenB]; exact hp) (by rw [h.lenB]; exact hc), ?_, ?_⟩
  · rw [rws_swap]; exact h.sa.swap hp hc
  · rw [rws_swap]; exact h.sb.swap hp hc
  · rw [rws_swap, rws_swap, mx_swap h.sa hp hc, mx_swap h.sb hp hc]; exact h.el.swap hp hc
  · rw [rws_swap, mx_swap h.sa hp hc]; exact cols_swap h.co hc hp hcp
theorem mx_swap_c {n c p : Nat} {ss : List SR} (h : Sq n (rws ss)) (hc : c < n) (hp : p < n) : mx (rws (swapS p c ss)) c c = mx (rws ss) p c := by
  rw [rws_swap, mx_swap h hp hc]
  unfold W.swapR
  by_cases e : c = p
  · subst e; rw [if_pos rfl]
  · rw [if_neg e, if_pos rfl]
theorem Pu.times {n c : Nat} {M : Mx} {ssA ssB : List SR} (h : Pu n c M ssA ssB) (hc : c < n) {x : B8} (hx : x = mx (rws ssA) c c) (h0 : x ≠ 0#8) {sA sB : SR} (hA : sA.row = timesL (W.gi x) ((rws ssA).getD c [])) (hB : sB.row = timesL (W.gi x) ((rws ssB).getD c []))
    (hnew : ∀ k, k < ssB.length → (ssB.getD k default).loc ≠ sB.loc) : Pu n c M (ssA.set c sA) (ssB.set c sB) ∧ ColDone n c 0 (mx (rws (ssA.set c sA))) := by
  have e1 := mx_times h.sa hc (W.gi x)
  have e2 := mx_times h.sb hc (W.gi x)
  rw [← hA, rws_set] at e1
  rw [← hB, rws_set] at e2
  have hs : W.gm (W.gi x) x = 1#8 := by rw [W.gm_comm]; exact W.gm_gi x h0
  refine ⟨⟨?_, ?_, h.ap.set (by rw [h.lenB]; exact hc) (fun k hk _ => hnew k hk), (h.el.times hc hs).congr e1.symm e2.symm, cols_congr (cols_times h.co hc (W.gi x)) (Nat.le_of_lt hc) e1.symm⟩, ?_, fun k hk => by omega⟩
  · rw [← rws_set, hA]; exact h.sa.set c (by rw [timesL_len]; exact (h.sa.at hc).1) (timesL_num _ _)
  · rw [← rws_set, hB]; exact h.sb.set c (by rw [timesL_len]; exact (h.sb.at hc).1) (timesL_num _ _)
  · rw [e1 c hc c hc]
    unfold W.timesR
    rw [if_pos rfl, ← hx, hs]
theorem Pu.plus {n c i : Nat} {M : Mx} {ssA ssB : List SR} (h : Pu n c M ssA ssB) (hc : c < n) (hi : i < n) (hic : i ≠ c) (hd : ColDone n c i (mx (rws ssA))) {t : B8} (ht : t = mx (rws ssA) i c) {sA sB : SR} (hA : sA.row = plusL t ((rws ssA).getD i []) ((rws ssA).getD c [])) (hB : sB.row = plusL t ((rws ssB).getD i []) ((rws ssB).getD c []))
    (hnew : ∀ k, k < ssB.length → (ssB.getD k default).loc ≠ sB.loc) : Pu n c M (ssA.set i sA) (ssB.set i sB) ∧ ColDone n c (i + 1) (mx (rws (ssA.set i sA))) := by
  have e1 := mx_plus (c := c) h.sa hi t
  have e2 := mx_plus (c := c) h.sb hi t
  rw [← hA, rws_set] at e1
  rw [← hB, rws_set] at e2
  refine ⟨⟨?_, ?_, h.ap.set (by rw [h.lenB]; exact hi) (fun k hk _ => hnew k hk), (h.el.plus hi hc hic t).congr e1.symm e2.symm, cols_congr (cols_plus h.co hc t) (Nat.le_of_lt hc) e1.symm⟩, ?_, fun k hk hkn hkc => ?_⟩
  · rw [← rws_set, hA]; exact h.sa.set i (by rw [plusL_len]; exact (h.sa.at hi).1) (plusL_num _ _ _)
  · rw [← rws_set, hB]; exact h.sb.set i (by rw [plusL_len]; exact (h.sb.at hi).1) (plusL_num _ _ _)
  · rw [e1 c hc c hc]
    unfold W.plusR
    rw [if_neg (Ne.symm hic)]; exact hd.1
  · rw [e1 k hkn c hc]
    unfold W.plusR
    by_cases e : k = i
    · rw [if_pos e, hd.1, W.gm_one, ht, BitVec.xor_self]
    · rw [if_neg e]; exact hd.2 k (by omega) hkn hkc
theorem ColDone.skip {n c i : Nat} {A : Mx} (h : ColDone n c i A) (hs : i = c ∨ A i c = 0#8) : ColDone n c (i + 1) A := ⟨h.1, fun k hk hkn hkc => by
  by_cases e : k = i
  · rcases hs with q | q
    · omega
    · rw [e]; exact q
  · exact h.2 k (by omega) hkn hkc⟩
theorem Pu.next {n c : Nat} {M : Mx} {ssA ssB : List SR} (h : Pu n c M ssA ssB) (hd : ColDone n c n (mx (rws ssA))) : Pu n (c + 1) M ssA ssB := ⟨h.sa, h.sb, h.ap, h.el, col_all h.co hd⟩
/-- A number is 0 where its byte is. -/
theorem Sq.zero {n : Nat} {X : List (List Int)} (h : Sq n X) {i j : Nat} (hi : i < n) (hj : j < n) : (X.getD i []).getD j 0 = 0 ↔ mx X i j = 0#8 := by
  have e := h.num hi hj
  constructor
  · intro h0; rw [h0] at e; exact W.b8_zero (by omega)
  · intro h0; rw [h0] at e; exact e.symm
/-- The inverse. -/
def IsInv (X Y : List (List Int)) : Prop := matOk X = true ∧ colsOf X = X.length ∧ Sq X.length Y ∧ W.Linv X.length (mx Y) (mx X) ∧ W.Linv X.length (mx X) (mx Y)
theorem Sq.ext {n : Nat} {X Y : List (List Int)} (h : Sq n X) (k : Sq n Y) (e : W.eqM n n (mx X) (mx Y)) : X = Y := by
  apply List.ext_getElem (by rw [h.len, k.len])
  intro i h1 h2
  have hi : i < n := by rw [← h.len]; exact h1
  have a1 : X.getD i [] = X[i] := by simp [List.getD, h1]
  have a2 : Y.getD i [] = Y[i] := by simp [List.getD, h2]
  rw [← a1, ← a2]
  have q1 := (h.at hi).1
  have q2 := (k.at hi).1
  apply List.ext_getElem (by rw [q1, q2])
  intro j h3 h4
  have hj : j < n := by omega
  have b1 := h.num hi hj
  have b2 := k.num hi hj
  rw [e i hi j hj] at b1
  have c1 : (X.getD i []).getD j 0 = (X.getD i [])[j] := by rw [List.getD_eq_getElem?_getD, List.getElem?_eq_getElem h3]; rfl
  have c2 : (Y.getD i []).getD j 0 = (Y.getD i [])[j] := by rw [List.getD_eq_getElem?_getD, List.getElem?_eq_getElem h4]; rfl
  rw [← c1, ← c2, ← b1, ← b2]
theorem isInv_only {X Y Z : List (List Int)} (h : IsInv X Y) (k : IsInv X Z) : Y = Z := h.2.2.1.ext k.2.2.1 (h.2.2.2.1.only k.2.2.2.2)
open Classical in
noncomputable def invX (X : List (List Int)) : List (List Int) × Bool := if h : ∃ Y, IsInv X Y then (h.choose, true) else ([], false)
theorem invX_yes {X Y : List (List Int)} (h : IsInv X Y) : invX X = (Y, true) := by
  have hx : ∃ Y, IsInv X Y := ⟨Y, h⟩
  unfold invX
  rw [dif_pos hx, isInv_only hx.choose_spec h]
theorem invX_no {X : List (List Int)} (h : ¬ ∃ Y, IsInv X Y) : invX X = ([], false) := by
  unfold invX
  rw [dif_neg h]
theorem Pu.done {n : Nat} {X : List (List Int)} {ssA ssB : List SR} (h : Pu n n (mx X) ssA ssB) (hX : matOk X = true) (hn : X.length = n) (hc : colsOf X = n) : IsInv X (rws ssB) := by
  obtain ⟨h1, h2⟩ := h.el.done (fun i hi j hj => h.co i hi j hj)
  exact ⟨hX, by omega, by rw [hn]; exact h.sb, by rw [hn]; exact h1, by rw [hn]; exact h2⟩
theorem Pu.none {n c : Nat} {X : List (List Int)} {ssA ssB : List SR} (h : Pu n c (mx X) ssA ssB) (hn : X.length = n) (hc : c < n) (hz : ∀ i, c ≤ i → i < n → mx (rws ssA) i c = 0#8) : ¬ ∃ Y, IsInv X Y := by
  rintro ⟨Y, hY⟩
  have := hY.2.2.2.1
  rw [hn] at this
  exact h.el.none hc h.co hz _ this
/-- The two at the start. -/
theorem mx_one {n : Nat} (h1 : 1 ≤ n) (h8 : n ≤ 8) : oneX (n : Int) = (List.range n).map (oneRow n) ∧ Sq n (oneX (n : Int)) ∧ W.eqM n n W.one (mx (oneX (n : Int))) := by
  have e : oneX (n : Int) = (List.range n).map (oneRow n) := by unfold oneX; rw [if_pos (by omega)]; rfl
  refine ⟨e, ⟨by rw [e]; simp, fun x hx => ?_⟩, fun i hi j hj => ?_⟩
  · rw [e] at hx
    obtain ⟨i, _, rfl⟩ := List.mem_map.1 hx
    refine ⟨oneRow_len n i, fun y hy => ?_⟩
    obtain ⟨j, _, rfl⟩ := List.mem_map.1 hy
    split <;> omega
  · unfold mx W.one
    rw [e]
    have a1 : ((List.range n).map (oneRow n)).getD i [] = oneRow n i := by rw [List.getD_eq_getElem?_getD, List.getElem?_map, List.getElem?_range hi]; rfl
    have a2 : (oneRow n i).getD j 0 = if i = j then 1 else 0 := by unfold oneRow; rw [List.getD_eq_getElem?_getD, List.getElem?_map, List.getElem?_range hj]; rfl
    rw [a1, a2]
    split <;> rfl
theorem Pu.start {n : Nat} {X : List (List Int)} {ssA ssB : List SR} (hX : Sq n X) (h1 : 1 ≤ n) (h8 : n ≤ 8) (hA : rws ssA = X) (hB : rws ssB = oneX (n : Int)) (hap : Apart ssB) : Pu n 0 (mx X) ssA ssB := by
  obtain ⟨_, q1, q2⟩ := mx_one h1 h8
  exact ⟨by rw [hA]; exact hX, by rw [hB]; exact q1, hap, by rw [hA, hB]; exact (W.Elim.start n (mx X)).congr (W.eqM.refl _ _ _) q2, fun i _ j hj => by omega⟩
theorem two_start {w wr w2 : World} {ga cap n : Nat} {v2 : Value} {ts : List SR} {Y : List (List Int)} (hbi : BI w wr (.slice (some ⟨ga, 0, none⟩) n cap) ts) (hn : ts.length = n) (hp : 0 < n) (hY : Y.length = n) (hb : Below wr.heap.size wr w2) (hv : MAns w2 v2 Y wr.heap.size w2.heap.size) :
    ∃ gb cap2 ssB, v2 = .slice (some ⟨gb, 0, none⟩) n cap2 ∧ n ≤ cap2 ∧ rws ssB = Y ∧ Apart ssB ∧ Two w w2 ga gb ts ssB := by
  obtain ⟨a, cap2, ssB, rfl, hr, hc, h1⟩ := hv
  have hl : ssB.length = n := by rw [← hY, ← hr, rws_len]
  have hne : ts ≠ [] := by rintro rfl; simp at hn; omega
  rcases h1 with rfl | ⟨gb, rfl, hm⟩
  · simp at hl; omega
  · have hown : wr.ownsRow w.heap.size 35 1 (.slice (some ⟨ga, 0, none⟩) n cap) n (svs ts) := by have := hbi.own; rw [hn] at this; exact this
    have hlt := hown.lt ga rfl
    have hglo := hm.glo
    refine ⟨gb, cap2, ssB, by rw [hl], by omega, hr, hm.apart, ⟨(own_wcells hown).grow hb, hm.out, hlt.1, by have := hbi.bel.size; omega, by omega, fun s hs => ?_, fun s hs => ?_, hbi.bel.trans (hb.mono hbi.bel.size)⟩⟩
    · obtain ⟨b, e, q1, q2, q3, q4⟩ := hbi.rows s hs
      have hbg : b ≠ ga := fun eb => by subst eb; exact row_apart q2 q4 hbi.own hne rfl
      have := q2.1
      exact ⟨b, e, q1, hbg, by omega, q2.grow hb, q3⟩
    · obtain ⟨b, e, q1, q2, q3, q4, q5⟩ := hm.rows s hs
      have := hbi.bel.size
      exact ⟨b, e, by omega, by omega, q3, q4, q5⟩
theorem RowGot.below {w wr w' : World} {ga gb n g i b cp : Nat} {ss : List SR} (h : RowGot w wr ga gb n g i b cp ss) (hg : g < wr.heap.size) (hb : Below wr.heap.size wr w') : RowGot w w' ga gb n g i b cp ss := by
  have hbl : b < wr.heap.size := by
    obtain ⟨b', e, _, _, _, q, _⟩ := h.row
    rw [h.is] at e
    have : b = b' := congrArg Addr.block (Option.some.inj e)
    rw [this]; exact q.1
  exact ⟨h.lt, (hb.cell (p := ⟨g, i, none⟩) hg).trans h.cell, (hb.frozen (p := ⟨g, i, none⟩) hg).trans h.free, h.is, h.val, h.row.below hb, fun j hj => (hb.cell (p := ⟨b, j, none⟩) hbl).trans (h.num j hj), h.crow.stays hb⟩
end Go.Proofs.Ytoaifodmjkhiiaa
/- MatH: The walk of the model's InvM. -/
namespace Go.Proofs.Ytoaifodmjkhiiaa
set_option maxRecDepth 100000
open Go.RowKit
open W (B8 Mx)
attribute [local go_sem ↓] Go.wp_at_zero Go.wp_at_succ
attribute [local irreducible] W.gm W.xs W.mm W.gi mx

/-- Rows of numbers where they lie. -/
def Rows2 (w : World) (X : List (List Int)) (n b off : Nat) : Prop := b < w.heap.size ∧ ∀ i, i < n → ∃ b' o' cp, w.cell? ⟨b, off + i, none⟩ = some (.slice (some ⟨b', o', none⟩) n cp) ∧ b' < w.heap.size ∧ ∀ j, j < n → w.cell? ⟨b', o' + j, none⟩ = some (.int .i64 ((X.getD i []).getD j 0))
theorem Rows2.below {w w' : World} {X : List (List Int)} {n b off : Nat} (h : Rows2 w X n b off) (hb : Below w.heap.size w w') : Rows2 w' X n b off := ⟨Nat.lt_of_lt_of_le h.1 hb.size, fun i hi => by
  obtain ⟨b', o', cp, e, hl, hc⟩ := h.2 i hi
  exact ⟨b', o', cp, (hb.cell (p := ⟨b, off + i, none⟩) h.1).trans e, Nat.lt_of_lt_of_le hl hb.size, fun j hj => (hb.cell (p := ⟨b', o' + j, none⟩) hl).trans (hc j hj)⟩⟩
/-- What InvM answers. -/
def InvPost (X : List (List Int)) (w : World) (e : Ending) (w' : World) : Prop := ∃ v, e = .returned (.tuple #[v, .bool (invX X).2]) ∧ MAns w' v (invX X).1 w.heap.size w'.heap.size ∧ Below w.heap.size w w'
theorem invPost_no {X : List (List Int)} {w w' : World} {e : Ending} {a : Option Addr} {cap : Nat} (h : invX X = ([], false)) (he : e = .returned (.tuple #[.slice a 0 cap, .bool false])) (hb : Below w.heap.size w w') : InvPost X w e w' := by
  unfold InvPost
  rw [h]
  exact ⟨_, he, MAns.empty _ _ _ _ _, hb⟩
theorem invPost_yes {X Y : List (List Int)} {w w' : World} {e : Ending} {v : Value} (h : IsInv X Y) (he : e = .returned (.tuple #[v, .bool true])) (hv : MAns w' v Y w.heap.size w'.heap.size) (hb : Below w.heap.size w w') : InvPost X w e w' := by
  unfold InvPost
  rw [invX_yes h]
  exact ⟨v, he, hv, hb⟩
theorem own_wider1 {w : World} {B C n sz : Nat} {t : TypeId} {v : Value} {L : List Value} (h : w.ownsRow B t sz v n L) (hC : C ≤ B) : w.ownsRow C t sz v n L := by
  obtain ⟨h1, h | ⟨g, cap, cur, e, hB, rest⟩⟩ := h
  · exact ⟨h1, .inl h⟩
  · exact ⟨h1, .inr ⟨g, cap, cur, e, Nat.le_trans hC hB, rest⟩⟩
theorem own_some {w : World} {B n sz : Nat} {t : TypeId} {v : Value} {L : List Value} (h : w.ownsRow B t sz v n L) (hp : 0 < n) : ∃ g cap, v = .slice (some ⟨g, 0, none⟩) n cap ∧ n ≤ cap := by
  rcases h.2 with ⟨_, h0⟩ | ⟨g, cap, _, rfl, _, _, hc, _⟩
  · omega
  · exact ⟨g, cap, rfl, hc⟩
theorem BI.up {w w1 wr : World} {v : Value} {ts : List SR} (h : BI w1 wr v ts) (hb : Below w.heap.size w w1) : BI w wr v ts :=
  ⟨own_wider1 h.own hb.size, fun s hs => by
    obtain ⟨b, e, q1, q2⟩ := h.rows s hs
    exact ⟨b, e, Nat.le_trans hb.size q1, q2⟩, h.apart, hb.trans (h.bel.mono hb.size)⟩
end Go.Proofs.Ytoaifodmjkhiiaa
/- MatJ: The model's InvM, at every argument. -/
namespace Go.Proofs.Ytoaifodmjkhiiaa
set_option maxRecDepth 100000
open Go.RowKit
open W (B8 Mx)
attribute [local go_sem ↓] Go.wp_at_zero Go.wp_at_succ
attribute [local irreducible] W.gm W.xs W.mm W.gi mx

theorem rows2_of {w : World} {a : Option Addr} {ss : List SR} {lo hi : Nat} {X : List (List Int)} {n : Nat} (h : MR w a ss lo hi) (hX : rws ss = X) (hsq : Sq n X) (hp : 0 < n) : ∃ b off, a = some ⟨b, off, none⟩ ∧ Rows2 w X n b off := by
  have hl : ss.length = n := by rw [← hsq.len, ← hX, rws_len]
  obtain ⟨b, off, e, hb, hc⟩ := h.at (by omega)
  refine ⟨b, off, e, hb, fun i hi => ?_⟩
  have his : i < ss.length := by omega
  have hget : X.getD i [] = ss[i].row := by rw [← hX, List.getD_eq_getElem?_getD]; simp [rws, his]
  have hlen : ss[i].row.length = n := by rw [← hget]; exact (hsq.at hi).1
  obtain ⟨b', o', e', hb', hc'⟩ := crow_int (h.2 _ (List.getElem_mem his)).crow (by omega)
  have := hc i his
  unfold srv at this
  rw [hlen, e'] at this
  exact ⟨b', o', ss[i].cap, this, hb', fun j hj => by rw [hget]; exact hc' j (by omega)⟩
theorem sq_of {X : List (List Int)} (h : matOk X = true) (hc : colsOf X = X.length) : Sq X.length X := ⟨rfl, fun x hx => by rw [← hc]; exact (matOk_iff h).2.2 x hx⟩
end Go.Proofs.Ytoaifodmjkhiiaa
/- BRowM: Rows of bytes that may be written: of a call's own, and made of a text. -/
namespace Go.Proofs.Ytoaifodmjkhiiaa
set_option maxRecDepth 100000
open Go.RowKit

/-- A row of bytes that may be written. -/
def BRow (w : World) (g : Nat) (l : List UInt8) : Prop :=
  g < w.heap.size ∧ ∀ j, j < l.length → w.cell? ⟨g, j, none⟩ = some (.int .u8 ((l.getD j 0).toNat : Int)) ∧ w.frozen? ⟨g, j, none⟩ = false
theorem BRow.set {w : World} {g : Nat} {l : List UInt8} (h : BRow w g l) (i : Nat) (x : UInt8) (hi : i < l.length) : BRow (w.setCell ⟨g, i, none⟩ (.int .u8 (x.toNat : Int))) g (l.set i x) := by
  refine ⟨by have := h.1; simpa [World.setCell] using this, fun j hj => ?_⟩
  rw [List.length_set] at hj
  refine ⟨?_, (World.frozen?_setCell _ _ _ _).trans (h.2 j hj).2⟩
  by_cases e : j = i
  · subst e
    rw [World.cell?_setCell_same _ _ _ (h.2 j hj).1]
    simp [List.getD, hi]
  · rw [World.cell?_setCell_other _ _ _ _ (by first | (simp; done) | (simp; omega)), (h.2 j hj).1]
    simp [List.getD, Ne.symm e]
theorem own_brow {w : World} {B g n cap : Nat} {l : List UInt8} (h : w.ownsRow B 5 1 (.slice (some ⟨g, 0, none⟩) n cap) n (bv l)) : BRow w g l := by
  have hc := h.cells (g := g) rfl
  have hlt := h.lt g rfl
  obtain ⟨_, ⟨h0, _⟩ | ⟨g', cap', cur, he, hB, hcur, _, _, _, _⟩⟩ := h
  · cases h0
  · have eg : g' = g := by simp at he; exact he.1.symm
    subst eg
    refine ⟨hlt.2, fun j hj => ⟨?_, ?_⟩⟩
    · have := hc j _ (show (bv l)[j]? = some _ by simp [bv, hj]; rfl)
      have e : (⟨g', 0, none⟩ : Addr).add j = ⟨g', j, none⟩ := by cases j <;> simp [Addr.add]
      rw [e] at this
      simpa [List.getD, hj] using this
    · unfold World.frozen?
      rw [hcur]; simp
theorem brow_string {w : World} {g cap : Nat} {l : List UInt8} (h : BRow w g l) :
    (convert 45 9 (.slice (some ⟨g, 0, none⟩) l.length cap)).run Try.prog w = .ok (.string ⟨l.toArray⟩) w :=
  run_convert_bytes_back w 45 9 5 ⟨g, 0, none⟩ cap l Try.underlying45 Try.underlying5 Try.underlying9 (fun j hj => by
    have e : (⟨g, 0, none⟩ : Addr).add j = ⟨g, j, none⟩ := by cases j <;> simp [Addr.add]
    rw [e, (h.2 j hj).1]
    simp [List.getD, hj])
/-- The bytes of a text, in a block of their own. -/
theorem bytes_made (w : World) (s : ByteArray) : ∃ (w' : World) (c : Nat), (convert 9 45 (.string s)).run Try.prog w = .ok (.slice (some ⟨w.heap.size, 0, none⟩) s.size c) w' ∧ BRow w' w.heap.size s.data.toList ∧ Below w.heap.size w w' := by
  refine ⟨_, _, run_bytes_of_string w 9 45 5 s Try.underlying9 Try.underlying45 Try.underlying5, ⟨?_, fun j hj => ⟨?_, ?_⟩⟩, ?_⟩
  · show w.heap.size < (w.heap.push _).size
    simp
  · rw [show w.heap.size = w.drew.heap.size from rfl, World.cell?_alloc_mark]
    have hj' : j < s.data.size := by simpa using hj
    unfold bytesRow
    rw [Array.getElem?_append_left (by simpa using hj')]
    simp only [Array.getElem?_map, List.getD, Array.getElem?_toList]
    rw [Array.getElem?_eq_getElem hj']
    rfl
  · rw [show w.heap.size = w.drew.heap.size from rfl, World.frozen?_alloc_mark]
    have hj' : j < s.data.size := by simpa using hj
    have h2 : j < (bytesRow s (grownCap w s.size 0 5)).size := by unfold bytesRow; rw [Array.size_append, Array.size_map]; omega
    rw [decide_eq_false (show ¬ (bytesRow s (grownCap w s.size 0 5)).size ≤ j by omega)]
    rfl
  · exact (Below.drew (Below.refl _ _)).alloc (Nat.le_refl _) _
end Go.Proofs.Ytoaifodmjkhiiaa
