/- Plain facts on matrices over the field of bytes: products, inverses, and what the steps of an elimination keep; nothing of the program is read here. -/
import Derived.Test.YtdlgailodhlbmaaFieldM
namespace Go.Proofs.Ytdlgailodhlbmaa.W

/-- A sum of so many. -/
def xs : Nat → (Nat → B8) → B8
  | 0, _ => 0#8
  | n + 1, f => xs n f ^^^ f n
theorem xs_0 (f : Nat → B8) : xs 0 f = 0#8 := rfl
theorem xs_succ (n : Nat) (f : Nat → B8) : xs (n + 1) f = xs n f ^^^ f n := rfl
theorem xs_congr {n : Nat} {f g : Nat → B8} (h : ∀ k, k < n → f k = g k) : xs n f = xs n g := by
  induction n with
  | zero => rfl
  | succ n ih => rw [xs, xs, ih (fun k hk => h k (by omega)), h n (by omega)]
theorem xs_add (n : Nat) (f g : Nat → B8) : xs n (fun k => f k ^^^ g k) = xs n f ^^^ xs n g := by
  induction n with
  | zero => simp [xs]
  | succ n ih => rw [xs, xs, xs, ih, xor_swap]
theorem xs_zero (n : Nat) : xs n (fun _ => 0#8) = 0#8 := by
  induction n with
  | zero => rfl
  | succ n ih => rw [xs, ih]; rfl
theorem xs_left (a : B8) (n : Nat) (f : Nat → B8) : gm a (xs n f) = xs n (fun k => gm a (f k)) := by
  induction n with
  | zero => exact gm_zero a
  | succ n ih => rw [xs, xs, gm_right, ih]
theorem xs_right (a : B8) (n : Nat) (f : Nat → B8) : gm (xs n f) a = xs n (fun k => gm (f k) a) := by
  induction n with
  | zero => exact zero_gm a
  | succ n ih => rw [xs, xs, gm_left, ih]
theorem xs_swap (n m : Nat) (f : Nat → Nat → B8) : xs n (fun i => xs m (fun j => f i j)) = xs m (fun j => xs n (fun i => f i j)) := by
  induction n with
  | zero => exact (xs_zero m).symm
  | succ n ih => simp only [xs]; rw [ih, ← xs_add]
theorem xs_one {n k : Nat} {f : Nat → B8} (hk : k < n) (h : ∀ j, j < n → j ≠ k → f j = 0#8) : xs n f = f k := by
  induction n with
  | zero => omega
  | succ n ih =>
    rw [xs]
    by_cases e : k = n
    · subst e
      rw [xs_congr (g := fun _ => 0#8) (fun j hj => h j (by omega) (by omega)), xs_zero, BitVec.zero_xor]
    · rw [ih (by omega) (fun j hj hne => h j (by omega) hne), h n (by omega) (by omega), BitVec.xor_zero]
theorem xs_two {n k l : Nat} {f : Nat → B8} (hk : k < n) (hl : l < n) (hkl : k ≠ l) (h : ∀ j, j < n → j ≠ k → j ≠ l → f j = 0#8) : xs n f = f k ^^^ f l := by
  have e : ∀ j, f j = (if j = k then f k else 0#8) ^^^ (if j = k then 0#8 else f j) := fun j => by
    by_cases hj : j = k
    · rw [if_pos hj, if_pos hj, hj, BitVec.xor_zero]
    · rw [if_neg hj, if_neg hj, BitVec.zero_xor]
  rw [xs_congr (g := fun j => (if j = k then f k else 0#8) ^^^ (if j = k then 0#8 else f j)) (fun j _ => e j), xs_add]
  rw [xs_one (k := k) hk (fun j _ hj => if_neg hj), if_pos rfl]
  rw [xs_one (k := l) hl (fun j hj hjl => by
    by_cases hjk : j = k
    · rw [if_pos hjk]
    · rw [if_neg hjk]; exact h j hj hjk hjl), if_neg (Ne.symm hkl)]

abbrev Mx := Nat → Nat → B8
def mm (n : Nat) (A B : Mx) : Mx := fun i j => xs n fun k => gm (A i k) (B k j)
def one : Mx := fun i j => if i = j then 1#8 else 0#8
/-- Two matrices of so many rows and columns are the same. -/
def eqM (n m : Nat) (A B : Mx) : Prop := ∀ i, i < n → ∀ j, j < m → A i j = B i j
theorem eqM.refl (n m : Nat) (A : Mx) : eqM n m A A := fun _ _ _ _ => rfl
theorem eqM.symm {n m : Nat} {A B : Mx} (h : eqM n m A B) : eqM n m B A := fun i hi j hj => (h i hi j hj).symm
theorem eqM.trans {n m : Nat} {A B C : Mx} (h : eqM n m A B) (k : eqM n m B C) : eqM n m A C := fun i hi j hj => (h i hi j hj).trans (k i hi j hj)
theorem mm_assoc (n m : Nat) (A B C : Mx) : mm m (mm n A B) C = mm n A (mm m B C) := by
  funext i j
  unfold mm
  rw [xs_congr (n := m) (g := fun k => xs n fun l => gm (gm (A i l) (B l k)) (C k j)) (fun k _ => xs_right _ n _), xs_swap]
  refine xs_congr fun l _ => ?_
  rw [xs_left]
  exact xs_congr fun k _ => gm_assoc _ _ _
theorem mm_left {n r m : Nat} {A A' B : Mx} (h : eqM r n A A') : eqM r m (mm n A B) (mm n A' B) := fun i hi j _ => xs_congr fun k hk => by rw [h i hi k hk]
theorem mm_right {n r m : Nat} {A B B' : Mx} (h : eqM n m B B') : eqM r m (mm n A B) (mm n A B') := fun i _ j hj => xs_congr fun k hk => by rw [h k hk j hj]
theorem one_mm {n i : Nat} (hi : i < n) (B : Mx) (j : Nat) : mm n one B i j = B i j := by
  unfold mm one
  rw [xs_one (k := i) hi (fun k _ hk => by rw [if_neg (Ne.symm hk), zero_gm]), if_pos rfl, one_gm]
theorem mm_one {n j : Nat} (hj : j < n) (A : Mx) (i : Nat) : mm n A one i j = A i j := by
  unfold mm one
  rw [xs_one (k := j) hj (fun k _ hk => by rw [if_neg hk, gm_zero]), if_pos rfl, gm_one]
/-- Its product with another one is OneM: from the left. -/
def Linv (n : Nat) (B M : Mx) : Prop := eqM n n (mm n B M) one
theorem Linv.only {n : Nat} {B B' M : Mx} (h' : Linv n B' M) (r : Linv n M B) : eqM n n B' B := by
  have e1 : eqM n n (mm n B' (mm n M B)) (mm n B' one) := mm_right r
  rw [← mm_assoc] at e1
  have e2 : eqM n n (mm n (mm n B' M) B) (mm n one B) := mm_left h'
  exact fun i hi j hj => by
    have h1 := e1 i hi j hj
    have h2 := e2 i hi j hj
    rw [mm_one hj] at h1
    rw [one_mm hi] at h2
    rw [← h1, h2]
/-- Steps that can be taken back: what stands at their left and at their right is OneM. -/
structure Step (n : Nat) (P Q : Mx) : Prop where
  left : Linv n P Q
  right : Linv n Q P
theorem Step.start (n : Nat) : Step n one one := ⟨fun _ hi j _ => one_mm hi one j, fun _ hi j _ => one_mm hi one j⟩
theorem Step.next {n : Nat} {P Q E D : Mx} (h : Step n P Q) (k : Step n E D) : Step n (mm n E P) (mm n Q D) := by
  refine ⟨?_, ?_⟩
  · unfold Linv
    rw [mm_assoc, ← mm_assoc n n P Q D]
    have e1 : eqM n n (mm n (mm n P Q) D) (mm n one D) := mm_left h.left
    have e2 : eqM n n (mm n E (mm n (mm n P Q) D)) (mm n E (mm n one D)) := mm_right e1
    have e3 : eqM n n (mm n E (mm n one D)) (mm n E D) := mm_right (fun i hi j _ => one_mm hi D j)
    exact (e2.trans e3).trans k.left
  · unfold Linv
    rw [mm_assoc, ← mm_assoc n n D E P]
    have e1 : eqM n n (mm n (mm n D E) P) (mm n one P) := mm_left k.right
    have e2 : eqM n n (mm n Q (mm n (mm n D E) P)) (mm n Q (mm n one P)) := mm_right e1
    have e3 : eqM n n (mm n Q (mm n one P)) (mm n Q P) := mm_right (fun i hi j _ => one_mm hi P j)
    exact (e2.trans e3).trans h.right
/-- The end of an elimination: what was done to OneM is the inverse, from both sides. -/
theorem Step.fin {n : Nat} {P Q M : Mx} (h : Step n P Q) (hp : Linv n P M) : Linv n M P := by
  have e1 : eqM n n (mm n Q (mm n P M)) (mm n Q one) := mm_right hp
  have e2 : eqM n n (mm n (mm n Q P) M) (mm n one M) := mm_left h.right
  rw [mm_assoc] at e2
  have eM : eqM n n M Q := fun i hi j hj => by
    have h1 := e1 i hi j hj
    have h2 := e2 i hi j hj
    rw [mm_one hj] at h1
    rw [one_mm hi] at h2
    rw [← h2, h1]
  exact (mm_left eM).trans h.right
/-- Rows p and c in each other's place. -/
def swapE (p c : Nat) : Mx := fun i j => if i = p then (if j = c then 1#8 else 0#8) else if i = c then (if j = p then 1#8 else 0#8) else one i j
def swapR (p c : Nat) (A : Mx) : Mx := fun i j => if i = p then A c j else if i = c then A p j else A i j
theorem swap_mm {n p c : Nat} (hp : p < n) (hc : c < n) (A : Mx) : eqM n n (mm n (swapE p c) A) (swapR p c A) := by
  intro i hi j _
  unfold mm swapE swapR
  by_cases h1 : i = p
  · simp only [if_pos h1]
    rw [xs_one (k := c) hc (fun k _ hk => by rw [if_neg hk, zero_gm]), if_pos rfl, one_gm]
  · simp only [if_neg h1]
    by_cases h2 : i = c
    · simp only [if_pos h2]
      rw [xs_one (k := p) hp (fun k _ hk => by rw [if_neg hk, zero_gm]), if_pos rfl, one_gm]
    · simp only [if_neg h2]
      exact one_mm hi A j
theorem swap_twice (p c : Nat) (A : Mx) : swapR p c (swapR p c A) = A := by
  funext i j
  unfold swapR
  by_cases h1 : i = p
  · subst h1
    rw [if_pos rfl]
    by_cases h2 : c = i
    · subst h2; rw [if_pos rfl]
    · rw [if_neg h2, if_pos rfl]
  · rw [if_neg h1]
    by_cases h2 : i = c
    · subst h2; rw [if_pos rfl, if_pos rfl]
    · rw [if_neg h2, if_neg h1, if_neg h2]
/-- Row c so many times. -/
def timesE (c : Nat) (s : B8) : Mx := fun i j => if i = c then (if j = c then s else 0#8) else one i j
def timesR (c : Nat) (s : B8) (A : Mx) : Mx := fun i j => if i = c then gm s (A c j) else A i j
theorem times_mm {n c : Nat} (hc : c < n) (s : B8) (A : Mx) : eqM n n (mm n (timesE c s) A) (timesR c s A) := by
  intro i hi j _
  unfold mm timesE timesR
  by_cases h1 : i = c
  · simp only [if_pos h1]
    rw [xs_one (k := c) hc (fun k _ hk => by rw [if_neg hk, zero_gm]), if_pos rfl]
  · simp only [if_neg h1]
    exact one_mm hi A j
/-- Row c, so many times, to row r. -/
def plusE (r c : Nat) (t : B8) : Mx := fun i j => if i = r then (if j = c then t else one i j) else one i j
def plusR (r c : Nat) (t : B8) (A : Mx) : Mx := fun i j => if i = r then A r j ^^^ gm t (A c j) else A i j
theorem plus_mm {n r c : Nat} (hr : r < n) (hc : c < n) (hrc : r ≠ c) (t : B8) (A : Mx) : eqM n n (mm n (plusE r c t) A) (plusR r c t A) := by
  intro i hi j _
  unfold mm plusE plusR
  by_cases h1 : i = r
  · subst h1
    simp only [if_true]
    rw [xs_two (k := i) (l := c) hr hc hrc (fun k _ hk hkc => by rw [if_neg hkc]; unfold one; rw [if_neg (Ne.symm hk), zero_gm]), if_neg hrc, if_pos rfl]
    unfold one
    rw [if_pos rfl, one_gm]
  · simp only [if_neg h1]
    exact one_mm hi A j
theorem step_swap {n p c : Nat} (hp : p < n) (hc : c < n) : Step n (swapE p c) (swapE p c) := by
  have e : Linv n (swapE p c) (swapE p c) := by
    have h1 : eqM n n (swapE p c) (swapR p c one) := fun i hi j hj => by
      have := swap_mm hp hc one i hi j hj
      rwa [mm_one hj] at this
    refine (swap_mm hp hc _).trans ?_
    intro i hi j hj
    have h2 : swapR p c (swapE p c) i j = swapR p c (swapR p c one) i j := by
      unfold swapR
      by_cases a1 : i = p
      · rw [if_pos a1, if_pos a1]; exact h1 c hc j hj
      · rw [if_neg a1, if_neg a1]
        by_cases a2 : i = c
        · rw [if_pos a2, if_pos a2]; exact h1 p hp j hj
        · rw [if_neg a2, if_neg a2]; exact h1 i hi j hj
    rw [h2, swap_twice]
  exact ⟨e, e⟩
theorem times_two {c : Nat} {s t : B8} (h : gm s t = 1#8) (A : Mx) : timesR c s (timesR c t A) = A := by
  funext i j
  unfold timesR
  by_cases h1 : i = c
  · subst h1; rw [if_pos rfl, if_pos rfl, ← gm_assoc, h, one_gm]
  · rw [if_neg h1, if_neg h1]
theorem linv_times {n c : Nat} (hc : c < n) {s t : B8} (h : gm s t = 1#8) : Linv n (timesE c s) (timesE c t) := by
  have h1 : eqM n n (timesE c t) (timesR c t one) := fun i hi j hj => by
    have := times_mm hc t one i hi j hj
    rwa [mm_one hj] at this
  refine (times_mm hc s _).trans ?_
  intro i hi j hj
  have h2 : timesR c s (timesE c t) i j = timesR c s (timesR c t one) i j := by
    show (if i = c then gm s (timesE c t c j) else timesE c t i j) = (if i = c then gm s (timesR c t one c j) else timesR c t one i j)
    rw [h1 c hc j hj, h1 i hi j hj]
  rw [h2, times_two h]
theorem step_times {n c : Nat} (hc : c < n) {s t : B8} (h : gm s t = 1#8) : Step n (timesE c s) (timesE c t) := ⟨linv_times hc h, linv_times hc (by rw [gm_comm]; exact h)⟩
theorem plus_twice {r c : Nat} (hrc : r ≠ c) (t : B8) (A : Mx) : plusR r c t (plusR r c t A) = A := by
  funext i j
  unfold plusR
  by_cases h1 : i = r
  · subst h1; rw [if_pos rfl, if_pos rfl, if_neg (Ne.symm hrc), BitVec.xor_assoc, BitVec.xor_self, BitVec.xor_zero]
  · rw [if_neg h1, if_neg h1]
theorem step_plus {n r c : Nat} (hr : r < n) (hc : c < n) (hrc : r ≠ c) (t : B8) : Step n (plusE r c t) (plusE r c t) := by
  have e : Linv n (plusE r c t) (plusE r c t) := by
    have h1 : eqM n n (plusE r c t) (plusR r c t one) := fun i hi j hj => by
      have := plus_mm hr hc hrc t one i hi j hj
      rwa [mm_one hj] at this
    refine (plus_mm hr hc hrc t _).trans ?_
    intro i hi j hj
    have h2 : plusR r c t (plusE r c t) i j = plusR r c t (plusR r c t one) i j := by
      show (if i = r then plusE r c t r j ^^^ gm t (plusE r c t c j) else plusE r c t i j) = (if i = r then plusR r c t one r j ^^^ gm t (plusR r c t one c j) else plusR r c t one i j)
      rw [h1 r hr j hj, h1 c hc j hj, h1 i hi j hj]
    rw [h2, plus_twice hrc]
  exact ⟨e, e⟩
/-- Where an elimination stands: what was done to OneM makes M to A, and can be taken back. -/
def Elim (n : Nat) (M A P : Mx) : Prop := (∃ Q, Step n P Q) ∧ eqM n n (mm n P M) A
theorem Elim.start (n : Nat) (M : Mx) : Elim n M M one := ⟨⟨one, Step.start n⟩, fun _ hi j _ => one_mm hi M j⟩
theorem Elim.congr {n : Nat} {M A A' P P' : Mx} (h : Elim n M A P) (hA : eqM n n A A') (hP : eqM n n P P') : Elim n M A' P' := by
  obtain ⟨⟨Q, s⟩, e⟩ := h
  refine ⟨⟨Q, ⟨(mm_left hP.symm).trans s.left, (mm_right hP.symm).trans s.right⟩⟩, ((mm_left hP.symm).trans e).trans hA⟩
theorem Elim.by {n : Nat} {M A P E D : Mx} (h : Elim n M A P) (k : Step n E D) : Elim n M (mm n E A) (mm n E P) := by
  obtain ⟨⟨Q, s⟩, e⟩ := h
  refine ⟨⟨_, s.next k⟩, ?_⟩
  rw [mm_assoc]
  exact mm_right e
theorem Elim.swap {n : Nat} {M A P : Mx} (h : Elim n M A P) {p c : Nat} (hp : p < n) (hc : c < n) : Elim n M (swapR p c A) (swapR p c P) := (h.by (step_swap hp hc)).congr (swap_mm hp hc A) (swap_mm hp hc P)
theorem Elim.times {n : Nat} {M A P : Mx} (h : Elim n M A P) {c : Nat} {s t : B8} (hc : c < n) (hs : gm s t = 1#8) : Elim n M (timesR c s A) (timesR c s P) := (h.by (step_times hc hs)).congr (times_mm hc s A) (times_mm hc s P)
theorem Elim.plus {n : Nat} {M A P : Mx} (h : Elim n M A P) {r c : Nat} (hr : r < n) (hc : c < n) (hrc : r ≠ c) (t : B8) : Elim n M (plusR r c t A) (plusR r c t P) := (h.by (step_plus hr hc hrc t)).congr (plus_mm hr hc hrc t A) (plus_mm hr hc hrc t P)
theorem Elim.done {n : Nat} {M A P : Mx} (h : Elim n M A P) (hA : eqM n n A one) : Linv n P M ∧ Linv n M P := by
  obtain ⟨⟨Q, s⟩, e⟩ := h
  have h1 : Linv n P M := e.trans hA
  exact ⟨h1, s.fin h1⟩
/-- The first columns are those of OneM. -/
def Cols (n c : Nat) (A : Mx) : Prop := ∀ i, i < n → ∀ j, j < c → A i j = one i j
/-- No row from c on has a number in column c: there is no inverse. -/
theorem Elim.none {n c : Nat} {M A P : Mx} (h : Elim n M A P) (hc : c < n) (hcol : Cols n c A) (hz : ∀ i, c ≤ i → i < n → A i c = 0#8) (B : Mx) : ¬ Linv n B M := by
  intro hB
  obtain ⟨⟨Q, s⟩, e⟩ := h
  let v : Mx := fun k _ => if k < c then A k c else if k = c then 1#8 else 0#8
  have hv : ∀ i, i < n → mm n A v i 0 = 0#8 := fun i hi => by
    have hsum : ∀ k, k < n → gm (A i k) (v k 0) = (if k < c then gm (A i k) (A k c) else 0#8) ^^^ (if k = c then A i c else 0#8) := fun k hk => by
      show gm (A i k) (if k < c then A k c else if k = c then 1#8 else 0#8) = _
      by_cases h1 : k < c
      · rw [if_pos h1, if_pos h1, if_neg (by omega), BitVec.xor_zero]
      · rw [if_neg h1, if_neg h1, BitVec.zero_xor]
        by_cases h2 : k = c
        · rw [if_pos h2, if_pos h2, gm_one, h2]
        · rw [if_neg h2, if_neg h2, gm_zero]
    unfold mm
    rw [xs_congr hsum, xs_add, xs_one (k := c) (f := fun k => if k = c then A i c else 0#8) hc (fun k _ hk => if_neg hk), if_pos rfl]
    by_cases hic : i < c
    · rw [xs_one (k := i) hi (fun k hk hki => by
        by_cases h1 : k < c
        · rw [if_pos h1, hcol i hi k h1]; unfold one; rw [if_neg (Ne.symm hki), zero_gm]
        · rw [if_neg h1]), if_pos hic, hcol i hi i hic]
      unfold one
      rw [if_pos rfl, one_gm, BitVec.xor_self]
    · rw [xs_congr (g := fun _ => 0#8) (fun k hk => by
        by_cases h1 : k < c
        · rw [if_pos h1, hcol i hi k h1]; unfold one; rw [if_neg (by omega), zero_gm]
        · rw [if_neg h1]), xs_zero, hz i (by omega) hi]
      rfl
  have hPM : ∀ i, i < n → mm n (mm n P M) v i 0 = 0#8 := fun i hi => by
    rw [← hv i hi]
    exact xs_congr fun k hk => by rw [e i hi k hk]
  have hMv : ∀ i, i < n → mm n M v i 0 = 0#8 := fun i hi => by
    have e1 : mm n (mm n Q P) (mm n M v) i 0 = mm n one (mm n M v) i 0 := xs_congr fun k hk => by rw [s.right i hi k hk]
    rw [one_mm hi] at e1
    rw [← e1, mm_assoc]
    have e2 : mm n Q (mm n P (mm n M v)) i 0 = xs n fun _ => 0#8 := xs_congr fun k hk => by
      have := hPM k hk
      rw [mm_assoc] at this
      rw [this, gm_zero]
    rw [e2, xs_zero]
  have hvc : v c 0 = 0#8 := by
    have e1 : mm n (mm n B M) v c 0 = mm n one v c 0 := xs_congr fun k hk => by rw [hB c hc k hk]
    rw [one_mm hc] at e1
    rw [← e1, mm_assoc]
    have e2 : mm n B (mm n M v) c 0 = xs n fun _ => 0#8 := xs_congr fun k hk => by rw [hMv k hk, gm_zero]
    rw [e2, xs_zero]
  have : v c 0 = 1#8 := by show (if c < c then _ else if c = c then 1#8 else 0#8) = 1#8; rw [if_neg (by omega), if_pos rfl]
  rw [this] at hvc
  exact absurd hvc (by decide)
/-- Two rows that are the same: there is no inverse from the right. -/
theorem twin_none {n p q : Nat} {M B : Mx} (hp : p < n) (hq : q < n) (hpq : p ≠ q) (h : ∀ j, j < n → M p j = M q j) : ¬ Linv n M B := by
  intro hb
  have e1 := hb p hp p hp
  have e2 := hb q hq p hp
  have : mm n M B p p = mm n M B q p := xs_congr fun k hk => by rw [h k hk]
  rw [this, e2] at e1
  unfold one at e1
  rw [if_neg (Ne.symm hpq), if_pos rfl] at e1
  exact absurd e1 (by decide)
end Go.Proofs.Ytdlgailodhlbmaa.W
