/- What matrices do to units, plain: units as a matrix of bytes. -/
import Derived.Test.YtdpcndbfbmphjaaMatK
import Derived.Test.YtdpcndbfbmphjaaLawSq
namespace Go.Proofs.Ytdpcndbfbmphjaa
open Go.RowKit
open W (B8 Mx)
attribute [local irreducible] W.gm W.xs W.mm W.gi

theorem addL_getD : ∀ (a b : List UInt8) (j : Nat), (W.addL a b).getD j 0 = a.getD j 0 ^^^ b.getD j 0
  | [], b, j => by simp [W.addL]
  | x :: a, [], j => by rw [W.addL_nil]; simp
  | x :: a, y :: b, 0 => by simp [W.addL]
  | x :: a, y :: b, j + 1 => by
    have := addL_getD a b j
    simpa [W.addL, List.getD] using this
theorem mulB_zero (A : B8) : W.mulB A 0 = 0 := by
  unfold W.mulB
  have : W.gm A (0 : UInt8).toBitVec = 0#8 := W.gm_zero A
  rw [this]; rfl
theorem mulL_getD (A : B8) (l : List UInt8) (j : Nat) : (W.mulL A l).getD j 0 = W.mulB A (l.getD j 0) := by
  unfold W.mulL
  rw [List.getD_eq_getElem?_getD, List.getElem?_map, List.getD_eq_getElem?_getD]
  cases l[j]? with
  | none => simp [mulB_zero]
  | some x => simp
/-- A text's byte at a place, 0 beyond its end. -/
def tb (u : ByteArray) (j : Nat) : B8 := (u.data.toList.getD j 0).toBitVec
theorem tb_add (a b : ByteArray) (j : Nat) : tb (addB a b) j = tb a j ^^^ tb b j := by
  unfold tb addB
  rw [addL_getD]; rfl
theorem tb_mul (A : B8) (u : ByteArray) (j : Nat) : tb (mulT A u) j = W.gm A (tb u j) := by
  unfold tb mulT
  rw [mulL_getD]; rfl
theorem tb_ext {a b : ByteArray} (hs : a.size = b.size) (h : ∀ j, tb a j = tb b j) : a = b := by
  apply Go.WideShapes.bytes_inj
  apply List.ext_getElem hs
  intro j h1 h2
  have e := h j
  unfold tb at e
  rw [List.getD_eq_getElem?_getD, List.getD_eq_getElem?_getD, List.getElem?_eq_getElem h1, List.getElem?_eq_getElem h2] at e
  exact UInt8.toBitVec_inj.1 e
theorem tb_acc (row : List Int) (L : List ByteArray) (j : Nat) : ∀ k, tb (accB row L k) j = W.xs k fun l => W.gm (g8 (row.getD l 0)) (tb (L.getD l ⟨#[]⟩) j)
  | 0 => by rw [W.xs_0]; rfl
  | k + 1 => by
    unfold accB
    rw [tb_add, tb_mul, tb_acc row L j k, W.xs_succ]
/-- Units: so many, all of one length. -/
structure Un (n s : Nat) (L : List ByteArray) : Prop where
  len : L.length = n
  size : ∀ x ∈ L, x.size = s
theorem Un.at {n s : Nat} {L : List ByteArray} (h : Un n s L) {i : Nat} (hi : i < n) : (L.getD i ⟨#[]⟩).size = s := h.size _ (by have := h.len; simp [List.getD, show i < L.length by omega])
theorem Un.acc {n s : Nat} {L : List ByteArray} (h : Un n s L) (row : List Int) : ∀ k, k < n → (accB row L (k + 1)).size = s
  | 0, hk => by unfold accB accB; rw [addB_size, mulT_size, h.at hk]; exact Nat.max_eq_right (Nat.zero_le _)
  | k + 1, hk => by
    unfold accB
    rw [addB_size, mulT_size, h.at hk, h.acc row k (by omega), Nat.max_self]
def tx (L : List ByteArray) : Mx := fun l j => tb (L.getD l ⟨#[]⟩) j
theorem app_is {n s : Nat} {X : List (List Int)} {L : List ByteArray} (hX : Sq n X) (hL : Un n s L) (h1 : 1 ≤ n) (h8 : n ≤ 8) : Un n s (appX X L) ∧ ∀ i, i < n → ∀ j, tx (appX X L) i j = W.mm n (mx X) (tx L) i j := by
  have e : appX X L = X.map fun row => accB row L n := by
    obtain ⟨a1, a2⟩ := sq_matOk hX h1 h8
    unfold appX
    rw [if_pos ⟨a1, by rw [a2, hL.len]⟩, hL.len]
  rw [e]
  refine ⟨⟨by rw [List.length_map]; exact hX.len, fun x hx => ?_⟩, fun i hi j => ?_⟩
  · obtain ⟨row, _, rfl⟩ := List.mem_map.1 hx
    obtain ⟨m, rfl⟩ : ∃ m, n = m + 1 := ⟨n - 1, by omega⟩
    exact hL.acc row m (by omega)
  · have hi' : i < X.length := by rw [hX.len]; exact hi
    have a1 : (X.map fun row => accB row L n).getD i ⟨#[]⟩ = accB (X.getD i []) L n := by simp [List.getD, hi']
    unfold tx
    rw [a1, tb_acc]
    unfold W.mm
    exact W.xs_congr fun k _ => by rw [mx_is]
theorem Un.ext {n s : Nat} {L M : List ByteArray} (h : Un n s L) (k : Un n s M) (e : ∀ i, i < n → ∀ j, tx L i j = tx M i j) : L = M := by
  apply List.ext_getElem (by rw [h.len, k.len])
  intro i h1 h2
  have hi : i < n := by rw [← h.len]; exact h1
  have a1 : L.getD i ⟨#[]⟩ = L[i] := by simp [List.getD, h1]
  have a2 : M.getD i ⟨#[]⟩ = M[i] := by simp [List.getD, h2]
  rw [← a1, ← a2]
  exact tb_ext (by rw [h.at hi, k.at hi]) (e i hi)
theorem mm_tx {n : Nat} {A : Mx} {P Q : Mx} (h : ∀ i, i < n → ∀ j, P i j = Q i j) (i j : Nat) : W.mm n A P i j = W.mm n A Q i j := by
  unfold W.mm
  exact W.xs_congr fun k hk => by rw [h k hk j]
theorem mm_mx {n : Nat} {A B : Mx} (h : W.eqM n n A B) (P : Mx) {i : Nat} (hi : i < n) (j : Nat) : W.mm n A P i j = W.mm n B P i j := by
  unfold W.mm
  exact W.xs_congr fun k hk => by rw [h i hi k hk]
theorem app_mul {n s : Nat} {X Y : List (List Int)} {L : List ByteArray} (hX : Sq n X) (hY : Sq n Y) (hL : Un n s L) (h1 : 1 ≤ n) (h8 : n ≤ 8) : appX (mulX X Y) L = appX X (appX Y L) := by
  obtain ⟨a1, a2⟩ := mulX_sq' hX hY h1 h8
  obtain ⟨b1, b2⟩ := app_is hY hL h1 h8
  obtain ⟨c1, c2⟩ := app_is hX b1 h1 h8
  obtain ⟨d1, d2⟩ := app_is a1 hL h1 h8
  refine d1.ext c1 fun i hi j => ?_
  rw [d2 i hi j, c2 i hi j, mm_tx b2, mm_mx a2 _ hi, W.mm_assoc]
theorem app_one {n s : Nat} {L : List ByteArray} (hL : Un n s L) (h1 : 1 ≤ n) (h8 : n ≤ 8) : appX (oneX (n : Int)) L = L := by
  obtain ⟨_, q1, q2⟩ := mx_one h1 h8
  obtain ⟨b1, b2⟩ := app_is q1 hL h1 h8
  refine b1.ext hL fun i hi j => ?_
  rw [b2 i hi j, mm_mx q2.symm _ hi, W.one_mm hi]
theorem app_back {n s : Nat} {X R : List (List Int)} {L : List ByteArray} (hX : Sq n X) (hR : Sq n R) (he : mulX R X = oneX (n : Int)) (hL : Un n s L) (h1 : 1 ≤ n) (h8 : n ≤ 8) : appX R (appX X L) = L := by
  rw [← app_mul hR hX hL h1 h8, he, app_one hL h1 h8]
theorem app_none {n : Nat} {X : List (List Int)} (hX : Sq n X) (h1 : 1 ≤ n) (h8 : n ≤ 8) : appX X [] = [] := by
  refine appX_no fun ⟨_, e⟩ => ?_
  rw [(sq_matOk hX h1 h8).2] at e
  simp at e
  omega
end Go.Proofs.Ytdpcndbfbmphjaa
