/- An elimination of bytes, plain: rows that have the matrix at their left and what was done to ones at their right. Nothing of the program is read here. -/
import Derived.Test.YtdpcndbfbmphjaaPrG
import Derived.Test.YtdpcndbfbmphjaaMatI
namespace Go.Proofs.Ytdpcndbfbmphjaa
open Go.RowKit
open W (B8 Mx)
attribute [local irreducible] W.gm W.xs W.mm W.gi matOk

def lf (K : List (List B8)) : Mx := fun i j => (K.getD i []).getD j 0#8
def rt (n : Nat) (K : List (List B8)) : Mx := fun i j => (K.getD i []).getD (n + j) 0#8
theorem getD_set {K : List (List B8)} {i : Nat} (hi : i < K.length) (r : List B8) (k : Nat) : (K.set i r).getD k [] = if k = i then r else K.getD k [] := by
  rw [List.getD_eq_getElem?_getD, List.getD_eq_getElem?_getD, List.getElem?_set]
  by_cases e : i = k
  · subst e; rw [if_pos rfl, if_pos rfl, if_pos hi]; rfl
  · rw [if_neg e, if_neg (Ne.symm e)]
/-- A row times a number, from the right. -/
def timesU (t : B8) (r : List B8) : List B8 := r.map fun x => W.gm x t
theorem timesU_len (t : B8) (r : List B8) : (timesU t r).length = r.length := by simp [timesU]
theorem timesU_at (t : B8) (r : List B8) (j : Nat) : (timesU t r).getD j 0#8 = W.gm t (r.getD j 0#8) := by
  unfold timesU
  rw [List.getD_eq_getElem?_getD, List.getElem?_map, List.getD_eq_getElem?_getD]
  cases r[j]? with
  | none => show 0#8 = W.gm t 0#8; rw [W.gm_zero]
  | some x => show W.gm x t = W.gm t x; exact W.gm_comm _ _
def swapU (p c : Nat) (K : List (List B8)) : List (List B8) := (K.set p (K.getD c [])).set c (K.getD p [])
theorem swapU_at {K : List (List B8)} {p c : Nat} (hp : p < K.length) (hc : c < K.length) (i : Nat) : (swapU p c K).getD i [] = if i = p then K.getD c [] else if i = c then K.getD p [] else K.getD i [] := by
  unfold swapU
  rw [getD_set (by rw [List.length_set]; exact hc)]
  by_cases e2 : i = c
  · rw [if_pos e2]
    by_cases e1 : i = p
    · rw [if_pos e1, ← e2, e1]
    · rw [if_neg e1, if_pos e2]
  · rw [if_neg e2, getD_set hp]
    by_cases e1 : i = p
    · rw [if_pos e1, if_pos e1]
    · rw [if_neg e1, if_neg e1, if_neg e2]
/-- What is known of the rows, with the first c columns done. -/
structure PuK (n c : Nat) (M : Mx) (K : List (List B8)) : Prop where
  len : K.length = n
  row : ∀ i, i < n → (K.getD i []).length = n + n
  el : W.Elim n M (lf K) (rt n K)
  co : W.Cols n c (lf K)
theorem swapU_len (p c : Nat) (K : List (List B8)) : (swapU p c K).length = K.length := by simp [swapU]
theorem lf_swap {K : List (List B8)} {p c : Nat} (hp : p < K.length) (hc : c < K.length) : lf (swapU p c K) = W.swapR p c (lf K) := by
  funext i j
  unfold lf W.swapR
  rw [swapU_at hp hc]
  split
  · rfl
  · split <;> rfl
theorem rt_swap {K : List (List B8)} {n p c : Nat} (hp : p < K.length) (hc : c < K.length) : rt n (swapU p c K) = W.swapR p c (rt n K) := by
  funext i j
  unfold rt W.swapR
  rw [swapU_at hp hc]
  split
  · rfl
  · split <;> rfl
theorem PuK.swap {n c p : Nat} {M : Mx} {K : List (List B8)} (h : PuK n c M K) (hc : c < n) (hp : p < n) (hcp : c ≤ p) : PuK n c M (swapU p c K) := by
  have hp' : p < K.length := by rw [h.len]; exact hp
  have hc' : c < K.length := by rw [h.len]; exact hc
  refine ⟨by rw [swapU_len]; exact h.len, fun i hi => ?_, ?_, ?_⟩
  · rw [swapU_at hp' hc']
    split
    · exact h.row c hc
    · split
      · exact h.row p hp
      · exact h.row i hi
  · rw [lf_swap hp' hc', rt_swap hp' hc']; exact h.el.swap hp hc
  · rw [lf_swap hp' hc']; exact cols_swap h.co hc hp hcp
theorem PuK.swap_c {n c p : Nat} {M : Mx} {K : List (List B8)} (h : PuK n c M K) (hc : c < n) (hp : p < n) : lf (swapU p c K) c c = lf K p c := by
  rw [lf_swap (by rw [h.len]; exact hp) (by rw [h.len]; exact hc)]
  unfold W.swapR
  by_cases e : c = p
  · subst e; rw [if_pos rfl]
  · rw [if_neg e, if_pos rfl]
theorem PuK.times {n c : Nat} {M : Mx} {K : List (List B8)} (h : PuK n c M K) (hc : c < n) {x : B8} (hx : x = lf K c c) (h0 : x ≠ 0#8) : PuK n c M (K.set c (timesU (W.gi x) (K.getD c []))) ∧ ColDone n c 0 (lf (K.set c (timesU (W.gi x) (K.getD c [])))) := by
  have hc' : c < K.length := by rw [h.len]; exact hc
  have e1 : lf (K.set c (timesU (W.gi x) (K.getD c []))) = W.timesR c (W.gi x) (lf K) := by
    funext i j
    unfold lf W.timesR
    rw [getD_set hc']
    by_cases e : i = c
    · rw [if_pos e, if_pos e, timesU_at]
    · rw [if_neg e, if_neg e]
  have e2 : rt n (K.set c (timesU (W.gi x) (K.getD c []))) = W.timesR c (W.gi x) (rt n K) := by
    funext i j
    unfold rt W.timesR
    rw [getD_set hc']
    by_cases e : i = c
    · rw [if_pos e, if_pos e, timesU_at]
    · rw [if_neg e, if_neg e]
  have hs : W.gm (W.gi x) x = 1#8 := by rw [W.gm_comm]; exact W.gm_gi x h0
  refine ⟨⟨by rw [List.length_set]; exact h.len, fun i hi => ?_, ?_, ?_⟩, ?_, fun k hk => by omega⟩
  · rw [getD_set hc']
    split
    · rw [timesU_len]; exact h.row c hc
    · exact h.row i hi
  · rw [e1, e2]; exact h.el.times hc hs
  · rw [e1]; exact cols_times h.co hc _
  · rw [e1]; unfold W.timesR; rw [if_pos rfl, ← hx, hs]
theorem PuK.plus {n c i : Nat} {M : Mx} {K : List (List B8)} (h : PuK n c M K) (hc : c < n) (hi : i < n) (hic : i ≠ c) (hd : ColDone n c i (lf K)) {t : B8} (ht : t = lf K i c) : PuK n c M (K.set i (plusU t (K.getD i []) (K.getD c []))) ∧ ColDone n c (i + 1) (lf (K.set i (plusU t (K.getD i []) (K.getD c [])))) := by
  have hi' : i < K.length := by rw [h.len]; exact hi
  have e1 : W.eqM n n (lf (K.set i (plusU t (K.getD i []) (K.getD c [])))) (W.plusR i c t (lf K)) := by
    intro k hk j hj
    unfold lf W.plusR
    rw [getD_set hi']
    by_cases e : k = i
    · rw [if_pos e, if_pos e, plusU_at (by rw [h.row i hi]; omega)]
    · rw [if_neg e, if_neg e]
  have e2 : W.eqM n n (rt n (K.set i (plusU t (K.getD i []) (K.getD c [])))) (W.plusR i c t (rt n K)) := by
    intro k hk j hj
    unfold rt W.plusR
    rw [getD_set hi']
    by_cases e : k = i
    · rw [if_pos e, if_pos e, plusU_at (by rw [h.row i hi]; omega)]
    · rw [if_neg e, if_neg e]
  refine ⟨⟨by rw [List.length_set]; exact h.len, fun k hk => ?_, (h.el.plus hi hc hic t).congr e1.symm e2.symm, cols_congr (cols_plus h.co hc t) (Nat.le_of_lt hc) e1.symm⟩, ?_, fun k hk hkn hkc => ?_⟩
  · rw [getD_set hi']
    split
    · rw [plusU_len]; exact h.row i hi
    · exact h.row k hk
  · rw [e1 c hc c hc]
    unfold W.plusR
    rw [if_neg (Ne.symm hic)]; exact hd.1
  · rw [e1 k hkn c hc]
    unfold W.plusR
    by_cases e : k = i
    · rw [if_pos e, hd.1, W.gm_one, ht, BitVec.xor_self]
    · rw [if_neg e]; exact hd.2 k (by omega) hkn hkc
theorem PuK.next {n c : Nat} {M : Mx} {K : List (List B8)} (h : PuK n c M K) (hd : ColDone n c n (lf K)) : PuK n (c + 1) M K := ⟨h.len, h.row, h.el, col_all h.co hd⟩
/-- The rows at the start: a matrix with ones beside it. -/
def besideU (K L : List (List B8)) : List (List B8) := (List.range K.length).map fun i => K.getD i [] ++ L.getD i []
theorem besideU_at {K L : List (List B8)} {i : Nat} (hi : i < K.length) : (besideU K L).getD i [] = K.getD i [] ++ L.getD i [] := by
  unfold besideU
  rw [List.getD_eq_getElem?_getD, List.getElem?_map, List.getElem?_range hi]; rfl
theorem besideU_len (K L : List (List B8)) : (besideU K L).length = K.length := by simp [besideU]
theorem onesU_at {t : B8} {n i : Nat} (hi : i < n) : (onesU t n).getD i [] = oneU t n i := by
  unfold onesU
  rw [List.getD_eq_getElem?_getD, List.getElem?_map, List.getElem?_range hi]; rfl
theorem oneU_at {n i j : Nat} (hi : i < n) (hj : j < n) : (oneU 1#8 n i).getD j 0#8 = W.one i j := by
  unfold oneU W.one
  rw [List.getD_eq_getElem?_getD, List.getElem?_set]
  by_cases e : i = j
  · subst e; rw [if_pos rfl, if_pos rfl, if_pos (by simpa using hi)]; rfl
  · rw [if_neg e, if_neg e]; simp [hj]
theorem PuK.start {n : Nat} {K : List (List B8)} (hK : K.length = n) (hr : ∀ i, i < n → (K.getD i []).length = n) : PuK n 0 (lf K) (besideU K (onesU 1#8 n)) := by
  refine ⟨by rw [besideU_len]; exact hK, fun i hi => ?_, (W.Elim.start n (lf K)).congr (fun i hi j hj => ?_) (fun i hi j hj => ?_), fun i _ j hj => by omega⟩
  · rw [besideU_at (by omega), List.length_append, hr i hi, onesU_at hi, oneU_len]
  · unfold lf
    rw [besideU_at (by omega)]
    have hl := hr i hi
    generalize K.getD i [] = r at *
    rw [List.getD_eq_getElem?_getD, List.getD_eq_getElem?_getD, List.getElem?_append_left (by omega)]
  · unfold rt
    rw [besideU_at (by omega), List.getD_eq_getElem?_getD, List.getElem?_append_right (by rw [hr i hi]; omega), hr i hi, Nat.add_sub_cancel_left, onesU_at hi, ← List.getD_eq_getElem?_getD, oneU_at hi hj]
/-- The right halves, as numbers. -/
def halfU (n : Nat) (K : List (List B8)) : List (List B8) := K.map fun r => r.drop n
theorem halfU_at (n : Nat) (K : List (List B8)) (i j : Nat) : mx (toIs (halfU n K)) i j = rt n K i j := by
  unfold mx rt toIs halfU
  rw [List.map_map, List.getD_eq_getElem?_getD (l := List.map _ K), List.getElem?_map, List.getD_eq_getElem?_getD (l := K)]
  cases K[i]? with
  | none => show g8 (([] : List Int).getD j 0) = ([] : List B8).getD (n + j) 0#8; rfl
  | some r =>
    show g8 ((toI (r.drop n)).getD j 0) = r.getD (n + j) 0#8
    unfold toI
    rw [List.getD_eq_getElem?_getD, List.getElem?_map, List.getElem?_drop, List.getD_eq_getElem?_getD]
    cases r[n + j]? with
    | none => rfl
    | some x => exact g8_back x
theorem PuK.done {n : Nat} {X : List (List Int)} {K : List (List B8)} (h : PuK n n (mx X) K) (hX : matOk X = true) (hn : X.length = n) (hc : colsOf X = n) : IsInv X (toIs (halfU n K)) := by
  obtain ⟨h1, h2⟩ := h.el.done (fun i hi j hj => h.co i hi j hj)
  have hsq : Sq n (toIs (halfU n K)) := by
    refine ⟨by simp [toIs, halfU, h.len], fun x hx => ?_⟩
    obtain ⟨r, hr, rfl⟩ := List.mem_map.1 hx
    obtain ⟨r', hr', rfl⟩ := List.mem_map.1 hr
    obtain ⟨i, hi, rfl⟩ := List.mem_iff_getElem.1 hr'
    have e : K.getD i [] = K[i] := by simp [List.getD, hi]
    have := h.row i (by rw [← h.len]; exact hi)
    rw [e] at this
    refine ⟨by rw [toI_len, List.length_drop, this]; omega, fun y hy => ?_⟩
    obtain ⟨z, _, rfl⟩ := List.mem_map.1 hy
    exact b8_num z
  have e : mx (toIs (halfU n K)) = rt n K := by funext i j; exact halfU_at n K i j
  refine ⟨hX, by omega, by rw [hn]; exact hsq, ?_, ?_⟩
  · rw [hn, e]; exact h1
  · rw [hn, e]; exact h2
theorem PuK.none {n c : Nat} {X : List (List Int)} {K : List (List B8)} (h : PuK n c (mx X) K) (hn : X.length = n) (hc : c < n) (hz : ∀ i, c ≤ i → i < n → lf K i c = 0#8) : ¬ ∃ Y, IsInv X Y := by
  rintro ⟨Y, hY⟩
  have := hY.2.2.2.1
  rw [hn] at this
  exact h.el.none hc h.co hz _ this
theorem lf_toBs (X : List (List Int)) : lf (toBs X) = mx X := by funext i j; exact toBs_get X i j
end Go.Proofs.Ytdpcndbfbmphjaa
