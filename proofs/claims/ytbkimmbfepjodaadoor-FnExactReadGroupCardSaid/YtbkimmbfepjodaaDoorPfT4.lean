/- Texts of ours, laid one behind the other: TMatG, TMatI. -/
import Derived.Test.YtbkimmbfepjodaaDoorPfT3
set_option linter.unusedVariables false
set_option linter.unusedSimpArgs false
/- An elimination as it lies in memory: two rows of rows, of which rows are put in the places of others; and what its steps do to the two as matrices. -/
namespace Go.Proofs.YtbkimmbfepjodaaDoorT
set_option maxRecDepth 100000
open Go.RowKit
open W (B8 Mx)
attribute [local irreducible] W.gm W.xs W.mm

/-- A square of numbers that is right. -/
structure Sq (n : Nat) (X : List (List Int)) : Prop where
  len : X.length = n
  row : ∀ x ∈ X, x.length = n ∧ ∀ y ∈ x, 0 ≤ y ∧ y ≤ 255
theorem Sq.at {n : Nat} {X : List (List Int)} (h : Sq n X) {i : Nat} (hi : i < n) : (X.getD i []).length = n ∧ ∀ y ∈ X.getD i [], 0 ≤ y ∧ y ≤ 255 := by
  have hi' : i < X.length := by rw [h.len]; exact hi
  have e : X.getD i [] = X[i] := by simp [List.getD, hi']
  rw [e]; exact h.row _ (List.getElem_mem hi')
theorem Sq.num {n : Nat} {X : List (List Int)} (h : Sq n X) {i j : Nat} (hi : i < n) (hj : j < n) : (((mx X) i j).toNat : Int) = (X.getD i []).getD j 0 := by
  obtain ⟨h1, h2⟩ := h.at hi
  have hj' : j < (X.getD i []).length := by omega
  obtain ⟨q1, q2⟩ := h2 ((X.getD i []).getD j 0) (by generalize X.getD i [] = r at *; simp [List.getD, hj'])
  exact g8_self q1 q2
theorem Sq.set {n : Nat} {X : List (List Int)} (h : Sq n X) (i : Nat) {r : List Int} (hl : r.length = n) (hr : ∀ y ∈ r, 0 ≤ y ∧ y ≤ 255) : Sq n (X.set i r) :=
  ⟨by rw [List.length_set]; exact h.len, fun x hx => by
    rcases List.mem_or_eq_of_mem_set hx with h1 | rfl
    · exact h.row x h1
    · exact ⟨hl, hr⟩⟩
theorem mx_set {X : List (List Int)} {i : Nat} (hi : i < X.length) (r : List Int) (k j : Nat) : mx (X.set i r) k j = if k = i then g8 (r.getD j 0) else mx X k j := by
  unfold mx
  by_cases e : k = i
  · subst e; rw [if_pos rfl]; congr 2; simp [List.getD, hi]
  · rw [if_neg e]; congr 2; simp [List.getD, List.getElem?_set_ne (Ne.symm e)]
/-- The three steps, as rows. -/
def swapX (p c : Nat) (X : List (List Int)) : List (List Int) := (X.set p (X.getD c [])).set c (X.getD p [])
theorem Sq.swap {n : Nat} {X : List (List Int)} (h : Sq n X) {p c : Nat} (hp : p < n) (hc : c < n) : Sq n (swapX p c X) := (h.set p (h.at hc).1 (h.at hc).2).set c (h.at hp).1 (h.at hp).2
theorem mx_swap {n : Nat} {X : List (List Int)} (h : Sq n X) {p c : Nat} (hp : p < n) (hc : c < n) : mx (swapX p c X) = W.swapR p c (mx X) := by
  funext k j
  unfold swapX W.swapR
  rw [mx_set (by rw [List.length_set, h.len]; exact hc), mx_set (by rw [h.len]; exact hp)]
  by_cases e1 : k = p
  · subst e1
    rw [if_pos rfl, if_pos rfl]
    by_cases e2 : k = c
    · subst e2; rw [if_pos rfl]; rfl
    · rw [if_neg e2]; rfl
  · rw [if_neg e1, if_neg e1]
    by_cases e2 : k = c
    · rw [if_pos e2, if_pos e2]; rfl
    · rw [if_neg e2, if_neg e2]
theorem b8_num (A : B8) : 0 ≤ (A.toNat : Int) ∧ (A.toNat : Int) ≤ 255 := by have := A.isLt; omega
theorem timesL_num (t : B8) (row : List Int) : ∀ y ∈ timesL t row, 0 ≤ y ∧ y ≤ 255 := fun y hy => by
  obtain ⟨x, _, rfl⟩ := List.mem_map.1 hy
  exact b8_num _
theorem plusL_num (t : B8) (a b : List Int) : ∀ y ∈ plusL t a b, 0 ≤ y ∧ y ≤ 255 := fun y hy => by
  obtain ⟨x, _, rfl⟩ := List.mem_map.1 hy
  exact b8_num _
theorem timesL_get {t : B8} {row : List Int} {j : Nat} (h : j < row.length) : g8 ((timesL t row).getD j 0) = W.gm t (g8 (row.getD j 0)) := by
  have e : (timesL t row).getD j 0 = ((W.gm t (g8 (row.getD j 0))).toNat : Int) := by simp [timesL, List.getD, h]
  rw [e, g8_back]
theorem plusL_get {t : B8} {a b : List Int} {j : Nat} (h : j < a.length) : g8 ((plusL t a b).getD j 0) = g8 (a.getD j 0) ^^^ W.gm t (g8 (b.getD j 0)) := by
  have e : (plusL t a b).getD j 0 = ((g8 (a.getD j 0) ^^^ W.gm t (g8 (b.getD j 0))).toNat : Int) := by
    unfold plusL; rw [List.getD_eq_getElem?_getD, List.getElem?_map, List.getElem?_range h]; rfl
  rw [e, g8_back]
theorem mx_times {n : Nat} {X : List (List Int)} (h : Sq n X) {c : Nat} (hc : c < n) (t : B8) : W.eqM n n (mx (X.set c (timesL t (X.getD c [])))) (W.timesR c t (mx X)) := by
  intro k _ j hj
  rw [mx_set (by rw [h.len]; exact hc)]
  unfold W.timesR
  by_cases e : k = c
  · rw [if_pos e, if_pos e, timesL_get (by rw [(h.at hc).1]; exact hj)]; rfl
  · rw [if_neg e, if_neg e]
theorem mx_plus {n : Nat} {X : List (List Int)} (h : Sq n X) {i c : Nat} (hi : i < n) (t : B8) : W.eqM n n (mx (X.set i (plusL t (X.getD i []) (X.getD c [])))) (W.plusR i c t (mx X)) := by
  intro k _ j hj
  rw [mx_set (by rw [h.len]; exact hi)]
  unfold W.plusR
  by_cases e : k = i
  · rw [if_pos e, if_pos e, plusL_get (by rw [(h.at hi).1]; exact hj)]; rfl
  · rw [if_neg e, if_neg e]

/-- A row of numbers in a block of its own, apart from two. -/
def RowIn (w wr : World) (ga gb : Nat) (s : SR) : Prop := ∃ b, s.loc = some ⟨b, 0, none⟩ ∧ w.heap.size ≤ b ∧ b ≠ ga ∧ b ≠ gb ∧ WCells wr b (ics s.row) ∧ s.row.length ≤ s.cap
theorem RowIn.below {w wr w' : World} {ga gb : Nat} {s : SR} (h : RowIn w wr ga gb s) (hb : Below wr.heap.size wr w') : RowIn w w' ga gb s := by
  obtain ⟨b, e, h1, h2, h3, h4, h5⟩ := h
  exact ⟨b, e, h1, h2, h3, h4.grow hb, h5⟩
theorem RowIn.setA {w wr : World} {ga gb : Nat} {s : SR} (h : RowIn w wr ga gb s) (i : Nat) (v : Value) : RowIn w (wr.setCell ⟨ga, i, none⟩ v) ga gb s := by
  obtain ⟨b, e, h1, h2, h3, h4, h5⟩ := h
  exact ⟨b, e, h1, h2, h3, h4.other _ _ h2, h5⟩
theorem RowIn.setB {w wr : World} {ga gb : Nat} {s : SR} (h : RowIn w wr ga gb s) (i : Nat) (v : Value) : RowIn w (wr.setCell ⟨gb, i, none⟩ v) ga gb s := by
  obtain ⟨b, e, h1, h2, h3, h4, h5⟩ := h
  exact ⟨b, e, h1, h2, h3, h4.other _ _ h3, h5⟩
/-- Two rows of rows in memory. -/
structure Two (w wr : World) (ga gb : Nat) (ssA ssB : List SR) : Prop where
  outA : WCells wr ga (svs ssA)
  outB : WCells wr gb (svs ssB)
  la : w.heap.size ≤ ga
  lb : w.heap.size ≤ gb
  ne : ga ≠ gb
  rowA : ∀ s ∈ ssA, RowIn w wr ga gb s
  rowB : ∀ s ∈ ssB, RowIn w wr ga gb s
  bel : Below w.heap.size w wr
theorem Two.below {w wr w' : World} {ga gb : Nat} {ssA ssB : List SR} (h : Two w wr ga gb ssA ssB) (hb : Below wr.heap.size wr w') : Two w w' ga gb ssA ssB :=
  ⟨h.outA.grow hb, h.outB.grow hb, h.la, h.lb, h.ne, fun s hs => (h.rowA s hs).below hb, fun s hs => (h.rowB s hs).below hb, h.bel.trans (hb.mono h.bel.size)⟩
theorem svs_set (ss : List SR) (i : Nat) (s : SR) : (svs ss).set i (srv s) = svs (ss.set i s) := by simp [svs, List.map_set]
theorem rws_set (ss : List SR) (i : Nat) (s : SR) : (rws ss).set i s.row = rws (ss.set i s) := by simp [rws, List.map_set]
theorem Two.setA {w wr : World} {ga gb : Nat} {ssA ssB : List SR} (h : Two w wr ga gb ssA ssB) {i : Nat} (hi : i < ssA.length) {s : SR} {v : Value} (hv : v = srv s) (hs : RowIn w wr ga gb s) : Two w (wr.setCell ⟨ga, i, none⟩ v) ga gb (ssA.set i s) ssB := by
  subst hv
  refine ⟨?_, h.outB.other _ _ (fun e => h.ne e.symm), h.la, h.lb, h.ne, fun t ht => ?_, fun t ht => (h.rowB t ht).setA i _, h.bel.setCell h.la _⟩
  · rw [← svs_set]; exact h.outA.set i _ (by rw [svs_len]; exact hi)
  · rcases List.mem_or_eq_of_mem_set ht with h1 | rfl
    · exact (h.rowA t h1).setA i _
    · exact hs.setA i _
theorem Two.setB {w wr : World} {ga gb : Nat} {ssA ssB : List SR} (h : Two w wr ga gb ssA ssB) {i : Nat} (hi : i < ssB.length) {s : SR} {v : Value} (hv : v = srv s) (hs : RowIn w wr ga gb s) : Two w (wr.setCell ⟨gb, i, none⟩ v) ga gb ssA (ssB.set i s) := by
  subst hv
  refine ⟨h.outA.other _ _ h.ne, ?_, h.la, h.lb, h.ne, fun t ht => (h.rowA t ht).setB i _, fun t ht => ?_, h.bel.setCell h.lb _⟩
  · rw [← svs_set]; exact h.outB.set i _ (by rw [svs_len]; exact hi)
  · rcases List.mem_or_eq_of_mem_set ht with h1 | rfl
    · exact (h.rowB t h1).setB i _
    · exact hs.setB i _
/-- What the walk wants of a row: its cell, and its numbers. -/
structure RowGot (w wr : World) (ga gb n g i b cp : Nat) (ss : List SR) : Prop where
  lt : i < ss.length
  cell : wr.cell? ⟨g, i, none⟩ = some (.slice (some ⟨b, 0, none⟩) n cp)
  free : wr.frozen? ⟨g, i, none⟩ = false
  is : ss.getD i default = ⟨some ⟨b, 0, none⟩, (rws ss).getD i [], cp⟩
  val : Value.slice (some ⟨b, 0, none⟩) n cp = srv (ss.getD i default)
  row : RowIn w wr ga gb (ss.getD i default)
  num : ∀ j, j < n → wr.cell? ⟨b, j, none⟩ = some (.int .i64 (((rws ss).getD i []).getD j 0))
  crow : CRow wr (some ⟨b, 0, none⟩) (ics ((rws ss).getD i []))
theorem row_got {w wr : World} {ga gb n g i : Nat} {ss : List SR} (hsq : Sq n (rws ss)) (hi : i < n) (ho : WCells wr g (svs ss)) (hr : ∀ s ∈ ss, RowIn w wr ga gb s) : ∃ b cp, RowGot w wr ga gb n g i b cp ss := by
  have hl : i < ss.length := by have := hsq.len; rw [rws_len] at this; omega
  have e0 : ss.getD i default = ss[i] := by simp [List.getD, hl]
  have e1 : (rws ss).getD i [] = ss[i].row := by simp [rws, List.getD, hl]
  obtain ⟨b, e, h1, h2, h3, h4, h5⟩ := hr ss[i] (List.getElem_mem hl)
  obtain ⟨c1, c2⟩ := ho.2 i _ (svs_get ss i hl)
  have hn : ss[i].row.length = n := by rw [← e1]; exact (hsq.at hi).1
  have ev : srv ss[i] = .slice (some ⟨b, 0, none⟩) n ss[i].cap := by unfold srv; rw [e, hn]
  refine ⟨b, ss[i].cap, hl, by rw [c1, ev], c2, ?_, by rw [e0, ev], by rw [e0]; exact ⟨b, e, h1, h2, h3, h4, h5⟩, fun j hj => ?_, by rw [e1]; exact h4.crow⟩
  · rw [e0, e1]
    have := e
    cases hx : ss[i] with
    | mk l r cc => rw [hx] at this; simp at this; rw [this]
  · rw [e1]
    exact (h4.2 j _ (ics_get _ j (by omega))).1
theorem Two.gotA {w wr : World} {ga gb n i : Nat} {ssA ssB : List SR} (h : Two w wr ga gb ssA ssB) (hsq : Sq n (rws ssA)) (hi : i < n) : ∃ b cp, RowGot w wr ga gb n ga i b cp ssA := row_got hsq hi h.outA h.rowA
theorem Two.gotB {w wr : World} {ga gb n i : Nat} {ssA ssB : List SR} (h : Two w wr ga gb ssA ssB) (hsq : Sq n (rws ssB)) (hi : i < n) : ∃ b cp, RowGot w wr ga gb n gb i b cp ssB := row_got hsq hi h.outB h.rowB
/-- A new row stands apart. -/
theorem row_new {w wr w' : World} {ga gb g cp : Nat} {row : List Int} {ssA ssB : List SR} (h : Two w wr ga gb ssA ssB) (hg : wr.heap.size ≤ g) (hc : WCells w' g (ics row)) (hl : row.length ≤ cp) : RowIn w w' ga gb ⟨some ⟨g, 0, none⟩, row, cp⟩ :=
  ⟨g, rfl, Nat.le_trans h.bel.size hg, by have := h.outA.1; omega, by have := h.outB.1; omega, hc, hl⟩
/-- The rows of the second one are apart from each other. -/
abbrev Apart (ss : List SR) : Prop := (ss.map SR.loc).Nodup
theorem apart_iff {ss : List SR} : Apart ss ↔ ∀ i j, i < j → j < ss.length → (ss.getD i default).loc ≠ (ss.getD j default).loc := by
  unfold Apart
  rw [List.nodup_iff_pairwise_ne, List.pairwise_iff_getElem]
  constructor
  · intro h i j hij hj
    have := h i j (by rw [List.length_map]; omega) (by rw [List.length_map]; exact hj) hij
    rw [List.getElem_map, List.getElem_map] at this
    rw [show ss.getD i default = ss[i] by simp [List.getD, show i < ss.length by omega], show ss.getD j default = ss[j] by simp [List.getD, hj]]
    exact this
  · intro h i j hi hj hij
    rw [List.length_map] at hi hj
    have := h i j hij hj
    rw [show ss.getD i default = ss[i] by simp [List.getD, hi], show ss.getD j default = ss[j] by simp [List.getD, hj]] at this
    rw [List.getElem_map, List.getElem_map]
    exact this
theorem Apart.ne {ss : List SR} (h : Apart ss) {i j : Nat} (hi : i < ss.length) (hj : j < ss.length) (hij : i ≠ j) : (ss.getD i default).loc ≠ (ss.getD j default).loc := by
  rcases Nat.lt_or_gt_of_ne hij with q | q
  · exact apart_iff.1 h i j q hj
  · exact fun e => apart_iff.1 h j i q hi e.symm
theorem set_get {ss : List SR} {i : Nat} (s : SR) (hi : i < ss.length) (k : Nat) : (ss.set i s).getD k default = if k = i then s else ss.getD k default := by
  by_cases e : k = i
  · subst e; rw [if_pos rfl]; simp [List.getD, hi]
  · rw [if_neg e]; simp [List.getD, List.getElem?_set_ne (Ne.symm e)]
theorem Apart.set {ss : List SR} (h : Apart ss) {i : Nat} (hi : i < ss.length) {s : SR} (hs : ∀ k, k < ss.length → k ≠ i → (ss.getD k default).loc ≠ s.loc) : Apart (ss.set i s) := by
  rw [apart_iff]
  intro a b hab hb
  rw [List.length_set] at hb
  rw [set_get s hi, set_get s hi]
  by_cases e1 : a = i
  · rw [if_pos e1, if_neg (by omega)]; exact fun e => hs b hb (by omega) e.symm
  · rw [if_neg e1]
    by_cases e2 : b = i
    · rw [if_pos e2]; exact hs a (by omega) e1
    · rw [if_neg e2]; exact apart_iff.1 h a b hab hb
theorem Apart.swap {ss : List SR} (h : Apart ss) {p c : Nat} (hp : p < ss.length) (hc : c < ss.length) : Apart ((ss.set p (ss.getD c default)).set c (ss.getD p default)) := by
  rw [apart_iff]
  intro a b hab hb
  rw [List.length_set, List.length_set] at hb
  have hc' : c < (ss.set p (ss.getD c default)).length := by rw [List.length_set]; exact hc
  rw [set_get (ss := ss.set p (ss.getD c default)) _ hc' a, set_get (ss := ss.set p (ss.getD c default)) _ hc' b, set_get (ss := ss) _ hp a, set_get (ss := ss) _ hp b]
  by_cases a1 : a = c
  · rw [if_pos a1, if_neg (show ¬ b = c by omega)]
    by_cases b1 : b = p
    · rw [if_pos b1]; exact h.ne hp hc (by omega)
    · rw [if_neg b1]; exact h.ne hp hb (by omega)
  · rw [if_neg a1]
    by_cases a2 : a = p
    · rw [if_pos a2]
      by_cases b1 : b = c
      · rw [if_pos b1]; exact h.ne hc hp (by omega)
      · rw [if_neg b1, if_neg (show ¬ b = p by omega)]; exact h.ne hc hb (by omega)
    · rw [if_neg a2]
      by_cases b1 : b = c
      · rw [if_pos b1]; exact h.ne (by omega) hp (by omega)
      · rw [if_neg b1]
        by_cases b2 : b = p
        · rw [if_pos b2]; exact h.ne (by omega) hc (by omega)
        · rw [if_neg b2]; exact h.ne (by omega) hb (by omega)
/-- The second one as an answer. -/
theorem Two.fin {w wr : World} {ga gb n cap : Nat} {ssA ssB : List SR} (h : Two w wr ga gb ssA ssB) (hap : Apart ssB) (hn : ssB.length = n) (hc : n ≤ cap) : MAns wr (.slice (some ⟨gb, 0, none⟩) n cap) (rws ssB) w.heap.size wr.heap.size := by
  refine ⟨_, cap, ssB, by rw [hn], rfl, by omega, .inr ⟨gb, rfl, h.outB, h.lb, h.outB.1, fun s hs => ?_, hap⟩⟩
  obtain ⟨b, e, h1, _, h3, h4, h5⟩ := h.rowB s hs
  exact ⟨b, e, h1, h4.1, h3, h4, h5⟩
/-- The steps of the elimination, as far as they are of numbers: the first columns. -/
theorem cols_swap {n c p : Nat} {A : Mx} (h : W.Cols n c A) (hc : c < n) (hp : p < n) (hcp : c ≤ p) : W.Cols n c (W.swapR p c A) := by
  intro i hi j hj
  unfold W.swapR
  by_cases e1 : i = p
  · rw [if_pos e1, h c hc j hj]; unfold W.one; rw [if_neg (by omega), if_neg (by omega)]
  · rw [if_neg e1]
    by_cases e2 : i = c
    · rw [if_pos e2, h p hp j hj]; unfold W.one; rw [if_neg (by omega), if_neg (by omega)]
    · rw [if_neg e2]; exact h i hi j hj
theorem cols_times {n c : Nat} {A : Mx} (h : W.Cols n c A) (hc : c < n) (t : B8) : W.Cols n c (W.timesR c t A) := by
  intro i hi j hj
  unfold W.timesR
  by_cases e : i = c
  · rw [if_pos e, h c hc j hj]; unfold W.one; rw [if_neg (by omega), if_neg (by omega), W.gm_zero]
  · rw [if_neg e]; exact h i hi j hj
theorem cols_plus {n c i : Nat} {A : Mx} (h : W.Cols n c A) (hc : c < n) (t : B8) : W.Cols n c (W.plusR i c t A) := by
  intro k hk j hj
  unfold W.plusR
  by_cases e : k = i
  · subst e; rw [if_pos rfl, h c hc j hj]; rw [show W.one c j = 0#8 by unfold W.one; rw [if_neg (by omega)]]; rw [W.gm_zero, BitVec.xor_zero]; exact h k hk j hj
  · rw [if_neg e]; exact h k hk j hj
theorem cols_congr {n c : Nat} {A B : Mx} (h : W.Cols n c A) (hc : c ≤ n) (e : W.eqM n n A B) : W.Cols n c B := fun i hi j hj => by rw [← e i hi j (by omega)]; exact h i hi j hj
/-- Column c under way: the diagonal is there, and the first i rows are done. -/
def ColDone (n c i : Nat) (A : Mx) : Prop := A c c = 1#8 ∧ ∀ k, k < i → k < n → k ≠ c → A k c = 0#8
theorem col_all {n c : Nat} {A : Mx} (h : W.Cols n c A) (hd : ColDone n c n A) : W.Cols n (c + 1) A := fun i hi j hj => by
  by_cases e : j < c
  · exact h i hi j e
  · obtain rfl : j = c := by omega
    unfold W.one
    by_cases e2 : i = j
    · rw [if_pos e2, e2]; exact hd.1
    · rw [if_neg e2]; exact hd.2 i hi hi e2
end Go.Proofs.YtbkimmbfepjodaaDoorT
/- An elimination: what is known of its two rows of rows as matrices, from step to step; and what its end says. -/
namespace Go.Proofs.YtbkimmbfepjodaaDoorT
set_option maxRecDepth 100000
open Go.RowKit
open W (B8 Mx)
attribute [local irreducible] W.gm W.xs W.mm

theorem mx_is (X : List (List Int)) (i j : Nat) : mx X i j = g8 ((X.getD i []).getD j 0) := rfl
/-- No row of the second one lies where a new one does. -/
theorem Two.newB {w wr : World} {ga gb g : Nat} {ssA ssB : List SR} (h : Two w wr ga gb ssA ssB) (hg : wr.heap.size ≤ g) : ∀ k, k < ssB.length → (ssB.getD k default).loc ≠ some ⟨g, 0, none⟩ := by
  intro k hk e
  have e0 : ssB.getD k default = ssB[k] := by simp [List.getD, hk]
  obtain ⟨b, eb, _, _, _, q, _⟩ := h.rowB ssB[k] (List.getElem_mem hk)
  rw [e0, eb] at e
  have : b = g := congrArg Addr.block (Option.some.inj e)
  have := q.1
  omega
/-- The cell of a row may be written. -/
theorem Two.freeA {w wr : World} {ga gb : Nat} {ssA ssB : List SR} (h : Two w wr ga gb ssA ssB) {i : Nat} (hi : i < ssA.length) : ∃ v, wr.cell? ⟨ga, i, none⟩ = some v ∧ wr.frozen? ⟨ga, i, none⟩ = false := ⟨_, h.outA.2 i _ (svs_get ssA i hi)⟩
theorem Two.freeB {w wr : World} {ga gb : Nat} {ssA ssB : List SR} (h : Two w wr ga gb ssA ssB) {i : Nat} (hi : i < ssB.length) : ∃ v, wr.cell? ⟨gb, i, none⟩ = some v ∧ wr.frozen? ⟨gb, i, none⟩ = false := ⟨_, h.outB.2 i _ (svs_get ssB i hi)⟩
theorem srv_is (g n cp : Nat) (r : List Int) (h : r.length = n) : Value.slice (some ⟨g, 0, none⟩) n cp = srv ⟨some ⟨g, 0, none⟩, r, cp⟩ := by unfold srv; rw [h]
/-- Rows with two in each other's place. -/
def swapS (p c : Nat) (ss : List SR) : List SR := (ss.set p (ss.getD c default)).set c (ss.getD p default)
theorem getD_row (ss : List SR) (i : Nat) : (ss.getD i default).row = (rws ss).getD i [] := by
  by_cases h : i < ss.length
  · simp [rws, List.getD, h]
  · simp [rws, List.getD, Nat.le_of_not_lt h]; rfl
theorem rws_swap (p c : Nat) (ss : List SR) : rws (swapS p c ss) = swapX p c (rws ss) := by
  unfold swapS swapX
  rw [← rws_set, ← rws_set, getD_row, getD_row]
/-- What is known of the two, with the first c columns done. -/
structure Pu (n c : Nat) (M : Mx) (ssA ssB : List SR) : Prop where
  sa : Sq n (rws ssA)
  sb : Sq n (rws ssB)
  ap : Apart ssB
  el : W.Elim n M (mx (rws ssA)) (mx (rws ssB))
  co : W.Cols n c (mx (rws ssA))
theorem Pu.lenB {n c : Nat} {M : Mx} {ssA ssB : List SR} (h : Pu n c M ssA ssB) : ssB.length = n := by rw [← rws_len]; exact h.sb.len
theorem Pu.swap {n c p : Nat} {M : Mx} {ssA ssB : List SR} (h : Pu n c M ssA ssB) (hc : c < n) (hp : p < n) (hcp : c ≤ p) : Pu n c M (swapS p c ssA) (swapS p c ssB) := by
  refine ⟨?_, ?_, h.ap.swap (by rw [h.lenB]; exact hp) (by rw [h.lenB]; exact hc), ?_, ?_⟩
  · rw [rws_swap]; exact h.sa.swap hp hc
  · rw [rws_swap]; exact h.sb.swap hp hc
  · rw [rws_swap, rws_swap, mx_swap h.sa hp hc, mx_swap h.sb hp hc]; exact h.el.swap hp hc
  · rw [rws_swap, mx_swap h.sa hp hc]; exact cols_swap h.co hc hp hcp
theorem mx_swap_c {n c p : Nat} {ss : List SR} (h : Sq n (rws ss)) (hc : c < n) (hp : p < n) : mx (rws (swapS p c ss)) c c = mx (rws ss) p c := by
  rw [rws_swap, mx_swap h hp hc]
  unfold W.swapR
  by_cases e : c = p
  · subst e; rw [if_pos rfl]
  · rw [if_neg e, if_pos rfl]
theorem Pu.times {n c : Nat} {M : Mx} {ssA ssB : List SR} (h : Pu n c M ssA ssB) (hc : c < n) {x : B8} (hx : x = mx (rws ssA) c c) (h0 : x ≠ 0#8) {sA sB : SR} (hA : sA.row = timesL (W.gi x) ((rws ssA).getD c [])) (hB : sB.row = timesL (W.gi x) ((rws ssB).getD c []))
    (hnew : ∀ k, k < ssB.length → (ssB.getD k default).loc ≠ sB.loc) : Pu n c M (ssA.set c sA) (ssB.set c sB) ∧ ColDone n c 0 (mx (rws (ssA.set c sA))) := by
  have e1 := mx_times h.sa hc (W.gi x)
  have e2 := mx_times h.sb hc (W.gi x)
  rw [← hA, rws_set] at e1
  rw [← hB, rws_set] at e2
  have hs : W.gm (W.gi x) x = 1#8 := by rw [W.gm_comm]; exact W.gm_gi x h0
  refine ⟨⟨?_, ?_, h.ap.set (by rw [h.lenB]; exact hc) (fun k hk _ => hnew k hk), (h.el.times hc hs).congr e1.symm e2.symm, cols_congr (cols_times h.co hc (W.gi x)) (Nat.le_of_lt hc) e1.symm⟩, ?_, fun k hk => by omega⟩
  · rw [← rws_set, hA]; exact h.sa.set c (by rw [timesL_len]; exact (h.sa.at hc).1) (timesL_num _ _)
  · rw [← rws_set, hB]; exact h.sb.set c (by rw [timesL_len]; exact (h.sb.at hc).1) (timesL_num _ _)
  · rw [e1 c hc c hc]
    unfold W.timesR
    rw [if_pos rfl, ← hx, hs]
theorem Pu.plus {n c i : Nat} {M : Mx} {ssA ssB : List SR} (h : Pu n c M ssA ssB) (hc : c < n) (hi : i < n) (hic : i ≠ c) (hd : ColDone n c i (mx (rws ssA))) {t : B8} (ht : t = mx (rws ssA) i c) {sA sB : SR} (hA : sA.row = plusL t ((rws ssA).getD i []) ((rws ssA).getD c [])) (hB : sB.row = plusL t ((rws ssB).getD i []) ((rws ssB).getD c []))
    (hnew : ∀ k, k < ssB.length → (ssB.getD k default).loc ≠ sB.loc) : Pu n c M (ssA.set i sA) (ssB.set i sB) ∧ ColDone n c (i + 1) (mx (rws (ssA.set i sA))) := by
  have e1 := mx_plus (c := c) h.sa hi t
  have e2 := mx_plus (c := c) h.sb hi t
  rw [← hA, rws_set] at e1
  rw [← hB, rws_set] at e2
  refine ⟨⟨?_, ?_, h.ap.set (by rw [h.lenB]; exact hi) (fun k hk _ => hnew k hk), (h.el.plus hi hc hic t).congr e1.symm e2.symm, cols_congr (cols_plus h.co hc t) (Nat.le_of_lt hc) e1.symm⟩, ?_, fun k hk hkn hkc => ?_⟩
  · rw [← rws_set, hA]; exact h.sa.set i (by rw [plusL_len]; exact (h.sa.at hi).1) (plusL_num _ _ _)
  · rw [← rws_set, hB]; exact h.sb.set i (by rw [plusL_len]; exact (h.sb.at hi).1) (plusL_num _ _ _)
  · rw [e1 c hc c hc]
    unfold W.plusR
    rw [if_neg (Ne.symm hic)]; exact hd.1
  · rw [e1 k hkn c hc]
    unfold W.plusR
    by_cases e : k = i
    · rw [if_pos e, hd.1, W.gm_one, ht, BitVec.xor_self]
    · rw [if_neg e]; exact hd.2 k (by omega) hkn hkc
theorem ColDone.skip {n c i : Nat} {A : Mx} (h : ColDone n c i A) (hs : i = c ∨ A i c = 0#8) : ColDone n c (i + 1) A := ⟨h.1, fun k hk hkn hkc => by
  by_cases e : k = i
  · rcases hs with q | q
    · omega
    · rw [e]; exact q
  · exact h.2 k (by omega) hkn hkc⟩
theorem Pu.next {n c : Nat} {M : Mx} {ssA ssB : List SR} (h : Pu n c M ssA ssB) (hd : ColDone n c n (mx (rws ssA))) : Pu n (c + 1) M ssA ssB := ⟨h.sa, h.sb, h.ap, h.el, col_all h.co hd⟩
/-- A number is 0 where its byte is. -/
theorem Sq.zero {n : Nat} {X : List (List Int)} (h : Sq n X) {i j : Nat} (hi : i < n) (hj : j < n) : (X.getD i []).getD j 0 = 0 ↔ mx X i j = 0#8 := by
  have e := h.num hi hj
  constructor
  · intro h0; rw [h0] at e; exact W.b8_zero (by omega)
  · intro h0; rw [h0] at e; exact e.symm
/-- The inverse. -/
def IsInv (X Y : List (List Int)) : Prop := matOk X = true ∧ colsOf X = X.length ∧ Sq X.length Y ∧ W.Linv X.length (mx Y) (mx X) ∧ W.Linv X.length (mx X) (mx Y)
theorem Sq.ext {n : Nat} {X Y : List (List Int)} (h : Sq n X) (k : Sq n Y) (e : W.eqM n n (mx X) (mx Y)) : X = Y := by
  apply List.ext_getElem (by rw [h.len, k.len])
  intro i h1 h2
  have hi : i < n := by rw [← h.len]; exact h1
  have a1 : X.getD i [] = X[i] := by simp [List.getD, h1]
  have a2 : Y.getD i [] = Y[i] := by simp [List.getD, h2]
  rw [← a1, ← a2]
  have q1 := (h.at hi).1
  have q2 := (k.at hi).1
  apply List.ext_getElem (by rw [q1, q2])
  intro j h3 h4
  have hj : j < n := by omega
  have b1 := h.num hi hj
  have b2 := k.num hi hj
  rw [e i hi j hj] at b1
  have c1 : (X.getD i []).getD j 0 = (X.getD i [])[j] := by rw [List.getD_eq_getElem?_getD, List.getElem?_eq_getElem h3]; rfl
  have c2 : (Y.getD i []).getD j 0 = (Y.getD i [])[j] := by rw [List.getD_eq_getElem?_getD, List.getElem?_eq_getElem h4]; rfl
  rw [← c1, ← c2, ← b1, ← b2]
theorem isInv_only {X Y Z : List (List Int)} (h : IsInv X Y) (k : IsInv X Z) : Y = Z := h.2.2.1.ext k.2.2.1 (h.2.2.2.1.only k.2.2.2.2)
open Classical in
noncomputable def invX (X : List (List Int)) : List (List Int) × Bool := if h : ∃ Y, IsInv X Y then (h.choose, true) else ([], false)
theorem invX_yes {X Y : List (List Int)} (h : IsInv X Y) : invX X = (Y, true) := by
  have hx : ∃ Y, IsInv X Y := ⟨Y, h⟩
  unfold invX
  rw [dif_pos hx, isInv_only hx.choose_spec h]
theorem invX_no {X : List (List Int)} (h : ¬ ∃ Y, IsInv X Y) : invX X = ([], false) := by
  unfold invX
  rw [dif_neg h]
theorem Pu.done {n : Nat} {X : List (List Int)} {ssA ssB : List SR} (h : Pu n n (mx X) ssA ssB) (hX : matOk X = true) (hn : X.length = n) (hc : colsOf X = n) : IsInv X (rws ssB) := by
  obtain ⟨h1, h2⟩ := h.el.done (fun i hi j hj => h.co i hi j hj)
  exact ⟨hX, by omega, by rw [hn]; exact h.sb, by rw [hn]; exact h1, by rw [hn]; exact h2⟩
theorem Pu.none {n c : Nat} {X : List (List Int)} {ssA ssB : List SR} (h : Pu n c (mx X) ssA ssB) (hn : X.length = n) (hc : c < n) (hz : ∀ i, c ≤ i → i < n → mx (rws ssA) i c = 0#8) : ¬ ∃ Y, IsInv X Y := by
  rintro ⟨Y, hY⟩
  have := hY.2.2.2.1
  rw [hn] at this
  exact h.el.none hc h.co hz _ this
/-- The two at the start. -/
theorem mx_one {n : Nat} (h1 : 1 ≤ n) (h8 : n ≤ 8) : oneX (n : Int) = (List.range n).map (oneRow n) ∧ Sq n (oneX (n : Int)) ∧ W.eqM n n W.one (mx (oneX (n : Int))) := by
  have e : oneX (n : Int) = (List.range n).map (oneRow n) := by unfold oneX; rw [if_pos (by omega)]; rfl
  refine ⟨e, ⟨by rw [e]; simp, fun x hx => ?_⟩, fun i hi j hj => ?_⟩
  · rw [e] at hx
    obtain ⟨i, _, rfl⟩ := List.mem_map.1 hx
    refine ⟨oneRow_len n i, fun y hy => ?_⟩
    obtain ⟨j, _, rfl⟩ := List.mem_map.1 hy
    split <;> omega
  · unfold mx W.one
    rw [e]
    have a1 : ((List.range n).map (oneRow n)).getD i [] = oneRow n i := by rw [List.getD_eq_getElem?_getD, List.getElem?_map, List.getElem?_range hi]; rfl
    have a2 : (oneRow n i).getD j 0 = if i = j then 1 else 0 := by unfold oneRow; rw [List.getD_eq_getElem?_getD, List.getElem?_map, List.getElem?_range hj]; rfl
    rw [a1, a2]
    split <;> rfl
theorem Pu.start {n : Nat} {X : List (List Int)} {ssA ssB : List SR} (hX : Sq n X) (h1 : 1 ≤ n) (h8 : n ≤ 8) (hA : rws ssA = X) (hB : rws ssB = oneX (n : Int)) (hap : Apart ssB) : Pu n 0 (mx X) ssA ssB := by
  obtain ⟨_, q1, q2⟩ := mx_one h1 h8
  exact ⟨by rw [hA]; exact hX, by rw [hB]; exact q1, hap, by rw [hA, hB]; exact (W.Elim.start n (mx X)).congr (W.eqM.refl _ _ _) q2, fun i _ j hj => by omega⟩
theorem two_start {w wr w2 : World} {ga cap n : Nat} {v2 : Value} {ts : List SR} {Y : List (List Int)} (hbi : BI w wr (.slice (some ⟨ga, 0, none⟩) n cap) ts) (hn : ts.length = n) (hp : 0 < n) (hY : Y.length = n) (hb : Below wr.heap.size wr w2) (hv : MAns w2 v2 Y wr.heap.size w2.heap.size) :
    ∃ gb cap2 ssB, v2 = .slice (some ⟨gb, 0, none⟩) n cap2 ∧ n ≤ cap2 ∧ rws ssB = Y ∧ Apart ssB ∧ Two w w2 ga gb ts ssB := by
  obtain ⟨a, cap2, ssB, rfl, hr, hc, h1⟩ := hv
  have hl : ssB.length = n := by rw [← hY, ← hr, rws_len]
  have hne : ts ≠ [] := by rintro rfl; simp at hn; omega
  rcases h1 with rfl | ⟨gb, rfl, hm⟩
  · simp at hl; omega
  · have hown : wr.ownsRow w.heap.size 52 1 (.slice (some ⟨ga, 0, none⟩) n cap) n (svs ts) := by have := hbi.own; rw [hn] at this; exact this
    have hlt := hown.lt ga rfl
    have hglo := hm.glo
    refine ⟨gb, cap2, ssB, by rw [hl], by omega, hr, hm.apart, ⟨(own_wcells hown).grow hb, hm.out, hlt.1, by have := hbi.bel.size; omega, by omega, fun s hs => ?_, fun s hs => ?_, hbi.bel.trans (hb.mono hbi.bel.size)⟩⟩
    · obtain ⟨b, e, q1, q2, q3, q4⟩ := hbi.rows s hs
      have hbg : b ≠ ga := fun eb => by subst eb; exact row_apart q2 q4 hbi.own hne rfl
      have := q2.1
      exact ⟨b, e, q1, hbg, by omega, q2.grow hb, q3⟩
    · obtain ⟨b, e, q1, q2, q3, q4, q5⟩ := hm.rows s hs
      have := hbi.bel.size
      exact ⟨b, e, by omega, by omega, q3, q4, q5⟩
/-- A row of the two, so many times; and from another one. -/
theorem times_at {w wr : World} {ga gb n g i b cp : Nat} {ss : List SR} (h : RowGot w wr ga gb n g i b cp ss) (hsq : Sq n (rws ss)) (hi : i < n) (h8 : n ≤ 8) (t : B8) (W : World) (hb : Below wr.heap.size wr W) :
    Calls Tw.prog 45 #[.slice (some ⟨b, 0, none⟩) n cp, .int .i64 (t.toNat : Int)] W fun e w' => ∃ g' cp', e = .returned (.slice (some ⟨g', 0, none⟩) n cp') ∧ W.heap.size ≤ g' ∧ WCells w' g' (ics (timesL t ((rws ss).getD i []))) ∧ n ≤ cp' ∧ Below W.heap.size W w' := by
  have hn := (hsq.at hi).1
  have := l06Times_any (some ⟨b, 0, none⟩) ((rws ss).getD i []) cp (t.toNat : Int) W (h.crow.stays hb) (by omega) (by omega)
  rw [hn, g8_back] at this
  refine this.mono ?_
  rintro e w' ⟨g', cp', rfl, q1, q2, q3, q4⟩
  rw [timesL_len, hn] at q3 ⊢
  exact ⟨g', cp', rfl, q1, q2, q3, q4⟩
theorem plus_at {w wr : World} {ga gb n g i c b1 cp1 b2 cp2 : Nat} {ss : List SR} (h1 : RowGot w wr ga gb n g i b1 cp1 ss) (h2 : RowGot w wr ga gb n g c b2 cp2 ss) (hsq : Sq n (rws ss)) (hi : i < n) (hc : c < n) (h8 : n ≤ 8) (t : Int) (W : World) (hb : Below wr.heap.size wr W) :
    Calls Tw.prog 46 #[.slice (some ⟨b1, 0, none⟩) n cp1, .slice (some ⟨b2, 0, none⟩) n cp2, .int .i64 t] W fun e w' => ∃ g' cp', e = .returned (.slice (some ⟨g', 0, none⟩) n cp') ∧ W.heap.size ≤ g' ∧ WCells w' g' (ics (plusL (g8 t) ((rws ss).getD i []) ((rws ss).getD c []))) ∧ n ≤ cp' ∧ Below W.heap.size W w' := by
  have hn := (hsq.at hi).1
  have hm := (hsq.at hc).1
  have := l06Row_any (some ⟨b1, 0, none⟩) (some ⟨b2, 0, none⟩) ((rws ss).getD i []) ((rws ss).getD c []) cp1 cp2 t W (h1.crow.stays hb) (h2.crow.stays hb) (by omega) (by omega) (by omega) (hsq.at hi).2
  rw [hn, hm] at this
  refine this.mono ?_
  rintro e w' ⟨g', cp', rfl, q1, q2, q3, q4⟩
  rw [plusL_len, hn] at q3 ⊢
  exact ⟨g', cp', rfl, q1, q2, q3, q4⟩
theorem RowGot.below {w wr w' : World} {ga gb n g i b cp : Nat} {ss : List SR} (h : RowGot w wr ga gb n g i b cp ss) (hg : g < wr.heap.size) (hb : Below wr.heap.size wr w') : RowGot w w' ga gb n g i b cp ss := by
  have hbl : b < wr.heap.size := by
    obtain ⟨b', e, _, _, _, q, _⟩ := h.row
    rw [h.is] at e
    have : b = b' := congrArg Addr.block (Option.some.inj e)
    rw [this]; exact q.1
  exact ⟨h.lt, (hb.cell (p := ⟨g, i, none⟩) hg).trans h.cell, (hb.frozen (p := ⟨g, i, none⟩) hg).trans h.free, h.is, h.val, h.row.below hb, fun j hj => (hb.cell (p := ⟨b, j, none⟩) hbl).trans (h.num j hj), h.crow.stays hb⟩
end Go.Proofs.YtbkimmbfepjodaaDoorT
