/- Texts of ours, laid one behind the other: MatG, MatI, MatH, MatJ, BRowM, FieldT, MatK, CodA. -/
import Derived.Test.YtoaifodmjkhiiaaDoorPx7
import Derived.Deep.CutRange
import Derived.Deep.RegionHeld3
import Derived.Deep.DrawnRows
import Derived.PlainAid
import Derived.BigQuiet
/- MatG: An elimination as it lies in memory: two rows of rows, of which rows are put in the places of others; and what its steps do to the two as matrices. -/
namespace Go.Proofs.YtoaifodmjkhiiaaDoor
set_option maxRecDepth 100000
open Go.RowKit
open W (B8 Mx)
attribute [local irreducible] W.gm W.xs W.mm

/-- A square of numbers that is right. -/
structure Sq (n : Nat) (X : List (List Int)) : Prop where
  len : X.length = n
  row : ∀ x ∈ X, x.length = n ∧ ∀ y ∈ x, 0 ≤ y ∧ y ≤ 255
theorem Sq.at {n : Nat} {X : List (List Int)} (h : Sq n X) {i : Nat} (hi : i < n) : (X.getD i []).length = n ∧ ∀ y ∈ X.getD i [], 0 ≤ y ∧ y ≤ 255 := by
  have hi' : i < X.length := by rw [h.len]; exact hi
  have e : X.getD i [] = X[i] := by simp [List.getD, hi']
  rw [e]; exact h.row _ (List.getElem_mem hi')
theorem Sq.num {n : Nat} {X : List (List Int)} (h : Sq n X) {i j : Nat} (hi : i < n) (hj : j < n) : (((mx X) i j).toNat : Int) = (X.getD i []).getD j 0 := by
  obtain ⟨h1, h2⟩ := h.at hi
  have hj' : j < (X.getD i []).length := by omega
  obtain ⟨q1, q2⟩ := h2 ((X.getD i []).getD j 0) (by generalize X.getD i [] = r at *; simp [List.getD, hj'])
  exact g8_self q1 q2
theorem Sq.set {n : Nat} {X : List (List Int)} (h : Sq n X) (i : Nat) {r : List Int} (hl : r.length = n) (hr : ∀ y ∈ r, 0 ≤ y ∧ y ≤ 255) : Sq n (X.set i r) :=
  ⟨by rw [List.length_set]; exact h.len, fun x hx => by
    rcases List.mem_or_eq_of_mem_set hx with h1 | rfl
    · exact h.row x h1
    · exact ⟨hl, hr⟩⟩
theorem mx_set {X : List (List Int)} {i : Nat} (hi : i < X.length) (r : List Int) (k j : Nat) : mx (X.set i r) k j = if k = i then g8 (r.getD j 0) else mx X k j := by
  unfold mx
  by_cases e : k = i
  · subst e; rw [if_pos rfl]; congr 2; simp [List.getD, hi]
  · rw [if_neg e]; congr 2; simp [List.getD, List.getElem?_set_ne (Ne.symm e)]
/-- The three steps, as rows. -/
def swapX (p c : Nat) (X : List (List Int)) : List (List Int) := (X.set p (X.getD c [])).set c (X.getD p [])
theorem Sq.swap {n : Nat} {X : List (List Int)} (h : Sq n X) {p c : Nat} (hp : p < n) (hc : c < n) : Sq n (swapX p c X) := (h.set p (h.at hc).1 (h.at hc).2).set c (h.at hp).1 (h.at hp).2
theorem mx_swap {n : Nat} {X : List (List Int)} (h : Sq n X) {p c : Nat} (hp : p < n) (hc : c < n) : mx (swapX p c X) = W.swapR p c (mx X) := by
  funext k j
  unfold swapX W.swapR
  rw [mx_set (by rw [List.length_set, h.len]; exact hc), mx_set (by rw [h.len]; exact hp)]
  by_cases e1 : k = p
  · subst e1
    rw [if_pos rfl, if_pos rfl]
    by_cases e2 : k = c
    · subst e2; rw [if_pos rfl]; rfl
    · rw [if_neg e2]; rfl
  · rw [if_neg e1, if_neg e1]
    by_cases e2 : k = c
    · rw [if_pos e2, if_pos e2]; rfl
    · rw [if_neg e2, if_neg e2]
theorem b8_num (A : B8) : 0 ≤ (A.toNat : Int) ∧ (A.toNat : Int) ≤ 255 := by have := A.isLt; omega
theorem timesL_num (t : B8) (row : List Int) : ∀ y ∈ timesL t row, 0 ≤ y ∧ y ≤ 255 := fun y hy => by
  obtain ⟨x, _, rfl⟩ := List.mem_map.1 hy
  exact b8_num _
theorem plusL_num (t : B8) (a b : List Int) : ∀ y ∈ plusL t a b, 0 ≤ y ∧ y ≤ 255 := fun y hy => by
  obtain ⟨x, _, rfl⟩ := List.mem_map.1 hy
  exact b8_num _
theorem timesL_get {t : B8} {row : List Int} {j : Nat} (h : j < row.length) : g8 ((timesL t row).getD j 0) = W.gm t (g8 (row.getD j 0)) := by
  have e : (timesL t row).getD j 0 = ((W.gm t (g8 (row.getD j 0))).toNat : Int) := by simp [timesL, List.getD, h]
  rw [e, g8_back]
theorem plusL_get {t : B8} {a b : List Int} {j : Nat} (h : j < a.length) : g8 ((plusL t a b).getD j 0) = g8 (a.getD j 0) ^^^ W.gm t (g8 (b.getD j 0)) := by
  have e : (plusL t a b).getD j 0 = ((g8 (a.getD j 0) ^^^ W.gm t (g8 (b.getD j 0))).toNat : Int) := by
    unfold plusL; rw [List.getD_eq_getElem?_getD, List.getElem?_map, List.getElem?_range h]; rfl
  rw [e, g8_back]
theorem mx_times {n : Nat} {X : List (List Int)} (h : Sq n X) {c : Nat} (hc : c < n) (t : B8) : W.eqM n n (mx (X.set c (timesL t (X.getD c [])))) (W.timesR c t (mx X)) := by
  intro k _ j hj
  rw [mx_set (by rw [h.len]; exact hc)]
  unfold W.timesR
  by_cases e : k = c
  · rw [if_pos e, if_pos e, timesL_get (by rw [(h.at hc).1]; exact hj)]; rfl
  · rw [if_neg e, if_neg e]
theorem mx_plus {n : Nat} {X : List (List Int)} (h : Sq n X) {i c : Nat} (hi : i < n) (t : B8) : W.eqM n n (mx (X.set i (plusL t (X.getD i []) (X.getD c [])))) (W.plusR i c t (mx X)) := by
  intro k _ j hj
  rw [mx_set (by rw [h.len]; exact hi)]
  unfold W.plusR
  by_cases e : k = i
  · rw [if_pos e, if_pos e, plusL_get (by rw [(h.at hi).1]; exact hj)]; rfl
  · rw [if_neg e, if_neg e]

/-- A row of numbers in a block of its own, apart from two. -/
def RowIn (w wr : World) (ga gb : Nat) (s : SR) : Prop := ∃ b, s.loc = some ⟨b, 0, none⟩ ∧ w.heap.size ≤ b ∧ b ≠ ga ∧ b ≠ gb ∧ WCells wr b (ics s.row) ∧ s.row.length ≤ s.cap
theorem RowIn.below {w wr w' : World} {ga gb : Nat} {s : SR} (h : RowIn w wr ga gb s) (hb : Below wr.heap.size wr w') : RowIn w w' ga gb s := by
  obtain ⟨b, e, h1, h2, h3, h4, h5⟩ := h
  exact ⟨b, e, h1, h2, h3, h4.grow hb, h5⟩
theorem RowIn.setA {w wr : World} {ga gb : Nat} {s : SR} (h : RowIn w wr ga gb s) (i : Nat) (v : Value) : RowIn w (wr.setCell ⟨ga, i, none⟩ v) ga gb s := by
  obtain ⟨b, e, h1, h2, h3, h4, h5⟩ := h
  exact ⟨b, e, h1, h2, h3, h4.other _ _ h2, h5⟩
theorem RowIn.setB {w wr : World} {ga gb : Nat} {s : SR} (h : RowIn w wr ga gb s) (i : Nat) (v : Value) : RowIn w (wr.setCell ⟨gb, i, none⟩ v) ga gb s := by
  obtain ⟨b, e, h1, h2, h3, h4, h5⟩ := h
  exact ⟨b, e, h1, h2, h3, h4.other _ _ h3, h5⟩
/-- Two rows of rows in memory. -/
structure Two (w wr : World) (ga gb : Nat) (ssA ssB : List SR) : Prop where
  outA : WCells wr ga (svs ssA)
  outB : WCells wr gb (svs ssB)
  la : w.heap.size ≤ ga
  lb : w.heap.size ≤ gb
  ne : ga ≠ gb
  rowA : ∀ s ∈ ssA, RowIn w wr ga gb s
  rowB : ∀ s ∈ ssB, RowIn w wr ga gb s
  bel : Below w.heap.size w wr
theorem Two.below {w wr w' : World} {ga gb : Nat} {ssA ssB : List SR} (h : Two w wr ga gb ssA ssB) (hb : Below wr.heap.size wr w') : Two w w' ga gb ssA ssB :=
  ⟨h.outA.grow hb, h.outB.grow hb, h.la, h.lb, h.ne, fun s hs => (h.rowA s hs).below hb, fun s hs => (h.rowB s hs).below hb, h.bel.trans (hb.mono h.bel.size)⟩
theorem svs_set (ss : List SR) (i : Nat) (s : SR) : (svs ss).set i (srv s) = svs (ss.set i s) := by simp [svs, List.map_set]
theorem rws_set (ss : List SR) (i : Nat) (s : SR) : (rws ss).set i s.row = rws (ss.set i s) := by simp [rws, List.map_set]
theorem Two.setA {w wr : World} {ga gb : Nat} {ssA ssB : List SR} (h : Two w wr ga gb ssA ssB) {i : Nat} (hi : i < ssA.length) {s : SR} {v : Value} (hv : v = srv s) (hs : RowIn w wr ga gb s) : Two w (wr.setCell ⟨ga, i, none⟩ v) ga gb (ssA.set i s) ssB := by
  subst hv
  refine ⟨?_, h.outB.other _ _ (fun e => h.ne e.symm), h.la, h.lb, h.ne, fun t ht => ?_, fun t ht => (h.rowB t ht).setA i _, h.bel.setCell h.la _⟩
  · rw [← svs_set]; exact h.outA.set i _ (by rw [svs_len]; exact hi)
  · rcases List.mem_or_eq_of_mem_set ht with h1 | rfl
    · exact (h.rowA t h1).setA i _
    · exact hs.setA i _
theorem Two.setB {w wr : World} {ga gb : Nat} {ssA ssB : List SR} (h : Two w wr ga gb ssA ssB) {i : Nat} (hi : i < ssB.length) {s : SR} {v : Value} (hv : v = srv s) (hs : RowIn w wr ga gb s) : Two w (wr.setCell ⟨gb, i, none⟩ v) ga gb ssA (ssB.set i s) := by
  subst hv
  refine ⟨h.outA.other _ _ h.ne, ?_, h.la, h.lb, h.ne, fun t ht => (h.rowA t ht).setB i _, fun t ht => ?_, h.bel.setCell h.lb _⟩
  · rw [← svs_set]; exact h.outB.set i _ (by rw [svs_len]; exact hi)
  · rcases List.mem_or_eq_of_mem_set ht with h1 | rfl
    · exact (h.rowB t h1).setB i _
    · exact hs.setB i _
/-- What the walk wants of a row: its cell, and its numbers. -/
structure RowGot (w wr : World) (ga gb n g i b cp : Nat) (ss : List SR) : Prop where
  lt : i < ss.length
  cell : wr.cell? ⟨g, i, none⟩ = some (.slice (some ⟨b, 0, none⟩) n cp)
  free : wr.frozen? ⟨g, i, none⟩ = false
  is : ss.getD i default = ⟨some ⟨b, 0, none⟩, (rws ss).getD i [], cp⟩
  val : Value.slice (some ⟨b, 0, none⟩) n cp = srv (ss.getD i default)
  row : RowIn w wr ga gb (ss.getD i default)
  num : ∀ j, j < n → wr.cell? ⟨b, j, none⟩ = some (.int .i64 (((rws ss).getD i []).getD j 0))
  crow : CRow wr (some ⟨b, 0, none⟩) (ics ((rws ss).getD i []))
theorem row_got {w wr : World} {ga gb n g i : Nat} {ss : List SR} (hsq : Sq n (rws ss)) (hi : i < n) (ho : WCells wr g (svs ss)) (hr : ∀ s ∈ ss, RowIn w wr ga gb s) : ∃ b cp, RowGot w wr ga gb n g i b cp ss := by
  have hl : i < ss.length := by have := hsq.len; rw [rws_len] at this; omega
  have e0 : ss.getD i default = ss[i] := by simp [List.getD, hl]
  have e1 : (rws ss).getD i [] = ss[i].row := by simp [rws, List.getD, hl]
  obtain ⟨b, e, h1, h2, h3, h4, h5⟩ := hr ss[i] (List.getElem_mem hl)
  obtain ⟨c1, c2⟩ := ho.2 i _ (svs_get ss i hl)
  have hn : ss[i].row.length = n := by rw [← e1]; exact (hsq.at hi).1
  have ev : srv ss[i] = .slice (some ⟨b, 0, none⟩) n ss[i].cap := by unfold srv; rw [e, hn]
  refine ⟨b, ss[i].cap, hl, by rw [c1, ev], c2, ?_, by rw [e0, ev], by rw [e0]; exact ⟨b, e, h1, h2, h3, h4, h5⟩, fun j hj => ?_, by rw [e1]; exact h4.crow⟩
  · rw [e0, e1]
    have := e
    cases hx : ss[i] with
    | mk l r cc => rw [hx] at this; simp at this; rw [this]
  · rw [e1]
    exact (h4.2 j _ (ics_get _ j (by omega))).1
theorem Two.gotA {w wr : World} {ga gb n i : Nat} {ssA ssB : List SR} (h : Two w wr ga gb ssA ssB) (hsq : Sq n (rws ssA)) (hi : i < n) : ∃ b cp, RowGot w wr ga gb n ga i b cp ssA := row_got hsq hi h.outA h.rowA
theorem Two.gotB {w wr : World} {ga gb n i : Nat} {ssA ssB : List SR} (h : Two w wr ga gb ssA ssB) (hsq : Sq n (rws ssB)) (hi : i < n) : ∃ b cp, RowGot w wr ga gb n gb i b cp ssB := row_got hsq hi h.outB h.rowB
/-- A new row stands apart. -/
theorem row_new {w wr w' : World} {ga gb g cp : Nat} {row : List Int} {ssA ssB : List SR} (h : Two w wr ga gb ssA ssB) (hg : wr.heap.size ≤ g) (hc : WCells w' g (ics row)) (hl : row.length ≤ cp) : RowIn w w' ga gb ⟨some ⟨g, 0, none⟩, row, cp⟩ :=
  ⟨g, rfl, Nat.le_trans h.bel.size hg, by have := h.outA.1; omega, by have := h.outB.1; omega, hc, hl⟩
/-- The rows of the second one are apart from each other. -/
abbrev Apart (ss : List SR) : Prop := (ss.map SR.loc).Nodup
theorem apart_iff {ss : List SR} : Apart ss ↔ ∀ i j, i < j → j < ss.length → (ss.getD i default).loc ≠ (ss.getD j default).loc := by
  unfold Apart
  rw [List.nodup_iff_pairwise_ne, List.pairwise_iff_getElem]
  constructor
  · intro h i j hij hj
    have := h i j (by rw [List.length_map]; omega) (by rw [List.length_map]; exact hj) hij
    rw [List.getElem_map, List.getElem_map] at this
    rw [show ss.getD i default = ss[i] by simp [List.getD, show i < ss.length by omega], show ss.getD j default = ss[j] by simp [List.getD, hj]]
    exact this
  · intro h i j hi hj hij
    rw [List.length_map] at hi hj
    have := h i j hij hj
    rw [show ss.getD i default = ss[i] by simp [List.getD, hi], show ss.getD j default = ss[j] by simp [List.getD, hj]] at this
    rw [List.getElem_map, List.getElem_map]
    exact this
theorem Apart.ne {ss : List SR} (h : Apart ss) {i j : Nat} (hi : i < ss.length) (hj : j < ss.length) (hij : i ≠ j) : (ss.getD i default).loc ≠ (ss.getD j default).loc := by
  rcases Nat.lt_or_gt_of_ne hij with q | q
  · exact apart_iff.1 h i j q hj
  · exact fun e => apart_iff.1 h j i q hi e.symm
theorem set_get {ss : List SR} {i : Nat} (s : SR) (hi : i < ss.length) (k : Nat) : (ss.set i s).getD k default = if k = i then s else ss.getD k default := by
  by_cases e : k = i
  · subst e; rw [if_pos rfl]; simp [List.getD, hi]
  · rw [if_neg e]; simp [List.getD, List.getElem?_set_ne (Ne.symm e)]
theorem Apart.set {ss : List SR} (h : Apart ss) {i : Nat} (hi : i < ss.length) {s : SR} (hs : ∀ k, k < ss.length → k ≠ i → (ss.getD k default).loc ≠ s.loc) : Apart (ss.set i s) := by
  rw [apart_iff]
  intro a b hab hb
  rw [List.length_set] at hb
  rw [set_get s hi, set_get s hi]
  by_cases e1 : a = i
  · rw [if_pos e1, if_neg (by omega)]; exact fun e => hs b hb (by omega) e.symm
  · rw [if_neg e1]
    by_cases e2 : b = i
    · rw [if_pos e2]; exact hs a (by omega) e1
    · rw [if_neg e2]; exact apart_iff.1 h a b hab hb
theorem Apart.swap {ss : List SR} (h : Apart ss) {p c : Nat} (hp : p < ss.length) (hc : c < ss.length) : Apart ((ss.set p (ss.getD c default)).set c (ss.getD p default)) := by
  rw [apart_iff]
  intro a b hab hb
  rw [List.length_set, List.length_set] at hb
  have hc' : c < (ss.set p (ss.getD c default)).length := by rw [List.length_set]; exact hc
  rw [set_get (ss := ss.set p (ss.getD c default)) _ hc' a, set_get (ss := ss.set p (ss.getD c default)) _ hc' b, set_get (ss := ss) _ hp a, set_get (ss := ss) _ hp b]
  by_cases a1 : a = c
  · rw [if_pos a1, if_neg (show ¬ b = c by omega)]
    by_cases b1 : b = p
    · rw [if_pos b1]; exact h.ne hp hc (by omega)
    · rw [if_neg b1]; exact h.ne hp hb (by omega)
  · rw [if_neg a1]
    by_cases a2 : a = p
    · rw [if_pos a2]
      by_cases b1 : b = c
      · rw [if_pos b1]; exact h.ne hc hp (by omega)
      · rw [if_neg b1, if_neg (show ¬ b = p by omega)]; exact h.ne hc hb (by omega)
    · rw [if_neg a2]
      by_cases b1 : b = c
      · rw [if_pos b1]; exact h.ne (by omega) hp (by omega)
      · rw [if_neg b1]
        by_cases b2 : b = p
        · rw [if_pos b2]; exact h.ne (by omega) hc (by omega)
        · rw [if_neg b2]; exact h.ne (by omega) hb (by omega)
/-- The second one as an answer. -/
theorem Two.fin {w wr : World} {ga gb n cap : Nat} {ssA ssB : List SR} (h : Two w wr ga gb ssA ssB) (hap : Apart ssB) (hn : ssB.length = n) (hc : n ≤ cap) : MAns wr (.slice (some ⟨gb, 0, none⟩) n cap) (rws ssB) w.heap.size wr.heap.size := by
  refine ⟨_, cap, ssB, by rw [hn], rfl, by omega, .inr ⟨gb, rfl, h.outB, h.lb, h.outB.1, fun s hs => ?_, hap⟩⟩
  obtain ⟨b, e, h1, _, h3, h4, h5⟩ := h.rowB s hs
  exact ⟨b, e, h1, h4.1, h3, h4, h5⟩
/-- The steps of the elimination, as far as they are of numbers: the first columns. -/
theorem cols_swap {n c p : Nat} {A : Mx} (h : W.Cols n c A) (hc : c < n) (hp : p < n) (hcp : c ≤ p) : W.Cols n c (W.swapR p c A) := by
  intro i hi j hj
  unfold W.swapR
  by_cases e1 : i = p
  · rw [if_pos e1, h c hc j hj]; unfold W.one; rw [if_neg (by omega), if_neg (by omega)]
  · rw [if_neg e1]
    by_cases e2 : i = c
    · rw [if_pos e2, h p hp j hj]; unfold W.one; rw [if_neg (by omega), if_neg (by omega)]
    · rw [if_neg e2]; exact h i hi j hj
theorem cols_times {n c : Nat} {A : Mx} (h : W.Cols n c A) (hc : c < n) (t : B8) : W.Cols n c (W.timesR c t A) := by
  intro i hi j hj
  unfold W.timesR
  by_cases e : i = c
  · rw [if_pos e, h c hc j hj]; unfold W.one; rw [if_neg (by omega), if_neg (by omega), W.gm_zero]
  · rw [if_neg e]; exact h i hi j hj
theorem cols_plus {n c i : Nat} {A : Mx} (h : W.Cols n c A) (hc : c < n) (t : B8) : W.Cols n c (W.plusR i c t A) := by
  intro k hk j hj
  unfold W.plusR
  by_cases e : k = i
  · subst e; rw [if_pos rfl, h c hc j hj]; rw [show W.one c j = 0#8 by unfold W.one; rw [if_neg (by omega)]]; rw [W.gm_zero, BitVec.xor_zero]; exact h k hk j hj
  · rw [if_neg e]; exact h k hk j hj
theorem cols_congr {n c : Nat} {A B : Mx} (h : W.Cols n c A) (hc : c ≤ n) (e : W.eqM n n A B) : W.Cols n c B := fun i hi j hj => by rw [← e i hi j (by omega)]; exact h i hi j hj
/-- Column c under way: the diagonal is there, and the first i rows are done. -/
def ColDone (n c i : Nat) (A : Mx) : Prop := A c c = 1#8 ∧ ∀ k, k < i → k < n → k ≠ c → A k c = 0#8
theorem col_all {n c : Nat} {A : Mx} (h : W.Cols n c A) (hd : ColDone n c n A) : W.Cols n (c + 1) A := fun i hi j hj => by
  by_cases e : j < c
  · exact h i hi j e
  · obtain rfl : j = c := by omega
    unfold W.one
    by_cases e2 : i = j
    · rw [if_pos e2, e2]; exact hd.1
    · rw [if_neg e2]; exact hd.2 i hi hi e2
end Go.Proofs.YtoaifodmjkhiiaaDoor
/- MatI: An elimination: what is known of its two rows of rows as matrices, from step to step; and what its end says. -/
namespace Go.Proofs.YtoaifodmjkhiiaaDoor
set_option maxRecDepth 100000
open Go.RowKit
open W (B8 Mx)
attribute [local irreducible] W.gm W.xs W.mm

theorem mx_is (X : List (List Int)) (i j : Nat) : mx X i j = g8 ((X.getD i []).getD j 0) := rfl
/-- No row of the second one lies where a new one does. -/
theorem Two.newB {w wr : World} {ga gb g : Nat} {ssA ssB : List SR} (h : Two w wr ga gb ssA ssB) (hg : wr.heap.size ≤ g) : ∀ k, k < ssB.length → (ssB.getD k default).loc ≠ some ⟨g, 0, none⟩ := by
  intro k hk e
  have e0 : ssB.getD k default = ssB[k] := by simp [List.getD, hk]
  obtain ⟨b, eb, _, _, _, q, _⟩ := h.rowB ssB[k] (List.getElem_mem hk)
  rw [e0, eb] at e
  have : b = g := congrArg Addr.block (Option.some.inj e)
  have := q.1
  omega
/-- The cell of a row may be written. -/
theorem Two.freeA {w wr : World} {ga gb : Nat} {ssA ssB : List SR} (h : Two w wr ga gb ssA ssB) {i : Nat} (hi : i < ssA.length) : ∃ v, wr.cell? ⟨ga, i, none⟩ = some v ∧ wr.frozen? ⟨ga, i, none⟩ = false := ⟨_, h.outA.2 i _ (svs_get ssA i hi)⟩
theorem Two.freeB {w wr : World} {ga gb : Nat} {ssA ssB : List SR} (h : Two w wr ga gb ssA ssB) {i : Nat} (hi : i < ssB.length) : ∃ v, wr.cell? ⟨gb, i, none⟩ = some v ∧ wr.frozen? ⟨gb, i, none⟩ = false := ⟨_, h.outB.2 i _ (svs_get ssB i hi)⟩
theorem srv_is (g n cp : Nat) (r : List Int) (h : r.length = n) : Value.slice (some ⟨g, 0, none⟩) n cp = srv ⟨some ⟨g, 0, none⟩, r, cp⟩ := by unfold srv; rw [h]
/-- Rows with two in each other's place. -/
def swapS (p c : Nat) (ss : List SR) : List SR := (ss.set p (ss.getD c default)).set c (ss.getD p default)
theorem swapS_len (p c : Nat) (ss : List SR) : (swapS p c ss).length = ss.length := by simp [swapS]
theorem getD_row (ss : List SR) (i : Nat) : (ss.getD i default).row = (rws ss).getD i [] := by
  by_cases h : i < ss.length
  · simp [rws, List.getD, h]
  · simp [rws, List.getD, Nat.le_of_not_lt h]; rfl
theorem rws_swap (p c : Nat) (ss : List SR) : rws (swapS p c ss) = swapX p c (rws ss) := by
  unfold swapS swapX
  rw [← rws_set, ← rws_set, getD_row, getD_row]
/-- What is known of the two, with the first c columns done. -/
structure Pu (n c : Nat) (M : Mx) (ssA ssB : List SR) : Prop where
  sa : Sq n (rws ssA)
  sb : Sq n (rws ssB)
  ap : Apart ssB
  el : W.Elim n M (mx (rws ssA)) (mx (rws ssB))
  co : W.Cols n c (mx (rws ssA))
theorem Pu.lenA {n c : Nat} {M : Mx} {ssA ssB : List SR} (h : Pu n c M ssA ssB) : ssA.length = n := by rw [← rws_len]; exact h.sa.len
theorem Pu.lenB {n c : Nat} {M : Mx} {ssA ssB : List SR} (h : Pu n c M ssA ssB) : ssB.length = n := by rw [← rws_len]; exact h.sb.len
theorem Pu.swap {n c p : Nat} {M : Mx} {ssA ssB : List SR} (h : Pu n c M ssA ssB) (hc : c < n) (hp : p < n) (hcp : c ≤ p) : Pu n c M (swapS p c ssA) (swapS p c ssB) := by
  refine ⟨?_, ?_, h.ap.swap (by rw [h.lenB]; exact hp) (by rw [h.lenB]; exact hc), ?_, ?_⟩
  · rw [rws_swap]; exact h.sa.swap hp hc
  · rw [rws_swap]; exact h.sb.swap hp hc
  · rw [rws_swap, rws_swap, mx_swap h.sa hp hc, mx_swap h.sb hp hc]; exact h.el.swap hp hc
  · rw [rws_swap, mx_swap h.sa hp hc]; exact cols_swap h.co hc hp hcp
theorem mx_swap_c {n c p : Nat} {ss : List SR} (h : Sq n (rws ss)) (hc : c < n) (hp : p < n) : mx (rws (swapS p c ss)) c c = mx (rws ss) p c := by
  rw [rws_swap, mx_swap h hp hc]
  unfold W.swapR
  by_cases e : c = p
  · subst e; rw [if_pos rfl]
  · rw [if_neg e, if_pos rfl]
theorem Pu.times {n c : Nat} {M : Mx} {ssA ssB : List SR} (h : Pu n c M ssA ssB) (hc : c < n) {x : B8} (hx : x = mx (rws ssA) c c) (h0 : x ≠ 0#8) {sA sB : SR} (hA : sA.row = timesL (W.gi x) ((rws ssA).getD c [])) (hB : sB.row = timesL (W.gi x) ((rws ssB).getD c []))
    (hnew : ∀ k, k < ssB.length → (ssB.getD k default).loc ≠ sB.loc) : Pu n c M (ssA.set c sA) (ssB.set c sB) ∧ ColDone n c 0 (mx (rws (ssA.set c sA))) := by
  have e1 := mx_times h.sa hc (W.gi x)
  have e2 := mx_times h.sb hc (W.gi x)
  rw [← hA, rws_set] at e1
  rw [← hB, rws_set] at e2
  have hs : W.gm (W.gi x) x = 1#8 := by rw [W.gm_comm]; exact W.gm_gi x h0
  refine ⟨⟨?_, ?_, h.ap.set (by rw [h.lenB]; exact hc) (fun k hk _ => hnew k hk), (h.el.times hc hs).congr e1.symm e2.symm, cols_congr (cols_times h.co hc (W.gi x)) (Nat.le_of_lt hc) e1.symm⟩, ?_, fun k hk => by omega⟩
  · rw [← rws_set, hA]; exact h.sa.set c (by rw [timesL_len]; exact (h.sa.at hc).1) (timesL_num _ _)
  · rw [← rws_set, hB]; exact h.sb.set c (by rw [timesL_len]; exact (h.sb.at hc).1) (timesL_num _ _)
  · rw [e1 c hc c hc]
    unfold W.timesR
    rw [if_pos rfl, ← hx, hs]
theorem Pu.plus {n c i : Nat} {M : Mx} {ssA ssB : List SR} (h : Pu n c M ssA ssB) (hc : c < n) (hi : i < n) (hic : i ≠ c) (hd : ColDone n c i (mx (rws ssA))) {t : B8} (ht : t = mx (rws ssA) i c) {sA sB : SR} (hA : sA.row = plusL t ((rws ssA).getD i []) ((rws ssA).getD c [])) (hB : sB.row = plusL t ((rws ssB).getD i []) ((rws ssB).getD c []))
    (hnew : ∀ k, k < ssB.length → (ssB.getD k default).loc ≠ sB.loc) : Pu n c M (ssA.set i sA) (ssB.set i sB) ∧ ColDone n c (i + 1) (mx (rws (ssA.set i sA))) := by
  have e1 := mx_plus (c := c) h.sa hi t
  have e2 := mx_plus (c := c) h.sb hi t
  rw [← hA, rws_set] at e1
  rw [← hB, rws_set] at e2
  refine ⟨⟨?_, ?_, h.ap.set (by rw [h.lenB]; exact hi) (fun k hk _ => hnew k hk), (h.el.plus hi hc hic t).congr e1.symm e2.symm, cols_congr (cols_plus h.co hc t) (Nat.le_of_lt hc) e1.symm⟩, ?_, fun k hk hkn hkc => ?_⟩
  · rw [← rws_set, hA]; exact h.sa.set i (by rw [plusL_len]; exact (h.sa.at hi).1) (plusL_num _ _ _)
  · rw [← rws_set, hB]; exact h.sb.set i (by rw [plusL_len]; exact (h.sb.at hi).1) (plusL_num _ _ _)
  · rw [e1 c hc c hc]
    unfold W.plusR
    rw [if_neg (Ne.symm hic)]; exact hd.1
  · rw [e1 k hkn c hc]
    unfold W.plusR
    by_cases e : k = i
    · rw [if_pos e, hd.1, W.gm_one, ht, BitVec.xor_self]
    · rw [if_neg e]; exact hd.2 k (by omega) hkn hkc
theorem ColDone.skip {n c i : Nat} {A : Mx} (h : ColDone n c i A) (hs : i = c ∨ A i c = 0#8) : ColDone n c (i + 1) A := ⟨h.1, fun k hk hkn hkc => by
  by_cases e : k = i
  · rcases hs with q | q
    · omega
    · rw [e]; exact q
  · exact h.2 k (by omega) hkn hkc⟩
theorem Pu.next {n c : Nat} {M : Mx} {ssA ssB : List SR} (h : Pu n c M ssA ssB) (hd : ColDone n c n (mx (rws ssA))) : Pu n (c + 1) M ssA ssB := ⟨h.sa, h.sb, h.ap, h.el, col_all h.co hd⟩
/-- A number is 0 where its byte is. -/
theorem Sq.zero {n : Nat} {X : List (List Int)} (h : Sq n X) {i j : Nat} (hi : i < n) (hj : j < n) : (X.getD i []).getD j 0 = 0 ↔ mx X i j = 0#8 := by
  have e := h.num hi hj
  constructor
  · intro h0; rw [h0] at e; exact W.b8_zero (by omega)
  · intro h0; rw [h0] at e; exact e.symm
/-- The inverse. -/
def IsInv (X Y : List (List Int)) : Prop := matOk X = true ∧ colsOf X = X.length ∧ Sq X.length Y ∧ W.Linv X.length (mx Y) (mx X) ∧ W.Linv X.length (mx X) (mx Y)
theorem Sq.ext {n : Nat} {X Y : List (List Int)} (h : Sq n X) (k : Sq n Y) (e : W.eqM n n (mx X) (mx Y)) : X = Y := by
  apply List.ext_getElem (by rw [h.len, k.len])
  intro i h1 h2
  have hi : i < n := by rw [← h.len]; exact h1
  have a1 : X.getD i [] = X[i] := by simp [List.getD, h1]
  have a2 : Y.getD i [] = Y[i] := by simp [List.getD, h2]
  rw [← a1, ← a2]
  have q1 := (h.at hi).1
  have q2 := (k.at hi).1
  apply List.ext_getElem (by rw [q1, q2])
  intro j h3 h4
  have hj : j < n := by omega
  have b1 := h.num hi hj
  have b2 := k.num hi hj
  rw [e i hi j hj] at b1
  have c1 : (X.getD i []).getD j 0 = (X.getD i [])[j] := by rw [List.getD_eq_getElem?_getD, List.getElem?_eq_getElem h3]; rfl
  have c2 : (Y.getD i []).getD j 0 = (Y.getD i [])[j] := by rw [List.getD_eq_getElem?_getD, List.getElem?_eq_getElem h4]; rfl
  rw [← c1, ← c2, ← b1, ← b2]
theorem isInv_only {X Y Z : List (List Int)} (h : IsInv X Y) (k : IsInv X Z) : Y = Z := h.2.2.1.ext k.2.2.1 (h.2.2.2.1.only k.2.2.2.2)
open Classical in
noncomputable def invX (X : List (List Int)) : List (List Int) × Bool := if h : ∃ Y, IsInv X Y then (h.choose, true) else ([], false)
theorem invX_yes {X Y : List (List Int)} (h : IsInv X Y) : invX X = (Y, true) := by
  have hx : ∃ Y, IsInv X Y := ⟨Y, h⟩
  unfold invX
  rw [dif_pos hx, isInv_only hx.choose_spec h]
theorem invX_no {X : List (List Int)} (h : ¬ ∃ Y, IsInv X Y) : invX X = ([], false) := by
  unfold invX
  rw [dif_neg h]
theorem Pu.done {n : Nat} {X : List (List Int)} {ssA ssB : List SR} (h : Pu n n (mx X) ssA ssB) (hX : matOk X = true) (hn : X.length = n) (hc : colsOf X = n) : IsInv X (rws ssB) := by
  obtain ⟨h1, h2⟩ := h.el.done (fun i hi j hj => h.co i hi j hj)
  exact ⟨hX, by omega, by rw [hn]; exact h.sb, by rw [hn]; exact h1, by rw [hn]; exact h2⟩
theorem Pu.none {n c : Nat} {X : List (List Int)} {ssA ssB : List SR} (h : Pu n c (mx X) ssA ssB) (hn : X.length = n) (hc : c < n) (hz : ∀ i, c ≤ i → i < n → mx (rws ssA) i c = 0#8) : ¬ ∃ Y, IsInv X Y := by
  rintro ⟨Y, hY⟩
  have := hY.2.2.2.1
  rw [hn] at this
  exact h.el.none hc h.co hz _ this
/-- The two at the start. -/
theorem mx_one {n : Nat} (h1 : 1 ≤ n) (h8 : n ≤ 8) : oneX (n : Int) = (List.range n).map (oneRow n) ∧ Sq n (oneX (n : Int)) ∧ W.eqM n n W.one (mx (oneX (n : Int))) := by
  have e : oneX (n : Int) = (List.range n).map (oneRow n) := by unfold oneX; rw [if_pos (by omega)]; rfl
  refine ⟨e, ⟨by rw [e]; simp, fun x hx => ?_⟩, fun i hi j hj => ?_⟩
  · rw [e] at hx
    obtain ⟨i, _, rfl⟩ := List.mem_map.1 hx
    refine ⟨oneRow_len n i, fun y hy => ?_⟩
    obtain ⟨j, _, rfl⟩ := List.mem_map.1 hy
    split <;> omega
  · unfold mx W.one
    rw [e]
    have a1 : ((List.range n).map (oneRow n)).getD i [] = oneRow n i := by rw [List.getD_eq_getElem?_getD, List.getElem?_map, List.getElem?_range hi]; rfl
    have a2 : (oneRow n i).getD j 0 = if i = j then 1 else 0 := by unfold oneRow; rw [List.getD_eq_getElem?_getD, List.getElem?_map, List.getElem?_range hj]; rfl
    rw [a1, a2]
    split <;> rfl
theorem Pu.start {n : Nat} {X : List (List Int)} {ssA ssB : List SR} (hX : Sq n X) (h1 : 1 ≤ n) (h8 : n ≤ 8) (hA : rws ssA = X) (hB : rws ssB = oneX (n : Int)) (hap : Apart ssB) : Pu n 0 (mx X) ssA ssB := by
  obtain ⟨_, q1, q2⟩ := mx_one h1 h8
  exact ⟨by rw [hA]; exact hX, by rw [hB]; exact q1, hap, by rw [hA, hB]; exact (W.Elim.start n (mx X)).congr (W.eqM.refl _ _ _) q2, fun i _ j hj => by omega⟩
theorem two_start {w wr w2 : World} {ga cap n : Nat} {v2 : Value} {ts : List SR} {Y : List (List Int)} (hbi : BI w wr (.slice (some ⟨ga, 0, none⟩) n cap) ts) (hn : ts.length = n) (hp : 0 < n) (hY : Y.length = n) (hb : Below wr.heap.size wr w2) (hv : MAns w2 v2 Y wr.heap.size w2.heap.size) :
    ∃ gb cap2 ssB, v2 = .slice (some ⟨gb, 0, none⟩) n cap2 ∧ n ≤ cap2 ∧ rws ssB = Y ∧ Apart ssB ∧ Two w w2 ga gb ts ssB := by
  obtain ⟨a, cap2, ssB, rfl, hr, hc, h1⟩ := hv
  have hl : ssB.length = n := by rw [← hY, ← hr, rws_len]
  have hne : ts ≠ [] := by rintro rfl; simp at hn; omega
  rcases h1 with rfl | ⟨gb, rfl, hm⟩
  · simp at hl; omega
  · have hown : wr.ownsRow w.heap.size 97 1 (.slice (some ⟨ga, 0, none⟩) n cap) n (svs ts) := by have := hbi.own; rw [hn] at this; exact this
    have hlt := hown.lt ga rfl
    have hglo := hm.glo
    refine ⟨gb, cap2, ssB, by rw [hl], by omega, hr, hm.apart, ⟨(own_wcells hown).grow hb, hm.out, hlt.1, by have := hbi.bel.size; omega, by omega, fun s hs => ?_, fun s hs => ?_, hbi.bel.trans (hb.mono hbi.bel.size)⟩⟩
    · obtain ⟨b, e, q1, q2, q3, q4⟩ := hbi.rows s hs
      have hbg : b ≠ ga := fun eb => by subst eb; exact row_apart q2 q4 hbi.own hne rfl
      have := q2.1
      exact ⟨b, e, q1, hbg, by omega, q2.grow hb, q3⟩
    · obtain ⟨b, e, q1, q2, q3, q4, q5⟩ := hm.rows s hs
      have := hbi.bel.size
      exact ⟨b, e, by omega, by omega, q3, q4, q5⟩
theorem RowGot.below {w wr w' : World} {ga gb n g i b cp : Nat} {ss : List SR} (h : RowGot w wr ga gb n g i b cp ss) (hg : g < wr.heap.size) (hb : Below wr.heap.size wr w') : RowGot w w' ga gb n g i b cp ss := by
  have hbl : b < wr.heap.size := by
    obtain ⟨b', e, _, _, _, q, _⟩ := h.row
    rw [h.is] at e
    have : b = b' := congrArg Addr.block (Option.some.inj e)
    rw [this]; exact q.1
  exact ⟨h.lt, (hb.cell (p := ⟨g, i, none⟩) hg).trans h.cell, (hb.frozen (p := ⟨g, i, none⟩) hg).trans h.free, h.is, h.val, h.row.below hb, fun j hj => (hb.cell (p := ⟨b, j, none⟩) hbl).trans (h.num j hj), h.crow.stays hb⟩
end Go.Proofs.YtoaifodmjkhiiaaDoor
/- MatH: The walk of the model's InvM. -/
namespace Go.Proofs.YtoaifodmjkhiiaaDoor
set_option maxRecDepth 100000
open Go.RowKit
open W (B8 Mx)
attribute [local go_sem ↓] Go.wp_at_zero Go.wp_at_succ
attribute [local irreducible] W.gm W.xs W.mm W.gi mx

/-- Rows of numbers where they lie. -/
def Rows2 (w : World) (X : List (List Int)) (n b off : Nat) : Prop := b < w.heap.size ∧ ∀ i, i < n → ∃ b' o' cp, w.cell? ⟨b, off + i, none⟩ = some (.slice (some ⟨b', o', none⟩) n cp) ∧ b' < w.heap.size ∧ ∀ j, j < n → w.cell? ⟨b', o' + j, none⟩ = some (.int .i64 ((X.getD i []).getD j 0))
theorem Rows2.below {w w' : World} {X : List (List Int)} {n b off : Nat} (h : Rows2 w X n b off) (hb : Below w.heap.size w w') : Rows2 w' X n b off := ⟨Nat.lt_of_lt_of_le h.1 hb.size, fun i hi => by
  obtain ⟨b', o', cp, e, hl, hc⟩ := h.2 i hi
  exact ⟨b', o', cp, (hb.cell (p := ⟨b, off + i, none⟩) h.1).trans e, Nat.lt_of_lt_of_le hl hb.size, fun j hj => (hb.cell (p := ⟨b', o' + j, none⟩) hl).trans (hc j hj)⟩⟩
/-- What InvM answers. -/
def InvPost (X : List (List Int)) (w : World) (e : Ending) (w' : World) : Prop := ∃ v, e = .returned (.tuple #[v, .bool (invX X).2]) ∧ MAns w' v (invX X).1 w.heap.size w'.heap.size ∧ Below w.heap.size w w'
theorem invPost_no {X : List (List Int)} {w w' : World} {e : Ending} {a : Option Addr} {cap : Nat} (h : invX X = ([], false)) (he : e = .returned (.tuple #[.slice a 0 cap, .bool false])) (hb : Below w.heap.size w w') : InvPost X w e w' := by
  unfold InvPost
  rw [h]
  exact ⟨_, he, MAns.empty _ _ _ _ _, hb⟩
theorem invPost_yes {X Y : List (List Int)} {w w' : World} {e : Ending} {v : Value} (h : IsInv X Y) (he : e = .returned (.tuple #[v, .bool true])) (hv : MAns w' v Y w.heap.size w'.heap.size) (hb : Below w.heap.size w w') : InvPost X w e w' := by
  unfold InvPost
  rw [invX_yes h]
  exact ⟨v, he, hv, hb⟩
theorem own_wider1 {w : World} {B C n sz : Nat} {t : TypeId} {v : Value} {L : List Value} (h : w.ownsRow B t sz v n L) (hC : C ≤ B) : w.ownsRow C t sz v n L := by
  obtain ⟨h1, h | ⟨g, cap, cur, e, hB, rest⟩⟩ := h
  · exact ⟨h1, .inl h⟩
  · exact ⟨h1, .inr ⟨g, cap, cur, e, Nat.le_trans hC hB, rest⟩⟩
theorem own_some {w : World} {B n sz : Nat} {t : TypeId} {v : Value} {L : List Value} (h : w.ownsRow B t sz v n L) (hp : 0 < n) : ∃ g cap, v = .slice (some ⟨g, 0, none⟩) n cap ∧ n ≤ cap := by
  rcases h.2 with ⟨_, h0⟩ | ⟨g, cap, _, rfl, _, _, hc, _⟩
  · omega
  · exact ⟨g, cap, rfl, hc⟩
theorem BI.up {w w1 wr : World} {v : Value} {ts : List SR} (h : BI w1 wr v ts) (hb : Below w.heap.size w w1) : BI w wr v ts :=
  ⟨own_wider1 h.own hb.size, fun s hs => by
    obtain ⟨b, e, q1, q2⟩ := h.rows s hs
    exact ⟨b, e, Nat.le_trans hb.size q1, q2⟩, h.apart, hb.trans (h.bel.mono hb.size)⟩
end Go.Proofs.YtoaifodmjkhiiaaDoor
/- MatJ: The model's InvM, at every argument. -/
namespace Go.Proofs.YtoaifodmjkhiiaaDoor
set_option maxRecDepth 100000
open Go.RowKit
open W (B8 Mx)
attribute [local go_sem ↓] Go.wp_at_zero Go.wp_at_succ
attribute [local irreducible] W.gm W.xs W.mm W.gi mx

theorem rows2_of {w : World} {a : Option Addr} {ss : List SR} {lo hi : Nat} {X : List (List Int)} {n : Nat} (h : MR w a ss lo hi) (hX : rws ss = X) (hsq : Sq n X) (hp : 0 < n) : ∃ b off, a = some ⟨b, off, none⟩ ∧ Rows2 w X n b off := by
  have hl : ss.length = n := by rw [← hsq.len, ← hX, rws_len]
  obtain ⟨b, off, e, hb, hc⟩ := h.at (by omega)
  refine ⟨b, off, e, hb, fun i hi => ?_⟩
  have his : i < ss.length := by omega
  have hget : X.getD i [] = ss[i].row := by rw [← hX, List.getD_eq_getElem?_getD]; simp [rws, his]
  have hlen : ss[i].row.length = n := by rw [← hget]; exact (hsq.at hi).1
  obtain ⟨b', o', e', hb', hc'⟩ := crow_int (h.2 _ (List.getElem_mem his)).crow (by omega)
  have := hc i his
  unfold srv at this
  rw [hlen, e'] at this
  exact ⟨b', o', ss[i].cap, this, hb', fun j hj => by rw [hget]; exact hc' j (by omega)⟩
theorem sq_of {X : List (List Int)} (h : matOk X = true) (hc : colsOf X = X.length) : Sq X.length X := ⟨rfl, fun x hx => by rw [← hc]; exact (matOk_iff h).2.2 x hx⟩
end Go.Proofs.YtoaifodmjkhiiaaDoor
/- BRowM: Rows of bytes that may be written: of a call's own, and made of a text. -/
namespace Go.Proofs.YtoaifodmjkhiiaaDoor
set_option maxRecDepth 100000
open Go.RowKit

/-- A row of bytes that may be written. -/
def BRow (w : World) (g : Nat) (l : List UInt8) : Prop :=
  g < w.heap.size ∧ ∀ j, j < l.length → w.cell? ⟨g, j, none⟩ = some (.int .u8 ((l.getD j 0).toNat : Int)) ∧ w.frozen? ⟨g, j, none⟩ = false
theorem BRow.set {w : World} {g : Nat} {l : List UInt8} (h : BRow w g l) (i : Nat) (x : UInt8) (hi : i < l.length) : BRow (w.setCell ⟨g, i, none⟩ (.int .u8 (x.toNat : Int))) g (l.set i x) := by
  refine ⟨by have := h.1; simpa [World.setCell] using this, fun j hj => ?_⟩
  rw [List.length_set] at hj
  refine ⟨?_, (World.frozen?_setCell _ _ _ _).trans (h.2 j hj).2⟩
  by_cases e : j = i
  · subst e
    rw [World.cell?_setCell_same _ _ _ (h.2 j hj).1]
    simp [List.getD, hi]
  · rw [World.cell?_setCell_other _ _ _ _ (by first | (simp; done) | (simp; omega)), (h.2 j hj).1]
    simp [List.getD, Ne.symm e]
theorem own_brow {w : World} {B g n cap : Nat} {l : List UInt8} (h : w.ownsRow B 5 1 (.slice (some ⟨g, 0, none⟩) n cap) n (bv l)) : BRow w g l := by
  have hc := h.cells (g := g) rfl
  have hlt := h.lt g rfl
  obtain ⟨_, ⟨h0, _⟩ | ⟨g', cap', cur, he, hB, hcur, _, _, _, _⟩⟩ := h
  · cases h0
  · have eg : g' = g := by simp at he; exact he.1.symm
    subst eg
    refine ⟨hlt.2, fun j hj => ⟨?_, ?_⟩⟩
    · have := hc j _ (show (bv l)[j]? = some _ by simp [bv, hj]; rfl)
      have e : (⟨g', 0, none⟩ : Addr).add j = ⟨g', j, none⟩ := by cases j <;> simp [Addr.add]
      rw [e] at this
      simpa [List.getD, hj] using this
    · unfold World.frozen?
      rw [hcur]; simp
theorem brow_string {w : World} {g cap : Nat} {l : List UInt8} (h : BRow w g l) :
    (convert 38 9 (.slice (some ⟨g, 0, none⟩) l.length cap)).run Tryd.prog w = .ok (.string ⟨l.toArray⟩) w :=
  run_convert_bytes_back w 38 9 5 ⟨g, 0, none⟩ cap l Tryd.underlying38 Tryd.underlying5 Tryd.underlying9 (fun j hj => by
    have e : (⟨g, 0, none⟩ : Addr).add j = ⟨g, j, none⟩ := by cases j <;> simp [Addr.add]
    rw [e, (h.2 j hj).1]
    simp [List.getD, hj])
/-- The bytes of a text, in a block of their own. -/
theorem bytes_made (w : World) (s : ByteArray) : ∃ (w' : World) (c : Nat), (convert 9 38 (.string s)).run Tryd.prog w = .ok (.slice (some ⟨w.heap.size, 0, none⟩) s.size c) w' ∧ BRow w' w.heap.size s.data.toList ∧ Below w.heap.size w w' := by
  refine ⟨_, _, run_bytes_of_string w 9 38 5 s Tryd.underlying9 Tryd.underlying38 Tryd.underlying5, ⟨?_, fun j hj => ⟨?_, ?_⟩⟩, ?_⟩
  · show w.heap.size < (w.heap.push _).size
    simp
  · rw [show w.heap.size = w.drew.heap.size from rfl, World.cell?_alloc_mark]
    have hj' : j < s.data.size := by simpa using hj
    unfold bytesRow
    rw [Array.getElem?_append_left (by simpa using hj')]
    simp only [Array.getElem?_map, List.getD, Array.getElem?_toList]
    rw [Array.getElem?_eq_getElem hj']
    rfl
  · rw [show w.heap.size = w.drew.heap.size from rfl, World.frozen?_alloc_mark]
    have hj' : j < s.data.size := by simpa using hj
    have h2 : j < (bytesRow s (grownCap w s.size 0 5)).size := by unfold bytesRow; rw [Array.size_append, Array.size_map]; omega
    rw [decide_eq_false (show ¬ (bytesRow s (grownCap w s.size 0 5)).size ≤ j by omega)]
    rfl
  · exact (Below.drew (Below.refl _ _)).alloc (Nat.le_refl _) _
end Go.Proofs.YtoaifodmjkhiiaaDoor
/- FieldT: The walks of the models of the field of bytes over texts: AddText, MulText. -/
namespace Go.Proofs.YtoaifodmjkhiiaaDoor
set_option maxRecDepth 100000
open Go.RowKit
open W (B8)
attribute [local go_sem ↓] Go.wp_at_zero Go.wp_at_succ
attribute [local irreducible] W.gm

/-- The sum of two texts, and a text so many times. -/
def addB (a b : ByteArray) : ByteArray := ⟨(W.addL a.data.toList b.data.toList).toArray⟩
def mulT (A : B8) (s : ByteArray) : ByteArray := ⟨(W.mulL A s.data.toList).toArray⟩
theorem addB_comm (a b : ByteArray) : addB a b = addB b a := by unfold addB; rw [W.addL_comm]
theorem u8_xor (x y : UInt8) : bits .xor .u8 (x.toNat : Int) (y.toNat : Int) = ((x ^^^ y).toNat : Int) := by
  have h1 : ∀ z : UInt8, (BitVec.ofInt 8 (z.toNat : Int)).toNat = z.toNat := fun z => by rw [BitVec.toNat_ofInt]; have := z.toNat_lt; omega
  have h2 := (x ^^^ y).toNat_lt
  show IntKind.u8.wrap ((BitVec.ofInt 8 (x.toNat : Int) ^^^ BitVec.ofInt 8 (y.toNat : Int)).toNat : Nat) = _
  rw [BitVec.toNat_xor, h1, h1, ← UInt8.toNat_xor]
  rw [UInt8.toNat_xor] at h2 ⊢
  simp [IntKind.wrap, IntKind.bits, IntKind.signed]
  omega
theorem get_list (s : ByteArray) (k : Nat) (h : k < s.size) : Go.PlainAid.bt s k = ((s.data.toList.getD k 0).toNat : Int) := by
  unfold Go.PlainAid.bt
  rw [dif_pos h]
  have : s.data.toList.getD k 0 = s[k] := by
    have hk : k < s.data.size := h
    rw [List.getD_eq_getElem?_getD, Array.getElem?_toList, Array.getElem?_eq_getElem hk]
    rfl
  rw [this]
set_option maxHeartbeats 1000000 in
theorem specAdd_long (a b : ByteArray) (w : World) (ha : a.size ≤ 1048576) (h : b.size ≤ a.size) :
    Calls Tryd.prog 74 #[.string a, .string b] w fun e w' => e = .returned (.string (addB a b)) ∧ Below w.heap.size w w' := by
  have hg := Go.PlainAid.get_bt b
  have hlt' : ¬ (a.size : Int) < (b.size : Int) := by omega
  obtain ⟨w1, c1, hcv, hrow, hb1⟩ := bytes_made w a
  have hla : a.data.toList.length = a.size := rfl
  have hlb : b.data.toList.length = b.size := rfl
  have HB1 : Hid (Below w.heap.size w w1) := hb1
  have HROW : Hid (BRow w1 w.heap.size a.data.toList) := hrow
  clear hb1 hrow
  go_enter Tryd.func74, Tryd.ntmps74
  go_wp2_with fail
  go_loopw [7] (fun i wr => ∃ k : Nat, i = .int .i64 k ∧ k ≤ b.size ∧ BRow wr w.heap.size (W.addTo a.data.toList b.data.toList k) ∧ Below w.heap.size w wr) (fun i _ => b.size - (intOf i).toNat)
  case atStart => exact ⟨0, rfl, Nat.zero_le _, by rw [W.addTo_zero]; exact HROW.out, HB1.out⟩
  case round =>
    obtain ⟨k, rfl, hk, hrw, hbl⟩ := hrel
    have hll := W.addTo_len (a := a.data.toList) (b := b.data.toList) (k := k) h
    by_cases hlt : k < b.size
    · have k0 : (0 : Int) ≤ (k : Int) := by omega
      have k1 : (k : Int) < (b.size : Int) := by omega
      have k2 : (k : Int) < (a.size : Int) := by omega
      have hst := W.addTo_step (a := a.data.toList) (b := b.data.toList) (k := k) h hlt
      have hc := hrw.2 k (by omega)
      rw [hst.1] at hc
      obtain ⟨hc1, hc2⟩ := hc
      have hgl := get_list b k hlt
      have hset := hrw.set k (a.data.toList.getD k 0 ^^^ b.data.toList.getD k 0) (by omega)
      rw [hst.2] at hset
      have hix := index_str b k hlt
      rw [hgl] at hix
      have hxo := u8_xor (a.data.toList.getD k 0) (b.data.toList.getD k 0)
      generalize a.data.toList.getD k 0 = x at *
      generalize b.data.toList.getD k 0 = y at *
      have HS : Hid (BRow (wr.setCell ⟨w.heap.size, k, none⟩ (.int .u8 ((x ^^^ y).toNat : Int))) w.heap.size (W.addTo a.data.toList b.data.toList (k + 1))) := hset
      have HBL : Hid (Below w.heap.size w wr) := hbl
      clear hset hst hgl hrw hbl hg
      generalize x ^^^ y = z at *
      go_wp2_with fail
      go_region
      all_goals go_wp2_with fail
      all_goals exact ⟨⟨k + 1, by go_num, by omega, HS.out, Below.drew (HBL.out.setCell (Nat.le_refl _) _)⟩, by simp [intOf]; omega⟩
    · have e : k = b.size := by omega
      subst e
      have hall := W.addTo_all (a := a.data.toList) (b := b.data.toList) h
      rw [hlb] at hall
      have hcv2 := brow_string (cap := c1) hrw
      rw [hall] at hcv2
      have hl2 : (W.addL a.data.toList b.data.toList).length = a.size := by rw [← hall]; exact hll
      rw [hl2] at hcv2
      have HBL : Hid (Below w.heap.size w wr) := hbl
      clear hrw hall hl2 hll hbl hg
      go_wp2_with fail
      go_ret
      exact ⟨rfl, HBL.out⟩
set_option maxHeartbeats 1000000 in
theorem specAdd_short (b a : ByteArray) (w : World) (ha : a.size ≤ 1048576) (h' : b.size < a.size) :
    Calls Tryd.prog 74 #[.string b, .string a] w fun e w' => e = .returned (.string (addB b a)) ∧ Below w.heap.size w w' := by
  rw [addB_comm b a]
  have h : b.size ≤ a.size := by omega
  have hg := Go.PlainAid.get_bt b
  have hlt' : (b.size : Int) < (a.size : Int) := by omega
  clear h'
  obtain ⟨w1, c1, hcv, hrow, hb1⟩ := bytes_made w a
  have hla : a.data.toList.length = a.size := rfl
  have hlb : b.data.toList.length = b.size := rfl
  have HB1 : Hid (Below w.heap.size w w1) := hb1
  have HROW : Hid (BRow w1 w.heap.size a.data.toList) := hrow
  clear hb1 hrow
  go_enter Tryd.func74, Tryd.ntmps74
  go_wp2_with fail
  go_loopw [7] (fun i wr => ∃ k : Nat, i = .int .i64 k ∧ k ≤ b.size ∧ BRow wr w.heap.size (W.addTo a.data.toList b.data.toList k) ∧ Below w.heap.size w wr) (fun i _ => b.size - (intOf i).toNat)
  case atStart => exact ⟨0, rfl, Nat.zero_le _, by rw [W.addTo_zero]; exact HROW.out, HB1.out⟩
  case round =>
    obtain ⟨k, rfl, hk, hrw, hbl⟩ := hrel
    have hll := W.addTo_len (a := a.data.toList) (b := b.data.toList) (k := k) h
    by_cases hlt : k < b.size
    · have k0 : (0 : Int) ≤ (k : Int) := by omega
      have k1 : (k : Int) < (b.size : Int) := by omega
      have k2 : (k : Int) < (a.size : Int) := by omega
      have hst := W.addTo_step (a := a.data.toList) (b := b.data.toList) (k := k) h hlt
      have hc := hrw.2 k (by omega)
      rw [hst.1] at hc
      obtain ⟨hc1, hc2⟩ := hc
      have hgl := get_list b k hlt
      have hset := hrw.set k (a.data.toList.getD k 0 ^^^ b.data.toList.getD k 0) (by omega)
      rw [hst.2] at hset
      have hix := index_str b k hlt
      rw [hgl] at hix
      have hxo := u8_xor (a.data.toList.getD k 0) (b.data.toList.getD k 0)
      generalize a.data.toList.getD k 0 = x at *
      generalize b.data.toList.getD k 0 = y at *
      have HS : Hid (BRow (wr.setCell ⟨w.heap.size, k, none⟩ (.int .u8 ((x ^^^ y).toNat : Int))) w.heap.size (W.addTo a.data.toList b.data.toList (k + 1))) := hset
      have HBL : Hid (Below w.heap.size w wr) := hbl
      clear hset hst hgl hrw hbl hg
      generalize x ^^^ y = z at *
      go_wp2_with fail
      go_region
      all_goals go_wp2_with fail
      all_goals exact ⟨⟨k + 1, by go_num, by omega, HS.out, Below.drew (HBL.out.setCell (Nat.le_refl _) _)⟩, by simp [intOf]; omega⟩
    · have e : k = b.size := by omega
      subst e
      have hall := W.addTo_all (a := a.data.toList) (b := b.data.toList) h
      rw [hlb] at hall
      have hcv2 := brow_string (cap := c1) hrw
      rw [hall] at hcv2
      have hl2 : (W.addL a.data.toList b.data.toList).length = a.size := by rw [← hall]; exact hll
      rw [hl2] at hcv2
      have HBL : Hid (Below w.heap.size w wr) := hbl
      clear hrw hall hl2 hll hbl hg
      go_wp2_with fail
      go_ret
      exact ⟨rfl, HBL.out⟩
theorem specAddText (a b : ByteArray) (w : World) (ha : a.size ≤ 1048576) (hb : b.size ≤ 1048576) : Calls Tryd.prog 74 #[.string a, .string b] w fun e w' => e = .returned (.string (addB a b)) ∧ Below w.heap.size w w' := by
  by_cases h : b.size ≤ a.size
  · exact specAdd_long a b w ha h
  · exact specAdd_short a b w hb (by omega)
theorem mul_word (A : B8) (c : UInt8) (x : Int) (h : A = g8 x) : W.gm (g8 x) (g8 (c.toNat : Int)) = (W.mulB A c).toBitVec ∧ IntKind.u8.wrap ((W.mulB A c).toBitVec.toNat : Int) = ((W.mulB A c).toNat : Int) ∧ IntKind.i64.wrap (c.toNat : Int) = (c.toNat : Int) := by
  have e : g8 (c.toNat : Int) = c.toBitVec := g8_back c.toBitVec
  have hl := (W.mulB A c).toNat_lt
  have hc := c.toNat_lt
  refine ⟨by rw [e, ← h]; rfl, ?_, IntWalk.i64_in _ ⟨by omega, by omega⟩⟩
  show IntKind.u8.wrap ((W.mulB A c).toNat : Int) = _
  simp [IntKind.wrap, IntKind.bits, IntKind.signed]
  omega
set_option maxHeartbeats 1000000 in
theorem specMulText (x : Int) (s : ByteArray) (w : World) (hs : s.size ≤ 1048576) : Calls Tryd.prog 81 #[.int .i64 x, .string s] w fun e w' => e = .returned (.string (mulT (g8 x) s)) ∧ Below w.heap.size w w' := by
  obtain ⟨A, hA⟩ : ∃ A, A = g8 x := ⟨_, rfl⟩
  rw [← hA]
  have HA : Hid (A = g8 x) := hA
  clear hA
  obtain ⟨w1, c1, hcv, hrow, hb1⟩ := bytes_made w s
  have HB1 : Hid (Below w.heap.size w w1) := hb1
  have HROW : Hid (BRow w1 w.heap.size s.data.toList) := hrow
  clear hb1 hrow
  go_enter Tryd.func81, Tryd.ntmps81
  go_wp2_with fail
  go_loopw [6] (fun i wr => ∃ k : Nat, i = .int .i64 k ∧ k ≤ s.size ∧ BRow wr w.heap.size (W.mulTo A s.data.toList k) ∧ Below w.heap.size w wr) (fun i _ => s.size - (intOf i).toNat)
  case atStart => exact ⟨0, rfl, Nat.zero_le _, by rw [W.mulTo_zero]; exact HROW.out, HB1.out⟩
  case round =>
    obtain ⟨k, rfl, hk, hrw, hbl⟩ := hrel
    have hll := W.mulTo_len A s.data.toList k
    have hls : s.data.toList.length = s.size := rfl
    by_cases hlt : k < s.size
    · have k0 : (0 : Int) ≤ (k : Int) := by omega
      have k1 : (k : Int) < (s.size : Int) := by omega
      have hst := W.mulTo_step A (l := s.data.toList) (k := k) hlt
      have hc := hrw.2 k (by omega)
      rw [hst.1] at hc
      obtain ⟨hc1, hc2⟩ := hc
      have hset := hrw.set k (W.mulB A (s.data.toList.getD k 0)) (by omega)
      rw [hst.2] at hset
      generalize s.data.toList.getD k 0 = c at *
      obtain ⟨m1, m2, m3⟩ := mul_word A c x HA.out
      have hcall := specMulG x (c.toNat : Int)
      rw [m1] at hcall
      have HS : Hid (BRow (wr.setCell ⟨w.heap.size, k, none⟩ (.int .u8 ((W.mulB A c).toNat : Int))) w.heap.size (W.mulTo A s.data.toList (k + 1))) := hset
      have HBL : Hid (Below w.heap.size w wr) := hbl
      clear hset hst hrw hbl m1
      generalize (W.mulB A c).toBitVec = z at *
      generalize W.mulB A c = y at *
      go_wp2_with fail
      refine (hcall _).mono ?_
      clear hcall
      rintro e w2 ⟨rfl, rfl⟩
      go_wp2_with fail
      go_roundw
      case rel => exact ⟨k + 1, by go_num, by omega, HS.out, HBL.out.setCell (Nat.le_refl _) _⟩
      case measure => simp [intOf]; omega
    · have e : k = s.size := by omega
      subst e
      have hall := W.mulTo_all A s.data.toList (k := s.size) (by omega)
      have hcv2 := brow_string (cap := c1) hrw
      rw [hall, W.mulL_len, hls] at hcv2
      have HBL : Hid (Below w.heap.size w wr) := hbl
      clear hrw hall hll hbl
      go_wp2_with fail
      go_ret
      exact ⟨rfl, HBL.out⟩
theorem addB_size (a b : ByteArray) : (addB a b).size = max a.size b.size := by
  unfold addB
  show (W.addL a.data.toList b.data.toList).toArray.size = _
  rw [List.size_toArray, W.addL_len]
  rfl
theorem mulT_size (A : B8) (s : ByteArray) : (mulT A s).size = s.size := by
  unfold mulT
  show (W.mulL A s.data.toList).toArray.size = _
  rw [List.size_toArray, W.mulL_len]
  rfl
theorem addB_twice (a b : ByteArray) : (addB (addB a b) b).extract 0 a.size = a := by
  obtain ⟨r, hr⟩ := W.addL_twice a.data.toList b.data.toList
  apply Go.WideShapes.bytes_inj
  have e : (addB (addB a b) b).data.toList = a.data.toList ++ r := by unfold addB; simpa using hr
  simp only [ByteArray.data_extract, Array.toList_extract]
  rw [e]
  simp only [List.extract_eq_take_drop, List.drop_zero]
  exact List.take_left' rfl
theorem mulT_add (A : B8) (a b : ByteArray) : addB (mulT A a) (mulT A b) = mulT A (addB a b) := by
  unfold addB mulT
  simp only [W.mulL_add]
theorem mulT_one (a : ByteArray) : mulT 1#8 a = a := by
  unfold mulT
  rw [W.mulL_one]
end Go.Proofs.YtoaifodmjkhiiaaDoor
/- MatK: The walk of the model's ApplyM. -/
namespace Go.Proofs.YtoaifodmjkhiiaaDoor
set_option maxRecDepth 100000
open Go.RowKit
open W (B8 Mx)
attribute [local go_sem ↓] Go.wp_at_zero Go.wp_at_succ
attribute [local irreducible] W.gm W.xs W.mm W.gi mx addB mulT

/-- The sum of texts so many times, of the first k. -/
def accB (row : List Int) (L : List ByteArray) : Nat → ByteArray
  | 0 => ⟨#[]⟩
  | k + 1 => addB (accB row L k) (mulT (g8 (row.getD k 0)) (L.getD k ⟨#[]⟩))
/-- ApplyM, as it is answered. -/
def appX (X : List (List Int)) (L : List ByteArray) : List ByteArray := if matOk X = true ∧ colsOf X = L.length then X.map fun row => accB row L L.length else []
theorem accB_size (row : List Int) (L : List ByteArray) {n : Nat} (h : ∀ x ∈ L, x.size ≤ n) : ∀ k, (accB row L k).size ≤ n
  | 0 => Nat.zero_le _
  | k + 1 => by
    unfold accB
    rw [addB_size, mulT_size]
    have h1 := accB_size row L h k
    have h2 : (L.getD k ⟨#[]⟩).size ≤ n := by
      by_cases hk : k < L.length
      · exact h _ (by simp [List.getD, hk])
      · rw [List.getD_eq_getElem?_getD, List.getElem?_eq_none (by omega)]; exact Nat.zero_le _
    omega
theorem appX_no {X : List (List Int)} {L : List ByteArray} (h : ¬ (matOk X = true ∧ colsOf X = L.length)) : appX X L = [] := if_neg h
theorem cell_in {w : World} {p : Addr} {v : Value} (h : w.cell? p = some v) : p.block < w.heap.size := by
  unfold World.cell? at h
  cases hb : w.heap[p.block]? with
  | none => rw [hb] at h; simp at h
  | some o => exact (Array.getElem?_eq_some_iff.1 hb).1
theorem cells3 {w w' : World} {p q r : Addr} {a b c : Value} (h : w.cell? p = some a ∧ w.cell? q = some b ∧ w.cell? r = some c) (hb : Below w.heap.size w w') : w'.cell? p = some a ∧ w'.cell? q = some b ∧ w'.cell? r = some c :=
  ⟨(hb.cell (p := p) (cell_in h.1)).trans h.1, (hb.cell (p := q) (cell_in h.2.1)).trans h.2.1, (hb.cell (p := r) (cell_in h.2.2)).trans h.2.2⟩
set_option maxRecDepth 100000 in
set_option maxHeartbeats 4000000 in
theorem applyM_walk (X : List (List Int)) (L : List ByteArray) (n m b1 o1 b2 o2 cap1 cap2 : Nat) (w : World) (hn1 : 1 ≤ n) (hn8 : n ≤ 8) (hm1 : 1 ≤ m) (hm8 : m ≤ 8) (hxl : X.length = n) (hll : L.length = m)
    (hR : b1 < w.heap.size ∧ ∀ i, i < n → ∃ b' o' cp, w.cell? ⟨b1, o1 + i, none⟩ = some (.slice (some ⟨b', o', none⟩) m cp) ∧ b' < w.heap.size ∧ ∀ j, j < m → w.cell? ⟨b', o' + j, none⟩ = some (.int .i64 ((X.getD i []).getD j 0)))
    (hU : b2 < w.heap.size ∧ ∀ j, j < m → w.cell? ⟨b2, o2 + j, none⟩ = some (.string (L.getD j ⟨#[]⟩))) (hf : ∀ x ∈ L, x.size ≤ 1048576)
    (hc1 : ∀ W : World, Below w.heap.size w W → Calls Tryd.prog 80 #[.slice (some ⟨b1, o1, none⟩) n cap1] W fun e w' => e = .returned (.bool true) ∧ Below W.heap.size W w') :
    Calls Tryd.prog 75 #[.slice (some ⟨b1, o1, none⟩) n cap1, .slice (some ⟨b2, o2, none⟩) m cap2] w fun e w' => SPost (X.map fun row => accB row L L.length) w e w' := by
  obtain ⟨i0, hi0, hz0, hz1, hz2⟩ := info_parts infoTextG
  have hal : Below w.heap.size w (w.alloc (.cells #[] 9)) := (Below.refl _ _).alloc (Nat.le_refl _) _
  have HC1 : Hid _ := hc1
  have HR : Shut (b1 < w.heap.size ∧ ∀ i, i < n → ∃ b' o' cp, w.cell? ⟨b1, o1 + i, none⟩ = some (.slice (some ⟨b', o', none⟩) m cp) ∧ b' < w.heap.size ∧ ∀ j, j < m → w.cell? ⟨b', o' + j, none⟩ = some (.int .i64 ((X.getD i []).getD j 0))) := ⟨hR⟩
  have HU : Shut (b2 < w.heap.size ∧ ∀ j, j < m → w.cell? ⟨b2, o2 + j, none⟩ = some (.string (L.getD j ⟨#[]⟩))) := ⟨hU⟩
  have HF : Shut (∀ x ∈ L, x.size ≤ 1048576) := ⟨hf⟩
  have HX : Shut (X.length = n ∧ L.length = m) := ⟨hxl, hll⟩
  have hne : ((m : Int) != (m : Int)) = false := by simp
  have n0 : (0 : Int) < (n : Int) := by omega
  clear hc1 hR hU hf hxl hll
  go_enter Tryd.func75, Tryd.ntmps75
  go_wp2_with fail
  refine (HC1.out _ hal).mono ?_
  rintro e w1 ⟨rfl, hb1⟩
  have hbw1 : Below w.heap.size w w1 := hal.trans (hb1.mono hal.size)
  obtain ⟨br, or, cr, d0', lr, _⟩ := HR.out.2 0 (by omega)
  have d0 : w1.cell? ⟨b1, o1, none⟩ = some (.slice (some ⟨br, or, none⟩) m cr) := (hbw1.cell (p := ⟨b1, o1 + 0, none⟩) HR.out.1).trans d0'
  have HOWN : Shut (w1.ownsRow w.heap.size 9 1 (.slice (some ⟨w.heap.size, 0, none⟩) 0 0) 0 []) := ⟨(World.ownsRow_made w #[] 0 (Nat.le_refl _) (by decide) rfl).kept (row := none) ⟨hb1.os, hb1.tape, hb1.output, hb1.size, fun k hk _ => hb1.block k hk⟩ (Classical.em _)⟩
  have HB1 : Shut (Below w.heap.size w w1) := ⟨hbw1⟩
  clear hb1 hbw1 HC1 d0' hal
  go_wp2_with fail
  go_loopw [5, 6] (fun v i wr => ∃ (k : Nat) (vv : Value), vv = v ∧ i = .int .i64 k ∧ k ≤ n ∧ Shut (wr.ownsRow w.heap.size 9 1 vv k (tv ((X.map fun row => accB row L L.length).take k))) ∧ Shut (Below w.heap.size w wr)) (fun _ i _ => n - (intOf i).toNat)
  case atStart => exact ⟨0, _, rfl, rfl, by omega, HOWN, HB1⟩
  case round =>
    clear HOWN HB1 d0 lr
    obtain ⟨k, v, rfl, rfl, hk, hown, hb⟩ := hrel
    obtain ⟨wo, rfl⟩ : ∃ wo, wo = wr := ⟨_, rfl⟩
    by_cases hlt : k < n
    · have hlt' : (k : Int) < (n : Int) := by omega
      have k0 : (0 : Int) ≤ (k : Int) := by omega
      obtain ⟨r, hre⟩ : ∃ r, r = X.getD k [] := ⟨_, rfl⟩
      have HRE : Shut (r = X.getD k []) := ⟨hre⟩
      clear hre
      go_wp2_with fail
      go_loopw [7, 8] (fun s j wq => ∃ (t : Nat), j = .int .i64 t ∧ t ≤ m ∧ s = .string (accB r L t) ∧ Shut (wq.ownsRow w.heap.size 9 1 v k (tv ((X.map fun row => accB row L L.length).take k))) ∧ Shut (Below w.heap.size w wq)) (fun _ j _ => m - (intOf j).toNat)
      case atStart => exact ⟨0, rfl, by omega, rfl, hown, hb⟩
      case round =>
        clear hown hb
        obtain ⟨t, rfl, ht, rfl, hown, hb⟩ := hrel
        obtain ⟨wi, rfl⟩ : ∃ wi, wi = wr := ⟨_, rfl⟩
        by_cases htl : t < m
        · have htl' : (t : Int) < (m : Int) := by omega
          have t0 : (0 : Int) ≤ (t : Int) := by omega
          obtain ⟨b', o', cp, e1, l1, e2⟩ := HR.out.2 k hlt
          have d1 := (hb.out.cell (p := ⟨b1, o1 + k, none⟩) HR.out.1).trans e1
          have d2 := (hb.out.cell (p := ⟨b', o' + t, none⟩) l1).trans (e2 t htl)
          have d3 := (hb.out.cell (p := ⟨b2, o2 + t, none⟩) HU.out.1).trans (HU.out.2 t htl)
          rw [← HRE.out] at d2
          have hsz := hb.out.size
          have l2 : b1 < wi.heap.size := Nat.lt_of_lt_of_le HR.out.1 hsz
          have l3 : b2 < wi.heap.size := Nat.lt_of_lt_of_le HU.out.1 hsz
          have l4 : b' < wi.heap.size := Nat.lt_of_lt_of_le l1 hsz
          have hst : accB r L (t + 1) = addB (accB r L t) (mulT (g8 (r.getD t 0)) (L.getD t ⟨#[]⟩)) := rfl
          have hz1 := accB_size r L HF.out t
          have hz2 := HF.out (L.getD t ⟨#[]⟩) (by have := HX.out.2; simp [List.getD, show t < L.length by omega])
          have hz3 := mulT_size (g8 (r.getD t 0)) (L.getD t ⟨#[]⟩)
          have HM := Shut.mk fun W => specMulText (r.getD t 0) (L.getD t ⟨#[]⟩) W hz2
          have HA := Shut.mk fun W => specAddText (accB r L t) (mulT (g8 (r.getD t 0)) (L.getD t ⟨#[]⟩)) W hz1 (by omega)
          generalize mulT (g8 (r.getD t 0)) (L.getD t ⟨#[]⟩) = M at HM HA hst
          generalize r.getD t 0 = x at *
          generalize L.getD t ⟨#[]⟩ = u at *
          have HST := Shut.mk hst
          clear hst hz1 hz2 hz3 e1 e2
          go_wp2_with fail
          have tokA : True := trivial
          have tokB : True := trivial
          go_region_held3 (fun w' => w'.cell? ⟨b1, o1 + k, none⟩ = some (.slice (some ⟨b', o', none⟩) m cp) ∧ w'.cell? ⟨b', o' + t, none⟩ = some (.int .i64 x) ∧ w'.cell? ⟨b2, o2 + t, none⟩ = some (.string u))
            (first | assumption | (exact cells3 (by assumption) hbB) | (exact cells3 (by assumption) hbA) | go_keep)
            (first
              | (go_at_call 81; have _t := tokA; refine (HM.out _).mono ?_; rintro e w6 ⟨rfl, hbA⟩; clear _t tokA)
              | (go_at_call 74; have _t := tokB; refine (HA.out _).mono ?_; rintro e w7 ⟨rfl, hbB⟩; clear _t tokB))
          all_goals
            have hbx : Below wi.heap.size wi w7 := ((Below.drew (Below.refl wi.heap.size wi)).trans hbA).trans (hbB.mono hbA.size)
            have HO := Shut.mk (hown.out.kept (row := none) ⟨hbx.os, hbx.tape, hbx.output, hbx.size, fun k hk _ => hbx.block k hk⟩ (Classical.em _))
            have HB2 := Shut.mk (hb.out.trans (hbx.mono hb.out.size))
            clear hbx hbA hbB hown hb
            go_wp2_with fail
            go_roundw
            case rel => exact ⟨t + 1, by go_num, by omega, by rw [HST.out], HO, HB2⟩
            case measure => simp [intOf]; omega
        · have e : t = m := by omega
          have htl' : ¬ (t : Int) < (m : Int) := by omega
          have hsz := hb.out.size
          have hown' := hown.out
          have HST : Shut (tv ((X.map fun row => accB row L L.length).take (k + 1)) = tv ((X.map fun row => accB row L L.length).take k) ++ [.string (accB r L t)]) := ⟨by
            have hkx : k < X.length := by have := HX.out.1; omega
            rw [List.take_succ_eq_append_getElem (by rw [List.length_map]; exact hkx), ← tv_snoc, List.getElem_map, HRE.out, e, HX.out.2]
            congr 3
            simp [List.getD, hkx]⟩
          clear e hown
          generalize accB r L t = T at *
          go_wp2_with (at_builtin; refine wpList_append_own _ rfl _ _ 24 rfl w.heap.size 9 i0 (.string ⟨#[]⟩) 1 16 Tryd.underlying24 hi0 hz0 hz1 hz2 rfl (by decide) _ _ _ rfl (hown'.alloc _) ⟨wi.heap.size, 0, none⟩ 1 1 [.string T] rfl rfl (cell_one_new _ _ _) ?c2 ?c3 ?c4 ?c5 ?_)
          case c2 => first | rfl | (intro u hu; simp at hu; subst hu; rfl)
          case c3 => unfold maxLen; omega
          case c4 => omega
          case c5 => first | omega | (simp; omega)
          intro v' w8 hown8 hgrow _
          rw [← HST.out] at hown8
          have hb8 : Below w.heap.size w w8 := (hb.out.alloc hsz _).grown hgrow (by simp; omega) (fun j hj => (hown'.lt j hj).1)
          have HO8 := Shut.mk hown8
          have HB8 := Shut.mk hb8
          clear hgrow hown8 hb8 hown' hb HST
          go_wp2_with fail
          go_roundw
          case rel => exact ⟨k + 1, v', rfl, by go_num, by omega, HO8, HB8⟩
          case measure => simp [intOf]; omega
    · have e : k = n := by omega
      have hlt' : ¬ (k : Int) < (n : Int) := by omega
      have hfin : SAns wo v (X.map fun row => accB row L L.length) w.heap.size wo.heap.size := own_sans (n := k) (by rw [List.length_map]; have := HX.out.1; omega) (by
        have h := hown.out
        rw [List.take_of_length_le (by rw [List.length_map]; have := HX.out.1; omega)] at h
        exact h)
      have HFIN := Shut.mk hfin
      clear hfin hown e
      go_wp2_with fail
      go_ret
      exact ⟨v, rfl, HFIN.out, hb.out⟩
/-- What the walk wants of a matrix that is right, and of units. -/
theorem rows_in {w : World} {a : Option Addr} {ss : List SR} {lo hi : Nat} {X : List (List Int)} (h : MR w a ss lo hi) (hX : rws ss = X) (hok : matOk X = true) :
    ∃ b off, a = some ⟨b, off, none⟩ ∧ b < w.heap.size ∧ ∀ i, i < X.length → ∃ b' o' cp, w.cell? ⟨b, off + i, none⟩ = some (.slice (some ⟨b', o', none⟩) (colsOf X) cp) ∧ b' < w.heap.size ∧ ∀ j, j < colsOf X → w.cell? ⟨b', o' + j, none⟩ = some (.int .i64 ((X.getD i []).getD j 0)) := by
  have hl : ss.length = X.length := by rw [← hX, rws_len]
  obtain ⟨h1, h2, h3⟩ := matOk_iff hok
  obtain ⟨b, off, e, hb, hc⟩ := h.at (by omega)
  refine ⟨b, off, e, hb, fun i hi => ?_⟩
  have his : i < ss.length := by omega
  have hget : X.getD i [] = ss[i].row := by rw [← hX, List.getD_eq_getElem?_getD]; simp [rws, his]
  have hmem : ss[i].row ∈ X := by rw [← hX]; exact List.mem_map.2 ⟨ss[i], List.getElem_mem his, rfl⟩
  have hlen : ss[i].row.length = colsOf X := (h3 _ hmem).1
  obtain ⟨b', o', e', hb', hc'⟩ := crow_int (h.2 _ (List.getElem_mem his)).crow (by omega)
  have := hc i his
  unfold srv at this
  rw [hlen, e'] at this
  exact ⟨b', o', ss[i].cap, this, hb', fun j hj => by rw [hget]; exact hc' j (by omega)⟩
theorem units_in {w : World} {a : Option Addr} {L : List ByteArray} {lo hi : Nat} (h : RRow w a (tv L) lo hi) (hp : 0 < L.length) : ∃ b off, a = some ⟨b, off, none⟩ ∧ b < w.heap.size ∧ ∀ j, j < L.length → w.cell? ⟨b, off + j, none⟩ = some (.string (L.getD j ⟨#[]⟩)) := by
  obtain ⟨b, off, e, _, _, hb, hc⟩ := h (by rw [tv_len]; exact hp)
  exact ⟨b, off, e, hb, fun j hj => hc j _ (tv_get L j hj)⟩
set_option maxRecDepth 100000 in
set_option maxHeartbeats 4000000 in
theorem specApplyM {w : World} {v u : Value} {X : List (List Int)} {L : List ByteArray} {lo hi lo' hi' : Nat} (hs : MSee w v X lo hi) (ht : SSee w u L lo' hi') (hf : MFit X) (hg : TFit L) : Calls Tryd.prog 75 #[v, u] w fun e w' => SPost (appX X L) w e w' := by
  have hs' := hs
  obtain ⟨a1, cap1, ss, rfl, hr1, hm1⟩ := hs
  obtain ⟨a2, cap2, rfl, hm2⟩ := ht
  have hl1 : ss.length = X.length := by rw [← hr1, rws_len]
  rw [hl1] at hs' ⊢
  have hal : Below w.heap.size w (w.alloc (.cells #[] 9)) := (Below.refl _ _).alloc (Nat.le_refl _) _
  have hc1 := fun W (hW : Below w.heap.size w W) => specMatrixOk (hs'.below hW) hf
  cases h1 : matOk X with
  | false =>
    have HX : Hid (appX X L = []) := appX_no (fun h => by rw [h1] at h; cases h.1)
    rw [h1] at hc1
    have HC1 : Hid _ := hc1
    clear hc1 hm1 hm2 h1 hs' hf hg
    go_enter Tryd.func75, Tryd.ntmps75
    go_wp2_with fail
    refine (HC1.out _ hal).mono ?_
    rintro e w1 ⟨rfl, hb1⟩
    have HB : Hid (Below w.heap.size w w1) := hal.trans (hb1.mono hal.size)
    clear hb1
    go_wp2_with fail
    go_ret
    exact ⟨_, rfl, by rw [HX.out]; exact SAns.empty _ _ _ _ _, HB.out⟩
  | true =>
    rw [h1] at hc1
    obtain ⟨⟨hx1, hx8⟩, ⟨hcx1, hcx8⟩, _⟩ := matOk_iff h1
    obtain ⟨b1, o1, rfl, lb1, hrow1⟩ := rows_in hm1 hr1 h1
    by_cases h3 : colsOf X = L.length
    · obtain ⟨b2, o2, rfl, lb2, hrow2⟩ := units_in hm2 (by omega)
      have hX : appX X L = X.map fun row => accB row L L.length := if_pos ⟨h1, h3⟩
      rw [hX]
      rw [h3] at hrow1
      exact applyM_walk X L X.length L.length b1 o1 b2 o2 cap1 cap2 w hx1 hx8 (by omega) (by omega) rfl rfl ⟨lb1, hrow1⟩ ⟨lb2, hrow2⟩ (fun x hx => by have := tsum_mem hx; unfold TFit at hg; omega) hc1
    · have HX : Hid (appX X L = []) := appX_no (fun h => h3 h.2)
      obtain ⟨br, or, cr, d0', lr, _⟩ := hrow1 0 (by omega)
      have HD0 : Hid (∀ W : World, Below w.heap.size w W → W.cell? ⟨b1, o1, none⟩ = some (.slice (some ⟨br, or, none⟩) (colsOf X) cr)) := fun W hW => (hW.cell (p := ⟨b1, o1 + 0, none⟩) lb1).trans d0'
      have HC1 : Hid (∀ W : World, Below w.heap.size w W → Calls Tryd.prog 80 #[.slice (some ⟨b1, o1, none⟩) X.length cap1] W fun e w' => e = .returned (.bool true) ∧ Below W.heap.size W w') := hc1
      have hne : ((colsOf X : Int) != (L.length : Int)) = true := by rw [bne_iff_ne]; omega
      have n0 : (0 : Int) < (X.length : Int) := by omega
      clear hc1 hm1 hm2 hs' d0' lr hrow1 h1 h3 hr1 hl1 hf hg
      go_enter Tryd.func75, Tryd.ntmps75
      go_wp2_with fail
      refine (HC1.out _ hal).mono ?_
      rintro e w1 ⟨rfl, hb1⟩
      have hbw1 : Below w.heap.size w w1 := hal.trans (hb1.mono hal.size)
      have d0 := HD0.out w1 hbw1
      have HB : Hid (Below w.heap.size w w1) := hbw1
      clear hb1 hbw1
      go_wp2_with fail
      go_ret
      exact ⟨_, rfl, by rw [HX.out]; exact SAns.empty _ _ _ _ _, HB.out⟩
end Go.Proofs.YtoaifodmjkhiiaaDoor
/- CodA: Units and sums, plain: the schemas, their codes, what is encoded, decoded and built again. Nothing of the program is read here. -/
namespace Go.Proofs.YtoaifodmjkhiiaaDoor
set_option maxRecDepth 100000
open Go.RowKit
open W (B8 Mx)

/-- The row of a sum. -/
def codeRow (k i : Nat) : List Int := (List.range k).map fun j => ((W.gi (g8 (((k + i) ^^^ j : Nat) : Int))).toNat : Int)
def codeX (s : Int) : List (List Int) := if schOk s = true then (List.range (schK s)).map (oneRow (schK s)) ++ (List.range (schM s)).map (codeRow (schK s)) else []
theorem codeX_no {s : Int} (h : schOk s = false) : codeX s = [] := by unfold codeX; rw [if_neg (by rw [h]; decide)]
theorem codeX_yes {s : Int} (h : schOk s = true) : codeX s = (List.range (schK s)).map (oneRow (schK s)) ++ (List.range (schM s)).map (codeRow (schK s)) := by unfold codeX; rw [if_pos h]
theorem codeRow_len (k i : Nat) : (codeRow k i).length = k := by simp [codeRow]
theorem codeX_len {s : Int} (h : schOk s = true) : (codeX s).length = schK s + schM s := by rw [codeX_yes h]; simp
theorem codeX_rows {s : Int} (h : schOk s = true) : ∀ r ∈ codeX s, r.length = schK s ∧ ∀ y ∈ r, 0 ≤ y ∧ y ≤ 255 := fun r hr => by
  rw [codeX_yes h] at hr
  rcases List.mem_append.1 hr with q | q
  · obtain ⟨i, _, rfl⟩ := List.mem_map.1 q
    refine ⟨oneRow_len _ _, fun y hy => ?_⟩
    obtain ⟨j, _, rfl⟩ := List.mem_map.1 hy
    split <;> omega
  · obtain ⟨i, _, rfl⟩ := List.mem_map.1 q
    refine ⟨codeRow_len _ _, fun y hy => ?_⟩
    obtain ⟨j, _, rfl⟩ := List.mem_map.1 hy
    exact b8_num _
theorem codeX_at {s : Int} (h : schOk s = true) {i : Nat} (hi : i < schK s + schM s) : ((codeX s).getD i []).length = schK s ∧ (codeX s).getD i [] ∈ codeX s := by
  have hi' : i < (codeX s).length := by rw [codeX_len h]; exact hi
  have e : (codeX s).getD i [] = (codeX s)[i] := by simp [List.getD, hi']
  rw [e]
  exact ⟨(codeX_rows h _ (List.getElem_mem hi')).1, List.getElem_mem hi'⟩
/-- Rows of a code, a few of them, are a matrix that is right. -/
theorem rows_ok {s : Int} (h : schOk s = true) {X : List (List Int)} (hX : ∀ r ∈ X, r ∈ codeX s) (h1 : 1 ≤ X.length) (h8 : X.length ≤ 8) : matOk X = true ∧ colsOf X = schK s := by
  obtain ⟨b1, b2, _, _⟩ := sch_bounds h
  have hc : colsOf X = schK s := by
    cases X with
    | nil => simp at h1
    | cons x X => exact (codeX_rows h x (hX x (by simp))).1
  refine ⟨?_, hc⟩
  unfold matOk
  rw [show (X.headD []).length = colsOf X from rfl, hc, decide_eq_true (show (1 : Int) ≤ (X.length : Int) by omega), decide_eq_true (show (X.length : Int) ≤ 8 by omega), Bool.and_self, Bool.and_true, List.all_eq_true]
  intro x hx
  obtain ⟨q1, q2⟩ := codeX_rows h x (hX x hx)
  unfold rowOk numOk
  rw [decide_eq_true q1, q1, decide_eq_true (show (1 : Int) ≤ (schK s : Int) by omega), decide_eq_true (show (schK s : Int) ≤ 8 by omega), Bool.and_self, Bool.and_self, Bool.true_and, List.all_eq_true]
  intro y hy
  obtain ⟨y1, y2⟩ := q2 y hy
  rw [decide_eq_true y1, decide_eq_true y2]; rfl
theorem codeX_ok {s : Int} (h : schOk s = true) : matOk (codeX s) = true ∧ colsOf (codeX s) = schK s := by
  obtain ⟨b1, b2, b3, b4⟩ := sch_bounds h
  exact rows_ok h (fun _ h => h) (by rw [codeX_len h]; omega) (by rw [codeX_len h]; omega)
/-- The longest of some texts. -/
def mostL : List ByteArray → Nat
  | [] => 0
  | x :: L => max x.size (mostL L)
theorem mostL_le {L : List ByteArray} {x : ByteArray} (h : x ∈ L) : x.size ≤ mostL L := by
  induction L with
  | nil => simp at h
  | cons y L ih =>
    rcases List.mem_cons.1 h with rfl | h
    · simp only [mostL]; omega
    · have := ih h; simp only [mostL]; omega
theorem mostL_snoc (L : List ByteArray) (x : ByteArray) : mostL (L ++ [x]) = max (mostL L) x.size := by
  induction L with
  | nil => simp [mostL]
  | cons y L ih => simp only [List.cons_append, mostL, ih]; omega
theorem mostL_all {L : List ByteArray} {n : Nat} (h : ∀ x ∈ L, x.size ≤ n) : mostL L ≤ n := by
  induction L with
  | nil => simp [mostL]
  | cons y L ih => simp only [mostL]; have h1 := h y (by simp); have h2 := ih (fun x hx => h x (by simp [hx])); omega
def zerosB (n : Nat) : ByteArray := ⟨(List.replicate n (0 : UInt8)).toArray⟩
theorem zerosB_size (n : Nat) : (zerosB n).size = n := by simp [zerosB, ByteArray.size]
/-- Units, each filled to the length of the longest one. -/
def fillL (L : List ByteArray) : List ByteArray := L.map fun x => addB x (zerosB (mostL L))
theorem fillL_len (L : List ByteArray) : (fillL L).length = L.length := by simp [fillL]
def shortL (L : List ByteArray) : Bool := L.all fun x => decide (x.size ≤ 200)
/-- Encode, as it is answered. -/
def encX (s : Int) (L : List ByteArray) : List ByteArray × Bool := if schOk s = true ∧ L.length = schK s ∧ shortL L = true then (appX (codeX s) (fillL L), true) else ([], false)
theorem encX_no {s : Int} {L : List ByteArray} (h : ¬ (schOk s = true ∧ L.length = schK s ∧ shortL L = true)) : encX s L = ([], false) := if_neg h
theorem encX_yes {s : Int} {L : List ByteArray} (h : schOk s = true ∧ L.length = schK s ∧ shortL L = true) : encX s L = (appX (codeX s) (fillL L), true) := if_pos h
/-- The places that are there. -/
def thereI (H : List Bool) (n : Nat) : List Nat := (List.range n).filter fun i => H.getD i false
theorem thereI_succ (H : List Bool) (n : Nat) : thereI H (n + 1) = thereI H n ++ if H.getD n false = true then [n] else [] := by
  unfold thereI
  rw [List.range_succ, List.filter_append]
  congr 1
  by_cases h : H.getD n false = true
  · rw [if_pos h, List.filter_cons_of_pos (p := fun i => H.getD i false) h]; rfl
  · rw [if_neg h, List.filter_cons_of_neg (p := fun i => H.getD i false) h]; rfl
theorem thereI_mem {H : List Bool} {n i : Nat} : i ∈ thereI H n ↔ i < n ∧ H.getD i false = true := by
  unfold thereI; rw [List.mem_filter, List.mem_range]
/-- Texts that are there are of one length. -/
def OneLen (L : List ByteArray) (H : List Bool) (n : Nat) : Prop := ∀ i ∈ thereI H n, ∀ j ∈ thereI H n, (L.getD i ⟨#[]⟩).size = (L.getD j ⟨#[]⟩).size
def pickI (s : Int) (H : List Bool) (n : Nat) : List Nat := (thereI H n).take (schK s)
def rowsP (s : Int) (I : List Nat) : List (List Int) := I.map fun i => (codeX s).getD i []
def unitsP (L : List ByteArray) (I : List Nat) : List ByteArray := I.map fun i => L.getD i ⟨#[]⟩
def DecOk (s : Int) (L : List ByteArray) (H : List Bool) : Prop := schOk s = true ∧ L.length = schK s + schM s ∧ H.length = schK s + schM s ∧ OneLen L H H.length ∧ schK s ≤ (thereI H H.length).length
open Classical in
/-- Decode, as it is answered. -/
noncomputable def decX (s : Int) (L : List ByteArray) (H : List Bool) : List ByteArray × Bool :=
  if DecOk s L H ∧ (invX (rowsP s (pickI s H H.length))).2 = true then (appX (invX (rowsP s (pickI s H H.length))).1 (unitsP L (pickI s H H.length)), true) else ([], false)
theorem decX_no {s : Int} {L : List ByteArray} {H : List Bool} (h : ¬ (DecOk s L H ∧ (invX (rowsP s (pickI s H H.length))).2 = true)) : decX s L H = ([], false) := by unfold decX; rw [if_neg h]
theorem decX_yes {s : Int} {L : List ByteArray} {H : List Bool} (h : DecOk s L H) (h2 : (invX (rowsP s (pickI s H H.length))).2 = true) : decX s L H = (appX (invX (rowsP s (pickI s H H.length))).1 (unitsP L (pickI s H H.length)), true) := by unfold decX; rw [if_pos ⟨h, h2⟩]
/-- Rebuild, as it is answered. -/
noncomputable def rebX (s : Int) (L : List ByteArray) (H : List Bool) : List ByteArray × Bool := if (decX s L H).2 = true then encX s (decX s L H).1 else ([], false)
/-- What such an answer is. -/
def TPost (R : List ByteArray × Bool) (w : World) (e : Ending) (w' : World) : Prop := ∃ v, e = .returned (.tuple #[v, .bool R.2]) ∧ SAns w' v R.1 w.heap.size w'.heap.size ∧ Below w.heap.size w w'
theorem tpost_no {R : List ByteArray × Bool} {w w' : World} {e : Ending} {a : Option Addr} {cap : Nat} (h : R = ([], false)) (he : e = .returned (.tuple #[.slice a 0 cap, .bool false])) (hb : Below w.heap.size w w') : TPost R w e w' := by
  unfold TPost
  rw [h]
  exact ⟨_, he, SAns.empty _ _ _ _ _, hb⟩
end Go.Proofs.YtoaifodmjkhiiaaDoor
