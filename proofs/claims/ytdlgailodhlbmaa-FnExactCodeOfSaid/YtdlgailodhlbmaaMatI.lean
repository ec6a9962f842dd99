/- An elimination: what is known of its two rows of rows as matrices, from step to step; and what its end says. -/
import Derived.Test.YtdlgailodhlbmaaMatG
namespace Go.Proofs.Ytdlgailodhlbmaa
open Go.RowKit
open W (B8 Mx)
attribute [local irreducible] W.gm W.xs W.mm

theorem mx_is (X : List (List Int)) (i j : Nat) : mx X i j = g8 ((X.getD i []).getD j 0) := rfl
/-- No row of the second one lies where a new one does. -/
theorem Two.newB {w wr : World} {ga gb g : Nat} {ssA ssB : List SR} (h : Two w wr ga gb ssA ssB) (hg : wr.heap.size ≤ g) : ∀ k, k < ssB.length → (ssB.getD k default).loc ≠ some ⟨g, 0, none⟩ := by
  intro k hk e
  have e0 : ssB.getD k default = ssB[k] := by simp [List.getD, hk]
  obtain ⟨b, eb, _, _, _, q, _⟩ := h.rowB ssB[k] (List.getElem_mem hk)
  rw [e0, eb] at e
  have : b = g := congrArg Addr.block (Option.some.inj e)
  have := q.1
  omega
/-- The cell of a row may be written. -/
theorem Two.freeA {w wr : World} {ga gb : Nat} {ssA ssB : List SR} (h : Two w wr ga gb ssA ssB) {i : Nat} (hi : i < ssA.length) : ∃ v, wr.cell? ⟨ga, i, none⟩ = some v ∧ wr.frozen? ⟨ga, i, none⟩ = false := ⟨_, h.outA.2 i _ (svs_get ssA i hi)⟩
theorem Two.freeB {w wr : World} {ga gb : Nat} {ssA ssB : List SR} (h : Two w wr ga gb ssA ssB) {i : Nat} (hi : i < ssB.length) : ∃ v, wr.cell? ⟨gb, i, none⟩ = some v ∧ wr.frozen? ⟨gb, i, none⟩ = false := ⟨_, h.outB.2 i _ (svs_get ssB i hi)⟩
theorem srv_is (g n cp : Nat) (r : List Int) (h : r.length = n) : Value.slice (some ⟨g, 0, none⟩) n cp = srv ⟨some ⟨g, 0, none⟩, r, cp⟩ := by unfold srv; rw [h]
/-- Rows with two in each other's place. -/
def swapS (p c : Nat) (ss : List SR) : List SR := (ss.set p (ss.getD c default)).set c (ss.getD p default)
theorem swapS_len (p c : Nat) (ss : List SR) : (swapS p c ss).length = ss.length := by simp [swapS]
theorem getD_row (ss : List SR) (i : Nat) : (ss.getD i default).row = (rws ss).getD i [] := by
  by_cases h : i < ss.length
  · simp [rws, List.getD, h]
  · simp [rws, List.getD, Nat.le_of_not_lt h]; rfl
theorem rws_swap (p c : Nat) (ss : List SR) : rws (swapS p c ss) = swapX p c (rws ss) := by
  unfold swapS swapX
  rw [← rws_set, ← rws_set, getD_row, getD_row]
/-- What is known of the two, with the first c columns done. -/
structure Pu (n c : Nat) (M : Mx) (ssA ssB : List SR) : Prop where
  sa : Sq n (rws ssA)
  sb : Sq n (rws ssB)
  ap : Apart ssB
  el : W.Elim n M (mx (rws ssA)) (mx (rws ssB))
  co : W.Cols n c (mx (rws ssA))
theorem Pu.lenA {n c : Nat} {M : Mx} {ssA ssB : List SR} (h : Pu n c M ssA ssB) : ssA.length = n := by rw [← rws_len]; exact h.sa.len
theorem Pu.lenB {n c : Nat} {M : Mx} {ssA ssB : List SR} (h : Pu n c M ssA ssB) : ssB.length = n := by rw [← rws_len]; exact h.sb.len
theorem Pu.swap {n c p : Nat} {M : Mx} {ssA ssB : List SR} (h : Pu n c M ssA ssB) (hc : c < n) (hp : p < n) (hcp : c ≤ p) : Pu n c M (swapS p c ssA) (swapS p c ssB) := by
  refine ⟨?_, ?_, h.ap.swap (by rw [h.lenB]; exact hp) (by rw [h.lenB]; exact hc), ?_, ?_⟩
  · rw [rws_swap]; exact h.sa.swap hp hc
  · rw [rws_swap]; exact h.sb.swap hp hc
  · rw [rws_swap, rws_swap, mx_swap h.sa hp hc, mx_swap h.sb hp hc]; exact h.el.swap hp hc
  · rw [rws_swap, mx_swap h.sa hp hc]; exact cols_swap h.co hc hp hcp
theorem mx_swap_c {n c p : Nat} {ss : List SR} (h : Sq n (rws ss)) (hc : c < n) (hp : p < n) : mx (rws (swapS p c ss)) c c = mx (rws ss) p c := by
  rw [rws_swap, mx_swap h hp hc]
  unfold W.swapR
  by_cases e : c = p
  · subst e; rw [if_pos rfl]
  · rw [if_neg e, if_pos rfl]
theorem Pu.times {n c : Nat} {M : Mx} {ssA ssB : List SR} (h : Pu n c M ssA ssB) (hc : c < n) {x : B8} (hx : x = mx (rws ssA) c c) (h0 : x ≠ 0#8) {sA sB : SR} (hA : sA.row = timesL (W.gi x) ((rws ssA).getD c [])) (hB : sB.row = timesL (W.gi x) ((rws ssB).getD c []))
    (hnew : ∀ k, k < ssB.length → (ssB.getD k default).loc ≠ sB.loc) : Pu n c M (ssA.set c sA) (ssB.set c sB) ∧ ColDone n c 0 (mx (rws (ssA.set c sA))) := by
  have e1 := mx_times h.sa hc (W.gi x)
  have e2 := mx_times h.sb hc (W.gi x)
  rw [← hA, rws_set] at e1
  rw [← hB, rws_set] at e2
  have hs : W.gm (W.gi x) x = 1#8 := by rw [W.gm_comm]; exact W.gm_gi x h0
  refine ⟨⟨?_, ?_, h.ap.set (by rw [h.lenB]; exact hc) (fun k hk _ => hnew k hk), (h.el.times hc hs).congr e1.symm e2.symm, cols_congr (cols_times h.co hc (W.gi x)) (Nat.le_of_lt hc) e1.symm⟩, ?_, fun k hk => by omega⟩
  · rw [← rws_set, hA]; exact h.sa.set c (by rw [timesL_len]; exact (h.sa.at hc).1) (timesL_num _ _)
  · rw [← rws_set, hB]; exact h.sb.set c (by rw [timesL_len]; exact (h.sb.at hc).1) (timesL_num _ _)
  · rw [e1 c hc c hc]
    unfold W.timesR
    rw [if_pos rfl, ← hx, hs]
theorem Pu.plus {n c i : Nat} {M : Mx} {ssA ssB : List SR} (h : Pu n c M ssA ssB) (hc : c < n) (hi : i < n) (hic : i ≠ c) (hd : ColDone n c i (mx (rws ssA))) {t : B8} (ht : t = mx (rws ssA) i c) {sA sB : SR} (hA : sA.row = plusL t ((rws ssA).getD i []) ((rws ssA).getD c [])) (hB : sB.row = plusL t ((rws ssB).getD i []) ((rws ssB).getD c []))
    (hnew : ∀ k, k < ssB.length → (ssB.getD k default).loc ≠ sB.loc) : Pu n c M (ssA.set i sA) (ssB.set i sB) ∧ ColDone n c (i + 1) (mx (rws (ssA.set i sA))) := by
  have e1 := mx_plus (c := c) h.sa hi t
  have e2 := mx_plus (c := c) h.sb hi t
  rw [← hA, rws_set] at e1
  rw [← hB, rws_set] at e2
  refine ⟨⟨?_, ?_, h.ap.set (by rw [h.lenB]; exact hi) (fun k hk _ => hnew k hk), (h.el.plus hi hc hic t).congr e1.symm e2.symm, cols_congr (cols_plus h.co hc t) (Nat.le_of_lt hc) e1.symm⟩, ?_, fun k hk hkn hkc => ?_⟩
  · rw [← rws_set, hA]; exact h.sa.set i (by rw [plusL_len]; exact (h.sa.at hi).1) (plusL_num _ _ _)
  · rw [← rws_set, hB]; exact h.sb.set i (by rw [plusL_len]; exact (h.sb.at hi).1) (plusL_num _ _ _)
  · rw [e1 c hc c hc]
    unfold W.plusR
    rw [if_neg (Ne.symm hic)]; exact hd.1
  · rw [e1 k hkn c hc]
    unfold W.plusR
    by_cases e : k = i
    · rw [if_pos e, hd.1, W.gm_one, ht, BitVec.xor_self]
    · rw [if_neg e]; exact hd.2 k (by omega) hkn hkc
theorem ColDone.skip {n c i : Nat} {A : Mx} (h : ColDone n c i A) (hs : i = c ∨ A i c = 0#8) : ColDone n c (i + 1) A := ⟨h.1, fun k hk hkn hkc => by
  by_cases e : k = i
  · rcases hs with q | q
    · omega
    · rw [e]; exact q
  · exact h.2 k (by omega) hkn hkc⟩
theorem Pu.next {n c : Nat} {M : Mx} {ssA ssB : List SR} (h : Pu n c M ssA ssB) (hd : ColDone n c n (mx (rws ssA))) : Pu n (c + 1) M ssA ssB := ⟨h.sa, h.sb, h.ap, h.el, col_all h.co hd⟩
/-- A number is 0 where its byte is. -/
theorem Sq.zero {n : Nat} {X : List (List Int)} (h : Sq n X) {i j : Nat} (hi : i < n) (hj : j < n) : (X.getD i []).getD j 0 = 0 ↔ mx X i j = 0#8 := by
  have e := h.num hi hj
  constructor
  · intro h0; rw [h0] at e; exact W.b8_zero (by omega)
  · intro h0; rw [h0] at e; exact e.symm
/-- The inverse. -/
def IsInv (X Y : List (List Int)) : Prop := matOk X = true ∧ colsOf X = X.length ∧ Sq X.length Y ∧ W.Linv X.length (mx Y) (mx X) ∧ W.Linv X.length (mx X) (mx Y)
theorem Sq.ext {n : Nat} {X Y : List (List Int)} (h : Sq n X) (k : Sq n Y) (e : W.eqM n n (mx X) (mx Y)) : X = Y := by
  apply List.ext_getElem (by rw [h.len, k.len])
  intro i h1 h2
  have hi : i < n := by rw [← h.len]; exact h1
  have a1 : X.getD i [] = X[i] := by simp [List.getD, h1]
  have a2 : Y.getD i [] = Y[i] := by simp [List.getD, h2]
  rw [← a1, ← a2]
  have q1 := (h.at hi).1
  have q2 := (k.at hi).1
  apply List.ext_getElem (by rw [q1, q2])
  intro j h3 h4
  have hj : j < n := by omega
  have b1 := h.num hi hj
  have b2 := k.num hi hj
  rw [e i hi j hj] at b1
  have c1 : (X.getD i []).getD j 0 = (X.getD i [])[j] := by rw [List.getD_eq_getElem?_getD, List.getElem?_eq_getElem h3]; rfl
  have c2 : (Y.getD i []).getD j 0 = (Y.getD i [])[j] := by rw [List.getD_eq_getElem?_getD, List.getElem?_eq_getElem h4]; rfl
  rw [← c1, ← c2, ← b1, ← b2]
theorem isInv_only {X Y Z : List (List Int)} (h : IsInv X Y) (k : IsInv X Z) : Y = Z := h.2.2.1.ext k.2.2.1 (h.2.2.2.1.only k.2.2.2.2)
open Classical in
noncomputable def invX (X : List (List Int)) : List (List Int) × Bool := if h : ∃ Y, IsInv X Y then (h.choose, true) else ([], false)
theorem invX_yes {X Y : List (List Int)} (h : IsInv X Y) : invX X = (Y, true) := by
  have hx : ∃ Y, IsInv X Y := ⟨Y, h⟩
  unfold invX
  rw [dif_pos hx, isInv_only hx.choose_spec h]
theorem invX_no {X : List (List Int)} (h : ¬ ∃ Y, IsInv X Y) : invX X = ([], false) := by
  unfold invX
  rw [dif_neg h]
theorem Pu.done {n : Nat} {X : List (List Int)} {ssA ssB : List SR} (h : Pu n n (mx X) ssA ssB) (hX : matOk X = true) (hn : X.length = n) (hc : colsOf X = n) : IsInv X (rws ssB) := by
  obtain ⟨h1, h2⟩ := h.el.done (fun i hi j hj => h.co i hi j hj)
  exact ⟨hX, by omega, by rw [hn]; exact h.sb, by rw [hn]; exact h1, by rw [hn]; exact h2⟩
theorem Pu.none {n c : Nat} {X : List (List Int)} {ssA ssB : List SR} (h : Pu n c (mx X) ssA ssB) (hn : X.length = n) (hc : c < n) (hz : ∀ i, c ≤ i → i < n → mx (rws ssA) i c = 0#8) : ¬ ∃ Y, IsInv X Y := by
  rintro ⟨Y, hY⟩
  have := hY.2.2.2.1
  rw [hn] at this
  exact h.el.none hc h.co hz _ this
/-- The two at the start. -/
theorem mx_one {n : Nat} (h1 : 1 ≤ n) (h8 : n ≤ 8) : oneX (n : Int) = (List.range n).map (oneRow n) ∧ Sq n (oneX (n : Int)) ∧ W.eqM n n W.one (mx (oneX (n : Int))) := by
  have e : oneX (n : Int) = (List.range n).map (oneRow n) := by unfold oneX; rw [if_pos (by omega)]; rfl
  refine ⟨e, ⟨by rw [e]; simp, fun x hx => ?_⟩, fun i hi j hj => ?_⟩
  · rw [e] at hx
    obtain ⟨i, _, rfl⟩ := List.mem_map.1 hx
    refine ⟨oneRow_len n i, fun y hy => ?_⟩
    obtain ⟨j, _, rfl⟩ := List.mem_map.1 hy
    split <;> omega
  · unfold mx W.one
    rw [e]
    have a1 : ((List.range n).map (oneRow n)).getD i [] = oneRow n i := by rw [List.getD_eq_getElem?_getD, List.getElem?_map, List.getElem?_range hi]; rfl
    have a2 : (oneRow n i).getD j 0 = if i = j then 1 else 0 := by unfold oneRow; rw [List.getD_eq_getElem?_getD, List.getElem?_map, List.getElem?_range hj]; rfl
    rw [a1, a2]
    split <;> rfl
theorem Pu.start {n : Nat} {X : List (List Int)} {ssA ssB : List SR} (hX : Sq n X) (h1 : 1 ≤ n) (h8 : n ≤ 8) (hA : rws ssA = X) (hB : rws ssB = oneX (n : Int)) (hap : Apart ssB) : Pu n 0 (mx X) ssA ssB := by
  obtain ⟨_, q1, q2⟩ := mx_one h1 h8
  exact ⟨by rw [hA]; exact hX, by rw [hB]; exact q1, hap, by rw [hA, hB]; exact (W.Elim.start n (mx X)).congr (W.eqM.refl _ _ _) q2, fun i _ j hj => by omega⟩
theorem two_start {w wr w2 : World} {ga cap n : Nat} {v2 : Value} {ts : List SR} {Y : List (List Int)} (hbi : BI w wr (.slice (some ⟨ga, 0, none⟩) n cap) ts) (hn : ts.length = n) (hp : 0 < n) (hY : Y.length = n) (hb : Below wr.heap.size wr w2) (hv : MAns w2 v2 Y wr.heap.size w2.heap.size) :
    ∃ gb cap2 ssB, v2 = .slice (some ⟨gb, 0, none⟩) n cap2 ∧ n ≤ cap2 ∧ rws ssB = Y ∧ Apart ssB ∧ Two w w2 ga gb ts ssB := by
  obtain ⟨a, cap2, ssB, rfl, hr, hc, h1⟩ := hv
  have hl : ssB.length = n := by rw [← hY, ← hr, rws_len]
  have hne : ts ≠ [] := by rintro rfl; simp at hn; omega
  rcases h1 with rfl | ⟨gb, rfl, hm⟩
  · simp at hl; omega
  · have hown : wr.ownsRow w.heap.size 32 1 (.slice (some ⟨ga, 0, none⟩) n cap) n (svs ts) := by have := hbi.own; rw [hn] at this; exact this
    have hlt := hown.lt ga rfl
    have hglo := hm.glo
    refine ⟨gb, cap2, ssB, by rw [hl], by omega, hr, hm.apart, ⟨(own_wcells hown).grow hb, hm.out, hlt.1, by have := hbi.bel.size; omega, by omega, fun s hs => ?_, fun s hs => ?_, hbi.bel.trans (hb.mono hbi.bel.size)⟩⟩
    · obtain ⟨b, e, q1, q2, q3, q4⟩ := hbi.rows s hs
      have hbg : b ≠ ga := fun eb => by subst eb; exact row_apart q2 q4 hbi.own hne rfl
      have := q2.1
      exact ⟨b, e, q1, hbg, by omega, q2.grow hb, q3⟩
    · obtain ⟨b, e, q1, q2, q3, q4, q5⟩ := hm.rows s hs
      have := hbi.bel.size
      exact ⟨b, e, by omega, by omega, q3, q4, q5⟩
/-- A row of the two, so many times; and from another one. -/
theorem times_at {w wr : World} {ga gb n g i b cp : Nat} {ss : List SR} (h : RowGot w wr ga gb n g i b cp ss) (hsq : Sq n (rws ss)) (hi : i < n) (h8 : n ≤ 8) (t : B8) (W : World) (hb : Below wr.heap.size wr W) :
    Calls Try.prog 75 #[.slice (some ⟨b, 0, none⟩) n cp, .int .i64 (t.toNat : Int)] W fun e w' => ∃ g' cp', e = .returned (.slice (some ⟨g', 0, none⟩) n cp') ∧ W.heap.size ≤ g' ∧ WCells w' g' (ics (timesL t ((rws ss).getD i []))) ∧ n ≤ cp' ∧ Below W.heap.size W w' := by
  have hn := (hsq.at hi).1
  have := l06Times_any (some ⟨b, 0, none⟩) ((rws ss).getD i []) cp (t.toNat : Int) W (h.crow.stays hb) (by omega) (by omega)
  rw [hn, g8_back] at this
  refine this.mono ?_
  rintro e w' ⟨g', cp', rfl, q1, q2, q3, q4⟩
  rw [timesL_len, hn] at q3 ⊢
  exact ⟨g', cp', rfl, q1, q2, q3, q4⟩
theorem plus_at {w wr : World} {ga gb n g i c b1 cp1 b2 cp2 : Nat} {ss : List SR} (h1 : RowGot w wr ga gb n g i b1 cp1 ss) (h2 : RowGot w wr ga gb n g c b2 cp2 ss) (hsq : Sq n (rws ss)) (hi : i < n) (hc : c < n) (h8 : n ≤ 8) (t : Int) (W : World) (hb : Below wr.heap.size wr W) :
    Calls Try.prog 76 #[.slice (some ⟨b1, 0, none⟩) n cp1, .slice (some ⟨b2, 0, none⟩) n cp2, .int .i64 t] W fun e w' => ∃ g' cp', e = .returned (.slice (some ⟨g', 0, none⟩) n cp') ∧ W.heap.size ≤ g' ∧ WCells w' g' (ics (plusL (g8 t) ((rws ss).getD i []) ((rws ss).getD c []))) ∧ n ≤ cp' ∧ Below W.heap.size W w' := by
  have hn := (hsq.at hi).1
  have hm := (hsq.at hc).1
  have := l06Row_any (some ⟨b1, 0, none⟩) (some ⟨b2, 0, none⟩) ((rws ss).getD i []) ((rws ss).getD c []) cp1 cp2 t W (h1.crow.stays hb) (h2.crow.stays hb) (by omega) (by omega) (by omega) (hsq.at hi).2
  rw [hn, hm] at this
  refine this.mono ?_
  rintro e w' ⟨g', cp', rfl, q1, q2, q3, q4⟩
  rw [plusL_len, hn] at q3 ⊢
  exact ⟨g', cp', rfl, q1, q2, q3, q4⟩
theorem RowGot.below {w wr w' : World} {ga gb n g i b cp : Nat} {ss : List SR} (h : RowGot w wr ga gb n g i b cp ss) (hg : g < wr.heap.size) (hb : Below wr.heap.size wr w') : RowGot w w' ga gb n g i b cp ss := by
  have hbl : b < wr.heap.size := by
    obtain ⟨b', e, _, _, _, q, _⟩ := h.row
    rw [h.is] at e
    have : b = b' := congrArg Addr.block (Option.some.inj e)
    rw [this]; exact q.1
  exact ⟨h.lt, (hb.cell (p := ⟨g, i, none⟩) hg).trans h.cell, (hb.frozen (p := ⟨g, i, none⟩) hg).trans h.free, h.is, h.val, h.row.below hb, fun j hj => (hb.cell (p := ⟨b, j, none⟩) hbl).trans (h.num j hj), h.crow.stays hb⟩
end Go.Proofs.Ytdlgailodhlbmaa
