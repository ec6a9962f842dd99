/- Texts of ours, laid one behind the other: MatI, MatH, MatJ, StrsA, DecM, Dec, StrsB, TvA, StrV, BRowM, HexM. -/
import Derived.Test.YtdlgailodhlbmaaPk2
import Derived.Deep.CutRange
import Derived.Deep.QuietTactic
import Derived.BigQuiet
import Derived.PlainAid
import Derived.Deep.LoopGhost
import Derived.Deep.RegionHeld3
import Derived.Deep.DrawnRows
/- MatI: An elimination: what is known of its two rows of rows as matrices, from step to step; and what its end says. -/
namespace Go.Proofs.Ytdlgailodhlbmaa
open Go.RowKit
open W (B8 Mx)
attribute [local irreducible] W.gm W.xs W.mm

theorem mx_is (X : List (List Int)) (i j : Nat) : mx X i j = g8 ((X.getD i []).getD j 0) := rfl
/-- No row of the second one lies where a new one does. -/
theorem Two.newB {w wr : World} {ga gb g : Nat} {ssA ssB : List SR} (h : Two w wr ga gb ssA ssB) (hg : wr.heap.size ≤ g) : ∀ k, k < ssB.length → (ssB.getD k default).loc ≠ some ⟨g, 0, none⟩ := by
  intro k hk e
  have e0 : ssB.getD k default = ssB[k] := by simp [List.getD, hk]
  obtain ⟨b, eb, _, _, _, q, _⟩ := h.rowB ssB[k] (List.getElem_mem hk)
  rw [e0, eb] at e
  have : b = g := congrArg Addr.block (Option.some.inj e)
  have := q.1
  omega
/-- The cell of a row may be written. -/
theorem Two.freeA {w wr : World} {ga gb : Nat} {ssA ssB : List SR} (h : Two w wr ga gb ssA ssB) {i : Nat} (hi : i < ssA.length) : ∃ v, wr.cell? ⟨ga, i, none⟩ = some v ∧ wr.frozen? ⟨ga, i, none⟩ = false := ⟨_, h.outA.2 i _ (svs_get ssA i hi)⟩
theorem Two.freeB {w wr : World} {ga gb : Nat} {ssA ssB : List SR} (h : Two w wr ga gb ssA ssB) {i : Nat} (hi : i < ssB.length) : ∃ v, wr.cell? ⟨gb, i, none⟩ = some v ∧ wr.frozen? ⟨gb, i, none⟩ = false := ⟨_, h.outB.2 i _ (svs_get ssB i hi)⟩
theorem srv_is (g n cp : Nat) (r : List Int) (h : r.length = n) : Value.slice (some ⟨g, 0, none⟩) n cp = srv ⟨some ⟨g, 0, none⟩, r, cp⟩ := by unfold srv; rw [h]
/-- Rows with two in each other's place. -/
def swapS (p c : Nat) (ss : List SR) : List SR := (ss.set p (ss.getD c default)).set c (ss.getD p default)
theorem swapS_len (p c : Nat) (ss : List SR) : (swapS p c ss).length = ss.length := by simp [swapS]
theorem getD_row (ss : List SR) (i : Nat) : (ss.getD i default).row = (rws ss).getD i [] := by
  by_cases h : i < ss.length
  · simp [rws, List.getD, h]
  · simp [rws, List.getD, Nat.le_of_not_lt h]; rfl
theorem rws_swap (p c : Nat) (ss : List SR) : rws (swapS p c ss) = swapX p c (rws ss) := by
  unfold swapS swapX
  rw [← rws_set, ← rws_set, getD_row, getD_row]
/-- What is known of the two, with the first c columns done. -/
structure Pu (n c : Nat) (M : Mx) (ssA ssB : List SR) : Prop where
  sa : Sq n (rws ssA)
  sb : Sq n (rws ssB)
  ap : Apart ssB
  el : W.Elim n M (mx (rws ssA)) (mx (rws ssB))
  co : W.Cols n c (mx (rws ssA))
theorem Pu.lenA {n c : Nat} {M : Mx} {ssA ssB : List SR} (h : Pu n c M ssA ssB) : ssA.length = n := by rw [← rws_len]; exact h.sa.len
theorem Pu.lenB {n c : Nat} {M : Mx} {ssA ssB : List SR} (h : Pu n c M ssA ssB) : ssB.length = n := by rw [← rws_len]; exact h.sb.len
theorem Pu.swap {n c p : Nat} {M : Mx} {ssA ssB : List SR} (h : Pu n c M ssA ssB) (hc : c < n) (hp : p < n) (hcp : c ≤ p) : Pu n c M (swapS p c ssA) (swapS p c ssB) := by
  refine ⟨?_, ?_, h.ap.swap (by rw [h.lenB]; exact hp) (by rw [h.lenB]; exact hc), ?_, ?_⟩
  · rw [rws_swap]; exact h.sa.swap hp hc
  · rw [rws_swap]; exact h.sb.swap hp hc
  · rw [rws_swap, rws_swap, mx_swap h.sa hp hc, mx_swap h.sb hp hc]; exact h.el.swap hp hc
  · rw [rws_swap, mx_swap h.sa hp hc]; exact cols_swap h.co hc hp hcp
theorem mx_swap_c {n c p : Nat} {ss : List SR} (h : Sq n (rws ss)) (hc : c < n) (hp : p < n) : mx (rws (swapS p c ss)) c c = mx (rws ss) p c := by
  rw [rws_swap, mx_swap h hp hc]
  unfold W.swapR
  by_cases e : c = p
  · subst e; rw [if_pos rfl]
  · rw [if_neg e, if_pos rfl]
theorem Pu.times {n c : Nat} {M : Mx} {ssA ssB : List SR} (h : Pu n c M ssA ssB) (hc : c < n) {x : B8} (hx : x = mx (rws ssA) c c) (h0 : x ≠ 0#8) {sA sB : SR} (hA : sA.row = timesL (W.gi x) ((rws ssA).getD c [])) (hB : sB.row = timesL (W.gi x) ((rws ssB).getD c []))
    (hnew : ∀ k, k < ssB.length → (ssB.getD k default).loc ≠ sB.loc) : Pu n c M (ssA.set c sA) (ssB.set c sB) ∧ ColDone n c 0 (mx (rws (ssA.set c sA))) := by
  have e1 := mx_times h.sa hc (W.gi x)
  have e2 := mx_times h.sb hc (W.gi x)
  rw [← hA, rws_set] at e1
  rw [← hB, rws_set] at e2
  have hs : W.gm (W.gi x) x = 1#8 := by rw [W.gm_comm]; exact W.gm_gi x h0
  refine ⟨⟨?_, ?_, h.ap.set (by rw [h.lenB]; exact hc) (fun k hk _ => hnew k hk), (h.el.times hc hs).congr e1.symm e2.symm, cols_congr (cols_times h.co hc (W.gi x)) (Nat.le_of_lt hc) e1.symm⟩, ?_, fun k hk => by omega⟩
  · rw [← rws_set, hA]; exact h.sa.set c (by rw [timesL_len]; exact (h.sa.at hc).1) (timesL_num _ _)
  · rw [← rws_set, hB]; exact h.sb.set c (by rw [timesL_len]; exact (h.sb.at hc).1) (timesL_num _ _)
  · rw [e1 c hc c hc]
    unfold W.timesR
    rw [if_pos rfl, ← hx, hs]
theorem Pu.plus {n c i : Nat} {M : Mx} {ssA ssB : List SR} (h : Pu n c M ssA ssB) (hc : c < n) (hi : i < n) (hic : i ≠ c) (hd : ColDone n c i (mx (rws ssA))) {t : B8} (ht : t = mx (rws ssA) i c) {sA sB : SR} (hA : sA.row = plusL t ((rws ssA).getD i []) ((rws ssA).getD c [])) (hB : sB.row = plusL t ((rws ssB).getD i []) ((rws ssB).getD c []))
    (hnew : ∀ k, k < ssB.length → (ssB.getD k default).loc ≠ sB.loc) : Pu n c M (ssA.set i sA) (ssB.set i sB) ∧ ColDone n c (i + 1) (mx (rws (ssA.set i sA))) := by
  have e1 := mx_plus (c := c) h.sa hi t
  have e2 := mx_plus (c := c) h.sb hi t
  rw [← hA, rws_set] at e1
  rw [← hB, rws_set] at e2
  refine ⟨⟨?_, ?_, h.ap.set (by rw [h.lenB]; exact hi) (fun k hk _ => hnew k hk), (h.el.plus hi hc hic t).congr e1.symm e2.symm, cols_congr (cols_plus h.co hc t) (Nat.le_of_lt hc) e1.symm⟩, ?_, fun k hk hkn hkc => ?_⟩
  · rw [← rws_set, hA]; exact h.sa.set i (by rw [plusL_len]; exact (h.sa.at hi).1) (plusL_num _ _ _)
  · rw [← rws_set, hB]; exact h.sb.set i (by rw [plusL_len]; exact (h.sb.at hi).1) (plusL_num _ _ _)
  · rw [e1 c hc c hc]
    unfold W.plusR
    rw [if_neg (Ne.symm hic)]; exact hd.1
  · rw [e1 k hkn c hc]
    unfold W.plusR
    by_cases e : k = i
    · rw [if_pos e, hd.1, W.gm_one, ht, BitVec.xor_self]
    · rw [if_neg e]; exact hd.2 k (by omega) hkn hkc
theorem ColDone.skip {n c i : Nat} {A : Mx} (h : ColDone n c i A) (hs : i = c ∨ A i c = 0#8) : ColDone n c (i + 1) A := ⟨h.1, fun k hk hkn hkc => by
  by_cases e : k = i
  · rcases hs with q | q
    · omega
    · rw [e]; exact q
  · exact h.2 k (by omega) hkn hkc⟩
theorem Pu.next {n c : Nat} {M : Mx} {ssA ssB : List SR} (h : Pu n c M ssA ssB) (hd : ColDone n c n (mx (rws ssA))) : Pu n (c + 1) M ssA ssB := ⟨h.sa, h.sb, h.ap, h.el, col_all h.co hd⟩
/-- A number is 0 where its byte is. -/
theorem Sq.zero {n : Nat} {X : List (List Int)} (h : Sq n X) {i j : Nat} (hi : i < n) (hj : j < n) : (X.getD i []).getD j 0 = 0 ↔ mx X i j = 0#8 := by
  have e := h.num hi hj
  constructor
  · intro h0; rw [h0] at e; exact W.b8_zero (by omega)
  · intro h0; rw [h0] at e; exact e.symm
/-- The inverse. -/
def IsInv (X Y : List (List Int)) : Prop := matOk X = true ∧ colsOf X = X.length ∧ Sq X.length Y ∧ W.Linv X.length (mx Y) (mx X) ∧ W.Linv X.length (mx X) (mx Y)
theorem Sq.ext {n : Nat} {X Y : List (List Int)} (h : Sq n X) (k : Sq n Y) (e : W.eqM n n (mx X) (mx Y)) : X = Y := by
  apply List.ext_getElem (by rw [h.len, k.len])
  intro i h1 h2
  have hi : i < n := by rw [← h.len]; exact h1
  have a1 : X.getD i [] = X[i] := by simp [List.getD, h1]
  have a2 : Y.getD i [] = Y[i] := by simp [List.getD, h2]
  rw [← a1, ← a2]
  have q1 := (h.at hi).1
  have q2 := (k.at hi).1
  apply List.ext_getElem (by rw [q1, q2])
  intro j h3 h4
  have hj : j < n := by omega
  have b1 := h.num hi hj
  have b2 := k.num hi hj
  rw [e i hi j hj] at b1
  have c1 : (X.getD i []).getD j 0 = (X.getD i [])[j] := by rw [List.getD_eq_getElem?_getD, List.getElem?_eq_getElem h3]; rfl
  have c2 : (Y.getD i []).getD j 0 = (Y.getD i [])[j] := by rw [List.getD_eq_getElem?_getD, List.getElem?_eq_getElem h4]; rfl
  rw [← c1, ← c2, ← b1, ← b2]
theorem isInv_only {X Y Z : List (List Int)} (h : IsInv X Y) (k : IsInv X Z) : Y = Z := h.2.2.1.ext k.2.2.1 (h.2.2.2.1.only k.2.2.2.2)
open Classical in
noncomputable def invX (X : List (List Int)) : List (List Int) × Bool := if h : ∃ Y, IsInv X Y then (h.choose, true) else ([], false)
theorem invX_yes {X Y : List (List Int)} (h : IsInv X Y) : invX X = (Y, true) := by
  have hx : ∃ Y, IsInv X Y := ⟨Y, h⟩
  unfold invX
  rw [dif_pos hx, isInv_only hx.choose_spec h]
theorem invX_no {X : List (List Int)} (h : ¬ ∃ Y, IsInv X Y) : invX X = ([], false) := by
  unfold invX
  rw [dif_neg h]
theorem Pu.done {n : Nat} {X : List (List Int)} {ssA ssB : List SR} (h : Pu n n (mx X) ssA ssB) (hX : matOk X = true) (hn : X.length = n) (hc : colsOf X = n) : IsInv X (rws ssB) := by
  obtain ⟨h1, h2⟩ := h.el.done (fun i hi j hj => h.co i hi j hj)
  exact ⟨hX, by omega, by rw [hn]; exact h.sb, by rw [hn]; exact h1, by rw [hn]; exact h2⟩
theorem Pu.none {n c : Nat} {X : List (List Int)} {ssA ssB : List SR} (h : Pu n c (mx X) ssA ssB) (hn : X.length = n) (hc : c < n) (hz : ∀ i, c ≤ i → i < n → mx (rws ssA) i c = 0#8) : ¬ ∃ Y, IsInv X Y := by
  rintro ⟨Y, hY⟩
  have := hY.2.2.2.1
  rw [hn] at this
  exact h.el.none hc h.co hz _ this
/-- The two at the start. -/
theorem mx_one {n : Nat} (h1 : 1 ≤ n) (h8 : n ≤ 8) : oneX (n : Int) = (List.range n).map (oneRow n) ∧ Sq n (oneX (n : Int)) ∧ W.eqM n n W.one (mx (oneX (n : Int))) := by
  have e : oneX (n : Int) = (List.range n).map (oneRow n) := by unfold oneX; rw [if_pos (by omega)]; rfl
  refine ⟨e, ⟨by rw [e]; simp, fun x hx => ?_⟩, fun i hi j hj => ?_⟩
  · rw [e] at hx
    obtain ⟨i, _, rfl⟩ := List.mem_map.1 hx
    refine ⟨oneRow_len n i, fun y hy => ?_⟩
    obtain ⟨j, _, rfl⟩ := List.mem_map.1 hy
    split <;> omega
  · unfold mx W.one
    rw [e]
    have a1 : ((List.range n).map (oneRow n)).getD i [] = oneRow n i := by rw [List.getD_eq_getElem?_getD, List.getElem?_map, List.getElem?_range hi]; rfl
    have a2 : (oneRow n i).getD j 0 = if i = j then 1 else 0 := by unfold oneRow; rw [List.getD_eq_getElem?_getD, List.getElem?_map, List.getElem?_range hj]; rfl
    rw [a1, a2]
    split <;> rfl
theorem Pu.start {n : Nat} {X : List (List Int)} {ssA ssB : List SR} (hX : Sq n X) (h1 : 1 ≤ n) (h8 : n ≤ 8) (hA : rws ssA = X) (hB : rws ssB = oneX (n : Int)) (hap : Apart ssB) : Pu n 0 (mx X) ssA ssB := by
  obtain ⟨_, q1, q2⟩ := mx_one h1 h8
  exact ⟨by rw [hA]; exact hX, by rw [hB]; exact q1, hap, by rw [hA, hB]; exact (W.Elim.start n (mx X)).congr (W.eqM.refl _ _ _) q2, fun i _ j hj => by omega⟩
theorem two_start {w wr w2 : World} {ga cap n : Nat} {v2 : Value} {ts : List SR} {Y : List (List Int)} (hbi : BI w wr (.slice (some ⟨ga, 0, none⟩) n cap) ts) (hn : ts.length = n) (hp : 0 < n) (hY : Y.length = n) (hb : Below wr.heap.size wr w2) (hv : MAns w2 v2 Y wr.heap.size w2.heap.size) :
    ∃ gb cap2 ssB, v2 = .slice (some ⟨gb, 0, none⟩) n cap2 ∧ n ≤ cap2 ∧ rws ssB = Y ∧ Apart ssB ∧ Two w w2 ga gb ts ssB := by
  obtain ⟨a, cap2, ssB, rfl, hr, hc, h1⟩ := hv
  have hl : ssB.length = n := by rw [← hY, ← hr, rws_len]
  have hne : ts ≠ [] := by rintro rfl; simp at hn; omega
  rcases h1 with rfl | ⟨gb, rfl, hm⟩
  · simp at hl; omega
  · have hown : wr.ownsRow w.heap.size 32 1 (.slice (some ⟨ga, 0, none⟩) n cap) n (svs ts) := by have := hbi.own; rw [hn] at this; exact this
    have hlt := hown.lt ga rfl
    have hglo := hm.glo
    refine ⟨gb, cap2, ssB, by rw [hl], by omega, hr, hm.apart, ⟨(own_wcells hown).grow hb, hm.out, hlt.1, by have := hbi.bel.size; omega, by omega, fun s hs => ?_, fun s hs => ?_, hbi.bel.trans (hb.mono hbi.bel.size)⟩⟩
    · obtain ⟨b, e, q1, q2, q3, q4⟩ := hbi.rows s hs
      have hbg : b ≠ ga := fun eb => by subst eb; exact row_apart q2 q4 hbi.own hne rfl
      have := q2.1
      exact ⟨b, e, q1, hbg, by omega, q2.grow hb, q3⟩
    · obtain ⟨b, e, q1, q2, q3, q4, q5⟩ := hm.rows s hs
      have := hbi.bel.size
      exact ⟨b, e, by omega, by omega, q3, q4, q5⟩
/-- A row of the two, so many times; and from another one. -/
theorem times_at {w wr : World} {ga gb n g i b cp : Nat} {ss : List SR} (h : RowGot w wr ga gb n g i b cp ss) (hsq : Sq n (rws ss)) (hi : i < n) (h8 : n ≤ 8) (t : B8) (W : World) (hb : Below wr.heap.size wr W) :
    Calls Try.prog 75 #[.slice (some ⟨b, 0, none⟩) n cp, .int .i64 (t.toNat : Int)] W fun e w' => ∃ g' cp', e = .returned (.slice (some ⟨g', 0, none⟩) n cp') ∧ W.heap.size ≤ g' ∧ WCells w' g' (ics (timesL t ((rws ss).getD i []))) ∧ n ≤ cp' ∧ Below W.heap.size W w' := by
  have hn := (hsq.at hi).1
  have := l06Times_any (some ⟨b, 0, none⟩) ((rws ss).getD i []) cp (t.toNat : Int) W (h.crow.stays hb) (by omega) (by omega)
  rw [hn, g8_back] at this
  refine this.mono ?_
  rintro e w' ⟨g', cp', rfl, q1, q2, q3, q4⟩
  rw [timesL_len, hn] at q3 ⊢
  exact ⟨g', cp', rfl, q1, q2, q3, q4⟩
theorem plus_at {w wr : World} {ga gb n g i c b1 cp1 b2 cp2 : Nat} {ss : List SR} (h1 : RowGot w wr ga gb n g i b1 cp1 ss) (h2 : RowGot w wr ga gb n g c b2 cp2 ss) (hsq : Sq n (rws ss)) (hi : i < n) (hc : c < n) (h8 : n ≤ 8) (t : Int) (W : World) (hb : Below wr.heap.size wr W) :
    Calls Try.prog 76 #[.slice (some ⟨b1, 0, none⟩) n cp1, .slice (some ⟨b2, 0, none⟩) n cp2, .int .i64 t] W fun e w' => ∃ g' cp', e = .returned (.slice (some ⟨g', 0, none⟩) n cp') ∧ W.heap.size ≤ g' ∧ WCells w' g' (ics (plusL (g8 t) ((rws ss).getD i []) ((rws ss).getD c []))) ∧ n ≤ cp' ∧ Below W.heap.size W w' := by
  have hn := (hsq.at hi).1
  have hm := (hsq.at hc).1
  have := l06Row_any (some ⟨b1, 0, none⟩) (some ⟨b2, 0, none⟩) ((rws ss).getD i []) ((rws ss).getD c []) cp1 cp2 t W (h1.crow.stays hb) (h2.crow.stays hb) (by omega) (by omega) (by omega) (hsq.at hi).2
  rw [hn, hm] at this
  refine this.mono ?_
  rintro e w' ⟨g', cp', rfl, q1, q2, q3, q4⟩
  rw [plusL_len, hn] at q3 ⊢
  exact ⟨g', cp', rfl, q1, q2, q3, q4⟩
theorem RowGot.below {w wr w' : World} {ga gb n g i b cp : Nat} {ss : List SR} (h : RowGot w wr ga gb n g i b cp ss) (hg : g < wr.heap.size) (hb : Below wr.heap.size wr w') : RowGot w w' ga gb n g i b cp ss := by
  have hbl : b < wr.heap.size := by
    obtain ⟨b', e, _, _, _, q, _⟩ := h.row
    rw [h.is] at e
    have : b = b' := congrArg Addr.block (Option.some.inj e)
    rw [this]; exact q.1
  exact ⟨h.lt, (hb.cell (p := ⟨g, i, none⟩) hg).trans h.cell, (hb.frozen (p := ⟨g, i, none⟩) hg).trans h.free, h.is, h.val, h.row.below hb, fun j hj => (hb.cell (p := ⟨b, j, none⟩) hbl).trans (h.num j hj), h.crow.stays hb⟩
end Go.Proofs.Ytdlgailodhlbmaa
/- MatH: The walk of the model's InvM. -/
namespace Go.Proofs.Ytdlgailodhlbmaa
open Go.RowKit
open W (B8 Mx)
attribute [local go_sem ↓] Go.wp_at_zero Go.wp_at_succ
attribute [local irreducible] W.gm W.xs W.mm W.gi mx

/-- Rows of numbers where they lie. -/
def Rows2 (w : World) (X : List (List Int)) (n b off : Nat) : Prop := b < w.heap.size ∧ ∀ i, i < n → ∃ b' o' cp, w.cell? ⟨b, off + i, none⟩ = some (.slice (some ⟨b', o', none⟩) n cp) ∧ b' < w.heap.size ∧ ∀ j, j < n → w.cell? ⟨b', o' + j, none⟩ = some (.int .i64 ((X.getD i []).getD j 0))
theorem Rows2.below {w w' : World} {X : List (List Int)} {n b off : Nat} (h : Rows2 w X n b off) (hb : Below w.heap.size w w') : Rows2 w' X n b off := ⟨Nat.lt_of_lt_of_le h.1 hb.size, fun i hi => by
  obtain ⟨b', o', cp, e, hl, hc⟩ := h.2 i hi
  exact ⟨b', o', cp, (hb.cell (p := ⟨b, off + i, none⟩) h.1).trans e, Nat.lt_of_lt_of_le hl hb.size, fun j hj => (hb.cell (p := ⟨b', o' + j, none⟩) hl).trans (hc j hj)⟩⟩
/-- What InvM answers. -/
def InvPost (X : List (List Int)) (w : World) (e : Ending) (w' : World) : Prop := ∃ v, e = .returned (.tuple #[v, .bool (invX X).2]) ∧ MAns w' v (invX X).1 w.heap.size w'.heap.size ∧ Below w.heap.size w w'
theorem invPost_no {X : List (List Int)} {w w' : World} {e : Ending} {a : Option Addr} {cap : Nat} (h : invX X = ([], false)) (he : e = .returned (.tuple #[.slice a 0 cap, .bool false])) (hb : Below w.heap.size w w') : InvPost X w e w' := by
  unfold InvPost
  rw [h]
  exact ⟨_, he, MAns.empty _ _ _ _ _, hb⟩
theorem invPost_yes {X Y : List (List Int)} {w w' : World} {e : Ending} {v : Value} (h : IsInv X Y) (he : e = .returned (.tuple #[v, .bool true])) (hv : MAns w' v Y w.heap.size w'.heap.size) (hb : Below w.heap.size w w') : InvPost X w e w' := by
  unfold InvPost
  rw [invX_yes h]
  exact ⟨v, he, hv, hb⟩
theorem own_wider1 {w : World} {B C n sz : Nat} {t : TypeId} {v : Value} {L : List Value} (h : w.ownsRow B t sz v n L) (hC : C ≤ B) : w.ownsRow C t sz v n L := by
  obtain ⟨h1, h | ⟨g, cap, cur, e, hB, rest⟩⟩ := h
  · exact ⟨h1, .inl h⟩
  · exact ⟨h1, .inr ⟨g, cap, cur, e, Nat.le_trans hC hB, rest⟩⟩
theorem own_some {w : World} {B n sz : Nat} {t : TypeId} {v : Value} {L : List Value} (h : w.ownsRow B t sz v n L) (hp : 0 < n) : ∃ g cap, v = .slice (some ⟨g, 0, none⟩) n cap ∧ n ≤ cap := by
  rcases h.2 with ⟨_, h0⟩ | ⟨g, cap, _, rfl, _, _, hc, _⟩
  · omega
  · exact ⟨g, cap, rfl, hc⟩
theorem BI.up {w w1 wr : World} {v : Value} {ts : List SR} (h : BI w1 wr v ts) (hb : Below w.heap.size w w1) : BI w wr v ts :=
  ⟨own_wider1 h.own hb.size, fun s hs => by
    obtain ⟨b, e, q1, q2⟩ := h.rows s hs
    exact ⟨b, e, Nat.le_trans hb.size q1, q2⟩, h.apart, hb.trans (h.bel.mono hb.size)⟩
set_option maxRecDepth 100000 in
set_option maxHeartbeats 8000000 in
theorem invM_walk (X : List (List Int)) (n b1 o1 cap1 : Nat) (w : World) (hX : Sq n X) (hn1 : 1 ≤ n) (hn8 : n ≤ 8) (hR : Rows2 w X n b1 o1) (hok : matOk X = true) (hxl : X.length = n) (hcol : colsOf X = n)
    (hc1 : ∀ W : World, Below w.heap.size w W → Calls Try.prog 65 #[.slice (some ⟨b1, o1, none⟩) n cap1] W fun e w' => e = .returned (.bool true) ∧ Below W.heap.size W w') :
    Calls Try.prog 62 #[.slice (some ⟨b1, o1, none⟩) n cap1] w fun e w' => InvPost X w e w' := by
  obtain ⟨i0, hi0, hz0, hz1, hz2⟩ := info_parts infoRow
  obtain ⟨i1, hi1, hy0, hy1, hy2⟩ := info_parts infoIntG
  have HX : Hid (Sq n X ∧ matOk X = true ∧ X.length = n ∧ colsOf X = n) := ⟨hX, hok, hxl, hcol⟩
  have HR : Shut (Rows2 w X n b1 o1) := ⟨hR⟩
  have HC1 : Hid _ := hc1
  have hne : ((n : Int) != (n : Int)) = false := by simp
  have n0 : (0 : Int) < (n : Int) := by omega
  clear hX hok hxl hcol hR hc1
  go_enter Try.func62, Try.ntmps62
  go_wp2_with fail
  refine (HC1.out _ (Below.refl _ _)).mono ?_
  rintro e w1 ⟨rfl, hb1⟩
  obtain ⟨br, or, cr, d0', lr, _⟩ := (HR.out.below hb1).2 0 (by omega)
  have d0 : w1.cell? ⟨b1, o1, none⟩ = some (.slice (some ⟨br, or, none⟩) n cr) := d0'
  clear d0'
  have HB1 : Shut (Below w.heap.size w w1) := ⟨hb1⟩
  clear hb1 HC1
  go_wp2_with fail
  go_loopw [5, 6] (fun v i wr => ∃ (ts : List SR) (vv : Value), vv = v ∧ i = .int .i64 (ts.length : Nat) ∧ ts.length ≤ n ∧ Shut (rws ts = X.take ts.length) ∧ Shut (BI w wr vv ts)) (fun _ i _ => n - (intOf i).toNat)
  case atStart => exact ⟨[], _, rfl, rfl, by simp, ⟨rfl⟩, ⟨(BI.start w1 (World.ownsRow_made w1 #[] 0 (Nat.le_refl _) (by decide) rfl) ((Below.refl _ _).alloc (Nat.le_refl _) _)).up HB1.out⟩⟩
  case round =>
    clear d0 HB1
    obtain ⟨ts, v, rfl, rfl, hk, hr, hbi⟩ := hrel
    obtain ⟨wo, rfl⟩ : ∃ wo, wo = wr := ⟨_, rfl⟩
    obtain ⟨i, hie⟩ : ∃ i, i = ts.length := ⟨_, rfl⟩
    have HI : Hid (i = ts.length) := hie
    rw [← hie] at hk ⊢
    clear hie
    by_cases hlt : i < n
    · have hlt' : (i : Int) < (n : Int) := by omega
      have k0 : (0 : Int) ≤ (i : Int) := by omega
      have hsz := hbi.out.bel.size
      obtain ⟨br, or, cr, d0, lr, hnum⟩ := (HR.out.below hbi.out.bel).2 i hlt
      obtain ⟨r, hre⟩ : ∃ r, r = X.getD i [] := ⟨_, rfl⟩
      have HRE : Hid (r = X.getD i [] ∧ r.length = n) := ⟨hre, by rw [hre]; exact (HX.out.1.at hlt).1⟩
      rw [← hre] at hnum
      clear hre
      have HNUM : Shut (∀ j u, (ics (r))[j]? = some u → (wo.alloc (.cells #[] 3)).cell? ((⟨br, or, none⟩ : Addr).add j) = some u) := ⟨fun j u hu => by
        have hj : j < (r).length := by have := (List.getElem?_eq_some_iff.1 hu).1; rw [ics_len] at this; exact this
        rw [ics_get _ j hj] at hu
        cases hu
        have ea : (⟨br, or, none⟩ : Addr).add j = ⟨br, or + j, none⟩ := by simp [Addr.add]
        rw [ea]
        exact (((Below.refl wo.heap.size wo).alloc (Nat.le_refl _) _).cell (p := ⟨br, or + j, none⟩) lr).trans (hnum j (by have := HRE.out.2; omega))⟩
      have l1 : b1 < wo.heap.size := (HR.out.below hbi.out.bel).1
      have hxl : (ics (r)).length = n * 1 := by rw [ics_len, HRE.out.2, Nat.mul_one]
      clear hnum
      go_wp2_with (at_builtin; refine wpList_append_own _ rfl _ _ 32 rfl wo.heap.size 3 i1 (.int .i64 0) 1 8 Try.underlying32 hi1 hy0 hy1 hy2 rfl (by decide) _ 0 [] rfl (World.ownsRow_made wo #[] 0 (Nat.le_refl _) (by decide) rfl) ⟨br, or, none⟩ n cr (ics (r)) rfl hxl HNUM.out ?c2 ?c3 ?c4 ?c5 ?_)
      case c2 => exact fun u hu => by obtain ⟨y, _, rfl⟩ := List.mem_map.1 hu; rfl
      case c3 => unfold maxLen; omega
      case c4 => omega
      case c5 => simp
      intro v5 w5 hown5 hgrow5 _
      have hown5 : w5.ownsRow wo.heap.size 3 1 v5 n (ics r) := by simpa using hown5
      obtain ⟨g5, cp5, rfl, hcp5⟩ := own_some hown5 (by omega)
      have hb5 : Below wo.heap.size wo w5 := ((Below.refl wo.heap.size wo).alloc (Nat.le_refl _) _).grown hgrow5 (by simp) (fun j hj => by simp [Value.ownBlock] at hj; omega)
      have hg5 := (hown5.lt g5 rfl).1
      have HROW : Shut (WCells w5 g5 (ics (r))) := ⟨own_wcells hown5⟩
      have HNEW : Shut ((∀ q, v.ownBlock = some q → q ≠ g5) ∧ ∀ s ∈ ts, s.loc ≠ some ⟨g5, 0, none⟩) := ⟨fun q hq => by have := (hbi.out.own.lt q hq).2; omega, fun s hs e => by obtain ⟨b', e', _, q, _⟩ := hbi.out.rows s hs; have : b' = g5 := congrArg Addr.block (Option.some.inj (e'.symm.trans e)); have := q.1; omega⟩
      have HBI : Shut (BI w w5 v ts) := ⟨hbi.out.below hb5⟩
      have hs5 : w.heap.size ≤ w5.heap.size := HBI.out.bel.size
      have hown := HBI.out.own
      clear hown5 hgrow5 hb5 hbi HNUM d0 lr l1
      go_wp2_with (at_builtin; refine wpList_append_own _ rfl _ _ 36 rfl w.heap.size 32 i0 (.slice none 0 0) 1 24 Try.underlying36 hi0 hz0 hz1 hz2 rfl (by decide) _ _ _ rfl (hown.alloc _) ⟨w5.heap.size, 0, none⟩ 1 1 [.slice (some ⟨g5, 0, none⟩) n cp5] rfl rfl (cell_one_new _ _ _) ?c2 ?c3 ?c4 ?c5 ?_)
      case c2 => first | rfl | (intro u hu; simp at hu; subst hu; rfl)
      case c3 => unfold maxLen; have := HI.out; omega
      case c4 => have := HI.out; omega
      case c5 => first | omega | (simp; omega)
      intro v' w6 hown' hgrow _
      have hlen : r.length = n := HRE.out.2
      have hnil : r ≠ [] := fun e => by rw [e] at hlen; simp at hlen; omega
      have hap := HBI.out.append (cap := cp5) (by omega) HROW.out hnil (by rw [hlen]; exact hcp5) HNEW.out.1 HNEW.out.2 (by rw [hlen]; exact hown') hgrow
      have HAP : Shut (BI w w6 v' (ts ++ [SR.mk (some ⟨g5, 0, none⟩) (r) cp5])) := ⟨hap⟩
      have HR2 : Shut (rws (ts ++ [SR.mk (some ⟨g5, 0, none⟩) (r) cp5]) = X.take (i + 1)) := ⟨by
        have hix : i < X.length := by rw [HX.out.2.2.1]; exact hlt
        rw [rws_snoc, hr.out, ← HI.out, List.take_succ_eq_append_getElem hix]
        congr 2
        rw [HRE.out.1]
        simp [List.getD, hix]⟩
      clear hap hown' hgrow hown HBI HROW HNEW hr hlen hnil hxl
      go_wp2_with fail
      go_roundw
      case rel => exact ⟨_, v', rfl, by rw [List.length_append, List.length_singleton, ← HI.out]; go_num, by rw [List.length_append, List.length_singleton, ← HI.out]; omega, ⟨by rw [List.length_append, List.length_singleton, ← HI.out]; exact HR2.out⟩, HAP⟩
      case measure => simp [intOf]; omega
    · have e : i = n := by omega
      have hlt' : ¬ (i : Int) < (n : Int) := by omega
      have hln : ts.length = n := by rw [← HI.out, e]
      have hXr : rws ts = X := by rw [hr.out, hln, ← HX.out.2.2.1, List.take_length]
      obtain ⟨ga, capA, rfl, hcapA⟩ := own_some hbi.out.own (by omega)
      have hbi2 := hbi.out
      rw [hln] at hbi2 ⊢
      have HBI : Shut (BI w wo (.slice (some ⟨ga, 0, none⟩) n capA) ts ∧ ts.length = n ∧ rws ts = X) := ⟨hbi2, hln, hXr⟩
      clear hbi2 hbi hr hXr hln HI hcapA
      go_wp2_with fail
      refine (specOneM (n : Int) _).mono ?_
      rintro e w2 ⟨v2, rfl, hv2, hb2⟩
      obtain ⟨gb, capB, ssB, rfl, hcapB, hrB, hapB, htwo⟩ := two_start HBI.out.1 HBI.out.2.1 (by omega) (by rw [(mx_one hn1 hn8).1]; simp) hb2 hv2
      have HT : Shut (Two w w2 ga gb ts ssB) := ⟨htwo⟩
      have HP : Shut (Pu n 0 (mx X) ts ssB) := ⟨Pu.start HX.out.1 hn1 hn8 HBI.out.2.2 hrB hapB⟩
      clear hv2 hb2 hrB hapB htwo HBI
      go_wp2_with fail
      go_loopw [8] (fun cc wr => ∃ (c : Nat) (ssA ssB : List SR), cc = .int .i64 c ∧ c ≤ n ∧ Shut (Two w wr ga gb ssA ssB) ∧ Shut (Pu n c (mx X) ssA ssB)) (fun cc _ => n - (intOf cc).toNat)
      case atStart => exact ⟨0, ts, ssB, rfl, by omega, HT, HP⟩
      case round =>
        clear HT HP
        obtain ⟨c, ssA, ssB, rfl, hcn, hT, hP⟩ := hrel
        obtain ⟨wc, rfl⟩ : ∃ wc, wc = wr := ⟨_, rfl⟩
        by_cases hlt : c < n
        · have hlt2 : (c : Int) < (n : Int) := by omega
          have c0 : (0 : Int) ≤ (c : Int) := by omega
          go_wp2_with fail
          go_loop [9] (fun pp => ∃ p : Nat, pp = .int .i64 p ∧ c ≤ p ∧ p ≤ n ∧ Shut (∀ q, c ≤ q → q < p → mx (rws ssA) q c = 0#8)) (fun pp => n - (intOf pp).toNat)
          case atStart => exact ⟨c, rfl, by omega, by omega, ⟨fun q h1 h2 => by omega⟩⟩
          case round =>
            obtain ⟨p, rfl, hcp, hpn, hz⟩ := hrel
            by_cases hpl : p < n
            · have hpl2 : (p : Int) < (n : Int) := by omega
              have p0 : (0 : Int) ≤ (p : Int) := by omega
              obtain ⟨bp, cpp, gp⟩ := hT.out.gotA hP.out.sa hpl
              have dp := gp.cell
              have dx := gp.num c hlt
              have lga : ga < wc.heap.size := hT.out.outA.1
              have hzero := hP.out.sa.zero hpl hlt
              obtain ⟨x, hx⟩ : ∃ x, x = ((rws ssA).getD p []).getD c 0 := ⟨_, rfl⟩
              rw [← hx] at dx hzero
              have GP : Shut (RowGot w wc ga gb n ga p bp cpp ssA) := ⟨gp⟩
              clear gp hx
              by_cases hx0 : x = 0
              · have hxb : (x == 0) = true := by rw [hx0]; rfl
                have HZ : Shut (∀ q, c ≤ q → q < p + 1 → mx (rws ssA) q c = 0#8) := ⟨fun q h1 h2 => by
                  by_cases e : q = p
                  · rw [e]; exact hzero.1 hx0
                  · exact hz.out q h1 (by omega)⟩
                clear hx0 hzero hz
                go_wp2_with fail
                go_round
                case rel => exact ⟨p + 1, by go_num, by omega, by omega, HZ⟩
                case measure => simp [intOf]; omega
              · have hxb : (x == 0) = false := by rw [beq_eq_false_iff_ne]; exact hx0
                have hpe : ((p : Int) == (n : Int)) = false := by rw [beq_eq_false_iff_ne]; omega
                have HNZ : Shut (mx (rws ssA) p c ≠ 0#8) := ⟨fun e => hx0 (hzero.2 e)⟩
                obtain ⟨bc, cpc, gc⟩ := hT.out.gotA hP.out.sa hlt
                have dc := gc.cell
                have fp := GP.out.free
                have GC : Shut (RowGot w wc ga gb n ga c bc cpc ssA) := ⟨gc⟩
                clear hx0 hzero hz gc
                go_upto_region 20 with fail
                obtain ⟨w3, hw3⟩ : ∃ w3, w3 = wc.setCell ⟨ga, p, none⟩ (.slice (some ⟨bc, 0, none⟩) n cpc) := ⟨_, rfl⟩
                have T3 : Two w w3 ga gb (ssA.set p (ssA.getD c default)) ssB := by rw [hw3]; exact hT.out.setA GP.out.lt GC.out.val GC.out.row
                have R3 : RowIn w w3 ga gb (ssA.getD p default) := by rw [hw3]; exact GP.out.row.setA p _
                rw [← hw3]
                obtain ⟨q3, z3, f3⟩ := T3.freeA (i := c) (by rw [List.length_set]; exact GC.out.lt)
                have l3 : ga < w3.heap.size := T3.outA.1
                have HT3 : Shut (Two w w3 ga gb (ssA.set p (ssA.getD c default)) ssB ∧ RowIn w w3 ga gb (ssA.getD p default)) := ⟨T3, R3⟩
                clear hw3 T3 R3 dp dc dx fp lga
                go_upto_region 21 with fail
                obtain ⟨w4, hw4⟩ : ∃ w4, w4 = w3.setCell ⟨ga, c, none⟩ (.slice (some ⟨bp, 0, none⟩) n cpp) := ⟨_, rfl⟩
                have T4 : Two w w4 ga gb (swapS p c ssA) ssB := by rw [hw4]; exact HT3.out.1.setA (by rw [List.length_set]; exact GC.out.lt) GP.out.val HT3.out.2
                rw [← hw4]
                obtain ⟨bq, cpq, gq⟩ := T4.gotB hP.out.sb hpl
                obtain ⟨bd, cpd, gd⟩ := T4.gotB hP.out.sb hlt
                have d4 := gq.cell
                have e4 := gd.cell
                have f4 := gq.free
                have l4 : gb < w4.heap.size := T4.outB.1
                have HT4 : Shut (Two w w4 ga gb (swapS p c ssA) ssB) := ⟨T4⟩
                have GQ : Shut (RowGot w w4 ga gb n gb p bq cpq ssB) := ⟨gq⟩
                have GD : Shut (RowGot w w4 ga gb n gb c bd cpd ssB) := ⟨gd⟩
                clear hw4 T4 gq gd z3 f3 l3 HT3
                go_upto_region 23 with fail
                obtain ⟨w5, hw5⟩ : ∃ w5, w5 = w4.setCell ⟨gb, p, none⟩ (.slice (some ⟨bd, 0, none⟩) n cpd) := ⟨_, rfl⟩
                have T5 : Two w w5 ga gb (swapS p c ssA) (ssB.set p (ssB.getD c default)) := by rw [hw5]; exact HT4.out.setB GQ.out.lt GD.out.val GD.out.row
                have R5 : RowIn w w5 ga gb (ssB.getD p default) := by rw [hw5]; exact GQ.out.row.setB p _
                rw [← hw5]
                obtain ⟨q5, z5, f5⟩ := T5.freeB (i := c) (by rw [List.length_set]; exact GD.out.lt)
                have l5 : gb < w5.heap.size := T5.outB.1
                have HT5 : Shut (Two w w5 ga gb (swapS p c ssA) (ssB.set p (ssB.getD c default)) ∧ RowIn w w5 ga gb (ssB.getD p default)) := ⟨T5, R5⟩
                clear hw5 T5 R5 d4 e4 f4 l4
                go_upto_region 24 with fail
                obtain ⟨w6, hw6⟩ : ∃ w6, w6 = w5.setCell ⟨gb, c, none⟩ (.slice (some ⟨bq, 0, none⟩) n cpq) := ⟨_, rfl⟩
                have T6 : Two w w6 ga gb (swapS p c ssA) (swapS p c ssB) := by rw [hw6]; exact HT5.out.1.setB (by rw [List.length_set]; exact GD.out.lt) GQ.out.val HT5.out.2
                rw [← hw6]
                have P6 := hP.out.swap hlt hpl hcp
                have N6 : mx (rws (swapS p c ssA)) c c ≠ 0#8 := by rw [mx_swap_c hP.out.sa hlt hpl]; exact HNZ.out
                clear hw6 HT4 HT5 GQ GD GP GC hP hT HNZ z5 f5 l5
                generalize swapS p c ssA = sA at *
                generalize swapS p c ssB = sB at *
                obtain ⟨bA, cpA, gA⟩ := T6.gotA P6.sa hlt
                have d6 := gA.cell
                have x6 := gA.num c hlt
                have l6 : ga < w6.heap.size := T6.outA.1
                have xe := mx_is (rws sA) c c
                generalize ((rws sA).getD c []).getD c 0 = y at *
                have HINV : Shut (∀ w : World, Calls Try.prog 52 #[.int .i64 y] w fun e w' => e = .returned (.int .i64 ((W.gi (g8 y)).toNat : Int)) ∧ w' = w) := ⟨specInvG y⟩
                have HY : Shut (g8 y = mx (rws sA) c c ∧ g8 y ≠ 0#8) := ⟨xe.symm, by rw [← xe]; exact N6⟩
                have HT6 : Shut (Two w w6 ga gb sA sB ∧ Pu n c (mx X) sA sB) := ⟨T6, P6⟩
                have GA : Shut (RowGot w w6 ga gb n ga c bA cpA sA) := ⟨gA⟩
                clear T6 P6 N6 gA xe
                go_wp2_with fail
                refine (HINV.out _).mono ?_
                rintro e w7 ⟨rfl, hw7⟩
                obtain rfl : w6 = w7 := hw7.symm
                obtain ⟨s, hs⟩ : ∃ s, s = W.gi (g8 y) := ⟨_, rfl⟩
                have HS : Shut (s = W.gi (g8 y)) := ⟨hs⟩
                rw [← hs]
                clear hs hw7 HINV
                go_wp2_with fail
                refine (times_at GA.out HT6.out.2.sa hlt hn8 s _ (Below.refl _ _)).mono ?_
                rintro e w8 ⟨g8', cp8, rfl, hg8, hr8, hc8, hb8⟩
                have T8 := HT6.out.1.below hb8
                have N8 := row_new HT6.out.1 hg8 hr8 (by rw [timesL_len, (HT6.out.2.sa.at hlt).1]; exact hc8)
                obtain ⟨q8, z8, f8⟩ := T8.freeA (i := c) GA.out.lt
                have l8 : ga < w8.heap.size := T8.outA.1
                have HT8 : Shut (Two w w8 ga gb sA sB ∧ RowIn w w8 ga gb ⟨some ⟨g8', 0, none⟩, timesL s ((rws sA).getD c []), cp8⟩) := ⟨T8, N8⟩
                clear hg8 hr8 hc8 hb8 T8 N8 d6 x6 l6
                go_upto_region 26 with fail
                obtain ⟨w9, hw9⟩ : ∃ w9, w9 = w8.setCell ⟨ga, c, none⟩ (.slice (some ⟨g8', 0, none⟩) n cp8) := ⟨_, rfl⟩
                have T9 : Two w w9 ga gb (sA.set c ⟨some ⟨g8', 0, none⟩, timesL s ((rws sA).getD c []), cp8⟩) sB := by rw [hw9]; exact HT8.out.1.setA GA.out.lt (srv_is g8' n cp8 _ (by rw [timesL_len]; exact (HT6.out.2.sa.at hlt).1)) HT8.out.2
                rw [← hw9]
                obtain ⟨bB, cpB, gB⟩ := T9.gotB HT6.out.2.sb hlt
                have d9 := gB.cell
                have l9 : gb < w9.heap.size := T9.outB.1
                have HT9 : Shut (Two w w9 ga gb (sA.set c ⟨some ⟨g8', 0, none⟩, timesL s ((rws sA).getD c []), cp8⟩) sB) := ⟨T9⟩
                have GB : Shut (RowGot w w9 ga gb n gb c bB cpB sB) := ⟨gB⟩
                clear hw9 T9 gB z8 f8 l8 HT8 GA
                go_wp2_with fail
                refine (times_at GB.out HT6.out.2.sb hlt hn8 s _ (Below.refl _ _)).mono ?_
                rintro e w10 ⟨g10, cp10, rfl, hg10, hr10, hc10, hb10⟩
                have T10 := HT9.out.below hb10
                have N10 := row_new HT9.out hg10 hr10 (by rw [timesL_len, (HT6.out.2.sb.at hlt).1]; exact hc10)
                obtain ⟨q10, z10, f10⟩ := T10.freeB (i := c) GB.out.lt
                have l10 : gb < w10.heap.size := T10.outB.1
                have HT10 : Shut (Two w (w10.setCell ⟨gb, c, none⟩ (.slice (some ⟨g10, 0, none⟩) n cp10)) ga gb (sA.set c ⟨some ⟨g8', 0, none⟩, timesL s ((rws sA).getD c []), cp8⟩) (sB.set c ⟨some ⟨g10, 0, none⟩, timesL s ((rws sB).getD c []), cp10⟩)) := ⟨T10.setB GB.out.lt (srv_is g10 n cp10 _ (by rw [timesL_len]; exact (HT6.out.2.sb.at hlt).1)) N10⟩
                have HP10 : Shut (Pu n c (mx X) (sA.set c ⟨some ⟨g8', 0, none⟩, timesL s ((rws sA).getD c []), cp8⟩) (sB.set c ⟨some ⟨g10, 0, none⟩, timesL s ((rws sB).getD c []), cp10⟩) ∧ ColDone n c 0 (mx (rws (sA.set c ⟨some ⟨g8', 0, none⟩, timesL s ((rws sA).getD c []), cp8⟩)))) := ⟨HT6.out.2.times hlt HY.out.1 HY.out.2 (by rw [HS.out]) (by rw [HS.out]) (HT9.out.newB hg10)⟩
                clear hg10 hr10 hc10 hb10 T10 N10 d9 l9 HT9 GB HT6 HS HY
                generalize sA.set c ⟨some ⟨g8', 0, none⟩, timesL s ((rws sA).getD c []), cp8⟩ = sA at *
                generalize sB.set c ⟨some ⟨g10, 0, none⟩, timesL s ((rws sB).getD c []), cp10⟩ = sB at *
                go_wp2_with fail
                go_loopw [13] (fun ii wr => ∃ (i : Nat) (tA tB : List SR), ii = .int .i64 i ∧ i ≤ n ∧ Shut (Two w wr ga gb tA tB) ∧ Shut (Pu n c (mx X) tA tB ∧ ColDone n c i (mx (rws tA)))) (fun ii _ => n - (intOf ii).toNat)
                case atStart => exact ⟨0, sA, sB, rfl, by omega, HT10, HP10⟩
                case round =>
                  clear HT10 HP10 z10 f10 l10
                  obtain ⟨i, tA, tB, rfl, hin, hT, hP⟩ := hrel
                  obtain ⟨wi, rfl⟩ : ∃ wi, wi = wr := ⟨_, rfl⟩
                  by_cases hil : i < n
                  · have hil2 : (i : Int) < (n : Int) := by omega
                    have i0' : (0 : Int) ≤ (i : Int) := by omega
                    by_cases hic : i = c
                    · have hne2 : ((i : Int) != (c : Int)) = false := by rw [bne_eq_false_iff_eq]; omega
                      have HPN : Shut (Pu n c (mx X) tA tB ∧ ColDone n c (i + 1) (mx (rws tA))) := ⟨hP.out.1, hP.out.2.skip (.inl hic)⟩
                      clear hic hP
                      go_wp2_with fail
                      go_roundw
                      case rel => exact ⟨i + 1, tA, tB, by go_num, by omega, hT, HPN⟩
                      case measure => simp [intOf]; omega
                    · have hne2 : ((i : Int) != (c : Int)) = true := by rw [bne_iff_ne]; omega
                      obtain ⟨bi, cpi, gi⟩ := hT.out.gotA hP.out.1.sa hil
                      have di := gi.cell
                      have dt := gi.num c hlt
                      have lga : ga < wi.heap.size := hT.out.outA.1
                      have hzero := hP.out.1.sa.zero hil hlt
                      have xe := mx_is (rws tA) i c
                      generalize ((rws tA).getD i []).getD c 0 = t at *
                      have GI : Shut (RowGot w wi ga gb n ga i bi cpi tA) := ⟨gi⟩
                      clear gi
                      by_cases ht0 : t = 0
                      · have htb : (t != 0) = false := by rw [ht0]; rfl
                        have HPN : Shut (Pu n c (mx X) tA tB ∧ ColDone n c (i + 1) (mx (rws tA))) := ⟨hP.out.1, hP.out.2.skip (.inr (hzero.1 ht0))⟩
                        clear ht0 hP hzero xe
                        go_wp2_with fail
                        go_roundw
                        case rel => exact ⟨i + 1, tA, tB, by go_num, by omega, hT, HPN⟩
                        case measure => simp [intOf]; omega
                      · have htb : (t != 0) = true := by rw [bne_iff_ne]; exact ht0
                        have HTE : Shut (g8 t = mx (rws tA) i c) := ⟨xe.symm⟩
                        obtain ⟨bk, cpk, gk⟩ := hT.out.gotA hP.out.1.sa hlt
                        have dk := gk.cell
                        have fi := GI.out.free
                        have GK : Shut (RowGot w wi ga gb n ga c bk cpk tA) := ⟨gk⟩
                        clear ht0 hzero xe gk
                        go_wp2_with fail
                        have lga2 := lga
                        go_region_with ((go_at_call 76; refine (plus_at GI.out GK.out hP.out.1.sa hil hlt hn8 t _ ?_).mono ?_; (first | exact Below.refl _ _ | exact Below.drew (Below.refl _ _)); rintro e w11 ⟨g11, cp11, rfl, hg11, hr11, hc11, hb11⟩; have z11 := (GI.out.below lga2 (by first | exact hb11 | exact (Below.drew (Below.refl _ _)).trans hb11)).cell; have f11 := (GI.out.below lga2 (by first | exact hb11 | exact (Below.drew (Below.refl _ _)).trans hb11)).free; have l11 := Nat.lt_of_lt_of_le lga2 hb11.size))
                        all_goals
                          have hb12 : Below wi.heap.size wi w11 := (Below.drew (Below.refl wi.heap.size wi)).trans hb11
                          have T12 := (hT.out.below hb12).setA GI.out.lt (srv_is g11 n cp11 (plusL (g8 t) ((rws tA).getD i []) ((rws tA).getD c [])) (by rw [plusL_len]; exact (hP.out.1.sa.at hil).1)) (row_new hT.out hg11 hr11 (by rw [plusL_len, (hP.out.1.sa.at hil).1]; exact hc11))
                          obtain ⟨w12, hw12⟩ : ∃ w12, w12 = w11.setCell ⟨ga, i, none⟩ (.slice (some ⟨g11, 0, none⟩) n cp11) := ⟨_, rfl⟩
                          rw [← hw12] at T12 ⊢
                          obtain ⟨bm, cpm, gm⟩ := T12.gotB hP.out.1.sb hil
                          obtain ⟨bo, cpo, go⟩ := T12.gotB hP.out.1.sb hlt
                          have d12 := gm.cell
                          have e12 := go.cell
                          have f12 := gm.free
                          have l12 : gb < w12.heap.size := T12.outB.1
                          have HT12 : Shut (Two w w12 ga gb (tA.set i ⟨some ⟨g11, 0, none⟩, plusL (g8 t) ((rws tA).getD i []) ((rws tA).getD c []), cp11⟩) tB) := ⟨T12⟩
                          have GM : Shut (RowGot w w12 ga gb n gb i bm cpm tB) := ⟨gm⟩
                          have GO : Shut (RowGot w w12 ga gb n gb c bo cpo tB) := ⟨go⟩
                          clear hb12 T12 hw12 gm go hg11 hr11 hc11 hb11 z11 f11 l11 lga lga2 di dk dt fi GI GK
                          go_wp2_with fail
                          go_region_with ((go_at_call 76; refine (plus_at GM.out GO.out hP.out.1.sb hil hlt hn8 t _ ?_).mono ?_; (first | exact Below.refl _ _ | exact Below.drew (Below.refl _ _)); rintro e w13 ⟨g13, cp13, rfl, hg13, hr13, hc13, hb13⟩; have z13 := (GM.out.below l12 (by first | exact hb13 | exact (Below.drew (Below.refl _ _)).trans hb13)).cell; have f13 := (GM.out.below l12 (by first | exact hb13 | exact (Below.drew (Below.refl _ _)).trans hb13)).free; have l13 := Nat.lt_of_lt_of_le l12 hb13.size))
                          all_goals
                            have hb14 : Below w12.heap.size w12 w13 := (Below.drew (Below.refl w12.heap.size w12)).trans hb13
                            have T14 := (HT12.out.below hb14).setB GM.out.lt (srv_is g13 n cp13 (plusL (g8 t) ((rws tB).getD i []) ((rws tB).getD c [])) (by rw [plusL_len]; exact (hP.out.1.sb.at hil).1)) (row_new HT12.out hg13 hr13 (by rw [plusL_len, (hP.out.1.sb.at hil).1]; exact hc13))
                            have HT14 : Shut (Two w (w13.setCell ⟨gb, i, none⟩ (.slice (some ⟨g13, 0, none⟩) n cp13)) ga gb (tA.set i ⟨some ⟨g11, 0, none⟩, plusL (g8 t) ((rws tA).getD i []) ((rws tA).getD c []), cp11⟩) (tB.set i ⟨some ⟨g13, 0, none⟩, plusL (g8 t) ((rws tB).getD i []) ((rws tB).getD c []), cp13⟩)) := ⟨T14⟩
                            have HP14 : Shut (Pu n c (mx X) (tA.set i ⟨some ⟨g11, 0, none⟩, plusL (g8 t) ((rws tA).getD i []) ((rws tA).getD c []), cp11⟩) (tB.set i ⟨some ⟨g13, 0, none⟩, plusL (g8 t) ((rws tB).getD i []) ((rws tB).getD c []), cp13⟩) ∧ ColDone n c (i + 1) (mx (rws (tA.set i ⟨some ⟨g11, 0, none⟩, plusL (g8 t) ((rws tA).getD i []) ((rws tA).getD c []), cp11⟩)))) := ⟨hP.out.1.plus hlt hil hic hP.out.2 HTE.out rfl rfl (HT12.out.newB hg13)⟩
                            clear hb14 T14 hg13 hr13 hc13 hb13 z13 f13 l13 GM GO HT12 HTE d12 e12 f12 l12
                            go_wp2_with fail
                            go_roundw
                            case rel => exact ⟨i + 1, _, _, by go_num, by omega, HT14, HP14⟩
                            case measure => simp [intOf]; omega
                  · have e : i = n := by omega
                    have hil2 : ¬ (i : Int) < (n : Int) := by omega
                    have HPN : Shut (Pu n (c + 1) (mx X) tA tB) := ⟨by have h := hP.out.2; rw [e] at h; exact hP.out.1.next h⟩
                    clear hP e
                    go_wp2_with fail
                    go_roundw
                    case rel => exact ⟨c + 1, tA, tB, by go_num, by omega, hT, HPN⟩
                    case measure => simp [intOf]; omega
            · have e : p = n := by omega
              have hpl2 : ¬ (p : Int) < (n : Int) := by omega
              have hpe : ((p : Int) == (n : Int)) = true := by rw [beq_iff_eq]; omega
              have HNO : Shut (invX X = ([], false)) := ⟨invX_no (hP.out.none HX.out.2.2.1 hlt (fun i h1 h2 => hz.out i h1 (by omega)))⟩
              have HB : Shut (Below w.heap.size w wc) := ⟨hT.out.bel⟩
              clear e hz hT hP
              go_wp2_with fail
              go_ret2
              exact invPost_no HNO.out rfl (HB.out.alloc HB.out.size _)
        · have e : c = n := by omega
          have hlt2 : ¬ (c : Int) < (n : Int) := by omega
          have HI2 : Shut (IsInv X (rws ssB)) := ⟨by have h := hP.out; rw [e] at h; exact h.done HX.out.2.1 HX.out.2.2.1 HX.out.2.2.2⟩
          have HF : Shut (MAns wc (.slice (some ⟨gb, 0, none⟩) n capB) (rws ssB) w.heap.size wc.heap.size) := ⟨hT.out.fin hP.out.ap hP.out.lenB hcapB⟩
          have HB : Shut (Below w.heap.size w wc) := ⟨hT.out.bel⟩
          clear e hT hP
          go_wp2_with fail
          go_ret2
          exact invPost_yes HI2.out rfl HF.out HB.out
end Go.Proofs.Ytdlgailodhlbmaa
/- MatJ: The model's InvM, at every argument. -/
namespace Go.Proofs.Ytdlgailodhlbmaa
open Go.RowKit
open W (B8 Mx)
attribute [local go_sem ↓] Go.wp_at_zero Go.wp_at_succ
attribute [local irreducible] W.gm W.xs W.mm W.gi mx

theorem rows2_of {w : World} {a : Option Addr} {ss : List SR} {lo hi : Nat} {X : List (List Int)} {n : Nat} (h : MR w a ss lo hi) (hX : rws ss = X) (hsq : Sq n X) (hp : 0 < n) : ∃ b off, a = some ⟨b, off, none⟩ ∧ Rows2 w X n b off := by
  have hl : ss.length = n := by rw [← hsq.len, ← hX, rws_len]
  obtain ⟨b, off, e, hb, hc⟩ := h.at (by omega)
  refine ⟨b, off, e, hb, fun i hi => ?_⟩
  have his : i < ss.length := by omega
  have hget : X.getD i [] = ss[i].row := by rw [← hX, List.getD_eq_getElem?_getD]; simp [rws, his]
  have hlen : ss[i].row.length = n := by rw [← hget]; exact (hsq.at hi).1
  obtain ⟨b', o', e', hb', hc'⟩ := crow_int (h.2 _ (List.getElem_mem his)).crow (by omega)
  have := hc i his
  unfold srv at this
  rw [hlen, e'] at this
  exact ⟨b', o', ss[i].cap, this, hb', fun j hj => by rw [hget]; exact hc' j (by omega)⟩
theorem sq_of {X : List (List Int)} (h : matOk X = true) (hc : colsOf X = X.length) : Sq X.length X := ⟨rfl, fun x hx => by rw [← hc]; exact (matOk_iff h).2.2 x hx⟩
set_option maxRecDepth 100000 in
set_option maxHeartbeats 4000000 in
theorem specInvM {w : World} {v : Value} {X : List (List Int)} {lo hi : Nat} (hs : MSee w v X lo hi) (hf : MFit X) : Calls Try.prog 62 #[v] w fun e w' => InvPost X w e w' := by
  have hs' := hs
  obtain ⟨a1, cap1, ss, rfl, hr1, hm1⟩ := hs
  have hl1 : ss.length = X.length := by rw [← hr1, rws_len]
  rw [hl1] at hs' ⊢
  have hc1 := fun W (hW : Below w.heap.size w W) => specMatrixOk (hs'.below hW) hf
  cases h1 : matOk X with
  | false =>
    have HX : Hid (invX X = ([], false)) := invX_no (fun ⟨_, h⟩ => by have q := h.1; rw [h1] at q; cases q)
    rw [h1] at hc1
    have HC1 : Hid _ := hc1
    clear hc1 hm1 h1 hs'
    go_enter Try.func62, Try.ntmps62
    go_wp2_with fail
    refine (HC1.out _ (Below.refl _ _)).mono ?_
    rintro e w1 ⟨rfl, hb1⟩
    have HB : Hid (Below w.heap.size w w1) := hb1
    clear hb1
    go_wp2_with fail
    go_ret2
    exact invPost_no HX.out rfl (HB.out.alloc HB.out.size _)
  | true =>
    rw [h1] at hc1
    obtain ⟨⟨hx1, hx8⟩, ⟨hcx1, hcx8⟩, _⟩ := matOk_iff h1
    by_cases h3 : colsOf X = X.length
    · obtain ⟨b1, o1, rfl, hrow1⟩ := rows2_of hm1 hr1 (sq_of h1 h3) (by omega)
      exact invM_walk X X.length b1 o1 cap1 w (sq_of h1 h3) hx1 hx8 hrow1 h1 rfl h3 hc1
    · obtain ⟨b1, o1, rfl, hrow1⟩ := row_at hm1 hr1 h1
      have HX : Hid (invX X = ([], false)) := invX_no (fun ⟨_, h⟩ => h3 h.2.1)
      obtain ⟨loc0, cp0, row0, hr0⟩ := hrow1 0 (by omega)
      have HR0 : Hid _ := hr0
      have HC1 : Hid (∀ W : World, Below w.heap.size w W → Calls Try.prog 65 #[.slice (some ⟨b1, o1, none⟩) X.length cap1] W fun e w' => e = .returned (.bool true) ∧ Below W.heap.size W w') := hc1
      have hne : ((X.length : Int) != (colsOf X : Int)) = true := by rw [bne_iff_ne]; omega
      have n0 : (0 : Int) < (X.length : Int) := by omega
      clear hc1 hm1 hs' hr0 hrow1 h1 h3 hr1 hl1 hf
      go_enter Try.func62, Try.ntmps62
      go_wp2_with fail
      refine (HC1.out _ (Below.refl _ _)).mono ?_
      rintro e w1 ⟨rfl, hb1⟩
      have d0 : w1.cell? ⟨b1, o1, none⟩ = some (.slice loc0 (colsOf X) cp0) := (HR0.out.below hb1).cell
      have HB : Hid (Below w.heap.size w w1) := hb1
      clear hb1
      go_wp2_with fail
      go_ret2
      exact invPost_no HX.out rfl (HB.out.alloc HB.out.size _)
end Go.Proofs.Ytdlgailodhlbmaa
/- StrsA: Slices of strings: how they are held against each other. -/
namespace Go.Proofs.Ytdlgailodhlbmaa
open Go.RowKit

theorem drewN_two (w : World) (a b : Nat) : (w.drewN a).drewN b = w.drewN (a + b) := by simp [World.drewN, Nat.add_assoc]
/-- A slice of strings, as it reads. -/
def SRow (w : World) (a : Option Addr) (xs : List ByteArray) : Prop :=
  0 < xs.length → ∃ g, a = some ⟨g, 0, none⟩ ∧ g < w.heap.size ∧ ∀ j, j < xs.length → w.cell? ⟨g, j, none⟩ = some (.string (xs.getD j ⟨#[]⟩))

def eqS (xs ys : List ByteArray) : Bool := decide (xs = ys)
theorem eqS_len (xs ys : List ByteArray) (h : xs.length ≠ ys.length) : eqS xs ys = false := by
  unfold eqS; rw [decide_eq_false]; intro e; rw [e] at h; exact h rfl
/-- The first k are the same. -/
def sameTo (xs ys : List ByteArray) (k : Nat) : Prop := ∀ j, j < k → xs.getD j ⟨#[]⟩ = ys.getD j ⟨#[]⟩
theorem eqS_yes (xs ys : List ByteArray) (h : xs.length = ys.length) (hs : sameTo xs ys xs.length) : eqS xs ys = true := by
  unfold eqS; rw [decide_eq_true]
  apply List.ext_getElem h
  intro j h1 h2
  have := hs j h1
  simpa [List.getD, h1, h2] using this
theorem eqS_no (xs ys : List ByteArray) (k : Nat) (h : xs.getD k ⟨#[]⟩ ≠ ys.getD k ⟨#[]⟩) : eqS xs ys = false := by
  unfold eqS; rw [decide_eq_false]; intro e; rw [e] at h; exact h rfl
theorem sameTo_step (xs ys : List ByteArray) (k : Nat) (h : sameTo xs ys k) (hk : xs.getD k ⟨#[]⟩ = ys.getD k ⟨#[]⟩) : sameTo xs ys (k + 1) := by
  intro j hj
  by_cases e : j = k
  · subst e; exact hk
  · exact h j (by omega)

set_option maxHeartbeats 400000 in
theorem eqStringS_any (a b : Option Addr) (xs ys : List ByteArray) (ca cb : Nat) (w : World) (ha : SRow w a xs) (hb : SRow w b ys) (hn : xs.length ≤ 100000000) (hm : ys.length ≤ 100000000) :
    Calls Try.prog 30 #[.slice a xs.length ca, .slice b ys.length cb] w fun e w' => e = .returned (.bool (eqS xs ys)) ∧ ∃ q, w' = w.drewN q := by
  obtain ⟨n, hnx⟩ : ∃ n, n = xs.length := ⟨_, rfl⟩
  obtain ⟨m, hmy⟩ : ∃ m, m = ys.length := ⟨_, rfl⟩
  have HN : Hid (n = xs.length) := hnx
  have HM : Hid (m = ys.length) := hmy
  rw [← hnx, ← hmy]
  rw [← hnx] at hn
  rw [← hmy] at hm
  clear hnx hmy
  by_cases h : n = m
  · subst h
    have hd : (((n : Int) != (n : Int))) = false := by simp
    go_enter Try.func30, Try.ntmps30
    go_wp2_with fail
    go_loopw [5] (fun i wr => ∃ (k q : Nat), i = .int .i64 k ∧ k ≤ n ∧ sameTo xs ys k ∧ wr = w.drewN q) (fun i _ => n - (intOf i).toNat)
    case atStart => exact ⟨0, 0, rfl, Nat.zero_le _, fun j hj => by omega, rfl⟩
    case round =>
      obtain ⟨k, q, rfl, hk, hs, rfl⟩ := hrel
      by_cases hlt : k < n
      · obtain ⟨g, rfl, _, hc⟩ := ha (by have := HN.out; omega)
        obtain ⟨g', rfl, _, hc'⟩ := hb (by have := HM.out; omega)
        have c1 := hc k (by have := HN.out; omega)
        have c2 := hc' k (by have := HM.out; omega)
        have k0 : (0 : Int) ≤ (k : Int) := by omega
        have k1 : (k : Int) < (n : Int) := by omega
        obtain ⟨x, hx⟩ : ∃ x, x = xs.getD k ⟨#[]⟩ := ⟨_, rfl⟩
        obtain ⟨y, hy⟩ : ∃ y, y = ys.getD k ⟨#[]⟩ := ⟨_, rfl⟩
        rw [← hx] at c1
        rw [← hy] at c2
        have HX : Hid _ := hx
        have HY : Hid _ := hy
        clear hx hy hc hc'
        by_cases hxy : x = y
        · have hst := sameTo_step xs ys k hs (by rw [← HX.out, ← HY.out]; exact hxy)
          subst hxy
          go_wp2_with fail
          go_quiet (fail)
          go_wp2_with fail
          go_roundw
          case rel => exact ⟨k + 1, q + nq, by go_num, by omega, hst, rfl⟩
          case measure => simp [intOf]; omega
        · have hbn : (x.toList == y.toList) = false := by
            rw [beq_eq_false_iff_ne]; intro e; apply hxy
            rw [Go.ByteArray.toList_eq, Go.ByteArray.toList_eq] at e
            exact Go.WideShapes.bytes_inj e
          have HE : Hid (eqS xs ys = false) := eqS_no xs ys k (by rw [← HX.out, ← HY.out]; exact hxy)
          go_wp2_with fail
          go_quiet (fail)
          go_wp2_with fail
          go_ret
          exact ⟨by rw [HE.out]; rfl, q + nq, drewN_two _ _ _⟩
      · have HE : Hid (eqS xs ys = true) := eqS_yes xs ys (by rw [← HN.out, ← HM.out]) (by rw [show xs.length = k from by have := HN.out; omega]; exact hs)
        go_wp2_with fail
        go_ret
        exact ⟨by rw [HE.out]; rfl, q, rfl⟩
  · have HE : Hid (eqS xs ys = false) := eqS_len xs ys (by rw [← HN.out, ← HM.out]; exact h)
    have hd : (((n : Int) != (m : Int))) = true := by rw [bne_iff_ne]; omega
    go_enter Try.func30, Try.ntmps30
    go_wp2_with fail
    go_ret
    exact ⟨by rw [HE.out]; rfl, 0, rfl⟩
end Go.Proofs.Ytdlgailodhlbmaa
/- DecM: Plain facts on figures: 'dg n' are the figures of n (none of 0), 'decS n' those that Decimal writes; the two ways of reading them back are one. -/
namespace Go.Proofs.Ytdlgailodhlbmaa.W

def dgF : Nat → Nat → List UInt8
  | 0, _ => []
  | f + 1, n => if n = 0 then [] else dgF f (n / 10) ++ [UInt8.ofNat (48 + n % 10)]
def dg (n : Nat) : List UInt8 := dgF n n
theorem dgF_enough : ∀ (f g n : Nat), n ≤ f → n ≤ g → dgF f n = dgF g n
  | 0, 0, _, _, _ => rfl
  | 0, g + 1, n, h, _ => by have : n = 0 := by omega
                            subst this; simp [dgF]
  | f + 1, 0, n, _, h => by have : n = 0 := by omega
                            subst this; simp [dgF]
  | f + 1, g + 1, n, h1, h2 => by
    unfold dgF
    by_cases h : n = 0
    · rw [if_pos h, if_pos h]
    · rw [if_neg h, if_neg h, dgF_enough f g (n / 10) (by omega) (by omega)]
theorem dg_zero : dg 0 = [] := rfl
theorem dg_step (n : Nat) (h : 0 < n) : dg n = dg (n / 10) ++ [UInt8.ofNat (48 + n % 10)] := by
  unfold dg
  match n, h with
  | k + 1, _ => rw [dgF, if_neg (by omega), dgF_enough k ((k + 1) / 10) ((k + 1) / 10) (by omega) (by omega)]
def decS (n : Nat) : List UInt8 := if n = 0 then [48] else dg n
theorem dg_len : ∀ (k n : Nat), n < 10 ^ k → (dg n).length ≤ k
  | 0, n, h => by have : n = 0 := by simpa using h
                  subst this; simp [dg_zero]
  | k + 1, n, h => by
    by_cases hn : n = 0
    · subst hn; simp [dg_zero]
    · rw [dg_step n (by omega)]
      have := dg_len k (n / 10) (by rw [Nat.pow_succ] at h; omega)
      simp; omega
/-- No figures begin with a nought. -/
theorem dg_head : ∀ (f n : Nat), n ≤ f → (dg n).head? ≠ some 48
  | 0, n, h => by have : n = 0 := by omega
                  subst this; simp [dg_zero]
  | f + 1, n, h => by
    by_cases hn : n = 0
    · subst hn; simp [dg_zero]
    · rw [dg_step n (by omega)]
      by_cases h10 : n / 10 = 0
      · rw [h10, dg_zero]
        simp
        intro e
        have := congrArg UInt8.toNat e
        simp at this
        omega
      · have ih := dg_head f (n / 10) (by omega)
        have hne : dg (n / 10) ≠ [] := by rw [dg_step _ (by omega)]; simp
        cases hc : dg (n / 10) with
        | nil => exact absurd hc hne
        | cons a r => rw [hc] at ih; simpa using ih

abbrev isFig (c : UInt8) : Prop := 48 ≤ c.toNat ∧ c.toNat ≤ 57
def numV (l : List UInt8) : Nat := l.foldl (fun n c => 10 * n + (c.toNat - 48)) 0
theorem numV_snoc (l : List UInt8) (c : UInt8) : numV (l ++ [c]) = 10 * numV l + (c.toNat - 48) := by simp [numV]
theorem foldl_le (l : List UInt8) : ∀ n : Nat, n ≤ l.foldl (fun n c => 10 * n + (c.toNat - 48)) n := by
  induction l with
  | nil => intro n; simp
  | cons c l ih => intro n; simp only [List.foldl_cons]; have := ih (10 * n + (c.toNat - 48)); omega
theorem numV_app (l r : List UInt8) : numV l ≤ numV (l ++ r) := by
  unfold numV; rw [List.foldl_append]; exact foldl_le r _
theorem numV_bd : ∀ (l : List UInt8) (n : Nat), (∀ c ∈ l, isFig c) → l.foldl (fun n c => 10 * n + (c.toNat - 48)) n + 1 ≤ (n + 1) * 10 ^ l.length
  | [], n, _ => by simp
  | c :: l, n, h => by
    have hc := h c (by simp)
    have := numV_bd l (10 * n + (c.toNat - 48)) (fun x hx => h x (by simp [hx]))
    simp only [List.foldl_cons, List.length_cons, Nat.pow_succ]
    have h2 : (10 * n + (c.toNat - 48) + 1) * 10 ^ l.length ≤ ((n + 1) * 10) * 10 ^ l.length := Nat.mul_le_mul_right _ (by unfold isFig at hc; omega)
    have h3 : (n + 1) * 10 * 10 ^ l.length = (n + 1) * (10 ^ l.length * 10) := by rw [Nat.mul_assoc, Nat.mul_comm 10]
    omega
theorem numV_lt (l : List UInt8) (h : ∀ c ∈ l, isFig c) : numV l < 10 ^ l.length := by
  have := numV_bd l 0 h
  unfold numV; omega

/-- What ReadDecimal answers. -/
def rdS (l : List UInt8) : Option Nat :=
  if l.length ≤ 10 ∧ (∀ c ∈ l, isFig c) ∧ numV l ≤ 1000000000 ∧ decS (numV l) = l then some (numV l) else none

theorem rdS_no (l : List UInt8) (h : ¬ (l.length ≤ 10 ∧ (∀ c ∈ l, isFig c) ∧ numV l ≤ 1000000000 ∧ decS (numV l) = l)) : rdS l = none := by
  unfold rdS; rw [if_neg h]
theorem rdS_yes (l : List UInt8) (h1 : l.length ≤ 10) (h2 : ∀ c ∈ l, isFig c) (h3 : numV l ≤ 1000000000) (h4 : decS (numV l) = l) : rdS l = some (numV l) := by
  unfold rdS; rw [if_pos ⟨h1, h2, h3, h4⟩]
theorem rdS_nil : rdS [] = none := rdS_no _ (by rintro ⟨_, _, _, h⟩; simp [numV, decS] at h)
theorem rdS_bad (p r : List UInt8) (c : UInt8) (h : ¬ isFig c) : rdS (p ++ c :: r) = none := rdS_no _ (fun x => h (x.2.1 c (by simp)))
theorem rdS_great (p r : List UInt8) (h : 1000000000 < numV p) : rdS (p ++ r) = none := rdS_no _ (fun x => by have := numV_app p r; have := x.2.2.1; omega)
theorem rdS_nought (r : List UInt8) (h : r ≠ []) : rdS (48 :: r) = none := rdS_no _ (fun x => by
  have h4 := x.2.2.2
  unfold decS at h4
  split at h4
  · simp at h4; exact h h4
  · have := dg_head _ _ (Nat.le_refl (numV (48 :: r)))
    rw [h4] at this
    simp at this)

/-- Figures read so far, with no needless nought. -/
def good (p : List UInt8) : Prop := (∀ c ∈ p, isFig c) ∧ (p = [] ∨ p = [48] ∨ (0 < numV p ∧ dg (numV p) = p))
theorem good_nil : good [] := ⟨fun _ h => by simp at h, .inl rfl⟩
theorem fig_byte (c : UInt8) (h : isFig c) : UInt8.ofNat (48 + (c.toNat - 48)) = c := by
  unfold isFig at h
  have : 48 + (c.toNat - 48) = c.toNat := by omega
  rw [this]; simp
theorem good_step (p : List UInt8) (c : UInt8) (hp : good p) (hc : isFig c) (h0 : p = [] ∨ 0 < numV p) : good (p ++ [c]) := by
  have h0c : (∀ x ∈ p ++ [c], isFig x) := by
    intro x hx
    rcases List.mem_append.1 hx with h | h
    · exact hp.1 x h
    · simp at h; subst h; exact hc
  refine ⟨h0c, ?_⟩
  have hd : dg (numV p) = p := by
    rcases hp.2 with h | h | h
    · subst h; rfl
    · subst h; rcases h0 with h | h
      · simp at h
      · simp [numV] at h
    · exact h.2
  by_cases hz : numV (p ++ [c]) = 0
  · rw [numV_snoc] at hz
    have hp0 : p = [] := by rcases h0 with h | h
                            · exact h
                            · omega
    right; left
    subst hp0
    have : c.toNat = 48 := by unfold isFig at hc; omega
    have e : c = 48 := UInt8.toNat_inj.1 (by simpa using this)
    rw [e]; rfl
  · right; right
    refine ⟨by omega, ?_⟩
    have hlt : c.toNat - 48 < 10 := by unfold isFig at hc; omega
    rw [dg_step _ (by omega), numV_snoc]
    have e1 : (10 * numV p + (c.toNat - 48)) / 10 = numV p := by omega
    have e2 : (10 * numV p + (c.toNat - 48)) % 10 = c.toNat - 48 := by omega
    rw [e1, e2, hd, fig_byte c hc]
theorem good_yes (p : List UInt8) (hp : good p) (hne : p ≠ []) (h : numV p ≤ 1000000000) : rdS p = some (numV p) := by
  have h4 : decS (numV p) = p := by
    rcases hp.2 with e | e | e
    · exact absurd e hne
    · subst e; rfl
    · unfold decS; rw [if_neg (by omega)]; exact e.2
  refine rdS_yes p ?_ hp.1 h h4
  rcases hp.2 with e | e | e
  · subst e; simp
  · subst e; simp
  · rw [← e.2]; exact dg_len 10 _ (by omega)
theorem good_again (p r : List UInt8) (hp : good p) (hne : p ≠ []) (hr : r ≠ []) (h : numV p = 0) : rdS (p ++ r) = none := by
  rcases hp.2 with e | e | e
  · exact absurd e hne
  · subst e; exact rdS_nought r hr
  · omega
end Go.Proofs.Ytdlgailodhlbmaa.W
/- Dec: The walks of the models' Decimal, and of the two ReadDecimal. -/
namespace Go.Proofs.Ytdlgailodhlbmaa
open Go.RowKit
open Go.PlainAid (bt)

/-- The text of one byte. -/
def oneB (c : Int) : ByteArray := ⟨#[UInt8.ofNat c.toNat]⟩
theorem oneB_size (c : Int) : (oneB c).size = 1 := rfl
/-- 'string([]byte{c})'. -/
theorem one_byte (W : World) (c : Int) (h0 : 0 ≤ c) (h1 : c < 256) :
    (convert 22 9 (.slice (some ⟨W.heap.size, 0, none⟩) 1 1)).run Try.prog (W.alloc (.cells #[.int .u8 c] 5)) =
      .ok (.string (oneB c)) (W.alloc (.cells #[.int .u8 c] 5)) := by
  have := run_convert_bytes_back (P := Try.prog) (W.alloc (.cells #[.int .u8 c] 5)) 22 9 5 ⟨W.heap.size, 0, none⟩ 1 [UInt8.ofNat c.toNat] Try.underlying22 Try.underlying5 Try.underlying9
    (fun j hj => by
      have : j = 0 := by simp at hj; omega
      subst this
      have e := byte_of c h0 h1
      rw [e]
      exact cell_one_new W _ _ 0 _ rfl)
  simpa [oneB] using this

theorem dg_more {n m : Nat} {s : ByteArray} (hm : 0 < m) (h : W.dg m ++ s.data.toList = W.dg n) (c : Int) (hc : c = 48 + ((m % 10 : Nat) : Int)) :
    W.dg (m / 10) ++ (oneB c ++ s).data.toList = W.dg n := by
  rw [← h, W.dg_step m hm]
  have e : UInt8.ofNat c.toNat = UInt8.ofNat (48 + m % 10) := by rw [hc]; congr 1
  unfold oneB
  rw [e]
  simp

theorem neg_words (m : Nat) (h : m ≤ 9223372036854775808) : (-(m : Int)).tmod 10 = -((m : Int) % 10) ∧ (-(m : Int)).tdiv 10 = -((m : Int) / 10) := by
  rw [Int.neg_tmod, Int.neg_tdiv, Int.tmod_eq_emod_of_nonneg (by omega), Int.tdiv_eq_ediv_of_nonneg (by omega)]
  exact ⟨rfl, rfl⟩

end Go.Proofs.Ytdlgailodhlbmaa
/- StrsB: Slices of strings: marks that are laid into one, and found again. -/
namespace Go.Proofs.Ytdlgailodhlbmaa
open Go.RowKit
attribute [local go_sem ↓] Go.wp_at_zero Go.wp_at_succ

/-- The text of a mark. -/
def mt (k : Nat) : ByteArray := (⟨#[109]⟩ : ByteArray) ++ ⟨(W.decS k).toArray⟩

set_option maxHeartbeats 400000 in
theorem markText_any (n : Nat) (w : World) (hn : 0 < n) (hm : n ≤ 1000000000) :
    Calls Try.prog 61 #[.int .i64 n] w fun e w' => e = .returned (.string (mt n)) ∧ Below w.heap.size w w' := by
  have h0 : decide ((n : Int) ≤ 0) = false := by simp; omega
  have hl := W.dg_len 20 n (by omega)
  go_enter Try.func61, Try.ntmps61
  go_wp2_with fail
  go_loopw [0, 3] (fun i v wr => ∃ (m : Nat) (s : ByteArray), i = .int .i64 m ∧ v = .string s ∧ m ≤ n ∧ W.dg m ++ s.data.toList = W.dg n ∧ Below w.heap.size w wr) (fun i _ _ => (intOf i).toNat)
  case atStart => exact ⟨n, ⟨#[]⟩, rfl, rfl, Nat.le_refl _, by simp, Below.refl _ _⟩
  case round =>
    obtain ⟨m, s, rfl, rfl, hmn, hs, hb⟩ := hrel
    have HS : Hid (W.dg m ++ s.data.toList = W.dg n) := hs
    have hsz : s.size ≤ 20 := by have := congrArg List.length hs; simp at this; have e : s.data.size = s.size := rfl; omega
    clear hs
    by_cases hz : m = 0
    · subst hz
      have hst : mt n = (⟨#[109]⟩ : ByteArray) ++ s := by
        have := HS.out
        rw [W.dg_zero, List.nil_append] at this
        unfold mt W.decS
        rw [if_neg (by omega), ← this]
      have HT : Hid _ := hst
      clear hst
      go_wp2_with fail
      go_ret
      refine ⟨?_, hb⟩
      rw [HT.out]
      rfl
    · have hp : 0 < m := by omega
      have hB := hb.size
      have ho := oneB_size (48 + (m : Int) % 10)
      have hcv := one_byte wr (48 + (m : Int) % 10) (by omega) (by omega)
      go_wp2_with fail
      go_roundw
      case rel => exact ⟨m / 10, _, by go_num, rfl, by omega, dg_more hp HS.out _ (by omega), hb.alloc hB _⟩
      case measure => simp [intOf]; omega
theorem markText_int (x : Int) (w : World) (h0 : 0 < x) (h1 : x ≤ 1000000000) :
    Calls Try.prog 61 #[.int .i64 x] w fun e w' => e = .returned (.string (mt x.toNat)) ∧ Below w.heap.size w w' := by
  obtain ⟨n, rfl⟩ := Int.eq_ofNat_of_zero_le (Int.le_of_lt h0)
  exact markText_any n w (by omega) (by omega)

/-- Marks from k on. -/
def marks (k n : Nat) : List ByteArray := (List.range n).map fun j => mt (k + j)
theorem marks_len (k n : Nat) : (marks k n).length = n := by simp [marks]
theorem marks_at (k n j : Nat) (h : j < n) : (marks k n).getD j ⟨#[]⟩ = mt (k + j) := by simp [marks, List.getD, h]

set_option maxHeartbeats 400000 in
theorem heldStringS_any (a : Option Addr) (k n ca : Nat) (w : World) (ha : SRow w a (marks k n)) (hk : 0 < k) (hn : k + n ≤ 100000000) :
    Calls Try.prog 32 #[.slice a n ca, .int .i64 k] w fun e w' => e = .returned (.int .i64 (k + n : Nat)) ∧ Below w.heap.size w w' := by
  go_enter Try.func32, Try.ntmps32
  go_wp2_with fail
  go_loopw [1, 5] (fun c i wr => ∃ (j : Nat), i = .int .i64 j ∧ c = .int .i64 (k + j : Nat) ∧ j ≤ n ∧ Below w.heap.size w wr) (fun _ i _ => n - (intOf i).toNat)
  case atStart => exact ⟨0, rfl, rfl, Nat.zero_le _, Below.refl _ _⟩
  case round =>
    obtain ⟨j, rfl, rfl, hj, hb⟩ := hrel
    have hB := hb.size
    by_cases hlt : j < n
    · obtain ⟨g, rfl, hg, hc⟩ := ha (by rw [marks_len]; omega)
      have c1 := hc j (by rw [marks_len]; omega)
      rw [marks_at k n j hlt, ← hb.cell (p := ⟨g, j, none⟩) hg] at c1
      have j0 : (0 : Int) ≤ (j : Int) := by omega
      have j1 : (j : Int) < (n : Int) := by omega
      clear hc
      go_wp2_with fail
      go_region_held3 (fun w' => w'.cell? ⟨g, j, none⟩ = some (.string (mt (k + j)))) (first | go_keep | (rw [hb1.cell (p := ⟨g, j, none⟩) (by simp; omega)]; assumption)) ((go_at_call 61; refine (markText_any (k + j) _ ?_ ?_).mono ?_; (omega); (omega); rintro e w1 ⟨rfl, hb1⟩))
      all_goals go_wp2_with fail
      exact ⟨⟨j + 1, by go_num, congrArg (Value.int .i64) (by omega), by omega, hb.trans ((Below.drew (Below.refl _ _)).trans (hb1.mono hB))⟩, by simp [intOf]; omega⟩
    · have e : j = n := by omega
      subst e
      go_wp2_with fail
      go_ret
      exact ⟨rfl, hb⟩

/-- A row of strings that may be written. -/
def WRow (w : World) (g : Nat) (xs : List ByteArray) : Prop :=
  g < w.heap.size ∧ ∀ j, j < xs.length → w.cell? ⟨g, j, none⟩ = some (.string (xs.getD j ⟨#[]⟩)) ∧ w.frozen? ⟨g, j, none⟩ = false
theorem WRow.srow {w : World} {g : Nat} {xs : List ByteArray} (h : WRow w g xs) : SRow w (some ⟨g, 0, none⟩) xs := fun _ => ⟨g, rfl, h.1, fun j hj => (h.2 j hj).1⟩
theorem WRow.below {w w' : World} {g B : Nat} {xs : List ByteArray} (h : WRow w g xs) (hb : Below B w w') (hg : g < B) : WRow w' g xs :=
  ⟨Nat.lt_of_lt_of_le h.1 hb.size, fun j hj => ⟨(hb.cell (p := ⟨g, j, none⟩) hg).trans (h.2 j hj).1, (hb.frozen (p := ⟨g, j, none⟩) hg).trans (h.2 j hj).2⟩⟩
theorem WRow.set {w : World} {g : Nat} {xs : List ByteArray} (h : WRow w g xs) (i : Nat) (x : ByteArray) (hi : i < xs.length) : WRow (w.setCell ⟨g, i, none⟩ (.string x)) g (xs.set i x) := by
  refine ⟨by have := h.1; simpa [World.setCell] using this, fun j hj => ?_⟩
  rw [List.length_set] at hj
  refine ⟨?_, (World.frozen?_setCell _ _ _ _).trans (h.2 j hj).2⟩
  by_cases e : j = i
  · subst e
    rw [World.cell?_setCell_same _ _ _ (h.2 j hj).1]
    simp [List.getD, hi]
  · rw [World.cell?_setCell_other _ _ _ _ (by first | (simp; done) | (simp; omega)), (h.2 j hj).1]
    simp [List.getD, Ne.symm e]
theorem grownBy_setCell (w : World) (g i : Nat) (v : Value) : w.grownBy (w.setCell ⟨g, i, none⟩ v) (some g) :=
  ⟨rfl, rfl, rfl, by simp [World.setCell], fun k _ hk => Below.heap_setCell _ _ _ _ (fun e => hk (by rw [e]))⟩
theorem grownBy_below {w w' : World} {g : Nat} (h : Below w.heap.size w w') : w.grownBy w' (some g) := ⟨h.os, h.tape, h.output, h.size, fun k hk _ => h.block k hk⟩
theorem grownBy_two {a b c : World} {g : Nat} (h : a.grownBy b (some g)) (k : b.grownBy c (some g)) : a.grownBy c (some g) :=
  ⟨k.os.trans h.os, k.tape.trans h.tape, k.output.trans h.output, Nat.le_trans h.size k.size, fun i hi hn => (k.block i (Nat.lt_of_lt_of_le hi h.size) hn).trans (h.block i hi hn)⟩

theorem set_marks {k j : Nat} {ys : List ByteArray} (h : ∀ t, t < j → ys.getD t ⟨#[]⟩ = mt (k + t)) (hj : j < ys.length) : ∀ t, t < j + 1 → (ys.set j (mt (k + j))).getD t ⟨#[]⟩ = mt (k + t) := by
  intro t ht
  by_cases e : t = j
  · subst e; simp [List.getD, hj]
  · have := h t (by omega)
    simpa [List.getD, List.getElem?_set, Ne.symm e] using this
theorem wrow_marks {w : World} {g k n : Nat} {ys : List ByteArray} (h : WRow w g ys) (hl : ys.length = n) (hy : ∀ t, t < n → ys.getD t ⟨#[]⟩ = mt (k + t)) : WRow w g (marks k n) := by
  refine ⟨h.1, fun j hj => ?_⟩
  rw [marks_len] at hj
  have := h.2 j (by omega)
  rw [marks_at k n j hj, ← hy j hj]
  exact this
theorem markStringS_none (a : Option Addr) (k ca : Nat) (w : World) :
    Calls Try.prog 31 #[.slice a 0 ca, .int .i64 k] w fun e w' => e = .returned (.int .i64 k) ∧ w' = w := by
  go_enter Try.func31, Try.ntmps31
  go_wp2_with fail
  go_rounds 1
  go_ret
  exact ⟨rfl, rfl⟩

set_option maxHeartbeats 400000 in
theorem markStringS_any (g : Nat) (xs : List ByteArray) (k ca : Nat) (w : World) (ha : WRow w g xs) (hk : 0 < k) (hn : k + xs.length ≤ 100000000) (hca : xs.length ≤ ca) :
    Calls Try.prog 31 #[.slice (some ⟨g, 0, none⟩) xs.length ca, .int .i64 k] w fun e w' => e = .returned (.int .i64 (k + xs.length : Nat)) ∧ WRow w' g (marks k xs.length) ∧ w.grownBy w' (some g) := by
  obtain ⟨n, hnx⟩ : ∃ n, n = xs.length := ⟨_, rfl⟩
  have HN : Hid (n = xs.length) := hnx
  rw [← hnx]
  rw [← hnx] at hn hca
  clear hnx
  go_enter Try.func31, Try.ntmps31
  go_wp2_with fail
  go_loopw [1, 5] (fun c i wr => ∃ (j : Nat) (ys : List ByteArray), i = .int .i64 j ∧ c = .int .i64 (k + j : Nat) ∧ j ≤ n ∧ ys.length = n ∧ (∀ t, t < j → ys.getD t ⟨#[]⟩ = mt (k + t)) ∧ WRow wr g ys ∧ w.grownBy wr (some g)) (fun _ i _ => n - (intOf i).toNat)
  case atStart => exact ⟨0, xs, rfl, rfl, Nat.zero_le _, HN.out.symm, fun t ht => by omega, ha, grownBy_below (Below.refl _ _)⟩
  case round =>
    obtain ⟨j, ys, rfl, rfl, hj, hyl, hys, hw, hgr⟩ := hrel
    have HL : Hid (ys.length = n) := hyl
    have HY : Hid _ := hys
    clear hyl hys
    by_cases hlt : j < n
    · have j0 : (0 : Int) ≤ (j : Int) := by omega
      have j1 : (j : Int) < (n : Int) := by omega
      go_wp2_with fail
      refine (markText_any (k + j) _ (by omega) (by omega)).mono ?_
      rintro e w1 ⟨rfl, hb1⟩
      have hw1 := hw.below hb1 hw.1
      have c1 := (hw1.2 j (by have := HL.out; omega)).1
      have c2 := (hw1.2 j (by have := HL.out; omega)).2
      have hset := hw1.set j (mt (k + j)) (by have := HL.out; omega)
      have hgs := grownBy_two hgr (grownBy_two (grownBy_below hb1) (grownBy_setCell w1 g j (.string (mt (k + j)))))
      clear hw hgr hb1
      go_wp2_with fail
      go_roundw
      case rel => exact ⟨j + 1, _, by go_num, congrArg (Value.int .i64) (by omega), by omega, by rw [List.length_set]; exact HL.out, set_marks HY.out (by have := HL.out; omega), hset, hgs⟩
      case measure => simp [intOf]; omega
    · have e : j = n := by omega
      subst e
      have hfin := wrow_marks hw HL.out HY.out
      go_wp2_with fail
      go_ret
      exact ⟨rfl, hfin, hgr⟩
end Go.Proofs.Ytdlgailodhlbmaa
/- TvA: Rows of texts that a call has made. -/
namespace Go.Proofs.Ytdlgailodhlbmaa
open Go.RowKit

/-- Texts as the cells of a row. -/
def tv (l : List ByteArray) : List Value := l.map Value.string
theorem tv_snoc (l : List ByteArray) (x : ByteArray) : tv l ++ [.string x] = tv (l ++ [x]) := by simp [tv]
theorem tv_len (l : List ByteArray) : (tv l).length = l.length := by simp [tv]
theorem Try.info9 : (Try.prog.info? 9).map (fun i => (i.zero, i.size, i.bytes)) = some (some (.string ⟨#[]⟩), 1, 16) := by kernel_rfl

/-- A row of texts that a call has made: nothing of it is older than B. -/
def RowAt (w : World) (B : Nat) (a : Option Addr) (xs : List ByteArray) (cap : Nat) : Prop := xs.length ≤ cap ∧ (xs = [] ∨ ∃ g, a = some ⟨g, 0, none⟩ ∧ B ≤ g ∧ WRow w g xs)
theorem own_rowAt {w : World} {B : Nat} {v : Value} {xs : List ByteArray} (h : w.ownsRow B 9 1 v xs.length (tv xs)) : ∃ a cap, v = .slice a xs.length cap ∧ RowAt w B a xs cap := by
  have hc : ∀ g, v.ownBlock = some g → ∀ j u, (tv xs)[j]? = some u → w.cell? ((⟨g, 0, none⟩ : Addr).add j) = some u := fun g hg => h.cells hg
  have hlt := h.lt
  obtain ⟨_, ⟨rfl, h0⟩ | ⟨g, cap, cur, rfl, hB, hcur, hn, _, hsz, _⟩⟩ := h
  · have : xs = [] := List.eq_nil_of_length_eq_zero h0
    subst this
    exact ⟨none, 0, rfl, by simp, .inl rfl⟩
  · refine ⟨_, cap, rfl, hn, .inr ⟨g, rfl, hB, (hlt g rfl).2, fun j hj => ⟨?_, ?_⟩⟩⟩
    · have := hc g rfl j _ (show (tv xs)[j]? = some _ by simp [tv, hj]; rfl)
      have e : (⟨g, 0, none⟩ : Addr).add j = ⟨g, j, none⟩ := by
        cases j <;> simp [Addr.add]
      rw [e] at this
      simpa [List.getD, hj] using this
    · unfold World.frozen?
      rw [hcur]; simp
end Go.Proofs.Ytdlgailodhlbmaa
/- StrV: Rows of texts as values: what is seen of one, what an answer is, what is marked, and the laws' own functions over them. -/
namespace Go.Proofs.Ytdlgailodhlbmaa
open Go.RowKit
attribute [local go_sem ↓] Go.wp_at_zero Go.wp_at_succ

theorem tv_get (L : List ByteArray) (j : Nat) (h : j < L.length) : (tv L)[j]? = some (.string (L.getD j ⟨#[]⟩)) := by simp [tv, List.getD, h]
theorem tv_set (L : List ByteArray) (j : Nat) (x : ByteArray) : (tv L).set j (.string x) = tv (L.set j x) := by simp [tv, List.map_set]
theorem wrow_cells {w : World} {g : Nat} {L : List ByteArray} : WRow w g L ↔ WCells w g (tv L) := by
  constructor
  · intro h
    refine ⟨h.1, fun i v hv => ?_⟩
    have hi : i < L.length := by have := (List.getElem?_eq_some_iff.1 hv).1; rw [tv_len] at this; exact this
    rw [tv_get L i hi] at hv
    cases hv
    exact h.2 i hi
  · intro h
    exact ⟨h.1, fun j hj => h.2 j _ (tv_get L j hj)⟩
/-- How many bytes there are. -/
def tsum : List ByteArray → Nat
  | [] => 0
  | x :: L => x.size + tsum L
theorem tsum_mem {L : List ByteArray} {x : ByteArray} (h : x ∈ L) : x.size ≤ tsum L := by
  induction L with
  | nil => simp at h
  | cons t L ih =>
    rcases List.mem_cons.1 h with rfl | h
    · simp only [tsum]; omega
    · have := ih h; simp only [tsum]; omega
theorem tsum_append (L M : List ByteArray) : tsum (L ++ M) = tsum L + tsum M := by
  induction L with
  | nil => simp [tsum]
  | cons t L ih => simp only [List.cons_append, tsum]; omega
theorem tsum_take (L : List ByteArray) (k : Nat) (h : k < L.length) : tsum (L.take (k + 1)) = tsum (L.take k) + (L.getD k ⟨#[]⟩).size := by
  rw [List.take_succ_eq_append_getElem h, tsum_append]
  have e : L.getD k ⟨#[]⟩ = L[k] := by simp [List.getD, h]
  rw [e]; simp [tsum]
theorem tsum_le (L : List ByteArray) (k : Nat) : tsum (L.take k) ≤ tsum L := by
  have := tsum_append (L.take k) (L.drop k)
  rw [List.take_append_drop] at this
  omega
/-- Texts that a machine can hold. -/
def TFit (L : List ByteArray) : Prop := L.length + tsum L ≤ 1048576
/-- A value that is these texts. -/
def SSee (w : World) (v : Value) (L : List ByteArray) (lo hi : Nat) : Prop := ∃ (a : Option Addr) (cap : Nat), v = .slice a L.length cap ∧ RRow w a (tv L) lo hi
/-- An answer of texts: nothing, or a row that may be written. -/
def SAns (w : World) (v : Value) (L : List ByteArray) (lo hi : Nat) : Prop := ∃ (a : Option Addr) (cap : Nat), v = .slice a L.length cap ∧ L.length ≤ cap ∧ (L = [] ∨ ∃ g, a = some ⟨g, 0, none⟩ ∧ lo ≤ g ∧ g < hi ∧ WCells w g (tv L))
theorem SAns.see {w : World} {v : Value} {L : List ByteArray} {lo hi : Nat} (h : SAns w v L lo hi) : SSee w v L lo hi := by
  obtain ⟨a, cap, e, _, h1⟩ := h
  refine ⟨a, cap, e, ?_⟩
  rcases h1 with rfl | ⟨g, rfl, q1, q2, hm⟩
  · intro h; simp [tv] at h
  · exact RRow.of_wcells hm q1 q2
theorem SSee.turned {w w' : World} {v : Value} {L : List ByteArray} {lo hi lo' hi' : Nat} (h : SSee w v L lo hi) (t : Turned w w' lo' hi') (hd : hi ≤ lo' ∨ hi' ≤ lo) : SSee w' v L lo hi := by
  obtain ⟨a, cap, e, h1⟩ := h
  exact ⟨a, cap, e, h1.turned t hd⟩
theorem SSee.below {w w' : World} {v : Value} {L : List ByteArray} {lo hi : Nat} (h : SSee w v L lo hi) (hb : Below w.heap.size w w') : SSee w' v L lo hi := by
  obtain ⟨a, cap, e, h1⟩ := h
  exact ⟨a, cap, e, h1.below hb⟩
theorem SAns.turned {w w' : World} {v : Value} {L : List ByteArray} {lo hi lo' hi' : Nat} (h : SAns w v L lo hi) (t : Turned w w' lo' hi') (hd : hi ≤ lo' ∨ hi' ≤ lo) : SAns w' v L lo hi := by
  obtain ⟨a, cap, e, hc, h1⟩ := h
  refine ⟨a, cap, e, hc, ?_⟩
  rcases h1 with rfl | ⟨g, rfl, q1, q2, hm⟩
  · exact .inl rfl
  · exact .inr ⟨g, rfl, q1, q2, hm.turned t (by omega)⟩
theorem SAns.below {w w' : World} {v : Value} {L : List ByteArray} {lo hi : Nat} (h : SAns w v L lo hi) (hb : Below w.heap.size w w') : SAns w' v L lo hi := by
  obtain ⟨a, cap, e, hc, h1⟩ := h
  refine ⟨a, cap, e, hc, ?_⟩
  rcases h1 with rfl | ⟨g, rfl, q1, q2, hm⟩
  · exact .inl rfl
  · exact .inr ⟨g, rfl, q1, q2, hm.grow hb⟩
theorem SAns.empty (w : World) (a : Option Addr) (cap lo hi : Nat) : SAns w (.slice a 0 cap) [] lo hi := ⟨a, cap, rfl, Nat.zero_le _, .inl rfl⟩
theorem SAns.srow {w : World} {v : Value} {L : List ByteArray} {lo hi : Nat} (h : SAns w v L lo hi) : ∃ a cap, v = .slice a L.length cap ∧ SRow w a L := by
  obtain ⟨a, cap, e, _, h1⟩ := h
  refine ⟨a, cap, e, ?_⟩
  rcases h1 with rfl | ⟨g, rfl, _, _, hm⟩
  · intro h; simp at h
  · exact (wrow_cells.2 hm).srow
/-- What an answer of texts is: new memory alone. -/
def SPost (L : List ByteArray) (w : World) (e : Ending) (w' : World) : Prop := ∃ v, e = .returned v ∧ SAns w' v L w.heap.size w'.heap.size ∧ Below w.heap.size w w'
theorem own_sans {w w' : World} {v : Value} {L : List ByteArray} {n : Nat} (hn : L.length = n) (h : w'.ownsRow w.heap.size 9 1 v n (tv L)) : SAns w' v L w.heap.size w'.heap.size := by
  have h' := h
  rw [← hn] at h'
  obtain ⟨a, cap, rfl, hc, h1⟩ := own_rowAt h'
  refine ⟨a, cap, rfl, hc, ?_⟩
  rcases h1 with rfl | ⟨g, rfl, q1, hm⟩
  · exact .inl rfl
  · exact .inr ⟨g, rfl, q1, hm.1, wrow_cells.1 hm⟩
theorem infoTextG : (Try.prog.info? 9).map (fun i => (i.zero, i.size, i.bytes)) = some (some (.string ⟨#[]⟩), 1, 16) := by kernel_rfl
set_option maxHeartbeats 1000000 in
theorem toStringS_any (a : Option Addr) (xs : List ByteArray) (cap : Nat) (w : World) (hr : CRow w a (tv xs)) (hl : xs.length ≤ 1048576) :
    Calls Try.prog 29 #[.slice a xs.length cap] w fun e w' => ∃ g, e = .returned (.slice (some ⟨g, 0, none⟩) xs.length xs.length) ∧ w.heap.size ≤ g ∧ WCells w' g (tv xs) ∧ Below w.heap.size w w' := by
  obtain ⟨i0, hi, hz0, hz1, hz2⟩ := info_parts infoTextG
  have HR : Hid (CRow w a (tv xs)) := hr
  clear hr
  go_enter Try.func29, Try.ntmps29
  go_wp2_with (at_make; refine wpList_make_full _ rfl _ _ 24 rfl w.heap.size 9 i0 _ 1 Try.underlying24 hi hz0 hz1 .i64 .i64 _ _ xs.length rfl rfl (by omega) (by omega) ?b2 ?b3 ?b4 ?_)
  case b2 => rw [hz2]; omega
  case b3 => unfold maxLen; omega
  case b4 => omega
  intro wm hownm hgrm
  have hbm : Below w.heap.size w wm := (Below.refl _ _).grown hgrm (Nat.le_refl _) (fun j hj => by simp at hj)
  have hrow : WCells wm w.heap.size (tv (List.replicate xs.length ⟨#[]⟩)) := by
    have h := own_wcells hownm
    have e : (madeCells #[Value.string ⟨#[]⟩] (xs.length * 1)).toList = tv (List.replicate xs.length ⟨#[]⟩) := by rw [toList_madeCells_one]; simp [tv]
    rw [Nat.mul_one] at e
    first | (rw [e] at h; exact h) | (rw [Nat.mul_one, e] at h; exact h)
  have HRW : Shut (WCells wm w.heap.size (tv (List.replicate xs.length ⟨#[]⟩))) := ⟨hrow⟩
  clear hownm hgrm hrow
  go_wp2_with fail
  go_loopw [4] (fun i wr => ∃ (k : Nat) (ys : List ByteArray), i = .int .i64 k ∧ k ≤ xs.length ∧ ys.length = xs.length ∧ ys.take k = xs.take k ∧ Shut (WCells wr w.heap.size (tv ys)) ∧ Below w.heap.size w wr) (fun i _ => xs.length - (intOf i).toNat)
  case atStart => exact ⟨0, _, rfl, by omega, by simp, by simp, HRW, hbm⟩
  case round =>
    clear hbm
    obtain ⟨k, ys, rfl, hk, hyl, hyt, hw, hb⟩ := hrel
    have HY : Hid (ys.length = xs.length ∧ ys.take k = xs.take k) := ⟨hyl, hyt⟩
    have HB : Hid (Below w.heap.size w wr) := hb
    by_cases hlt : k < xs.length
    · obtain ⟨b, off, rfl, lb, hc⟩ := HR.out (by rw [tv_len]; omega)
      have d0 := hc k _ (tv_get xs k hlt)
      rw [← hb.cell (p := ⟨b, off + k, none⟩) lb] at d0
      obtain ⟨x, hx⟩ : ∃ x, x = xs.getD k ⟨#[]⟩ := ⟨_, rfl⟩
      rw [← hx] at d0
      have HXE : Hid (x = xs.getD k ⟨#[]⟩) := hx
      have k0 : (0 : Int) ≤ (k : Int) := by omega
      have k1 : (k : Int) < (xs.length : Int) := by omega
      obtain ⟨c0, z0⟩ := hw.out.2 k _ (tv_get ys k (by omega))
      have hset := hw.out.set k (.string x) (by rw [tv_len]; omega)
      rw [tv_set] at hset
      have HS : Shut (WCells (wr.setCell ⟨w.heap.size, k, none⟩ (.string x)) w.heap.size (tv (ys.set k x))) := ⟨hset⟩
      clear hc hx hset hb hyl hyt
      go_wp2_with fail
      all_goals
        refine ⟨⟨k + 1, ys.set k x, by go_num, by omega, by rw [List.length_set]; exact HY.out.1, ?_, ⟨HS.out⟩, HB.out.setCell (p := ⟨w.heap.size, k, none⟩) (Nat.le_refl _) _⟩, by simp [intOf]; omega⟩
        have hky : k < (ys.set k x).length := by rw [List.length_set]; have := HY.out.1; omega
        rw [List.take_succ_eq_append_getElem hky, List.take_succ_eq_append_getElem hlt, List.take_set_of_le (Nat.le_refl _), List.getElem_set_self, HY.out.2, HXE.out]
        simp [List.getD, hlt]
    · have e : k = xs.length := by omega
      have hlt' : ¬ (k : Int) < (xs.length : Int) := by omega
      have hfin : ys = xs := by
        have h := HY.out.2
        rw [e, List.take_length, List.take_of_length_le (by rw [HY.out.1]; exact Nat.le_refl _)] at h
        exact h
      have HF : Shut (WCells wr w.heap.size (tv xs)) := ⟨by rw [← hfin]; exact hw.out⟩
      clear hfin hw hb hyl hyt e
      go_wp2_with fail
      go_ret
      exact ⟨_, rfl, Nat.le_refl _, HF.out, HB.out⟩
theorem toStringS_val {w : World} {v : Value} {L : List ByteArray} {lo hi : Nat} (h : SSee w v L lo hi) (hf : TFit L) : Calls Try.prog 29 #[v] w fun e w' => SPost L w e w' := by
  obtain ⟨a, cap, rfl, h1⟩ := h
  refine (toStringS_any a L cap w h1.crow (by unfold TFit at hf; omega)).mono ?_
  rintro e w' ⟨g, rfl, hg, hc, hb⟩
  exact ⟨_, rfl, ⟨_, _, rfl, Nat.le_refl _, .inr ⟨g, rfl, hg, hc.1, hc⟩⟩, hb⟩
theorem eqStringS_val {w : World} {v u : Value} {L : List ByteArray} {lo hi lo' hi' : Nat} (h : SAns w v L lo hi) (k : SAns w u L lo' hi') (hf : L.length ≤ 100000000) : Calls Try.prog 30 #[v, u] w fun e w' => e = .returned (.bool true) ∧ Below w.heap.size w w' := by
  obtain ⟨a, cap, rfl, h1⟩ := h.srow
  obtain ⟨b, cap', rfl, h2⟩ := k.srow
  refine (eqStringS_any a b L L cap cap' w h1 h2 hf hf).mono ?_
  rintro e w' ⟨rfl, q, rfl⟩
  exact ⟨by unfold eqS; simp, ⟨rfl, rfl, rfl, Nat.le_refl _, fun _ _ => rfl⟩⟩
theorem markStringS_val {w : World} {v : Value} {L : List ByteArray} {lo hi : Nat} (k : Nat) (h : SAns w v L lo hi) (h0 : 0 < k) (hk : k + L.length ≤ 100000000) :
    Calls Try.prog 31 #[v, .int .i64 k] w fun e w' => e = .returned (.int .i64 (k + L.length : Nat)) ∧ SAns w' v (marks k L.length) lo hi ∧ Turned w w' lo hi := by
  obtain ⟨a, cap, rfl, hc, h1⟩ := h
  rcases h1 with rfl | ⟨g, rfl, q1, q2, hm⟩
  · refine (markStringS_none a k cap w).mono ?_
    rintro e w' ⟨rfl, rfl⟩
    exact ⟨rfl, ⟨a, cap, rfl, Nat.zero_le _, .inl rfl⟩, Turned.refl _ _ _⟩
  · refine (markStringS_any g L k cap w (wrow_cells.2 hm) h0 hk hc).mono ?_
    rintro e w' ⟨rfl, hw, hg⟩
    exact ⟨rfl, ⟨_, cap, by rw [marks_len], by rw [marks_len]; exact hc, .inr ⟨g, rfl, q1, q2, wrow_cells.1 hw⟩⟩, Turned.of_grown hg q1 q2⟩
theorem heldStringS_val {w : World} {v : Value} {k n lo hi : Nat} (h : SAns w v (marks k n) lo hi) (h0 : 0 < k) (hk : k + n ≤ 100000000) :
    Calls Try.prog 32 #[v, .int .i64 k] w fun e w' => e = .returned (.int .i64 (k + n : Nat)) ∧ Below w.heap.size w w' := by
  obtain ⟨a, cap, rfl, h1⟩ := h.srow
  rw [marks_len]
  exact heldStringS_any a k n cap w h1 h0 hk
end Go.Proofs.Ytdlgailodhlbmaa
/- BRowM: Rows of bytes that may be written: of a call's own, and made of a text. -/
namespace Go.Proofs.Ytdlgailodhlbmaa
open Go.RowKit

/-- A row of bytes that may be written. -/
def BRow (w : World) (g : Nat) (l : List UInt8) : Prop :=
  g < w.heap.size ∧ ∀ j, j < l.length → w.cell? ⟨g, j, none⟩ = some (.int .u8 ((l.getD j 0).toNat : Int)) ∧ w.frozen? ⟨g, j, none⟩ = false
theorem BRow.set {w : World} {g : Nat} {l : List UInt8} (h : BRow w g l) (i : Nat) (x : UInt8) (hi : i < l.length) : BRow (w.setCell ⟨g, i, none⟩ (.int .u8 (x.toNat : Int))) g (l.set i x) := by
  refine ⟨by have := h.1; simpa [World.setCell] using this, fun j hj => ?_⟩
  rw [List.length_set] at hj
  refine ⟨?_, (World.frozen?_setCell _ _ _ _).trans (h.2 j hj).2⟩
  by_cases e : j = i
  · subst e
    rw [World.cell?_setCell_same _ _ _ (h.2 j hj).1]
    simp [List.getD, hi]
  · rw [World.cell?_setCell_other _ _ _ _ (by first | (simp; done) | (simp; omega)), (h.2 j hj).1]
    simp [List.getD, Ne.symm e]
theorem own_brow {w : World} {B g n cap : Nat} {l : List UInt8} (h : w.ownsRow B 5 1 (.slice (some ⟨g, 0, none⟩) n cap) n (bv l)) : BRow w g l := by
  have hc := h.cells (g := g) rfl
  have hlt := h.lt g rfl
  obtain ⟨_, ⟨h0, _⟩ | ⟨g', cap', cur, he, hB, hcur, _, _, _, _⟩⟩ := h
  · cases h0
  · have eg : g' = g := by simp at he; exact he.1.symm
    subst eg
    refine ⟨hlt.2, fun j hj => ⟨?_, ?_⟩⟩
    · have := hc j _ (show (bv l)[j]? = some _ by simp [bv, hj]; rfl)
      have e : (⟨g', 0, none⟩ : Addr).add j = ⟨g', j, none⟩ := by cases j <;> simp [Addr.add]
      rw [e] at this
      simpa [List.getD, hj] using this
    · unfold World.frozen?
      rw [hcur]; simp
theorem brow_string {w : World} {g cap : Nat} {l : List UInt8} (h : BRow w g l) :
    (convert 22 9 (.slice (some ⟨g, 0, none⟩) l.length cap)).run Try.prog w = .ok (.string ⟨l.toArray⟩) w :=
  run_convert_bytes_back w 22 9 5 ⟨g, 0, none⟩ cap l Try.underlying22 Try.underlying5 Try.underlying9 (fun j hj => by
    have e : (⟨g, 0, none⟩ : Addr).add j = ⟨g, j, none⟩ := by cases j <;> simp [Addr.add]
    rw [e, (h.2 j hj).1]
    simp [List.getD, hj])
/-- The bytes of a text, in a block of their own. -/
theorem bytes_made (w : World) (s : ByteArray) : ∃ (w' : World) (c : Nat), (convert 9 22 (.string s)).run Try.prog w = .ok (.slice (some ⟨w.heap.size, 0, none⟩) s.size c) w' ∧ BRow w' w.heap.size s.data.toList ∧ Below w.heap.size w w' := by
  refine ⟨_, _, run_bytes_of_string w 9 22 5 s Try.underlying9 Try.underlying22 Try.underlying5, ⟨?_, fun j hj => ⟨?_, ?_⟩⟩, ?_⟩
  · show w.heap.size < (w.heap.push _).size
    simp
  · rw [show w.heap.size = w.drew.heap.size from rfl, World.cell?_alloc_mark]
    have hj' : j < s.data.size := by simpa using hj
    unfold bytesRow
    rw [Array.getElem?_append_left (by simpa using hj')]
    simp only [Array.getElem?_map, List.getD, Array.getElem?_toList]
    rw [Array.getElem?_eq_getElem hj']
    rfl
  · rw [show w.heap.size = w.drew.heap.size from rfl, World.frozen?_alloc_mark]
    have hj' : j < s.data.size := by simpa using hj
    have h2 : j < (bytesRow s (grownCap w s.size 0 5)).size := by unfold bytesRow; rw [Array.size_append, Array.size_map]; omega
    rw [decide_eq_false (show ¬ (bytesRow s (grownCap w s.size 0 5)).size ≤ j by omega)]
    rfl
  · exact (Below.drew (Below.refl _ _)).alloc (Nat.le_refl _) _
end Go.Proofs.Ytdlgailodhlbmaa
/- HexM: Plain facts on hexadecimal figures. -/
namespace Go.Proofs.Ytdlgailodhlbmaa.W
open Go.PlainAid (bt)

/-- The figure of a number below 16. -/
def hfI (x : Int) : Int := if x < 10 then 48 + x else 87 + x
theorem hfI_bd (x : Int) (h0 : 0 ≤ x) (h1 : x < 16) : 0 ≤ hfI x ∧ hfI x < 256 := by unfold hfI; split <;> omega
def hf (n : Nat) : UInt8 := UInt8.ofNat (hfI n).toNat
theorem hf_toNat (n : Nat) (h : n < 16) : ((hf n).toNat : Int) = hfI n := by
  have := hfI_bd n (by omega) (by omega)
  unfold hf; simp; omega
def hexL (l : List UInt8) : List UInt8 := l.flatMap fun b => [hf (b.toNat / 16), hf (b.toNat % 16)]
theorem hexL_len (l : List UInt8) : (hexL l).length = 2 * l.length := by
  induction l with
  | nil => rfl
  | cons b l ih => simp [hexL] at ih ⊢; omega
theorem hexL_snoc (l : List UInt8) (b : UInt8) : hexL (l ++ [b]) = hexL l ++ [hf (b.toNat / 16), hf (b.toNat % 16)] := by simp [hexL]

/-- The first k bytes of a text. -/
def firstK (s : ByteArray) (k : Nat) : List UInt8 := s.data.toList.take k
theorem firstK_len (s : ByteArray) (k : Nat) (h : k ≤ s.size) : (firstK s k).length = k := by
  have e : s.data.size = s.size := rfl
  simp [firstK]; omega
theorem firstK_all (s : ByteArray) (k : Nat) (h : s.size ≤ k) : firstK s k = s.data.toList := by
  have e : s.data.size = s.size := rfl
  unfold firstK; exact List.take_of_length_le (by simp; omega)
theorem firstK_step (s : ByteArray) (k : Nat) (h : k < s.size) : ∃ b : UInt8, firstK s (k + 1) = firstK s k ++ [b] ∧ bt s k = (b.toNat : Int) := by
  refine ⟨s[k], ?_, ?_⟩
  · unfold firstK; rw [List.take_succ_eq_append_getElem (by simpa using h)]; rfl
  · unfold bt; rw [dif_pos h]
end Go.Proofs.Ytdlgailodhlbmaa.W
namespace Go.Proofs.Ytdlgailodhlbmaa
open Go.RowKit
open Go.PlainAid (bt)
theorem bt_words (s : ByteArray) (k : Nat) : IntKind.i64.wrap (bt s k) = bt s k ∧ (bt s k).tdiv 16 = bt s k / 16 ∧ IntKind.i64.wrap (bt s k / 16) = bt s k / 16 ∧ (bt s k).tmod 16 = bt s k % 16 ∧ IntKind.i64.wrap (bt s k % 16) = bt s k % 16 := by
  have b0 := Go.PlainAid.bt_nonneg s k
  have b1 := Go.PlainAid.bt_le s k
  refine ⟨IntWalk.i64_in _ ⟨by omega, by omega⟩, Int.tdiv_eq_ediv_of_nonneg b0, IntWalk.i64_in _ ⟨by omega, by omega⟩, Int.tmod_eq_emod_of_nonneg b0, IntWalk.i64_in _ ⟨by omega, by omega⟩⟩
theorem bt_words8 (s : ByteArray) (k : Nat) : IntKind.u8.wrap (bt s k / 16) = bt s k / 16 ∧ IntKind.u8.wrap (bt s k % 16) = bt s k % 16 := by
  have b0 := Go.PlainAid.bt_nonneg s k
  have b1 := Go.PlainAid.bt_le s k
  exact ⟨IntWalk.u8_in _ ⟨by omega, by omega⟩, IntWalk.u8_in _ ⟨by omega, by omega⟩⟩
/-- A byte of a string. -/
theorem index_str (s : ByteArray) (k : Nat) (h : k < s.size) (w : World) :
    (Instr.index 9 (.string s) (.int .i64 (k : Int))).run Try.prog w = .ok (.int .u8 (bt s k)) w := by
  have hb := Go.PlainAid.get_bt s k h
  rw [run_index_string _ 9 s .i64 k Try.underlying9, dif_pos ⟨by omega, by omega⟩, ← hb]
  rfl
/-- Behind the two figures of byte k. -/
theorem hex_own {B k : Nat} {s : ByteArray} {w1 : World} {v' : Value} {x y : Int} (hk : k < s.size) (hx : x = W.hfI (bt s k / 16)) (hy : y = W.hfI (bt s k % 16))
    (h : w1.ownsRow B 5 1 v' (2 * k + 2) (bv (W.hexL (W.firstK s k)) ++ [.int .u8 x, .int .u8 y])) :
    w1.ownsRow B 5 1 v' (2 * (k + 1)) (bv (W.hexL (W.firstK s (k + 1)))) := by
  obtain ⟨b, hb, e⟩ := W.firstK_step s k hk
  have hlt := b.toNat_lt
  have e1 : Value.int .u8 x = .int .u8 ((W.hf (b.toNat / 16)).toNat : Int) := by
    rw [W.hf_toNat _ (by omega), hx, e]; congr 2
  have e2 : Value.int .u8 y = .int .u8 ((W.hf (b.toNat % 16)).toNat : Int) := by
    rw [W.hf_toNat _ (by omega), hy, e]; congr 2
  have e3 : bv (W.hexL (W.firstK s k)) ++ [.int .u8 x, .int .u8 y] = bv (W.hexL (W.firstK s (k + 1))) := by
    rw [hb, W.hexL_snoc, e1, e2]; simp [bv]
  rw [e3] at h
  exact h
end Go.Proofs.Ytdlgailodhlbmaa
