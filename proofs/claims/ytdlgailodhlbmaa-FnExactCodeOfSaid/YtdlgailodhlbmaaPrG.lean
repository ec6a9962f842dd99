/- The program's own OneM and MulM. -/
import Derived.Test.YtdlgailodhlbmaaPrF
import Derived.Test.YtdlgailodhlbmaaPrA
import Derived.Test.YtdlgailodhlbmaaMatC
namespace Go.Proofs.Ytdlgailodhlbmaa
open Go.RowKit
open W (B8 Mx)
attribute [local go_sem ↓] Go.wp_at_zero Go.wp_at_succ
attribute [local irreducible] W.gm W.xs W.mm W.gi matOk

theorem one_rows (n : Nat) : toIs (onesU 1#8 n) = (List.range n).map (oneRow n) := by
  unfold toIs onesU
  rw [List.map_map]
  apply List.map_congr_left
  intro i hi
  have hi' : i < n := List.mem_range.1 hi
  show toI (oneU 1#8 n i) = oneRow n i
  rw [← oneRow_set hi']
  unfold toI oneU
  rw [List.map_set, List.map_replicate]
  rfl
theorem onesU_ne {t : B8} {n : Nat} (h1 : 1 ≤ n) (h8 : n ≤ 8) : NE (onesU t n) := fun r hr => by
  obtain ⟨i, _, rfl⟩ := List.mem_map.1 hr
  exact ⟨fun e => by have := congrArg List.length e; rw [oneU_len] at this; simp at this; omega, by rw [oneU_len]; omega⟩
theorem MAns.broad {w : World} {v : Value} {X : List (List Int)} {lo hi lo' hi' : Nat} (h : MAns w v X lo hi) (h1 : lo' ≤ lo) (h2 : hi ≤ hi') : MAns w v X lo' hi' := by
  obtain ⟨a, cap, ss, e, hr, hc, q⟩ := h
  refine ⟨a, cap, ss, e, hr, hc, ?_⟩
  rcases q with rfl | ⟨g, rfl, hm⟩
  · exact .inl rfl
  · exact .inr ⟨g, rfl, hm.wide h1 h2⟩
theorem KAns.below_see {w w' : World} {v : Value} {K : List (List B8)} {lo hi : Nat} (h : KAns w v K lo hi) (hb : Below w.heap.size w w') : KSee w' v K lo hi := h.see.below hb
theorem BI.up' {w w1 wr : World} {v : Value} {ts : List SR} (h : BI w1 wr v ts) (hb : Below w.heap.size w w1) : BI w wr v ts :=
  ⟨⟨h.own.1, h.own.2.imp id fun ⟨g, cap, cur, e, hB, r⟩ => ⟨g, cap, cur, e, Nat.le_trans hb.size hB, r⟩⟩, fun s hs => by
    obtain ⟨b, e, q1, q2⟩ := h.rows s hs
    exact ⟨b, e, Nat.le_trans hb.size q1, q2⟩, h.apart, hb.trans (h.bel.mono hb.size)⟩
set_option maxHeartbeats 1000000 in
theorem implOneM (x : Int) (w : World) : Calls Try.prog 49 #[.int .i64 x] w fun e w' => MPost (oneX x) w e w' := by
  by_cases hx : 1 ≤ x ∧ x ≤ 8
  · obtain ⟨n, rfl⟩ := Int.eq_ofNat_of_zero_le (show 0 ≤ x by omega)
    have e0 : oneX (n : Int) = toIs (onesU 1#8 n) := by unfold oneX; rw [if_pos hx, one_rows]; rfl
    rw [e0]
    have hn1 : 1 ≤ n := by omega
    have hn8 : n ≤ 8 := by omega
    have n1 : ¬ (n : Int) < 1 := by omega
    have n2 : ¬ (8 : Int) < (n : Int) := by omega
    have HC := Shut.mk (fun W => implOnes 1#8 n W hn1 hn8)
    clear hx e0
    go_enter Try.func49, Try.ntmps49
    go_wp2_with fail
    refine (HC.out _).mono ?_
    rintro e w1 ⟨v1, rfl, ha1, hb1⟩
    have HI := Shut.mk (implIntsOf w1 v1 (onesU 1#8 n) _ _ ha1.see (onesU_ne hn1 hn8) (by simp [onesU]; omega))
    have HB1 := Shut.mk hb1
    clear ha1 hb1
    go_wp2_with fail
    refine HI.out.mono ?_
    rintro e w2 ⟨v2, rfl, ha2, hb2⟩
    have HR := Shut.mk (show MPost (toIs (onesU 1#8 n)) w (.returned v2) w2 from ⟨v2, rfl, ha2.broad HB1.out.size (Nat.le_refl _), HB1.out.trans (hb2.mono HB1.out.size)⟩)
    clear ha2 hb2
    go_wp2_with fail
    go_ret
    exact HR.out
  · have e0 : oneX x = [] := by unfold oneX; rw [if_neg hx]
    rw [e0]
    by_cases h1 : x < 1
    · clear hx
      go_enter Try.func49, Try.ntmps49
      go_wp2_with fail
      go_ret
      exact ⟨_, rfl, MAns.empty _ _ _ _ _, Below.refl _ _⟩
    · have h2 : (8 : Int) < x := by omega
      clear hx
      go_enter Try.func49, Try.ntmps49
      go_wp2_with fail
      go_ret
      exact ⟨_, rfl, MAns.empty _ _ _ _ _, Below.refl _ _⟩
set_option maxHeartbeats 1000000 in
/-- The same, with what is known of the rows that were made by append. -/
theorem implOneB (n : Nat) (w : World) (hn1 : 1 ≤ n) (hn8 : n ≤ 8) : Calls Try.prog 49 #[.int .i64 (n : Int)] w fun e w' => BPostI (oneX (n : Int)) w e w' := by
  have e0 : oneX (n : Int) = toIs (onesU 1#8 n) := by unfold oneX; rw [if_pos (by omega), one_rows]; rfl
  rw [e0]
  have n1 : ¬ (n : Int) < 1 := by omega
  have n2 : ¬ (8 : Int) < (n : Int) := by omega
  have HC := Shut.mk (fun W => implOnes 1#8 n W hn1 hn8)
  clear e0
  go_enter Try.func49, Try.ntmps49
  go_wp2_with fail
  refine (HC.out _).mono ?_
  rintro e w1 ⟨v1, rfl, ha1, hb1⟩
  have HI := Shut.mk (implIntsOfB w1 v1 (onesU 1#8 n) _ _ ha1.see (onesU_ne hn1 hn8) (by simp [onesU]; omega))
  have HB1 := Shut.mk hb1
  clear ha1 hb1
  go_wp2_with fail
  refine HI.out.mono ?_
  rintro e w2 ⟨v2, ts, rfl, hr, hbi⟩
  have HR := Shut.mk (show BPostI (toIs (onesU 1#8 n)) w (.returned v2) w2 from ⟨v2, ts, rfl, hr, hbi.up' HB1.out⟩)
  clear hr hbi
  go_wp2_with fail
  go_ret
  exact HR.out
theorem toBs_get (X : List (List Int)) (i k : Nat) : ((toBs X).getD i []).getD k 0#8 = mx X i k := by
  have e1 : (toBs X).getD i [] = toB (X.getD i []) := by
    unfold toBs
    rw [List.getD_eq_getElem?_getD, List.getElem?_map, List.getD_eq_getElem?_getD]
    cases X[i]? <;> rfl
  rw [e1]
  unfold toB mx
  rw [List.getD_eq_getElem?_getD, List.getElem?_map]
  rw [List.getD_eq_getElem?_getD (l := X.getD i [])]
  cases (X.getD i [])[k]? <;> rfl
theorem toBs_len (X : List (List Int)) : (toBs X).length = X.length := by simp [toBs]
theorem toBs_rows {X : List (List Int)} (h : matOk X = true) : ∀ r ∈ toBs X, r.length = colsOf X := fun r hr => by
  obtain ⟨x, hx, rfl⟩ := List.mem_map.1 hr
  rw [toB_len]
  exact ((matOk_iff h).2.2 x hx).1
theorem mul_rows (X Y : List (List Int)) (q : Nat) : toIs (mulU Y.length q (toBs X) (toBs Y)) = rowsX X.length q (W.mm Y.length (mx X) (mx Y)) := by
  apply List.ext_getElem (by simp [toIs, mulU, rowsX, toBs])
  intro i h1 h2
  have hi : i < X.length := by simpa [rowsX] using h2
  have hg : (toBs X)[i]'(by rw [toBs_len]; exact hi) = (toBs X).getD i [] := by rw [List.getD_eq_getElem?_getD, List.getElem?_eq_getElem]; rfl
  have e : (toIs (mulU Y.length q (toBs X) (toBs Y)))[i] = toI (accU q ((toBs X).getD i []) (toBs Y) Y.length) := by simp only [toIs, mulU, List.getElem_map, hg]
  rw [e]
  simp only [rowsX, List.getElem_map, List.getElem_range]
  unfold toI accU
  rw [List.map_map]
  apply List.map_congr_left
  intro j _
  show ((W.xs Y.length fun l => W.gm (((toBs X).getD i []).getD l 0#8) (((toBs Y).getD l []).getD j 0#8)).toNat : Int) = _
  rw [W.xs_congr (g := fun l => W.gm (mx X i l) (mx Y l j)) (fun l _ => by rw [toBs_get, toBs_get])]
  unfold W.mm
  rfl
theorem matOk_ne {X : List (List Int)} (h : matOk X = true) : NEI X ∧ X.length ≤ 1000 := by
  obtain ⟨⟨h1, h2⟩, ⟨h3, h4⟩, h5⟩ := matOk_iff h
  exact ⟨fun r hr => ⟨fun e => by have := (h5 r hr).1; rw [e] at this; simp at this; omega, by have := (h5 r hr).1; omega⟩, by omega⟩
theorem MSee.head {w : World} {v : Value} {X : List (List Int)} {lo hi : Nat} (h : MSee w v X lo hi) (hok : matOk X = true) : ∃ b off cap loc cp, v = .slice (some ⟨b, off, none⟩) X.length cap ∧ b < w.heap.size ∧ w.cell? ⟨b, off, none⟩ = some (.slice loc (colsOf X) cp) := by
  obtain ⟨a, cap, ss, rfl, hr, hm⟩ := h
  have hl : ss.length = X.length := by rw [← hr, rws_len]
  have h0 : 0 < ss.length := by have := (matOk_iff hok).1.1; omega
  obtain ⟨b, off, rfl, lb, hc⟩ := hm.at h0
  have d := hc 0 h0
  have e : ss[0].row.length = colsOf X := by
    have := (matOk_iff hok).2.2 ss[0].row (by rw [← hr]; exact List.mem_map.2 ⟨ss[0], List.getElem_mem h0, rfl⟩)
    exact this.1
  unfold srv at d
  rw [e] at d
  exact ⟨b, off, cap, _, _, by rw [hl], lb, d⟩
theorem mulU_ne {p q : Nat} {K L : List (List B8)} (h1 : 1 ≤ q) (h8 : q ≤ 8) : NE (mulU p q K L) := fun r hr => by
  obtain ⟨i, _, rfl⟩ := List.mem_map.1 hr
  exact ⟨fun e => by have := congrArg List.length e; rw [accU_len] at this; simp at this; omega, by rw [accU_len]; omega⟩
theorem MSee.slice {w : World} {v : Value} {X : List (List Int)} {lo hi : Nat} (h : MSee w v X lo hi) : ∃ a cap, v = .slice a X.length cap := by
  obtain ⟨a, cap, ss, rfl, hr, _⟩ := h
  exact ⟨a, cap, by rw [← hr, rws_len]⟩
end Go.Proofs.Ytdlgailodhlbmaa
