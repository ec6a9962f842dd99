/- Texts of ours, laid one behind the other: PrA, PrG, FieldG, CdA, CdX, CdB, FieldQ, PrO, CdC, PrH, PrI. -/
import Derived.Test.YtdlgailodhlbmaaPk7
/- PrA: The program's own MatrixOk. -/
namespace Go.Proofs.Ytdlgailodhlbmaa
open Go.RowKit
attribute [local go_sem ↓] Go.wp_at_zero Go.wp_at_succ

theorem rowOk_all {x : List Int} (h3 : ∀ k, k < x.length → numOk (x.getD k 0) = true) : rowOk x.length x = (decide (1 ≤ (x.length : Int)) && decide ((x.length : Int) ≤ 8)) := by
  unfold rowOk
  have : x.all numOk = true := by
    rw [List.all_eq_true]
    intro y hy
    obtain ⟨k, hk, rfl⟩ := List.mem_iff_getElem.1 hy
    have := h3 k hk
    simpa [List.getD, hk] using this
  rw [this, decide_eq_true rfl, Bool.true_and, Bool.and_true]
set_option maxHeartbeats 1000000 in
theorem implRowOk (a : Option Addr) (xs : List Int) (cap : Nat) (w : World) (hr : CRow w a (ics xs)) (hl : xs.length ≤ 1048576) :
    Calls Try.prog 71 #[.slice a xs.length cap] w fun e w' => e = .returned (.bool (rowOk xs.length xs)) ∧ w' = w := by
  have HR : Hid (CRow w a (ics xs)) := hr
  clear hr
  obtain ⟨R, hR⟩ : ∃ R, R = rowOk xs.length xs := ⟨_, rfl⟩
  rw [← hR]
  have HRR : Hid (R = rowOk xs.length xs) := hR
  clear hR
  go_enter Try.func71, Try.ntmps71
  go_wp2_with fail
  go_loop [7] (fun i => ∃ k : Nat, i = .int .i64 k ∧ k ≤ xs.length ∧ ∀ u, u < k → numOk (xs.getD u 0) = true) (fun i => xs.length - (intOf i).toNat)
  case atStart => exact ⟨0, rfl, Nat.zero_le _, fun u h => by omega⟩
  case round =>
    obtain ⟨k, rfl, hk, hnum⟩ := hrel
    have HNUM : Hid (∀ u, u < k → numOk (xs.getD u 0) = true) := hnum
    clear hnum
    by_cases hlt : k < xs.length
    · obtain ⟨b, off, rfl, lb, hc⟩ := crow_int HR.out (by omega)
      have d0 := hc k hlt
      obtain ⟨y, hy⟩ : ∃ y, y = xs.getD k 0 := ⟨_, rfl⟩
      have HY : Hid (y = xs.getD k 0) := hy
      rw [← hy] at d0
      have k0 : (0 : Int) ≤ (k : Int) := by omega
      have k1 : (k : Int) < (xs.length : Int) := by omega
      clear hc hy
      by_cases c0 : y < 0
      · have HNO : Hid (R = false) := by rw [HRR.out]; exact rowOk_num hlt (by rw [← HY.out]; unfold numOk; rw [decide_eq_false (by omega), Bool.false_and])
        go_wp2_with fail
        go_ret
        exact ⟨by rw [HNO.out]; rfl, rfl⟩
      · by_cases c1 : (255 : Int) < y
        · have HNO : Hid (R = false) := by rw [HRR.out]; exact rowOk_num hlt (by rw [← HY.out]; unfold numOk; rw [decide_eq_false (p := y ≤ 255) (by omega), Bool.and_false])
          go_wp2_with fail
          go_ret
          exact ⟨by rw [HNO.out]; rfl, rfl⟩
        · have HQ : Hid (numOk (xs.getD k 0) = true) := by rw [← HY.out]; unfold numOk; rw [decide_eq_true (by omega), decide_eq_true (by omega)]; rfl
          go_wp2_with fail
          go_round
          case rel => exact ⟨k + 1, by go_num, by omega, fun u hu => by
            by_cases e : u = k
            · subst e; exact HQ.out
            · exact HNUM.out u (by omega)⟩
          case measure => simp [intOf]; omega
    · have hlt' : ¬ (k : Int) < (xs.length : Int) := by omega
      have HE : Hid (R = (decide (1 ≤ (xs.length : Int)) && decide ((xs.length : Int) ≤ 8))) := by rw [HRR.out]; exact rowOk_all fun u hu => HNUM.out u (by omega)
      by_cases c0 : (1 : Int) ≤ (xs.length : Int)
      · by_cases c1 : (xs.length : Int) ≤ 8
        · have HV : Hid (R = true) := by rw [HE.out, decide_eq_true c0, decide_eq_true c1]; exact rfl
          go_wp2_with fail
          go_ret
          exact ⟨by rw [HV.out]; rfl, rfl⟩
        · have HV : Hid (R = false) := by rw [HE.out, decide_eq_true c0, decide_eq_false c1]; exact rfl
          go_wp2_with fail
          go_ret
          exact ⟨by rw [HV.out]; rfl, rfl⟩
      · have HV : Hid (R = false) := by rw [HE.out, decide_eq_false c0]; exact rfl
        go_wp2_with fail
        go_ret
        exact ⟨by rw [HV.out]; rfl, rfl⟩
set_option maxRecDepth 100000 in
set_option maxHeartbeats 2000000 in
theorem implMatrixOk (w : World) (v : Value) (X : List (List Int)) (lo hi : Nat) (hs : MSee w v X lo hi) (hf : MFit X) :
    Calls Try.prog 54 #[v] w fun e w' => e = .returned (.bool (matOk X)) ∧ Below w.heap.size w w' := by
  obtain ⟨a, cap, ss, rfl, hr, hm⟩ := hs
  obtain ⟨hl, hrl, _, _⟩ := rows_fit hr hf
  have HM : Hid (MR w a ss lo hi) := hm
  have HX : Hid (rws ss = X ∧ ∀ s ∈ ss, s.row.length ≤ 1048576) := ⟨hr, hrl⟩
  obtain ⟨n, hn⟩ : ∃ n, n = ss.length := ⟨_, rfl⟩
  have HN : Hid (n = ss.length ∧ X.length = n) := ⟨hn, by rw [← hr, rws_len, hn]⟩
  rw [← hn]
  rw [← hn] at hl
  clear hm hr hrl hf hn
  obtain ⟨c, hc⟩ : ∃ c, c = (X.headD []).length := ⟨_, rfl⟩
  have HC : Hid (c = (X.headD []).length) := hc
  obtain ⟨R, hR⟩ : ∃ R, R = matOk X := ⟨_, rfl⟩
  rw [← hR]
  have HRR : Hid (R = matOk X) := hR
  clear hc hR
  by_cases n1 : (n : Int) < 1
  · have HNO : Hid (R = false) := by
      rw [HRR.out]; unfold matOk; rw [HN.out.2, decide_eq_false (p := (1 : Int) ≤ (n : Int)) (by omega), Bool.false_and, Bool.and_false]; exact rfl
    go_enter Try.func54, Try.ntmps54
    go_wp2_with fail
    go_ret
    exact ⟨by rw [HNO.out]; rfl, Below.refl _ _⟩
  by_cases n2 : (8 : Int) < (n : Int)
  · have HNO : Hid (R = false) := by
      rw [HRR.out]; unfold matOk; rw [HN.out.2, decide_eq_false (p := (n : Int) ≤ 8) (by omega), Bool.and_false, Bool.and_false]; exact rfl
    go_enter Try.func54, Try.ntmps54
    go_wp2_with fail
    go_ret
    exact ⟨by rw [HNO.out]; rfl, Below.refl _ _⟩
  go_enter Try.func54, Try.ntmps54
  go_wp2_with fail
  go_loopw [15] (fun i wr => ∃ (k : Nat), i = .int .i64 k ∧ k ≤ n ∧ (∀ j (h : j < ss.length), j < k → rowOk c ss[j].row = true) ∧ Below w.heap.size w wr) (fun i _ => n - (intOf i).toNat)
  case atStart => exact ⟨0, rfl, by omega, fun j _ h => by omega, Below.refl _ _⟩
  case round =>
    obtain ⟨k, rfl, hk, hok, hbl⟩ := hrel
    obtain ⟨wo, rfl⟩ : ∃ wo, wo = wr := ⟨_, rfl⟩
    have HOK : Hid (∀ j (h : j < ss.length), j < k → rowOk c ss[j].row = true) := hok
    clear hok
    by_cases hlt : k < n
    · have hls : k < ss.length := by have := HN.out.1; omega
      have h0s : 0 < ss.length := by omega
      have HM' := HM.out.below hbl
      obtain ⟨b, off, rfl, lb, hcell⟩ := HM'.at h0s
      have d1 := hcell k hls
      have d0 : wo.cell? ⟨b, off, none⟩ = some (srv ss[0]) := hcell 0 h0s
      have hhead : (ss[0].row).length = c := by
        rw [HC.out, ← HX.out.1]
        have : (rws ss).headD [] = ss[0].row := by cases ss with | nil => simp at h0s | cons s t => rfl
        rw [this]
      have hrr := (HM'.2 ss[k] (List.getElem_mem hls)).crow
      have hmem : ss[k].row ∈ X := by rw [← HX.out.1]; exact List.mem_map.2 ⟨ss[k], List.getElem_mem hls, rfl⟩
      have hle := HX.out.2 ss[k] (List.getElem_mem hls)
      have HSK : Hid (∀ x : List Int, ss[k].row = x → rowOk c x = true → ∀ j (h : j < ss.length), j < k + 1 → rowOk c ss[j].row = true) := fun x hx hxo j hj hjk => by
        by_cases e : j = k
        · subst e; rw [hx]; exact hxo
        · exact HOK.out j hj (by omega)
      unfold srv at d0 d1
      rw [hhead] at d0
      generalize ss[0].loc = loc0 at d0
      generalize ss[0].cap = cp0 at d0
      obtain ⟨row, hrow⟩ : ∃ row, row = ss[k].row := ⟨_, rfl⟩
      have HROW : Hid (ss[k].row = row ∧ row ∈ X) := ⟨hrow.symm, by rw [hrow]; exact hmem⟩
      rw [← hrow] at d1 hrr hle
      generalize ss[k].loc = loc at *
      generalize ss[k].cap = cp at *
      have k0 : (0 : Int) ≤ (k : Int) := by omega
      have k1 : (k : Int) < (n : Int) := by omega
      have n0 : (0 : Int) < (n : Int) := by omega
      have HB : Hid (Below w.heap.size w wo) := hbl
      have hcall := implRowOk loc row cp wo hrr hle
      clear hrow hcell hhead hmem hrr HM' hbl
      by_cases hlen : row.length = c
      · subst hlen
        have e1 : ((row.length : Int) != (row.length : Int)) = false := by simp
        obtain ⟨r, hrb⟩ : ∃ r, rowOk row.length row = r := ⟨_, rfl⟩
        rw [hrb] at hcall
        have HRB : Hid (rowOk row.length row = r) := hrb
        clear hrb
        cases r
        · have HNO : Hid (R = false) := by rw [HRR.out]; exact matOk_no HROW.out.2 (by rw [← HC.out]; exact HRB.out)
          go_wp2_with fail
          refine hcall.mono ?_
          rintro e w5 ⟨rfl, rfl⟩
          go_wp2_with fail
          go_ret
          exact ⟨by rw [HNO.out]; rfl, HB.out⟩
        · go_wp2_with fail
          refine hcall.mono ?_
          rintro e w5 ⟨rfl, rfl⟩
          go_wp2_with fail
          go_roundw
          case rel => exact ⟨k + 1, by go_num, by omega, HSK.out row HROW.out.1 HRB.out, HB.out⟩
          case measure => simp [intOf]; omega
      · have e1 : ((row.length : Int) != (c : Int)) = true := by rw [bne_iff_ne]; omega
        have HNO : Hid (R = false) := by rw [HRR.out]; exact matOk_no HROW.out.2 (by rw [← HC.out]; unfold rowOk; rw [decide_eq_false hlen]; rfl)
        go_wp2_with fail
        go_ret
        exact ⟨by rw [HNO.out]; rfl, HB.out⟩
    · have e : k = n := by omega
      have HEND : Hid (R = true) := by
        have h1 : ∀ x ∈ X, rowOk (X.headD []).length x = true := fun x hx => by
          rw [← HX.out.1] at hx
          obtain ⟨s, hs, rfl⟩ := List.mem_map.1 hx
          obtain ⟨j, hj, rfl⟩ := List.mem_iff_getElem.1 hs
          rw [← HC.out]
          exact HOK.out j hj (by have := HN.out.1; omega)
        have := matOk_end h1
        rw [HN.out.2, decide_eq_true (p := (1 : Int) ≤ (n : Int)) (by omega), decide_eq_true (p := (n : Int) ≤ 8) (by omega)] at this
        rw [HRR.out]
        exact this
      have HB : Hid (Below w.heap.size w wo) := hbl
      have hlt' : ¬ (k : Int) < (n : Int) := by omega
      clear hbl
      go_wp2_with fail
      go_ret
      exact ⟨by rw [HEND.out]; rfl, HB.out⟩
end Go.Proofs.Ytdlgailodhlbmaa
/- PrG: The program's own OneM and MulM. -/
namespace Go.Proofs.Ytdlgailodhlbmaa
open Go.RowKit
open W (B8 Mx)
attribute [local go_sem ↓] Go.wp_at_zero Go.wp_at_succ
attribute [local irreducible] W.gm W.xs W.mm W.gi matOk

theorem one_rows (n : Nat) : toIs (onesU 1#8 n) = (List.range n).map (oneRow n) := by
  unfold toIs onesU
  rw [List.map_map]
  apply List.map_congr_left
  intro i hi
  have hi' : i < n := List.mem_range.1 hi
  show toI (oneU 1#8 n i) = oneRow n i
  rw [← oneRow_set hi']
  unfold toI oneU
  rw [List.map_set, List.map_replicate]
  rfl
theorem onesU_ne {t : B8} {n : Nat} (h1 : 1 ≤ n) (h8 : n ≤ 8) : NE (onesU t n) := fun r hr => by
  obtain ⟨i, _, rfl⟩ := List.mem_map.1 hr
  exact ⟨fun e => by have := congrArg List.length e; rw [oneU_len] at this; simp at this; omega, by rw [oneU_len]; omega⟩
theorem MAns.broad {w : World} {v : Value} {X : List (List Int)} {lo hi lo' hi' : Nat} (h : MAns w v X lo hi) (h1 : lo' ≤ lo) (h2 : hi ≤ hi') : MAns w v X lo' hi' := by
  obtain ⟨a, cap, ss, e, hr, hc, q⟩ := h
  refine ⟨a, cap, ss, e, hr, hc, ?_⟩
  rcases q with rfl | ⟨g, rfl, hm⟩
  · exact .inl rfl
  · exact .inr ⟨g, rfl, hm.wide h1 h2⟩
theorem KAns.below_see {w w' : World} {v : Value} {K : List (List B8)} {lo hi : Nat} (h : KAns w v K lo hi) (hb : Below w.heap.size w w') : KSee w' v K lo hi := h.see.below hb
theorem BI.up' {w w1 wr : World} {v : Value} {ts : List SR} (h : BI w1 wr v ts) (hb : Below w.heap.size w w1) : BI w wr v ts :=
  ⟨⟨h.own.1, h.own.2.imp id fun ⟨g, cap, cur, e, hB, r⟩ => ⟨g, cap, cur, e, Nat.le_trans hb.size hB, r⟩⟩, fun s hs => by
    obtain ⟨b, e, q1, q2⟩ := h.rows s hs
    exact ⟨b, e, Nat.le_trans hb.size q1, q2⟩, h.apart, hb.trans (h.bel.mono hb.size)⟩
set_option maxHeartbeats 1000000 in
theorem implOneM (x : Int) (w : World) : Calls Try.prog 49 #[.int .i64 x] w fun e w' => MPost (oneX x) w e w' := by
  by_cases hx : 1 ≤ x ∧ x ≤ 8
  · obtain ⟨n, rfl⟩ := Int.eq_ofNat_of_zero_le (show 0 ≤ x by omega)
    have e0 : oneX (n : Int) = toIs (onesU 1#8 n) := by unfold oneX; rw [if_pos hx, one_rows]; rfl
    rw [e0]
    have hn1 : 1 ≤ n := by omega
    have hn8 : n ≤ 8 := by omega
    have n1 : ¬ (n : Int) < 1 := by omega
    have n2 : ¬ (8 : Int) < (n : Int) := by omega
    have HC := Shut.mk (fun W => implOnes 1#8 n W hn1 hn8)
    clear hx e0
    go_enter Try.func49, Try.ntmps49
    go_wp2_with fail
    refine (HC.out _).mono ?_
    rintro e w1 ⟨v1, rfl, ha1, hb1⟩
    have HI := Shut.mk (implIntsOf w1 v1 (onesU 1#8 n) _ _ ha1.see (onesU_ne hn1 hn8) (by simp [onesU]; omega))
    have HB1 := Shut.mk hb1
    clear ha1 hb1
    go_wp2_with fail
    refine HI.out.mono ?_
    rintro e w2 ⟨v2, rfl, ha2, hb2⟩
    have HR := Shut.mk (show MPost (toIs (onesU 1#8 n)) w (.returned v2) w2 from ⟨v2, rfl, ha2.broad HB1.out.size (Nat.le_refl _), HB1.out.trans (hb2.mono HB1.out.size)⟩)
    clear ha2 hb2
    go_wp2_with fail
    go_ret
    exact HR.out
  · have e0 : oneX x = [] := by unfold oneX; rw [if_neg hx]
    rw [e0]
    by_cases h1 : x < 1
    · clear hx
      go_enter Try.func49, Try.ntmps49
      go_wp2_with fail
      go_ret
      exact ⟨_, rfl, MAns.empty _ _ _ _ _, Below.refl _ _⟩
    · have h2 : (8 : Int) < x := by omega
      clear hx
      go_enter Try.func49, Try.ntmps49
      go_wp2_with fail
      go_ret
      exact ⟨_, rfl, MAns.empty _ _ _ _ _, Below.refl _ _⟩
set_option maxHeartbeats 1000000 in
/-- The same, with what is known of the rows that were made by append. -/
theorem implOneB (n : Nat) (w : World) (hn1 : 1 ≤ n) (hn8 : n ≤ 8) : Calls Try.prog 49 #[.int .i64 (n : Int)] w fun e w' => BPostI (oneX (n : Int)) w e w' := by
  have e0 : oneX (n : Int) = toIs (onesU 1#8 n) := by unfold oneX; rw [if_pos (by omega), one_rows]; rfl
  rw [e0]
  have n1 : ¬ (n : Int) < 1 := by omega
  have n2 : ¬ (8 : Int) < (n : Int) := by omega
  have HC := Shut.mk (fun W => implOnes 1#8 n W hn1 hn8)
  clear e0
  go_enter Try.func49, Try.ntmps49
  go_wp2_with fail
  refine (HC.out _).mono ?_
  rintro e w1 ⟨v1, rfl, ha1, hb1⟩
  have HI := Shut.mk (implIntsOfB w1 v1 (onesU 1#8 n) _ _ ha1.see (onesU_ne hn1 hn8) (by simp [onesU]; omega))
  have HB1 := Shut.mk hb1
  clear ha1 hb1
  go_wp2_with fail
  refine HI.out.mono ?_
  rintro e w2 ⟨v2, ts, rfl, hr, hbi⟩
  have HR := Shut.mk (show BPostI (toIs (onesU 1#8 n)) w (.returned v2) w2 from ⟨v2, ts, rfl, hr, hbi.up' HB1.out⟩)
  clear hr hbi
  go_wp2_with fail
  go_ret
  exact HR.out
theorem toBs_get (X : List (List Int)) (i k : Nat) : ((toBs X).getD i []).getD k 0#8 = mx X i k := by
  have e1 : (toBs X).getD i [] = toB (X.getD i []) := by
    unfold toBs
    rw [List.getD_eq_getElem?_getD, List.getElem?_map, List.getD_eq_getElem?_getD]
    cases X[i]? <;> rfl
  rw [e1]
  unfold toB mx
  rw [List.getD_eq_getElem?_getD, List.getElem?_map]
  rw [List.getD_eq_getElem?_getD (l := X.getD i [])]
  cases (X.getD i [])[k]? <;> rfl
theorem toBs_len (X : List (List Int)) : (toBs X).length = X.length := by simp [toBs]
theorem toBs_rows {X : List (List Int)} (h : matOk X = true) : ∀ r ∈ toBs X, r.length = colsOf X := fun r hr => by
  obtain ⟨x, hx, rfl⟩ := List.mem_map.1 hr
  rw [toB_len]
  exact ((matOk_iff h).2.2 x hx).1
theorem mul_rows (X Y : List (List Int)) (q : Nat) : toIs (mulU Y.length q (toBs X) (toBs Y)) = rowsX X.length q (W.mm Y.length (mx X) (mx Y)) := by
  apply List.ext_getElem (by simp [toIs, mulU, rowsX, toBs])
  intro i h1 h2
  have hi : i < X.length := by simpa [rowsX] using h2
  have hg : (toBs X)[i]'(by rw [toBs_len]; exact hi) = (toBs X).getD i [] := by rw [List.getD_eq_getElem?_getD, List.getElem?_eq_getElem]; rfl
  have e : (toIs (mulU Y.length q (toBs X) (toBs Y)))[i] = toI (accU q ((toBs X).getD i []) (toBs Y) Y.length) := by simp only [toIs, mulU, List.getElem_map, hg]
  rw [e]
  simp only [rowsX, List.getElem_map, List.getElem_range]
  unfold toI accU
  rw [List.map_map]
  apply List.map_congr_left
  intro j _
  show ((W.xs Y.length fun l => W.gm (((toBs X).getD i []).getD l 0#8) (((toBs Y).getD l []).getD j 0#8)).toNat : Int) = _
  rw [W.xs_congr (g := fun l => W.gm (mx X i l) (mx Y l j)) (fun l _ => by rw [toBs_get, toBs_get])]
  unfold W.mm
  rfl
theorem matOk_ne {X : List (List Int)} (h : matOk X = true) : NEI X ∧ X.length ≤ 1000 := by
  obtain ⟨⟨h1, h2⟩, ⟨h3, h4⟩, h5⟩ := matOk_iff h
  exact ⟨fun r hr => ⟨fun e => by have := (h5 r hr).1; rw [e] at this; simp at this; omega, by have := (h5 r hr).1; omega⟩, by omega⟩
theorem MSee.head {w : World} {v : Value} {X : List (List Int)} {lo hi : Nat} (h : MSee w v X lo hi) (hok : matOk X = true) : ∃ b off cap loc cp, v = .slice (some ⟨b, off, none⟩) X.length cap ∧ b < w.heap.size ∧ w.cell? ⟨b, off, none⟩ = some (.slice loc (colsOf X) cp) := by
  obtain ⟨a, cap, ss, rfl, hr, hm⟩ := h
  have hl : ss.length = X.length := by rw [← hr, rws_len]
  have h0 : 0 < ss.length := by have := (matOk_iff hok).1.1; omega
  obtain ⟨b, off, rfl, lb, hc⟩ := hm.at h0
  have d := hc 0 h0
  have e : ss[0].row.length = colsOf X := by
    have := (matOk_iff hok).2.2 ss[0].row (by rw [← hr]; exact List.mem_map.2 ⟨ss[0], List.getElem_mem h0, rfl⟩)
    exact this.1
  unfold srv at d
  rw [e] at d
  exact ⟨b, off, cap, _, _, by rw [hl], lb, d⟩
theorem mulU_ne {p q : Nat} {K L : List (List B8)} (h1 : 1 ≤ q) (h8 : q ≤ 8) : NE (mulU p q K L) := fun r hr => by
  obtain ⟨i, _, rfl⟩ := List.mem_map.1 hr
  exact ⟨fun e => by have := congrArg List.length e; rw [accU_len] at this; simp at this; omega, by rw [accU_len]; omega⟩
theorem MSee.slice {w : World} {v : Value} {X : List (List Int)} {lo hi : Nat} (h : MSee w v X lo hi) : ∃ a cap, v = .slice a X.length cap := by
  obtain ⟨a, cap, ss, rfl, hr, _⟩ := h
  exact ⟨a, cap, by rw [← hr, rws_len]⟩
end Go.Proofs.Ytdlgailodhlbmaa
/- FieldG: The program's own InvG. -/
namespace Go.Proofs.Ytdlgailodhlbmaa
open Go.RowKit
open W (B8)
attribute [local go_sem ↓] Go.wp_at_zero Go.wp_at_succ
attribute [local irreducible] W.gm W.xt W.gp W.gi

theorem implInvG (x : Int) (w : World) : Calls Try.prog 68 #[.int .i64 x] w fun e w' => e = .returned (.int .i64 ((W.gi (g8 x)).toNat : Int)) ∧ w' = w := by
  have hc := implInverse (g8 x)
  rw [g8_nat] at hc
  have hl := b8_lt (W.gi (g8 x))
  generalize W.gi (g8 x) = R at *
  go_enter Try.func68, Try.ntmps68
  go_wp2_with fail
  refine (hc _).mono ?_
  rintro e w1 ⟨rfl, rfl⟩
  go_wp2_with fail
  go_ret
  exact ⟨rfl, rfl⟩
end Go.Proofs.Ytdlgailodhlbmaa
/- CdA: The program's own SchemaOf, sumRow, CodeOf. -/
namespace Go.Proofs.Ytdlgailodhlbmaa
open Go.RowKit
open W (B8 Mx)
attribute [local go_sem ↓] Go.wp_at_zero Go.wp_at_succ
attribute [local irreducible] W.gm W.xs W.mm W.gi mx matOk

theorem implSchemaOf (s : Int) (w : World) : Calls Try.prog 12 #[.int .i64 s] w fun e w' => SchB s w e w' := by
  cases h : schOk s with
  | true =>
    obtain rfl | rfl | rfl := sch_cases h
    all_goals
      clear h
      go_enter Try.func12, Try.ntmps12
      go_wp2_with fail
      go_ret3
      exact ⟨rfl, Below.refl _ _⟩
  | false =>
    obtain ⟨h1, h2, h3⟩ := sch_no h
    obtain ⟨e1, e2⟩ := sch_zero h
    unfold SchB
    rw [e1, e2, h]
    clear h e1 e2
    go_enter Try.func12, Try.ntmps12
    go_wp2_with fail
    go_ret3
    exact ⟨rfl, Below.refl _ _⟩
/-- A row of numbers that was made by append. -/
def RowPostI (xs : List Int) (w : World) (e : Ending) (w' : World) : Prop := ∃ v, e = .returned v ∧ w'.ownsRow w.heap.size 3 1 v xs.length (ics xs) ∧ Below w.heap.size w w'
set_option maxRecDepth 100000 in
set_option maxHeartbeats 2000000 in
theorem implSumRow (k i : Nat) (w : World) (hk : k ≤ 4) (hi : i ≤ 2) : Calls Try.prog 50 #[.int .i64 (k : Int), .int .i64 (i : Int)] w fun e w' => RowPostI (codeRow k i) w e w' := by
  obtain ⟨i1, hi1, hy0, hy1, hy2⟩ := info_parts infoIntG
  go_enter Try.func50, Try.ntmps50
  go_wp2_with fail
  go_loopw [5, 8] (fun rv jj wq => ∃ (j : Nat) (rr : Value), rr = rv ∧ jj = .int .i64 j ∧ j ≤ k ∧ Shut (wq.ownsRow w.heap.size 3 1 rr j (ics ((codeRow k i).take j))) ∧ Shut (Below w.heap.size w wq)) (fun _ jj _ => k - (intOf jj).toNat)
  case atStart => exact ⟨0, _, rfl, rfl, by omega, ⟨World.ownsRow_nil _ _ _ _⟩, ⟨Below.refl _ _⟩⟩
  case round =>
    obtain ⟨j, rr, rfl, rfl, hjk, hown, hbq⟩ := hrel
    obtain ⟨wi, rfl⟩ : ∃ wi, wi = wr := ⟨_, rfl⟩
    by_cases hjl : j < k
    · have hjl' : (j : Int) < (k : Int) := by omega
      have j0 : (0 : Int) ≤ (j : Int) := by omega
      have hx : bits .xor .i64 ((k : Int) + (i : Int)) (j : Int) = (((k + i) ^^^ j : Nat) : Int) := by
        have := i64_xor (k + i) j (by omega) (by omega)
        rw [← this]; push_cast; rfl
      have hst : ics ((codeRow k i).take (j + 1)) = ics ((codeRow k i).take j) ++ [.int .i64 ((W.gi (g8 (((k + i) ^^^ j : Nat) : Int))).toNat : Int)] := by
        have hj2 : j < (codeRow k i).length := by rw [codeRow_len]; exact hjl
        rw [List.take_succ_eq_append_getElem hj2]
        simp [codeRow, ics]
      have HINV := Shut.mk (fun W => implInvG (((k + i) ^^^ j : Nat) : Int) W)
      generalize W.gi (g8 (((k + i) ^^^ j : Nat) : Int)) = G at *
      have HS2 := Shut.mk hst
      have hs3 := hbq.out.size
      generalize (((k + i) ^^^ j : Nat) : Int) = X at *
      clear hst
      go_wp2_with fail
      refine (HINV.out _).mono ?_
      rintro e w5 ⟨rfl, rfl⟩
      have hown3 := hown.out
      clear hown HINV
      go_wp2_with (at_builtin; refine wpList_append_own _ rfl _ _ 32 rfl w.heap.size 3 i1 (.int .i64 0) 1 8 Try.underlying32 hi1 hy0 hy1 hy2 rfl (by decide) _ _ _ rfl (hown3.alloc _) ⟨w5.heap.size, 0, none⟩ 1 1 [.int .i64 (G.toNat : Int)] rfl rfl (cell_one_new _ _ _) ?c2 ?c3 ?c4 ?c5 ?_)
      case c2 => first | rfl | (intro u hu; simp at hu; subst hu; rfl)
      case c3 => unfold maxLen; omega
      case c4 => omega
      case c5 => first | omega | (simp; omega)
      intro v' w4 hown' hgrow _
      rw [← HS2.out] at hown'
      have Q1 := Shut.mk hown'
      have Q2 := Shut.mk ((hbq.out.alloc hs3 (.cells #[.int .i64 (G.toNat : Int)] 3)).grown hgrow (by simp; omega) (fun j hj => (hown3.lt j hj).1))
      clear hown' hgrow hown3 hbq
      go_wp2_with fail
      go_roundw
      case rel => exact ⟨j + 1, v', rfl, by go_num, by omega, Q1, Q2⟩
      case measure => simp [intOf]; omega
    · have e : j = k := by omega
      have hjl' : ¬ (j : Int) < (k : Int) := by omega
      have hown2 := hown.out
      rw [e, List.take_of_length_le (by rw [codeRow_len]; exact Nat.le_refl _)] at hown2
      have HF := Shut.mk hown2
      have HB := Shut.mk hbq.out
      clear hown hbq hown2 e
      go_wp2_with fail
      go_ret
      exact ⟨_, rfl, by rw [codeRow_len]; exact HF.out, HB.out⟩
theorem codeX_take' {s : Int} (h : schOk s = true) {i : Nat} (hi : i < schM s) : (codeX s).take (schK s + i + 1) = (codeX s).take (schK s + i) ++ [codeRow (schK s) i] := by
  have hl : schK s + i < (codeX s).length := by rw [codeX_len h]; omega
  rw [List.take_succ_eq_append_getElem hl]
  congr 2
  simp only [codeX_yes h]
  rw [List.getElem_append_right (by simp)]
  simp
theorem codeX_start' {s : Int} (h : schOk s = true) : (codeX s).take (schK s) = oneX (schK s : Nat) := by
  obtain ⟨b1, b2, _, _⟩ := sch_bounds h
  rw [codeX_yes h, List.take_append_of_le_length (by simp), List.take_of_length_le (by simp)]
  unfold oneX
  rw [if_pos (by omega)]; rfl
set_option maxRecDepth 100000 in
set_option maxHeartbeats 4000000 in
theorem implCodeOf (s : Int) (w : World) : Calls Try.prog 19 #[.int .i64 s] w fun e w' => MPost (codeX s) w e w' := by
  have HS := Shut.mk (fun W => implSchemaOf s W)
  cases h : schOk s with
  | false =>
    rw [codeX_no h]
    unfold SchB at HS
    rw [h] at HS
    clear h
    go_enter Try.func19, Try.ntmps19
    go_wp2_with fail
    refine (HS.out _).mono ?_
    rintro e w1 ⟨rfl, hb⟩
    have HB := Shut.mk hb
    clear hb
    go_wp2_with fail
    go_ret
    exact ⟨_, rfl, MAns.empty _ _ _ _ _, HB.out⟩
  | true =>
    obtain ⟨i0, hi0, hz0, hz1, hz2⟩ := info_parts infoRow
    unfold SchB at HS
    rw [h] at HS
    obtain ⟨b1, b2, b3, b4⟩ := sch_bounds h
    have HSTA := Shut.mk (codeX_start' h)
    have HTK := Shut.mk (fun i (hi : i < schM s) => codeX_take' h hi)
    have HLEN := Shut.mk (codeX_len h)
    clear h
    generalize schK s = k at *
    generalize schM s = m at *
    generalize codeX s = C at *
    have HONE := Shut.mk (fun W => implOneB k W (by omega) (by omega))
    go_enter Try.func19, Try.ntmps19
    go_wp2_with fail
    refine (HS.out _).mono ?_
    rintro e w0 ⟨rfl, hb0⟩
    have HB0 := Shut.mk hb0
    clear hb0
    go_wp2_with fail
    refine (HONE.out _).mono ?_
    rintro e w1 ⟨v1, ss, rfl, hr1, hbi1⟩
    have hlo : (oneX (k : Int)).length = k := by unfold oneX; rw [if_pos (by omega)]; simp
    have hls : ss.length = k := by rw [← rws_len, hr1, hlo]
    have HLS : Hid (ss.length = k) := hls
    have HBI := Shut.mk (hbi1.up' HB0.out)
    have HRW : Shut (rws ss = C.take (k + 0)) := ⟨by rw [hr1, Nat.add_zero, HSTA.out]⟩
    clear hr1 hbi1 hls hlo HONE HB0 HSTA
    go_wp2_with fail
    go_loopw [6, 19] (fun v ii wr => ∃ (i : Nat) (ts : List SR) (vv : Value), vv = v ∧ ii = .int .i64 (i : Nat) ∧ i ≤ m ∧ ts.length = k + i ∧ Shut (rws ts = C.take (k + i)) ∧ Shut (BI w wr vv ts)) (fun _ ii _ => m - (intOf ii).toNat)
    case atStart => exact ⟨0, ss, _, rfl, rfl, Nat.zero_le _, HLS.out, HRW, HBI⟩
    case round =>
      clear HBI HRW HLS
      obtain ⟨i, ts, v, rfl, rfl, him, htl, hrw, hbi⟩ := hrel
      obtain ⟨wo, rfl⟩ : ∃ wo, wo = wr := ⟨_, rfl⟩
      have HTL : Hid (ts.length = k + i) := htl
      clear htl
      by_cases hlt : i < m
      · have hlt' : (i : Int) < (m : Int) := by omega
        have k0 : (0 : Int) ≤ (i : Int) := by omega
        have HST := Shut.mk (HTK.out i hlt)
        have HSR := Shut.mk (fun W => implSumRow k i W (by omega) (by omega))
        go_wp2_with fail
        refine (HSR.out _).mono ?_
        rintro e wi ⟨rv, rfl, hown2, hbq⟩
        obtain ⟨gr, cr, rfl, hcr⟩ := own_at hown2 (by rw [codeRow_len]; omega)
        rw [codeRow_len] at hown2 hcr ⊢
        have hgr := hown2.lt gr rfl
        have HROW := Shut.mk (own_wcells hown2)
        have HBI := Shut.mk (hbi.out.newrow hbq hgr.1)
        have hsi : wo.heap.size ≤ wi.heap.size := hbq.size
        have hso := hbi.out.bel.size
        have hgr1 := hgr.1
        have hown := HBI.out.1.own
        clear hown2 hbq hbi hgr HSR
        go_wp2_with (at_builtin; refine wpList_append_own _ rfl _ _ 36 rfl w.heap.size 32 i0 (.slice none 0 0) 1 24 Try.underlying36 hi0 hz0 hz1 hz2 rfl (by decide) _ _ _ rfl (hown.alloc _) ⟨wi.heap.size, 0, none⟩ 1 1 [.slice (some ⟨gr, 0, none⟩) k cr] rfl rfl (cell_one_new _ _ _) ?c2 ?c3 ?c4 ?c5 ?_)
        case c2 => first | rfl | (intro u hu; simp at hu; subst hu; rfl)
        case c3 => unfold maxLen; have := HTL.out; omega
        case c4 => have := HTL.out; omega
        case c5 => first | omega | (simp; omega)
        intro v' w6 hown' hgrow _
        have hne : codeRow k i ≠ [] := fun e => by have := congrArg List.length e; rw [codeRow_len] at this; simp at this; omega
        have hap := HBI.out.1.append (cap := cr) (by omega) HROW.out hne (by rw [codeRow_len]; exact hcr) HBI.out.2.1 HBI.out.2.2 (by rw [codeRow_len]; exact hown') hgrow
        have HAP := Shut.mk hap
        have HR2 : Shut (rws (ts ++ [SR.mk (some ⟨gr, 0, none⟩) (codeRow k i) cr]) = C.take (k + (i + 1))) := ⟨by rw [rws_snoc, hrw.out, ← Nat.add_assoc, HST.out]⟩
        clear hap hown' hgrow hown HBI HROW hrw hne
        go_wp2_with fail
        go_roundw
        case rel => exact ⟨i + 1, _, v', rfl, by go_num, by omega, by rw [List.length_append, List.length_singleton, HTL.out]; omega, HR2, HAP⟩
        case measure => simp [intOf]; omega
      · have e : i = m := by omega
        have hlt' : ¬ (i : Int) < (m : Int) := by omega
        have HF := Shut.mk (hbi.out.fin (X := C) (by rw [hrw.out, List.take_of_length_le (by rw [HLEN.out]; omega)]))
        have HB := Shut.mk hbi.out.bel
        clear e hbi hrw
        go_wp2_with fail
        go_ret
        exact ⟨v, rfl, HF.out, HB.out⟩
end Go.Proofs.Ytdlgailodhlbmaa
/- CdX: Units and sums, plain: what the program's own ways to Encode, Decode and Rebuild come to. Nothing of the program is read here. -/
namespace Go.Proofs.Ytdlgailodhlbmaa
open Go.RowKit
open W (B8 Mx)
attribute [local irreducible] W.gm W.xs W.mm W.gi mx matOk

theorem getD_in {α : Type} {L : List α} {k : Nat} (d : α) (h : k < L.length) : L.getD k d = L[k] := by simp [List.getD, h]
theorem accB_most (row : List Int) (L : List ByteArray) : ∀ k, k ≤ L.length → (accB row L k).size = mostL (L.take k)
  | 0, _ => rfl
  | k + 1, h => by
    have hk : k < L.length := by omega
    unfold accB
    rw [addB_size, mulT_size, accB_most row L k (by omega), List.take_succ_eq_append_getElem hk, mostL_snoc, getD_in _ hk]
theorem tb_zeros (n j : Nat) : tb (zerosB n) j = 0#8 := by
  unfold tb zerosB
  rw [List.getD_eq_getElem?_getD, List.getElem?_replicate]
  split <;> rfl
theorem tb_fill (L : List ByteArray) (l j : Nat) : tb ((fillL L).getD l ⟨#[]⟩) j = tb (L.getD l ⟨#[]⟩) j := by
  unfold fillL
  by_cases h : l < L.length
  · rw [getD_in _ (by rw [List.length_map]; exact h), List.getElem_map, getD_in _ h, tb_add, tb_zeros]
    simp
  · rw [List.getD_eq_getElem?_getD, List.getD_eq_getElem?_getD, List.getElem?_eq_none (by rw [List.length_map]; omega), List.getElem?_eq_none (by omega)]
theorem mostL_even {L : List ByteArray} {m : Nat} (hne : L ≠ []) (h : ∀ x ∈ L, x.size = m) : mostL L = m := by
  obtain ⟨x, r, rfl⟩ := List.exists_cons_of_ne_nil hne
  have h1 := mostL_le (L := x :: r) (x := x) (by simp)
  have h2 := mostL_all (L := x :: r) (n := m) (fun y hy => Nat.le_of_eq (h y hy))
  have h3 := h x (by simp)
  omega
theorem fill_most (L : List ByteArray) : mostL (fillL L) = mostL L := by
  by_cases hL : L = []
  · subst hL; rfl
  · refine mostL_even (fun e => hL ?_) (fun x hx => ?_)
    · have := congrArg List.length e
      rw [fillL_len] at this
      exact List.eq_nil_of_length_eq_zero this
    · obtain ⟨y, hy, rfl⟩ := List.mem_map.1 hx
      rw [addB_size, zerosB_size]
      have := mostL_le hy
      omega
theorem acc_fill (row : List Int) (L : List ByteArray) : accB row (fillL L) (fillL L).length = accB row L L.length := by
  refine tb_ext ?_ (fun j => ?_)
  · rw [accB_most _ _ _ (Nat.le_refl _), accB_most _ _ _ (Nat.le_refl _), List.take_of_length_le (Nat.le_refl _), List.take_of_length_le (Nat.le_refl _), fill_most]
  · rw [tb_acc, tb_acc, fillL_len]
    exact W.xs_congr (fun l _ => by rw [tb_fill])
/-- Filled or not, the sums are the same. -/
theorem app_fill (X : List (List Int)) (L : List ByteArray) : appX X (fillL L) = appX X L := by
  unfold appX
  rw [fillL_len]
  by_cases h : matOk X = true ∧ colsOf X = L.length
  · rw [if_pos h, if_pos h]
    refine List.map_congr_left (fun row _ => ?_)
    have := acc_fill row L
    rw [fillL_len] at this
    exact this
  · rw [if_neg h, if_neg h]
theorem short_most (L : List ByteArray) : shortL L = true ↔ mostL L ≤ 200 := by
  unfold shortL
  rw [List.all_eq_true]
  constructor
  · intro h
    exact mostL_all (fun x hx => by have := h x hx; simpa using this)
  · intro h x hx
    have := mostL_le hx
    simp only [decide_eq_true_eq]
    omega
/-- Encode, as the program comes to it. -/
theorem enc_is {s : Int} {L : List ByteArray} (h1 : schOk s = true) (h2 : L.length = schK s) (h3 : mostL L ≤ 200) : encX s L = (appX (codeX s) L, true) := by
  rw [encX_yes ⟨h1, h2, (short_most L).2 h3⟩, app_fill]
theorem enc_not {s : Int} {L : List ByteArray} (h : schOk s = true → L.length = schK s → ¬ mostL L ≤ 200) : encX s L = ([], false) := encX_no (fun q => h q.1 q.2.1 ((short_most L).1 q.2.2))
theorem enc_nil (s : Int) : encX s [] = ([], false) := encX_no (fun q => by
  have h := (sch_bounds q.1).1
  have := q.2.1
  simp at this
  omega)
theorem reb_is (s : Int) (L : List ByteArray) (H : List Bool) : rebX s L H = encX s (decX s L H).1 := by
  unfold rebX
  by_cases h : (decX s L H).2 = true
  · rw [if_pos h]
  · rw [if_neg h]
    have : (decX s L H).1 = [] := by
      by_cases q : DecOk s L H ∧ (invX (rowsP s (pickI s H H.length))).2 = true
      · rw [decX_yes q.1 q.2] at h; exact absurd rfl h
      · rw [decX_no q]
    rw [this, enc_nil]
/-- Texts of one length. -/
def evenL (L : List ByteArray) : Prop := ∀ x ∈ L, x.size = mostL L
theorem even_one (L : List ByteArray) (H : List Bool) (n : Nat) : evenL (unitsP L (thereI H n)) ↔ OneLen L H n := by
  constructor
  · intro h i hi j hj
    rw [h _ (List.mem_map.2 ⟨i, hi, rfl⟩), h _ (List.mem_map.2 ⟨j, hj, rfl⟩)]
  · intro h x hx
    have hall : ∀ y ∈ unitsP L (thereI H n), y.size = x.size := fun y hy => by
      obtain ⟨i, hi, rfl⟩ := List.mem_map.1 hx
      obtain ⟨j, hj, rfl⟩ := List.mem_map.1 hy
      exact h j hj i hi
    exact (mostL_even (List.ne_nil_of_mem hx) hall).symm
theorem invX_nil {X : List (List Int)} (h : (invX X).2 = false) : (invX X).1 = [] := by
  by_cases q : ∃ Y, IsInv X Y
  · obtain ⟨Y, hY⟩ := q
    rw [invX_yes hY] at h
    cases h
  · rw [invX_no q]
theorem app_empty (L : List ByteArray) : appX [] L = [] := appX_no (fun h => by have := matOk_iff h.1; simp at this)
/-- Decode, as the program comes to it. -/
theorem dec_is {s : Int} {L : List ByteArray} {H : List Bool} (h : DecOk s L H) : decX s L H = (appX (invX (rowsP s (pickI s H H.length))).1 (unitsP L (pickI s H H.length)), (invX (rowsP s (pickI s H H.length))).2) := by
  cases q : (invX (rowsP s (pickI s H H.length))).2 with
  | true => exact decX_yes h q
  | false =>
    rw [decX_no (fun k => by rw [k.2] at q; cases q), invX_nil q, app_empty]
theorem dec_not {s : Int} {L : List ByteArray} {H : List Bool} (h : ¬ DecOk s L H) : decX s L H = ([], false) := decX_no (fun k => h k.1)
theorem unitsP_take (L : List ByteArray) (I : List Nat) (k : Nat) : (unitsP L I).take k = unitsP L (I.take k) := by unfold unitsP; rw [List.map_take]
theorem rowsP_take (s : Int) (I : List Nat) (k : Nat) : (rowsP s I).take k = rowsP s (I.take k) := by unfold rowsP; rw [List.map_take]
end Go.Proofs.Ytdlgailodhlbmaa
/- CdB: The program's own longest, oneLength, there. -/
namespace Go.Proofs.Ytdlgailodhlbmaa
open Go.RowKit
open W (B8 Mx)
attribute [local go_sem ↓] Go.wp_at_zero Go.wp_at_succ
attribute [local irreducible] W.gm W.xs W.mm W.gi mx matOk

theorem most_step {L : List ByteArray} {k : Nat} (h : k < L.length) : mostL (L.take (k + 1)) = max (mostL (L.take k)) (L.getD k ⟨#[]⟩).size := by
  rw [List.take_succ_eq_append_getElem h, mostL_snoc, getD_in _ h]
theorem most_part (L : List ByteArray) (k : Nat) : mostL (L.take k) ≤ mostL L := mostL_all (fun _ hx => mostL_le (List.mem_of_mem_take hx))
theorem most_fit {L : List ByteArray} (h : TFit L) : mostL L ≤ 1048576 := mostL_all (fun x hx => by have := tsum_mem hx; unfold TFit at h; omega)
set_option maxHeartbeats 1000000 in
theorem implLongest {w : World} {v : Value} {L : List ByteArray} {lo hi : Nat} (hs : SSee w v L lo hi) (hf : TFit L) : Calls Try.prog 41 #[v] w fun e w' => e = .returned (.int .i64 (mostL L : Nat)) ∧ Below w.heap.size w w' := by
  obtain ⟨a, cap, rfl, hr⟩ := hs
  have HR := Shut.mk hr
  have hn : L.length ≤ 1048576 := by unfold TFit at hf; omega
  have hm := most_fit hf
  clear hr hf
  go_enter Try.func41, Try.ntmps41
  go_wp2_with fail
  go_loopw [3, 8] (fun m i wr => ∃ (k : Nat), i = .int .i64 k ∧ k ≤ L.length ∧ m = .int .i64 (mostL (L.take k) : Nat) ∧ Below w.heap.size w wr) (fun _ i _ => L.length - (intOf i).toNat)
  case atStart => exact ⟨0, rfl, Nat.zero_le _, rfl, Below.refl _ _⟩
  case round =>
    obtain ⟨k, rfl, hk, rfl, hb⟩ := hrel
    have hmk := most_part L k
    by_cases hlt : k < L.length
    · obtain ⟨b, off, rfl, lb, hc⟩ := units_in HR.out (by omega)
      have d0 := (hb.cell (p := ⟨b, off + k, none⟩) lb).trans (hc k hlt)
      have hst := most_step hlt
      have hms := most_part L (k + 1)
      have k0 : (0 : Int) ≤ (k : Int) := by omega
      have k1 : (k : Int) < (L.length : Int) := by omega
      rw [hst] at hms
      generalize L.getD k ⟨#[]⟩ = x at *
      generalize mostL (L.take k) = m at *
      have HST := Shut.mk hst
      have HBN := Shut.mk hb
      clear hc hst hb
      go_wp2_with fail
      go_roundw
      case rel => exact ⟨k + 1, by go_num, by omega, congrArg (Value.int .i64) (by rw [HST.out]; split <;> omega), HBN.out⟩
      case measure => simp [intOf]; omega
    · have e : k = L.length := by omega
      have hlt' : ¬ (k : Int) < (L.length : Int) := by omega
      have hx : mostL (L.take k) = mostL L := by rw [List.take_of_length_le (by omega)]
      rw [hx]
      clear hx e hmk
      go_wp2_with fail
      go_ret
      exact ⟨rfl, hb⟩
/-- Whether texts are of one length, as it is answered. -/
def EvenPost (L : List ByteArray) (w : World) (e : Ending) (w' : World) : Prop := ∃ b, e = .returned (.bool b) ∧ (b = true ↔ evenL L) ∧ Below w.heap.size w w'
set_option maxHeartbeats 1000000 in
theorem implOneLength {w : World} {v : Value} {L : List ByteArray} {lo hi : Nat} (hs : SSee w v L lo hi) (hf : TFit L) : Calls Try.prog 48 #[v] w fun e w' => EvenPost L w e w' := by
  have HL := Shut.mk (implLongest hs hf)
  obtain ⟨a, cap, rfl, hr⟩ := hs
  have HR := Shut.mk hr
  have hn : L.length ≤ 1048576 := by unfold TFit at hf; omega
  have hm := most_fit hf
  have HF := Shut.mk hf
  clear hr hf
  go_enter Try.func48, Try.ntmps48
  go_wp2_with fail
  refine HL.out.mono ?_
  rintro e w1 ⟨rfl, hb1⟩
  have HB1 := Shut.mk hb1
  clear hb1 HL
  go_wp2_with fail
  go_loopw [10] (fun i wr => ∃ (k : Nat), i = .int .i64 k ∧ k ≤ L.length ∧ Shut (∀ j, j < k → (L.getD j ⟨#[]⟩).size = mostL L) ∧ Shut (Below w.heap.size w wr)) (fun i _ => L.length - (intOf i).toNat)
  case atStart => exact ⟨0, rfl, Nat.zero_le _, ⟨fun j hj => by omega⟩, HB1⟩
  case round =>
    clear HB1
    obtain ⟨k, rfl, hk, hall, hb⟩ := hrel
    by_cases hlt : k < L.length
    · obtain ⟨b, off, rfl, lb, hc⟩ := units_in HR.out (by omega)
      have d0 := (hb.out.cell (p := ⟨b, off + k, none⟩) lb).trans (hc k hlt)
      have hxm : L.getD k ⟨#[]⟩ ∈ L := by rw [getD_in _ hlt]; exact List.getElem_mem hlt
      have hxs := mostL_le hxm
      have HXM := Shut.mk hxm
      obtain ⟨x, hx⟩ : ∃ x, x = L.getD k ⟨#[]⟩ := ⟨_, rfl⟩
      rw [← hx] at d0 hxs HXM
      have HX := Shut.mk hx
      obtain ⟨M, hM⟩ : ∃ M, M = mostL L := ⟨_, rfl⟩
      have HMM := Shut.mk hM
      rw [← hM] at hxs hm ⊢
      have k0 : (0 : Int) ≤ (k : Int) := by omega
      have k1 : (k : Int) < (L.length : Int) := by omega
      clear hc hx hxm hM
      by_cases heq : x.size = M
      · have e1 : ((x.size : Int) != (M : Int)) = false := by rw [heq]; simp
        go_wp2_with fail
        go_roundw
        case rel => exact ⟨k + 1, by go_num, by omega, ⟨fun j hj => by
          rcases Nat.lt_succ_iff_lt_or_eq.1 hj with q | q
          · exact (hall.out j q).trans HMM.out.symm
          · subst q; rw [← HX.out]; exact heq⟩, hb⟩
        case measure => simp [intOf]; omega
      · have e1 : ((x.size : Int) != (M : Int)) = true := by rw [bne_iff_ne]; omega
        go_wp2_with fail
        go_ret
        exact ⟨false, rfl, ⟨fun h => (by cases h), fun h => absurd ((h _ HXM.out).trans HMM.out.symm) heq⟩, hb.out⟩
    · have hlt' : ¬ (k : Int) < (L.length : Int) := by omega
      have HE : Shut (evenL L) := ⟨fun x hx => by
        obtain ⟨j, hj, rfl⟩ := List.mem_iff_getElem.1 hx
        have := hall.out j (by omega)
        rw [getD_in _ hj] at this
        exact this⟩
      clear hall
      go_wp2_with fail
      go_ret
      exact ⟨true, rfl, ⟨fun _ => HE.out, fun _ => rfl⟩, hb.out⟩
/-- The cells that are there. -/
def pickV (H : List Bool) (V : List Value) (n : Nat) : List Value := (thereI H n).map fun i => V.getD i (.bool false)
theorem pickV_len (H : List Bool) (V : List Value) (n : Nat) : (pickV H V n).length = (thereI H n).length := by simp [pickV]
theorem thereI_le (H : List Bool) (n : Nat) : (thereI H n).length ≤ n := by
  have := List.length_filter_le (fun i => H.getD i false) (List.range n)
  rw [List.length_range] at this
  exact this
theorem pickV_yes {H : List Bool} {V : List Value} {n : Nat} (h : H.getD n false = true) : pickV H V (n + 1) = pickV H V n ++ [V.getD n (.bool false)] := by
  unfold pickV
  rw [thereI_succ, if_pos h, List.map_append]; rfl
theorem pickV_no {H : List Bool} {V : List Value} {n : Nat} (h : ¬ H.getD n false = true) : pickV H V (n + 1) = pickV H V n := by
  unfold pickV
  rw [thereI_succ, if_neg h, List.append_nil]
theorem there_yes {H : List Bool} {n : Nat} (h : H.getD n false = true) : (thereI H (n + 1)).length = (thereI H n).length + 1 := by rw [thereI_succ, if_pos h, List.length_append]; rfl
theorem there_no {H : List Bool} {n : Nat} (h : ¬ H.getD n false = true) : (thereI H (n + 1)).length = (thereI H n).length := by rw [thereI_succ, if_neg h, List.append_nil]
set_option maxRecDepth 100000 in
set_option maxHeartbeats 2000000 in
theorem implThereS {w : World} {a b : Option Addr} {c d lo hi lo' hi' : Nat} {H : List Bool} {V : List Value} (hh : RRow w a (bcs H) lo hi) (hv : RRow w b V lo' hi') (hn : V.length = H.length) (h8 : H.length ≤ 8) (h1 : ∀ u ∈ V, ∃ y, u = .string y) :
    Calls Try.prog 46 #[.slice a H.length c, .slice b H.length d] w fun e w' => ∃ v, e = .returned v ∧ w'.ownsRow w.heap.size 9 1 v (thereI H H.length).length (pickV H V H.length) ∧ Below w.heap.size w w' := by
  obtain ⟨i0, hi0, hz0, hz1, hz2⟩ := info_parts infoTextG
  have HH := Shut.mk hh
  have HV := Shut.mk hv
  have HN := Shut.mk (And.intro hn h1)
  obtain ⟨n, hnn⟩ : ∃ n, n = H.length := ⟨_, rfl⟩
  have HL := Shut.mk hnn
  rw [← hnn] at h8 ⊢
  clear hh hv hn h1 hnn
  go_enter Try.func46, Try.ntmps46
  go_wp2_with fail
  go_loopw [5, 10] (fun v i wr => ∃ (k : Nat) (vv : Value), vv = v ∧ i = .int .i64 k ∧ k ≤ n ∧ Shut (wr.ownsRow w.heap.size 9 1 vv (thereI H k).length (pickV H V k)) ∧ Shut (Below w.heap.size w wr)) (fun _ i _ => n - (intOf i).toNat)
  case atStart => exact ⟨0, _, rfl, rfl, Nat.zero_le _, ⟨World.ownsRow_nil _ _ _ _⟩, ⟨Below.refl _ _⟩⟩
  case round =>
    obtain ⟨k, v, rfl, rfl, hk, hown, hb⟩ := hrel
    obtain ⟨wi, rfl⟩ : ∃ wi, wi = wr := ⟨_, rfl⟩
    by_cases hlt : k < n
    · have hkh : k < H.length := by have := HL.out; omega
      have hkv : k < V.length := by have := HN.out.1; omega
      obtain ⟨b1, o1, rfl, _, _, l1, c1⟩ := HH.out (by rw [bcs_len]; omega)
      obtain ⟨b2, o2, rfl, _, _, l2, c2⟩ := HV.out (by omega)
      have d1 := (hb.out.cell (p := ⟨b1, o1 + k, none⟩) l1).trans (c1 k _ (bcs_get H k hkh))
      have d2 := (hb.out.cell (p := ⟨b2, o2 + k, none⟩) l2).trans (c2 k (V.getD k (.bool false)) (by rw [getD_in _ hkv]; exact List.getElem?_eq_getElem hkv))
      have k0 : (0 : Int) ≤ (k : Int) := by omega
      have k1 : (k : Int) < (n : Int) := by omega
      have hle := thereI_le H k
      have hsz := hb.out.size
      cases hf : H.getD k false with
      | true =>
        rw [hf] at d1
        have HP := Shut.mk (pickV_yes (V := V) hf)
        have HQ := Shut.mk (there_yes hf)
        obtain ⟨y, hy⟩ := HN.out.2 (V.getD k (.bool false)) (by rw [getD_in _ hkv]; exact List.getElem_mem hkv)
        rw [hy] at d2 HP
        generalize (thereI H k).length = tl at *
        have hown2 := hown.out
        clear c1 c2 hf hown hy
        go_wp2_with (at_builtin; refine wpList_append_own _ rfl _ _ 24 rfl w.heap.size 9 i0 (.string ⟨#[]⟩) 1 16 Try.underlying24 hi0 hz0 hz1 hz2 rfl (by decide) _ _ _ rfl (hown2.alloc _) ⟨wi.heap.size, 0, none⟩ 1 1 [.string y] rfl rfl (cell_one_new _ _ _) ?c2 ?c3 ?c4 ?c5 ?_)
        case c2 => first | rfl | (intro u hu; simp at hu; subst hu; rfl)
        case c3 => unfold maxLen; omega
        case c4 => omega
        case c5 => first | omega | (simp; omega)
        intro v' w4 hown' hgrow _
        rw [← HP.out, ← HQ.out] at hown'
        have Q1 := Shut.mk hown'
        have Q2 := Shut.mk ((hb.out.alloc hsz _).grown hgrow (by simp; omega) (fun j hj => (hown2.lt j hj).1))
        clear hown' hgrow hown2 hb
        go_wp2_with fail
        go_roundw
        case rel => exact ⟨k + 1, v', rfl, by go_num, by omega, Q1, Q2⟩
        case measure => simp [intOf]; omega
      | false =>
        rw [hf] at d1
        have HP := Shut.mk (pickV_no (V := V) (n := k) (H := H) (by rw [hf]; decide))
        have HQ := Shut.mk (there_no (n := k) (H := H) (by rw [hf]; decide))
        obtain ⟨y, hy⟩ := HN.out.2 (V.getD k (.bool false)) (by rw [getD_in _ hkv]; exact List.getElem_mem hkv)
        rw [hy] at d2
        clear c1 c2 hf hy
        go_wp2_with fail
        go_roundw
        case rel => exact ⟨k + 1, v, rfl, by go_num, by omega, ⟨by rw [HP.out, HQ.out]; exact hown.out⟩, hb⟩
        case measure => simp [intOf]; omega
    · have e : k = n := by omega
      subst e
      have hlt' : ¬ (k : Int) < (k : Int) := by omega
      clear hlt
      go_wp2_with fail
      go_ret
      exact ⟨v, rfl, hown.out, hb.out⟩
set_option maxRecDepth 100000 in
set_option maxHeartbeats 2000000 in
theorem implThereR {w : World} {a b : Option Addr} {c d lo hi lo' hi' : Nat} {H : List Bool} {V : List Value} (hh : RRow w a (bcs H) lo hi) (hv : RRow w b V lo' hi') (hn : V.length = H.length) (h8 : H.length ≤ 8) (h1 : ∀ u ∈ V, ∃ p n c, u = .slice p n c) :
    Calls Try.prog 47 #[.slice a H.length c, .slice b H.length d] w fun e w' => ∃ v, e = .returned v ∧ w'.ownsRow w.heap.size 32 1 v (thereI H H.length).length (pickV H V H.length) ∧ Below w.heap.size w w' := by
  obtain ⟨i0, hi0, hz0, hz1, hz2⟩ := info_parts infoRow
  have HH := Shut.mk hh
  have HV := Shut.mk hv
  have HN := Shut.mk (And.intro hn h1)
  obtain ⟨n, hnn⟩ : ∃ n, n = H.length := ⟨_, rfl⟩
  have HL := Shut.mk hnn
  rw [← hnn] at h8 ⊢
  clear hh hv hn h1 hnn
  go_enter Try.func47, Try.ntmps47
  go_wp2_with fail
  go_loopw [5, 10] (fun v i wr => ∃ (k : Nat) (vv : Value), vv = v ∧ i = .int .i64 k ∧ k ≤ n ∧ Shut (wr.ownsRow w.heap.size 32 1 vv (thereI H k).length (pickV H V k)) ∧ Shut (Below w.heap.size w wr)) (fun _ i _ => n - (intOf i).toNat)
  case atStart => exact ⟨0, _, rfl, rfl, Nat.zero_le _, ⟨World.ownsRow_nil _ _ _ _⟩, ⟨Below.refl _ _⟩⟩
  case round =>
    obtain ⟨k, v, rfl, rfl, hk, hown, hb⟩ := hrel
    obtain ⟨wi, rfl⟩ : ∃ wi, wi = wr := ⟨_, rfl⟩
    by_cases hlt : k < n
    · have hkh : k < H.length := by have := HL.out; omega
      have hkv : k < V.length := by have := HN.out.1; omega
      obtain ⟨b1, o1, rfl, _, _, l1, c1⟩ := HH.out (by rw [bcs_len]; omega)
      obtain ⟨b2, o2, rfl, _, _, l2, c2⟩ := HV.out (by omega)
      have d1 := (hb.out.cell (p := ⟨b1, o1 + k, none⟩) l1).trans (c1 k _ (bcs_get H k hkh))
      have d2 := (hb.out.cell (p := ⟨b2, o2 + k, none⟩) l2).trans (c2 k (V.getD k (.bool false)) (by rw [getD_in _ hkv]; exact List.getElem?_eq_getElem hkv))
      have k0 : (0 : Int) ≤ (k : Int) := by omega
      have k1 : (k : Int) < (n : Int) := by omega
      have hle := thereI_le H k
      have hsz := hb.out.size
      cases hf : H.getD k false with
      | true =>
        rw [hf] at d1
        have HP := Shut.mk (pickV_yes (V := V) hf)
        have HQ := Shut.mk (there_yes hf)
        obtain ⟨yp, yn, yc, hy⟩ := HN.out.2 (V.getD k (.bool false)) (by rw [getD_in _ hkv]; exact List.getElem_mem hkv)
        rw [hy] at d2 HP
        generalize (thereI H k).length = tl at *
        have hown2 := hown.out
        clear c1 c2 hf hown hy
        go_wp2_with (at_builtin; refine wpList_append_own _ rfl _ _ 36 rfl w.heap.size 32 i0 (.slice none 0 0) 1 24 Try.underlying36 hi0 hz0 hz1 hz2 rfl (by decide) _ _ _ rfl (hown2.alloc _) ⟨wi.heap.size, 0, none⟩ 1 1 [.slice yp yn yc] rfl rfl (cell_one_new _ _ _) ?c2 ?c3 ?c4 ?c5 ?_)
        case c2 => first | rfl | (intro u hu; simp at hu; subst hu; rfl)
        case c3 => unfold maxLen; omega
        case c4 => omega
        case c5 => first | omega | (simp; omega)
        intro v' w4 hown' hgrow _
        rw [← HP.out, ← HQ.out] at hown'
        have Q1 := Shut.mk hown'
        have Q2 := Shut.mk ((hb.out.alloc hsz _).grown hgrow (by simp; omega) (fun j hj => (hown2.lt j hj).1))
        clear hown' hgrow hown2 hb
        go_wp2_with fail
        go_roundw
        case rel => exact ⟨k + 1, v', rfl, by go_num, by omega, Q1, Q2⟩
        case measure => simp [intOf]; omega
      | false =>
        rw [hf] at d1
        have HP := Shut.mk (pickV_no (V := V) (n := k) (H := H) (by rw [hf]; decide))
        have HQ := Shut.mk (there_no (n := k) (H := H) (by rw [hf]; decide))
        obtain ⟨yp, yn, yc, hy⟩ := HN.out.2 (V.getD k (.bool false)) (by rw [getD_in _ hkv]; exact List.getElem_mem hkv)
        rw [hy] at d2
        clear c1 c2 hf hy
        go_wp2_with fail
        go_roundw
        case rel => exact ⟨k + 1, v, rfl, by go_num, by omega, ⟨by rw [HP.out, HQ.out]; exact hown.out⟩, hb⟩
        case measure => simp [intOf]; omega
    · have e : k = n := by omega
      subst e
      have hlt' : ¬ (k : Int) < (k : Int) := by omega
      clear hlt
      go_wp2_with fail
      go_ret
      exact ⟨v, rfl, hown.out, hb.out⟩
end Go.Proofs.Ytdlgailodhlbmaa
/- FieldQ: The program's own sums and products of texts. -/
namespace Go.Proofs.Ytdlgailodhlbmaa
open Go.RowKit
open W (B8)
attribute [local go_sem ↓] Go.wp_at_zero Go.wp_at_succ
attribute [local irreducible] W.gm W.xt W.gp W.gi
set_option maxHeartbeats 1000000 in
theorem implAdd_long (a b : ByteArray) (w : World) (ha : a.size ≤ 1048576) (h : b.size ≤ a.size) :
    Calls Try.prog 63 #[.string a, .string b] w fun e w' => e = .returned (.string (addB a b)) ∧ Below w.heap.size w w' := by
  have hlt' : ¬ (a.size : Int) < (b.size : Int) := by omega
  obtain ⟨w1, c1, hcv, hrow, hb1⟩ := bytes_made w a
  have hla : a.data.toList.length = a.size := rfl
  have hlb : b.data.toList.length = b.size := rfl
  have HB1 : Hid (Below w.heap.size w w1) := hb1
  have HROW : Hid (BRow w1 w.heap.size a.data.toList) := hrow
  clear hb1 hrow
  go_enter Try.func63, Try.ntmps63
  go_wp2_with fail
  go_loopw [18] (fun i wr => ∃ k : Nat, i = .int .i64 k ∧ k ≤ b.size ∧ BRow wr w.heap.size (W.addTo a.data.toList b.data.toList k) ∧ Below w.heap.size w wr) (fun i _ => b.size - (intOf i).toNat)
  case atStart => exact ⟨0, rfl, Nat.zero_le _, by rw [W.addTo_zero]; exact HROW.out, HB1.out⟩
  case round =>
    obtain ⟨k, rfl, hk, hrw, hbl⟩ := hrel
    have hll := W.addTo_len (a := a.data.toList) (b := b.data.toList) (k := k) h
    by_cases hlt : k < b.size
    · have k0 : (0 : Int) ≤ (k : Int) := by omega
      have k1 : (k : Int) < (b.size : Int) := by omega
      have k2 : (k : Int) < (a.size : Int) := by omega
      have hst := W.addTo_step (a := a.data.toList) (b := b.data.toList) (k := k) h hlt
      have hc := hrw.2 k (by omega)
      obtain ⟨hc1, hc2⟩ := hc
      have hset := hrw.set k (a.data.toList.getD k 0 ^^^ b.data.toList.getD k 0) (by omega)
      rw [hst.2] at hset
      have hix := index_str b k hlt
      rw [get_list b k hlt] at hix
      have hiy := index_str a k (by omega)
      rw [get_list a k (by omega)] at hiy
      have hp : ∀ w : World, Calls Try.prog 77 #[.int .u8 ((a.data.toList.getD k 0).toNat : Int), .int .u8 ((b.data.toList.getD k 0).toNat : Int)] w fun e w' => e = .returned (.int .u8 ((a.data.toList.getD k 0 ^^^ b.data.toList.getD k 0).toNat : Int)) ∧ w' = w := fun w => implPlus (a.data.toList.getD k 0).toBitVec (b.data.toList.getD k 0).toBitVec w
      generalize (W.addTo a.data.toList b.data.toList k).getD k 0 = o at *
      generalize a.data.toList.getD k 0 = x at *
      generalize b.data.toList.getD k 0 = y at *
      have HS : Hid (BRow (wr.setCell ⟨w.heap.size, k, none⟩ (.int .u8 ((x ^^^ y).toNat : Int))) w.heap.size (W.addTo a.data.toList b.data.toList (k + 1))) := hset
      have HBL : Hid (Below w.heap.size w wr) := hbl
      clear hset hst hrw hbl
      generalize x ^^^ y = z at *
      go_wp2_with fail
      go_region_with ((go_at_call 77; refine (hp _).mono ?_; rintro e w9 ⟨rfl, rfl⟩))
      all_goals go_wp2_with fail
      all_goals exact ⟨⟨k + 1, by go_num, by omega, HS.out, Below.drew (HBL.out.setCell (Nat.le_refl _) _)⟩, by simp [intOf]; omega⟩
    · have e : k = b.size := by omega
      subst e
      have hall := W.addTo_all (a := a.data.toList) (b := b.data.toList) h
      rw [hlb] at hall
      have hcv2 := brow_string (cap := c1) hrw
      rw [hall] at hcv2
      have hl2 : (W.addL a.data.toList b.data.toList).length = a.size := by rw [← hall]; exact hll
      rw [hl2] at hcv2
      have HBL : Hid (Below w.heap.size w wr) := hbl
      clear hrw hall hl2 hll hbl
      go_wp2_with fail
      go_ret
      exact ⟨rfl, HBL.out⟩
set_option maxHeartbeats 1000000 in
theorem implAdd_short (a b : ByteArray) (w : World) (ha : a.size ≤ 1048576) (h' : b.size < a.size) :
    Calls Try.prog 63 #[.string b, .string a] w fun e w' => e = .returned (.string (addB a b)) ∧ Below w.heap.size w w' := by
  have hlt' : (b.size : Int) < (a.size : Int) := by omega
  have h : b.size ≤ a.size := by omega
  clear h'
  obtain ⟨w1, c1, hcv, hrow, hb1⟩ := bytes_made w a
  have hla : a.data.toList.length = a.size := rfl
  have hlb : b.data.toList.length = b.size := rfl
  have HB1 : Hid (Below w.heap.size w w1) := hb1
  have HROW : Hid (BRow w1 w.heap.size a.data.toList) := hrow
  clear hb1 hrow
  go_enter Try.func63, Try.ntmps63
  go_wp2_with fail
  go_loopw [18] (fun i wr => ∃ k : Nat, i = .int .i64 k ∧ k ≤ b.size ∧ BRow wr w.heap.size (W.addTo a.data.toList b.data.toList k) ∧ Below w.heap.size w wr) (fun i _ => b.size - (intOf i).toNat)
  case atStart => exact ⟨0, rfl, Nat.zero_le _, by rw [W.addTo_zero]; exact HROW.out, HB1.out⟩
  case round =>
    obtain ⟨k, rfl, hk, hrw, hbl⟩ := hrel
    have hll := W.addTo_len (a := a.data.toList) (b := b.data.toList) (k := k) h
    by_cases hlt : k < b.size
    · have k0 : (0 : Int) ≤ (k : Int) := by omega
      have k1 : (k : Int) < (b.size : Int) := by omega
      have k2 : (k : Int) < (a.size : Int) := by omega
      have hst := W.addTo_step (a := a.data.toList) (b := b.data.toList) (k := k) h hlt
      have hc := hrw.2 k (by omega)
      obtain ⟨hc1, hc2⟩ := hc
      have hset := hrw.set k (a.data.toList.getD k 0 ^^^ b.data.toList.getD k 0) (by omega)
      rw [hst.2] at hset
      have hix := index_str b k hlt
      rw [get_list b k hlt] at hix
      have hiy := index_str a k (by omega)
      rw [get_list a k (by omega)] at hiy
      have hp : ∀ w : World, Calls Try.prog 77 #[.int .u8 ((a.data.toList.getD k 0).toNat : Int), .int .u8 ((b.data.toList.getD k 0).toNat : Int)] w fun e w' => e = .returned (.int .u8 ((a.data.toList.getD k 0 ^^^ b.data.toList.getD k 0).toNat : Int)) ∧ w' = w := fun w => implPlus (a.data.toList.getD k 0).toBitVec (b.data.toList.getD k 0).toBitVec w
      generalize (W.addTo a.data.toList b.data.toList k).getD k 0 = o at *
      generalize a.data.toList.getD k 0 = x at *
      generalize b.data.toList.getD k 0 = y at *
      have HS : Hid (BRow (wr.setCell ⟨w.heap.size, k, none⟩ (.int .u8 ((x ^^^ y).toNat : Int))) w.heap.size (W.addTo a.data.toList b.data.toList (k + 1))) := hset
      have HBL : Hid (Below w.heap.size w wr) := hbl
      clear hset hst hrw hbl
      generalize x ^^^ y = z at *
      go_wp2_with fail
      go_region_with ((go_at_call 77; refine (hp _).mono ?_; rintro e w9 ⟨rfl, rfl⟩))
      all_goals go_wp2_with fail
      all_goals exact ⟨⟨k + 1, by go_num, by omega, HS.out, Below.drew (HBL.out.setCell (Nat.le_refl _) _)⟩, by simp [intOf]; omega⟩
    · have e : k = b.size := by omega
      subst e
      have hall := W.addTo_all (a := a.data.toList) (b := b.data.toList) h
      rw [hlb] at hall
      have hcv2 := brow_string (cap := c1) hrw
      rw [hall] at hcv2
      have hl2 : (W.addL a.data.toList b.data.toList).length = a.size := by rw [← hall]; exact hll
      rw [hl2] at hcv2
      have HBL : Hid (Below w.heap.size w wr) := hbl
      clear hrw hall hl2 hll hbl
      go_wp2_with fail
      go_ret
      exact ⟨rfl, HBL.out⟩
theorem implAddText (a b : ByteArray) (w : World) (ha : a.size ≤ 1048576) (hb : b.size ≤ 1048576) : Calls Try.prog 63 #[.string a, .string b] w fun e w' => e = .returned (.string (addB a b)) ∧ Below w.heap.size w w' := by
  by_cases h : b.size ≤ a.size
  · exact implAdd_long a b w ha h
  · rw [addB_comm]; exact implAdd_short b a w hb (by omega)
set_option maxHeartbeats 1000000 in
theorem implMulText (x : Int) (s : ByteArray) (w : World) (hs : s.size ≤ 1048576) : Calls Try.prog 64 #[.int .i64 x, .string s] w fun e w' => e = .returned (.string (mulT (g8 x) s)) ∧ Below w.heap.size w w' := by
  have hm := g8_nat x
  generalize g8 x = A at *
  obtain ⟨w1, c1, hcv, hrow, hb1⟩ := bytes_made w s
  have HB1 : Hid (Below w.heap.size w w1) := hb1
  have HROW : Hid (BRow w1 w.heap.size s.data.toList) := hrow
  clear hb1 hrow
  go_enter Try.func64, Try.ntmps64
  go_wp2_with fail
  go_loopw [11] (fun i wr => ∃ k : Nat, i = .int .i64 k ∧ k ≤ s.size ∧ BRow wr w.heap.size (W.mulTo A s.data.toList k) ∧ Below w.heap.size w wr) (fun i _ => s.size - (intOf i).toNat)
  case atStart => exact ⟨0, rfl, Nat.zero_le _, by rw [W.mulTo_zero]; exact HROW.out, HB1.out⟩
  case round =>
    obtain ⟨k, rfl, hk, hrw, hbl⟩ := hrel
    have hll := W.mulTo_len A s.data.toList k
    have hls : s.data.toList.length = s.size := rfl
    by_cases hlt : k < s.size
    · have k0 : (0 : Int) ≤ (k : Int) := by omega
      have k1 : (k : Int) < (s.size : Int) := by omega
      have hst := W.mulTo_step A (l := s.data.toList) (k := k) hlt
      have hc := hrw.2 k (by omega)
      rw [hst.1] at hc
      obtain ⟨hc1, hc2⟩ := hc
      have hset := hrw.set k (W.mulB A (s.data.toList.getD k 0)) (by omega)
      rw [hst.2] at hset
      have hix := index_str s k hlt
      rw [get_list s k hlt] at hix
      generalize s.data.toList.getD k 0 = c at *
      have hcall : ∀ w : World, Calls Try.prog 78 #[.int .u8 (x % 256), .int .u8 (c.toNat : Int)] w fun e w' => e = .returned (.int .u8 ((W.mulB A c).toNat : Int)) ∧ w' = w := fun w => by rw [← hm]; exact implTimes A c.toBitVec w
      have HS : Hid (BRow (wr.setCell ⟨w.heap.size, k, none⟩ (.int .u8 ((W.mulB A c).toNat : Int))) w.heap.size (W.mulTo A s.data.toList (k + 1))) := hset
      have HBL : Hid (Below w.heap.size w wr) := hbl
      clear hset hst hrw hbl
      generalize W.mulB A c = y at *
      go_wp2_with fail
      refine (hcall _).mono ?_
      rintro e w2 ⟨rfl, rfl⟩
      go_wp2_with fail
      go_roundw
      case rel => exact ⟨k + 1, by go_num, by omega, HS.out, HBL.out.setCell (Nat.le_refl _) _⟩
      case measure => simp [intOf]; omega
    · have e : k = s.size := by omega
      have hlt' : ¬ (k : Int) < (s.size : Int) := by omega
      subst e
      have hall := W.mulTo_all A s.data.toList (k := s.size) (Nat.le_of_eq hls)
      have hcv2 := brow_string (cap := c1) hrw
      rw [hall] at hcv2
      have hl2 : (W.mulL A s.data.toList).length = s.size := by rw [W.mulL_len]; exact hls
      rw [hl2] at hcv2
      have HBL : Hid (Below w.heap.size w wr) := hbl
      clear hrw hall hl2 hll hbl
      go_wp2_with fail
      go_ret
      exact ⟨rfl, HBL.out⟩
end Go.Proofs.Ytdlgailodhlbmaa
/- PrO: The program's own ApplyM. -/
namespace Go.Proofs.Ytdlgailodhlbmaa
open Go.RowKit
open W (B8 Mx)
attribute [local go_sem ↓] Go.wp_at_zero Go.wp_at_succ
attribute [local irreducible] W.gm W.xs W.mm W.gi mx addB mulT matOk

set_option maxRecDepth 100000 in
set_option maxHeartbeats 4000000 in
theorem applyI_walk (X : List (List Int)) (L : List ByteArray) (n m b1 o1 b2 o2 cap1 cap2 : Nat) (w : World) (hn1 : 1 ≤ n) (hn8 : n ≤ 8) (hm1 : 1 ≤ m) (hm8 : m ≤ 8) (hxl : X.length = n) (hll : L.length = m)
    (hR : b1 < w.heap.size ∧ ∀ i, i < n → ∃ b' o' cp, w.cell? ⟨b1, o1 + i, none⟩ = some (.slice (some ⟨b', o', none⟩) m cp) ∧ b' < w.heap.size ∧ ∀ j, j < m → w.cell? ⟨b', o' + j, none⟩ = some (.int .i64 ((X.getD i []).getD j 0)))
    (hU : b2 < w.heap.size ∧ ∀ j, j < m → w.cell? ⟨b2, o2 + j, none⟩ = some (.string (L.getD j ⟨#[]⟩))) (hf : ∀ x ∈ L, x.size ≤ 1048576)
    (hc1 : ∀ W : World, Below w.heap.size w W → Calls Try.prog 54 #[.slice (some ⟨b1, o1, none⟩) n cap1] W fun e w' => e = .returned (.bool true) ∧ Below W.heap.size W w') :
    Calls Try.prog 42 #[.slice (some ⟨b1, o1, none⟩) n cap1, .slice (some ⟨b2, o2, none⟩) m cap2] w fun e w' => SPost (X.map fun row => accB row L L.length) w e w' := by
  obtain ⟨i0, hi0, hz0, hz1, hz2⟩ := info_parts infoTextG
  have HC1 : Hid _ := hc1
  have HR : Shut (b1 < w.heap.size ∧ ∀ i, i < n → ∃ b' o' cp, w.cell? ⟨b1, o1 + i, none⟩ = some (.slice (some ⟨b', o', none⟩) m cp) ∧ b' < w.heap.size ∧ ∀ j, j < m → w.cell? ⟨b', o' + j, none⟩ = some (.int .i64 ((X.getD i []).getD j 0))) := ⟨hR⟩
  have HU : Shut (b2 < w.heap.size ∧ ∀ j, j < m → w.cell? ⟨b2, o2 + j, none⟩ = some (.string (L.getD j ⟨#[]⟩))) := ⟨hU⟩
  have HF : Shut (∀ x ∈ L, x.size ≤ 1048576) := ⟨hf⟩
  have HX : Shut (X.length = n ∧ L.length = m) := ⟨hxl, hll⟩
  have hne : ((m : Int) != (m : Int)) = false := by simp
  have n0 : (0 : Int) < (n : Int) := by omega
  clear hc1 hR hU hf hxl hll
  go_enter Try.func42, Try.ntmps42
  go_wp2_with fail
  refine (HC1.out _ (Below.refl _ _)).mono ?_
  rintro e w1 ⟨rfl, hb1⟩
  have hbw1 : Below w.heap.size w w1 := hb1
  obtain ⟨br, or, cr, d0', lr, _⟩ := HR.out.2 0 (by omega)
  have d0 : w1.cell? ⟨b1, o1, none⟩ = some (.slice (some ⟨br, or, none⟩) m cr) := (hbw1.cell (p := ⟨b1, o1 + 0, none⟩) HR.out.1).trans d0'
  have HOWN : Shut (w1.ownsRow w.heap.size 9 1 (.slice none 0 0) 0 []) := ⟨World.ownsRow_nil _ _ _ _⟩
  have HB1 : Shut (Below w.heap.size w w1) := ⟨hbw1⟩
  clear hb1 hbw1 HC1 d0'
  go_wp2_with fail
  go_loopw [5, 25] (fun v i wr => ∃ (k : Nat) (vv : Value), vv = v ∧ i = .int .i64 k ∧ k ≤ n ∧ Shut (wr.ownsRow w.heap.size 9 1 vv k (tv ((X.map fun row => accB row L L.length).take k))) ∧ Shut (Below w.heap.size w wr)) (fun _ i _ => n - (intOf i).toNat)
  case atStart => exact ⟨0, _, rfl, rfl, by omega, HOWN, HB1⟩
  case round =>
    clear HOWN HB1 d0 lr
    obtain ⟨k, v, rfl, rfl, hk, hown, hb⟩ := hrel
    obtain ⟨wo, rfl⟩ : ∃ wo, wo = wr := ⟨_, rfl⟩
    by_cases hlt : k < n
    · have hlt' : (k : Int) < (n : Int) := by omega
      have k0 : (0 : Int) ≤ (k : Int) := by omega
      obtain ⟨b', o', cp, e1, l1, e2⟩ := HR.out.2 k hlt
      have d1 := (hb.out.cell (p := ⟨b1, o1 + k, none⟩) HR.out.1).trans e1
      have HE2 := Shut.mk e2
      clear e1 e2
      obtain ⟨r, hre⟩ : ∃ r, r = X.getD k [] := ⟨_, rfl⟩
      have HRE : Shut (r = X.getD k []) := ⟨hre⟩
      clear hre
      go_wp2_with fail
      go_loopw [8, 31] (fun s j wq => ∃ (t : Nat), j = .int .i64 t ∧ t ≤ m ∧ s = .string (accB r L t) ∧ Shut (wq.ownsRow w.heap.size 9 1 v k (tv ((X.map fun row => accB row L L.length).take k))) ∧ Shut (Below w.heap.size w wq)) (fun _ j _ => m - (intOf j).toNat)
      case atStart => exact ⟨0, rfl, by omega, rfl, hown, hb⟩
      case round =>
        clear hown hb
        obtain ⟨t, rfl, ht, rfl, hown, hb⟩ := hrel
        obtain ⟨wi, rfl⟩ : ∃ wi, wi = wr := ⟨_, rfl⟩
        by_cases htl : t < m
        · have htl' : (t : Int) < (m : Int) := by omega
          have t0 : (0 : Int) ≤ (t : Int) := by omega
          have d2 := (hb.out.cell (p := ⟨b', o' + t, none⟩) l1).trans (HE2.out t htl)
          have d3 := (hb.out.cell (p := ⟨b2, o2 + t, none⟩) HU.out.1).trans (HU.out.2 t htl)
          rw [← HRE.out] at d2
          have hsz := hb.out.size
          have l2 : b1 < wi.heap.size := Nat.lt_of_lt_of_le HR.out.1 hsz
          have l3 : b2 < wi.heap.size := Nat.lt_of_lt_of_le HU.out.1 hsz
          have l4 : b' < wi.heap.size := Nat.lt_of_lt_of_le l1 hsz
          have hst : accB r L (t + 1) = addB (accB r L t) (mulT (g8 (r.getD t 0)) (L.getD t ⟨#[]⟩)) := rfl
          have hz1 := accB_size r L HF.out t
          have hz2 := HF.out (L.getD t ⟨#[]⟩) (by have := HX.out.2; simp [List.getD, show t < L.length by omega])
          have hz3 := mulT_size (g8 (r.getD t 0)) (L.getD t ⟨#[]⟩)
          have HM := Shut.mk fun W => implMulText (r.getD t 0) (L.getD t ⟨#[]⟩) W hz2
          have HA := Shut.mk fun W => implAddText (accB r L t) (mulT (g8 (r.getD t 0)) (L.getD t ⟨#[]⟩)) W hz1 (by omega)
          generalize mulT (g8 (r.getD t 0)) (L.getD t ⟨#[]⟩) = M at HM HA hst
          generalize r.getD t 0 = x at *
          generalize L.getD t ⟨#[]⟩ = u at *
          have HST := Shut.mk hst
          clear hst hz1 hz2 hz3
          go_wp2_with fail
          refine (HM.out _).mono ?_
          rintro e w6 ⟨rfl, hbA⟩
          have HBA := Shut.mk hbA
          clear hbA
          go_wp2_with fail
          refine (HA.out _).mono ?_
          rintro e w7 ⟨rfl, hbB⟩
          have hbx : Below wi.heap.size wi w7 := HBA.out.trans (hbB.mono HBA.out.size)
          have HO := Shut.mk (hown.out.kept (row := none) ⟨hbx.os, hbx.tape, hbx.output, hbx.size, fun k hk _ => hbx.block k hk⟩ (Classical.em _))
          have HB2 := Shut.mk (hb.out.trans (hbx.mono hb.out.size))
          clear hbx HBA hbB hown hb
          go_wp2_with fail
          go_roundw
          case rel => exact ⟨t + 1, by go_num, by omega, by rw [HST.out], HO, HB2⟩
          case measure => simp [intOf]; omega
        · have e : t = m := by omega
          have htl' : ¬ (t : Int) < (m : Int) := by omega
          have hsz := hb.out.size
          have hown' := hown.out
          have HST : Shut (tv ((X.map fun row => accB row L L.length).take (k + 1)) = tv ((X.map fun row => accB row L L.length).take k) ++ [.string (accB r L t)]) := ⟨by
            have hkx : k < X.length := by have := HX.out.1; omega
            rw [List.take_succ_eq_append_getElem (by rw [List.length_map]; exact hkx), ← tv_snoc, List.getElem_map, HRE.out, e, HX.out.2]
            congr 3
            simp [List.getD, hkx]⟩
          clear e hown
          generalize accB r L t = T at *
          go_wp2_with (at_builtin; refine wpList_append_own _ rfl _ _ 24 rfl w.heap.size 9 i0 (.string ⟨#[]⟩) 1 16 Try.underlying24 hi0 hz0 hz1 hz2 rfl (by decide) _ _ _ rfl (hown'.alloc _) ⟨wi.heap.size, 0, none⟩ 1 1 [.string T] rfl rfl (cell_one_new _ _ _) ?c2 ?c3 ?c4 ?c5 ?_)
          case c2 => first | rfl | (intro u hu; simp at hu; subst hu; rfl)
          case c3 => unfold maxLen; omega
          case c4 => omega
          case c5 => first | omega | (simp; omega)
          intro v' w8 hown8 hgrow _
          rw [← HST.out] at hown8
          have hb8 : Below w.heap.size w w8 := (hb.out.alloc hsz _).grown hgrow (by simp; omega) (fun j hj => (hown'.lt j hj).1)
          have HO8 := Shut.mk hown8
          have HB8 := Shut.mk hb8
          clear hgrow hown8 hb8 hown' hb HST
          go_wp2_with fail
          go_roundw
          case rel => exact ⟨k + 1, v', rfl, by go_num, by omega, HO8, HB8⟩
          case measure => simp [intOf]; omega
    · have e : k = n := by omega
      have hlt' : ¬ (k : Int) < (n : Int) := by omega
      have hfin : SAns wo v (X.map fun row => accB row L L.length) w.heap.size wo.heap.size := own_sans (n := k) (by rw [List.length_map]; have := HX.out.1; omega) (by
        have h := hown.out
        rw [List.take_of_length_le (by rw [List.length_map]; have := HX.out.1; omega)] at h
        exact h)
      have HFIN := Shut.mk hfin
      clear hfin hown e
      go_wp2_with fail
      go_ret
      exact ⟨v, rfl, HFIN.out, hb.out⟩
set_option maxRecDepth 100000 in
set_option maxHeartbeats 4000000 in
theorem implApplyM (w : World) (v u : Value) (X : List (List Int)) (L : List ByteArray) (lo hi lo' hi' : Nat) (hs : MSee w v X lo hi) (ht : SSee w u L lo' hi') (hf : MFit X) (hg : TFit L) : Calls Try.prog 42 #[v, u] w fun e w' => SPost (appX X L) w e w' := by
  have hs' := hs
  obtain ⟨a1, cap1, ss, rfl, hr1, hm1⟩ := hs
  obtain ⟨a2, cap2, rfl, hm2⟩ := ht
  have hl1 : ss.length = X.length := by rw [← hr1, rws_len]
  rw [hl1] at hs' ⊢
  have hc1 := fun W (hW : Below w.heap.size w W) => implMatrixOk W _ X lo hi (hs'.below hW) hf
  cases h1 : matOk X with
  | false =>
    have HX : Hid (appX X L = []) := appX_no (fun h => by rw [h1] at h; cases h.1)
    rw [h1] at hc1
    have HC1 : Hid _ := hc1
    clear hc1 hm1 hm2 h1 hs' hf hg
    go_enter Try.func42, Try.ntmps42
    go_wp2_with fail
    refine (HC1.out _ (Below.refl _ _)).mono ?_
    rintro e w1 ⟨rfl, hb1⟩
    have HB : Hid (Below w.heap.size w w1) := hb1
    clear hb1
    go_wp2_with fail
    go_ret
    exact ⟨_, rfl, by rw [HX.out]; exact SAns.empty _ _ _ _ _, HB.out⟩
  | true =>
    rw [h1] at hc1
    obtain ⟨⟨hx1, hx8⟩, ⟨hcx1, hcx8⟩, _⟩ := matOk_iff h1
    obtain ⟨b1, o1, rfl, lb1, hrow1⟩ := rows_in hm1 hr1 h1
    by_cases h3 : colsOf X = L.length
    · obtain ⟨b2, o2, rfl, lb2, hrow2⟩ := units_in hm2 (by omega)
      have hX : appX X L = X.map fun row => accB row L L.length := if_pos ⟨h1, h3⟩
      rw [hX]
      rw [h3] at hrow1
      exact applyI_walk X L X.length L.length b1 o1 b2 o2 cap1 cap2 w hx1 hx8 (by omega) (by omega) rfl rfl ⟨lb1, hrow1⟩ ⟨lb2, hrow2⟩ (fun x hx => by have := tsum_mem hx; unfold TFit at hg; omega) hc1
    · have HX : Hid (appX X L = []) := appX_no (fun h => h3 h.2)
      obtain ⟨br, or, cr, d0', lr, _⟩ := hrow1 0 (by omega)
      have HD0 : Hid (∀ W : World, Below w.heap.size w W → W.cell? ⟨b1, o1, none⟩ = some (.slice (some ⟨br, or, none⟩) (colsOf X) cr)) := fun W hW => (hW.cell (p := ⟨b1, o1 + 0, none⟩) lb1).trans d0'
      have HC1 : Hid (∀ W : World, Below w.heap.size w W → Calls Try.prog 54 #[.slice (some ⟨b1, o1, none⟩) X.length cap1] W fun e w' => e = .returned (.bool true) ∧ Below W.heap.size W w') := hc1
      have hne : ((colsOf X : Int) != (L.length : Int)) = true := by rw [bne_iff_ne]; omega
      have n0 : (0 : Int) < (X.length : Int) := by omega
      clear hc1 hm1 hm2 hs' d0' lr hrow1 h1 h3 hr1 hl1 hf hg
      go_enter Try.func42, Try.ntmps42
      go_wp2_with fail
      refine (HC1.out _ (Below.refl _ _)).mono ?_
      rintro e w1 ⟨rfl, hb1⟩
      have hbw1 : Below w.heap.size w w1 := hb1
      have d0 := HD0.out w1 hbw1
      have HB : Hid (Below w.heap.size w w1) := hbw1
      clear hb1 hbw1
      go_wp2_with fail
      go_ret
      exact ⟨_, rfl, by rw [HX.out]; exact SAns.empty _ _ _ _ _, HB.out⟩
end Go.Proofs.Ytdlgailodhlbmaa
/- CdC: The program's own Encode. -/
namespace Go.Proofs.Ytdlgailodhlbmaa
open Go.RowKit
open W (B8 Mx)
attribute [local go_sem ↓] Go.wp_at_zero Go.wp_at_succ
attribute [local irreducible] W.gm W.xs W.mm W.gi mx matOk addB mulT appX codeX encX invX

theorem xsum_most {X : List (List Int)} {m : Nat} (h : ∀ x ∈ X, x.length ≤ m) : xsum X ≤ X.length * m := by
  induction X with
  | nil => simp [xsum]
  | cons x X ih =>
    simp only [xsum, List.length_cons, Nat.add_mul, Nat.one_mul]
    have h1 := h x (by simp)
    have h2 := ih (fun y hy => h y (by simp [hy]))
    omega
theorem codeX_small {s : Int} (h : schOk s = true) : MFit (codeX s) := by
  obtain ⟨b1, b2, b3, b4⟩ := sch_bounds h
  have h1 := codeX_len h
  have h2 := xsum_most (X := codeX s) (m := 4) (fun x hx => by have := (codeX_rows h x hx).1; omega)
  unfold MFit
  omega
theorem SAns.wide {w : World} {v : Value} {L : List ByteArray} {lo hi lo' hi' : Nat} (h : SAns w v L lo hi) (h1 : lo' ≤ lo) (h2 : hi ≤ hi') : SAns w v L lo' hi' := by
  obtain ⟨a, cap, e, hc, q⟩ := h
  refine ⟨a, cap, e, hc, ?_⟩
  rcases q with rfl | ⟨g, rfl, q1, q2, q3⟩
  · exact .inl rfl
  · exact .inr ⟨g, rfl, by omega, by omega, q3⟩
set_option maxRecDepth 100000 in
set_option maxHeartbeats 4000000 in
theorem implEncode (w : World) (u : Value) (L : List ByteArray) (lo hi : Nat) (s : Int) (hu : SSee w u L lo hi) (hf : TFit L) : Calls Try.prog 13 #[.int .i64 s, u] w fun e w' => TPost (encX s L) w e w' := by
  have HS := Shut.mk (fun W => implSchemaOf s W)
  unfold SchB at HS
  have HU := Shut.mk hu
  have HF := Shut.mk hf
  have hn : L.length ≤ 1048576 := by unfold TFit at hf; omega
  obtain ⟨a, cap, rfl, _⟩ := hu
  clear hf
  cases h : schOk s with
  | false =>
    have HE := Shut.mk (enc_not (s := s) (L := L) (fun q => by rw [h] at q; cases q))
    rw [h] at HS
    clear h
    go_enter Try.func13, Try.ntmps13
    go_wp2_with fail
    refine (HS.out _).mono ?_
    rintro e w1 ⟨rfl, hb⟩
    have HB := Shut.mk hb
    clear hb
    go_wp2_with fail
    go_ret2
    exact tpost_no HE.out rfl HB.out
  | true =>
    rw [h] at HS
    have hb := sch_bounds h
    have HK := Shut.mk h
    have HEN := Shut.mk (fun (q : ¬ (L.length = schK s ∧ mostL L ≤ 200)) => enc_not (s := s) (L := L) (fun _ q1 q2 => q ⟨q1, q2⟩))
    have HEY := Shut.mk (fun (q1 : L.length = schK s) (q2 : mostL L ≤ 200) => enc_is h q1 q2)
    clear h
    generalize schK s = k at *
    generalize schM s = m at *
    by_cases hl : L.length = k
    · have hne : ((k : Int) != (k : Int)) = false := by simp
      have hmx := most_fit HF.out
      have HLO := Shut.mk (fun W (hW : Below w.heap.size w W) => implLongest (HU.out.below hW) HF.out)
      rw [hl] at HLO ⊢
      by_cases h2 : mostL L ≤ 200
      · have HE := Shut.mk (HEY.out hl h2)
        have h3 : ¬ (200 : Int) < (mostL L : Nat) := by omega
        generalize mostL L = M at *
        have HC := Shut.mk (fun W => implCodeOf s W)
        clear HEN HEY
        go_enter Try.func13, Try.ntmps13
        go_wp2_with fail
        refine (HS.out _).mono ?_
        rintro e w1 ⟨rfl, hb1⟩
        have HB1 := Shut.mk hb1
        clear hb1
        go_wp2_with fail
        refine (HLO.out _ HB1.out).mono ?_
        rintro e w2 ⟨rfl, hb2⟩
        have HB2 := Shut.mk (HB1.out.trans (hb2.mono HB1.out.size))
        clear hb2 HB1 HLO
        go_wp2_with fail
        refine (HC.out _).mono ?_
        rintro e w3 ⟨v3, rfl, ha3, hb3⟩
        have HB3 := Shut.mk (HB2.out.trans (hb3.mono HB2.out.size))
        have HA := Shut.mk (implApplyM w3 v3 _ (codeX s) L _ _ _ _ ha3.see (HU.out.below HB3.out) (codeX_small HK.out) HF.out)
        rw [hl] at HA
        clear ha3 hb3 HC HB2
        go_wp2_with fail
        refine HA.out.mono ?_
        rintro e w4 ⟨v4, rfl, ha4, hb4⟩
        have HR := Shut.mk (show TPost (encX s L) w (.returned (.tuple #[v4, .bool true])) w4 from ⟨v4, by rw [HE.out], by rw [HE.out]; exact ha4.wide HB3.out.size (Nat.le_refl _), HB3.out.trans (hb4.mono HB3.out.size)⟩)
        clear ha4 hb4 HA
        go_wp2_with fail
        go_ret2
        exact HR.out
      · have HE := Shut.mk (HEN.out (fun q => h2 q.2))
        have h3 : (200 : Int) < (mostL L : Nat) := by omega
        generalize mostL L = M at *
        clear HEN HEY
        go_enter Try.func13, Try.ntmps13
        go_wp2_with fail
        refine (HS.out _).mono ?_
        rintro e w1 ⟨rfl, hb1⟩
        have HB1 := Shut.mk hb1
        clear hb1
        go_wp2_with fail
        refine (HLO.out _ HB1.out).mono ?_
        rintro e w2 ⟨rfl, hb2⟩
        have HB2 := Shut.mk (HB1.out.trans (hb2.mono HB1.out.size))
        clear hb2 HB1 HLO
        go_wp2_with fail
        go_ret2
        exact tpost_no HE.out rfl HB2.out
    · have HE := Shut.mk (HEN.out (fun q => hl q.1))
      have hne : ((L.length : Int) != (k : Int)) = true := by rw [bne_iff_ne]; omega
      clear HEN HEY
      go_enter Try.func13, Try.ntmps13
      go_wp2_with fail
      refine (HS.out _).mono ?_
      rintro e w1 ⟨rfl, hb1⟩
      have HB1 := Shut.mk hb1
      clear hb1
      go_wp2_with fail
      go_ret2
      exact tpost_no HE.out rfl HB1.out
end Go.Proofs.Ytdlgailodhlbmaa
/- PrH: An elimination of bytes, plain: rows that have the matrix at their left and what was done to ones at their right. Nothing of the program is read here. -/
namespace Go.Proofs.Ytdlgailodhlbmaa
open Go.RowKit
open W (B8 Mx)
attribute [local irreducible] W.gm W.xs W.mm W.gi matOk

def lf (K : List (List B8)) : Mx := fun i j => (K.getD i []).getD j 0#8
def rt (n : Nat) (K : List (List B8)) : Mx := fun i j => (K.getD i []).getD (n + j) 0#8
theorem getD_set {K : List (List B8)} {i : Nat} (hi : i < K.length) (r : List B8) (k : Nat) : (K.set i r).getD k [] = if k = i then r else K.getD k [] := by
  rw [List.getD_eq_getElem?_getD, List.getD_eq_getElem?_getD, List.getElem?_set]
  by_cases e : i = k
  · subst e; rw [if_pos rfl, if_pos rfl, if_pos hi]; rfl
  · rw [if_neg e, if_neg (Ne.symm e)]
/-- A row times a number, from the right. -/
def timesU (t : B8) (r : List B8) : List B8 := r.map fun x => W.gm x t
theorem timesU_len (t : B8) (r : List B8) : (timesU t r).length = r.length := by simp [timesU]
theorem timesU_at (t : B8) (r : List B8) (j : Nat) : (timesU t r).getD j 0#8 = W.gm t (r.getD j 0#8) := by
  unfold timesU
  rw [List.getD_eq_getElem?_getD, List.getElem?_map, List.getD_eq_getElem?_getD]
  cases r[j]? with
  | none => show 0#8 = W.gm t 0#8; rw [W.gm_zero]
  | some x => show W.gm x t = W.gm t x; exact W.gm_comm _ _
def swapU (p c : Nat) (K : List (List B8)) : List (List B8) := (K.set p (K.getD c [])).set c (K.getD p [])
theorem swapU_at {K : List (List B8)} {p c : Nat} (hp : p < K.length) (hc : c < K.length) (i : Nat) : (swapU p c K).getD i [] = if i = p then K.getD c [] else if i = c then K.getD p [] else K.getD i [] := by
  unfold swapU
  rw [getD_set (by rw [List.length_set]; exact hc)]
  by_cases e2 : i = c
  · rw [if_pos e2]
    by_cases e1 : i = p
    · rw [if_pos e1, ← e2, e1]
    · rw [if_neg e1, if_pos e2]
  · rw [if_neg e2, getD_set hp]
    by_cases e1 : i = p
    · rw [if_pos e1, if_pos e1]
    · rw [if_neg e1, if_neg e1, if_neg e2]
/-- What is known of the rows, with the first c columns done. -/
structure PuK (n c : Nat) (M : Mx) (K : List (List B8)) : Prop where
  len : K.length = n
  row : ∀ i, i < n → (K.getD i []).length = n + n
  el : W.Elim n M (lf K) (rt n K)
  co : W.Cols n c (lf K)
theorem swapU_len (p c : Nat) (K : List (List B8)) : (swapU p c K).length = K.length := by simp [swapU]
theorem lf_swap {K : List (List B8)} {p c : Nat} (hp : p < K.length) (hc : c < K.length) : lf (swapU p c K) = W.swapR p c (lf K) := by
  funext i j
  unfold lf W.swapR
  rw [swapU_at hp hc]
  split
  · rfl
  · split <;> rfl
theorem rt_swap {K : List (List B8)} {n p c : Nat} (hp : p < K.length) (hc : c < K.length) : rt n (swapU p c K) = W.swapR p c (rt n K) := by
  funext i j
  unfold rt W.swapR
  rw [swapU_at hp hc]
  split
  · rfl
  · split <;> rfl
theorem PuK.swap {n c p : Nat} {M : Mx} {K : List (List B8)} (h : PuK n c M K) (hc : c < n) (hp : p < n) (hcp : c ≤ p) : PuK n c M (swapU p c K) := by
  have hp' : p < K.length := by rw [h.len]; exact hp
  have hc' : c < K.length := by rw [h.len]; exact hc
  refine ⟨by rw [swapU_len]; exact h.len, fun i hi => ?_, ?_, ?_⟩
  · rw [swapU_at hp' hc']
    split
    · exact h.row c hc
    · split
      · exact h.row p hp
      · exact h.row i hi
  · rw [lf_swap hp' hc', rt_swap hp' hc']; exact h.el.swap hp hc
  · rw [lf_swap hp' hc']; exact cols_swap h.co hc hp hcp
theorem PuK.swap_c {n c p : Nat} {M : Mx} {K : List (List B8)} (h : PuK n c M K) (hc : c < n) (hp : p < n) : lf (swapU p c K) c c = lf K p c := by
  rw [lf_swap (by rw [h.len]; exact hp) (by rw [h.len]; exact hc)]
  unfold W.swapR
  by_cases e : c = p
  · subst e; rw [if_pos rfl]
  · rw [if_neg e, if_pos rfl]
theorem PuK.times {n c : Nat} {M : Mx} {K : List (List B8)} (h : PuK n c M K) (hc : c < n) {x : B8} (hx : x = lf K c c) (h0 : x ≠ 0#8) : PuK n c M (K.set c (timesU (W.gi x) (K.getD c []))) ∧ ColDone n c 0 (lf (K.set c (timesU (W.gi x) (K.getD c [])))) := by
  have hc' : c < K.length := by rw [h.len]; exact hc
  have e1 : lf (K.set c (timesU (W.gi x) (K.getD c []))) = W.timesR c (W.gi x) (lf K) := by
    funext i j
    unfold lf W.timesR
    rw [getD_set hc']
    by_cases e : i = c
    · rw [if_pos e, if_pos e, timesU_at]
    · rw [if_neg e, if_neg e]
  have e2 : rt n (K.set c (timesU (W.gi x) (K.getD c []))) = W.timesR c (W.gi x) (rt n K) := by
    funext i j
    unfold rt W.timesR
    rw [getD_set hc']
    by_cases e : i = c
    · rw [if_pos e, if_pos e, timesU_at]
    · rw [if_neg e, if_neg e]
  have hs : W.gm (W.gi x) x = 1#8 := by rw [W.gm_comm]; exact W.gm_gi x h0
  refine ⟨⟨by rw [List.length_set]; exact h.len, fun i hi => ?_, ?_, ?_⟩, ?_, fun k hk => by omega⟩
  · rw [getD_set hc']
    split
    · rw [timesU_len]; exact h.row c hc
    · exact h.row i hi
  · rw [e1, e2]; exact h.el.times hc hs
  · rw [e1]; exact cols_times h.co hc _
  · rw [e1]; unfold W.timesR; rw [if_pos rfl, ← hx, hs]
theorem PuK.plus {n c i : Nat} {M : Mx} {K : List (List B8)} (h : PuK n c M K) (hc : c < n) (hi : i < n) (hic : i ≠ c) (hd : ColDone n c i (lf K)) {t : B8} (ht : t = lf K i c) : PuK n c M (K.set i (plusU t (K.getD i []) (K.getD c []))) ∧ ColDone n c (i + 1) (lf (K.set i (plusU t (K.getD i []) (K.getD c [])))) := by
  have hi' : i < K.length := by rw [h.len]; exact hi
  have e1 : W.eqM n n (lf (K.set i (plusU t (K.getD i []) (K.getD c [])))) (W.plusR i c t (lf K)) := by
    intro k hk j hj
    unfold lf W.plusR
    rw [getD_set hi']
    by_cases e : k = i
    · rw [if_pos e, if_pos e, plusU_at (by rw [h.row i hi]; omega)]
    · rw [if_neg e, if_neg e]
  have e2 : W.eqM n n (rt n (K.set i (plusU t (K.getD i []) (K.getD c [])))) (W.plusR i c t (rt n K)) := by
    intro k hk j hj
    unfold rt W.plusR
    rw [getD_set hi']
    by_cases e : k = i
    · rw [if_pos e, if_pos e, plusU_at (by rw [h.row i hi]; omega)]
    · rw [if_neg e, if_neg e]
  refine ⟨⟨by rw [List.length_set]; exact h.len, fun k hk => ?_, (h.el.plus hi hc hic t).congr e1.symm e2.symm, cols_congr (cols_plus h.co hc t) (Nat.le_of_lt hc) e1.symm⟩, ?_, fun k hk hkn hkc => ?_⟩
  · rw [getD_set hi']
    split
    · rw [plusU_len]; exact h.row i hi
    · exact h.row k hk
  · rw [e1 c hc c hc]
    unfold W.plusR
    rw [if_neg (Ne.symm hic)]; exact hd.1
  · rw [e1 k hkn c hc]
    unfold W.plusR
    by_cases e : k = i
    · rw [if_pos e, hd.1, W.gm_one, ht, BitVec.xor_self]
    · rw [if_neg e]; exact hd.2 k (by omega) hkn hkc
theorem PuK.next {n c : Nat} {M : Mx} {K : List (List B8)} (h : PuK n c M K) (hd : ColDone n c n (lf K)) : PuK n (c + 1) M K := ⟨h.len, h.row, h.el, col_all h.co hd⟩
/-- The rows at the start: a matrix with ones beside it. -/
def besideU (K L : List (List B8)) : List (List B8) := (List.range K.length).map fun i => K.getD i [] ++ L.getD i []
theorem besideU_at {K L : List (List B8)} {i : Nat} (hi : i < K.length) : (besideU K L).getD i [] = K.getD i [] ++ L.getD i [] := by
  unfold besideU
  rw [List.getD_eq_getElem?_getD, List.getElem?_map, List.getElem?_range hi]; rfl
theorem besideU_len (K L : List (List B8)) : (besideU K L).length = K.length := by simp [besideU]
theorem onesU_at {t : B8} {n i : Nat} (hi : i < n) : (onesU t n).getD i [] = oneU t n i := by
  unfold onesU
  rw [List.getD_eq_getElem?_getD, List.getElem?_map, List.getElem?_range hi]; rfl
theorem oneU_at {n i j : Nat} (hi : i < n) (hj : j < n) : (oneU 1#8 n i).getD j 0#8 = W.one i j := by
  unfold oneU W.one
  rw [List.getD_eq_getElem?_getD, List.getElem?_set]
  by_cases e : i = j
  · subst e; rw [if_pos rfl, if_pos rfl, if_pos (by simpa using hi)]; rfl
  · rw [if_neg e, if_neg e]; simp [hj]
theorem PuK.start {n : Nat} {K : List (List B8)} (hK : K.length = n) (hr : ∀ i, i < n → (K.getD i []).length = n) : PuK n 0 (lf K) (besideU K (onesU 1#8 n)) := by
  refine ⟨by rw [besideU_len]; exact hK, fun i hi => ?_, (W.Elim.start n (lf K)).congr (fun i hi j hj => ?_) (fun i hi j hj => ?_), fun i _ j hj => by omega⟩
  · rw [besideU_at (by omega), List.length_append, hr i hi, onesU_at hi, oneU_len]
  · unfold lf
    rw [besideU_at (by omega)]
    have hl := hr i hi
    generalize K.getD i [] = r at *
    rw [List.getD_eq_getElem?_getD, List.getD_eq_getElem?_getD, List.getElem?_append_left (by omega)]
  · unfold rt
    rw [besideU_at (by omega), List.getD_eq_getElem?_getD, List.getElem?_append_right (by rw [hr i hi]; omega), hr i hi, Nat.add_sub_cancel_left, onesU_at hi, ← List.getD_eq_getElem?_getD, oneU_at hi hj]
/-- The right halves, as numbers. -/
def halfU (n : Nat) (K : List (List B8)) : List (List B8) := K.map fun r => r.drop n
theorem halfU_at (n : Nat) (K : List (List B8)) (i j : Nat) : mx (toIs (halfU n K)) i j = rt n K i j := by
  unfold mx rt toIs halfU
  rw [List.map_map, List.getD_eq_getElem?_getD (l := List.map _ K), List.getElem?_map, List.getD_eq_getElem?_getD (l := K)]
  cases K[i]? with
  | none => show g8 (([] : List Int).getD j 0) = ([] : List B8).getD (n + j) 0#8; rfl
  | some r =>
    show g8 ((toI (r.drop n)).getD j 0) = r.getD (n + j) 0#8
    unfold toI
    rw [List.getD_eq_getElem?_getD, List.getElem?_map, List.getElem?_drop, List.getD_eq_getElem?_getD]
    cases r[n + j]? with
    | none => rfl
    | some x => exact g8_back x
theorem PuK.done {n : Nat} {X : List (List Int)} {K : List (List B8)} (h : PuK n n (mx X) K) (hX : matOk X = true) (hn : X.length = n) (hc : colsOf X = n) : IsInv X (toIs (halfU n K)) := by
  obtain ⟨h1, h2⟩ := h.el.done (fun i hi j hj => h.co i hi j hj)
  have hsq : Sq n (toIs (halfU n K)) := by
    refine ⟨by simp [toIs, halfU, h.len], fun x hx => ?_⟩
    obtain ⟨r, hr, rfl⟩ := List.mem_map.1 hx
    obtain ⟨r', hr', rfl⟩ := List.mem_map.1 hr
    obtain ⟨i, hi, rfl⟩ := List.mem_iff_getElem.1 hr'
    have e : K.getD i [] = K[i] := by simp [List.getD, hi]
    have := h.row i (by rw [← h.len]; exact hi)
    rw [e] at this
    refine ⟨by rw [toI_len, List.length_drop, this]; omega, fun y hy => ?_⟩
    obtain ⟨z, _, rfl⟩ := List.mem_map.1 hy
    exact b8_num z
  have e : mx (toIs (halfU n K)) = rt n K := by funext i j; exact halfU_at n K i j
  refine ⟨hX, by omega, by rw [hn]; exact hsq, ?_, ?_⟩
  · rw [hn, e]; exact h1
  · rw [hn, e]; exact h2
theorem PuK.none {n c : Nat} {X : List (List Int)} {K : List (List B8)} (h : PuK n c (mx X) K) (hn : X.length = n) (hc : c < n) (hz : ∀ i, c ≤ i → i < n → lf K i c = 0#8) : ¬ ∃ Y, IsInv X Y := by
  rintro ⟨Y, hY⟩
  have := hY.2.2.2.1
  rw [hn] at this
  exact h.el.none hc h.co hz _ this
theorem lf_toBs (X : List (List Int)) : lf (toBs X) = mx X := by funext i j; exact toBs_get X i j
end Go.Proofs.Ytdlgailodhlbmaa
/- PrI: Rows of bytes that are turned in place: in memory. -/
namespace Go.Proofs.Ytdlgailodhlbmaa
open Go.RowKit
open W (B8 Mx)
attribute [local irreducible] W.gm W.xs W.mm W.gi matOk

theorem ks_set {ss : List KS} {i : Nat} (s : KS) (hi : i < ss.length) (k : Nat) : (ss.set i s).getD k default = if k = i then s else ss.getD k default := by
  rw [List.getD_eq_getElem?_getD, List.getD_eq_getElem?_getD, List.getElem?_set]
  by_cases e : i = k
  · subst e; rw [if_pos rfl, if_pos rfl, if_pos hi]; rfl
  · rw [if_neg e, if_neg (Ne.symm e)]
theorem kws_at (ss : List KS) (i : Nat) : (kws ss).getD i [] = (ss.getD i default).row := by
  unfold kws
  rw [List.getD_eq_getElem?_getD, List.getElem?_map, List.getD_eq_getElem?_getD]
  cases ss[i]? <;> rfl
theorem kvs_at {ss : List KS} {i : Nat} (hi : i < ss.length) : (kvs ss)[i]? = some (ksv (ss.getD i default)) := by
  rw [kvs_get ss i hi]; simp [List.getD, hi]
/-- A row of rows of bytes that may be written: each row in a block of its own, all from B on. -/
structure KX (w : World) (B g : Nat) (ss : List KS) : Prop where
  out : WCells w g (kvs ss)
  glo : B ≤ g
  rows : ∀ i, i < ss.length → ∃ b, (ss.getD i default).loc = some ⟨b, 0, none⟩ ∧ B ≤ b ∧ b ≠ g ∧ WCells w b (ucs (ss.getD i default).row) ∧ (ss.getD i default).row.length ≤ (ss.getD i default).cap
  apart : ∀ i j, i < j → j < ss.length → (ss.getD i default).loc ≠ (ss.getD j default).loc
theorem KX.ne {w : World} {B g : Nat} {ss : List KS} (h : KX w B g ss) {i j : Nat} (hi : i < ss.length) (hj : j < ss.length) (hij : i ≠ j) : (ss.getD i default).loc ≠ (ss.getD j default).loc := by
  rcases Nat.lt_or_gt_of_ne hij with q | q
  · exact h.apart i j q hj
  · exact (h.apart j i q hi).symm
theorem KW.kx {w : World} {g lo hi : Nat} {ss : List KS} (h : KW w g ss lo hi) : KX w lo g ss := by
  refine ⟨h.out, h.glo, fun i hi => ?_, fun i j hij hj e => ?_⟩
  · have e : ss.getD i default = ss[i] := by simp [List.getD, hi]
    rw [e]
    obtain ⟨b, e1, h1, _, h3, h4, h5⟩ := h.rows ss[i] (List.getElem_mem hi)
    exact ⟨b, e1, h1, h3, h4, h5⟩
  · have hi : i < ss.length := by omega
    have e1 : ss.getD i default = ss[i] := by simp [List.getD, hi]
    have e2 : ss.getD j default = ss[j] := by simp [List.getD, hj]
    rw [e1, e2] at e
    have := List.pairwise_iff_getElem.1 h.apart i j (by simpa using hi) (by simpa using hj) hij
    simp at this
    exact this e
theorem KX.below {w w' : World} {B g : Nat} {ss : List KS} (h : KX w B g ss) (hb : Below w.heap.size w w') : KX w' B g ss :=
  ⟨h.out.below hb h.out.1, h.glo, fun i hi => by
    obtain ⟨b, e, h1, h2, h3, h4⟩ := h.rows i hi
    exact ⟨b, e, h1, h2, h3.below hb h3.1, h4⟩, h.apart⟩
/-- A row is turned. -/
theorem KX.setRow {w w' : World} {B g : Nat} {ss : List KS} (h : KX w B g ss) {i b : Nat} {r : List B8} (hi : i < ss.length) (hloc : (ss.getD i default).loc = some ⟨b, 0, none⟩) (hg : w.grownBy w' (some b)) (hc : WCells w' b (ucs r)) (hl : r.length = (ss.getD i default).row.length) :
    KX w' B g (ss.set i ⟨some ⟨b, 0, none⟩, r, (ss.getD i default).cap⟩) := by
  obtain ⟨b0, e0, h1, h2, h3, h4⟩ := h.rows i hi
  have eb : b0 = b := congrArg Addr.block (Option.some.inj (e0.symm.trans hloc))
  subst eb
  have eg : ss.getD i default = ss[i] := by simp [List.getD, hi]
  have ek : kvs (ss.set i ⟨some ⟨b0, 0, none⟩, r, (ss.getD i default).cap⟩) = kvs ss := by
    unfold kvs
    rw [List.map_set]
    have : ksv ⟨some ⟨b0, 0, none⟩, r, (ss.getD i default).cap⟩ = ksv (ss.getD i default) := by unfold ksv; simp only [hl, hloc]
    rw [this, eg]
    apply List.ext_getElem (by simp)
    intro k q1 q2
    rw [List.getElem_set]
    split
    · rename_i e; subst e; simp
    · rfl
  refine ⟨by rw [ek]; exact h.out.apart hg (Ne.symm h2), h.glo, fun k hk => ?_, fun k j hkj hj => ?_⟩
  · rw [List.length_set] at hk
    rw [ks_set _ hi]
    by_cases e : k = i
    · rw [if_pos e]
      exact ⟨b0, rfl, h1, h2, hc, by show r.length ≤ _; rw [hl]; exact h4⟩
    · rw [if_neg e]
      obtain ⟨b1, e1, q1, q2, q3, q4⟩ := h.rows k hk
      refine ⟨b1, e1, q1, q2, q3.apart hg (fun eb => ?_), q4⟩
      subst eb
      exact h.ne hk hi e (e1.trans e0.symm)
  · rw [List.length_set] at hj
    rw [ks_set _ hi, ks_set _ hi]
    by_cases e1 : k = i
    · rw [if_pos e1, if_neg (by omega)]
      show some _ ≠ _
      rw [← hloc]
      exact h.ne hi hj (by omega)
    · rw [if_neg e1]
      by_cases e2 : j = i
      · rw [if_pos e2]
        show _ ≠ some _
        rw [← hloc]
        exact h.ne (by omega) hi e1
      · rw [if_neg e2]; exact h.apart k j hkj hj
def swapK (p c : Nat) (ss : List KS) : List KS := (ss.set p (ss.getD c default)).set c (ss.getD p default)
theorem swapK_len (p c : Nat) (ss : List KS) : (swapK p c ss).length = ss.length := by simp [swapK]
theorem kws_set (ss : List KS) (i : Nat) (s : KS) : kws (ss.set i s) = (kws ss).set i s.row := by simp [kws, List.map_set]
theorem kvs_set (ss : List KS) (i : Nat) (s : KS) : (kvs ss).set i (ksv s) = kvs (ss.set i s) := by simp [kvs, List.map_set]
theorem kws_swap (p c : Nat) (ss : List KS) : kws (swapK p c ss) = swapU p c (kws ss) := by
  unfold swapK swapU
  rw [kws_set, kws_set, kws_at, kws_at]
theorem swapK_at {ss : List KS} {p c : Nat} (hp : p < ss.length) (hc : c < ss.length) (i : Nat) : (swapK p c ss).getD i default = ss.getD (if i = p then c else if i = c then p else i) default := by
  unfold swapK
  rw [ks_set _ (by rw [List.length_set]; exact hc)]
  by_cases e2 : i = c
  · rw [if_pos e2]
    by_cases e1 : i = p
    · rw [if_pos e1, ← e2, e1]
    · rw [if_neg e1, if_pos e2]
  · rw [if_neg e2, ks_set _ hp]
    by_cases e1 : i = p
    · rw [if_pos e1, if_pos e1]
    · rw [if_neg e1, if_neg e1, if_neg e2]
/-- Two rows in each other's place. -/
theorem KX.swap {w : World} {B g : Nat} {ss : List KS} (h : KX w B g ss) {p c : Nat} (hp : p < ss.length) (hc : c < ss.length) :
    KX ((w.setCell ⟨g, p, none⟩ (ksv (ss.getD c default))).setCell ⟨g, c, none⟩ (ksv (ss.getD p default))) B g (swapK p c ss) := by
  refine ⟨?_, h.glo, fun i hi => ?_, fun i j hij hj => ?_⟩
  · have h1 := h.out.set p (ksv (ss.getD c default)) (by rw [kvs_len]; exact hp)
    rw [kvs_set] at h1
    have h2 := h1.set c (ksv (ss.getD p default)) (by rw [kvs_len, List.length_set]; exact hc)
    rw [kvs_set] at h2
    exact h2
  · rw [swapK_len] at hi
    rw [swapK_at hp hc]
    obtain ⟨b, e, q1, q2, q3, q4⟩ := h.rows (if i = p then c else if i = c then p else i) (by split; exact hc; split; exact hp; exact hi)
    exact ⟨b, e, q1, q2, (q3.other ⟨g, p, none⟩ _ q2).other ⟨g, c, none⟩ _ q2, q4⟩
  · rw [swapK_len] at hj
    rw [swapK_at hp hc, swapK_at hp hc]
    refine h.ne (by split; exact hc; split; exact hp; omega) (by split; exact hc; split; exact hp; exact hj) ?_
    split
    · split
      · omega
      · split <;> omega
    · split
      · split
        · omega
        · split <;> omega
      · split
        · omega
        · split <;> omega
/-- What a walk wants of a row. -/
theorem KX.at {w : World} {B g m : Nat} {ss : List KS} (h : KX w B g ss) {i : Nat} (hi : i < ss.length) (hm : ((kws ss).getD i []).length = m) : ∃ b cp, (ss.getD i default).loc = some ⟨b, 0, none⟩ ∧ (ss.getD i default).cap = cp ∧ B ≤ b ∧ b ≠ g ∧ b < w.heap.size ∧ m ≤ cp ∧ w.cell? ⟨g, i, none⟩ = some (.slice (some ⟨b, 0, none⟩) m cp) ∧ w.frozen? ⟨g, i, none⟩ = false ∧ WCells w b (ucs ((kws ss).getD i [])) ∧ ksv (ss.getD i default) = .slice (some ⟨b, 0, none⟩) m cp := by
  obtain ⟨b, e, h1, h2, h3, h4⟩ := h.rows i hi
  have hk := h.out.2 i _ (kvs_at hi)
  rw [kws_at] at hm ⊢
  have ev : ksv (ss.getD i default) = .slice (some ⟨b, 0, none⟩) m (ss.getD i default).cap := by unfold ksv; rw [e, hm]
  rw [ev] at hk
  exact ⟨b, _, e, rfl, h1, h2, h3.1, by omega, hk.1, hk.2, h3, ev⟩
end Go.Proofs.Ytdlgailodhlbmaa
