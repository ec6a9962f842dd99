/- The program's own MatrixOk. -/
import Derived.Test.YtdlgailodhlbmaaMatA
namespace Go.Proofs.Ytdlgailodhlbmaa
open Go.RowKit
attribute [local go_sem ↓] Go.wp_at_zero Go.wp_at_succ

theorem rowOk_all {x : List Int} (h3 : ∀ k, k < x.length → numOk (x.getD k 0) = true) : rowOk x.length x = (decide (1 ≤ (x.length : Int)) && decide ((x.length : Int) ≤ 8)) := by
  unfold rowOk
  have : x.all numOk = true := by
    rw [List.all_eq_true]
    intro y hy
    obtain ⟨k, hk, rfl⟩ := List.mem_iff_getElem.1 hy
    have := h3 k hk
    simpa [List.getD, hk] using this
  rw [this, decide_eq_true rfl, Bool.true_and, Bool.and_true]
set_option maxHeartbeats 1000000 in
theorem implRowOk (a : Option Addr) (xs : List Int) (cap : Nat) (w : World) (hr : CRow w a (ics xs)) (hl : xs.length ≤ 1048576) :
    Calls Try.prog 71 #[.slice a xs.length cap] w fun e w' => e = .returned (.bool (rowOk xs.length xs)) ∧ w' = w := by
  have HR : Hid (CRow w a (ics xs)) := hr
  clear hr
  obtain ⟨R, hR⟩ : ∃ R, R = rowOk xs.length xs := ⟨_, rfl⟩
  rw [← hR]
  have HRR : Hid (R = rowOk xs.length xs) := hR
  clear hR
  go_enter Try.func71, Try.ntmps71
  go_wp2_with fail
  go_loop [7] (fun i => ∃ k : Nat, i = .int .i64 k ∧ k ≤ xs.length ∧ ∀ u, u < k → numOk (xs.getD u 0) = true) (fun i => xs.length - (intOf i).toNat)
  case atStart => exact ⟨0, rfl, Nat.zero_le _, fun u h => by omega⟩
  case round =>
    obtain ⟨k, rfl, hk, hnum⟩ := hrel
    have HNUM : Hid (∀ u, u < k → numOk (xs.getD u 0) = true) := hnum
    clear hnum
    by_cases hlt : k < xs.length
    · obtain ⟨b, off, rfl, lb, hc⟩ := crow_int HR.out (by omega)
      have d0 := hc k hlt
      obtain ⟨y, hy⟩ : ∃ y, y = xs.getD k 0 := ⟨_, rfl⟩
      have HY : Hid (y = xs.getD k 0) := hy
      rw [← hy] at d0
      have k0 : (0 : Int) ≤ (k : Int) := by omega
      have k1 : (k : Int) < (xs.length : Int) := by omega
      clear hc hy
      by_cases c0 : y < 0
      · have HNO : Hid (R = false) := by rw [HRR.out]; exact rowOk_num hlt (by rw [← HY.out]; unfold numOk; rw [decide_eq_false (by omega), Bool.false_and])
        go_wp2_with fail
        go_ret
        exact ⟨by rw [HNO.out]; rfl, rfl⟩
      · by_cases c1 : (255 : Int) < y
        · have HNO : Hid (R = false) := by rw [HRR.out]; exact rowOk_num hlt (by rw [← HY.out]; unfold numOk; rw [decide_eq_false (p := y ≤ 255) (by omega), Bool.and_false])
          go_wp2_with fail
          go_ret
          exact ⟨by rw [HNO.out]; rfl, rfl⟩
        · have HQ : Hid (numOk (xs.getD k 0) = true) := by rw [← HY.out]; unfold numOk; rw [decide_eq_true (by omega), decide_eq_true (by omega)]; rfl
          go_wp2_with fail
          go_round
          case rel => exact ⟨k + 1, by go_num, by omega, fun u hu => by
            by_cases e : u = k
            · subst e; exact HQ.out
            · exact HNUM.out u (by omega)⟩
          case measure => simp [intOf]; omega
    · have hlt' : ¬ (k : Int) < (xs.length : Int) := by omega
      have HE : Hid (R = (decide (1 ≤ (xs.length : Int)) && decide ((xs.length : Int) ≤ 8))) := by rw [HRR.out]; exact rowOk_all fun u hu => HNUM.out u (by omega)
      by_cases c0 : (1 : Int) ≤ (xs.length : Int)
      · by_cases c1 : (xs.length : Int) ≤ 8
        · have HV : Hid (R = true) := by rw [HE.out, decide_eq_true c0, decide_eq_true c1]; exact rfl
          go_wp2_with fail
          go_ret
          exact ⟨by rw [HV.out]; rfl, rfl⟩
        · have HV : Hid (R = false) := by rw [HE.out, decide_eq_true c0, decide_eq_false c1]; exact rfl
          go_wp2_with fail
          go_ret
          exact ⟨by rw [HV.out]; rfl, rfl⟩
      · have HV : Hid (R = false) := by rw [HE.out, decide_eq_false c0]; exact rfl
        go_wp2_with fail
        go_ret
        exact ⟨by rw [HV.out]; rfl, rfl⟩
set_option maxRecDepth 100000 in
set_option maxHeartbeats 2000000 in
theorem implMatrixOk (w : World) (v : Value) (X : List (List Int)) (lo hi : Nat) (hs : MSee w v X lo hi) (hf : MFit X) :
    Calls Try.prog 54 #[v] w fun e w' => e = .returned (.bool (matOk X)) ∧ Below w.heap.size w w' := by
  obtain ⟨a, cap, ss, rfl, hr, hm⟩ := hs
  obtain ⟨hl, hrl, _, _⟩ := rows_fit hr hf
  have HM : Hid (MR w a ss lo hi) := hm
  have HX : Hid (rws ss = X ∧ ∀ s ∈ ss, s.row.length ≤ 1048576) := ⟨hr, hrl⟩
  obtain ⟨n, hn⟩ : ∃ n, n = ss.length := ⟨_, rfl⟩
  have HN : Hid (n = ss.length ∧ X.length = n) := ⟨hn, by rw [← hr, rws_len, hn]⟩
  rw [← hn]
  rw [← hn] at hl
  clear hm hr hrl hf hn
  obtain ⟨c, hc⟩ : ∃ c, c = (X.headD []).length := ⟨_, rfl⟩
  have HC : Hid (c = (X.headD []).length) := hc
  obtain ⟨R, hR⟩ : ∃ R, R = matOk X := ⟨_, rfl⟩
  rw [← hR]
  have HRR : Hid (R = matOk X) := hR
  clear hc hR
  by_cases n1 : (n : Int) < 1
  · have HNO : Hid (R = false) := by
      rw [HRR.out]; unfold matOk; rw [HN.out.2, decide_eq_false (p := (1 : Int) ≤ (n : Int)) (by omega), Bool.false_and, Bool.and_false]; exact rfl
    go_enter Try.func54, Try.ntmps54
    go_wp2_with fail
    go_ret
    exact ⟨by rw [HNO.out]; rfl, Below.refl _ _⟩
  by_cases n2 : (8 : Int) < (n : Int)
  · have HNO : Hid (R = false) := by
      rw [HRR.out]; unfold matOk; rw [HN.out.2, decide_eq_false (p := (n : Int) ≤ 8) (by omega), Bool.and_false, Bool.and_false]; exact rfl
    go_enter Try.func54, Try.ntmps54
    go_wp2_with fail
    go_ret
    exact ⟨by rw [HNO.out]; rfl, Below.refl _ _⟩
  go_enter Try.func54, Try.ntmps54
  go_wp2_with fail
  go_loopw [15] (fun i wr => ∃ (k : Nat), i = .int .i64 k ∧ k ≤ n ∧ (∀ j (h : j < ss.length), j < k → rowOk c ss[j].row = true) ∧ Below w.heap.size w wr) (fun i _ => n - (intOf i).toNat)
  case atStart => exact ⟨0, rfl, by omega, fun j _ h => by omega, Below.refl _ _⟩
  case round =>
    obtain ⟨k, rfl, hk, hok, hbl⟩ := hrel
    obtain ⟨wo, rfl⟩ : ∃ wo, wo = wr := ⟨_, rfl⟩
    have HOK : Hid (∀ j (h : j < ss.length), j < k → rowOk c ss[j].row = true) := hok
    clear hok
    by_cases hlt : k < n
    · have hls : k < ss.length := by have := HN.out.1; omega
      have h0s : 0 < ss.length := by omega
      have HM' := HM.out.below hbl
      obtain ⟨b, off, rfl, lb, hcell⟩ := HM'.at h0s
      have d1 := hcell k hls
      have d0 : wo.cell? ⟨b, off, none⟩ = some (srv ss[0]) := hcell 0 h0s
      have hhead : (ss[0].row).length = c := by
        rw [HC.out, ← HX.out.1]
        have : (rws ss).headD [] = ss[0].row := by cases ss with | nil => simp at h0s | cons s t => rfl
        rw [this]
      have hrr := (HM'.2 ss[k] (List.getElem_mem hls)).crow
      have hmem : ss[k].row ∈ X := by rw [← HX.out.1]; exact List.mem_map.2 ⟨ss[k], List.getElem_mem hls, rfl⟩
      have hle := HX.out.2 ss[k] (List.getElem_mem hls)
      have HSK : Hid (∀ x : List Int, ss[k].row = x → rowOk c x = true → ∀ j (h : j < ss.length), j < k + 1 → rowOk c ss[j].row = true) := fun x hx hxo j hj hjk => by
        by_cases e : j = k
        · subst e; rw [hx]; exact hxo
        · exact HOK.out j hj (by omega)
      unfold srv at d0 d1
      rw [hhead] at d0
      generalize ss[0].loc = loc0 at d0
      generalize ss[0].cap = cp0 at d0
      obtain ⟨row, hrow⟩ : ∃ row, row = ss[k].row := ⟨_, rfl⟩
      have HROW : Hid (ss[k].row = row ∧ row ∈ X) := ⟨hrow.symm, by rw [hrow]; exact hmem⟩
      rw [← hrow] at d1 hrr hle
      generalize ss[k].loc = loc at *
      generalize ss[k].cap = cp at *
      have k0 : (0 : Int) ≤ (k : Int) := by omega
      have k1 : (k : Int) < (n : Int) := by omega
      have n0 : (0 : Int) < (n : Int) := by omega
      have HB : Hid (Below w.heap.size w wo) := hbl
      have hcall := implRowOk loc row cp wo hrr hle
      clear hrow hcell hhead hmem hrr HM' hbl
      by_cases hlen : row.length = c
      · subst hlen
        have e1 : ((row.length : Int) != (row.length : Int)) = false := by simp
        obtain ⟨r, hrb⟩ : ∃ r, rowOk row.length row = r := ⟨_, rfl⟩
        rw [hrb] at hcall
        have HRB : Hid (rowOk row.length row = r) := hrb
        clear hrb
        cases r
        · have HNO : Hid (R = false) := by rw [HRR.out]; exact matOk_no HROW.out.2 (by rw [← HC.out]; exact HRB.out)
          go_wp2_with fail
          refine hcall.mono ?_
          rintro e w5 ⟨rfl, rfl⟩
          go_wp2_with fail
          go_ret
          exact ⟨by rw [HNO.out]; rfl, HB.out⟩
        · go_wp2_with fail
          refine hcall.mono ?_
          rintro e w5 ⟨rfl, rfl⟩
          go_wp2_with fail
          go_roundw
          case rel => exact ⟨k + 1, by go_num, by omega, HSK.out row HROW.out.1 HRB.out, HB.out⟩
          case measure => simp [intOf]; omega
      · have e1 : ((row.length : Int) != (c : Int)) = true := by rw [bne_iff_ne]; omega
        have HNO : Hid (R = false) := by rw [HRR.out]; exact matOk_no HROW.out.2 (by rw [← HC.out]; unfold rowOk; rw [decide_eq_false hlen]; rfl)
        go_wp2_with fail
        go_ret
        exact ⟨by rw [HNO.out]; rfl, HB.out⟩
    · have e : k = n := by omega
      have HEND : Hid (R = true) := by
        have h1 : ∀ x ∈ X, rowOk (X.headD []).length x = true := fun x hx => by
          rw [← HX.out.1] at hx
          obtain ⟨s, hs, rfl⟩ := List.mem_map.1 hx
          obtain ⟨j, hj, rfl⟩ := List.mem_iff_getElem.1 hs
          rw [← HC.out]
          exact HOK.out j hj (by have := HN.out.1; omega)
        have := matOk_end h1
        rw [HN.out.2, decide_eq_true (p := (1 : Int) ≤ (n : Int)) (by omega), decide_eq_true (p := (n : Int) ≤ 8) (by omega)] at this
        rw [HRR.out]
        exact this
      have HB : Hid (Below w.heap.size w wo) := hbl
      have hlt' : ¬ (k : Int) < (n : Int) := by omega
      clear hbl
      go_wp2_with fail
      go_ret
      exact ⟨by rw [HEND.out]; rfl, HB.out⟩
end Go.Proofs.Ytdlgailodhlbmaa
