/- The walk of the model's MatrixOk. -/
import Derived.Test.YtdlgailodhlbmaaNestE
import Derived.Test.YtdlgailodhlbmaaVarL
import Derived.BigQuiet
namespace Go.Proofs.Ytdlgailodhlbmaa
open Go.RowKit
attribute [local go_sem ↓] Go.wp_at_zero Go.wp_at_succ

theorem lIn_is (x a b : Int) (w : World) (r : Bool) (h : (decide (a ≤ x) && decide (x ≤ b)) = r) : Calls Try.prog 53 #[.int .i64 x, .int .i64 a, .int .i64 b] w fun e w' => e = .returned (.bool r) ∧ w' = w := by
  rw [← h]; exact l01In_any x a b w
/-- A row of a matrix that is right. -/
def numOk (y : Int) : Bool := decide (0 ≤ y) && decide (y ≤ 255)
def rowOk (c : Nat) (x : List Int) : Bool := decide (x.length = c) && (decide (1 ≤ (x.length : Int)) && decide ((x.length : Int) ≤ 8)) && x.all numOk
/-- A matrix that is right. -/
def matOk (X : List (List Int)) : Bool := X.all (rowOk (X.headD []).length) && (decide (1 ≤ (X.length : Int)) && decide ((X.length : Int) ≤ 8))
theorem matOk_no {X : List (List Int)} {x : List Int} (hx : x ∈ X) (h : rowOk (X.headD []).length x = false) : matOk X = false := by
  unfold matOk
  have : X.all (rowOk (X.headD []).length) = false := by rw [List.all_eq_false]; exact ⟨x, hx, by rw [h]; simp⟩
  rw [this]; rfl
theorem matOk_end {X : List (List Int)} (h : ∀ x ∈ X, rowOk (X.headD []).length x = true) : matOk X = (decide (1 ≤ (X.length : Int)) && decide ((X.length : Int) ≤ 8)) := by
  unfold matOk
  rw [List.all_eq_true.2 h, Bool.true_and]
theorem rowOk_num {c : Nat} {x : List Int} {k : Nat} (hk : k < x.length) (h : numOk (x.getD k 0) = false) : rowOk c x = false := by
  unfold rowOk
  have e : x.getD k 0 = x[k] := by simp [List.getD, hk]
  rw [e] at h
  have : x.all numOk = false := by rw [List.all_eq_false]; exact ⟨x[k], List.getElem_mem hk, by rw [h]; simp⟩
  rw [this, Bool.and_false]
theorem rowOk_yes {c : Nat} {x : List Int} (h1 : x.length = c) (h2 : (decide (1 ≤ (x.length : Int)) && decide ((x.length : Int) ≤ 8)) = true) (h3 : ∀ k, k < x.length → numOk (x.getD k 0) = true) : rowOk c x = true := by
  unfold rowOk
  rw [decide_eq_true h1, h2, Bool.true_and, Bool.true_and, List.all_eq_true]
  intro y hy
  obtain ⟨k, hk, rfl⟩ := List.mem_iff_getElem.1 hy
  have := h3 k hk
  simpa [List.getD, hk] using this
set_option maxRecDepth 100000 in
set_option maxHeartbeats 2000000 in
theorem specMatrixOk {w : World} {v : Value} {X : List (List Int)} {lo hi : Nat} (hs : MSee w v X lo hi) (hf : MFit X) :
    Calls Try.prog 65 #[v] w fun e w' => e = .returned (.bool (matOk X)) ∧ Below w.heap.size w w' := by
  obtain ⟨a, cap, ss, rfl, hr, hm⟩ := hs
  obtain ⟨hl, hrl, _, _⟩ := rows_fit hr hf
  have HM : Hid (MR w a ss lo hi) := hm
  have HX : Hid (rws ss = X ∧ ∀ s ∈ ss, s.row.length ≤ 1048576) := ⟨hr, hrl⟩
  obtain ⟨n, hn⟩ : ∃ n, n = ss.length := ⟨_, rfl⟩
  have HN : Hid (n = ss.length ∧ X.length = n) := ⟨hn, by rw [← hr, rws_len, hn]⟩
  rw [← hn]
  rw [← hn] at hl
  clear hm hr hrl hf hn
  obtain ⟨c, hc⟩ : ∃ c, c = (X.headD []).length := ⟨_, rfl⟩
  have HC : Hid (c = (X.headD []).length) := hc
  clear hc
  go_enter Try.func65, Try.ntmps65
  go_wp2_with fail
  go_loopw [3] (fun i wr => ∃ (k : Nat), i = .int .i64 k ∧ k ≤ n ∧ (∀ j (h : j < ss.length), j < k → rowOk c ss[j].row = true) ∧ Below w.heap.size w wr) (fun i _ => n - (intOf i).toNat)
  case atStart => exact ⟨0, rfl, by omega, fun j _ h => by omega, Below.refl _ _⟩
  case round =>
    obtain ⟨k, rfl, hk, hok, hbl⟩ := hrel
    obtain ⟨wo, rfl⟩ : ∃ wo, wo = wr := ⟨_, rfl⟩
    have HOK : Hid (∀ j (h : j < ss.length), j < k → rowOk c ss[j].row = true) := hok
    clear hok
    by_cases hlt : k < n
    · have hls : k < ss.length := by have := HN.out.1; omega
      have h0s : 0 < ss.length := by omega
      have HM' := HM.out.below hbl
      obtain ⟨b, off, rfl, lb, hcell⟩ := HM'.at h0s
      have d1 := hcell k hls
      have d0 : wo.cell? ⟨b, off, none⟩ = some (srv ss[0]) := hcell 0 h0s
      have hhead : (ss[0].row).length = c := by
        rw [HC.out, ← HX.out.1]
        have : (rws ss).headD [] = ss[0].row := by cases ss with | nil => simp at h0s | cons s t => rfl
        rw [this]
      have hrr := (HM'.2 ss[k] (List.getElem_mem hls)).crow
      have hmem : ss[k].row ∈ X := by rw [← HX.out.1]; exact List.mem_map.2 ⟨ss[k], List.getElem_mem hls, rfl⟩
      have hle := HX.out.2 ss[k] (List.getElem_mem hls)
      have HSK : Hid (∀ x : List Int, ss[k].row = x → rowOk c x = true → ∀ j (h : j < ss.length), j < k + 1 → rowOk c ss[j].row = true) := fun x hx hxo j hj hjk => by
        by_cases e : j = k
        · subst e; rw [hx]; exact hxo
        · exact HOK.out j hj (by omega)
      unfold srv at d0 d1
      rw [hhead] at d0
      generalize ss[0].loc = loc0 at d0
      generalize ss[0].cap = cp0 at d0
      obtain ⟨row, hrow⟩ : ∃ row, row = ss[k].row := ⟨_, rfl⟩
      have HROW : Hid (ss[k].row = row ∧ row ∈ X) := ⟨hrow.symm, by rw [hrow]; exact hmem⟩
      rw [← hrow] at d1 hrr hle
      generalize ss[k].loc = loc at *
      generalize ss[k].cap = cp at *
      have k0 : (0 : Int) ≤ (k : Int) := by omega
      have k1 : (k : Int) < (n : Int) := by omega
      have n0 : (0 : Int) < (n : Int) := by omega
      have HB : Hid (Below w.heap.size w wo) := hbl
      have HRR : Hid (CRow wo loc (ics row)) := hrr
      clear hrow hcell hhead hmem hrr HM' hbl
      by_cases hlen : row.length = c
      · subst hlen
        have e1 : ((row.length : Int) != (row.length : Int)) = false := by simp
        obtain ⟨r, hrb⟩ : ∃ r, (decide ((1 : Int) ≤ (row.length : Int)) && decide ((row.length : Int) ≤ 8)) = r := ⟨_, rfl⟩
        cases r
        · have HNO : Hid (matOk X = false) := matOk_no HROW.out.2 (by rw [← HC.out]; unfold rowOk; rw [hrb]; simp)
          go_wp2_with fail
          go_quiet ((go_at_call 53; exact Calls.quiet_of_same (lIn_is _ _ _ _ false hrb)))
          go_wp2_with fail
          go_ret
          exact ⟨by rw [HNO.out]; rfl, HB.out.trans ⟨rfl, rfl, rfl, Nat.le_refl _, fun _ _ => rfl⟩⟩
        · have HRB : Hid _ := hrb
          go_wp2_with fail
          go_quiet ((go_at_call 53; exact Calls.quiet_of_same (lIn_is _ _ _ _ true hrb)))
          go_wp2_with fail
          go_loopw [4] (fun i wq => ∃ (t : Nat), i = .int .i64 t ∧ t ≤ row.length ∧ (∀ u, u < t → numOk (row.getD u 0) = true) ∧ Below wo.heap.size wo wq) (fun i _ => row.length - (intOf i).toNat)
          case atStart => exact ⟨0, rfl, by omega, fun u h => by omega, ⟨rfl, rfl, rfl, Nat.le_refl _, fun _ _ => rfl⟩⟩
          case round =>
            obtain ⟨t, rfl, ht, hnum, hbq⟩ := hrel
            have HNUM : Hid (∀ u, u < t → numOk (row.getD u 0) = true) := hnum
            clear hnum
            have dq : wr.cell? ⟨b, off + k, none⟩ = some (.slice loc row.length cp) := (hbq.cell (p := ⟨b, off + k, none⟩) lb).trans d1
            have hqs := hbq.size
            have lbq : b < wr.heap.size := by omega
            by_cases htl : t < row.length
            · obtain ⟨b3, o3, rfl, l3, hc3⟩ := crow_int (HRR.out.stays hbq) (by omega)
              have d3 := hc3 t htl
              obtain ⟨y, hy⟩ : ∃ y, y = row.getD t 0 := ⟨_, rfl⟩
              have HY : Hid (y = row.getD t 0) := hy
              rw [← hy] at d3
              have t0 : (0 : Int) ≤ (t : Int) := by omega
              have t1 : (t : Int) < (row.length : Int) := by omega
              have HBQ : Hid (Below wo.heap.size wo wr) := hbq
              obtain ⟨q, hq⟩ : ∃ q, (decide ((0 : Int) ≤ y) && decide (y ≤ 255)) = q := ⟨_, rfl⟩
              clear hc3 hy hbq
              cases q
              · have HNO : Hid (matOk X = false) := matOk_no HROW.out.2 (by rw [← HC.out]; exact rowOk_num htl (by rw [← HY.out]; exact hq))
                go_wp2_with fail
                refine (lIn_is _ _ _ _ false hq).mono ?_
                rintro e w5 ⟨rfl, rfl⟩
                go_wp2_with fail
                go_ret
                exact ⟨by rw [HNO.out]; rfl, HB.out.trans (HBQ.out.mono HB.out.size)⟩
              · have HQ : Hid (numOk (row.getD t 0) = true) := by rw [← HY.out]; exact hq
                go_wp2_with fail
                refine (lIn_is _ _ _ _ true hq).mono ?_
                rintro e w5 ⟨rfl, rfl⟩
                go_wp2_with fail
                go_roundw
                case rel => exact ⟨t + 1, by go_num, by omega, fun u hu => by
                  by_cases e : u = t
                  · subst e; exact HQ.out
                  · exact HNUM.out u (by omega), HBQ.out⟩
                case measure => simp [intOf]; omega
            · have e : t = row.length := by omega
              have HALL : Hid (rowOk row.length row = true) := rowOk_yes rfl HRB.out (fun u hu => HNUM.out u (by omega))
              have HBQ : Hid (Below wo.heap.size wo wr) := hbq
              clear hbq e
              go_wp2_with fail
              go_roundw
              case rel => exact ⟨k + 1, by go_num, by omega, HSK.out row HROW.out.1 HALL.out, HB.out.trans (HBQ.out.mono HB.out.size)⟩
              case measure => simp [intOf]; omega
      · have e1 : ((row.length : Int) != (c : Int)) = true := by rw [bne_iff_ne]; omega
        have HNO : Hid (matOk X = false) := matOk_no HROW.out.2 (by rw [← HC.out]; unfold rowOk; rw [decide_eq_false hlen]; rfl)
        go_wp2_with fail
        go_quiet (fail)
        go_wp2_with fail
        go_ret
        exact ⟨by rw [HNO.out]; rfl, HB.out.trans ⟨rfl, rfl, rfl, Nat.le_refl _, fun _ _ => rfl⟩⟩
    · have e : k = n := by omega
      have HEND : Hid (matOk X = (decide ((1 : Int) ≤ (n : Int)) && decide ((n : Int) ≤ 8))) := by
        have h1 : ∀ x ∈ X, rowOk (X.headD []).length x = true := fun x hx => by
          rw [← HX.out.1] at hx
          obtain ⟨s, hs, rfl⟩ := List.mem_map.1 hx
          obtain ⟨j, hj, rfl⟩ := List.mem_iff_getElem.1 hs
          rw [← HC.out]
          exact HOK.out j hj (by have := HN.out.1; omega)
        have := matOk_end h1
        rw [HN.out.2] at this
        exact this
      have HB : Hid (Below w.heap.size w wo) := hbl
      clear hbl
      subst e
      obtain ⟨q, hq⟩ : ∃ q, (decide ((1 : Int) ≤ (k : Int)) && decide ((k : Int) ≤ 8)) = q := ⟨_, rfl⟩
      have HQ : Hid (matOk X = q) := by rw [← hq]; exact HEND.out
      go_wp2_with fail
      refine (lIn_is _ _ _ _ q hq).mono ?_
      rintro e w5 ⟨rfl, rfl⟩
      go_wp2_with fail
      go_ret
      exact ⟨by rw [HQ.out]; rfl, HB.out⟩
end Go.Proofs.Ytdlgailodhlbmaa
