/- Texts of ours, laid one behind the other: PrF, PrA, PrG, FieldG, CdA, PrH, PrI, PrJ, PrK, PrL, PrN, CdF. -/
import Derived.Test.YtdlgailodhlbmaaPq6
/- PrF: The program's own products of matrices of bytes. -/
namespace Go.Proofs.Ytdlgailodhlbmaa
open Go.RowKit
open W (B8)
attribute [local go_sem ↓] Go.wp_at_zero Go.wp_at_succ
attribute [local irreducible] W.gm W.xt W.gp W.gi W.xs

/-- A matrix of bytes that is read: its rows lie somewhere. -/
def KAt (w : World) (b off : Nat) (K : List (List B8)) (m : Nat) : Prop := b < w.heap.size ∧ ∀ i, i < K.length → ∃ b' o' cp, b' < w.heap.size ∧ w.cell? ⟨b, off + i, none⟩ = some (.slice (some ⟨b', o', none⟩) m cp) ∧ ∀ j, j < m → w.cell? ⟨b', o' + j, none⟩ = some (.int .u8 (((K.getD i []).getD j 0#8).toNat : Int))
theorem KAt.below {w w' : World} {b off m : Nat} {K : List (List B8)} (h : KAt w b off K m) (hb : Below w.heap.size w w') : KAt w' b off K m := by
  have hs := hb.size
  refine ⟨by have := h.1; omega, fun i hi => ?_⟩
  obtain ⟨b', o', cp, h1, h2, h3⟩ := h.2 i hi
  exact ⟨b', o', cp, by omega, (hb.cell (p := ⟨b, off + i, none⟩) h.1).trans h2, fun j hj => (hb.cell (p := ⟨b', o' + j, none⟩) h1).trans (h3 j hj)⟩
theorem KSee.kat {w : World} {v : Value} {K : List (List B8)} {lo hi m : Nat} (h : KSee w v K lo hi) (hK : 0 < K.length) (hm : ∀ r ∈ K, r.length = m) (h0 : 0 < m) : ∃ b off cap, v = .slice (some ⟨b, off, none⟩) K.length cap ∧ KAt w b off K m := by
  obtain ⟨a, cap, ss, rfl, hr, hk⟩ := h
  have hl : ss.length = K.length := by rw [← hr, kws_len]
  obtain ⟨b, off, rfl, lb, hc⟩ := hk.at (by omega)
  refine ⟨b, off, cap, by rw [hl], lb, fun i hi => ?_⟩
  have hi' : i < ss.length := by omega
  have hrow : ss[i].row = K.getD i [] := by
    have e1 := kws_get ss i hi'
    rw [← e1]
    simp only [hr]
    simp [List.getD, hi]
  have hmem : ss[i].row ∈ K := by rw [← hr]; exact List.mem_map.2 ⟨ss[i], List.getElem_mem hi', rfl⟩
  have hlen := hm _ hmem
  obtain ⟨b', o', e, lb', hc'⟩ := crow_byte (hk.2 ss[i] (List.getElem_mem hi')).crow (by omega)
  have d := hc i hi'
  unfold ksv at d
  rw [e, hlen] at d
  exact ⟨b', o', ss[i].cap, lb', d, fun j hj => by rw [← hrow]; exact hc' j (by omega)⟩
/-- A row of a product that is under way. -/
def accU (q : Nat) (r : List B8) (K : List (List B8)) (j : Nat) : List B8 := (List.range q).map fun c => W.xs j fun l => W.gm (r.getD l 0#8) ((K.getD l []).getD c 0#8)
theorem accU_len (q : Nat) (r : List B8) (K : List (List B8)) (j : Nat) : (accU q r K j).length = q := by simp [accU]
theorem accU_0 (q : Nat) (r : List B8) (K : List (List B8)) : accU q r K 0 = List.replicate q 0#8 := by
  apply List.ext_getElem (by simp [accU])
  intro i h1 h2
  simp only [accU, List.getElem_map, List.getElem_replicate]
  exact W.xs_0 _
theorem accU_at {q : Nat} {r : List B8} {K : List (List B8)} {j c : Nat} (h : c < q) : (accU q r K j).getD c 0#8 = W.xs j fun l => W.gm (r.getD l 0#8) ((K.getD l []).getD c 0#8) := by
  unfold accU
  rw [List.getD_eq_getElem?_getD, List.getElem?_map, List.getElem?_range h]; rfl
theorem accU_next (q : Nat) (r : List B8) (K : List (List B8)) (j : Nat) : plusU (r.getD j 0#8) (accU q r K j) (K.getD j []) = accU q r K (j + 1) := by
  apply List.ext_getElem (by rw [plusU_len, accU_len, accU_len])
  intro c h1 h2
  have hc : c < q := by rw [accU_len] at h2; exact h2
  have a1 : (plusU (r.getD j 0#8) (accU q r K j) (K.getD j [])).getD c 0#8 = (plusU (r.getD j 0#8) (accU q r K j) (K.getD j []))[c] := by rw [List.getD_eq_getElem?_getD, List.getElem?_eq_getElem h1]; rfl
  have a2 : (accU q r K (j + 1)).getD c 0#8 = (accU q r K (j + 1))[c] := by rw [List.getD_eq_getElem?_getD, List.getElem?_eq_getElem h2]; rfl
  rw [← a1, ← a2, plusU_at (by rw [accU_len]; exact hc), accU_at hc, accU_at hc, W.xs_succ]
def AddPost' (z : List B8) (b : Nat) (w : World) (e : Ending) (w' : World) : Prop := (∃ v, e = .returned v) ∧ WCells w' b (ucs z) ∧ w.grownBy w' (some b)
def mulU (p q : Nat) (K L : List (List B8)) : List (List B8) := K.map fun r => accU q r L p
set_option maxRecDepth 100000 in
set_option maxHeartbeats 2000000 in
theorem implMTimes (K L : List (List B8)) (b1 o1 c1 b2 o2 c2 n p q : Nat) (w : World) (h1 : KAt w b1 o1 K p) (h2 : KAt w b2 o2 L q) (hK : K.length = n) (hL : L.length = p) (hn : n ≤ 8) (hp1 : 1 ≤ p) (hp8 : p ≤ 8) (hq1 : 1 ≤ q) (hq8 : q ≤ 8) :
    Calls Try.prog 102 #[.slice (some ⟨b1, o1, none⟩) n c1, .slice (some ⟨b2, o2, none⟩) p c2] w fun e w' => KPost (mulU p q K L) w e w' := by
  obtain ⟨i0, hi0, hz0, hz1, hz2⟩ := info_parts infoRowB
  obtain ⟨i1, hi1, hy0, hy1, hy2⟩ := info_parts infoB
  have H1 := Shut.mk h1
  have H2 := Shut.mk h2
  have HK : Hid (K.length = n ∧ L.length = p) := ⟨hK, hL⟩
  clear h1 h2 hK hL
  go_enter Try.func102, Try.ntmps102
  go_wp2_with fail
  go_loopw [5, 13] (fun v i wr => ∃ (ts : List KS) (vv : Value), vv = v ∧ i = .int .i64 (ts.length : Nat) ∧ ts.length ≤ n ∧ Shut (kws ts = (mulU p q K L).take ts.length) ∧ Shut (KI w wr vv ts)) (fun _ i _ => n - (intOf i).toNat)
  case atStart => exact ⟨[], _, rfl, rfl, by simp, ⟨rfl⟩, ⟨KI.start w (World.ownsRow_nil _ _ _ _) (Below.refl _ _)⟩⟩
  case round =>
    obtain ⟨ts, v, rfl, rfl, hk, hrw, hbi⟩ := hrel
    obtain ⟨wo, rfl⟩ : ∃ wo, wo = wr := ⟨_, rfl⟩
    obtain ⟨i, hie⟩ : ∃ i, i = ts.length := ⟨_, rfl⟩
    have HI : Hid (i = ts.length) := hie
    rw [← hie] at hk ⊢
    clear hie
    by_cases hlt : i < n
    · have hlt' : (i : Int) < (n : Int) := by omega
      have k0 : (0 : Int) ≤ (i : Int) := by omega
      have hsz := hbi.out.bel.size
      have hbw := hbi.out.bel
      obtain ⟨lb1, q1⟩ := H1.out.below hbw
      obtain ⟨lb2, q2⟩ := H2.out.below hbw
      obtain ⟨b1', o1', cp1, l1', d1, e1⟩ := q1 i (by have := HK.out.1; omega)
      obtain ⟨b20, o20, cp20, l20, d20, _⟩ := q2 0 (by have := HK.out.2; omega)
      rw [Nat.add_zero] at d20
      have p0 : (0 : Int) < (p : Int) := by omega
      have HE1 := Shut.mk e1
      have HQ2 := Shut.mk (H2.out.below hbw)
      have HST := Shut.mk (show (mulU p q K L).take (i + 1) = (mulU p q K L).take i ++ [accU q (K.getD i []) L p] by
        have hi2 : i < (mulU p q K L).length := by unfold mulU; rw [List.length_map]; have := HK.out.1; omega
        have hi3 : i < K.length := by have := HK.out.1; omega
        rw [List.take_succ_eq_append_getElem hi2]
        simp [mulU, List.getD, hi3])
      obtain ⟨r, hr⟩ : ∃ r, r = K.getD i [] := ⟨_, rfl⟩
      rw [← hr] at HE1 HST
      clear q1 q2 e1 hbw hr
      go_wp2_with (at_make; refine wpList_make_full _ rfl _ _ 82 rfl wo.heap.size 71 i1 _ 1 Try.underlying82 hi1 hy0 hy1 .i64 .i64 _ _ q rfl rfl (by omega) (by omega) ?b2 ?b3 ?b4 ?_)
      case b2 => rw [hy2]; omega
      case b3 => unfold maxLen; omega
      case b4 => omega
      intro wm hownm hgrm
      have HBM := Shut.mk (show Below wo.heap.size wo wm from (Below.refl _ _).grown hgrm (Nat.le_refl _) (fun j hj => by simp at hj))
      have HROW := Shut.mk (made_bytes hownm)
      clear hownm hgrm
      go_wp2_with fail
      go_loopw [24] (fun jj wq => ∃ (j : Nat), jj = .int .i64 j ∧ j ≤ p ∧ Shut (WCells wq wo.heap.size (ucs (accU q r L j))) ∧ Shut (Below wo.heap.size wo wq)) (fun jj _ => p - (intOf jj).toNat)
      case atStart => exact ⟨0, rfl, by omega, ⟨by rw [accU_0]; exact HROW.out⟩, HBM⟩
      case round =>
        clear HROW HBM
        obtain ⟨j, rfl, hj, hrow, hbq⟩ := hrel
        obtain ⟨wi, rfl⟩ : ∃ wi, wi = wr := ⟨_, rfl⟩
        by_cases hjp : j < p
        · have hjp' : (j : Int) < (p : Int) := by omega
          have j0 : (0 : Int) ≤ (j : Int) := by omega
          have hsi := hbq.out.size
          have d5 := (hbq.out.cell (p := ⟨b1', o1' + j, none⟩) l1').trans (HE1.out j hjp)
          obtain ⟨b2', o2', cp2, l2', d6, e6⟩ := HQ2.out.2 j (by have := HK.out.2; omega)
          have d7 := (hbq.out.cell (p := ⟨b2, o2 + j, none⟩) lb2).trans d6
          have hcall := implAddTimes (r.getD j 0#8) (accU q r L j) (L.getD j []) wo.heap.size q b2' o2' cp2 q wi hrow.out (fun c hc => (hbq.out.cell (p := ⟨b2', o2' + c, none⟩) l2').trans (e6 c hc)) (by omega) (by omega) (accU_len _ _ _ _) (by omega)
          rw [show AddPost (r.getD j 0#8) (accU q r L j) (L.getD j []) wo.heap.size wi = AddPost' (accU q r L (j + 1)) wo.heap.size wi from by funext e w'; unfold AddPost AddPost'; rw [accU_next]] at hcall
          generalize r.getD j 0#8 = x at d5 hcall
          have HX := Shut.mk hcall
          have HBQ := hbq
          clear hcall e6 d6 hbq
          go_wp2_with fail
          refine HX.out.mono ?_
          rintro e w9 ⟨⟨v9, rfl⟩, hc9, hg9⟩
          have Q1 := Shut.mk hc9
          have Q2 := Shut.mk (HBQ.out.grown hg9 hsi (fun g hg => by cases hg; exact Nat.le_refl _))
          clear hc9 hg9 HBQ HX
          go_wp2_with fail
          go_roundw
          case rel => exact ⟨j + 1, by go_num, by omega, Q1, Q2⟩
          case measure => simp [intOf]; omega
        · have e : j = p := by omega
          have hjp' : ¬ (j : Int) < (p : Int) := by omega
          have HBI := Shut.mk (hbi.out.newrow hbq.out (Nat.le_refl wo.heap.size))
          have hsi : wo.heap.size ≤ wi.heap.size := hbq.out.size
          have hown := HBI.out.1.own
          rw [e] at hrow
          clear hbq hbi e
          go_wp2_with (at_builtin; refine wpList_append_own _ rfl _ _ 67 rfl w.heap.size 82 i0 (.slice none 0 0) 1 24 Try.underlying67 hi0 hz0 hz1 hz2 rfl (by decide) _ _ _ rfl (hown.alloc _) ⟨wi.heap.size, 0, none⟩ 1 1 [.slice (some ⟨wo.heap.size, 0, none⟩) q q] rfl rfl (cell_one_new _ _ _) ?c2 ?c3 ?c4 ?c5 ?_)
          case c2 => first | rfl | (intro u hu; simp at hu; subst hu; rfl)
          case c3 => unfold maxLen; have := HI.out; omega
          case c4 => have := HI.out; omega
          case c5 => first | omega | (simp; omega)
          intro v' w6 hown' hgrow _
          have hne : accU q r L p ≠ [] := fun e => by have := congrArg List.length e; rw [accU_len] at this; simp at this; omega
          have hap := HBI.out.1.append (cap := q) hsz hrow.out hne (by rw [accU_len]; exact Nat.le_refl _) HBI.out.2.1 HBI.out.2.2 (by rw [accU_len]; exact hown') hgrow
          have HAP := Shut.mk hap
          have HR2 : Shut (kws (ts ++ [KS.mk (some ⟨wo.heap.size, 0, none⟩) (accU q r L p) q]) = (mulU p q K L).take (i + 1)) := ⟨by rw [kws_snoc, hrw.out, HST.out, HI.out]⟩
          clear hap hown' hgrow hown HBI hrow hrw hne
          go_wp2_with fail
          go_roundw
          case rel => exact ⟨_, v', rfl, by rw [List.length_append, List.length_singleton, ← HI.out]; go_num, by rw [List.length_append, List.length_singleton, ← HI.out]; omega, ⟨by rw [List.length_append, List.length_singleton, ← HI.out]; exact HR2.out⟩, HAP⟩
          case measure => simp [intOf]; omega
    · have e : i = n := by omega
      have hlt' : ¬ (i : Int) < (n : Int) := by omega
      have HF := Shut.mk (hbi.out.fin (X := mulU p q K L) (by
        rw [hrw.out, List.take_of_length_le (by unfold mulU; rw [List.length_map]; have := HK.out.1; have := HI.out; omega)]))
      have HB := Shut.mk hbi.out.bel
      clear e hbi hrw
      go_wp2_with fail
      go_ret
      exact ⟨v, rfl, HF.out, HB.out⟩
end Go.Proofs.Ytdlgailodhlbmaa
/- PrA: The program's own MatrixOk. -/
namespace Go.Proofs.Ytdlgailodhlbmaa
open Go.RowKit
attribute [local go_sem ↓] Go.wp_at_zero Go.wp_at_succ

theorem rowOk_all {x : List Int} (h3 : ∀ k, k < x.length → numOk (x.getD k 0) = true) : rowOk x.length x = (decide (1 ≤ (x.length : Int)) && decide ((x.length : Int) ≤ 8)) := by
  unfold rowOk
  have : x.all numOk = true := by
    rw [List.all_eq_true]
    intro y hy
    obtain ⟨k, hk, rfl⟩ := List.mem_iff_getElem.1 hy
    have := h3 k hk
    simpa [List.getD, hk] using this
  rw [this, decide_eq_true rfl, Bool.true_and, Bool.and_true]
set_option maxHeartbeats 1000000 in
theorem implRowOk (a : Option Addr) (xs : List Int) (cap : Nat) (w : World) (hr : CRow w a (ics xs)) (hl : xs.length ≤ 1048576) :
    Calls Try.prog 71 #[.slice a xs.length cap] w fun e w' => e = .returned (.bool (rowOk xs.length xs)) ∧ w' = w := by
  have HR : Hid (CRow w a (ics xs)) := hr
  clear hr
  obtain ⟨R, hR⟩ : ∃ R, R = rowOk xs.length xs := ⟨_, rfl⟩
  rw [← hR]
  have HRR : Hid (R = rowOk xs.length xs) := hR
  clear hR
  go_enter Try.func71, Try.ntmps71
  go_wp2_with fail
  go_loop [7] (fun i => ∃ k : Nat, i = .int .i64 k ∧ k ≤ xs.length ∧ ∀ u, u < k → numOk (xs.getD u 0) = true) (fun i => xs.length - (intOf i).toNat)
  case atStart => exact ⟨0, rfl, Nat.zero_le _, fun u h => by omega⟩
  case round =>
    obtain ⟨k, rfl, hk, hnum⟩ := hrel
    have HNUM : Hid (∀ u, u < k → numOk (xs.getD u 0) = true) := hnum
    clear hnum
    by_cases hlt : k < xs.length
    · obtain ⟨b, off, rfl, lb, hc⟩ := crow_int HR.out (by omega)
      have d0 := hc k hlt
      obtain ⟨y, hy⟩ : ∃ y, y = xs.getD k 0 := ⟨_, rfl⟩
      have HY : Hid (y = xs.getD k 0) := hy
      rw [← hy] at d0
      have k0 : (0 : Int) ≤ (k : Int) := by omega
      have k1 : (k : Int) < (xs.length : Int) := by omega
      clear hc hy
      by_cases c0 : y < 0
      · have HNO : Hid (R = false) := by rw [HRR.out]; exact rowOk_num hlt (by rw [← HY.out]; unfold numOk; rw [decide_eq_false (by omega), Bool.false_and])
        go_wp2_with fail
        go_ret
        exact ⟨by rw [HNO.out]; rfl, rfl⟩
      · by_cases c1 : (255 : Int) < y
        · have HNO : Hid (R = false) := by rw [HRR.out]; exact rowOk_num hlt (by rw [← HY.out]; unfold numOk; rw [decide_eq_false (p := y ≤ 255) (by omega), Bool.and_false])
          go_wp2_with fail
          go_ret
          exact ⟨by rw [HNO.out]; rfl, rfl⟩
        · have HQ : Hid (numOk (xs.getD k 0) = true) := by rw [← HY.out]; unfold numOk; rw [decide_eq_true (by omega), decide_eq_true (by omega)]; rfl
          go_wp2_with fail
          go_round
          case rel => exact ⟨k + 1, by go_num, by omega, fun u hu => by
            by_cases e : u = k
            · subst e; exact HQ.out
            · exact HNUM.out u (by omega)⟩
          case measure => simp [intOf]; omega
    · have hlt' : ¬ (k : Int) < (xs.length : Int) := by omega
      have HE : Hid (R = (decide (1 ≤ (xs.length : Int)) && decide ((xs.length : Int) ≤ 8))) := by rw [HRR.out]; exact rowOk_all fun u hu => HNUM.out u (by omega)
      by_cases c0 : (1 : Int) ≤ (xs.length : Int)
      · by_cases c1 : (xs.length : Int) ≤ 8
        · have HV : Hid (R = true) := by rw [HE.out, decide_eq_true c0, decide_eq_true c1]; exact rfl
          go_wp2_with fail
          go_ret
          exact ⟨by rw [HV.out]; rfl, rfl⟩
        · have HV : Hid (R = false) := by rw [HE.out, decide_eq_true c0, decide_eq_false c1]; exact rfl
          go_wp2_with fail
          go_ret
          exact ⟨by rw [HV.out]; rfl, rfl⟩
      · have HV : Hid (R = false) := by rw [HE.out, decide_eq_false c0]; exact rfl
        go_wp2_with fail
        go_ret
        exact ⟨by rw [HV.out]; rfl, rfl⟩
set_option maxRecDepth 100000 in
set_option maxHeartbeats 2000000 in
theorem implMatrixOk (w : World) (v : Value) (X : List (List Int)) (lo hi : Nat) (hs : MSee w v X lo hi) (hf : MFit X) :
    Calls Try.prog 54 #[v] w fun e w' => e = .returned (.bool (matOk X)) ∧ Below w.heap.size w w' := by
  obtain ⟨a, cap, ss, rfl, hr, hm⟩ := hs
  obtain ⟨hl, hrl, _, _⟩ := rows_fit hr hf
  have HM : Hid (MR w a ss lo hi) := hm
  have HX : Hid (rws ss = X ∧ ∀ s ∈ ss, s.row.length ≤ 1048576) := ⟨hr, hrl⟩
  obtain ⟨n, hn⟩ : ∃ n, n = ss.length := ⟨_, rfl⟩
  have HN : Hid (n = ss.length ∧ X.length = n) := ⟨hn, by rw [← hr, rws_len, hn]⟩
  rw [← hn]
  rw [← hn] at hl
  clear hm hr hrl hf hn
  obtain ⟨c, hc⟩ : ∃ c, c = (X.headD []).length := ⟨_, rfl⟩
  have HC : Hid (c = (X.headD []).length) := hc
  obtain ⟨R, hR⟩ : ∃ R, R = matOk X := ⟨_, rfl⟩
  rw [← hR]
  have HRR : Hid (R = matOk X) := hR
  clear hc hR
  by_cases n1 : (n : Int) < 1
  · have HNO : Hid (R = false) := by
      rw [HRR.out]; unfold matOk; rw [HN.out.2, decide_eq_false (p := (1 : Int) ≤ (n : Int)) (by omega), Bool.false_and, Bool.and_false]; exact rfl
    go_enter Try.func54, Try.ntmps54
    go_wp2_with fail
    go_ret
    exact ⟨by rw [HNO.out]; rfl, Below.refl _ _⟩
  by_cases n2 : (8 : Int) < (n : Int)
  · have HNO : Hid (R = false) := by
      rw [HRR.out]; unfold matOk; rw [HN.out.2, decide_eq_false (p := (n : Int) ≤ 8) (by omega), Bool.and_false, Bool.and_false]; exact rfl
    go_enter Try.func54, Try.ntmps54
    go_wp2_with fail
    go_ret
    exact ⟨by rw [HNO.out]; rfl, Below.refl _ _⟩
  go_enter Try.func54, Try.ntmps54
  go_wp2_with fail
  go_loopw [15] (fun i wr => ∃ (k : Nat), i = .int .i64 k ∧ k ≤ n ∧ (∀ j (h : j < ss.length), j < k → rowOk c ss[j].row = true) ∧ Below w.heap.size w wr) (fun i _ => n - (intOf i).toNat)
  case atStart => exact ⟨0, rfl, by omega, fun j _ h => by omega, Below.refl _ _⟩
  case round =>
    obtain ⟨k, rfl, hk, hok, hbl⟩ := hrel
    obtain ⟨wo, rfl⟩ : ∃ wo, wo = wr := ⟨_, rfl⟩
    have HOK : Hid (∀ j (h : j < ss.length), j < k → rowOk c ss[j].row = true) := hok
    clear hok
    by_cases hlt : k < n
    · have hls : k < ss.length := by have := HN.out.1; omega
      have h0s : 0 < ss.length := by omega
      have HM' := HM.out.below hbl
      obtain ⟨b, off, rfl, lb, hcell⟩ := HM'.at h0s
      have d1 := hcell k hls
      have d0 : wo.cell? ⟨b, off, none⟩ = some (srv ss[0]) := hcell 0 h0s
      have hhead : (ss[0].row).length = c := by
        rw [HC.out, ← HX.out.1]
        have : (rws ss).headD [] = ss[0].row := by cases ss with | nil => simp at h0s | cons s t => rfl
        rw [this]
      have hrr := (HM'.2 ss[k] (List.getElem_mem hls)).crow
      have hmem : ss[k].row ∈ X := by rw [← HX.out.1]; exact List.mem_map.2 ⟨ss[k], List.getElem_mem hls, rfl⟩
      have hle := HX.out.2 ss[k] (List.getElem_mem hls)
      have HSK : Hid (∀ x : List Int, ss[k].row = x → rowOk c x = true → ∀ j (h : j < ss.length), j < k + 1 → rowOk c ss[j].row = true) := fun x hx hxo j hj hjk => by
        by_cases e : j = k
        · subst e; rw [hx]; exact hxo
        · exact HOK.out j hj (by omega)
      unfold srv at d0 d1
      rw [hhead] at d0
      generalize ss[0].loc = loc0 at d0
      generalize ss[0].cap = cp0 at d0
      obtain ⟨row, hrow⟩ : ∃ row, row = ss[k].row := ⟨_, rfl⟩
      have HROW : Hid (ss[k].row = row ∧ row ∈ X) := ⟨hrow.symm, by rw [hrow]; exact hmem⟩
      rw [← hrow] at d1 hrr hle
      generalize ss[k].loc = loc at *
      generalize ss[k].cap = cp at *
      have k0 : (0 : Int) ≤ (k : Int) := by omega
      have k1 : (k : Int) < (n : Int) := by omega
      have n0 : (0 : Int) < (n : Int) := by omega
      have HB : Hid (Below w.heap.size w wo) := hbl
      have hcall := implRowOk loc row cp wo hrr hle
      clear hrow hcell hhead hmem hrr HM' hbl
      by_cases hlen : row.length = c
      · subst hlen
        have e1 : ((row.length : Int) != (row.length : Int)) = false := by simp
        obtain ⟨r, hrb⟩ : ∃ r, rowOk row.length row = r := ⟨_, rfl⟩
        rw [hrb] at hcall
        have HRB : Hid (rowOk row.length row = r) := hrb
        clear hrb
        cases r
        · have HNO : Hid (R = false) := by rw [HRR.out]; exact matOk_no HROW.out.2 (by rw [← HC.out]; exact HRB.out)
          go_wp2_with fail
          refine hcall.mono ?_
          rintro e w5 ⟨rfl, rfl⟩
          go_wp2_with fail
          go_ret
          exact ⟨by rw [HNO.out]; rfl, HB.out⟩
        · go_wp2_with fail
          refine hcall.mono ?_
          rintro e w5 ⟨rfl, rfl⟩
          go_wp2_with fail
          go_roundw
          case rel => exact ⟨k + 1, by go_num, by omega, HSK.out row HROW.out.1 HRB.out, HB.out⟩
          case measure => simp [intOf]; omega
      · have e1 : ((row.length : Int) != (c : Int)) = true := by rw [bne_iff_ne]; omega
        have HNO : Hid (R = false) := by rw [HRR.out]; exact matOk_no HROW.out.2 (by rw [← HC.out]; unfold rowOk; rw [decide_eq_false hlen]; rfl)
        go_wp2_with fail
        go_ret
        exact ⟨by rw [HNO.out]; rfl, HB.out⟩
    · have e : k = n := by omega
      have HEND : Hid (R = true) := by
        have h1 : ∀ x ∈ X, rowOk (X.headD []).length x = true := fun x hx => by
          rw [← HX.out.1] at hx
          obtain ⟨s, hs, rfl⟩ := List.mem_map.1 hx
          obtain ⟨j, hj, rfl⟩ := List.mem_iff_getElem.1 hs
          rw [← HC.out]
          exact HOK.out j hj (by have := HN.out.1; omega)
        have := matOk_end h1
        rw [HN.out.2, decide_eq_true (p := (1 : Int) ≤ (n : Int)) (by omega), decide_eq_true (p := (n : Int) ≤ 8) (by omega)] at this
        rw [HRR.out]
        exact this
      have HB : Hid (Below w.heap.size w wo) := hbl
      have hlt' : ¬ (k : Int) < (n : Int) := by omega
      clear hbl
      go_wp2_with fail
      go_ret
      exact ⟨by rw [HEND.out]; rfl, HB.out⟩
end Go.Proofs.Ytdlgailodhlbmaa
/- PrG: The program's own OneM and MulM. -/
namespace Go.Proofs.Ytdlgailodhlbmaa
open Go.RowKit
open W (B8 Mx)
attribute [local go_sem ↓] Go.wp_at_zero Go.wp_at_succ
attribute [local irreducible] W.gm W.xs W.mm W.gi matOk

theorem one_rows (n : Nat) : toIs (onesU 1#8 n) = (List.range n).map (oneRow n) := by
  unfold toIs onesU
  rw [List.map_map]
  apply List.map_congr_left
  intro i hi
  have hi' : i < n := List.mem_range.1 hi
  show toI (oneU 1#8 n i) = oneRow n i
  rw [← oneRow_set hi']
  unfold toI oneU
  rw [List.map_set, List.map_replicate]
  rfl
theorem onesU_ne {t : B8} {n : Nat} (h1 : 1 ≤ n) (h8 : n ≤ 8) : NE (onesU t n) := fun r hr => by
  obtain ⟨i, _, rfl⟩ := List.mem_map.1 hr
  exact ⟨fun e => by have := congrArg List.length e; rw [oneU_len] at this; simp at this; omega, by rw [oneU_len]; omega⟩
theorem MAns.broad {w : World} {v : Value} {X : List (List Int)} {lo hi lo' hi' : Nat} (h : MAns w v X lo hi) (h1 : lo' ≤ lo) (h2 : hi ≤ hi') : MAns w v X lo' hi' := by
  obtain ⟨a, cap, ss, e, hr, hc, q⟩ := h
  refine ⟨a, cap, ss, e, hr, hc, ?_⟩
  rcases q with rfl | ⟨g, rfl, hm⟩
  · exact .inl rfl
  · exact .inr ⟨g, rfl, hm.wide h1 h2⟩
theorem KAns.below_see {w w' : World} {v : Value} {K : List (List B8)} {lo hi : Nat} (h : KAns w v K lo hi) (hb : Below w.heap.size w w') : KSee w' v K lo hi := h.see.below hb
theorem BI.up' {w w1 wr : World} {v : Value} {ts : List SR} (h : BI w1 wr v ts) (hb : Below w.heap.size w w1) : BI w wr v ts :=
  ⟨⟨h.own.1, h.own.2.imp id fun ⟨g, cap, cur, e, hB, r⟩ => ⟨g, cap, cur, e, Nat.le_trans hb.size hB, r⟩⟩, fun s hs => by
    obtain ⟨b, e, q1, q2⟩ := h.rows s hs
    exact ⟨b, e, Nat.le_trans hb.size q1, q2⟩, h.apart, hb.trans (h.bel.mono hb.size)⟩
set_option maxHeartbeats 1000000 in
theorem implOneM (x : Int) (w : World) : Calls Try.prog 49 #[.int .i64 x] w fun e w' => MPost (oneX x) w e w' := by
  by_cases hx : 1 ≤ x ∧ x ≤ 8
  · obtain ⟨n, rfl⟩ := Int.eq_ofNat_of_zero_le (show 0 ≤ x by omega)
    have e0 : oneX (n : Int) = toIs (onesU 1#8 n) := by unfold oneX; rw [if_pos hx, one_rows]; rfl
    rw [e0]
    have hn1 : 1 ≤ n := by omega
    have hn8 : n ≤ 8 := by omega
    have n1 : ¬ (n : Int) < 1 := by omega
    have n2 : ¬ (8 : Int) < (n : Int) := by omega
    have HC := Shut.mk (fun W => implOnes 1#8 n W hn1 hn8)
    clear hx e0
    go_enter Try.func49, Try.ntmps49
    go_wp2_with fail
    refine (HC.out _).mono ?_
    rintro e w1 ⟨v1, rfl, ha1, hb1⟩
    have HI := Shut.mk (implIntsOf w1 v1 (onesU 1#8 n) _ _ ha1.see (onesU_ne hn1 hn8) (by simp [onesU]; omega))
    have HB1 := Shut.mk hb1
    clear ha1 hb1
    go_wp2_with fail
    refine HI.out.mono ?_
    rintro e w2 ⟨v2, rfl, ha2, hb2⟩
    have HR := Shut.mk (show MPost (toIs (onesU 1#8 n)) w (.returned v2) w2 from ⟨v2, rfl, ha2.broad HB1.out.size (Nat.le_refl _), HB1.out.trans (hb2.mono HB1.out.size)⟩)
    clear ha2 hb2
    go_wp2_with fail
    go_ret
    exact HR.out
  · have e0 : oneX x = [] := by unfold oneX; rw [if_neg hx]
    rw [e0]
    by_cases h1 : x < 1
    · clear hx
      go_enter Try.func49, Try.ntmps49
      go_wp2_with fail
      go_ret
      exact ⟨_, rfl, MAns.empty _ _ _ _ _, Below.refl _ _⟩
    · have h2 : (8 : Int) < x := by omega
      clear hx
      go_enter Try.func49, Try.ntmps49
      go_wp2_with fail
      go_ret
      exact ⟨_, rfl, MAns.empty _ _ _ _ _, Below.refl _ _⟩
set_option maxHeartbeats 1000000 in
/-- The same, with what is known of the rows that were made by append. -/
theorem implOneB (n : Nat) (w : World) (hn1 : 1 ≤ n) (hn8 : n ≤ 8) : Calls Try.prog 49 #[.int .i64 (n : Int)] w fun e w' => BPostI (oneX (n : Int)) w e w' := by
  have e0 : oneX (n : Int) = toIs (onesU 1#8 n) := by unfold oneX; rw [if_pos (by omega), one_rows]; rfl
  rw [e0]
  have n1 : ¬ (n : Int) < 1 := by omega
  have n2 : ¬ (8 : Int) < (n : Int) := by omega
  have HC := Shut.mk (fun W => implOnes 1#8 n W hn1 hn8)
  clear e0
  go_enter Try.func49, Try.ntmps49
  go_wp2_with fail
  refine (HC.out _).mono ?_
  rintro e w1 ⟨v1, rfl, ha1, hb1⟩
  have HI := Shut.mk (implIntsOfB w1 v1 (onesU 1#8 n) _ _ ha1.see (onesU_ne hn1 hn8) (by simp [onesU]; omega))
  have HB1 := Shut.mk hb1
  clear ha1 hb1
  go_wp2_with fail
  refine HI.out.mono ?_
  rintro e w2 ⟨v2, ts, rfl, hr, hbi⟩
  have HR := Shut.mk (show BPostI (toIs (onesU 1#8 n)) w (.returned v2) w2 from ⟨v2, ts, rfl, hr, hbi.up' HB1.out⟩)
  clear hr hbi
  go_wp2_with fail
  go_ret
  exact HR.out
theorem toBs_get (X : List (List Int)) (i k : Nat) : ((toBs X).getD i []).getD k 0#8 = mx X i k := by
  have e1 : (toBs X).getD i [] = toB (X.getD i []) := by
    unfold toBs
    rw [List.getD_eq_getElem?_getD, List.getElem?_map, List.getD_eq_getElem?_getD]
    cases X[i]? <;> rfl
  rw [e1]
  unfold toB mx
  rw [List.getD_eq_getElem?_getD, List.getElem?_map]
  rw [List.getD_eq_getElem?_getD (l := X.getD i [])]
  cases (X.getD i [])[k]? <;> rfl
theorem toBs_len (X : List (List Int)) : (toBs X).length = X.length := by simp [toBs]
theorem toBs_rows {X : List (List Int)} (h : matOk X = true) : ∀ r ∈ toBs X, r.length = colsOf X := fun r hr => by
  obtain ⟨x, hx, rfl⟩ := List.mem_map.1 hr
  rw [toB_len]
  exact ((matOk_iff h).2.2 x hx).1
theorem mul_rows (X Y : List (List Int)) (q : Nat) : toIs (mulU Y.length q (toBs X) (toBs Y)) = rowsX X.length q (W.mm Y.length (mx X) (mx Y)) := by
  apply List.ext_getElem (by simp [toIs, mulU, rowsX, toBs])
  intro i h1 h2
  have hi : i < X.length := by simpa [rowsX] using h2
  have hg : (toBs X)[i]'(by rw [toBs_len]; exact hi) = (toBs X).getD i [] := by rw [List.getD_eq_getElem?_getD, List.getElem?_eq_getElem]; rfl
  have e : (toIs (mulU Y.length q (toBs X) (toBs Y)))[i] = toI (accU q ((toBs X).getD i []) (toBs Y) Y.length) := by simp only [toIs, mulU, List.getElem_map, hg]
  rw [e]
  simp only [rowsX, List.getElem_map, List.getElem_range]
  unfold toI accU
  rw [List.map_map]
  apply List.map_congr_left
  intro j _
  show ((W.xs Y.length fun l => W.gm (((toBs X).getD i []).getD l 0#8) (((toBs Y).getD l []).getD j 0#8)).toNat : Int) = _
  rw [W.xs_congr (g := fun l => W.gm (mx X i l) (mx Y l j)) (fun l _ => by rw [toBs_get, toBs_get])]
  unfold W.mm
  rfl
theorem matOk_ne {X : List (List Int)} (h : matOk X = true) : NEI X ∧ X.length ≤ 1000 := by
  obtain ⟨⟨h1, h2⟩, ⟨h3, h4⟩, h5⟩ := matOk_iff h
  exact ⟨fun r hr => ⟨fun e => by have := (h5 r hr).1; rw [e] at this; simp at this; omega, by have := (h5 r hr).1; omega⟩, by omega⟩
theorem MSee.head {w : World} {v : Value} {X : List (List Int)} {lo hi : Nat} (h : MSee w v X lo hi) (hok : matOk X = true) : ∃ b off cap loc cp, v = .slice (some ⟨b, off, none⟩) X.length cap ∧ b < w.heap.size ∧ w.cell? ⟨b, off, none⟩ = some (.slice loc (colsOf X) cp) := by
  obtain ⟨a, cap, ss, rfl, hr, hm⟩ := h
  have hl : ss.length = X.length := by rw [← hr, rws_len]
  have h0 : 0 < ss.length := by have := (matOk_iff hok).1.1; omega
  obtain ⟨b, off, rfl, lb, hc⟩ := hm.at h0
  have d := hc 0 h0
  have e : ss[0].row.length = colsOf X := by
    have := (matOk_iff hok).2.2 ss[0].row (by rw [← hr]; exact List.mem_map.2 ⟨ss[0], List.getElem_mem h0, rfl⟩)
    exact this.1
  unfold srv at d
  rw [e] at d
  exact ⟨b, off, cap, _, _, by rw [hl], lb, d⟩
theorem mulU_ne {p q : Nat} {K L : List (List B8)} (h1 : 1 ≤ q) (h8 : q ≤ 8) : NE (mulU p q K L) := fun r hr => by
  obtain ⟨i, _, rfl⟩ := List.mem_map.1 hr
  exact ⟨fun e => by have := congrArg List.length e; rw [accU_len] at this; simp at this; omega, by rw [accU_len]; omega⟩
theorem MSee.slice {w : World} {v : Value} {X : List (List Int)} {lo hi : Nat} (h : MSee w v X lo hi) : ∃ a cap, v = .slice a X.length cap := by
  obtain ⟨a, cap, ss, rfl, hr, _⟩ := h
  exact ⟨a, cap, by rw [← hr, rws_len]⟩
end Go.Proofs.Ytdlgailodhlbmaa
/- FieldG: The program's own InvG. -/
namespace Go.Proofs.Ytdlgailodhlbmaa
open Go.RowKit
open W (B8)
attribute [local go_sem ↓] Go.wp_at_zero Go.wp_at_succ
attribute [local irreducible] W.gm W.xt W.gp W.gi

theorem implInvG (x : Int) (w : World) : Calls Try.prog 68 #[.int .i64 x] w fun e w' => e = .returned (.int .i64 ((W.gi (g8 x)).toNat : Int)) ∧ w' = w := by
  have hc := implInverse (g8 x)
  rw [g8_nat] at hc
  have hl := b8_lt (W.gi (g8 x))
  generalize W.gi (g8 x) = R at *
  go_enter Try.func68, Try.ntmps68
  go_wp2_with fail
  refine (hc _).mono ?_
  rintro e w1 ⟨rfl, rfl⟩
  go_wp2_with fail
  go_ret
  exact ⟨rfl, rfl⟩
end Go.Proofs.Ytdlgailodhlbmaa
/- CdA: The program's own SchemaOf, sumRow, CodeOf. -/
namespace Go.Proofs.Ytdlgailodhlbmaa
open Go.RowKit
open W (B8 Mx)
attribute [local go_sem ↓] Go.wp_at_zero Go.wp_at_succ
attribute [local irreducible] W.gm W.xs W.mm W.gi mx matOk

theorem implSchemaOf (s : Int) (w : World) : Calls Try.prog 12 #[.int .i64 s] w fun e w' => SchB s w e w' := by
  cases h : schOk s with
  | true =>
    obtain rfl | rfl | rfl := sch_cases h
    all_goals
      clear h
      go_enter Try.func12, Try.ntmps12
      go_wp2_with fail
      go_ret3
      exact ⟨rfl, Below.refl _ _⟩
  | false =>
    obtain ⟨h1, h2, h3⟩ := sch_no h
    obtain ⟨e1, e2⟩ := sch_zero h
    unfold SchB
    rw [e1, e2, h]
    clear h e1 e2
    go_enter Try.func12, Try.ntmps12
    go_wp2_with fail
    go_ret3
    exact ⟨rfl, Below.refl _ _⟩
/-- A row of numbers that was made by append. -/
def RowPostI (xs : List Int) (w : World) (e : Ending) (w' : World) : Prop := ∃ v, e = .returned v ∧ w'.ownsRow w.heap.size 3 1 v xs.length (ics xs) ∧ Below w.heap.size w w'
set_option maxRecDepth 100000 in
set_option maxHeartbeats 2000000 in
theorem implSumRow (k i : Nat) (w : World) (hk : k ≤ 4) (hi : i ≤ 2) : Calls Try.prog 50 #[.int .i64 (k : Int), .int .i64 (i : Int)] w fun e w' => RowPostI (codeRow k i) w e w' := by
  obtain ⟨i1, hi1, hy0, hy1, hy2⟩ := info_parts infoIntG
  go_enter Try.func50, Try.ntmps50
  go_wp2_with fail
  go_loopw [5, 8] (fun rv jj wq => ∃ (j : Nat) (rr : Value), rr = rv ∧ jj = .int .i64 j ∧ j ≤ k ∧ Shut (wq.ownsRow w.heap.size 3 1 rr j (ics ((codeRow k i).take j))) ∧ Shut (Below w.heap.size w wq)) (fun _ jj _ => k - (intOf jj).toNat)
  case atStart => exact ⟨0, _, rfl, rfl, by omega, ⟨World.ownsRow_nil _ _ _ _⟩, ⟨Below.refl _ _⟩⟩
  case round =>
    obtain ⟨j, rr, rfl, rfl, hjk, hown, hbq⟩ := hrel
    obtain ⟨wi, rfl⟩ : ∃ wi, wi = wr := ⟨_, rfl⟩
    by_cases hjl : j < k
    · have hjl' : (j : Int) < (k : Int) := by omega
      have j0 : (0 : Int) ≤ (j : Int) := by omega
      have hx : bits .xor .i64 ((k : Int) + (i : Int)) (j : Int) = (((k + i) ^^^ j : Nat) : Int) := by
        have := i64_xor (k + i) j (by omega) (by omega)
        rw [← this]; push_cast; rfl
      have hst : ics ((codeRow k i).take (j + 1)) = ics ((codeRow k i).take j) ++ [.int .i64 ((W.gi (g8 (((k + i) ^^^ j : Nat) : Int))).toNat : Int)] := by
        have hj2 : j < (codeRow k i).length := by rw [codeRow_len]; exact hjl
        rw [List.take_succ_eq_append_getElem hj2]
        simp [codeRow, ics]
      have HINV := Shut.mk (fun W => implInvG (((k + i) ^^^ j : Nat) : Int) W)
      generalize W.gi (g8 (((k + i) ^^^ j : Nat) : Int)) = G at *
      have HS2 := Shut.mk hst
      have hs3 := hbq.out.size
      generalize (((k + i) ^^^ j : Nat) : Int) = X at *
      clear hst
      go_wp2_with fail
      refine (HINV.out _).mono ?_
      rintro e w5 ⟨rfl, rfl⟩
      have hown3 := hown.out
      clear hown HINV
      go_wp2_with (at_builtin; refine wpList_append_own _ rfl _ _ 32 rfl w.heap.size 3 i1 (.int .i64 0) 1 8 Try.underlying32 hi1 hy0 hy1 hy2 rfl (by decide) _ _ _ rfl (hown3.alloc _) ⟨w5.heap.size, 0, none⟩ 1 1 [.int .i64 (G.toNat : Int)] rfl rfl (cell_one_new _ _ _) ?c2 ?c3 ?c4 ?c5 ?_)
      case c2 => first | rfl | (intro u hu; simp at hu; subst hu; rfl)
      case c3 => unfold maxLen; omega
      case c4 => omega
      case c5 => first | omega | (simp; omega)
      intro v' w4 hown' hgrow _
      rw [← HS2.out] at hown'
      have Q1 := Shut.mk hown'
      have Q2 := Shut.mk ((hbq.out.alloc hs3 (.cells #[.int .i64 (G.toNat : Int)] 3)).grown hgrow (by simp; omega) (fun j hj => (hown3.lt j hj).1))
      clear hown' hgrow hown3 hbq
      go_wp2_with fail
      go_roundw
      case rel => exact ⟨j + 1, v', rfl, by go_num, by omega, Q1, Q2⟩
      case measure => simp [intOf]; omega
    · have e : j = k := by omega
      have hjl' : ¬ (j : Int) < (k : Int) := by omega
      have hown2 := hown.out
      rw [e, List.take_of_length_le (by rw [codeRow_len]; exact Nat.le_refl _)] at hown2
      have HF := Shut.mk hown2
      have HB := Shut.mk hbq.out
      clear hown hbq hown2 e
      go_wp2_with fail
      go_ret
      exact ⟨_, rfl, by rw [codeRow_len]; exact HF.out, HB.out⟩
theorem codeX_take' {s : Int} (h : schOk s = true) {i : Nat} (hi : i < schM s) : (codeX s).take (schK s + i + 1) = (codeX s).take (schK s + i) ++ [codeRow (schK s) i] := by
  have hl : schK s + i < (codeX s).length := by rw [codeX_len h]; omega
  rw [List.take_succ_eq_append_getElem hl]
  congr 2
  simp only [codeX_yes h]
  rw [List.getElem_append_right (by simp)]
  simp
theorem codeX_start' {s : Int} (h : schOk s = true) : (codeX s).take (schK s) = oneX (schK s : Nat) := by
  obtain ⟨b1, b2, _, _⟩ := sch_bounds h
  rw [codeX_yes h, List.take_append_of_le_length (by simp), List.take_of_length_le (by simp)]
  unfold oneX
  rw [if_pos (by omega)]; rfl
set_option maxRecDepth 100000 in
set_option maxHeartbeats 4000000 in
theorem implCodeOf (s : Int) (w : World) : Calls Try.prog 19 #[.int .i64 s] w fun e w' => MPost (codeX s) w e w' := by
  have HS := Shut.mk (fun W => implSchemaOf s W)
  cases h : schOk s with
  | false =>
    rw [codeX_no h]
    unfold SchB at HS
    rw [h] at HS
    clear h
    go_enter Try.func19, Try.ntmps19
    go_wp2_with fail
    refine (HS.out _).mono ?_
    rintro e w1 ⟨rfl, hb⟩
    have HB := Shut.mk hb
    clear hb
    go_wp2_with fail
    go_ret
    exact ⟨_, rfl, MAns.empty _ _ _ _ _, HB.out⟩
  | true =>
    obtain ⟨i0, hi0, hz0, hz1, hz2⟩ := info_parts infoRow
    unfold SchB at HS
    rw [h] at HS
    obtain ⟨b1, b2, b3, b4⟩ := sch_bounds h
    have HSTA := Shut.mk (codeX_start' h)
    have HTK := Shut.mk (fun i (hi : i < schM s) => codeX_take' h hi)
    have HLEN := Shut.mk (codeX_len h)
    clear h
    generalize schK s = k at *
    generalize schM s = m at *
    generalize codeX s = C at *
    have HONE := Shut.mk (fun W => implOneB k W (by omega) (by omega))
    go_enter Try.func19, Try.ntmps19
    go_wp2_with fail
    refine (HS.out _).mono ?_
    rintro e w0 ⟨rfl, hb0⟩
    have HB0 := Shut.mk hb0
    clear hb0
    go_wp2_with fail
    refine (HONE.out _).mono ?_
    rintro e w1 ⟨v1, ss, rfl, hr1, hbi1⟩
    have hlo : (oneX (k : Int)).length = k := by unfold oneX; rw [if_pos (by omega)]; simp
    have hls : ss.length = k := by rw [← rws_len, hr1, hlo]
    have HLS : Hid (ss.length = k) := hls
    have HBI := Shut.mk (hbi1.up' HB0.out)
    have HRW : Shut (rws ss = C.take (k + 0)) := ⟨by rw [hr1, Nat.add_zero, HSTA.out]⟩
    clear hr1 hbi1 hls hlo HONE HB0 HSTA
    go_wp2_with fail
    go_loopw [6, 19] (fun v ii wr => ∃ (i : Nat) (ts : List SR) (vv : Value), vv = v ∧ ii = .int .i64 (i : Nat) ∧ i ≤ m ∧ ts.length = k + i ∧ Shut (rws ts = C.take (k + i)) ∧ Shut (BI w wr vv ts)) (fun _ ii _ => m - (intOf ii).toNat)
    case atStart => exact ⟨0, ss, _, rfl, rfl, Nat.zero_le _, HLS.out, HRW, HBI⟩
    case round =>
      clear HBI HRW HLS
      obtain ⟨i, ts, v, rfl, rfl, him, htl, hrw, hbi⟩ := hrel
      obtain ⟨wo, rfl⟩ : ∃ wo, wo = wr := ⟨_, rfl⟩
      have HTL : Hid (ts.length = k + i) := htl
      clear htl
      by_cases hlt : i < m
      · have hlt' : (i : Int) < (m : Int) := by omega
        have k0 : (0 : Int) ≤ (i : Int) := by omega
        have HST := Shut.mk (HTK.out i hlt)
        have HSR := Shut.mk (fun W => implSumRow k i W (by omega) (by omega))
        go_wp2_with fail
        refine (HSR.out _).mono ?_
        rintro e wi ⟨rv, rfl, hown2, hbq⟩
        obtain ⟨gr, cr, rfl, hcr⟩ := own_at hown2 (by rw [codeRow_len]; omega)
        rw [codeRow_len] at hown2 hcr ⊢
        have hgr := hown2.lt gr rfl
        have HROW := Shut.mk (own_wcells hown2)
        have HBI := Shut.mk (hbi.out.newrow hbq hgr.1)
        have hsi : wo.heap.size ≤ wi.heap.size := hbq.size
        have hso := hbi.out.bel.size
        have hgr1 := hgr.1
        have hown := HBI.out.1.own
        clear hown2 hbq hbi hgr HSR
        go_wp2_with (at_builtin; refine wpList_append_own _ rfl _ _ 36 rfl w.heap.size 32 i0 (.slice none 0 0) 1 24 Try.underlying36 hi0 hz0 hz1 hz2 rfl (by decide) _ _ _ rfl (hown.alloc _) ⟨wi.heap.size, 0, none⟩ 1 1 [.slice (some ⟨gr, 0, none⟩) k cr] rfl rfl (cell_one_new _ _ _) ?c2 ?c3 ?c4 ?c5 ?_)
        case c2 => first | rfl | (intro u hu; simp at hu; subst hu; rfl)
        case c3 => unfold maxLen; have := HTL.out; omega
        case c4 => have := HTL.out; omega
        case c5 => first | omega | (simp; omega)
        intro v' w6 hown' hgrow _
        have hne : codeRow k i ≠ [] := fun e => by have := congrArg List.length e; rw [codeRow_len] at this; simp at this; omega
        have hap := HBI.out.1.append (cap := cr) (by omega) HROW.out hne (by rw [codeRow_len]; exact hcr) HBI.out.2.1 HBI.out.2.2 (by rw [codeRow_len]; exact hown') hgrow
        have HAP := Shut.mk hap
        have HR2 : Shut (rws (ts ++ [SR.mk (some ⟨gr, 0, none⟩) (codeRow k i) cr]) = C.take (k + (i + 1))) := ⟨by rw [rws_snoc, hrw.out, ← Nat.add_assoc, HST.out]⟩
        clear hap hown' hgrow hown HBI HROW hrw hne
        go_wp2_with fail
        go_roundw
        case rel => exact ⟨i + 1, _, v', rfl, by go_num, by omega, by rw [List.length_append, List.length_singleton, HTL.out]; omega, HR2, HAP⟩
        case measure => simp [intOf]; omega
      · have e : i = m := by omega
        have hlt' : ¬ (i : Int) < (m : Int) := by omega
        have HF := Shut.mk (hbi.out.fin (X := C) (by rw [hrw.out, List.take_of_length_le (by rw [HLEN.out]; omega)]))
        have HB := Shut.mk hbi.out.bel
        clear e hbi hrw
        go_wp2_with fail
        go_ret
        exact ⟨v, rfl, HF.out, HB.out⟩
end Go.Proofs.Ytdlgailodhlbmaa
/- PrH: An elimination of bytes, plain: rows that have the matrix at their left and what was done to ones at their right. Nothing of the program is read here. -/
namespace Go.Proofs.Ytdlgailodhlbmaa
open Go.RowKit
open W (B8 Mx)
attribute [local irreducible] W.gm W.xs W.mm W.gi matOk

def lf (K : List (List B8)) : Mx := fun i j => (K.getD i []).getD j 0#8
def rt (n : Nat) (K : List (List B8)) : Mx := fun i j => (K.getD i []).getD (n + j) 0#8
theorem getD_set {K : List (List B8)} {i : Nat} (hi : i < K.length) (r : List B8) (k : Nat) : (K.set i r).getD k [] = if k = i then r else K.getD k [] := by
  rw [List.getD_eq_getElem?_getD, List.getD_eq_getElem?_getD, List.getElem?_set]
  by_cases e : i = k
  · subst e; rw [if_pos rfl, if_pos rfl, if_pos hi]; rfl
  · rw [if_neg e, if_neg (Ne.symm e)]
/-- A row times a number, from the right. -/
def timesU (t : B8) (r : List B8) : List B8 := r.map fun x => W.gm x t
theorem timesU_len (t : B8) (r : List B8) : (timesU t r).length = r.length := by simp [timesU]
theorem timesU_at (t : B8) (r : List B8) (j : Nat) : (timesU t r).getD j 0#8 = W.gm t (r.getD j 0#8) := by
  unfold timesU
  rw [List.getD_eq_getElem?_getD, List.getElem?_map, List.getD_eq_getElem?_getD]
  cases r[j]? with
  | none => show 0#8 = W.gm t 0#8; rw [W.gm_zero]
  | some x => show W.gm x t = W.gm t x; exact W.gm_comm _ _
def swapU (p c : Nat) (K : List (List B8)) : List (List B8) := (K.set p (K.getD c [])).set c (K.getD p [])
theorem swapU_at {K : List (List B8)} {p c : Nat} (hp : p < K.length) (hc : c < K.length) (i : Nat) : (swapU p c K).getD i [] = if i = p then K.getD c [] else if i = c then K.getD p [] else K.getD i [] := by
  unfold swapU
  rw [getD_set (by rw [List.length_set]; exact hc)]
  by_cases e2 : i = c
  · rw [if_pos e2]
    by_cases e1 : i = p
    · rw [if_pos e1, ← e2, e1]
    · rw [if_neg e1, if_pos e2]
  · rw [if_neg e2, getD_set hp]
    by_cases e1 : i = p
    · rw [if_pos e1, if_pos e1]
    · rw [if_neg e1, if_neg e1, if_neg e2]
/-- What is known of the rows, with the first c columns done. -/
structure PuK (n c : Nat) (M : Mx) (K : List (List B8)) : Prop where
  len : K.length = n
  row : ∀ i, i < n → (K.getD i []).length = n + n
  el : W.Elim n M (lf K) (rt n K)
  co : W.Cols n c (lf K)
theorem swapU_len (p c : Nat) (K : List (List B8)) : (swapU p c K).length = K.length := by simp [swapU]
theorem lf_swap {K : List (List B8)} {p c : Nat} (hp : p < K.length) (hc : c < K.length) : lf (swapU p c K) = W.swapR p c (lf K) := by
  funext i j
  unfold lf W.swapR
  rw [swapU_at hp hc]
  split
  · rfl
  · split <;> rfl
theorem rt_swap {K : List (List B8)} {n p c : Nat} (hp : p < K.length) (hc : c < K.length) : rt n (swapU p c K) = W.swapR p c (rt n K) := by
  funext i j
  unfold rt W.swapR
  rw [swapU_at hp hc]
  split
  · rfl
  · split <;> rfl
theorem PuK.swap {n c p : Nat} {M : Mx} {K : List (List B8)} (h : PuK n c M K) (hc : c < n) (hp : p < n) (hcp : c ≤ p) : PuK n c M (swapU p c K) := by
  have hp' : p < K.length := by rw [h.len]; exact hp
  have hc' : c < K.length := by rw [h.len]; exact hc
  refine ⟨by rw [swapU_len]; exact h.len, fun i hi => ?_, ?_, ?_⟩
  · rw [swapU_at hp' hc']
    split
    · exact h.row c hc
    · split
      · exact h.row p hp
      · exact h.row i hi
  · rw [lf_swap hp' hc', rt_swap hp' hc']; exact h.el.swap hp hc
  · rw [lf_swap hp' hc']; exact cols_swap h.co hc hp hcp
theorem PuK.swap_c {n c p : Nat} {M : Mx} {K : List (List B8)} (h : PuK n c M K) (hc : c < n) (hp : p < n) : lf (swapU p c K) c c = lf K p c := by
  rw [lf_swap (by rw [h.len]; exact hp) (by rw [h.len]; exact hc)]
  unfold W.swapR
  by_cases e : c = p
  · subst e; rw [if_pos rfl]
  · rw [if_neg e, if_pos rfl]
theorem PuK.times {n c : Nat} {M : Mx} {K : List (List B8)} (h : PuK n c M K) (hc : c < n) {x : B8} (hx : x = lf K c c) (h0 : x ≠ 0#8) : PuK n c M (K.set c (timesU (W.gi x) (K.getD c []))) ∧ ColDone n c 0 (lf (K.set c (timesU (W.gi x) (K.getD c [])))) := by
  have hc' : c < K.length := by rw [h.len]; exact hc
  have e1 : lf (K.set c (timesU (W.gi x) (K.getD c []))) = W.timesR c (W.gi x) (lf K) := by
    funext i j
    unfold lf W.timesR
    rw [getD_set hc']
    by_cases e : i = c
    · rw [if_pos e, if_pos e, timesU_at]
    · rw [if_neg e, if_neg e]
  have e2 : rt n (K.set c (timesU (W.gi x) (K.getD c []))) = W.timesR c (W.gi x) (rt n K) := by
    funext i j
    unfold rt W.timesR
    rw [getD_set hc']
    by_cases e : i = c
    · rw [if_pos e, if_pos e, timesU_at]
    · rw [if_neg e, if_neg e]
  have hs : W.gm (W.gi x) x = 1#8 := by rw [W.gm_comm]; exact W.gm_gi x h0
  refine ⟨⟨by rw [List.length_set]; exact h.len, fun i hi => ?_, ?_, ?_⟩, ?_, fun k hk => by omega⟩
  · rw [getD_set hc']
    split
    · rw [timesU_len]; exact h.row c hc
    · exact h.row i hi
  · rw [e1, e2]; exact h.el.times hc hs
  · rw [e1]; exact cols_times h.co hc _
  · rw [e1]; unfold W.timesR; rw [if_pos rfl, ← hx, hs]
theorem PuK.plus {n c i : Nat} {M : Mx} {K : List (List B8)} (h : PuK n c M K) (hc : c < n) (hi : i < n) (hic : i ≠ c) (hd : ColDone n c i (lf K)) {t : B8} (ht : t = lf K i c) : PuK n c M (K.set i (plusU t (K.getD i []) (K.getD c []))) ∧ ColDone n c (i + 1) (lf (K.set i (plusU t (K.getD i []) (K.getD c [])))) := by
  have hi' : i < K.length := by rw [h.len]; exact hi
  have e1 : W.eqM n n (lf (K.set i (plusU t (K.getD i []) (K.getD c [])))) (W.plusR i c t (lf K)) := by
    intro k hk j hj
    unfold lf W.plusR
    rw [getD_set hi']
    by_cases e : k = i
    · rw [if_pos e, if_pos e, plusU_at (by rw [h.row i hi]; omega)]
    · rw [if_neg e, if_neg e]
  have e2 : W.eqM n n (rt n (K.set i (plusU t (K.getD i []) (K.getD c [])))) (W.plusR i c t (rt n K)) := by
    intro k hk j hj
    unfold rt W.plusR
    rw [getD_set hi']
    by_cases e : k = i
    · rw [if_pos e, if_pos e, plusU_at (by rw [h.row i hi]; omega)]
    · rw [if_neg e, if_neg e]
  refine ⟨⟨by rw [List.length_set]; exact h.len, fun k hk => ?_, (h.el.plus hi hc hic t).congr e1.symm e2.symm, cols_congr (cols_plus h.co hc t) (Nat.le_of_lt hc) e1.symm⟩, ?_, fun k hk hkn hkc => ?_⟩
  · rw [getD_set hi']
    split
    · rw [plusU_len]; exact h.row i hi
    · exact h.row k hk
  · rw [e1 c hc c hc]
    unfold W.plusR
    rw [if_neg (Ne.symm hic)]; exact hd.1
  · rw [e1 k hkn c hc]
    unfold W.plusR
    by_cases e : k = i
    · rw [if_pos e, hd.1, W.gm_one, ht, BitVec.xor_self]
    · rw [if_neg e]; exact hd.2 k (by omega) hkn hkc
theorem PuK.next {n c : Nat} {M : Mx} {K : List (List B8)} (h : PuK n c M K) (hd : ColDone n c n (lf K)) : PuK n (c + 1) M K := ⟨h.len, h.row, h.el, col_all h.co hd⟩
/-- The rows at the start: a matrix with ones beside it. -/
def besideU (K L : List (List B8)) : List (List B8) := (List.range K.length).map fun i => K.getD i [] ++ L.getD i []
theorem besideU_at {K L : List (List B8)} {i : Nat} (hi : i < K.length) : (besideU K L).getD i [] = K.getD i [] ++ L.getD i [] := by
  unfold besideU
  rw [List.getD_eq_getElem?_getD, List.getElem?_map, List.getElem?_range hi]; rfl
theorem besideU_len (K L : List (List B8)) : (besideU K L).length = K.length := by simp [besideU]
theorem onesU_at {t : B8} {n i : Nat} (hi : i < n) : (onesU t n).getD i [] = oneU t n i := by
  unfold onesU
  rw [List.getD_eq_getElem?_getD, List.getElem?_map, List.getElem?_range hi]; rfl
theorem oneU_at {n i j : Nat} (hi : i < n) (hj : j < n) : (oneU 1#8 n i).getD j 0#8 = W.one i j := by
  unfold oneU W.one
  rw [List.getD_eq_getElem?_getD, List.getElem?_set]
  by_cases e : i = j
  · subst e; rw [if_pos rfl, if_pos rfl, if_pos (by simpa using hi)]; rfl
  · rw [if_neg e, if_neg e]; simp [hj]
theorem PuK.start {n : Nat} {K : List (List B8)} (hK : K.length = n) (hr : ∀ i, i < n → (K.getD i []).length = n) : PuK n 0 (lf K) (besideU K (onesU 1#8 n)) := by
  refine ⟨by rw [besideU_len]; exact hK, fun i hi => ?_, (W.Elim.start n (lf K)).congr (fun i hi j hj => ?_) (fun i hi j hj => ?_), fun i _ j hj => by omega⟩
  · rw [besideU_at (by omega), List.length_append, hr i hi, onesU_at hi, oneU_len]
  · unfold lf
    rw [besideU_at (by omega)]
    have hl := hr i hi
    generalize K.getD i [] = r at *
    rw [List.getD_eq_getElem?_getD, List.getD_eq_getElem?_getD, List.getElem?_append_left (by omega)]
  · unfold rt
    rw [besideU_at (by omega), List.getD_eq_getElem?_getD, List.getElem?_append_right (by rw [hr i hi]; omega), hr i hi, Nat.add_sub_cancel_left, onesU_at hi, ← List.getD_eq_getElem?_getD, oneU_at hi hj]
/-- The right halves, as numbers. -/
def halfU (n : Nat) (K : List (List B8)) : List (List B8) := K.map fun r => r.drop n
theorem halfU_at (n : Nat) (K : List (List B8)) (i j : Nat) : mx (toIs (halfU n K)) i j = rt n K i j := by
  unfold mx rt toIs halfU
  rw [List.map_map, List.getD_eq_getElem?_getD (l := List.map _ K), List.getElem?_map, List.getD_eq_getElem?_getD (l := K)]
  cases K[i]? with
  | none => show g8 (([] : List Int).getD j 0) = ([] : List B8).getD (n + j) 0#8; rfl
  | some r =>
    show g8 ((toI (r.drop n)).getD j 0) = r.getD (n + j) 0#8
    unfold toI
    rw [List.getD_eq_getElem?_getD, List.getElem?_map, List.getElem?_drop, List.getD_eq_getElem?_getD]
    cases r[n + j]? with
    | none => rfl
    | some x => exact g8_back x
theorem PuK.done {n : Nat} {X : List (List Int)} {K : List (List B8)} (h : PuK n n (mx X) K) (hX : matOk X = true) (hn : X.length = n) (hc : colsOf X = n) : IsInv X (toIs (halfU n K)) := by
  obtain ⟨h1, h2⟩ := h.el.done (fun i hi j hj => h.co i hi j hj)
  have hsq : Sq n (toIs (halfU n K)) := by
    refine ⟨by simp [toIs, halfU, h.len], fun x hx => ?_⟩
    obtain ⟨r, hr, rfl⟩ := List.mem_map.1 hx
    obtain ⟨r', hr', rfl⟩ := List.mem_map.1 hr
    obtain ⟨i, hi, rfl⟩ := List.mem_iff_getElem.1 hr'
    have e : K.getD i [] = K[i] := by simp [List.getD, hi]
    have := h.row i (by rw [← h.len]; exact hi)
    rw [e] at this
    refine ⟨by rw [toI_len, List.length_drop, this]; omega, fun y hy => ?_⟩
    obtain ⟨z, _, rfl⟩ := List.mem_map.1 hy
    exact b8_num z
  have e : mx (toIs (halfU n K)) = rt n K := by funext i j; exact halfU_at n K i j
  refine ⟨hX, by omega, by rw [hn]; exact hsq, ?_, ?_⟩
  · rw [hn, e]; exact h1
  · rw [hn, e]; exact h2
theorem PuK.none {n c : Nat} {X : List (List Int)} {K : List (List B8)} (h : PuK n c (mx X) K) (hn : X.length = n) (hc : c < n) (hz : ∀ i, c ≤ i → i < n → lf K i c = 0#8) : ¬ ∃ Y, IsInv X Y := by
  rintro ⟨Y, hY⟩
  have := hY.2.2.2.1
  rw [hn] at this
  exact h.el.none hc h.co hz _ this
theorem lf_toBs (X : List (List Int)) : lf (toBs X) = mx X := by funext i j; exact toBs_get X i j
end Go.Proofs.Ytdlgailodhlbmaa
/- PrI: Rows of bytes that are turned in place: in memory. -/
namespace Go.Proofs.Ytdlgailodhlbmaa
open Go.RowKit
open W (B8 Mx)
attribute [local irreducible] W.gm W.xs W.mm W.gi matOk

theorem ks_set {ss : List KS} {i : Nat} (s : KS) (hi : i < ss.length) (k : Nat) : (ss.set i s).getD k default = if k = i then s else ss.getD k default := by
  rw [List.getD_eq_getElem?_getD, List.getD_eq_getElem?_getD, List.getElem?_set]
  by_cases e : i = k
  · subst e; rw [if_pos rfl, if_pos rfl, if_pos hi]; rfl
  · rw [if_neg e, if_neg (Ne.symm e)]
theorem kws_at (ss : List KS) (i : Nat) : (kws ss).getD i [] = (ss.getD i default).row := by
  unfold kws
  rw [List.getD_eq_getElem?_getD, List.getElem?_map, List.getD_eq_getElem?_getD]
  cases ss[i]? <;> rfl
theorem kvs_at {ss : List KS} {i : Nat} (hi : i < ss.length) : (kvs ss)[i]? = some (ksv (ss.getD i default)) := by
  rw [kvs_get ss i hi]; simp [List.getD, hi]
/-- A row of rows of bytes that may be written: each row in a block of its own, all from B on. -/
structure KX (w : World) (B g : Nat) (ss : List KS) : Prop where
  out : WCells w g (kvs ss)
  glo : B ≤ g
  rows : ∀ i, i < ss.length → ∃ b, (ss.getD i default).loc = some ⟨b, 0, none⟩ ∧ B ≤ b ∧ b ≠ g ∧ WCells w b (ucs (ss.getD i default).row) ∧ (ss.getD i default).row.length ≤ (ss.getD i default).cap
  apart : ∀ i j, i < j → j < ss.length → (ss.getD i default).loc ≠ (ss.getD j default).loc
theorem KX.ne {w : World} {B g : Nat} {ss : List KS} (h : KX w B g ss) {i j : Nat} (hi : i < ss.length) (hj : j < ss.length) (hij : i ≠ j) : (ss.getD i default).loc ≠ (ss.getD j default).loc := by
  rcases Nat.lt_or_gt_of_ne hij with q | q
  · exact h.apart i j q hj
  · exact (h.apart j i q hi).symm
theorem KW.kx {w : World} {g lo hi : Nat} {ss : List KS} (h : KW w g ss lo hi) : KX w lo g ss := by
  refine ⟨h.out, h.glo, fun i hi => ?_, fun i j hij hj e => ?_⟩
  · have e : ss.getD i default = ss[i] := by simp [List.getD, hi]
    rw [e]
    obtain ⟨b, e1, h1, _, h3, h4, h5⟩ := h.rows ss[i] (List.getElem_mem hi)
    exact ⟨b, e1, h1, h3, h4, h5⟩
  · have hi : i < ss.length := by omega
    have e1 : ss.getD i default = ss[i] := by simp [List.getD, hi]
    have e2 : ss.getD j default = ss[j] := by simp [List.getD, hj]
    rw [e1, e2] at e
    have := List.pairwise_iff_getElem.1 h.apart i j (by simpa using hi) (by simpa using hj) hij
    simp at this
    exact this e
theorem KX.below {w w' : World} {B g : Nat} {ss : List KS} (h : KX w B g ss) (hb : Below w.heap.size w w') : KX w' B g ss :=
  ⟨h.out.below hb h.out.1, h.glo, fun i hi => by
    obtain ⟨b, e, h1, h2, h3, h4⟩ := h.rows i hi
    exact ⟨b, e, h1, h2, h3.below hb h3.1, h4⟩, h.apart⟩
/-- A row is turned. -/
theorem KX.setRow {w w' : World} {B g : Nat} {ss : List KS} (h : KX w B g ss) {i b : Nat} {r : List B8} (hi : i < ss.length) (hloc : (ss.getD i default).loc = some ⟨b, 0, none⟩) (hg : w.grownBy w' (some b)) (hc : WCells w' b (ucs r)) (hl : r.length = (ss.getD i default).row.length) :
    KX w' B g (ss.set i ⟨some ⟨b, 0, none⟩, r, (ss.getD i default).cap⟩) := by
  obtain ⟨b0, e0, h1, h2, h3, h4⟩ := h.rows i hi
  have eb : b0 = b := congrArg Addr.block (Option.some.inj (e0.symm.trans hloc))
  subst eb
  have eg : ss.getD i default = ss[i] := by simp [List.getD, hi]
  have ek : kvs (ss.set i ⟨some ⟨b0, 0, none⟩, r, (ss.getD i default).cap⟩) = kvs ss := by
    unfold kvs
    rw [List.map_set]
    have : ksv ⟨some ⟨b0, 0, none⟩, r, (ss.getD i default).cap⟩ = ksv (ss.getD i default) := by unfold ksv; simp only [hl, hloc]
    rw [this, eg]
    apply List.ext_getElem (by simp)
    intro k q1 q2
    rw [List.getElem_set]
    split
    · rename_i e; subst e; simp
    · rfl
  refine ⟨by rw [ek]; exact h.out.apart hg (Ne.symm h2), h.glo, fun k hk => ?_, fun k j hkj hj => ?_⟩
  · rw [List.length_set] at hk
    rw [ks_set _ hi]
    by_cases e : k = i
    · rw [if_pos e]
      exact ⟨b0, rfl, h1, h2, hc, by show r.length ≤ _; rw [hl]; exact h4⟩
    · rw [if_neg e]
      obtain ⟨b1, e1, q1, q2, q3, q4⟩ := h.rows k hk
      refine ⟨b1, e1, q1, q2, q3.apart hg (fun eb => ?_), q4⟩
      subst eb
      exact h.ne hk hi e (e1.trans e0.symm)
  · rw [List.length_set] at hj
    rw [ks_set _ hi, ks_set _ hi]
    by_cases e1 : k = i
    · rw [if_pos e1, if_neg (by omega)]
      show some _ ≠ _
      rw [← hloc]
      exact h.ne hi hj (by omega)
    · rw [if_neg e1]
      by_cases e2 : j = i
      · rw [if_pos e2]
        show _ ≠ some _
        rw [← hloc]
        exact h.ne (by omega) hi e1
      · rw [if_neg e2]; exact h.apart k j hkj hj
def swapK (p c : Nat) (ss : List KS) : List KS := (ss.set p (ss.getD c default)).set c (ss.getD p default)
theorem swapK_len (p c : Nat) (ss : List KS) : (swapK p c ss).length = ss.length := by simp [swapK]
theorem kws_set (ss : List KS) (i : Nat) (s : KS) : kws (ss.set i s) = (kws ss).set i s.row := by simp [kws, List.map_set]
theorem kvs_set (ss : List KS) (i : Nat) (s : KS) : (kvs ss).set i (ksv s) = kvs (ss.set i s) := by simp [kvs, List.map_set]
theorem kws_swap (p c : Nat) (ss : List KS) : kws (swapK p c ss) = swapU p c (kws ss) := by
  unfold swapK swapU
  rw [kws_set, kws_set, kws_at, kws_at]
theorem swapK_at {ss : List KS} {p c : Nat} (hp : p < ss.length) (hc : c < ss.length) (i : Nat) : (swapK p c ss).getD i default = ss.getD (if i = p then c else if i = c then p else i) default := by
  unfold swapK
  rw [ks_set _ (by rw [List.length_set]; exact hc)]
  by_cases e2 : i = c
  · rw [if_pos e2]
    by_cases e1 : i = p
    · rw [if_pos e1, ← e2, e1]
    · rw [if_neg e1, if_pos e2]
  · rw [if_neg e2, ks_set _ hp]
    by_cases e1 : i = p
    · rw [if_pos e1, if_pos e1]
    · rw [if_neg e1, if_neg e1, if_neg e2]
/-- Two rows in each other's place. -/
theorem KX.swap {w : World} {B g : Nat} {ss : List KS} (h : KX w B g ss) {p c : Nat} (hp : p < ss.length) (hc : c < ss.length) :
    KX ((w.setCell ⟨g, p, none⟩ (ksv (ss.getD c default))).setCell ⟨g, c, none⟩ (ksv (ss.getD p default))) B g (swapK p c ss) := by
  refine ⟨?_, h.glo, fun i hi => ?_, fun i j hij hj => ?_⟩
  · have h1 := h.out.set p (ksv (ss.getD c default)) (by rw [kvs_len]; exact hp)
    rw [kvs_set] at h1
    have h2 := h1.set c (ksv (ss.getD p default)) (by rw [kvs_len, List.length_set]; exact hc)
    rw [kvs_set] at h2
    exact h2
  · rw [swapK_len] at hi
    rw [swapK_at hp hc]
    obtain ⟨b, e, q1, q2, q3, q4⟩ := h.rows (if i = p then c else if i = c then p else i) (by split; exact hc; split; exact hp; exact hi)
    exact ⟨b, e, q1, q2, (q3.other ⟨g, p, none⟩ _ q2).other ⟨g, c, none⟩ _ q2, q4⟩
  · rw [swapK_len] at hj
    rw [swapK_at hp hc, swapK_at hp hc]
    refine h.ne (by split; exact hc; split; exact hp; omega) (by split; exact hc; split; exact hp; exact hj) ?_
    split
    · split
      · omega
      · split <;> omega
    · split
      · split
        · omega
        · split <;> omega
      · split
        · omega
        · split <;> omega
/-- What a walk wants of a row. -/
theorem KX.at {w : World} {B g m : Nat} {ss : List KS} (h : KX w B g ss) {i : Nat} (hi : i < ss.length) (hm : ((kws ss).getD i []).length = m) : ∃ b cp, (ss.getD i default).loc = some ⟨b, 0, none⟩ ∧ (ss.getD i default).cap = cp ∧ B ≤ b ∧ b ≠ g ∧ b < w.heap.size ∧ m ≤ cp ∧ w.cell? ⟨g, i, none⟩ = some (.slice (some ⟨b, 0, none⟩) m cp) ∧ w.frozen? ⟨g, i, none⟩ = false ∧ WCells w b (ucs ((kws ss).getD i [])) ∧ ksv (ss.getD i default) = .slice (some ⟨b, 0, none⟩) m cp := by
  obtain ⟨b, e, h1, h2, h3, h4⟩ := h.rows i hi
  have hk := h.out.2 i _ (kvs_at hi)
  rw [kws_at] at hm ⊢
  have ev : ksv (ss.getD i default) = .slice (some ⟨b, 0, none⟩) m (ss.getD i default).cap := by unfold ksv; rw [e, hm]
  rw [ev] at hk
  exact ⟨b, _, e, rfl, h1, h2, h3.1, by omega, hk.1, hk.2, h3, ev⟩
end Go.Proofs.Ytdlgailodhlbmaa
/- PrJ: The program's own lift and divide. -/
namespace Go.Proofs.Ytdlgailodhlbmaa
open Go.RowKit
open W (B8 Mx)
attribute [local go_sem ↓] Go.wp_at_zero Go.wp_at_succ
attribute [local irreducible] W.gm W.xs W.mm W.gi matOk

def LiftPost (n c B g : Nat) (ss : List KS) (w : World) (e : Ending) (w' : World) : Prop :=
  Below B w w' ∧ ((∃ p, c ≤ p ∧ p < n ∧ lf (kws ss) p c ≠ 0#8 ∧ e = .returned (.bool true) ∧ KX w' B g (swapK p c ss)) ∨ (e = .returned (.bool false) ∧ (∀ i, c ≤ i → i < n → lf (kws ss) i c = 0#8) ∧ KX w' B g ss))
theorem byte_ne {x : B8} (h : x ≠ 0#8) : (((x.toNat : Int)) != 0) = true := by
  rw [bne_iff_ne]
  intro e
  exact h (W.b8_zero (by omega))
set_option maxRecDepth 100000 in
set_option maxHeartbeats 2000000 in
theorem implLift (n c B g cap : Nat) (ss : List KS) (w : World) (h : KX w B g ss) (hn : ss.length = n) (hr : ∀ i, i < n → ((kws ss).getD i []).length = n + n) (hc : c < n) (h8 : n ≤ 8) :
    Calls Try.prog 81 #[.slice (some ⟨g, 0, none⟩) n cap, .int .i64 (c : Int)] w fun e w' => LiftPost n c B g ss w e w' := by
  have HH := Shut.mk h
  have HN : Hid (ss.length = n) := hn
  have HR := Shut.mk hr
  clear h hn hr
  go_enter Try.func81, Try.ntmps81
  go_wp2_with fail
  go_loop [6] (fun i => ∃ k : Nat, i = .int .i64 k ∧ c ≤ k ∧ k ≤ n ∧ Shut (∀ j, c ≤ j → j < k → lf (kws ss) j c = 0#8)) (fun i => n - (intOf i).toNat)
  case atStart => exact ⟨c, rfl, Nat.le_refl _, by omega, ⟨fun j h1 h2 => by omega⟩⟩
  case round =>
    obtain ⟨k, rfl, hck, hk, hz⟩ := hrel
    by_cases hlt : k < n
    · have hlt' : (k : Int) < (n : Int) := by omega
      have k0 : (0 : Int) ≤ (k : Int) := by omega
      have c0 : (0 : Int) ≤ (c : Int) := by omega
      have c1 : (c : Int) < (n : Int) := by omega
      have c2 : (c : Int) < (n : Int) + (n : Int) := by omega
      obtain ⟨b, cp, q1, q2, q3, q4, q5, q6, d1, z1, q7, ev1⟩ := HH.out.at (i := k) (by have := HN.out; omega) (HR.out k hlt)
      obtain ⟨b', cp', r1, r2, r3, r4, r5, r6, d2, z2, r7, ev2⟩ := HH.out.at (i := c) (by have := HN.out; omega) (HR.out c hc)
      obtain ⟨d3, _⟩ := q7.2 c _ (ucs_get _ c (by rw [HR.out k hlt]; omega))
      have hx : lf (kws ss) k c = ((kws ss).getD k []).getD c 0#8 := rfl
      generalize ((kws ss).getD k []).getD c 0#8 = x at *
      by_cases h0 : x = 0#8
      · subst h0
        have e0 : (((0#8 : B8).toNat : Int) != 0) = false := by rfl
        have HZ : Shut (∀ j, c ≤ j → j < k + 1 → lf (kws ss) j c = 0#8) := ⟨fun j h1 h2 => by
          by_cases e : j = k
          · subst e; exact hx
          · exact hz.out j h1 (by omega)⟩
        clear hx hz q7 r7 ev1 ev2
        go_wp2_with fail
        go_round
        case rel => exact ⟨k + 1, by go_num, by omega, by omega, HZ⟩
        case measure => simp [intOf]; omega
      · have e0 := byte_ne h0
        have hsw := HH.out.swap (p := k) (c := c) (by have := HN.out; omega) (by have := HN.out; omega)
        rw [ev1, ev2] at hsw
        have h4 := HH.out.out.set k (.slice (some ⟨b', 0, none⟩) (n + n) cp') (by rw [kvs_len]; have := HN.out; omega)
        obtain ⟨v4, hv4⟩ : ∃ v4, ((kvs ss).set k (.slice (some ⟨b', 0, none⟩) (n + n) cp'))[c]? = some v4 := ⟨_, List.getElem?_eq_getElem (by rw [List.length_set, kvs_len]; have := HN.out; omega)⟩
        obtain ⟨d4, z4⟩ := h4.2 c v4 hv4
        clear h4 hv4
        have HSW := Shut.mk hsw
        have HP := Shut.mk (show lf (kws ss) k c ≠ 0#8 by rw [hx]; exact h0)
        clear hsw hx hz q7 r7 ev1 ev2 h0 q1 q2 r1 r2
        go_wp2_with fail
        go_region
        go_wp2_with fail
        go_ret
        exact ⟨Below.drew (((Below.refl _ _).setCell (p := ⟨g, k, none⟩) HH.out.glo _).setCell (p := ⟨g, c, none⟩) HH.out.glo _), .inl ⟨k, hck, hlt, HP.out, rfl, HSW.out.below (Below.drew (Below.refl _ _))⟩⟩
    · have hlt' : ¬ (k : Int) < (n : Int) := by omega
      have HF : Shut (∀ i, c ≤ i → i < n → lf (kws ss) i c = 0#8) := ⟨fun i h1 h2 => hz.out i h1 (by omega)⟩
      clear hz
      go_wp2_with fail
      go_ret
      exact ⟨Below.refl _ _, .inr ⟨rfl, HF.out, HH.out⟩⟩
/-- A row that is being multiplied: the first k numbers are done. -/
def timesK (t : B8) (xs : List B8) (k : Nat) : List B8 := (List.range xs.length).map fun c => if c < k then W.gm (xs.getD c 0#8) t else xs.getD c 0#8
theorem timesK_len (t : B8) (xs : List B8) (k : Nat) : (timesK t xs k).length = xs.length := by simp [timesK]
theorem timesK_0 (t : B8) (xs : List B8) : timesK t xs 0 = xs := by
  apply List.ext_getElem (by simp [timesK])
  intro i h1 h2
  simp [timesK, List.getD, h2]
theorem timesK_all (t : B8) (xs : List B8) : timesK t xs xs.length = timesU t xs := by
  apply List.ext_getElem (by simp [timesK, timesU])
  intro i h1 h2
  have h3 : i < xs.length := by simpa [timesU] using h2
  simp [timesK, timesU, List.getD, h3]
theorem timesK_at {t : B8} {xs : List B8} {k : Nat} (h : k < xs.length) : (timesK t xs k).getD k 0#8 = xs.getD k 0#8 := by
  unfold timesK
  rw [List.getD_eq_getElem?_getD, List.getElem?_map, List.getElem?_range h]
  show (if k < k then _ else _) = _
  rw [if_neg (Nat.lt_irrefl k)]
theorem timesK_set {t : B8} {xs : List B8} {k : Nat} (_ : k < xs.length) : (timesK t xs k).set k (W.gm (xs.getD k 0#8) t) = timesK t xs (k + 1) := by
  apply List.ext_getElem (by simp [timesK])
  intro c h1 h2
  simp only [timesK, List.getElem_set, List.getElem_map, List.getElem_range]
  by_cases e : k = c
  · subst e; rw [if_pos rfl, if_pos (by omega)]
  · rw [if_neg e]
    by_cases h : c < k
    · rw [if_pos h, if_pos (by omega)]
    · rw [if_neg h, if_neg (by omega)]
def DividePost (c B g : Nat) (ss : List KS) (w : World) (e : Ending) (w' : World) : Prop :=
  (∃ v, e = .returned v) ∧ Below B w w' ∧ ∃ s : KS, s.row = timesU (W.gi (lf (kws ss) c c)) ((kws ss).getD c []) ∧ KX w' B g (ss.set c s)
set_option maxRecDepth 100000 in
set_option maxHeartbeats 2000000 in
theorem implDivide (n c B g cap : Nat) (ss : List KS) (w : World) (h : KX w B g ss) (hn : ss.length = n) (hr : ∀ i, i < n → ((kws ss).getD i []).length = n + n) (hc : c < n) (h8 : n ≤ 8) (hB : B ≤ w.heap.size) :
    Calls Try.prog 82 #[.slice (some ⟨g, 0, none⟩) n cap, .int .i64 (c : Int)] w fun e w' => DividePost c B g ss w e w' := by
  obtain ⟨b, cp, q1, q2, q3, q4, q5, q6, d1, z1, q7, ev1⟩ := h.at (i := c) (by omega) (hr c hc)
  have hlen := hr c hc
  obtain ⟨d3, _⟩ := q7.2 c _ (ucs_get _ c (by omega))
  have hx : lf (kws ss) c c = ((kws ss).getD c []).getD c 0#8 := rfl
  have hfin := fun w' (hg : w.grownBy w' (some b)) (hcc : WCells w' b (ucs (timesU (W.gi (((kws ss).getD c []).getD c 0#8)) ((kws ss).getD c [])))) => h.setRow (by omega) q1 hg hcc (by rw [timesU_len, kws_at])
  have hinv := implInverse (((kws ss).getD c []).getD c 0#8)
  have HF : Shut (∀ (w' : World), w.grownBy w' (some b) → WCells w' b (ucs (timesU (W.gi (((kws ss).getD c []).getD c 0#8)) ((kws ss).getD c []))) → ∃ s : KS, s.row = timesU (W.gi (((kws ss).getD c []).getD c 0#8)) ((kws ss).getD c []) ∧ KX w' B g (ss.set c s)) := ⟨fun w' hg hcc => ⟨_, rfl, hfin w' hg hcc⟩⟩
  unfold DividePost
  rw [hx]
  generalize (kws ss).getD c [] = row at *
  generalize row.getD c 0#8 = x at *
  generalize W.gi x = y at *
  have HL : Hid (row.length = n + n) := hlen
  have HV := Shut.mk hinv
  have HW := Shut.mk q7
  have c0 : (0 : Int) ≤ (c : Int) := by omega
  have c1 : (c : Int) < (n : Int) := by omega
  have c2 : (c : Int) < (n : Int) + (n : Int) := by omega
  clear hinv q7 hfin hx h hn hr q1 q2 ev1 hlen z1
  go_enter Try.func82, Try.ntmps82
  go_wp2_with fail
  refine (HV.out _).mono ?_
  rintro e w1 ⟨rfl, rfl⟩
  go_wp2_with fail
  go_loopw [19] (fun i wr => ∃ k : Nat, i = .int .i64 k ∧ k ≤ n + n ∧ Shut (WCells wr b (ucs (timesK y row k))) ∧ Shut (w1.grownBy wr (some b))) (fun i _ => n + n - (intOf i).toNat)
  case atStart => exact ⟨0, rfl, Nat.zero_le _, ⟨by rw [timesK_0]; exact HW.out⟩, ⟨⟨rfl, rfl, rfl, Nat.le_refl _, fun _ _ _ => rfl⟩⟩⟩
  case round =>
    obtain ⟨k, rfl, hk, hw, hg⟩ := hrel
    by_cases hlt : k < n + n
    · have k0 : (0 : Int) ≤ (k : Int) := by omega
      have k1 : (k : Int) < (n : Int) + (n : Int) := by omega
      have hkx : k < row.length := by have := HL.out; omega
      obtain ⟨e0, z0⟩ := hw.out.2 k _ (ucs_get _ k (by rw [timesK_len]; exact hkx))
      rw [timesK_at hkx] at e0
      have hset := hw.out.set k (.int .u8 ((W.gm (row.getD k 0#8) y).toNat : Int)) (by rw [ucs_len, timesK_len]; exact hkx)
      rw [ucs_set, timesK_set hkx] at hset
      have ht := implTimes (row.getD k 0#8) y
      generalize row.getD k 0#8 = u at *
      generalize W.gm u y = z at *
      have HW2 := Shut.mk hset
      have HG2 := Shut.mk (gb_two' hg.out (gb_set' wr b k (.int .u8 (z.toNat : Int))))
      have HT := Shut.mk ht
      clear hset hw hg ht
      go_wp2_with fail
      refine (HT.out _).mono ?_
      rintro e w2 ⟨rfl, rfl⟩
      go_wp2_with fail
      go_roundw
      case rel => exact ⟨k + 1, by go_num, by omega, HW2, HG2⟩
      case measure => simp [intOf]; omega
    · have e : k = row.length := by have := HL.out; omega
      have hlt' : ¬ (k : Int) < (n : Int) + (n : Int) := by omega
      rw [e, timesK_all] at hw
      have HB := Shut.mk ((Below.refl B w1).grown hg.out hB (fun j hj => by cases hj; exact q3))
      clear e
      go_wp2_with fail
      go_returns
      exact ⟨⟨_, rfl⟩, HB.out, HF.out _ hg.out hw.out⟩
end Go.Proofs.Ytdlgailodhlbmaa
/- PrK: The program's own clearOthers and solve. -/
namespace Go.Proofs.Ytdlgailodhlbmaa
open Go.RowKit
open W (B8 Mx)
attribute [local go_sem ↓] Go.wp_at_zero Go.wp_at_succ
attribute [local irreducible] W.gm W.xs W.mm W.gi matOk

/-- Where the elimination stands: with the first c columns done, and of the next one i rows. -/
structure Solv (n c : Nat) (M : Mx) (w w' : World) (B g : Nat) (ss : List KS) : Prop where
  len : ss.length = n
  kx : KX w' B g ss
  pu : PuK n c M (kws ss)
  bel : Below B w w'
theorem Solv.drew {n c : Nat} {M : Mx} {w w' : World} {B g : Nat} {ss : List KS} (h : Solv n c M w w' B g ss) : Solv n c M w w'.drew B g ss := ⟨h.len, h.kx.below (Below.drew (Below.refl _ _)), h.pu, Below.drew h.bel⟩
/-- A row, so many times, is added to another one. -/
theorem Solv.plus {n c i b cp : Nat} {M : Mx} {w w' W w9 : World} {B g : Nat} {ss : List KS} (h : Solv n c M w w' B g ss) (hB : B ≤ w'.heap.size) (hc : c < n) (hi : i < n) (hic : i ≠ c) (hd : ColDone n c i (lf (kws ss)))
    (hloc : (ss.getD i default).loc = some ⟨b, 0, none⟩) (hcp : (ss.getD i default).cap = cp) (hb : B ≤ b) (hW : Below w'.heap.size w' W) (hg : W.grownBy w9 (some b)) (hcell : WCells w9 b (ucs (plusU (((kws ss).getD i []).getD c 0#8) ((kws ss).getD i []) ((kws ss).getD c [])))) :
    Solv n c M w w9 B g (ss.set i ⟨some ⟨b, 0, none⟩, plusU (((kws ss).getD i []).getD c 0#8) ((kws ss).getD i []) ((kws ss).getD c []), cp⟩) ∧ ColDone n c (i + 1) (lf (kws (ss.set i ⟨some ⟨b, 0, none⟩, plusU (((kws ss).getD i []).getD c 0#8) ((kws ss).getD i []) ((kws ss).getD c []), cp⟩))) := by
  obtain ⟨p1, p2⟩ := h.pu.plus hc hi hic hd (t := ((kws ss).getD i []).getD c 0#8) rfl
  have hk := (h.kx.below hW).setRow (by rw [h.len]; exact hi) hloc hg hcell (by rw [plusU_len, kws_at])
  rw [hcp] at hk
  have e : kws (ss.set i ⟨some ⟨b, 0, none⟩, plusU (((kws ss).getD i []).getD c 0#8) ((kws ss).getD i []) ((kws ss).getD c []), cp⟩) = (kws ss).set i (plusU (((kws ss).getD i []).getD c 0#8) ((kws ss).getD i []) ((kws ss).getD c [])) := by rw [kws_set]
  rw [e]
  refine ⟨⟨by rw [List.length_set]; exact h.len, hk, by rw [e]; exact p1, ?_⟩, p2⟩
  exact (h.bel.trans (hW.mono hB)).grown hg (Nat.le_trans hB hW.size) (fun j hj => by cases hj; exact hb)
def ClearPost (n c : Nat) (M : Mx) (B g : Nat) (w : World) (e : Ending) (w' : World) : Prop := (∃ v, e = .returned v) ∧ ∃ ss, Solv n (c + 1) M w w' B g ss
set_option maxRecDepth 100000 in
set_option maxHeartbeats 4000000 in
theorem implClear (n c B g cap : Nat) (M : Mx) (ss : List KS) (w : World) (h : Solv n c M w w B g ss) (hd : ColDone n c 0 (lf (kws ss))) (hc : c < n) (h8 : n ≤ 8) (hB : B ≤ w.heap.size) :
    Calls Try.prog 83 #[.slice (some ⟨g, 0, none⟩) n cap, .int .i64 (c : Int)] w fun e w' => ClearPost n c M B g w e w' := by
  have H0 := Shut.mk (And.intro h hd)
  clear h hd
  go_enter Try.func83, Try.ntmps83
  go_wp2_with fail
  go_loopw [8] (fun ii wr => ∃ (i : Nat) (ss : List KS), ii = .int .i64 i ∧ i ≤ n ∧ Shut (Solv n c M w wr B g ss ∧ ColDone n c i (lf (kws ss)))) (fun ii _ => n - (intOf ii).toNat)
  case atStart => exact ⟨0, ss, rfl, Nat.zero_le _, H0⟩
  case round =>
    clear H0
    obtain ⟨i, ss, rfl, hin, hS⟩ := hrel
    have hsw := hS.out.1.bel.size
    by_cases hlt : i < n
    · have hlt' : (i : Int) < (n : Int) := by omega
      have i0 : (0 : Int) ≤ (i : Int) := by omega
      have c0 : (0 : Int) ≤ (c : Int) := by omega
      have c1 : (c : Int) < (n : Int) := by omega
      have c2 : (c : Int) < (n : Int) + (n : Int) := by omega
      obtain ⟨b, cp, q1, q2, q3, q4, q5, q6, d1, z1, q7, ev1⟩ := hS.out.1.kx.at (i := i) (by rw [hS.out.1.len]; exact hlt) (hS.out.1.pu.row i hlt)
      by_cases hic : i = c
      · have e1 : ((i : Int) != (c : Int)) = false := by rw [hic]; simp
        have HN := Shut.mk (show Solv n c M w wr B g ss ∧ ColDone n c (i + 1) (lf (kws ss)) from ⟨hS.out.1, hS.out.2.skip (.inl hic)⟩)
        clear q1 q2 q7 ev1 z1 hS hic
        go_wp2_with fail
        exact ⟨⟨i + 1, ss, by go_num, by omega, HN⟩, by simp [intOf]; omega⟩
      · have e1 : ((i : Int) != (c : Int)) = true := by rw [bne_iff_ne]; omega
        obtain ⟨b', cp', r1, r2, r3, r4, r5, r6, d2, z2, r7, ev2⟩ := hS.out.1.kx.at (i := c) (by rw [hS.out.1.len]; exact hc) (hS.out.1.pu.row c hc)
        have hli := hS.out.1.pu.row i hlt
        have hlc := hS.out.1.pu.row c hc
        have hbb : b' ≠ b := fun e => hS.out.1.kx.ne (i := i) (j := c) (by rw [hS.out.1.len]; exact hlt) (by rw [hS.out.1.len]; exact hc) hic (by rw [q1, r1, e])
        obtain ⟨d3, _⟩ := q7.2 c _ (ucs_get _ c (by omega))
        have HPL := Shut.mk (fun (W w9 : World) (hW : Below wr.heap.size wr W) (hg : W.grownBy w9 (some b)) (hcell : WCells w9 b (ucs (plusU (((kws ss).getD i []).getD c 0#8) ((kws ss).getD i []) ((kws ss).getD c [])))) => hS.out.1.plus (by omega) hc hlt hic hS.out.2 q1 q2 q3 hW hg hcell)
        have HCA := Shut.mk (fun (W : World) (hW : Below wr.heap.size wr W) => implAddTimes (((kws ss).getD i []).getD c 0#8) ((kws ss).getD i []) ((kws ss).getD c []) b cp b' 0 cp' (n + n) W (q7.below hW q7.1) (fun j hj => by
          have := (r7.2 j _ (ucs_get _ j (by omega))).1
          rw [Nat.zero_add]
          exact (hW.cell (p := ⟨b', j, none⟩) r5).trans this) (by have := hW.size; omega) hbb hli (by omega))
        generalize ((kws ss).getD i []).getD c 0#8 = x at *
        clear q1 q2 r1 r2 q7 r7 ev1 ev2 z1 z2 hli hlc hS
        go_wp2_with fail
        go_region_with (go_at_call 86; refine (HCA.out _ ?_).mono ?_; (first | exact Below.refl _ _ | exact Below.drew (Below.refl _ _)); rintro e w9 ⟨⟨v9, rfl⟩, hc9, hg9⟩)
        all_goals go_wp2_with fail
        all_goals first
          | exact ⟨⟨i + 1, _, by go_num, by omega, ⟨HPL.out _ _ (Below.refl _ _) hg9 hc9⟩⟩, by simp [intOf]; omega⟩
          | exact ⟨⟨i + 1, _, by go_num, by omega, ⟨HPL.out _ _ (Below.drew (Below.refl _ _)) hg9 hc9⟩⟩, by simp [intOf]; omega⟩
    · have e : i = n := by omega
      have hlt' : ¬ (i : Int) < (n : Int) := by omega
      have HF : Shut (Solv n (c + 1) M w wr B g ss) := ⟨⟨hS.out.1.len, hS.out.1.kx, hS.out.1.pu.next (by have q := hS.out.2; rw [e] at q; exact q), hS.out.1.bel⟩⟩
      clear e hS
      go_wp2_with fail
      go_returns
      exact ⟨⟨_, rfl⟩, ss, HF.out⟩
def SolvePost (n : Nat) (X : List (List Int)) (B g : Nat) (w : World) (e : Ending) (w' : World) : Prop :=
  Below B w w' ∧ ((e = .returned (.bool true) ∧ ∃ ss, Solv n n (mx X) w w' B g ss) ∨ (e = .returned (.bool false) ∧ ¬ ∃ Y, IsInv X Y))
theorem Solv.shift {n c : Nat} {M : Mx} {w w1 w2 : World} {B g : Nat} {ss : List KS} (h : Solv n c M w1 w2 B g ss) (hb : Below B w w1) : Solv n c M w w2 B g ss := ⟨h.len, h.kx, h.pu, hb.trans h.bel⟩
set_option maxRecDepth 100000 in
set_option maxHeartbeats 4000000 in
theorem implSolve (n B g cap : Nat) (X : List (List Int)) (ss : List KS) (w : World) (h : Solv n 0 (mx X) w w B g ss) (hX : X.length = n) (h8 : n ≤ 8) (hB : B ≤ w.heap.size) :
    Calls Try.prog 73 #[.slice (some ⟨g, 0, none⟩) n cap] w fun e w' => SolvePost n X B g w e w' := by
  have H0 := Shut.mk h
  have HX : Hid (X.length = n) := hX
  clear h hX
  go_enter Try.func73, Try.ntmps73
  go_wp2_with fail
  go_loopw [6] (fun ii wr => ∃ (c : Nat) (ss : List KS), ii = .int .i64 c ∧ c ≤ n ∧ Shut (Solv n c (mx X) w wr B g ss)) (fun ii _ => n - (intOf ii).toNat)
  case atStart => exact ⟨0, ss, rfl, Nat.zero_le _, H0⟩
  case round =>
    clear H0
    obtain ⟨c, ss, rfl, hcn, hS⟩ := hrel
    have hsw := hS.out.bel.size
    by_cases hlt : c < n
    · have hlt' : (c : Int) < (n : Int) := by omega
      have c0 : (0 : Int) ≤ (c : Int) := by omega
      have HL := Shut.mk (implLift n c B g cap ss wr hS.out.kx hS.out.len hS.out.pu.row hlt h8)
      go_wp2_with fail
      refine HL.out.mono ?_
      rintro e w1 ⟨hb1, ⟨p, hp1, hp2, hp3, rfl, hk1⟩ | ⟨rfl, hz, hk1⟩⟩
      · have HS1 := Shut.mk (show Solv n c (mx X) w w1 B g (swapK p c ss) from ⟨by rw [swapK_len]; exact hS.out.len, hk1, by rw [kws_swap]; exact hS.out.pu.swap hlt hp2 hp1, hS.out.bel.trans hb1⟩)
        have HNZ : Shut (lf (kws (swapK p c ss)) c c ≠ 0#8) := ⟨by rw [kws_swap, hS.out.pu.swap_c hlt hp2]; exact hp3⟩
        have hs1 := hb1.size
        have HD := Shut.mk (implDivide n c B g cap (swapK p c ss) w1 HS1.out.kx HS1.out.len HS1.out.pu.row hlt h8 (by omega))
        clear hb1 hk1 hp3 HL hS
        go_wp2_with fail
        refine HD.out.mono ?_
        rintro e w2 ⟨⟨v2, rfl⟩, hb2, s2, hs2, hk2⟩
        have hp := HS1.out.pu.times hlt rfl HNZ.out
        rw [← hs2, ← kws_set] at hp
        have HS2 := Shut.mk (show Solv n c (mx X) w2 w2 B g ((swapK p c ss).set c s2) ∧ ColDone n c 0 (lf (kws ((swapK p c ss).set c s2))) from ⟨⟨by rw [List.length_set]; exact HS1.out.len, hk2, hp.1, Below.refl _ _⟩, hp.2⟩)
        have HB2 := Shut.mk (HS1.out.bel.trans hb2)
        have hsz2 := hb2.size
        have HC := Shut.mk (implClear n c B g cap (mx X) _ w2 HS2.out.1 HS2.out.2 hlt h8 (by omega))
        clear hb2 hs2 hk2 hp HD HS1
        go_wp2_with fail
        refine HC.out.mono ?_
        rintro e w3 ⟨⟨v3, rfl⟩, ss3, hs3⟩
        have HS3 := Shut.mk (hs3.shift HB2.out)
        clear hs3 HC
        go_wp2_with fail
        go_roundw
        case rel => exact ⟨c + 1, ss3, by go_num, by omega, HS3⟩
        case measure => simp [intOf]; omega
      · have HNO := Shut.mk (hS.out.pu.none HX.out hlt hz)
        have HB1 := Shut.mk (hS.out.bel.trans hb1)
        clear hb1 hk1 hz HL hS
        go_wp2_with fail
        go_ret
        exact ⟨HB1.out, .inr ⟨rfl, HNO.out⟩⟩
    · have e : c = n := by omega
      have hlt' : ¬ (c : Int) < (n : Int) := by omega
      have HF : Shut (Solv n n (mx X) w wr B g ss) := ⟨by have q := hS.out; rw [e] at q; exact q⟩
      clear e hS
      go_wp2_with fail
      go_ret
      exact ⟨HF.out.bel, .inl ⟨rfl, ss, HF.out⟩⟩
end Go.Proofs.Ytdlgailodhlbmaa
/- PrL: The program's own beside and from. -/
namespace Go.Proofs.Ytdlgailodhlbmaa
open Go.RowKit
open W (B8 Mx)
attribute [local go_sem ↓] Go.wp_at_zero Go.wp_at_succ
attribute [local irreducible] W.gm W.xs W.mm W.gi matOk

theorem news_u {w : World} {b o n : Nat} {r : List B8} (hl : r.length = n) (h : ∀ j, j < n → w.cell? ⟨b, o + j, none⟩ = some (.int .u8 ((r.getD j 0#8).toNat : Int))) : ∀ j u, (ucs r)[j]? = some u → w.cell? ((⟨b, o, none⟩ : Addr).add j) = some u := by
  intro j u hj
  have hj' : j < r.length := by have := (List.getElem?_eq_some_iff.1 hj).1; rwa [ucs_len] at this
  rw [ucs_get r j hj'] at hj
  cases hj
  have e : (⟨b, o, none⟩ : Addr).add j = ⟨b, o + j, none⟩ := by cases j <;> simp [Addr.add]
  rw [e]; exact h j (by omega)
theorem one_u (r : List B8) : ∀ u ∈ ucs r, u.oneCell' = true := fun u hu => by
  obtain ⟨x, _, rfl⟩ := List.mem_map.1 hu
  rfl
set_option maxRecDepth 100000 in
set_option maxHeartbeats 4000000 in
theorem implBeside (K L : List (List B8)) (b1 o1 c1 b2 o2 c2 n : Nat) (w : World) (h1 : KAt w b1 o1 K n) (h2 : KAt w b2 o2 L n) (hK : K.length = n) (hL : L.length = n) (rK : ∀ i, i < n → (K.getD i []).length = n) (rL : ∀ i, i < n → (L.getD i []).length = n) (hn1 : 1 ≤ n) (hn8 : n ≤ 8) :
    Calls Try.prog 72 #[.slice (some ⟨b1, o1, none⟩) n c1, .slice (some ⟨b2, o2, none⟩) n c2] w fun e w' => KPost (besideU K L) w e w' := by
  obtain ⟨i0, hi0, hz0, hz1, hz2⟩ := info_parts infoRowB
  obtain ⟨i1, hi1, hy0, hy1, hy2⟩ := info_parts infoB
  have H1 := Shut.mk h1
  have H2 := Shut.mk h2
  have HK := Shut.mk (And.intro hK hL)
  have HR := Shut.mk (And.intro rK rL)
  clear h1 h2 hK hL rK rL
  go_enter Try.func72, Try.ntmps72
  go_wp2_with fail
  go_loopw [5, 10] (fun v i wr => ∃ (ts : List KS) (vv : Value), vv = v ∧ i = .int .i64 (ts.length : Nat) ∧ ts.length ≤ n ∧ Shut (kws ts = (besideU K L).take ts.length) ∧ Shut (KI w wr vv ts)) (fun _ i _ => n - (intOf i).toNat)
  case atStart => exact ⟨[], _, rfl, rfl, by simp, ⟨rfl⟩, ⟨KI.start w (World.ownsRow_nil _ _ _ _) (Below.refl _ _)⟩⟩
  case round =>
    obtain ⟨ts, v, rfl, rfl, hk, hrw, hbi⟩ := hrel
    obtain ⟨wo, rfl⟩ : ∃ wo, wo = wr := ⟨_, rfl⟩
    obtain ⟨i, hie⟩ : ∃ i, i = ts.length := ⟨_, rfl⟩
    have HI : Hid (i = ts.length) := hie
    rw [← hie] at hk ⊢
    clear hie
    by_cases hlt : i < n
    · have hlt' : (i : Int) < (n : Int) := by omega
      have k0 : (0 : Int) ≤ (i : Int) := by omega
      have hsz := hbi.out.bel.size
      have hbw := hbi.out.bel
      obtain ⟨lb1, q1⟩ := H1.out.below hbw
      obtain ⟨lb2, q2⟩ := H2.out.below hbw
      obtain ⟨b1', o1', cp1, l1', d1, e1⟩ := q1 i (by rw [HK.out.1]; exact hlt)
      obtain ⟨b2', o2', cp2, l2', d2, e2⟩ := q2 i (by rw [HK.out.2]; exact hlt)
      have hl1 := HR.out.1 i hlt
      have hl2 := HR.out.2 i hlt
      have HST := Shut.mk (show (besideU K L).take (i + 1) = (besideU K L).take i ++ [K.getD i [] ++ L.getD i []] by
        have hi2 : i < (besideU K L).length := by rw [besideU_len, HK.out.1]; exact hlt
        rw [List.take_succ_eq_append_getElem hi2]
        have : (besideU K L)[i] = (besideU K L).getD i [] := by simp [List.getD, hi2]
        rw [this, besideU_at (by rw [HK.out.1]; exact hlt)])
      generalize K.getD i [] = r1 at *
      generalize L.getD i [] = r2 at *
      have HE1 := Shut.mk (news_u hl1 e1)
      have HE2 := Shut.mk e2
      have HL1 : Hid (r1.length = n) := hl1
      have HL2 : Hid (r2.length = n) := hl2
      clear q1 q2 e1 e2 hbw hl1 hl2
      go_wp2_with (at_builtin; refine wpList_append_own _ rfl _ _ 82 rfl wo.heap.size 71 i1 (.int .u8 0) 1 1 Try.underlying82 hi1 hy0 hy1 hy2 rfl (by decide) _ 0 [] rfl (World.ownsRow_nil _ _ _ _) ⟨b1', o1', none⟩ n cp1 (ucs r1) rfl ?c1 HE1.out (one_u r1) ?c3 ?c4 ?c5 ?_)
      case c1 => rw [ucs_len, Nat.mul_one]; exact HL1.out
      case c3 => unfold maxLen; omega
      case c4 => omega
      case c5 => exact Nat.le_refl _
      intro v1 w1 hown1 hg1 _
      have hb1 : Below wo.heap.size wo w1 := (Below.refl _ _).grown hg1 (Nat.le_refl _) (fun j hj => by cases hj)
      have hs1 := hb1.size
      have d3 := (hb1.cell (p := ⟨b2, o2 + i, none⟩) lb2).trans d2
      have HE3 := Shut.mk (news_u (w := w1) (b := b2') (o := o2') HL2.out (fun j hj => (hb1.cell (p := ⟨b2', o2' + j, none⟩) l2').trans (HE2.out j hj)))
      have HB1 := Shut.mk hb1
      clear hg1 hb1 HE2 HE1
      go_wp2_with (at_builtin; refine wpList_append_own _ rfl _ _ 82 rfl wo.heap.size 71 i1 (.int .u8 0) 1 1 Try.underlying82 hi1 hy0 hy1 hy2 rfl (by decide) _ n (ucs r1) rfl hown1 ⟨b2', o2', none⟩ n cp2 (ucs r2) rfl ?c1 HE3.out (one_u r2) ?c3 ?c4 ?c5 ?_)
      case c1 => rw [ucs_len, Nat.mul_one]; exact HL2.out
      case c3 => unfold maxLen; omega
      case c4 => omega
      case c5 => exact hs1
      intro v2 w2 hown2 hg2 _
      rw [show ucs r1 ++ ucs r2 = ucs (r1 ++ r2) by simp [ucs]] at hown2
      obtain ⟨gr, cr, rfl, hcr⟩ := own_at hown2 (by omega)
      have hgr := hown2.lt gr rfl
      have HROW := Shut.mk (own_wcells hown2)
      have hbq : Below wo.heap.size wo w2 := HB1.out.grown hg2 hs1 (fun j hj => (hown1.lt j hj).1)
      have HBI := Shut.mk (hbi.out.newrow hbq hgr.1)
      have hsi : wo.heap.size ≤ w2.heap.size := hbq.size
      have hgr1 := hgr.1
      have hown := HBI.out.1.own
      clear hown2 hbq hbi hgr hown1 hg2 HB1 d3 HE3
      go_wp2_with (at_builtin; refine wpList_append_own _ rfl _ _ 67 rfl w.heap.size 82 i0 (.slice none 0 0) 1 24 Try.underlying67 hi0 hz0 hz1 hz2 rfl (by decide) _ _ _ rfl (hown.alloc _) ⟨w2.heap.size, 0, none⟩ 1 1 [.slice (some ⟨gr, 0, none⟩) (n + n) cr] rfl rfl (cell_one_new _ _ _) ?c2 ?c3 ?c4 ?c5 ?_)
      case c2 => first | rfl | (intro u hu; simp at hu; subst hu; rfl)
      case c3 => unfold maxLen; have := HI.out; omega
      case c4 => have := HI.out; omega
      case c5 => first | omega | (simp; omega)
      intro v' w6 hown' hgrow _
      have hlen : (r1 ++ r2).length = n + n := by rw [List.length_append, HL1.out, HL2.out]
      have hne : r1 ++ r2 ≠ [] := fun e => by rw [e] at hlen; simp at hlen; omega
      have hap := HBI.out.1.append (cap := cr) (by omega) HROW.out hne (by rw [hlen]; exact hcr) HBI.out.2.1 HBI.out.2.2 (by rw [hlen]; exact hown') hgrow
      have HAP := Shut.mk hap
      have HR2 : Shut (kws (ts ++ [KS.mk (some ⟨gr, 0, none⟩) (r1 ++ r2) cr]) = (besideU K L).take (i + 1)) := ⟨by rw [kws_snoc, hrw.out, HST.out, HI.out]⟩
      clear hap hown' hgrow hown HBI HROW hrw hlen hne
      go_wp2_with fail
      go_roundw
      case rel => exact ⟨_, v', rfl, by rw [List.length_append, List.length_singleton, ← HI.out]; go_num, by rw [List.length_append, List.length_singleton, ← HI.out]; omega, ⟨by rw [List.length_append, List.length_singleton, ← HI.out]; exact HR2.out⟩, HAP⟩
      case measure => simp [intOf]; omega
    · have e : i = n := by omega
      have hlt' : ¬ (i : Int) < (n : Int) := by omega
      have HF := Shut.mk (hbi.out.fin (X := besideU K L) (by
        rw [hrw.out, List.take_of_length_le (by rw [besideU_len, HK.out.1, ← HI.out]; omega)]))
      have HB := Shut.mk hbi.out.bel
      clear e hbi hrw
      go_wp2_with fail
      go_ret
      exact ⟨v, rfl, HF.out, HB.out⟩
/-- Where the making of the right halves stands. -/
structure HI2 (w wr : World) (v : Value) (ts : List KS) : Prop where
  own : wr.ownsRow w.heap.size 82 1 v ts.length (kvs ts)
  rows : ∀ s ∈ ts, RRow w s.loc (ucs s.row) 0 w.heap.size
  bel : Below w.heap.size w wr
def FromPost (K : List (List B8)) (w : World) (e : Ending) (w' : World) : Prop := ∃ v, e = .returned v ∧ KSee w' v K 0 w'.heap.size ∧ Below w.heap.size w w'
theorem HI2.fin {w wr : World} {v : Value} {ts : List KS} {K : List (List B8)} (h : HI2 w wr v ts) (hK : kws ts = K) (hp : 0 < ts.length) : KSee wr v K 0 wr.heap.size := by
  obtain ⟨g, cap, e, hc⟩ := own_at h.own hp
  have hown := h.own
  rw [e] at hown
  have hs := h.bel.size
  refine ⟨_, cap, ts, e, hK, RRow.of_wcells (own_wcells hown) (Nat.zero_le _) (own_wcells hown).1, fun s hs' => ?_⟩
  exact ((h.rows s hs').below h.bel).wide (Nat.le_refl _) hs
set_option maxRecDepth 100000 in
set_option maxHeartbeats 4000000 in
theorem implFrom (n B g cap : Nat) (ss : List KS) (w : World) (h : KX w B g ss) (hn : ss.length = n) (hr : ∀ i, i < n → ((kws ss).getD i []).length = n + n) (hn1 : 1 ≤ n) (h8 : n ≤ 8) :
    Calls Try.prog 74 #[.slice (some ⟨g, 0, none⟩) n cap, .int .i64 (n : Int)] w fun e w' => FromPost (halfU n (kws ss)) w e w' := by
  obtain ⟨i0, hi0, hz0, hz1, hz2⟩ := info_parts infoRowB
  have HH := Shut.mk h
  have HN : Hid (ss.length = n) := hn
  have HR := Shut.mk hr
  clear h hn hr
  go_enter Try.func74, Try.ntmps74
  go_wp2_with fail
  go_loopw [5, 10] (fun v i wr => ∃ (ts : List KS) (vv : Value), vv = v ∧ i = .int .i64 (ts.length : Nat) ∧ ts.length ≤ n ∧ Shut (kws ts = (halfU n (kws ss)).take ts.length) ∧ Shut (HI2 w wr vv ts)) (fun _ i _ => n - (intOf i).toNat)
  case atStart => exact ⟨[], _, rfl, rfl, by simp, ⟨rfl⟩, ⟨⟨World.ownsRow_nil _ _ _ _, by simp, Below.refl _ _⟩⟩⟩
  case round =>
    obtain ⟨ts, v, rfl, rfl, hk, hrw, hbi⟩ := hrel
    obtain ⟨wo, rfl⟩ : ∃ wo, wo = wr := ⟨_, rfl⟩
    obtain ⟨i, hie⟩ : ∃ i, i = ts.length := ⟨_, rfl⟩
    have HI : Hid (i = ts.length) := hie
    rw [← hie] at hk ⊢
    clear hie
    by_cases hlt : i < n
    · have hlt' : (i : Int) < (n : Int) := by omega
      have k0 : (0 : Int) ≤ (i : Int) := by omega
      have hsz := hbi.out.bel.size
      obtain ⟨b, cp, q1, q2, q3, q4, q5, q6, d1, z1, q7, ev1⟩ := HH.out.at (i := i) (by have := HN.out; omega) (HR.out i hlt)
      have hgl := HH.out.out.1
      have d2 := (hbi.out.bel.cell (p := ⟨g, i, none⟩) hgl).trans d1
      have hlen := HR.out i hlt
      have HST := Shut.mk (show (halfU n (kws ss)).take (i + 1) = (halfU n (kws ss)).take i ++ [((kws ss).getD i []).drop n] by
        have hi3 : i < (kws ss).length := by rw [kws_len]; have := HN.out; omega
        have hi2 : i < (halfU n (kws ss)).length := by unfold halfU; rw [List.length_map]; exact hi3
        rw [List.take_succ_eq_append_getElem hi2]
        simp [halfU, List.getD, hi3])
      generalize (kws ss).getD i [] = r at *
      have HQ7 := Shut.mk q7
      have HLN : Hid (r.length = n + n) := hlen
      have hown := hbi.out.own
      have n0 : (0 : Int) ≤ (n : Int) := by omega
      have n2 : (n : Int) ≤ (n : Int) + (n : Int) := by omega
      have n3 : (n : Int) + (n : Int) ≤ (cp : Int) := by omega
      clear q1 q2 q7 ev1 z1 hlen d1
      go_wp2_with (at_builtin; refine wpList_append_own _ rfl _ _ 67 rfl w.heap.size 82 i0 (.slice none 0 0) 1 24 Try.underlying67 hi0 hz0 hz1 hz2 rfl (by decide) _ _ _ rfl (hown.alloc _) ⟨wo.heap.size, 0, none⟩ 1 1 [.slice (some ⟨b, n, none⟩) n (cp - n)] rfl rfl (cell_one_new _ _ _) ?c2 ?c3 ?c4 ?c5 ?_)
      case c2 => first | rfl | (intro u hu; simp at hu; subst hu; rfl)
      case c3 => unfold maxLen; have := HI.out; omega
      case c4 => have := HI.out; omega
      case c5 => first | omega | (simp; omega)
      intro v' w6 hown' hgrow _
      have hdl : (r.drop n).length = n := by rw [List.length_drop, HLN.out]; omega
      have hap : HI2 w w6 v' (ts ++ [KS.mk (some ⟨b, n, none⟩) (r.drop n) (cp - n)]) := by
        refine ⟨?_, fun s hs => ?_, (hbi.out.bel.alloc hsz (.cells #[.slice (some ⟨b, n, none⟩) n (cp - n)] 82)).grown hgrow (by simp; omega) (fun j hj => (hown.lt j hj).1)⟩
        · have e : kvs (ts ++ [KS.mk (some ⟨b, n, none⟩) (r.drop n) (cp - n)]) = kvs ts ++ [.slice (some ⟨b, n, none⟩) n (cp - n)] := by simp only [kvs, List.map_append, List.map_cons, List.map_nil, ksv, hdl]
          rw [e, List.length_append]
          exact hown'
        · rcases List.mem_append.1 hs with h1 | h1
          · exact hbi.out.rows s h1
          · simp at h1
            subst h1
            intro _
            refine ⟨b, n, rfl, Nat.zero_le _, q5, q5, fun j u hj => ?_⟩
            have hj' : j < (r.drop n).length := by have := (List.getElem?_eq_some_iff.1 hj).1; rwa [ucs_len] at this
            rw [ucs_get _ j hj'] at hj
            have := (HQ7.out.2 (n + j) _ (ucs_get r (n + j) (by have := HLN.out; omega))).1
            rw [this, ← hj]
            simp [List.getD]
      have HAP := Shut.mk hap
      have HR2 : Shut (kws (ts ++ [KS.mk (some ⟨b, n, none⟩) (r.drop n) (cp - n)]) = (halfU n (kws ss)).take (i + 1)) := ⟨by rw [kws_snoc, hrw.out, HST.out, HI.out]⟩
      clear hap hown' hgrow hown hbi hrw hdl
      go_wp2_with fail
      go_roundw
      case rel => exact ⟨_, v', rfl, by rw [List.length_append, List.length_singleton, ← HI.out]; go_num, by rw [List.length_append, List.length_singleton, ← HI.out]; omega, ⟨by rw [List.length_append, List.length_singleton, ← HI.out]; exact HR2.out⟩, HAP⟩
      case measure => simp [intOf]; omega
    · have e : i = n := by omega
      have hlt' : ¬ (i : Int) < (n : Int) := by omega
      have HF := Shut.mk (hbi.out.fin (K := halfU n (kws ss)) (by
        rw [hrw.out, List.take_of_length_le (by unfold halfU; rw [List.length_map, kws_len, ← HI.out]; have := HN.out; omega)]) (by have := HI.out; omega))
      have HB := Shut.mk hbi.out.bel
      clear e hbi hrw
      go_wp2_with fail
      go_ret
      exact ⟨v, rfl, HF.out, HB.out⟩
end Go.Proofs.Ytdlgailodhlbmaa
/- PrN: The program's own InvM. -/
namespace Go.Proofs.Ytdlgailodhlbmaa
open Go.RowKit
open W (B8 Mx)
attribute [local go_sem ↓] Go.wp_at_zero Go.wp_at_succ
attribute [local irreducible] W.gm W.xs W.mm W.gi matOk invX

def InverseP (n : Nat) (X : List (List Int)) (w : World) (e : Ending) (w' : World) : Prop :=
  Below w.heap.size w w' ∧ ((∃ v K, e = .returned (.tuple #[v, .bool true]) ∧ KSee w' v (halfU n K) 0 w'.heap.size ∧ PuK n n (mx X) K) ∨ (e = .returned (.tuple #[.slice none 0 0, .bool false]) ∧ ¬ ∃ Y, IsInv X Y))
theorem toBs_row {X : List (List Int)} (h : matOk X = true) {i : Nat} (hi : i < X.length) : ((toBs X).getD i []).length = colsOf X := by
  have hi' : i < (toBs X).length := by rw [toBs_len]; exact hi
  have e : (toBs X).getD i [] = (toBs X)[i] := by simp [List.getD, hi']
  rw [e]
  exact toBs_rows h _ (List.getElem_mem hi')
theorem solv_start {n : Nat} {X : List (List Int)} {w : World} {v : Value} {lo hi : Nat} (h : KAns w v (besideU (toBs X) (onesU 1#8 n)) lo hi) (hX : matOk X = true) (hn : X.length = n) (hc : colsOf X = n) (hp : 1 ≤ n) : ∃ g cap ss, v = .slice (some ⟨g, 0, none⟩) n cap ∧ Solv n 0 (mx X) w w lo g ss := by
  obtain ⟨a, cap, ss, rfl, hr, _, q⟩ := h
  have hl : ss.length = n := by rw [← kws_len, hr, besideU_len, toBs_len]; exact hn
  rcases q with rfl | ⟨g, rfl, hm⟩
  · simp at hl; omega
  · refine ⟨g, cap, ss, by rw [hl], hl, hm.kx, ?_, Below.refl _ _⟩
    rw [hr, ← lf_toBs]
    exact PuK.start (by rw [toBs_len]; exact hn) (fun i hi => by rw [toBs_row hX (by omega)]; exact hc)
set_option maxRecDepth 100000 in
set_option maxHeartbeats 4000000 in
theorem implInverseM (n b1 o1 c1 : Nat) (X : List (List Int)) (w : World) (h1 : KAt w b1 o1 (toBs X) n) (hX : matOk X = true) (hn : X.length = n) (hc : colsOf X = n) (hn1 : 1 ≤ n) (hn8 : n ≤ 8) :
    Calls Try.prog 56 #[.slice (some ⟨b1, o1, none⟩) n c1, .int .u8 1] w fun e w' => InverseP n X w e w' := by
  have H1 := Shut.mk h1
  have HX := Shut.mk (And.intro hX (And.intro hn hc))
  have HC := Shut.mk (fun W => implOnes 1#8 n W hn1 hn8)
  clear h1 hX hn hc
  go_enter Try.func56, Try.ntmps56
  go_wp2_with fail
  refine (HC.out _).mono ?_
  rintro e w1 ⟨v1, rfl, ha1, hb1⟩
  obtain ⟨b2, o2, c2, rfl, k2⟩ := ha1.see.kat (m := n) (by simp [onesU]; omega) (fun r hr => by obtain ⟨i, _, rfl⟩ := List.mem_map.1 hr; exact oneU_len _ _ _) (by omega)
  have HB1 := Shut.mk hb1
  have HC2 := Shut.mk (implBeside (toBs X) (onesU 1#8 n) b1 o1 c1 b2 o2 c2 n w1 (H1.out.below hb1) k2 (by rw [toBs_len]; exact HX.out.2.1) (by simp [onesU]) (fun i hi => by rw [toBs_row HX.out.1 (by rw [HX.out.2.1]; exact hi)]; exact HX.out.2.2) (fun i hi => by rw [onesU_at hi, oneU_len]) hn1 hn8)
  rw [show (onesU 1#8 n).length = n by simp [onesU]]
  clear ha1 hb1 k2 HC
  go_wp2_with fail
  refine HC2.out.mono ?_
  rintro e w2 ⟨v2, rfl, ha2, hb2⟩
  obtain ⟨g, cap, ss, rfl, hS⟩ := solv_start ha2 HX.out.1 HX.out.2.1 HX.out.2.2 hn1
  have hs2 := hb2.size
  have hs1 := HB1.out.size
  have HB2 := Shut.mk (HB1.out.trans (hb2.mono hs1))
  have HC3 := Shut.mk (implSolve n w1.heap.size g cap X ss w2 hS HX.out.2.1 hn8 hs2)
  clear ha2 hb2 HC2 hS
  go_wp2_with fail
  refine HC3.out.mono ?_
  rintro e w3 ⟨hb3, ⟨rfl, ss3, hS3⟩ | ⟨rfl, hno⟩⟩
  · have HB3 := Shut.mk (HB2.out.trans (hb3.mono hs1))
    have HC4 := Shut.mk (implFrom n w1.heap.size g cap ss3 w3 hS3.kx hS3.len hS3.pu.row hn1 hn8)
    have HP := Shut.mk hS3.pu
    clear hb3 hS3 HC3
    go_wp2_with fail
    refine HC4.out.mono ?_
    rintro e w4 ⟨v4, rfl, hk4, hb4⟩
    have HR := Shut.mk (show InverseP n X w (.returned (.tuple #[v4, .bool true])) w4 from ⟨HB3.out.trans (hb4.mono HB3.out.size), .inl ⟨v4, _, rfl, hk4, HP.out⟩⟩)
    clear hk4 hb4 HC4
    go_wp2_with fail
    go_ret2
    exact HR.out
  · have HB3 := Shut.mk (HB2.out.trans (hb3.mono hs1))
    have HNO := Shut.mk hno
    clear hb3 hno HC3
    go_wp2_with fail
    go_ret2
    exact ⟨HB3.out, .inr ⟨rfl, HNO.out⟩⟩
set_option maxRecDepth 100000 in
set_option maxHeartbeats 4000000 in
theorem implInvM (w : World) (v : Value) (X : List (List Int)) (lo hi : Nat) (hv : MSee w v X lo hi) (fX : MFit X) :
    Calls Try.prog 23 #[v] w fun e w' => InvPost X w e w' := by
  have H1 := Shut.mk (implMatrixOk w v X lo hi hv fX)
  have HV := Shut.mk hv
  by_cases hX : matOk X = true
  · rw [hX] at H1
    obtain ⟨b, off, cap, loc, cp, rfl, lb, d⟩ := hv.head hX
    obtain ⟨⟨x1, x2⟩, ⟨x3, x4⟩, _⟩ := matOk_iff hX
    have n0 : (0 : Int) < (X.length : Int) := by omega
    have D := Shut.mk d
    by_cases hcol : colsOf X = X.length
    · have HOK := Shut.mk (And.intro hX hcol)
      rw [hcol] at D
      have e1 : ((X.length : Int) != (X.length : Int)) = false := by simp
      clear hv fX d hX hcol
      go_enter Try.func23, Try.ntmps23
      go_wp2_with fail
      refine H1.out.mono ?_
      rintro e w1 ⟨rfl, hb1⟩
      have HB1 := Shut.mk hb1
      have d1 := (hb1.cell (p := ⟨b, off, none⟩) lb).trans D.out
      have HC1 := Shut.mk (implMatrixOf w1 _ X lo hi (HV.out.below hb1) (matOk_ne HOK.out.1).1 (matOk_ne HOK.out.1).2)
      clear hb1
      go_wp2_with fail
      refine HC1.out.mono ?_
      rintro e w2 ⟨v2, rfl, ha2, hb2⟩
      obtain ⟨b2, o2, c2, rfl, k2⟩ := ha2.see.kat (by rw [toBs_len]; omega) (toBs_rows HOK.out.1) (by omega)
      have HB2 := Shut.mk (HB1.out.trans (hb2.mono HB1.out.size))
      have HC2 := Shut.mk (implInverseM X.length b2 o2 c2 X w2 (by rw [← HOK.out.2]; exact k2) HOK.out.1 rfl HOK.out.2 x1 x2)
      rw [toBs_len]
      clear ha2 hb2 k2 HC1 d1
      go_wp2_with fail
      refine HC2.out.mono ?_
      rintro e w3 ⟨hb3, ⟨v3, K, rfl, hk3, hp3⟩ | ⟨rfl, hno⟩⟩
      · have HB3 := Shut.mk (HB2.out.trans (hb3.mono HB2.out.size))
        have hinv := hp3.done HOK.out.1 rfl HOK.out.2
        have HINV := Shut.mk (invX_yes hinv)
        have hlK := hp3.len
        have HC3 := Shut.mk (implIntsOf w3 v3 (halfU X.length K) _ _ hk3 (fun r hr => by
          obtain ⟨r', hr', rfl⟩ := List.mem_map.1 hr
          obtain ⟨i, hi, rfl⟩ := List.mem_iff_getElem.1 hr'
          have e : K.getD i [] = K[i] := by simp [List.getD, hi]
          have := hp3.row i (by omega)
          rw [e] at this
          have hl : (K[i].drop X.length).length = X.length := by rw [List.length_drop, this]; omega
          exact ⟨fun e => by rw [e] at hl; simp at hl; omega, by omega⟩) (by unfold halfU; rw [List.length_map]; omega))
        clear hb3 hk3 hp3 hinv HC2 hlK
        go_wp2_with fail
        refine HC3.out.mono ?_
        rintro e w4 ⟨v4, rfl, ha4, hb4⟩
        have HR := Shut.mk (show InvPost X w (.returned (.tuple #[v4, .bool true])) w4 from ⟨v4, by rw [HINV.out], by rw [HINV.out]; exact ha4.broad HB3.out.size (Nat.le_refl _), HB3.out.trans (hb4.mono HB3.out.size)⟩)
        clear ha4 hb4 HC3
        go_wp2_with fail
        go_ret2
        exact HR.out
      · have HB3 := Shut.mk (HB2.out.trans (hb3.mono HB2.out.size))
        have HINV := Shut.mk (invX_no hno)
        have HC3 := Shut.mk (implIntsOf w3 (.slice none 0 0) [] 0 0 ⟨none, 0, [], rfl, rfl, KR.nil _ _ _ _⟩ (fun r hr => by simp at hr) (by simp))
        clear hb3 hno HC2
        go_wp2_with fail
        refine HC3.out.mono ?_
        rintro e w4 ⟨v4, rfl, ha4, hb4⟩
        have HR := Shut.mk (show InvPost X w (.returned (.tuple #[v4, .bool false])) w4 from ⟨v4, by rw [HINV.out], by rw [HINV.out]; exact ha4.broad HB3.out.size (Nat.le_refl _), HB3.out.trans (hb4.mono HB3.out.size)⟩)
        clear ha4 hb4 HC3
        go_wp2_with fail
        go_ret2
        exact HR.out
    · have HINV := Shut.mk (invX_no (X := X) (fun ⟨_, h⟩ => hcol h.2.1))
      have e1 : ((X.length : Int) != (colsOf X : Int)) = true := by rw [bne_iff_ne]; omega
      obtain ⟨c, hc⟩ : ∃ c, c = colsOf X := ⟨_, rfl⟩
      rw [← hc] at D e1
      clear hv fX d hX hcol hc
      go_enter Try.func23, Try.ntmps23
      go_wp2_with fail
      refine H1.out.mono ?_
      rintro e w1 ⟨rfl, hb1⟩
      have HB1 := Shut.mk hb1
      have d1 := (hb1.cell (p := ⟨b, off, none⟩) lb).trans D.out
      clear hb1
      go_wp2_with fail
      go_ret2
      exact invPost_no HINV.out rfl HB1.out
  · have hX' : matOk X = false := by simpa using hX
    rw [hX'] at H1
    have HINV := Shut.mk (invX_no (X := X) (fun ⟨_, h⟩ => hX h.1))
    clear hv fX hX hX'
    go_enter Try.func23, Try.ntmps23
    go_wp2_with fail
    refine H1.out.mono ?_
    rintro e w1 ⟨rfl, hb1⟩
    have HB1 := Shut.mk hb1
    clear hb1
    go_wp2_with fail
    go_ret2
    exact invPost_no HINV.out rfl HB1.out
end Go.Proofs.Ytdlgailodhlbmaa
/- CdF: What the laws want of the program, all together: schemas. -/
namespace Go.Proofs.Ytdlgailodhlbmaa
theorem schAll : SchAll := ⟨implSchemaOf, implCodeOf, implInvM⟩
end Go.Proofs.Ytdlgailodhlbmaa
