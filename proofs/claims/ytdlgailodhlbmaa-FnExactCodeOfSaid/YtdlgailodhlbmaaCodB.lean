/- The walk of the model's CodeOf. -/
import Derived.Test.YtdlgailodhlbmaaCodA
import Derived.Deep.AppendLies
namespace Go.Proofs.Ytdlgailodhlbmaa
open Go.RowKit
open W (B8 Mx)
attribute [local go_sem ↓] Go.wp_at_zero Go.wp_at_succ
attribute [local irreducible] W.gm W.xs W.mm W.gi mx matOk

/-- The rows of an answer, as they are cells. -/
theorem news_rows {w : World} {g : Nat} {ss : List SR} (h : WCells w g (svs ss)) : ∀ j u, (svs ss)[j]? = some u → w.cell? ((⟨g, 0, none⟩ : Addr).add j) = some u := fun j u hj => by
  have e : (⟨g, 0, none⟩ : Addr).add j = ⟨g, j, none⟩ := by cases j <;> simp [Addr.add]
  rw [e]; exact (h.2 j u hj).1
theorem one_rows' (ss : List SR) : ∀ u ∈ svs ss, u.oneCell' = true := fun u hu => by
  obtain ⟨x, _, rfl⟩ := List.mem_map.1 hu
  rfl
/-- Rows that were answered are taken over by append. -/
theorem BI.over {w w1 w2 : World} {v1 v' : Value} {ss : List SR} {g : Nat} (hw : MW w1 g ss w.heap.size w1.heap.size) (hne : ∀ s ∈ ss, s.row ≠ []) (hb : Below w.heap.size w w1)
    (hv : ∀ q, v1.ownBlock = some q → w.heap.size ≤ q ∧ ∀ s ∈ ss, s.loc ≠ some ⟨q, 0, none⟩) (hown : w2.ownsRow w.heap.size 32 1 v' ss.length (svs ss)) (hg : w1.grownBy w2 v1.ownBlock) : BI w w2 v' ss := by
  refine ⟨hown, fun s hs => ?_, hw.apart, hb.grown hg hb.size (fun q hq => (hv q hq).1)⟩
  obtain ⟨b, e, h1, h2, h3, h4, h5⟩ := hw.rows s hs
  refine ⟨b, e, h1, ⟨Nat.lt_of_lt_of_le h4.1 hg.size, fun i u hu => ?_⟩, h5, hne s hs⟩
  have hbk : w2.heap[b]? = w1.heap[b]? := hg.block b h4.1 (fun q => by
    have := (hv b q.symm).2 s hs
    exact this e)
  exact ⟨(World.cell?_of_block (a := ⟨b, i, none⟩) hbk).trans (h4.2 i u hu).1, (World.frozen?_of_block (a := ⟨b, i, none⟩) hbk).trans (h4.2 i u hu).2⟩
theorem codeX_take {s : Int} (h : schOk s = true) {i : Nat} (hi : i < schM s) : (codeX s).take (schK s + i + 1) = (codeX s).take (schK s + i) ++ [codeRow (schK s) i] := by
  have hl : schK s + i < (codeX s).length := by rw [codeX_len h]; omega
  rw [List.take_succ_eq_append_getElem hl]
  congr 2
  simp only [codeX_yes h]
  rw [List.getElem_append_right (by simp)]
  simp
theorem codeX_start {s : Int} (h : schOk s = true) : (codeX s).take (schK s) = oneX (schK s : Nat) := by
  obtain ⟨b1, b2, _, _⟩ := sch_bounds h
  rw [codeX_yes h, List.take_append_of_le_length (by simp), List.take_of_length_le (by simp)]
  unfold oneX
  rw [if_pos (by omega)]; rfl
set_option maxRecDepth 100000 in
set_option maxHeartbeats 4000000 in
theorem specCodeOf (s : Int) (w : World) : Calls Try.prog 21 #[.int .i64 s] w fun e w' => MPost (codeX s) w e w' := by
  have HS := Shut.mk (fun W => specSchema s W)
  cases h : schOk s with
  | false =>
    rw [codeX_no h]
    unfold SchPost at HS
    rw [h] at HS
    clear h
    go_enter Try.func21, Try.ntmps21
    go_wp2_with fail
    refine (HS.out _).mono ?_
    rintro e w1 ⟨rfl, rfl⟩
    go_wp2_with fail
    go_ret
    exact ⟨_, rfl, MAns.empty _ _ _ _ _, (Below.refl _ _).alloc (Nat.le_refl _) _⟩
  | true =>
    obtain ⟨i0, hi0, hz0, hz1, hz2⟩ := info_parts infoRow
    obtain ⟨i1, hi1, hy0, hy1, hy2⟩ := info_parts infoIntG
    unfold SchPost at HS
    rw [h] at HS
    obtain ⟨b1, b2, b3, b4⟩ := sch_bounds h
    have HSTA := Shut.mk (codeX_start h)
    have HTK := Shut.mk (fun i (hi : i < schM s) => codeX_take h hi)
    have HLEN := Shut.mk (codeX_len h)
    clear h
    generalize schK s = k at *
    generalize schM s = m at *
    generalize codeX s = C at *
    have HONE := Shut.mk (fun W => specOneM (k : Int) W)
    have hal : Below w.heap.size w (w.alloc (.cells #[] 32)) := (Below.refl _ _).alloc (Nat.le_refl _) _
    have HAL := Shut.mk hal
    have HOWN0 := Shut.mk (World.ownsRow_made (base := w.heap.size) (e := 32) (size := 1) w #[] 0 (Nat.le_refl _) (by decide) rfl)
    clear hal
    go_enter Try.func21, Try.ntmps21
    go_wp2_with fail
    refine (HS.out _).mono ?_
    rintro e w0 ⟨rfl, rfl⟩
    go_wp2_with fail
    refine (HONE.out _).mono ?_
    rintro e w1 ⟨v1, rfl, ha1, hb1⟩
    have hlo : (oneX (k : Int)).length = k := by unfold oneX; rw [if_pos (by omega)]; simp
    obtain ⟨a1, cap1, ss, rfl, hr1, hc1, q1⟩ := ha1
    have hls : ss.length = k := by rw [← rws_len, hr1, hlo]
    obtain ⟨g, rfl, hm1⟩ : ∃ g, a1 = some ⟨g, 0, none⟩ ∧ MW w1 g ss (w0.alloc (.cells #[] 32)).heap.size w1.heap.size := by
      rcases q1 with rfl | q1
      · simp at hls; omega
      · exact q1
    have hown0 : w1.ownsRow w0.heap.size 32 1 (.slice (some ⟨w0.heap.size, 0, none⟩) 0 0) 0 [] := HOWN0.out.kept (row := none) ⟨hb1.os, hb1.tape, hb1.output, hb1.size, fun k hk _ => hb1.block k hk⟩ (Classical.em _)
    have HNEWS := Shut.mk (news_rows hm1.out)
    have HM1 := Shut.mk hm1
    have HB1 := Shut.mk (HAL.out.trans (hb1.mono HAL.out.size))
    have HR1 := Shut.mk hr1
    have HLS : Hid (ss.length = k) := hls
    rw [hls]
    clear q1 hm1 hb1 hr1 hls hlo hc1 HAL HOWN0 HONE
    go_wp2_with (at_builtin; refine wpList_append_own _ rfl _ _ 36 rfl w0.heap.size 32 i0 (.slice none 0 0) 1 24 Try.underlying36 hi0 hz0 hz1 hz2 rfl (by decide) _ 0 [] rfl hown0 ⟨g, 0, none⟩ k cap1 (svs ss) rfl ?c1 HNEWS.out (one_rows' ss) ?c3 ?c4 ?c5 ?_)
    case c1 => rw [svs_len, Nat.mul_one]; exact HLS.out
    case c3 => unfold maxLen; omega
    case c4 => omega
    case c5 => exact HB1.out.size
    intro v2 w2 hown2 hg2 _
    have hbi : BI w0 w2 v2 ss := BI.over (HM1.out.wide (by simp) (Nat.le_refl _)) (fun s hs => by
        have : s.row ∈ oneX (k : Int) := by rw [← HR1.out]; exact List.mem_map.2 ⟨s, hs, rfl⟩
        unfold oneX at this
        rw [if_pos (by omega)] at this
        obtain ⟨i, _, hi⟩ := List.mem_map.1 this
        intro e0
        have hl := oneRow_len (k : Int).toNat i
        rw [hi, e0] at hl
        simp at hl; omega) HB1.out (fun q hq => by
        have : q = w0.heap.size := by simp [Value.ownBlock] at hq; exact hq.symm
        subst this
        refine ⟨Nat.le_refl _, fun s hs e0 => ?_⟩
        obtain ⟨b, e1, h1, _⟩ := HM1.out.rows s hs
        have : b = w0.heap.size := congrArg Addr.block (Option.some.inj (e1.symm.trans e0))
        simp at h1; omega) (by rw [HLS.out]; exact hown2) hg2
    have HBI := Shut.mk hbi
    have HRW : Shut (rws ss = C.take (k + 0)) := ⟨by rw [HR1.out, Nat.add_zero, HSTA.out]⟩
    clear hbi hown2 hg2 hown0 HM1 HR1 HSTA HNEWS HB1
    go_wp2_with fail
    go_loopw [6, 7] (fun v ii wr => ∃ (i : Nat) (ts : List SR) (vv : Value), vv = v ∧ ii = .int .i64 (i : Nat) ∧ i ≤ m ∧ ts.length = k + i ∧ Shut (rws ts = C.take (k + i)) ∧ Shut (BI w0 wr vv ts)) (fun _ ii _ => m - (intOf ii).toNat)
    case atStart => exact ⟨0, ss, _, rfl, rfl, Nat.zero_le _, HLS.out, HRW, HBI⟩
    case round =>
      clear HBI HRW HLS
      obtain ⟨i, ts, v, rfl, rfl, him, htl, hrw, hbi⟩ := hrel
      obtain ⟨wo, rfl⟩ : ∃ wo, wo = wr := ⟨_, rfl⟩
      have HTL : Hid (ts.length = k + i) := htl
      clear htl
      by_cases hlt : i < m
      · have hlt' : (i : Int) < (m : Int) := by omega
        have k0 : (0 : Int) ≤ (i : Int) := by omega
        have HST := Shut.mk (HTK.out i hlt)
        have HBA := Shut.mk (show Below wo.heap.size wo (wo.alloc (.cells #[] 3)) from (Below.refl _ _).alloc (Nat.le_refl _) _)
        have HOA : Shut ((wo.alloc (.cells #[] 3)).ownsRow wo.heap.size 3 1 (.slice (some ⟨wo.heap.size, 0, none⟩) 0 0) 0 (ics ((codeRow k i).take 0))) := ⟨World.ownsRow_made wo #[] 0 (Nat.le_refl _) (by decide) rfl⟩
        go_wp2_with fail
        go_loopw [8, 9] (fun rv jj wq => ∃ (j : Nat) (rr : Value), rr = rv ∧ jj = .int .i64 j ∧ j ≤ k ∧ Shut (wq.ownsRow wo.heap.size 3 1 rr j (ics ((codeRow k i).take j))) ∧ Shut (Below wo.heap.size wo wq)) (fun _ jj _ => k - (intOf jj).toNat)
        case atStart => exact ⟨0, _, rfl, rfl, by omega, HOA, HBA⟩
        case round =>
          clear HOA HBA
          obtain ⟨j, rr, rfl, rfl, hjk, hown, hbq⟩ := hrel
          obtain ⟨wi, rfl⟩ : ∃ wi, wi = wr := ⟨_, rfl⟩
          by_cases hjl : j < k
          · have hjl' : (j : Int) < (k : Int) := by omega
            have j0 : (0 : Int) ≤ (j : Int) := by omega
            have hx : bits .xor .i64 ((k : Int) + (i : Int)) (j : Int) = (((k + i) ^^^ j : Nat) : Int) := by
              have := i64_xor (k + i) j (by omega) (by omega)
              rw [← this]; push_cast; rfl
            have hst : ics ((codeRow k i).take (j + 1)) = ics ((codeRow k i).take j) ++ [.int .i64 ((W.gi (g8 (((k + i) ^^^ j : Nat) : Int))).toNat : Int)] := by
              have hj2 : j < (codeRow k i).length := by rw [codeRow_len]; exact hjl
              rw [List.take_succ_eq_append_getElem hj2]
              simp [codeRow, ics]
            have HINV := Shut.mk (fun W => specInvG (((k + i) ^^^ j : Nat) : Int) W)
            generalize W.gi (g8 (((k + i) ^^^ j : Nat) : Int)) = G at *
            have HS2 := Shut.mk hst
            have hs3 := hbq.out.size
            generalize (((k + i) ^^^ j : Nat) : Int) = X at *
            clear hst
            go_wp2_with fail
            refine (HINV.out _).mono ?_
            rintro e w5 ⟨rfl, rfl⟩
            have hown3 := hown.out
            clear hown HINV
            go_wp2_with (at_builtin; refine wpList_append_own _ rfl _ _ 32 rfl wo.heap.size 3 i1 (.int .i64 0) 1 8 Try.underlying32 hi1 hy0 hy1 hy2 rfl (by decide) _ _ _ rfl (hown3.alloc _) ⟨w5.heap.size, 0, none⟩ 1 1 [.int .i64 (G.toNat : Int)] rfl rfl (cell_one_new _ _ _) ?c2 ?c3 ?c4 ?c5 ?_)
            case c2 => first | rfl | (intro u hu; simp at hu; subst hu; rfl)
            case c3 => unfold maxLen; omega
            case c4 => omega
            case c5 => first | omega | (simp; omega)
            intro v' w4 hown' hgrow _
            rw [← HS2.out] at hown'
            have Q1 := Shut.mk hown'
            have Q2 := Shut.mk ((hbq.out.alloc hs3 (.cells #[.int .i64 (G.toNat : Int)] 3)).grown hgrow (by simp; omega) (fun j hj => (hown3.lt j hj).1))
            clear hown' hgrow hown3 hbq
            go_wp2_with fail
            go_roundw
            case rel => exact ⟨j + 1, v', rfl, by go_num, by omega, Q1, Q2⟩
            case measure => simp [intOf]; omega
          · have e : j = k := by omega
            have hjl' : ¬ (j : Int) < (k : Int) := by omega
            have hown2 := hown.out
            rw [e, List.take_of_length_le (by rw [codeRow_len]; exact Nat.le_refl _)] at hown2
            obtain ⟨gr, cr, rfl, hcr⟩ := own_some hown2 (by omega)
            have hgr := hown2.lt gr rfl
            have HROW := Shut.mk (own_wcells hown2)
            have HBI := Shut.mk (show BI w0 wi v ts ∧ (∀ q, v.ownBlock = some q → q ≠ gr) ∧ ∀ s ∈ ts, s.loc ≠ some ⟨gr, 0, none⟩ from ⟨hbi.out.below hbq.out, fun q hq => by have := (hbi.out.own.lt q hq).2; omega, fun s hs e => by obtain ⟨b', e', _, q, _⟩ := hbi.out.rows s hs; have : b' = gr := congrArg Addr.block (Option.some.inj (e'.symm.trans e)); have := q.1; omega⟩)
            have hsi : wo.heap.size ≤ wi.heap.size := hbq.out.size
            have hso := hbi.out.bel.size
            have hgr1 := hgr.1
            have hown := HBI.out.1.own
            clear hown2 hbq hbi hgr e
            go_wp2_with (at_builtin; refine wpList_append_own _ rfl _ _ 36 rfl w0.heap.size 32 i0 (.slice none 0 0) 1 24 Try.underlying36 hi0 hz0 hz1 hz2 rfl (by decide) _ _ _ rfl (hown.alloc _) ⟨wi.heap.size, 0, none⟩ 1 1 [.slice (some ⟨gr, 0, none⟩) k cr] rfl rfl (cell_one_new _ _ _) ?c2 ?c3 ?c4 ?c5 ?_)
            case c2 => first | rfl | (intro u hu; simp at hu; subst hu; rfl)
            case c3 => unfold maxLen; have := HTL.out; omega
            case c4 => have := HTL.out; omega
            case c5 => first | omega | (simp; omega)
            intro v' w6 hown' hgrow _
            have hne : codeRow k i ≠ [] := fun e => by have := congrArg List.length e; rw [codeRow_len] at this; simp at this; omega
            have hap := HBI.out.1.append (cap := cr) (by omega) HROW.out hne (by rw [codeRow_len]; exact hcr) HBI.out.2.1 HBI.out.2.2 (by rw [codeRow_len]; exact hown') hgrow
            have HAP := Shut.mk hap
            have HR2 : Shut (rws (ts ++ [SR.mk (some ⟨gr, 0, none⟩) (codeRow k i) cr]) = C.take (k + (i + 1))) := ⟨by rw [rws_snoc, hrw.out, ← Nat.add_assoc, HST.out]⟩
            clear hap hown' hgrow hown HBI HROW hrw hne
            go_wp2_with fail
            go_roundw
            case rel => exact ⟨i + 1, _, v', rfl, by go_num, by omega, by rw [List.length_append, List.length_singleton, HTL.out]; omega, HR2, HAP⟩
            case measure => simp [intOf]; omega
      · have e : i = m := by omega
        have hlt' : ¬ (i : Int) < (m : Int) := by omega
        have HF := Shut.mk (hbi.out.fin (X := C) (by rw [hrw.out, List.take_of_length_le (by rw [HLEN.out]; omega)]))
        have HB := Shut.mk hbi.out.bel
        clear e hbi hrw
        go_wp2_with fail
        go_ret
        exact ⟨v, rfl, HF.out, HB.out⟩
end Go.Proofs.Ytdlgailodhlbmaa
