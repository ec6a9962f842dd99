/- Texts of ours, laid one behind the other: CodB, CodC, HcB, HsB, DrHs. -/
import Derived.Test.YtoaifodmjkhiiaaDoorPx8
import Derived.Deep.AppendLies
import Derived.Deep.OwnRows
import Derived.Deep.RegionLaw
/- CodB: The walk of the model's CodeOf. -/
namespace Go.Proofs.YtoaifodmjkhiiaaDoor
set_option maxRecDepth 100000
open Go.RowKit
open W (B8 Mx)
attribute [local go_sem ↓] Go.wp_at_zero Go.wp_at_succ
attribute [local irreducible] W.gm W.xs W.mm W.gi mx matOk

/-- The rows of an answer, as they are cells. -/
theorem news_rows {w : World} {g : Nat} {ss : List SR} (h : WCells w g (svs ss)) : ∀ j u, (svs ss)[j]? = some u → w.cell? ((⟨g, 0, none⟩ : Addr).add j) = some u := fun j u hj => by
  have e : (⟨g, 0, none⟩ : Addr).add j = ⟨g, j, none⟩ := by cases j <;> simp [Addr.add]
  rw [e]; exact (h.2 j u hj).1
theorem one_rows' (ss : List SR) : ∀ u ∈ svs ss, u.oneCell' = true := fun u hu => by
  obtain ⟨x, _, rfl⟩ := List.mem_map.1 hu
  rfl
/-- Rows that were answered are taken over by append. -/
theorem BI.over {w w1 w2 : World} {v1 v' : Value} {ss : List SR} {g : Nat} (hw : MW w1 g ss w.heap.size w1.heap.size) (hne : ∀ s ∈ ss, s.row ≠ []) (hb : Below w.heap.size w w1)
    (hv : ∀ q, v1.ownBlock = some q → w.heap.size ≤ q ∧ ∀ s ∈ ss, s.loc ≠ some ⟨q, 0, none⟩) (hown : w2.ownsRow w.heap.size 97 1 v' ss.length (svs ss)) (hg : w1.grownBy w2 v1.ownBlock) : BI w w2 v' ss := by
  refine ⟨hown, fun s hs => ?_, hw.apart, hb.grown hg hb.size (fun q hq => (hv q hq).1)⟩
  obtain ⟨b, e, h1, h2, h3, h4, h5⟩ := hw.rows s hs
  refine ⟨b, e, h1, ⟨Nat.lt_of_lt_of_le h4.1 hg.size, fun i u hu => ?_⟩, h5, hne s hs⟩
  have hbk : w2.heap[b]? = w1.heap[b]? := hg.block b h4.1 (fun q => by
    have := (hv b q.symm).2 s hs
    exact this e)
  exact ⟨(World.cell?_of_block (a := ⟨b, i, none⟩) hbk).trans (h4.2 i u hu).1, (World.frozen?_of_block (a := ⟨b, i, none⟩) hbk).trans (h4.2 i u hu).2⟩
theorem codeX_take {s : Int} (h : schOk s = true) {i : Nat} (hi : i < schM s) : (codeX s).take (schK s + i + 1) = (codeX s).take (schK s + i) ++ [codeRow (schK s) i] := by
  have hl : schK s + i < (codeX s).length := by rw [codeX_len h]; omega
  rw [List.take_succ_eq_append_getElem hl]
  congr 2
  simp only [codeX_yes h]
  rw [List.getElem_append_right (by simp)]
  simp
theorem codeX_start {s : Int} (h : schOk s = true) : (codeX s).take (schK s) = oneX (schK s : Nat) := by
  obtain ⟨b1, b2, _, _⟩ := sch_bounds h
  rw [codeX_yes h, List.take_append_of_le_length (by simp), List.take_of_length_le (by simp)]
  unfold oneX
  rw [if_pos (by omega)]; rfl
set_option maxRecDepth 100000 in
set_option maxHeartbeats 4000000 in
theorem specCodeOf (s : Int) (w : World) : Calls Tryd.prog 76 #[.int .i64 s] w fun e w' => MPost (codeX s) w e w' := by
  have HS := Shut.mk (fun W => specSchema s W)
  cases h : schOk s with
  | false =>
    rw [codeX_no h]
    unfold SchPost at HS
    rw [h] at HS
    clear h
    go_enter Tryd.func76, Tryd.ntmps76
    go_wp2_with fail
    refine (HS.out _).mono ?_
    rintro e w1 ⟨rfl, rfl⟩
    go_wp2_with fail
    go_ret
    exact ⟨_, rfl, MAns.empty _ _ _ _ _, (Below.refl _ _).alloc (Nat.le_refl _) _⟩
  | true =>
    obtain ⟨i0, hi0, hz0, hz1, hz2⟩ := info_parts infoRow
    obtain ⟨i1, hi1, hy0, hy1, hy2⟩ := info_parts infoIntG
    unfold SchPost at HS
    rw [h] at HS
    obtain ⟨b1, b2, b3, b4⟩ := sch_bounds h
    have HSTA := Shut.mk (codeX_start h)
    have HTK := Shut.mk (fun i (hi : i < schM s) => codeX_take h hi)
    have HLEN := Shut.mk (codeX_len h)
    clear h
    generalize schK s = k at *
    generalize schM s = m at *
    generalize codeX s = C at *
    have HONE := Shut.mk (fun W => specOneM (k : Int) W)
    have hal : Below w.heap.size w (w.alloc (.cells #[] 97)) := (Below.refl _ _).alloc (Nat.le_refl _) _
    have HAL := Shut.mk hal
    have HOWN0 := Shut.mk (World.ownsRow_made (base := w.heap.size) (e := 97) (size := 1) w #[] 0 (Nat.le_refl _) (by decide) rfl)
    clear hal
    go_enter Tryd.func76, Tryd.ntmps76
    go_wp2_with fail
    refine (HS.out _).mono ?_
    rintro e w0 ⟨rfl, rfl⟩
    go_wp2_with fail
    refine (HONE.out _).mono ?_
    rintro e w1 ⟨v1, rfl, ha1, hb1⟩
    have hlo : (oneX (k : Int)).length = k := by unfold oneX; rw [if_pos (by omega)]; simp
    obtain ⟨a1, cap1, ss, rfl, hr1, hc1, q1⟩ := ha1
    have hls : ss.length = k := by rw [← rws_len, hr1, hlo]
    obtain ⟨g, rfl, hm1⟩ : ∃ g, a1 = some ⟨g, 0, none⟩ ∧ MW w1 g ss (w0.alloc (.cells #[] 97)).heap.size w1.heap.size := by
      rcases q1 with rfl | q1
      · simp at hls; omega
      · exact q1
    have hown0 : w1.ownsRow w0.heap.size 97 1 (.slice (some ⟨w0.heap.size, 0, none⟩) 0 0) 0 [] := HOWN0.out.kept (row := none) ⟨hb1.os, hb1.tape, hb1.output, hb1.size, fun k hk _ => hb1.block k hk⟩ (Classical.em _)
    have HNEWS := Shut.mk (news_rows hm1.out)
    have HM1 := Shut.mk hm1
    have HB1 := Shut.mk (HAL.out.trans (hb1.mono HAL.out.size))
    have HR1 := Shut.mk hr1
    have HLS : Hid (ss.length = k) := hls
    rw [hls]
    clear q1 hm1 hb1 hr1 hls hlo hc1 HAL HOWN0 HONE
    go_wp2_with (at_builtin; refine wpList_append_own _ rfl _ _ 113 rfl w0.heap.size 97 i0 (.slice none 0 0) 1 24 Tryd.underlying113 hi0 hz0 hz1 hz2 rfl (by decide) _ 0 [] rfl hown0 ⟨g, 0, none⟩ k cap1 (svs ss) rfl ?c1 HNEWS.out (one_rows' ss) ?c3 ?c4 ?c5 ?_)
    case c1 => rw [svs_len, Nat.mul_one]; exact HLS.out
    case c3 => unfold maxLen; omega
    case c4 => omega
    case c5 => exact HB1.out.size
    intro v2 w2 hown2 hg2 _
    have hbi : BI w0 w2 v2 ss := BI.over (HM1.out.wide (by simp) (Nat.le_refl _)) (fun s hs => by
        have : s.row ∈ oneX (k : Int) := by rw [← HR1.out]; exact List.mem_map.2 ⟨s, hs, rfl⟩
        unfold oneX at this
        rw [if_pos (by omega)] at this
        obtain ⟨i, _, hi⟩ := List.mem_map.1 this
        intro e0
        have hl := oneRow_len (k : Int).toNat i
        rw [hi, e0] at hl
        simp at hl; omega) HB1.out (fun q hq => by
        have : q = w0.heap.size := by simp [Value.ownBlock] at hq; exact hq.symm
        subst this
        refine ⟨Nat.le_refl _, fun s hs e0 => ?_⟩
        obtain ⟨b, e1, h1, _⟩ := HM1.out.rows s hs
        have : b = w0.heap.size := congrArg Addr.block (Option.some.inj (e1.symm.trans e0))
        simp at h1; omega) (by rw [HLS.out]; exact hown2) hg2
    have HBI := Shut.mk hbi
    have HRW : Shut (rws ss = C.take (k + 0)) := ⟨by rw [HR1.out, Nat.add_zero, HSTA.out]⟩
    clear hbi hown2 hg2 hown0 HM1 HR1 HSTA HNEWS HB1
    go_wp2_with fail
    go_loopw [6, 7] (fun v ii wr => ∃ (i : Nat) (ts : List SR) (vv : Value), vv = v ∧ ii = .int .i64 (i : Nat) ∧ i ≤ m ∧ ts.length = k + i ∧ Shut (rws ts = C.take (k + i)) ∧ Shut (BI w0 wr vv ts)) (fun _ ii _ => m - (intOf ii).toNat)
    case atStart => exact ⟨0, ss, _, rfl, rfl, Nat.zero_le _, HLS.out, HRW, HBI⟩
    case round =>
      clear HBI HRW HLS
      obtain ⟨i, ts, v, rfl, rfl, him, htl, hrw, hbi⟩ := hrel
      obtain ⟨wo, rfl⟩ : ∃ wo, wo = wr := ⟨_, rfl⟩
      have HTL : Hid (ts.length = k + i) := htl
      clear htl
      by_cases hlt : i < m
      · have hlt' : (i : Int) < (m : Int) := by omega
        have k0 : (0 : Int) ≤ (i : Int) := by omega
        have HST := Shut.mk (HTK.out i hlt)
        have HBA := Shut.mk (show Below wo.heap.size wo (wo.alloc (.cells #[] 3)) from (Below.refl _ _).alloc (Nat.le_refl _) _)
        have HOA : Shut ((wo.alloc (.cells #[] 3)).ownsRow wo.heap.size 3 1 (.slice (some ⟨wo.heap.size, 0, none⟩) 0 0) 0 (ics ((codeRow k i).take 0))) := ⟨World.ownsRow_made wo #[] 0 (Nat.le_refl _) (by decide) rfl⟩
        go_wp2_with fail
        go_loopw [8, 9] (fun rv jj wq => ∃ (j : Nat) (rr : Value), rr = rv ∧ jj = .int .i64 j ∧ j ≤ k ∧ Shut (wq.ownsRow wo.heap.size 3 1 rr j (ics ((codeRow k i).take j))) ∧ Shut (Below wo.heap.size wo wq)) (fun _ jj _ => k - (intOf jj).toNat)
        case atStart => exact ⟨0, _, rfl, rfl, by omega, HOA, HBA⟩
        case round =>
          clear HOA HBA
          obtain ⟨j, rr, rfl, rfl, hjk, hown, hbq⟩ := hrel
          obtain ⟨wi, rfl⟩ : ∃ wi, wi = wr := ⟨_, rfl⟩
          by_cases hjl : j < k
          · have hjl' : (j : Int) < (k : Int) := by omega
            have j0 : (0 : Int) ≤ (j : Int) := by omega
            have hx : bits .xor .i64 ((k : Int) + (i : Int)) (j : Int) = (((k + i) ^^^ j : Nat) : Int) := by
              have := i64_xor (k + i) j (by omega) (by omega)
              rw [← this]; push_cast; rfl
            have hst : ics ((codeRow k i).take (j + 1)) = ics ((codeRow k i).take j) ++ [.int .i64 ((W.gi (g8 (((k + i) ^^^ j : Nat) : Int))).toNat : Int)] := by
              have hj2 : j < (codeRow k i).length := by rw [codeRow_len]; exact hjl
              rw [List.take_succ_eq_append_getElem hj2]
              simp [codeRow, ics]
            have HINV := Shut.mk (fun W => specInvG (((k + i) ^^^ j : Nat) : Int) W)
            generalize W.gi (g8 (((k + i) ^^^ j : Nat) : Int)) = G at *
            have HS2 := Shut.mk hst
            have hs3 := hbq.out.size
            generalize (((k + i) ^^^ j : Nat) : Int) = X at *
            clear hst
            go_wp2_with fail
            refine (HINV.out _).mono ?_
            rintro e w5 ⟨rfl, rfl⟩
            have hown3 := hown.out
            clear hown HINV
            go_wp2_with (at_builtin; refine wpList_append_own _ rfl _ _ 97 rfl wo.heap.size 3 i1 (.int .i64 0) 1 8 Tryd.underlying97 hi1 hy0 hy1 hy2 rfl (by decide) _ _ _ rfl (hown3.alloc _) ⟨w5.heap.size, 0, none⟩ 1 1 [.int .i64 (G.toNat : Int)] rfl rfl (cell_one_new _ _ _) ?c2 ?c3 ?c4 ?c5 ?_)
            case c2 => first | rfl | (intro u hu; simp at hu; subst hu; rfl)
            case c3 => unfold maxLen; omega
            case c4 => omega
            case c5 => first | omega | (simp; omega)
            intro v' w4 hown' hgrow _
            rw [← HS2.out] at hown'
            have Q1 := Shut.mk hown'
            have Q2 := Shut.mk ((hbq.out.alloc hs3 (.cells #[.int .i64 (G.toNat : Int)] 3)).grown hgrow (by simp; omega) (fun j hj => (hown3.lt j hj).1))
            clear hown' hgrow hown3 hbq
            go_wp2_with fail
            go_roundw
            case rel => exact ⟨j + 1, v', rfl, by go_num, by omega, Q1, Q2⟩
            case measure => simp [intOf]; omega
          · have e : j = k := by omega
            have hjl' : ¬ (j : Int) < (k : Int) := by omega
            have hown2 := hown.out
            rw [e, List.take_of_length_le (by rw [codeRow_len]; exact Nat.le_refl _)] at hown2
            obtain ⟨gr, cr, rfl, hcr⟩ := own_some hown2 (by omega)
            have hgr := hown2.lt gr rfl
            have HROW := Shut.mk (own_wcells hown2)
            have HBI := Shut.mk (show BI w0 wi v ts ∧ (∀ q, v.ownBlock = some q → q ≠ gr) ∧ ∀ s ∈ ts, s.loc ≠ some ⟨gr, 0, none⟩ from ⟨hbi.out.below hbq.out, fun q hq => by have := (hbi.out.own.lt q hq).2; omega, fun s hs e => by obtain ⟨b', e', _, q, _⟩ := hbi.out.rows s hs; have : b' = gr := congrArg Addr.block (Option.some.inj (e'.symm.trans e)); have := q.1; omega⟩)
            have hsi : wo.heap.size ≤ wi.heap.size := hbq.out.size
            have hso := hbi.out.bel.size
            have hgr1 := hgr.1
            have hown := HBI.out.1.own
            clear hown2 hbq hbi hgr e
            go_wp2_with (at_builtin; refine wpList_append_own _ rfl _ _ 113 rfl w0.heap.size 97 i0 (.slice none 0 0) 1 24 Tryd.underlying113 hi0 hz0 hz1 hz2 rfl (by decide) _ _ _ rfl (hown.alloc _) ⟨wi.heap.size, 0, none⟩ 1 1 [.slice (some ⟨gr, 0, none⟩) k cr] rfl rfl (cell_one_new _ _ _) ?c2 ?c3 ?c4 ?c5 ?_)
            case c2 => first | rfl | (intro u hu; simp at hu; subst hu; rfl)
            case c3 => unfold maxLen; have := HTL.out; omega
            case c4 => have := HTL.out; omega
            case c5 => first | omega | (simp; omega)
            intro v' w6 hown' hgrow _
            have hne : codeRow k i ≠ [] := fun e => by have := congrArg List.length e; rw [codeRow_len] at this; simp at this; omega
            have hap := HBI.out.1.append (cap := cr) (by omega) HROW.out hne (by rw [codeRow_len]; exact hcr) HBI.out.2.1 HBI.out.2.2 (by rw [codeRow_len]; exact hown') hgrow
            have HAP := Shut.mk hap
            have HR2 : Shut (rws (ts ++ [SR.mk (some ⟨gr, 0, none⟩) (codeRow k i) cr]) = C.take (k + (i + 1))) := ⟨by rw [rws_snoc, hrw.out, ← Nat.add_assoc, HST.out]⟩
            clear hap hown' hgrow hown HBI HROW hrw hne
            go_wp2_with fail
            go_roundw
            case rel => exact ⟨i + 1, _, v', rfl, by go_num, by omega, by rw [List.length_append, List.length_singleton, HTL.out]; omega, HR2, HAP⟩
            case measure => simp [intOf]; omega
      · have e : i = m := by omega
        have hlt' : ¬ (i : Int) < (m : Int) := by omega
        have HF := Shut.mk (hbi.out.fin (X := C) (by rw [hrw.out, List.take_of_length_le (by rw [HLEN.out]; omega)]))
        have HB := Shut.mk hbi.out.bel
        clear e hbi hrw
        go_wp2_with fail
        go_ret
        exact ⟨v, rfl, HF.out, HB.out⟩
end Go.Proofs.YtoaifodmjkhiiaaDoor
/- CodC: The walk of the model's Encode. -/
namespace Go.Proofs.YtoaifodmjkhiiaaDoor
set_option maxRecDepth 100000
open Go.RowKit
open W (B8 Mx)
attribute [local go_sem ↓] Go.wp_at_zero Go.wp_at_succ
attribute [local irreducible] W.gm W.xs W.mm W.gi mx matOk addB mulT appX codeX

theorem infoByteG : (Tryd.prog.info? 5).map (fun i => (i.zero, i.size, i.bytes)) = some (some (.int .u8 0), 1, 1) := by kernel_rfl
theorem make_zeros (n : Nat) (h : n ≤ 1000) (W : World) : (Instr.makeSlice 38 (.int .i64 (n : Int)) (.int .i64 (n : Int))).run Tryd.prog W = .ok (.slice (some ⟨W.heap.size, 0, none⟩) n n) (W.alloc (.cells (madeCells #[.int .u8 0] n) 5)) :=
  run_make_row' 38 5 (.int .u8 0) 1 Tryd.underlying38 infoByteG rfl .i64 .i64 n (by omega) (by omega) W
theorem zeros_row (n : Nat) (W : World) : BRow (W.alloc (.cells (madeCells #[.int .u8 0] n) 5)) W.heap.size (List.replicate n (0 : UInt8)) := by
  have h := wcells_new W (madeCells #[.int .u8 0] n) 5
  rw [toList_madeCells_one] at h
  refine ⟨h.1, fun j hj => ?_⟩
  have hj' : j < n := by simpa using hj
  have := h.2 j (.int .u8 0) (by simp [hj'])
  have e : (List.replicate n (0 : UInt8)).getD j 0 = 0 := by simp [List.getD, hj']
  rw [e]
  exact this
theorem zeros_text {n : Nat} {W : World} {g : Nat} (h : BRow W g (List.replicate n (0 : UInt8))) : (convert 38 9 (.slice (some ⟨g, 0, none⟩) n n)).run Tryd.prog W = .ok (.string (zerosB n)) W := by
  have := brow_string (cap := n) h
  rw [List.length_replicate] at this
  exact this
theorem brow_below {w w' : World} {g : Nat} {l : List UInt8} (h : BRow w g l) (hb : Below w.heap.size w w') : BRow w' g l :=
  ⟨Nat.lt_of_lt_of_le h.1 hb.size, fun j hj => ⟨(hb.cell (p := ⟨g, j, none⟩) h.1).trans (h.2 j hj).1, (hb.frozen (p := ⟨g, j, none⟩) h.1).trans (h.2 j hj).2⟩⟩
theorem cell_kept {w w' : World} {p : Addr} {v : Value} (h : w.cell? p = some v) (hb : Below w.heap.size w w') : w'.cell? p = some v := (hb.cell (p := p) (cell_in h)).trans h
theorem cell_grown {w w' : World} {p : Addr} {v : Value} {r : Option Nat} (h : w.cell? p = some v) (hg : w.grownBy w' r) (hn : r ≠ some p.block) : w'.cell? p = some v := (World.cell?_of_block (a := p) (hg.block p.block (cell_in h) (fun e => hn e.symm))).trans h
theorem own_kept {w w' : World} {B n sz : Nat} {t : TypeId} {v : Value} {L : List Value} (h : w.ownsRow B t sz v n L) (hb : Below w.drew.heap.size w.drew w') : w'.ownsRow B t sz v n L :=
  h.kept (row := none) ⟨hb.os, hb.tape, hb.output, hb.size, fun k hk _ => hb.block k hk⟩ (Classical.em _)
theorem mostL_take {L : List ByteArray} {i : Nat} (hi : i < L.length) : mostL (L.take (i + 1)) = max (mostL (L.take i)) (L.getD i ⟨#[]⟩).size := by
  have e : L[i] = L.getD i ⟨#[]⟩ := by simp [List.getD, hi]
  rw [List.take_succ_eq_append_getElem hi, mostL_snoc, e]
theorem shortL_no {L : List ByteArray} {i : Nat} (hi : i < L.length) (h : 200 < (L.getD i ⟨#[]⟩).size) : shortL L = false := by
  have e : L[i] = L.getD i ⟨#[]⟩ := by simp [List.getD, hi]
  unfold shortL
  rw [List.all_eq_false]
  exact ⟨L[i], List.getElem_mem hi, by rw [e]; simp only [decide_eq_true_eq]; omega⟩
theorem shortL_yes {L : List ByteArray} (h : ∀ i, i < L.length → (L.getD i ⟨#[]⟩).size ≤ 200) : shortL L = true := by
  unfold shortL
  rw [List.all_eq_true]
  intro x hx
  obtain ⟨i, hi, rfl⟩ := List.mem_iff_getElem.1 hx
  have e : L[i] = L.getD i ⟨#[]⟩ := by simp [List.getD, hi]
  rw [e]; simp only [decide_eq_true_eq]; exact h i hi
theorem shortL_size {L : List ByteArray} (h : shortL L = true) : ∀ x ∈ L, x.size ≤ 200 := fun x hx => by
  unfold shortL at h
  rw [List.all_eq_true] at h
  simpa using h x hx
theorem SAns.broad {w : World} {v : Value} {L : List ByteArray} {lo hi lo' hi' : Nat} (h : SAns w v L lo hi) (h1 : lo' ≤ lo) (h2 : hi ≤ hi') : SAns w v L lo' hi' := by
  obtain ⟨a, cap, e, hc, q⟩ := h
  refine ⟨a, cap, e, hc, ?_⟩
  rcases q with rfl | ⟨g, rfl, q1, q2, hm⟩
  · exact .inl rfl
  · exact .inr ⟨g, rfl, by omega, by omega, hm⟩
theorem xsum_le {X : List (List Int)} {m : Nat} (h : ∀ x ∈ X, x.length ≤ m) : xsum X ≤ X.length * m := by
  induction X with
  | nil => simp [xsum]
  | cons x X ih =>
    have h1 := h x (by simp)
    have h2 := ih (fun y hy => h y (by simp [hy]))
    simp only [xsum, List.length_cons]
    rw [Nat.add_mul]; omega
theorem tsum_all {L : List ByteArray} {m : Nat} (h : ∀ x ∈ L, x.size ≤ m) : tsum L ≤ L.length * m := by
  induction L with
  | nil => simp [tsum]
  | cons x X ih =>
    have h1 := h x (by simp)
    have h2 := ih (fun y hy => h y (by simp [hy]))
    simp only [tsum, List.length_cons]
    rw [Nat.add_mul]; omega
theorem codeX_fit {s : Int} (h : schOk s = true) : MFit (codeX s) := by
  obtain ⟨b1, b2, b3, b4⟩ := sch_bounds h
  have h1 := codeX_len h
  have h2 := xsum_le (X := codeX s) (m := 4) (fun x hx => by have := (codeX_rows h x hx).1; omega)
  unfold MFit
  omega
theorem fillL_size {L : List ByteArray} (h : shortL L = true) : ∀ x ∈ fillL L, x.size ≤ 200 := fun x hx => by
  obtain ⟨y, hy, rfl⟩ := List.mem_map.1 hx
  rw [addB_size, zerosB_size]
  have h1 := shortL_size h y hy
  have h2 := mostL_all (shortL_size h)
  omega
theorem fillL_fit {L : List ByteArray} (hl : L.length ≤ 8) (h : shortL L = true) : TFit (fillL L) := by
  have h1 := tsum_all (fillL_size h)
  unfold TFit
  rw [fillL_len] at *
  omega
set_option maxRecDepth 100000 in
set_option maxHeartbeats 4000000 in
theorem specEncode_walk (s : Int) (L : List ByteArray) (k b2 o2 cap2 : Nat) (w : World) (hs : schOk s = true) (hk : schK s = k) (hl : L.length = k) (hU : b2 < w.heap.size ∧ ∀ j, j < k → w.cell? ⟨b2, o2 + j, none⟩ = some (.string (L.getD j ⟨#[]⟩))) (hf : TFit L) :
    Calls Tryd.prog 60 #[.int .i64 s, .slice (some ⟨b2, o2, none⟩) k cap2] w fun e w' => TPost (encX s L) w e w' := by
  obtain ⟨i0, hi0, hz0, hz1, hz2⟩ := info_parts infoTextG
  obtain ⟨b1, b3, _, _⟩ := sch_bounds hs
  rw [hk] at b1 b3
  have HS := Shut.mk (fun W => specSchema s W)
  unfold SchPost at HS
  rw [hs, hk] at HS
  have HU := Shut.mk hU
  have HL : Hid (L.length = k) := hl
  have HOK := Shut.mk (And.intro hs hk)
  have hfz : ∀ j, j < k → (L.getD j ⟨#[]⟩).size ≤ 1048576 := fun j hj => by
    have hj' : j < L.length := by omega
    have := tsum_mem (L := L) (x := L.getD j ⟨#[]⟩) (by simp [List.getD, hj'])
    unfold TFit at hf; omega
  have HFZ := Shut.mk hfz
  have hne : ((k : Int) != (k : Int)) = false := by simp
  clear hU hl hf hs hk hfz
  go_enter Tryd.func60, Tryd.ntmps60
  go_wp2_with fail
  refine (HS.out _).mono ?_
  rintro e w0 ⟨rfl, rfl⟩
  go_wp2_with fail
  go_loop [9, 10] (fun mm ii => ∃ (i : Nat), ii = .int .i64 (i : Nat) ∧ mm = .int .i64 (mostL (L.take i) : Nat) ∧ i ≤ k ∧ Shut (∀ j, j < i → (L.getD j ⟨#[]⟩).size ≤ 200)) (fun _ ii => k - (intOf ii).toNat)
  case atStart => exact ⟨0, rfl, rfl, Nat.zero_le _, ⟨fun j hj => by omega⟩⟩
  case round =>
    obtain ⟨i, rfl, rfl, hik, hsh⟩ := hrel
    by_cases hlt : i < k
    · have hlt' : (i : Int) < (k : Int) := by omega
      have i0' : (0 : Int) ≤ (i : Int) := by omega
      have d := HU.out.2 i hlt
      have hsz := HFZ.out i hlt
      have hmt := mostL_take (L := L) (i := i) (by have := HL.out; omega)
      have hml : mostL (L.take i) ≤ 200 := mostL_all (fun x hx => by
        obtain ⟨j, hj, rfl⟩ := List.mem_iff_getElem.1 hx
        have hj1 : j < i := by rw [List.length_take] at hj; omega
        have hj2 : j < L.length := by have := HL.out; omega
        have := hsh.out j hj1
        have e : L.getD j ⟨#[]⟩ = L[j] := by simp [List.getD, hj2]
        rw [e] at this
        simpa using this)
      by_cases hbig : (200 : Int) < ((L.getD i ⟨#[]⟩).size : Int)
      · have HNO := Shut.mk (encX_no (s := s) (L := L) (fun h => by have := shortL_no (L := L) (i := i) (by have := HL.out; omega) (by omega); rw [this] at h; cases h.2.2))
        generalize L.getD i ⟨#[]⟩ = x at *
        clear hmt hml hsh
        go_wp2_with fail
        go_ret2
        exact tpost_no HNO.out rfl ((Below.refl _ _).alloc (Nat.le_refl _) _)
      · have HSH : Shut (∀ j, j < i + 1 → (L.getD j ⟨#[]⟩).size ≤ 200) := ⟨fun j hj => by
          by_cases e : j = i
          · subst e; omega
          · exact hsh.out j (by omega)⟩
        have HMT := Shut.mk hmt
        generalize L.getD i ⟨#[]⟩ = x at *
        generalize mostL (L.take i) = m at *
        clear hmt hsh
        by_cases hm : (m : Int) < (x.size : Int)
        · go_wp2_with fail
          go_round
          case rel => exact ⟨i + 1, by go_num, by rw [HMT.out, Nat.max_eq_right (by omega)], by omega, HSH⟩
          case measure => simp [intOf]; omega
        · go_wp2_with fail
          go_round
          case rel => exact ⟨i + 1, by go_num, by rw [HMT.out, Nat.max_eq_left (by omega)], by omega, HSH⟩
          case measure => simp [intOf]; omega
    · have e : i = k := by omega
      subst e
      rw [List.take_of_length_le (by rw [HL.out]; exact Nat.le_refl _)]
      have HSHL : Shut (shortL L = true) := ⟨shortL_yes (fun j hj => hsh.out j (by rw [← HL.out]; exact hj))⟩
      have hM : mostL L ≤ 200 := mostL_all (shortL_size HSHL.out)
      have HENC := Shut.mk (encX_yes (s := s) (L := L) ⟨HOK.out.1, by rw [HL.out, HOK.out.2], HSHL.out⟩)
      have HFL : Shut (∀ j, j < i → (fillL L).take (j + 1) = (fillL L).take j ++ [addB (L.getD j ⟨#[]⟩) (zerosB (mostL L))]) := ⟨fun j hj => by
        have h1 : j < (fillL L).length := by rw [fillL_len, HL.out]; exact hj
        have h2 : j < L.length := by rw [HL.out]; exact hj
        rw [List.take_succ_eq_append_getElem h1]
        simp [fillL, List.getD, h2]⟩
      have hlt' : ¬ (i : Int) < (i : Int) := by omega
      obtain ⟨M, hMe⟩ : ∃ M, M = mostL L := ⟨_, rfl⟩
      rw [← hMe] at hM HFL ⊢
      clear hMe hsh
      have HOW : Shut ((w0.alloc (.cells #[] 9)).ownsRow w0.heap.size 9 1 (.slice (some ⟨w0.heap.size, 0, none⟩) 0 0) 0 (tv ((fillL L).take 0))) := ⟨World.ownsRow_made w0 #[] 0 (Nat.le_refl _) (by decide) rfl⟩
      have HBW := Shut.mk (show Below w0.heap.size w0 (w0.alloc (.cells #[] 9)) from (Below.refl _ _).alloc (Nat.le_refl _) _)
      go_wp2_with fail
      go_loopw [11, 12] (fun v jj wr => ∃ (j : Nat) (vv : Value), vv = v ∧ jj = .int .i64 (j : Nat) ∧ j ≤ i ∧ Shut (wr.ownsRow w0.heap.size 9 1 vv j (tv ((fillL L).take j))) ∧ Shut (Below w0.heap.size w0 wr)) (fun _ jj _ => i - (intOf jj).toNat)
      case atStart => exact ⟨0, _, rfl, rfl, Nat.zero_le _, HOW, HBW⟩
      case round =>
        clear HOW HBW
        obtain ⟨j, v, rfl, rfl, hji, hown, hb⟩ := hrel
        obtain ⟨wo, rfl⟩ : ∃ wo, wo = wr := ⟨_, rfl⟩
        by_cases hjl : j < i
        · have hjl' : (j : Int) < (i : Int) := by omega
          have j0 : (0 : Int) ≤ (j : Int) := by omega
          have hso := hb.out.size
          have d := (hb.out.cell (p := ⟨b2, o2 + j, none⟩) HU.out.1).trans (HU.out.2 j hjl)
          have hsz := HFZ.out j hjl
          have HST := Shut.mk (HFL.out j hjl)
          have hmk := make_zeros M (by omega)
          have HADD := Shut.mk (fun W => specAddText (L.getD j ⟨#[]⟩) (zerosB M) W hsz (by rw [zerosB_size]; omega))
          generalize L.getD j ⟨#[]⟩ = x at *
          generalize addB x (zerosB M) = T at *
          have hcv1 := zeros_text (zeros_row M wo)
          have hcv2 := zeros_text (brow_below (zeros_row M wo) (Below.drew (Below.refl _ _)))
          have hown3 := hown.out
          have l2 : b2 < wo.heap.size := Nat.lt_of_lt_of_le HU.out.1 hso
          go_wp2_with fail
          have nv : v.ownBlock ≠ some (⟨b2, o2 + j, none⟩ : Addr).block := fun e => by have := (hown3.lt _ e).1; have := HU.out.1; simp at *; omega
          have tokA : True := trivial
          go_region_law
            (first
              | (have _t := tokA; go_simp; go_at_call 74; refine (HADD.out _).mono ?_; rintro e w6 ⟨rfl, hbA⟩; clear _t tokA)
              | (refine step_append_lies _ (by rfl) _ _ _ (by rfl) w0.heap.size 9 i0 (.string ⟨#[]⟩) 1 16 Tryd.underlying24 hi0 hz0 hz1 hz2 rfl (by decide) _ _ _ (by rfl) ((own_kept (hown3.alloc (.cells (madeCells #[.int .u8 0] M) 5)) hbA).alloc _) ⟨w6.heap.size, 0, none⟩ 1 1 [.string T] (by rfl) (by rfl) (cell_one_new _ _ _) (by simp [Value.oneCell']) (by omega) (by unfold maxLen; omega) (by omega) (by have h1 := hbA.size; simp at h1 ⊢; omega) (w6.heap.size + 1) (by simp) ?_; intro gg cap1 w8 hown1 hgrow hat hlt8))
          all_goals go_wp2_with fail
          all_goals
            have hb6 : Below w0.heap.size w0 w6 := (Below.drew (hb.out.alloc hso _)).trans (hbA.mono (by simp; omega))
            have hb8 : Below w0.heap.size w0 w8 := (hb6.alloc hb6.size _).grown hgrow (by have := hb6.size; simp; omega) (fun q hq => (hown3.lt q hq).1)
            exact ⟨⟨j + 1, _, rfl, by go_num, by omega, ⟨by rw [HST.out, ← tv_snoc]; exact hown1⟩, ⟨hb8⟩⟩, by simp [intOf]; omega⟩
        · have e : j = i := by omega
          have hjl' : ¬ (j : Int) < (i : Int) := by omega
          have hso := hb.out.size
          have hown3 := hown.out
          rw [e, List.take_of_length_le (by rw [fillL_len, HL.out]; exact Nat.le_refl _)] at hown3
          have HSA := Shut.mk (own_sans (by rw [fillL_len, HL.out]) hown3)
          have HCO := Shut.mk (specCodeOf s wo)
          have HB := hb
          clear hown hown3 e hb
          go_wp2_with fail
          refine HCO.out.mono ?_
          rintro e w6 ⟨v6, rfl, ha6, hb6⟩
          have HB6 := Shut.mk (HB.out.trans (hb6.mono HB.out.size))
          have HAP := Shut.mk (specApplyM ha6.see (HSA.out.see.below hb6) (codeX_fit HOK.out.1) (fillL_fit (by rw [HL.out]; omega) HSHL.out))
          clear ha6 hb6 HCO HSA
          go_wp2_with fail
          refine HAP.out.mono ?_
          rintro e w7 ⟨v7, rfl, ha7, hb7⟩
          have HR := Shut.mk (show TPost (encX s L) w0 (.returned (.tuple #[v7, .bool true])) w7 from ⟨v7, by rw [HENC.out], by rw [HENC.out]; exact ha7.broad HB6.out.size (Nat.le_refl _), HB6.out.trans (hb7.mono HB6.out.size)⟩)
          clear ha7 hb7 HAP
          go_wp2_with fail
          go_ret2
          exact HR.out
/-- Encode's model, at every argument. -/
theorem specEncode {w : World} {u : Value} {L : List ByteArray} {lo hi : Nat} (s : Int) (hu : SSee w u L lo hi) (hf : TFit L) : Calls Tryd.prog 60 #[.int .i64 s, u] w fun e w' => TPost (encX s L) w e w' := by
  obtain ⟨a2, cap2, rfl, hm2⟩ := hu
  cases h : schOk s with
  | false =>
    have HNO := Shut.mk (encX_no (s := s) (L := L) (fun q => by rw [h] at q; cases q.1))
    have HS := Shut.mk (fun W => specSchema s W)
    unfold SchPost at HS
    rw [h] at HS
    clear h hm2 hf
    go_enter Tryd.func60, Tryd.ntmps60
    go_wp2_with fail
    refine (HS.out _).mono ?_
    rintro e w0 ⟨rfl, rfl⟩
    go_wp2_with fail
    go_ret2
    exact tpost_no HNO.out rfl ((Below.refl _ _).alloc (Nat.le_refl _) _)
  | true =>
    obtain ⟨b1, b2, _, _⟩ := sch_bounds h
    by_cases hl : L.length = schK s
    · obtain ⟨b, off, rfl, lb, hc⟩ := units_in hm2 (by omega)
      rw [hl]
      exact specEncode_walk s L (schK s) b off cap2 w h rfl hl ⟨lb, fun j hj => hc j (by omega)⟩ hf
    · have HNO := Shut.mk (encX_no (s := s) (L := L) (fun q => hl q.2.1))
      have hne : ((L.length : Int) != (schK s : Int)) = true := by rw [bne_iff_ne]; omega
      have HS := Shut.mk (fun W => specSchema s W)
      unfold SchPost at HS
      rw [h] at HS
      generalize schK s = k at *
      clear h hm2 hf hl
      go_enter Tryd.func60, Tryd.ntmps60
      go_wp2_with fail
      refine (HS.out _).mono ?_
      rintro e w0 ⟨rfl, rfl⟩
      go_wp2_with fail
      go_ret2
      exact tpost_no HNO.out rfl ((Below.refl _ _).alloc (Nat.le_refl _) _)
end Go.Proofs.YtoaifodmjkhiiaaDoor
/- HcB: The models' l15Host; what WriteGroup leaves of good hosts (written by gen/mkhcb.py). -/
namespace Go.Proofs.YtoaifodmjkhiiaaDoor
set_option maxRecDepth 100000
open Go.RowKit BigFrame
attribute [local go_sem ↓] Go.wp_at_zero Go.wp_at_succ

set_option maxRecDepth 100000 in
set_option maxHeartbeats 1000000 in
theorem specHost15 (a : Option Addr) (rs : List HoR) (cap : Nat) (k : Nat) (w : World) (hr : HsRow w a rs) (hl : rs.length ≤ 1048576) (hg : ∀ i (h : i < rs.length), rs[i].h.id = (i : Int) + 1) (hk : k < rs.length) :
    Calls Tryd.prog 63 #[.slice a rs.length cap, .int .i64 ((k : Int) + 1)] w fun e w' => e = .returned (.int .i64 (k : Nat)) ∧ w' = w := by
  obtain ⟨n, hn⟩ : ∃ n, n = rs.length := ⟨_, rfl⟩
  have HR := Shut.mk (And.intro hr hg)
  have HN := Shut.mk hn
  rw [← hn] at hl hk ⊢
  clear hr hg hn
  go_enter Tryd.func63, Tryd.ntmps63
  go_wp2_with fail
  go_loopw [5] (fun i9 wr => ∃ (i : Nat), i9 = .int .i64 (i : Nat) ∧ i ≤ k ∧ wr = w) (fun i9 _ => n - (intOf i9).toNat)
  case atStart => exact ⟨0, rfl, Nat.zero_le _, rfl⟩
  case round =>
    obtain ⟨i, rfl, hi, rfl⟩ := hrel
    have hir : i < rs.length := by rw [← HN.out]; omega
    obtain ⟨b, off, r, rfl, hre, lb, hc⟩ := hs_at HR.out.1 (Below.refl _ _) hir
    obtain ⟨d0, _, _, _⟩ := hc wr (Below.refl _ _)
    have hid : r.h.id = (i : Int) + 1 := by rw [hre]; exact HR.out.2 i hir
    rw [hid] at d0
    have i0 : (0 : Int) ≤ (i : Int) := by omega
    have i1 : (i : Int) < (n : Int) := by omega
    clear hc hre hid
    by_cases e : i = k
    · subst e
      go_wp2_with fail
      go_ret
      exact ⟨rfl, rfl⟩
    · have e1 : ((i : Int) == (k : Int)) = false := by simp; omega
      have e2 : ¬ (i : Int) = (k : Int) := by omega
      have e3 : (((i : Int) + 1) == ((k : Int) + 1)) = false := by simp; omega
      have e4 : ¬ (i : Int) + 1 = (k : Int) + 1 := by omega
      have e5 : ¬ i = k := e
      go_wp2_with fail
      go_roundw
      case rel => exact ⟨i + 1, by go_num, by omega, by first | rfl | trivial⟩
      case measure => simp [intOf]; omega
/-- Good hosts in rows of the call's own. -/
structure WG (w4 W : World) (g : Nat) (gs : List HoR) (m : Nat) : Prop where
  bel : Below w4.heap.size w4 W
  gw : GW HK W g gs w4.heap.size W.heap.size
  caps : ∀ r ∈ gs, r.h.us.length ≤ r.cap
  good : GH (hms gs) m
theorem WG.below {w4 W W' : World} {g m : Nat} {gs : List HoR} (h : WG w4 W g gs m) (hb : Below W.heap.size W W') : WG w4 W' g gs m := ⟨h.bel.trans (hb.mono h.bel.size), (h.gw.below hb).wide (Nat.le_refl _) hb.size, h.caps, h.good⟩
theorem WG.len {w4 W : World} {g m : Nat} {gs : List HoR} (h : WG w4 W g gs m) : gs.length = 7 := by have := h.good.1; rw [hms_len] at this; exact this
theorem WG.row {w4 W : World} {g m : Nat} {gs : List HoR} (h : WG w4 W g gs m) : HsRow W (some ⟨g, 0, none⟩) gs := (show HsW W (some ⟨g, 0, none⟩) gs w4.heap.size W.heap.size from ⟨h.caps, .inr ⟨g, rfl, h.gw⟩⟩).row
theorem WG.id {w4 W : World} {g m : Nat} {gs : List HoR} (h : WG w4 W g gs m) (i : Nat) (hi : i < gs.length) : gs[i].h.id = (i : Int) + 1 := by
  have q := (h.good.2 i (by rw [hms_len]; exact hi)).1
  simpa [hms] using q
/-- One host is laid anew. -/
theorem WG.host {w4 W W2 : World} {g m m' : Nat} {gs : List HoR} (h : WG w4 W g gs m) (hb : Below W.heap.size W W2) (j : Nat) (hj : j < gs.length) (H : HM) (a : Option Addr) (cap : Nat) (hF : FRw W2 a (unS H.us) W.heap.size W2.heap.size) (hc : H.us.length ≤ cap) (hm : m ≤ m') (hid : H.id = (j : Int) + 1) (hg : HGood H.id H.us m') :
    WG w4 (setW W2 g (j * 3) (hC ⟨H, a, cap⟩)) g (gs.set j ⟨H, a, cap⟩) m' := by
  refine ⟨below_setW (h.bel.trans (hb.mono h.bel.size)) h.gw.glo _ _, ?_, fun r hr => ?_, ?_⟩
  · have q := h.gw.host hb j hj H a cap hF h.bel.size
    rw [setW_sz]
    exact q
  · rcases List.mem_or_eq_of_mem_set hr with q | rfl
    · exact h.caps r q
    · exact hc
  · have e : hms (gs.set j ⟨H, a, cap⟩) = (hms gs).set j H := by unfold hms; rw [List.map_set]
    rw [e]
    exact h.good.set j H hm hid hg
/-- What WriteGroup leaves. -/
def WrPost (m : Nat) (w : World) (e : Ending) (w' : World) : Prop := ∃ g c gs ok, e = .returned (.tuple #[.slice (some ⟨g, 0, none⟩) 7 c, .bool ok]) ∧ 7 ≤ c ∧ WG w w' g gs m
theorem wg_of {hs : List HM} {w w' : World} {e : Ending} {m : Nat} (h : HsPost hs w e w') (hg : GH hs m) : ∃ g c gs, e = .returned (.slice (some ⟨g, 0, none⟩) 7 c) ∧ 7 ≤ c ∧ WG w w' g gs m := by
  obtain ⟨va, cap, rs, rfl, e1, hw, hc, hb⟩ := h
  have hl : rs.length = 7 := by rw [← hms_len, e1]; exact hg.1
  rcases hw.2 with ⟨_, e2⟩ | ⟨g, rfl, hgw⟩
  · rw [e2] at hl; simp at hl
  · exact ⟨g, cap, rs, by rw [hl], by omega, hb, hgw, hw.1, by rw [e1]; exact hg⟩
theorem WG.base {w w4 W : World} {g m : Nat} {gs : List HoR} (h : WG w4 W g gs m) (hb : Below w.heap.size w w4) : WG w W g gs m := ⟨hb.trans (h.bel.mono hb.size), h.gw.wide hb.size (Nat.le_refl _), h.caps, h.good⟩
theorem own_any3 {W : World} {B ty sz n : Nat} {v : Value} {L : List Value} (h : W.ownsRow B ty sz v n L) : ∃ a c, v = .slice a n c := by
  rcases h.2 with ⟨rfl, h0⟩ | ⟨g, cap, cur, e, _⟩
  · exact ⟨none, 0, by rw [h0]⟩
  · exact ⟨_, _, e⟩
theorem iv_len9 (L : List Int) : (iv L).length = L.length := by simp [iv]
theorem WG.more9 {w4 W : World} {g m n : Nat} {gs : List HoR} (h : WG w4 W g gs m) (hn : m ≤ n) : WG w4 W g gs n := ⟨h.bel, h.gw, h.caps, h.good.mono hn⟩
theorem cut_fit (s : Int) (t : ByteArray) : TFit (cutX s t).1 := by
  by_cases h : schOk s = true ∧ t.size ≤ groupN s
  · have h1 := cut_sizes h.1 h.2
    have hl : (cutX s t).1.length ≤ 4 := by
      unfold cutX
      rw [if_pos h, cutL_len]
      unfold schK
      split <;> (try split) <;> (try split) <;> omega
    have h2 : ∀ L : List ByteArray, (∀ x ∈ L, x.size ≤ 8) → tsum L ≤ L.length * 8 := by
      intro L
      induction L with
      | nil => intro _; simp [tsum]
      | cons x L ih =>
        intro hL
        have q1 := ih fun y hy => hL y (List.mem_cons_of_mem _ hy)
        have q2 := hL x (List.mem_cons_self ..)
        simp only [tsum, List.length_cons] at *
        omega
    have := h2 _ h1
    unfold TFit
    omega
  · unfold cutX
    rw [if_neg h]
    simp [TFit, tsum]
theorem enc_len (s : Int) (L : List ByteArray) : (encX s L).1.length ≤ 6 := by
  unfold encX
  split
  · rename_i h
    have e : (appX (codeX s) (fillL L)).length ≤ (codeX s).length := by
      unfold appX
      split
      · simp
      · exact Nat.zero_le _
    have e2 := codeX_len h.1
    have e3 : schK s + schM s ≤ 6 := by unfold schK schM; split <;> (try split) <;> (try split) <;> omega
    show (appX (codeX s) (fillL L)).length ≤ 6
    omega
  · exact Nat.zero_le _
theorem enc_size (s : Int) (L : List ByteArray) : ∀ x ∈ (encX s L).1, x.size ≤ 200 := by
  unfold encX
  split
  · rename_i h
    intro x hx
    change x ∈ appX (codeX s) (fillL L) at hx
    unfold appX at hx
    split at hx
    · obtain ⟨row, _, rfl⟩ := List.mem_map.1 hx
      exact accB_size row _ (fillL_size h.2.2) _
    · cases hx
  · intro x hx; cases hx
set_option maxRecDepth 100000 in
set_option maxHeartbeats 8000000 in
theorem specWrite15 (a : Option Addr) (rs : List HoR) (cap : Nat) (s grp : Int) (t : ByteArray) (m : Nat) (w : World) (hr : HsRow w a rs) (hg : GH (hms rs) m) (hm : m ≤ 500) (ht : t.size ≤ 1048576) (hgb : -9223372036854775808 ≤ grp ∧ grp ≤ 9223372036854775807) :
    Calls Tryd.prog 48 #[.slice a rs.length cap, .int .i64 s, .int .i64 grp, .string t] w fun e w' => WrPost (m + 6) w e w' := by
  have hn : rs.length = 7 := by rw [← hms_len]; exact hg.1
  have HGH := Shut.mk (hg.mono (Nat.le_add_right m 6))
  have HGM := Shut.mk hg
  have HR := Shut.mk hr
  have HCU := Shut.mk (fun W => specCutUnits s t W (by omega))
  have HEN : Shut (∀ (W : World) (u : Value) (lo hi : Nat), SSee W u (cutX s t).1 lo hi → Calls Tryd.prog 60 #[.int .i64 s, u] W fun e w' => TPost (encX s (cutX s t).1) W e w') := ⟨fun W u lo hi hu => specEncode s hu (cut_fit s t)⟩
  have HEL := Shut.mk (enc_len s (cutX s t).1)
  have HES := Shut.mk (enc_size s (cutX s t).1)
  generalize encX s (cutX s t).1 = EN at *
  obtain ⟨all, okE⟩ := EN
  have HPG : Shut (∀ W, Below w.heap.size w W → Calls Tryd.prog 61 #[.slice a rs.length cap, .int .i64 (all.length : Nat)] W fun e w' => PlcPost (plcX (hms rs) (all.length : Nat)) W e w') := ⟨fun W hW => specPlaceGroup a rs cap _ W (hr.stays hW) (by omega)⟩
  have HPM : Shut (∀ x ∈ (plcX (hms rs) (all.length : Nat)).1, ∃ k : Nat, k < 7 ∧ x = (k : Int) + 1) := ⟨fun x hx => by
    obtain ⟨y, hy, rfl⟩ := plc_mem hx
    obtain ⟨i, hi, rfl⟩ := List.getElem_of_mem hy
    exact ⟨i, by have := hg.1; omega, (hg.2 i hi).1⟩⟩
  have HPLen : Shut ((plcX (hms rs) (all.length : Nat)).1.length ≤ all.length) := ⟨by
    unfold plcX
    split
    · simp only [List.length_map, List.length_take, Int.toNat_natCast]; omega
    · exact Nat.zero_le _⟩
  have HCP : Shut (∀ W, Below w.heap.size w W → Calls Tryd.prog 62 #[.slice a rs.length cap] W fun e w' => HsPost (hms rs) W e w') := ⟨fun W hW => specCopy15 a rs cap W (hr.stays hW) (by omega) (fun r hr' => by have := (hg.fit (by omega) (List.mem_map_of_mem (f := HoR.h) hr')).2.2.1; omega)⟩
  generalize cutX s t = CU at *
  obtain ⟨uts, okC⟩ := CU
  generalize plcX (hms rs) (all.length : Nat) = PG at *
  obtain ⟨ids, okP⟩ := PG
  unfold TPost8 at HCU
  unfold TPost at HEN
  unfold PlcPost at HPG
  dsimp only at *
  rw [hn] at HPG HCP ⊢
  clear hr hg hn
  go_enter Tryd.func48, Tryd.ntmps48
  go_upto_region 2 with (go_at_call 59; refine (HCU.out _).mono ?_; rintro e w1 ⟨v1, rfl, hA, hb⟩; have HA1 := Shut.mk hA.see; have HB1 := Shut.mk hb; clear hA hb)
  go_upto_region 3 with (go_at_call 60; refine (HEN.out _ _ _ _ HA1.out).mono ?_; rintro e w2 ⟨v2, rfl, hA, hb⟩; have HA2 := Shut.mk hA; have HB2 := Shut.mk (HB1.out.trans (hb.mono HB1.out.size)); have hs1 := HB1.out.size; clear hA hb HA1 HB1)
  obtain ⟨at2, ct2, rfl, hct2, hrow2⟩ := HA2.out
  have HT2 := Shut.mk (show SSee w2 (.slice at2 all.length ct2) all w.heap.size w2.heap.size from (show SAns w2 (.slice at2 all.length ct2) all w.heap.size w2.heap.size from ⟨at2, ct2, rfl, hct2, hrow2.imp id fun ⟨g, e, q1, q2, q3⟩ => ⟨g, e, by omega, q2, q3⟩⟩).see)
  clear hct2 hrow2 HA2 hs1
  obtain ⟨na, hna⟩ : ∃ q, q = all.length := ⟨_, rfl⟩
  rw [← hna] at HPG ⊢
  rw [← hna] at HEL HPLen
  have hna6 : na ≤ 6 := HEL.out
  have HNA := Shut.mk hna
  clear hna
  go_upto_region 4 with (go_at_call 61; refine (HPG.out _ HB2.out).mono ?_; rintro e w3 ⟨v3, rfl, hown, hb⟩; have HI3 := Shut.mk hown; have HB3 := Shut.mk (HB2.out.trans (hb.mono HB2.out.size)); have HT3 := Shut.mk (HT2.out.below hb); clear hown hb HT2)
  obtain ⟨ai, ci, rfl⟩ := own_any3 HI3.out
  obtain ⟨ni, hni⟩ : ∃ q, q = ids.length := ⟨_, rfl⟩
  have hni6 : ni ≤ na := by rw [hni]; exact HPLen.out
  have HID : Shut (CRow w3 ai (iv ids)) := ⟨(FRw.of_own HI3.out).1.crow⟩
  have HNI := Shut.mk (And.intro hni HNA.out)
  rw [← hni]
  clear hni HI3 HEL HPLen
  cases okC with
  | false =>
    go_wp2_with (go_at_call 62; refine (HCP.out _ HB3.out).mono ?_; rintro e w9 hpost; obtain ⟨g9, c9, gs9, rfl, hc9, hwg⟩ := wg_of hpost HGH.out; have H9 := Shut.mk hwg; have HC9 := Shut.mk hc9; clear hpost hwg hc9)
    go_ret2
    exact ⟨g9, c9, gs9, false, rfl, HC9.out, H9.out.base HB3.out⟩
  | true =>
  cases okE with
  | false =>
    go_wp2_with (go_at_call 62; refine (HCP.out _ HB3.out).mono ?_; rintro e w9 hpost; obtain ⟨g9, c9, gs9, rfl, hc9, hwg⟩ := wg_of hpost HGH.out; have H9 := Shut.mk hwg; have HC9 := Shut.mk hc9; clear hpost hwg hc9)
    go_ret2
    exact ⟨g9, c9, gs9, false, rfl, HC9.out, H9.out.base HB3.out⟩
  | true =>
  cases okP with
  | false =>
    go_wp2_with (go_at_call 62; refine (HCP.out _ HB3.out).mono ?_; rintro e w9 hpost; obtain ⟨g9, c9, gs9, rfl, hc9, hwg⟩ := wg_of hpost HGH.out; have H9 := Shut.mk hwg; have HC9 := Shut.mk hc9; clear hpost hwg hc9)
    go_ret2
    exact ⟨g9, c9, gs9, false, rfl, HC9.out, H9.out.base HB3.out⟩
  | true =>
  go_upto_region 7 with (go_at_call 62; refine (HCP.out _ HB3.out).mono ?_; rintro e w9 hpost; obtain ⟨g9, c9, gs9, rfl, hc9, hwg⟩ := wg_of hpost HGM.out; have H9 := Shut.mk hwg; have HC9 := Shut.mk hc9; clear hpost hwg hc9)
  go_upto_region 8 with fail
  go_loopw [17] (fun i9 wr => ∃ (i : Nat), i9 = .int .i64 (i : Nat) ∧ i ≤ ni ∧ Shut (∃ gs, WG w3 wr g9 gs (m + i))) (fun i9 _ => ni - (intOf i9).toNat)
  case atStart => exact ⟨0, rfl, Nat.zero_le _, ⟨gs9, H9.out⟩⟩
  case round =>
    clear H9
    obtain ⟨i, rfl, hi, HW⟩ := hrel
    obtain ⟨gs, hwg⟩ := HW.out
    have HG := Shut.mk hwg
    clear HW hwg
    by_cases hlt : i < ni
    case neg =>
      obtain rfl : ni = i := by omega
      go_wp2_with fail
      go_ret2
      exact ⟨g9, c9, gs, true, rfl, HC9.out, (HG.out.more9 (by omega)).base HB3.out⟩
    have hii : i < ids.length := by rw [← HNI.out.1]; exact hlt
    have hia : i < all.length := by rw [← HNI.out.2]; omega
    obtain ⟨k, hk7, hke⟩ := HPM.out (ids[i]) (List.getElem_mem hii)
    obtain ⟨bi, oi, rfl, lbi, hci⟩ := (HID.out.stays HG.out.bel) (by rw [iv_len9]; omega)
    have d9 := hci i (.int .i64 ((k : Int) + 1)) (by rw [← hke]; simp [iv, hii])
    have hkg : k < gs.length := by rw [HG.out.len]; exact hk7
    obtain ⟨bt, ot, rfl, lbt, hct⟩ : ∃ b off, at2 = some ⟨b, off, none⟩ ∧ b < w3.heap.size ∧ ∀ j v, (tv all)[j]? = some v → w3.cell? ⟨b, off + j, none⟩ = some v := by
      obtain ⟨a9, c9', e9, hrow9⟩ := HT3.out
      cases e9
      exact hrow9.crow (by rw [tv_len]; omega)
    have dt := hct i _ (tv_get all i hia)
    obtain ⟨b1, o1, r, e1, hre, lb1, hc1⟩ := hs_at HG.out.row (Below.refl _ _) hkg
    simp only [Option.some.injEq, Addr.mk.injEq, and_true] at e1
    obtain ⟨rfl, rfl⟩ := e1
    obtain ⟨tx, htx⟩ : ∃ q, q = all.getD i ⟨#[]⟩ := ⟨_, rfl⟩
    have htm : tx ∈ all := by rw [htx]; simp [List.getD, hia]
    have hts : tx.size ≤ 200 := HES.out tx htm
    rw [← htx] at dt
    have hrid : r.h.id = (k : Int) + 1 := by rw [hre]; exact HG.out.id k hkg
    have hgd : HGood r.h.id r.h.us (m + i) := by
      have q := (HG.out.good.2 k (by rw [hms_len]; exact hkg)).2
      have e : (hms gs)[k]'(by rw [hms_len]; exact hkg) = r.h := by rw [hre]; simp [hms]
      rw [e] at q
      exact q
    have hgf := hgd.fit (by omega)
    have hgl := hgd.2
    have HCE : Shut (∀ x, Below wr.heap.size wr x → x.cell? ⟨g9, k * 3, none⟩ = some (.int .i64 r.h.id) ∧ x.cell? ⟨g9, k * 3 + 1, none⟩ = some (.bool r.h.up) ∧ x.cell? ⟨g9, k * 3 + 2, none⟩ = some (.slice r.loc r.h.us.length r.cap) ∧ x.cell? ⟨bt, ot + i, none⟩ = some (.string tx)) := ⟨fun x hx => by
      obtain ⟨q0, q1, q2, _⟩ := hc1 x hx
      rw [Nat.zero_add] at q0 q1 q2
      exact ⟨q0, q1, q2, ((HG.out.bel.trans (hx.mono HG.out.bel.size)).cell (p := ⟨bt, ot + i, none⟩) lbt).trans dt⟩⟩
    have HPU : Shut (∀ x, Below wr.heap.size wr x → Calls Tryd.prog 51 #[hov r.h r.loc r.cap, unv ⟨grp, (i : Nat), tx, 0⟩] x fun e w' => HbPost (putX r.h ⟨grp, (i : Nat), tx, 0⟩) x e w') := ⟨fun x hx => specPutUnit r.h r.loc r.cap _ x (hc1 x hx).2.2.2 (by omega) hgf.1 ⟨by show tx.size ≤ _; omega, ⟨by show _ ≤ grp; omega, by show grp ≤ _; omega⟩, ⟨by show _ ≤ (i : Int); omega, by show (i : Int) ≤ _; omega⟩, by show (-9223372036854775808 : Int) ≤ 0; omega, by show (0 : Int) ≤ 9223372036854775807; omega⟩ (by show tx.size ≤ _; omega)⟩
    have HPA := Shut.mk (put_any hgd ⟨grp, (i : Nat), tx, 0⟩)
    have HHO := Shut.mk (specHost15 (some ⟨g9, 0, none⟩) gs c9 k wr HG.out.row (by rw [HG.out.len]; omega) (fun i hi => HG.out.id i hi) hkg)
    rw [HG.out.len] at HHO
    generalize putX r.h ⟨grp, (i : Nat), tx, 0⟩ = PX at *
    obtain ⟨⟨pid, pup, pus⟩, pok⟩ := PX
    have HRI := Shut.mk hrid
    obtain ⟨⟨rid, rup, rus⟩, rl, rc⟩ := r
    unfold HbPost at HPU
    dsimp only [hov, unv] at HPU HCE HPA HRI
    obtain ⟨rn, hrn⟩ : ∃ q, q = rus.length := ⟨_, rfl⟩
    obtain ⟨pn, hpn⟩ : ∃ q, q = pus.length := ⟨_, rfl⟩
    rw [← hrn] at HPU HCE
    rw [← hpn] at HPU
    have HPN := Shut.mk hpn
    have HKG := Shut.mk hkg
    have i0 : (0 : Int) ≤ (i : Int) := by omega
    have i1 : (i : Int) < (ni : Int) := by omega
    have i2 : (i : Int) < (na : Int) := by omega
    have k0 : (0 : Int) ≤ (k : Int) := by omega
    have k7 : (k : Int) < 7 := by omega
    have k8 : k < 7 := hk7
    clear hci hct hc1 hre hrid hgd hgf hgl htx htm hts dt hrn hpn hii hia hke hkg
    go_upto_region 11 with (go_at_call 63; refine HHO.out.mono ?_; rintro e w5 ⟨rfl, hw5⟩; subst hw5)
    clear d9 HHO
    go_cut [19, 20] from 66 to 80 (fun u8 u9 wq => ∃ (nb : Nat) (a8 : Option Addr) (c8 lo hi : Nat), u8 = .pointer (some ⟨nb, 0, none⟩) ∧ u9 = .bool pok ∧ Shut (SL w5 wq [bxS nb [.int .i64 pid, .bool pup, .slice a8 pn c8], rwS a8 (unS pus) lo hi]) ∧ pn ≤ c8)
    case first =>
      have HTX : Shut (∀ x, Later w5.drew x → SL w5 x []) := ⟨fun x hx => (SL.start w5).below (Below.trans (Below.drew (Below.refl _ _)) hx)⟩
      have HLE : Shut (∀ x, Later w5.drew x → x.cell? ⟨g9, k * 3, none⟩ = some (.int .i64 rid) ∧ x.cell? ⟨g9, k * 3 + 1, none⟩ = some (.bool rup) ∧ x.cell? ⟨g9, k * 3 + 2, none⟩ = some (.slice rl rn rc) ∧ x.cell? ⟨bt, ot + i, none⟩ = some (.string tx)) := ⟨fun x hx => HCE.out x (HTX.out x hx).bel⟩
      refine wp_region_set (fun j => decide (j = 12 ∨ j = 13 ∨ j = 14 ∨ 15 < j)) (by kernel_rfl) ?_
      refine wpD_val (i := 0) (v := ?vr0) rfl (by kernel_rfl) (by kernel_rfl) (by kernel_rfl) (by kernel_rfl) (fun _ _ _ h => h) (by rfl) ?hyr0 ?restr0
      case hyr0 => (intro x hx; obtain ⟨d0, d1, d2, d3⟩ := HLE.out x hx; go_simp; try with_reducible rfl)
      try simp only [Act.put, List.setIfInBounds_toArray, List.set_cons_zero, List.set_cons_succ]
      refine wpD_val (i := 1) (v := ?vr1) rfl (by kernel_rfl) (by kernel_rfl) (by kernel_rfl) (by kernel_rfl) (fun _ _ _ h => h) (by rfl) ?hyr1 ?restr1
      case hyr1 => (intro x hx; obtain ⟨d0, d1, d2, d3⟩ := HLE.out x hx; go_simp; try with_reducible rfl)
      try simp only [Act.put, List.setIfInBounds_toArray, List.set_cons_zero, List.set_cons_succ]
      refine wpD_val (i := 2) (v := ?vr2) rfl (by kernel_rfl) (by kernel_rfl) (by kernel_rfl) (by kernel_rfl) (fun _ _ _ h => h) (by rfl) ?hyr2 ?restr2
      case hyr2 => (intro x hx; obtain ⟨d0, d1, d2, d3⟩ := HLE.out x hx; go_simp; try with_reducible rfl)
      try simp only [Act.put, List.setIfInBounds_toArray, List.set_cons_zero, List.set_cons_succ]
      refine wpD_val (i := 3) (v := ?vr3) rfl (by kernel_rfl) (by kernel_rfl) (by kernel_rfl) (by kernel_rfl) (fun _ _ _ h => h) (by rfl) ?hyr3 ?restr3
      case hyr3 => (intro x hx; obtain ⟨d0, d1, d2, d3⟩ := HLE.out x hx; go_simp; try with_reducible rfl)
      try simp only [Act.put, List.setIfInBounds_toArray, List.set_cons_zero, List.set_cons_succ]
      refine wpD_val (i := 4) (v := ?vr4) rfl (by kernel_rfl) (by kernel_rfl) (by kernel_rfl) (by kernel_rfl) (fun _ _ _ h => h) (by rfl) ?hyr4 ?restr4
      case hyr4 => (intro x hx; obtain ⟨d0, d1, d2, d3⟩ := HLE.out x hx; go_simp; try with_reducible rfl)
      try simp only [Act.put, List.setIfInBounds_toArray, List.set_cons_zero, List.set_cons_succ]
      refine wpD_val (i := 5) (v := ?vr5) rfl (by kernel_rfl) (by kernel_rfl) (by kernel_rfl) (by kernel_rfl) (fun _ _ _ h => h) (by rfl) ?hyr5 ?restr5
      case hyr5 => (intro x hx; obtain ⟨d0, d1, d2, d3⟩ := HLE.out x hx; go_simp; try with_reducible rfl)
      try simp only [Act.put, List.setIfInBounds_toArray, List.set_cons_zero, List.set_cons_succ]
      refine wpD_val (i := 6) (v := ?vr6) rfl (by kernel_rfl) (by kernel_rfl) (by kernel_rfl) (by kernel_rfl) (fun _ _ _ h => h) (by rfl) ?hyr6 ?restr6
      case hyr6 => (intro x hx; obtain ⟨d0, d1, d2, d3⟩ := HLE.out x hx; go_simp; try with_reducible rfl)
      try simp only [Act.put, List.setIfInBounds_toArray, List.set_cons_zero, List.set_cons_succ]
      refine wpD_val (i := 7) (v := ?vr7) rfl (by kernel_rfl) (by kernel_rfl) (by kernel_rfl) (by kernel_rfl) (fun _ _ _ h => h) (by rfl) ?hyr7 ?restr7
      case hyr7 => (intro x hx; obtain ⟨d0, d1, d2, d3⟩ := HLE.out x hx; go_simp; try with_reducible rfl)
      try simp only [Act.put, List.setIfInBounds_toArray, List.set_cons_zero, List.set_cons_succ]
      refine wpD_val (i := 8) (v := ?vr8) rfl (by kernel_rfl) (by kernel_rfl) (by kernel_rfl) (by kernel_rfl) (fun _ _ _ h => h) (by rfl) ?hyr8 ?restr8
      case hyr8 => (intro x hx; obtain ⟨d0, d1, d2, d3⟩ := HLE.out x hx; go_simp; try with_reducible rfl)
      try simp only [Act.put, List.setIfInBounds_toArray, List.set_cons_zero, List.set_cons_succ]
      refine wpD_val (i := 9) (v := ?vr9) rfl (by kernel_rfl) (by kernel_rfl) (by kernel_rfl) (by kernel_rfl) (fun _ _ _ h => h) (by rfl) ?hyr9 ?restr9
      case hyr9 => (intro x hx; obtain ⟨d0, d1, d2, d3⟩ := HLE.out x hx; go_simp; try with_reducible rfl)
      try simp only [Act.put, List.setIfInBounds_toArray, List.set_cons_zero, List.set_cons_succ]
      refine wpD_val (i := 10) (v := ?vr10) rfl (by kernel_rfl) (by kernel_rfl) (by kernel_rfl) (by kernel_rfl) (fun _ _ _ h => h) (by rfl) ?hyr10 ?restr10
      case hyr10 => (intro x hx; obtain ⟨d0, d1, d2, d3⟩ := HLE.out x hx; go_simp; try with_reducible rfl)
      try simp only [Act.put, List.setIfInBounds_toArray, List.set_cons_zero, List.set_cons_succ]
      refine wpD_callbox (f := 51) (args := #[.agg #[.int .i64 rid, .bool rup, .slice rl rn rc], .agg #[.int .i64 grp, .int .i64 (i : Nat), .string tx, .int .i64 0]]) (C := #[.int .i64 0, .bool false, .slice none 0 0]) (t := 46) (i := 11) (j := 15) (by kernel_rfl) rfl rfl (by rfl) (by rfl) (fun x hx => by go_simp) (fun x hx => by kernel_rfl) (fun x hx => (HPU.out x (HTX.out x hx).bel).mono ?_) (fun x hx => ?_)
      · rintro e y2 ⟨a8, c8, rfl, hF, hc8, hb2⟩
        refine ⟨_, rfl, hb2, ?_⟩
        have HY := Shut.mk ((HTX.out x hx).add (s := rwS a8 (unS pus) _ _) hb2 hF (rwS.loc _ _ _ _) (Nat.le_refl _) (Nat.le_refl _))
        clear hF hb2 hx
        try simp only [Act.put, List.setIfInBounds_toArray, List.set_cons_zero, List.set_cons_succ]
        refine wpD_pure (i := 12) (v := ?va12) rfl (by kernel_rfl) (by kernel_rfl) (by kernel_rfl) (by kernel_rfl) (fun _ _ _ h => h) (by rfl) ?hya12 ?resta12
        case hya12 => (intro x; go_simp; try with_reducible rfl)
        try simp only [Act.put, List.setIfInBounds_toArray, List.set_cons_zero, List.set_cons_succ]
        refine wpD_pure (i := 13) (v := ?va13) rfl (by kernel_rfl) (by kernel_rfl) (by kernel_rfl) (by kernel_rfl) (fun _ _ _ h => h) (by rfl) ?hya13 ?resta13
        case hya13 => (intro x; go_simp; try with_reducible rfl)
        try simp only [Act.put, List.setIfInBounds_toArray, List.set_cons_zero, List.set_cons_succ]
        refine wpD_pure (i := 14) (v := ?va14) rfl (by kernel_rfl) (by kernel_rfl) (by kernel_rfl) (by kernel_rfl) (fun _ _ _ h => h) (by rfl) ?hya14 ?resta14
        case hya14 => (intro x; go_simp; try with_reducible rfl)
        try simp only [Act.put, List.setIfInBounds_toArray, List.set_cons_zero, List.set_cons_succ]
        refine wpD_one (i := 15) (by kernel_rfl) rfl (by rfl) (fun x2 hx2 => ⟨.pointer (some ⟨x2.heap.size, 0, none⟩), x2.alloc (.cells #[.int .i64 0, .bool false, .slice none 0 0] 46), by kernel_rfl, (Below.refl _ _).alloc (Nat.le_refl _) _, ?_⟩)
        have HY2 := Shut.mk ((HY.out.below hx2).new #[.int .i64 0, .bool false, .slice none 0 0] 46)
        obtain ⟨nb, hnb⟩ : ∃ nb, nb = x2.heap.size := ⟨_, rfl⟩
        rw [← hnb] at HY2 ⊢
        clear hx2 hnb HY
        try simp only [Act.put, List.setIfInBounds_toArray, List.set_cons_zero, List.set_cons_succ]
        refine wpD_tail (by kernel_rfl) ?_
        intro x5 hx5
        have HY3 := Shut.mk (HY2.out.below hx5)
        obtain ⟨q0, qf0⟩ := HY3.out.bx 0 rfl 0 _ rfl
        obtain ⟨q1, qf1⟩ := HY3.out.bx 0 rfl 1 _ rfl
        obtain ⟨q2, qf2⟩ := HY3.out.bx 0 rfl 2 _ rfl
        refine wpA_step (y := ((x5.setCell ⟨nb, 0, none⟩ (.int .i64 pid)).setCell ⟨nb, 1, none⟩ (.bool pup)).setCell ⟨nb, 2, none⟩ (.slice a8 pn c8)) (i := 16) (by kernel_rfl) rfl (by rfl) (by go_simp) ?_
        have HZ := Shut.mk (((HY3.out.put 0 rfl 0 (.int .i64 pid) (by simp)).put 0 rfl 1 (.bool pup) (by simp)).put 0 rfl 2 (.slice a8 pn c8) (by simp))
        clear q0 qf0 q1 qf1 q2 qf2 hx5 HY2 HY3
        simp only [List.set_cons_zero, List.set_cons_succ] at HZ
        simp only [Act.put]
        refine wpA_val (i := 17) (v := .bool pok) rfl (by kernel_rfl) (by kernel_rfl) (by kernel_rfl) (fun _ _ _ h => h) (by rfl) (fun x => by go_simp) ?_
        try simp only [Act.put, List.setIfInBounds_toArray, List.set_cons_zero, List.set_cons_succ]
        refine wpA_done (by kernel_rfl) ?_ _
        go_wp2_with fail
        go_meet
        case rel => exact ⟨nb, a8, c8, _, _, rfl, rfl, ⟨HZ.out⟩, hc8⟩
      · have HW := Shut.mk ((HTX.out x hx).new #[.int .i64 0, .bool false, .slice none 0 0] 46)
        obtain ⟨nb, hnb⟩ : ∃ nb, nb = x.heap.size := ⟨_, rfl⟩
        rw [← hnb] at HW ⊢
        generalize x.alloc (.cells #[.int .i64 0, .bool false, .slice none 0 0] 46) = xx at HW ⊢
        clear hnb hx
        try simp only [Act.put, List.setIfInBounds_toArray, List.set_cons_zero, List.set_cons_succ]
        refine wpD_onecall (f := 51) (args := #[.agg #[.int .i64 rid, .bool rup, .slice rl rn rc], .agg #[.int .i64 grp, .int .i64 (i : Nat), .string tx, .int .i64 0]]) (i := 11) (by kernel_rfl) rfl (by rfl) (fun x hx => by go_simp) (fun x hx => (HPU.out x (HW.out.below hx).bel).mono ?_)
        rintro e y2 ⟨a8, c8, rfl, hF, hc8, hb2⟩
        refine ⟨_, rfl, hb2, ?_⟩
        have HY2 := Shut.mk ((HW.out.below hx).add (s := rwS a8 (unS pus) _ _) hb2 hF (rwS.loc _ _ _ _) (Nat.le_refl _) (Nat.le_refl _))
        clear hF hb2 hx HW
        try simp only [Act.put, List.setIfInBounds_toArray, List.set_cons_zero, List.set_cons_succ]
        refine wpD_pure (i := 12) (v := ?vb12) rfl (by kernel_rfl) (by kernel_rfl) (by kernel_rfl) (by kernel_rfl) (fun _ _ _ h => h) (by rfl) ?hyb12 ?restb12
        case hyb12 => (intro x; go_simp; try with_reducible rfl)
        try simp only [Act.put, List.setIfInBounds_toArray, List.set_cons_zero, List.set_cons_succ]
        refine wpD_pure (i := 13) (v := ?vb13) rfl (by kernel_rfl) (by kernel_rfl) (by kernel_rfl) (by kernel_rfl) (fun _ _ _ h => h) (by rfl) ?hyb13 ?restb13
        case hyb13 => (intro x; go_simp; try with_reducible rfl)
        try simp only [Act.put, List.setIfInBounds_toArray, List.set_cons_zero, List.set_cons_succ]
        refine wpD_pure (i := 14) (v := ?vb14) rfl (by kernel_rfl) (by kernel_rfl) (by kernel_rfl) (by kernel_rfl) (fun _ _ _ h => h) (by rfl) ?hyb14 ?restb14
        case hyb14 => (intro x; go_simp; try with_reducible rfl)
        try simp only [Act.put, List.setIfInBounds_toArray, List.set_cons_zero, List.set_cons_succ]
        refine wpD_tail (by kernel_rfl) ?_
        intro x5 hx5
        have HY3 := Shut.mk (HY2.out.below hx5)
        obtain ⟨q0, qf0⟩ := HY3.out.bx 1 rfl 0 _ rfl
        obtain ⟨q1, qf1⟩ := HY3.out.bx 1 rfl 1 _ rfl
        obtain ⟨q2, qf2⟩ := HY3.out.bx 1 rfl 2 _ rfl
        refine wpA_step (y := ((x5.setCell ⟨nb, 0, none⟩ (.int .i64 pid)).setCell ⟨nb, 1, none⟩ (.bool pup)).setCell ⟨nb, 2, none⟩ (.slice a8 pn c8)) (i := 16) (by kernel_rfl) rfl (by rfl) (by go_simp) ?_
        have HZ := Shut.mk (((HY3.out.put 1 rfl 0 (.int .i64 pid) (by simp)).put 1 rfl 1 (.bool pup) (by simp)).put 1 rfl 2 (.slice a8 pn c8) (by simp))
        clear q0 qf0 q1 qf1 q2 qf2 hx5 HY2 HY3
        simp only [List.set_cons_zero, List.set_cons_succ] at HZ
        simp only [Act.put]
        refine wpA_val (i := 17) (v := .bool pok) rfl (by kernel_rfl) (by kernel_rfl) (by kernel_rfl) (fun _ _ _ h => h) (by rfl) (fun x => by go_simp) ?_
        try simp only [Act.put, List.setIfInBounds_toArray, List.set_cons_zero, List.set_cons_succ]
        refine wpA_done (by kernel_rfl) ?_ _
        go_wp2_with fail
        go_meet
        case rel => exact ⟨nb, a8, c8, _, _, rfl, rfl, ⟨HZ.out.swap⟩, hc8⟩
    case rest =>
      obtain ⟨nb, a8, c8, lo, hi, rfl, rfl, HS, hc8⟩ := hcut
      have HBQ := Shut.mk HS.out.bel
      cases pok with
      | false =>
        have HBW : Shut (Below w.heap.size w wc) := ⟨HB3.out.trans ((HG.out.bel.trans (HBQ.out.mono HG.out.bel.size)).mono HB3.out.size)⟩
        clear HS
        go_wp2_with (go_at_call 62; refine (HCP.out _ HBW.out).mono ?_; rintro e w8 hpost; obtain ⟨g8, c8', gs8, rfl, hc8', hwg⟩ := wg_of hpost HGH.out; have H8 := Shut.mk hwg; have HC8 := Shut.mk hc8'; clear hpost hwg hc8')
        go_ret2
        exact ⟨g8, c8', gs8, false, rfl, HC8.out, H8.out.base HBW.out⟩
      | true =>
        obtain ⟨x0, _⟩ := HS.out.bx 0 rfl 0 _ rfl
        obtain ⟨x1, _⟩ := HS.out.bx 0 rfl 1 _ rfl
        obtain ⟨x2, _⟩ := HS.out.bx 0 rfl 2 _ rfl
        have hrw := HS.out.is _ (List.mem_of_getElem? (show _[1]? = some (rwS a8 (unS pus) lo hi) from rfl))
        have HNW := Shut.mk (HG.out.host HBQ.out k HKG.out ⟨pid, pup, pus⟩ a8 c8 (frw_wide (show FRw _ _ (unS pus) lo hi from hrw.1) hrw.2.2.1 hrw.2.2.2) (by rw [← HPN.out]; exact hc8) (Nat.le_succ (m + i)) (by show pid = _; rw [HPA.out.1]; exact HRI.out) HPA.out.2)
        unfold hC at HNW
        dsimp only at HNW
        rw [setW3, ← HPN.out] at HNW
        have hwo := (HG.out.below HBQ.out).gw.out
        obtain ⟨y0, z0⟩ := hwo.2 (k * 3) _ (flat_get hC_len gs k HKG.out 0 (by omega))
        obtain ⟨y1, z1⟩ := hwo.2 (k * 3 + 1) _ (flat_get hC_len gs k HKG.out 1 (by omega))
        obtain ⟨y2, z2⟩ := hwo.2 (k * 3 + 2) _ (flat_get hC_len gs k HKG.out 2 (by omega))
        clear hwo hrw HS
        go_wp2_with fail
        go_roundw
        case rel => exact ⟨i + 1, by go_num, by omega, ⟨_, HNW.out⟩⟩
        case measure => simp [intOf]; omega
end Go.Proofs.YtoaifodmjkhiiaaDoor
/- HsB: Marks in rows of hosts. -/
namespace Go.Proofs.YtoaifodmjkhiiaaDoor
set_option maxRecDepth 100000
open Go.RowKit BigFrame
attribute [local go_sem ↓] Go.wp_at_zero Go.wp_at_succ

/-- One cell of a host of such a row is turned. -/
theorem GW.cell3 {w : World} {g lo hi : Nat} {rs : List HoR} (h : GW HK w g rs lo hi) (j : Nat) (hj : j < rs.length) (f : Nat) (hf : f < 3) (v : Value) (r : HoR) (hc : hC r = (hC rs[j]).set f v) (hl : r.loc = rs[j].loc) (hi' : r.h.us = rs[j].h.us) : GW HK (w.setCell ⟨g, j * 3 + f, none⟩ v) g (rs.set j r) lo hi := by
  have hin : ∀ s t : HoR, s.h.us = t.h.us → HK.inn s = HK.inn t := fun s t e => by show unS s.h.us = unS t.h.us; rw [e]
  refine ⟨?_, h.glo, h.ghi, fun s hs => ?_, ?_⟩
  · have q := h.out.set (j * 3 + f) v (by rw [HK.cells_len]; show j * 3 + f < rs.length * 3; omega)
    have e : (HK.cells rs).set (j * 3 + f) v = HK.cells (rs.set j r) := by
      apply List.ext_getElem?
      intro i
      by_cases hi : i < rs.length * 3
      · obtain ⟨a, b, hb, rfl⟩ : ∃ a b, b < 3 ∧ i = a * 3 + b := ⟨i / 3, i % 3, by omega, by omega⟩
        have ha : a < rs.length := by omega
        have e2 : (HK.cells (rs.set j r))[a * 3 + b]? = (hC ((rs.set j r)[a]'(by rw [List.length_set]; exact ha)))[b]? := HK.cells_get (rs.set j r) a (by rw [List.length_set]; exact ha) b hb
        have e1 : (HK.cells rs)[a * 3 + b]? = (hC rs[a])[b]? := HK.cells_get rs a ha b hb
        rw [e2, List.getElem?_set, List.getElem_set]
        by_cases hja : j = a
        · subst hja
          rw [if_pos rfl, hc, List.getElem?_set, hC_len]
          by_cases hfb : f = b
          · subst hfb
            rw [if_pos rfl, if_pos rfl, HK.cells_len, if_pos (by show j * 3 + f < rs.length * 3; omega), if_pos hf]
          · rw [if_neg (by omega), if_neg hfb, e1]
        · rw [if_neg (by omega), if_neg hja, e1]
      · have l1 : (HK.cells rs).length = rs.length * 3 := HK.cells_len rs
        have l2 : (HK.cells (rs.set j r)).length = rs.length * 3 := by rw [HK.cells_len, List.length_set]; rfl
        rw [List.getElem?_eq_none (by rw [List.length_set, l1]; omega), List.getElem?_eq_none (by rw [l2]; omega)]
    rw [e] at q
    exact q
  · rcases List.mem_or_eq_of_mem_set hs with q | rfl
    · rcases h.rows s q with e | ⟨b, e, q1, q2, q3, q4⟩
      · exact .inl e
      · exact .inr ⟨b, e, q1, q2, q3, WCells.turned q4 (Turned.of_grown (gb_set' w g (j * 3 + f) v) (Nat.le_refl _) (Nat.lt_succ_self _)) (by omega)⟩
    · rcases h.rows rs[j] (List.getElem_mem hj) with e | ⟨b, e, q1, q2, q3, q4⟩
      · exact .inl ((hin _ _ hi').trans e)
      · exact .inr ⟨b, hl.trans e, q1, q2, q3, by rw [hin _ _ hi']; exact WCells.turned q4 (Turned.of_grown (gb_set' w g (j * 3 + f) v) (Nat.le_refl _) (Nat.lt_succ_self _)) (by omega)⟩
  · refine List.pairwise_iff_getElem.2 fun a b ha hb hab h1 h2 => ?_
    rw [List.length_set] at ha hb
    have q := List.pairwise_iff_getElem.1 h.apart a b ha hb hab
    have same : ∀ c (hcl : c < rs.length), HK.inn ((rs.set j r)[c]'(by rw [List.length_set]; exact hcl)) = HK.inn rs[c] ∧ HK.loc ((rs.set j r)[c]'(by rw [List.length_set]; exact hcl)) = HK.loc rs[c] := fun c hcl => by
      rw [List.getElem_set]
      split
      · rename_i e; subst e; exact ⟨hin _ _ hi', hl⟩
      · exact ⟨rfl, rfl⟩
    rw [(same a ha).1] at h1
    rw [(same b hb).1] at h2
    rw [(same a ha).2, (same b hb).2]
    exact q h1 h2
/-- The units of a host of such a row are turned, as many as there were. -/
theorem GW.units {w w' : World} {g lo hi b : Nat} {rs : List HoR} (h : GW HK w g rs lo hi) (j : Nat) (hj : j < rs.length) (us : List UnM) (hlen : us.length = rs[j].h.us.length) (hne : 0 < us.length)
    (hb : rs[j].loc = some ⟨b, 0, none⟩) (hbg : b ≠ g) (h1 : lo ≤ b) (h2 : b < hi) (hg : w.grownBy w' (some b)) (hw : WCells w' b (unS us)) :
    GW HK w' g (rs.set j ⟨⟨rs[j].h.id, rs[j].h.up, us⟩, rs[j].loc, rs[j].cap⟩) lo hi := by
  have t : Turned w w' b (b + 1) := Turned.of_grown hg (Nat.le_refl _) (Nat.lt_succ_self _)
  have hinn : ∀ r : HoR, 0 < r.h.us.length → HK.inn r ≠ [] := fun r hr e => by
    have := congrArg List.length (show unS r.h.us = [] from e)
    rw [unS_len] at this
    simp at this
    omega
  have hsame : ∀ c (hc : c < rs.length), c ≠ j → (rs.set j (⟨⟨rs[j].h.id, rs[j].h.up, us⟩, rs[j].loc, rs[j].cap⟩ : HoR))[c]'(by rw [List.length_set]; exact hc) = rs[c] := fun c hc hcj => by rw [List.getElem_set_ne (Ne.symm hcj)]
  have hap : ∀ c (hc : c < rs.length), c ≠ j → HK.inn rs[c] ≠ [] → rs[c].loc ≠ rs[j].loc := fun c hc hcj h3 => by
    have hj0 : HK.inn rs[j] ≠ [] := hinn _ (by omega)
    rcases Nat.lt_or_gt_of_ne hcj with e | e
    · exact List.pairwise_iff_getElem.1 h.apart c j hc hj e h3 hj0
    · exact (List.pairwise_iff_getElem.1 h.apart j c hj hc e hj0 h3).symm
  refine ⟨?_, h.glo, h.ghi, fun s hs => ?_, ?_⟩
  · have e : HK.cells (rs.set j ⟨⟨rs[j].h.id, rs[j].h.up, us⟩, rs[j].loc, rs[j].cap⟩) = HK.cells rs := by
      apply List.ext_getElem?
      intro i
      by_cases hi : i < rs.length * 3
      · obtain ⟨a, c, hc, rfl⟩ : ∃ a c, c < 3 ∧ i = a * 3 + c := ⟨i / 3, i % 3, by omega, by omega⟩
        have ha : a < rs.length := by omega
        have e2 : (HK.cells (rs.set j (⟨⟨rs[j].h.id, rs[j].h.up, us⟩, rs[j].loc, rs[j].cap⟩ : HoR)))[a * 3 + c]? = (hC ((rs.set j (⟨⟨rs[j].h.id, rs[j].h.up, us⟩, rs[j].loc, rs[j].cap⟩ : HoR))[a]'(by rw [List.length_set]; exact ha)))[c]? := HK.cells_get _ a (by rw [List.length_set]; exact ha) c hc
        have e1 : (HK.cells rs)[a * 3 + c]? = (hC rs[a])[c]? := HK.cells_get rs a ha c hc
        rw [e2, e1, List.getElem_set]
        split
        · rename_i e; subst e; unfold hC; dsimp only; rw [hlen]
        · rfl
      · have l1 : (HK.cells rs).length = rs.length * 3 := HK.cells_len rs
        have l2 : (HK.cells (rs.set j (⟨⟨rs[j].h.id, rs[j].h.up, us⟩, rs[j].loc, rs[j].cap⟩ : HoR))).length = rs.length * 3 := by rw [HK.cells_len, List.length_set]; rfl
        rw [List.getElem?_eq_none (by rw [l2]; omega), List.getElem?_eq_none (by rw [l1]; omega)]
    rw [e]
    exact h.out.turned t (by omega)
  · obtain ⟨c, hc, rfl⟩ := List.getElem_of_mem hs
    have hc' : c < rs.length := by rw [List.length_set] at hc; exact hc
    by_cases hcj : c = j
    · subst hcj
      rw [List.getElem_set_self]
      exact .inr ⟨b, hb, h1, h2, hbg, hw⟩
    · rw [hsame c hc' hcj]
      rcases h.rows rs[c] (List.getElem_mem hc') with e | ⟨q, e, q1, q2, q3, q4⟩
      · exact .inl e
      · by_cases hq : HK.inn rs[c] = []
        · exact .inl hq
        · have hqb : q ≠ b := fun e2 => hap c hc' hcj hq (by
            have e3 : rs[c].loc = some ⟨q, 0, none⟩ := e
            rw [e3, hb, e2])
          exact .inr ⟨q, e, q1, q2, q3, q4.turned t (by omega)⟩
  · refine List.pairwise_iff_getElem.2 fun c d hc9 hd9 hcd h3 h4 => ?_
    have hc : c < rs.length := by rw [List.length_set] at hc9; exact hc9
    have hd : d < rs.length := by rw [List.length_set] at hd9; exact hd9
    have loc : ∀ z (hz : z < rs.length), HK.loc ((rs.set j (⟨⟨rs[j].h.id, rs[j].h.up, us⟩, rs[j].loc, rs[j].cap⟩ : HoR))[z]'(by rw [List.length_set]; exact hz)) = rs[z].loc := fun z hz => by
      rw [List.getElem_set]
      split
      · rename_i e; subst e; rfl
      · rfl
    rw [loc c hc, loc d hd]
    by_cases ec : c = j
    · subst ec
      rw [hsame d hd (by omega)] at h4
      exact (hap d hd (by omega) h4).symm
    · rw [hsame c hc ec] at h3
      by_cases ed : d = j
      · subst ed
        exact hap c hc ec h3
      · rw [hsame d hd ed] at h4
        exact List.pairwise_iff_getElem.1 h.apart c d hc hd hcd h3 h4
theorem mod3 (c : Nat) : ((c : Int).tmod 3 == 0) = (c % 3 == 0) := by
  have : (c : Int).tmod 3 = ((c % 3 : Nat) : Int) := by
    rw [Int.tmod_eq_emod_of_nonneg (by omega)]
    omega
  rw [this]
  cases h : c % 3 == 0 with
  | true => simp at h ⊢; omega
  | false => simp at h ⊢; omega
set_option maxRecDepth 100000 in
set_option maxHeartbeats 4000000 in
theorem markHostS_all (g : Nat) (rs : List HoR) (k9 ca lo hi : Nat) (w : World) (ha : GW HK w g rs lo hi) (hcp : ∀ r ∈ rs, r.h.us.length ≤ r.cap) (hk : 0 < k9) (hn : endH k9 (hms rs) ≤ 1000000000) :
    Calls Tryd.prog 13 #[.slice (some ⟨g, 0, none⟩) rs.length ca, .int .i64 k9] w fun e w' => e = .returned (.int .i64 (endH k9 (hms rs) : Nat)) ∧ ∃ ys : List HoR, ys.length = rs.length ∧ hms ys = marksH k9 (hms rs) ∧ (∀ r ∈ ys, r.h.us.length ≤ r.cap) ∧ GW HK w' g ys lo hi ∧ Turned w w' lo hi := by
  obtain ⟨n, hnn⟩ : ∃ n, n = rs.length := ⟨_, rfl⟩
  have HN := Shut.mk hnn
  obtain ⟨hs, hhs⟩ : ∃ q, q = hms rs := ⟨_, rfl⟩
  rw [← hnn, ← hhs]
  rw [← hhs] at hn
  have HHS := Shut.mk hhs
  have HA := Shut.mk ha
  have HCP := Shut.mk hcp
  have HL : Shut (hs.length = n) := ⟨by rw [hhs, hms_len, hnn]⟩
  have HEN : Shut (∀ j, endH k9 (hs.take j) ≤ endH k9 hs ∧ k9 ≤ endH k9 (hs.take j)) := ⟨fun j => by
    rw [endH_eq, endH_eq]
    have e1 : hs.length = (hs.take j).length + (hs.drop j).length := by rw [← List.length_append, List.take_append_drop]
    have e2 : (hs.map fun h => h.us.length).sum = ((hs.take j).map fun h => h.us.length).sum + ((hs.drop j).map fun h => h.us.length).sum := by rw [← List.sum_append, ← List.map_append, List.take_append_drop]
    omega⟩
  have hl : n ≤ 1000000000 := by have := endH_eq k9 hs; have := HL.out; omega
  clear ha hcp hnn hhs
  go_enter Tryd.func13, Tryd.ntmps13
  go_wp2_with fail
  go_loopw [1, 5] (fun v i wr => ∃ (j c : Nat) (ys : List HoR), i = .int .i64 j ∧ v = .int .i64 c ∧ j ≤ n ∧ Shut (c = endH k9 (hs.take j)) ∧ Shut (ys.length = n ∧ (∀ r ∈ ys, r.h.us.length ≤ r.cap) ∧ (∀ t (ht : t < n) (hy : t < ys.length) (hm : t < (marksH k9 hs).length), t < j → ys[t].h = (marksH k9 hs)[t]) ∧ (∀ t, j ≤ t → ys[t]? = rs[t]?)) ∧ Shut (GW HK wr g ys lo hi ∧ Turned w wr lo hi)) (fun _ i _ => n - (intOf i).toNat)
  case atStart => exact ⟨0, k9, rs, rfl, rfl, Nat.zero_le _, ⟨by simp [endH]⟩, ⟨HN.out.symm, HCP.out, fun t _ _ _ ht => by omega, fun t _ => rfl⟩, ⟨HA.out, Turned.refl _ _ _⟩⟩
  case round =>
    obtain ⟨j, c, ys, rfl, rfl, hj, HC, HY, HW⟩ := hrel
    by_cases hlt : j < n
    · have j0 : (0 : Int) ≤ (j : Int) := by omega
      have j1 : (j : Int) < (n : Int) := by omega
      have hjy : j < ys.length := by have := HY.out.1; omega
      have hjr : j < rs.length := by have := HN.out; omega
      have hyr : ys[j] = rs[j] := by
        have q := HY.out.2.2.2 j (Nat.le_refl _)
        rw [List.getElem?_eq_getElem hjy, List.getElem?_eq_getElem hjr] at q
        exact Option.some.inj q
      have hjs : j < hs.length := by have := HL.out; omega
      have hsj : hs[j] = ys[j].h := by rw [hyr]; simp [HHS.out, hms]
      have hcb : c + 2 + 4 * ys[j].h.us.length ≤ 1000000000 := by
        have q1 := HEN.out (j + 1)
        rw [endH_take k9 hs j hjs, ← HC.out, hsj] at q1
        omega
      have HNX : Shut (c + 2 + 4 * ys[j].h.us.length = endH k9 (hs.take (j + 1))) := ⟨by rw [endH_take k9 hs j hjs, ← HC.out, hsj]⟩
      have hc0 : 0 < c := by have := (HEN.out j).2; have := HC.out; omega
      obtain ⟨y, hy⟩ : ∃ y, y = ys[j] := ⟨_, rfl⟩
      have hw0 := HW.out.1.out
      obtain ⟨c0, z0⟩ := hw0.2 (j * 3) _ (HK.cells_get ys j hjy 0 (by decide))
      obtain ⟨c1, z1⟩ := hw0.2 (j * 3 + 1) _ (HK.cells_get ys j hjy 1 (by decide))
      obtain ⟨c2, z2⟩ := hw0.2 (j * 3 + 2) _ (HK.cells_get ys j hjy 2 (by decide))
      rw [← hy] at hcb HNX
      obtain ⟨q, hq⟩ : ∃ q, q = ((c + 1) % 3 == 0) := ⟨_, rfl⟩
      have hq2 : (((c : Int) + 1) % 3 == 0) = q := by
        rw [hq, ← mod3, Int.tmod_eq_emod_of_nonneg (by omega)]
        push_cast
        rfl
      have HG1 : Shut (GW HK (wr.setCell ⟨g, j * 3, none⟩ (.int .i64 c)) g (ys.set j ⟨⟨c, y.h.up, y.h.us⟩, y.loc, y.cap⟩) lo hi) := ⟨by
        have k := HW.out.1.cell3 j hjy 0 (by decide) (.int .i64 c) ⟨⟨c, y.h.up, y.h.us⟩, y.loc, y.cap⟩ (by rw [hy]; rfl) (by rw [hy]) (by rw [hy])
        rw [Nat.add_zero] at k
        exact k⟩
      have HG2 : Shut (GW HK ((wr.setCell ⟨g, j * 3, none⟩ (.int .i64 c)).setCell ⟨g, j * 3 + 1, none⟩ (.bool q)) g (ys.set j ⟨⟨c, q, y.h.us⟩, y.loc, y.cap⟩) lo hi) := ⟨by
        have k := HG1.out.cell3 j (by rw [List.length_set]; exact hjy) 1 (by decide) (.bool q) ⟨⟨c, q, y.h.us⟩, y.loc, y.cap⟩ (by rw [List.getElem_set_self]; rfl) (by rw [List.getElem_set_self]) (by rw [List.getElem_set_self])
        rw [List.set_set] at k
        exact k⟩
      have HT2 : Shut (Turned w ((wr.setCell ⟨g, j * 3, none⟩ (.int .i64 c)).setCell ⟨g, j * 3 + 1, none⟩ (.bool q)) lo hi) := ⟨(HW.out.2.trans (Turned.of_grown (gb_set' _ g _ _) HW.out.1.glo HW.out.1.ghi)).trans (Turned.of_grown (gb_set' _ g _ _) HW.out.1.glo HW.out.1.ghi)⟩
      have HMK : Shut (∀ m, m = y.h.us.length → (⟨(c : Nat), q, marksU (c + 2) m⟩ : HM) = (marksH k9 hs)[j]'(by rw [marksH_len]; exact hjs)) := ⟨fun m hm => by rw [marksH_at k9 hs j hjs, ← HC.out, hq, hm, hsj, ← hy]⟩
      have HCY : Shut (y.h.us.length ≤ y.cap) := ⟨by rw [hy]; exact HY.out.2.1 _ (List.getElem_mem hjy)⟩
      have HDONE : Shut (∀ (m : Nat) (r : HoR), m = y.h.us.length → r.h = ⟨(c : Nat), q, marksU (c + 2) m⟩ → r.cap = y.cap → ((ys.set j r).length = n ∧ (∀ s ∈ ys.set j r, s.h.us.length ≤ s.cap) ∧ (∀ t (ht : t < n) (h1 : t < (ys.set j r).length) (hm : t < (marksH k9 hs).length), t < j + 1 → (ys.set j r)[t].h = (marksH k9 hs)[t]) ∧ (∀ t, j + 1 ≤ t → (ys.set j r)[t]? = rs[t]?))) := ⟨fun m r hm hr hrc => ⟨by rw [List.length_set]; exact HY.out.1, fun s hs9 => by
          rcases List.mem_or_eq_of_mem_set hs9 with e | rfl
          · exact HY.out.2.1 s e
          · rw [hr, hrc]; show (marksU (c + 2) m).length ≤ y.cap; rw [marksU_len, hm]; exact HCY.out, fun t ht h1 h2 htj => by
          rw [List.length_set] at h1
          rw [List.getElem_set]
          split
          · rename_i e; subst e; rw [hr]; exact HMK.out m hm
          · exact HY.out.2.2.1 t ht h1 h2 (by omega), fun t ht => by rw [List.getElem?_set_ne (by omega)]; exact HY.out.2.2.2 t (by omega)⟩⟩
      obtain ⟨m, hm⟩ : ∃ m, m = y.h.us.length := ⟨_, rfl⟩
      have at9 : ∀ (r : HoR) (W : World), GW HK W g (ys.set j r) lo hi → ∀ f v, f < 3 → (hC r)[f]? = some v → W.cell? ⟨g, j * 3 + f, none⟩ = some v ∧ W.frozen? ⟨g, j * 3 + f, none⟩ = false := fun r W h f v hf hv => h.out.2 (j * 3 + f) v (by
        have k := HK.cells_get (ys.set j r) j (by rw [List.length_set]; exact hjy) f hf
        rw [List.getElem_set_self] at k
        exact k.trans hv)
      obtain ⟨a1, b1⟩ := at9 _ _ HG1.out 1 _ (by omega) rfl
      obtain ⟨a2, b2⟩ := at9 _ _ HG2.out 2 _ (by omega) rfl
      have HROW : Shut (y.h.us = [] ∨ ∃ b, y.loc = some ⟨b, 0, none⟩ ∧ lo ≤ b ∧ b < hi ∧ b ≠ g ∧ WCells ((wr.setCell ⟨g, j * 3, none⟩ (.int .i64 c)).setCell ⟨g, j * 3 + 1, none⟩ (.bool q)) b (unS y.h.us)) := ⟨by
        rcases HG2.out.rows ⟨⟨c, q, y.h.us⟩, y.loc, y.cap⟩ (List.mem_set hjy _) with e | h
        · left
          have e1 : unS y.h.us = [] := e
          have e3 := congrArg List.length e1
          rw [unS_len] at e3
          exact List.eq_nil_of_length_eq_zero (by simp at e3; omega)
        · exact .inr h⟩
      have HCW : Shut (((c + 2 : Nat) : Int) = (c : Int) + 1 + 1) := ⟨by omega⟩
      rw [← hm] at a2 hcb HNX
      have HM9 := Shut.mk hm
      have HSS : Shut (∀ us9, (ys.set j (⟨⟨c, q, y.h.us⟩, y.loc, y.cap⟩ : HoR)).set j ⟨⟨c, q, us9⟩, y.loc, y.cap⟩ = ys.set j ⟨⟨c, q, us9⟩, y.loc, y.cap⟩) := ⟨fun us9 => by rw [List.set_set]⟩
      have HGJ : Shut ((ys.set j (⟨⟨c, q, y.h.us⟩, y.loc, y.cap⟩ : HoR))[j]'(by rw [List.length_set]; exact hjy) = ⟨⟨c, q, y.h.us⟩, y.loc, y.cap⟩) := ⟨List.getElem_set_self _⟩
      have hlj : j < (ys.set j (⟨⟨c, q, y.h.us⟩, y.loc, y.cap⟩ : HoR)).length := by rw [List.length_set]; exact hjy
      clear hw0 c1 z1 c2 z2 at9 hq hm hyr hsj hy
      by_cases hm0 : m = 0
      · have HZ := Shut.mk (fun W => markUnitS_zero y.loc (c + 2) y.cap W)
        simp only [HCW.out] at HZ
        have HNIL : Shut (y.h.us = []) := ⟨List.eq_nil_of_length_eq_zero (by have := HM9.out; omega)⟩
        subst hm0
        go_wp2_with (go_at_call 33; refine (HZ.out _).mono ?_; rintro e w3 ⟨rfl, hw3⟩; subst hw3)
        go_roundw
        case rel => exact ⟨j + 1, c + 2, ys.set j ⟨⟨c, q, []⟩, y.loc, y.cap⟩, by go_num, congrArg (Value.int .i64) (by omega), by omega, ⟨by have := HNX.out; omega⟩, ⟨HDONE.out 0 _ HM9.out rfl rfl⟩, ⟨by have k := HG2.out; rw [HNIL.out] at k; exact k, HT2.out⟩⟩
        case measure => simp [intOf]; omega
      · obtain ⟨b, hb, hb1, hb2, hbg, hbw⟩ : ∃ b, y.loc = some ⟨b, 0, none⟩ ∧ lo ≤ b ∧ b < hi ∧ b ≠ g ∧ WCells ((wr.setCell ⟨g, j * 3, none⟩ (.int .i64 c)).setCell ⟨g, j * 3 + 1, none⟩ (.bool q)) b (unS y.h.us) := by
          rcases HROW.out with e | h
          · exact absurd (by have := HM9.out; rw [e] at this; exact this) hm0
          · exact h
        have HMU := Shut.mk (markUnitS_all b y.h.us (c + 2) y.cap _ hbw (by omega) (by have := HM9.out; omega) HCY.out)
        rw [← HM9.out, ← hb, HCW.out] at HMU
        have HBB := Shut.mk (And.intro hb (And.intro hb1 (And.intro hb2 hbg)))
        clear hbw hb hb1 hb2 hbg
        go_wp2_with (go_at_call 33; refine HMU.out.mono ?_; rintro e w3 ⟨rfl, hw3, hg3⟩; have HW3 := Shut.mk (And.intro hw3 hg3); clear hw3 hg3)
        have HG3 : Shut (GW HK w3 g (ys.set j ⟨⟨c, q, marksU (c + 2) m⟩, y.loc, y.cap⟩) lo hi ∧ Turned w w3 lo hi) := ⟨by
          have k := HG2.out.units j hlj (marksU (c + 2) m) (by rw [marksU_len, HGJ.out]; exact HM9.out) (by rw [marksU_len]; omega) (b := b) (by rw [HGJ.out]; exact HBB.out.1) HBB.out.2.2.2 HBB.out.2.1 HBB.out.2.2.1 HW3.out.2 HW3.out.1
          rw [HGJ.out] at k
          dsimp only at k
          rw [HSS.out] at k
          exact ⟨k, HT2.out.trans (Turned.of_grown HW3.out.2 HBB.out.2.1 HBB.out.2.2.1)⟩⟩
        go_roundw
        case rel => exact ⟨j + 1, c + 2 + 4 * m, ys.set j ⟨⟨c, q, marksU (c + 2) m⟩, y.loc, y.cap⟩, by go_num, rfl, by omega, HNX, ⟨HDONE.out m _ HM9.out rfl rfl⟩, HG3⟩
        case measure => simp [intOf]; omega
    · obtain rfl : n = j := by omega
      have HE : Shut (c = endH k9 hs) := ⟨by rw [HC.out, List.take_of_length_le (by rw [HL.out]; exact Nat.le_refl _)]⟩
      have HM : Shut (hms ys = marksH k9 hs) := ⟨by
        apply List.ext_getElem
        · rw [hms_len, marksH_len, HL.out, HY.out.1]
        · intro t h1 h2
          rw [hms_len] at h1
          have q := HY.out.2.2.1 t (by have := HY.out.1; omega) h1 h2 (by have := HY.out.1; omega)
          simp only [hms, List.getElem_map]
          exact q⟩
      go_wp2_with fail
      go_ret
      exact ⟨by rw [HE.out]; rfl, ys, HY.out.1, HM.out, HY.out.2.1, HW.out.1, HW.out.2⟩
end Go.Proofs.YtoaifodmjkhiiaaDoor
/- DrHs: Hosts that are drawn: beside a cursor that turns, in memory of their own. -/
namespace Go.Proofs.YtoaifodmjkhiiaaDoor
set_option maxRecDepth 100000
open Go.RowKit BigFrame

/-- A row that was made behind the others takes a host's place. -/
theorem GW.host2 {w : World} {g lo hi hi2 : Nat} {rs : List HoR} (h : GW HK w g rs lo hi) (j : Nat) (hj : j < rs.length) (H : HM) (a : Option Addr) (cap : Nat) (hF : FRw w a (unS H.us) hi hi2) (hlo : lo ≤ hi) (hhi : hi ≤ hi2) :
    GW HK (setW w g (j * 3) (hC ⟨H, a, cap⟩)) g (rs.set j ⟨H, a, cap⟩) lo hi2 := by
  have k := h.wide (Nat.le_refl _) hhi
  refine k.put j hj ⟨H, a, cap⟩ ?_ fun s hs h1 h2 e => ?_
  · rcases hF with ⟨_, e⟩ | ⟨q, e, q1, q2, q3⟩
    · exact .inl e
    · exact .inr ⟨q, e, by omega, q2, by have := h.ghi; omega, q3⟩
  · rcases h.rows s hs with q | ⟨b, e1, q1, q2, q3, q4⟩
    · exact h1 q
    · rcases hF with ⟨_, q⟩ | ⟨q, e2, p1, p2, p3⟩
      · exact h2 q
      · have : some (⟨b, 0, none⟩ : Addr) = some ⟨q, 0, none⟩ := by rw [← e1, ← e2]; exact e
        simp only [Option.some.injEq, Addr.mk.injEq, and_true] at this
        omega
theorem GW.cell3n {w : World} {g lo hi : Nat} {rs : List HoR} (h : GW HK w g rs lo hi) (j : Nat) (hj : j < rs.length) (a : Option Addr) (cap : Nat) : GW HK (w.setCell ⟨g, j * 3 + 2, none⟩ (.slice a 0 cap)) g (rs.set j ⟨⟨rs[j].h.id, rs[j].h.up, []⟩, a, cap⟩) lo hi := by
  have hc : hC ⟨⟨rs[j].h.id, rs[j].h.up, []⟩, a, cap⟩ = (hC rs[j]).set 2 (.slice a 0 cap) := rfl
  have hnone : HK.inn ⟨⟨rs[j].h.id, rs[j].h.up, []⟩, a, cap⟩ = [] := rfl
  generalize hr : (⟨⟨rs[j].h.id, rs[j].h.up, []⟩, a, cap⟩ : HoR) = r at *
  refine ⟨?_, h.glo, h.ghi, fun s hs => ?_, ?_⟩
  · have q := h.out.set (j * 3 + 2) (.slice a 0 cap) (by rw [HK.cells_len]; show j * 3 + 2 < rs.length * 3; omega)
    have e : (HK.cells rs).set (j * 3 + 2) (.slice a 0 cap) = HK.cells (rs.set j r) := by
      apply List.ext_getElem?
      intro i
      by_cases hi : i < rs.length * 3
      · obtain ⟨x, b, hb, rfl⟩ : ∃ x b, b < 3 ∧ i = x * 3 + b := ⟨i / 3, i % 3, by omega, by omega⟩
        have ha : x < rs.length := by omega
        have e2 : (HK.cells (rs.set j r))[x * 3 + b]? = (hC ((rs.set j r)[x]'(by rw [List.length_set]; exact ha)))[b]? := HK.cells_get (rs.set j r) x (by rw [List.length_set]; exact ha) b hb
        have e1 : (HK.cells rs)[x * 3 + b]? = (hC rs[x])[b]? := HK.cells_get rs x ha b hb
        rw [e2, List.getElem?_set, List.getElem_set]
        by_cases hja : j = x
        · subst hja
          rw [if_pos rfl, hc, List.getElem?_set, hC_len]
          by_cases hfb : 2 = b
          · subst hfb
            rw [if_pos rfl, if_pos rfl, HK.cells_len, if_pos (by show j * 3 + 2 < rs.length * 3; omega), if_pos (by decide)]
          · rw [if_neg (by omega), if_neg hfb, e1]
        · rw [if_neg (by omega), if_neg hja, e1]
      · have l1 : (HK.cells rs).length = rs.length * 3 := HK.cells_len rs
        have l2 : (HK.cells (rs.set j r)).length = rs.length * 3 := by rw [HK.cells_len, List.length_set]; rfl
        rw [List.getElem?_eq_none (by rw [List.length_set, l1]; omega), List.getElem?_eq_none (by rw [l2]; omega)]
    rw [e] at q
    exact q
  · rcases List.mem_or_eq_of_mem_set hs with q | rfl
    · rcases h.rows s q with e | ⟨b, e, q1, q2, q3, q4⟩
      · exact .inl e
      · exact .inr ⟨b, e, q1, q2, q3, WCells.turned q4 (Turned.of_grown (gb_set' w g (j * 3 + 2) (.slice a 0 cap)) (Nat.le_refl _) (Nat.lt_succ_self _)) (by omega)⟩
    · exact .inl hnone
  · refine List.pairwise_iff_getElem.2 fun x y hx hy hxy h1 h2 => ?_
    rw [List.length_set] at hx hy
    rw [List.getElem_set] at h1 h2 ⊢
    rw [List.getElem_set]
    split at h1
    · exact absurd hnone h1
    · split at h2
      · exact absurd hnone h2
      · rename_i n1 n2
        rw [if_neg n1, if_neg n2]
        exact List.pairwise_iff_getElem.1 h.apart x y hx hy hxy h1 h2
theorem Cur.grow9 {w w' : World} {g B len cap : Nat} {a : Option Addr} (h : Cur w g B a len cap) {row : Option Nat} (hg : w.grownBy w' row) (hr : ∀ q, row = some q → q ≠ g ∧ B ≤ q) : Cur w' g B a len cap := by
  obtain ⟨h1, h2, h3, h4, ⟨i, h5, h5'⟩, ⟨k, h6⟩, h7⟩ := h
  have hb : w'.heap[g]? = w.heap[g]? := hg.block g h2 fun e => (hr g e.symm).1 rfl
  refine ⟨h1, Nat.lt_of_lt_of_le h2 hg.size, ⟨h3.1, fun hp' => ?_⟩, (World.cell?_of_block (a := ⟨g, 0, none⟩) hb).trans h4, ⟨i, (World.cell?_of_block (a := ⟨g, 1, none⟩) hb).trans h5, h5'⟩, ⟨k, (World.cell?_of_block (a := ⟨g, 2, none⟩) hb).trans h6⟩, fun j hj => (World.frozen?_of_block (a := ⟨g, j, none⟩) hb).trans (h7 j hj)⟩
  obtain ⟨b, off, e, hbB, hx⟩ := h3.2 hp'
  have hbb : w'.heap[b]? = w.heap[b]? := hg.block b (by omega) fun e => by have := (hr b e.symm).2; omega
  exact ⟨b, off, e, hbB, fun j hj => (hx j hj).imp fun x hx => ⟨(World.cell?_of_block (a := ⟨b, off + j, none⟩) hbb).trans hx.1, hx.2⟩⟩
/-- Good hosts beside a cursor. -/
structure DH (w0 W : World) (g B : Nat) (a : Option Addr) (len cap : Nat) (S : List Str) (base hi gH : Nat) (gs : List HoR) (m : Nat) : Prop where
  sd : SD w0 W g B a len cap S
  gw : GW HK W gH gs base hi
  caps : ∀ r ∈ gs, r.h.us.length ≤ r.cap
  good : GH (hms gs) m
  glt : g < base
  slt : ∀ s ∈ S, s.hi ≤ base
  blt : w0.heap.size ≤ base
  hlt : hi ≤ W.heap.size
  bhi : base ≤ hi
section
variable {w0 W W' : World} {g B len cap base hi gH m : Nat} {a : Option Addr} {S : List Str} {gs : List HoR}
theorem SD.other (h : SD w0 W g B a len cap S) {q : Nat} (hg : W.grownBy W' (some q)) (h1 : g < q) (h2 : ∀ s ∈ S, s.hi ≤ q) (h3 : w0.heap.size ≤ q) : SD w0 W' g B a len cap S :=
  ⟨h.sl.grown hg (fun k e => by cases e; exact ⟨h3, fun s hs => .inl (h2 s hs)⟩), h.cur.grow9 hg (fun k e => by cases e; exact ⟨by omega, Nat.le_trans h.hB h3⟩), h.far, h.hg, h.hB⟩
theorem DH.draw (h : DH w0 W g B a len cap S base hi gH gs m) (hd : Dr g B a len cap W W') : DH w0 W' g B a len cap S base hi gH gs m :=
  ⟨h.sd.draw hd, h.gw.turned (Turned.of_grown hd.1 (Nat.le_refl g) (Nat.lt_succ_self g)) (.inr h.glt), h.caps, h.good, h.glt, h.slt, h.blt, Nat.le_trans h.hlt hd.1.size, h.bhi⟩
theorem DH.below (h : DH w0 W g B a len cap S base hi gH gs m) (hb : Below W.heap.size W W') : DH w0 W' g B a len cap S base hi gH gs m :=
  h.draw (h.sd.dr_below hb)
theorem DH.row (h : DH w0 W g B a len cap S base hi gH gs m) : HsRow W (some ⟨gH, 0, none⟩) gs := (show HsW W (some ⟨gH, 0, none⟩) gs base hi from ⟨h.caps, .inr ⟨gH, rfl, h.gw⟩⟩).row
theorem DH.mono {m' : Nat} (h : DH w0 W g B a len cap S base hi gH gs m) (hm : m ≤ m') : DH w0 W g B a len cap S base hi gH gs m' := ⟨h.sd, h.gw, h.caps, h.good.mono hm, h.glt, h.slt, h.blt, h.hlt, h.bhi⟩
theorem DH.seven (h : DH w0 W g B a len cap S base hi gH gs m) : gs.length = 7 := by have := h.good.1; rw [hms_len] at this; exact this
theorem DH.at (h : DH w0 W g B a len cap S base hi gH gs m) (k : Nat) (hk : k < gs.length) : gs[k].h.id = (k : Int) + 1 ∧ HGood gs[k].h.id gs[k].h.us m := by
  have q := h.good.2 k (by rw [hms_len]; exact hk)
  simpa [hms] using q
theorem DH.set (h : DH w0 W g B a len cap S base hi gH gs m) (k : Nat) (hk : k < gs.length) (r : HoR) (hi' : Nat) (hw : GW HK W' gH (gs.set k r) base hi') (hg : W.grownBy W' (some gH)) (hc : r.h.us.length ≤ r.cap) (hid : r.h.id = gs[k].h.id) (hgd : HGood r.h.id r.h.us m) (h1 : hi' ≤ W'.heap.size) : DH w0 W' g B a len cap S base hi' gH (gs.set k r) m := by
  have l := h.gw.glo
  refine ⟨h.sd.other hg (by have := h.glt; omega) (fun s hs => Nat.le_trans (h.slt s hs) l) (Nat.le_trans h.blt l), hw, fun x hx => ?_, ?_, h.glt, h.slt, h.blt, h1, by have := hw.glo; have := hw.ghi; omega⟩
  · rcases List.mem_or_eq_of_mem_set hx with q | rfl
    · exact h.caps x q
    · exact hc
  · have e : hms (gs.set k r) = (hms gs).set k r.h := by unfold hms; rw [List.map_set]
    rw [e]
    exact h.good.set k r.h (Nat.le_refl _) (by rw [hid]; exact (h.at k hk).1) hgd
theorem DH.up (h : DH w0 W g B a len cap S base hi gH gs m) (k : Nat) (hk : k < gs.length) (b : Bool) : DH w0 (W.setCell ⟨gH, k * 3 + 1, none⟩ (.bool b)) g B a len cap S base hi gH (gs.set k ⟨⟨gs[k].h.id, b, gs[k].h.us⟩, gs[k].loc, gs[k].cap⟩) m :=
  h.set k hk _ hi (h.gw.cell3 k hk 1 (by decide) (.bool b) _ rfl rfl rfl) (gb_set' W gH _ _) (show gs[k].h.us.length ≤ gs[k].cap from h.caps gs[k] (List.getElem_mem hk)) rfl (h.at k hk).2 (by simp [World.setCell]; exact h.hlt)
theorem DH.empty (h : DH w0 W g B a len cap S base hi gH gs m) (k : Nat) (hk : k < gs.length) (b : Option Addr) (c : Nat) : DH w0 (W.setCell ⟨gH, k * 3 + 2, none⟩ (.slice b 0 c)) g B a len cap S base hi gH (gs.set k ⟨⟨gs[k].h.id, gs[k].h.up, []⟩, b, c⟩) m :=
  h.set k hk _ hi (h.gw.cell3n k hk b c) (gb_set' W gH _ _) (Nat.zero_le _) rfl (good_none (h.at k hk).2) (by simp [World.setCell]; exact h.hlt)
theorem gb_setW (w : World) (g off : Nat) (vs : List Value) : w.grownBy (setW w g off vs) (some g) := by
  induction vs generalizing w off with
  | nil => exact gb_below (Below.refl _ _)
  | cons v vs ih => exact gb_two (gb_set' w g off v) (ih _ _)
theorem DH.host (h : DH w0 W g B a len cap S base hi gH gs m) (k : Nat) (hk : k < gs.length) (H : HM) (b : Option Addr) (c : Nat) (hi2 : Nat) (hF : FRw W b (unS H.us) hi hi2) (hh : hi ≤ hi2) (h2 : hi2 ≤ W.heap.size) (hc : H.us.length ≤ c) (hid : H.id = gs[k].h.id) (hgd : HGood H.id H.us m) :
    DH w0 (setW W gH (k * 3) (hC ⟨H, b, c⟩)) g B a len cap S base hi2 gH (gs.set k ⟨H, b, c⟩) m :=
  h.set k hk ⟨H, b, c⟩ hi2 (h.gw.host2 k hk H b c hF h.bhi hh) (gb_setW W gH _ _) hc hid hgd (by rw [setW_sz]; exact h2)
/-- Hosts that WriteGroup left take their place. -/
theorem DH.wrote {gH' m' : Nat} {gs' : List HoR} (h : DH w0 W g B a len cap S base hi gH gs m) (hw : WG W W' gH' gs' m') : DH w0 W' g B a len cap S base W'.heap.size gH' gs' m' :=
  ⟨h.sd.below hw.bel, hw.gw.wide (Nat.le_trans h.bhi h.hlt) (Nat.le_refl _), hw.caps, hw.good, h.glt, h.slt, h.blt, Nat.le_refl _, Nat.le_trans (Nat.le_trans h.bhi h.hlt) hw.bel.size⟩
/-- Hosts without units, one behind the other. -/
structure D1 (w0 W : World) (g B : Nat) (a : Option Addr) (len cap : Nat) (S : List Str) (base : Nat) (v : Value) (gs : List HoR) : Prop where
  sd : SD w0 W g B a len cap S
  own : W.ownsRow base 46 3 v gs.length (hS gs)
  bare : ∀ r ∈ gs, r.h.us = []
  ids : ∀ i (h : i < gs.length), gs[i].h.id = (i : Int) + 1
  glt : g < base
  slt : ∀ s ∈ S, s.hi ≤ base
  blt : w0.heap.size ≤ base
  size : base ≤ W.heap.size
theorem D1.draw {v : Value} (h : D1 w0 W g B a len cap S base v gs) (hd : Dr g B a len cap W W') : D1 w0 W' g B a len cap S base v gs :=
  ⟨h.sd.draw hd, h.own.kept hd.1 (by
    cases e : v.ownBlock with
    | none => exact .inl rfl
    | some q => exact .inr fun e2 => by have := (h.own.lt q e).1; have := h.glt; cases e2; omega), h.bare, h.ids, h.glt, h.slt, h.blt, Nat.le_trans h.size hd.1.size⟩
theorem D1.more {Wa : World} {v v' : Value} (h : D1 w0 W g B a len cap S base v gs) (hb : Below W.heap.size W Wa) (up : Bool) (ho : W'.ownsRow base 46 3 v' (gs.length + 1) (hS gs ++ hC ⟨⟨(gs.length : Int) + 1, up, []⟩, none, 0⟩)) (hg : Wa.grownBy W' v.ownBlock) : D1 w0 W' g B a len cap S base v' (gs ++ [⟨⟨(gs.length : Int) + 1, up, []⟩, none, 0⟩]) := by
  have k := h.draw (h.sd.dr_below hb)
  refine ⟨?_, ?_, fun r hr => ?_, fun i hi => ?_, h.glt, h.slt, h.blt, Nat.le_trans k.size hg.size⟩
  · cases e : v.ownBlock with
    | none => rw [e] at hg; exact k.sd.below ⟨hg.os, hg.tape, hg.output, hg.size, fun k hk => hg.block k hk (by simp)⟩
    | some q =>
      rw [e] at hg
      have l := (k.own.lt q e).1
      exact k.sd.other hg (by have := h.glt; omega) (fun s hs => Nat.le_trans (h.slt s hs) l) (Nat.le_trans h.blt l)
  · rw [List.length_append]
    have e : hS (gs ++ [⟨⟨(gs.length : Int) + 1, up, []⟩, none, 0⟩]) = hS gs ++ hC ⟨⟨(gs.length : Int) + 1, up, []⟩, none, 0⟩ := by show (gs ++ [_]).flatMap hC = _; rw [List.flatMap_append]; simp [hS, NK.cells, HK]
    rw [e]
    exact ho
  · rcases List.mem_append.1 hr with q | q
    · exact h.bare r q
    · rw [List.mem_singleton] at q; subst q; rfl
  · rw [List.length_append] at hi
    by_cases q : i < gs.length
    · rw [List.getElem_append_left q]; exact h.ids i q
    · have e : i = gs.length := by simp at hi; omega
      subst e
      simp
theorem D1.done {v : Value} (h : D1 w0 W g B a len cap S base v gs) (h7 : gs.length = 7) : ∃ gH c, v = .slice (some ⟨gH, 0, Option.none⟩) 7 c ∧ DH w0 W g B a len cap S base W.heap.size gH gs 0 := by
  rcases h.own.2 with ⟨e, h0⟩ | ⟨q, c, cur, e, hb, hg, hc, _⟩
  · omega
  · have hlt := (h.own.lt q (by rw [e]; rfl)).2
    have hw : WCells W q (hS gs) := by
      have k := h.own
      rw [e] at k
      exact own_wcells k
    have hin : ∀ r ∈ gs, HK.inn r = [] := fun r hr => by show unS r.h.us = []; rw [h.bare r hr]; rfl
    refine ⟨q, c, by rw [e, h7], h.sd, ⟨hw, hb, hlt, fun r hr => .inl (hin r hr), List.pairwise_iff_getElem.2 fun i j hi hj _ h1 => absurd (hin _ (List.getElem_mem hi)) h1⟩, fun r hr => by rw [h.bare r hr]; exact Nat.zero_le _, ⟨by rw [hms_len]; exact h7, fun i hi => ?_⟩, h.glt, h.slt, h.blt, Nat.le_refl _, h.size⟩
    rw [hms_len] at hi
    have e1 : (hms gs)[i]'(by rw [hms_len]; exact hi) = gs[i].h := by simp [hms]
    rw [e1, h.bare _ (List.getElem_mem hi)]
    refine ⟨h.ids i hi, ?_, Nat.zero_le _⟩
    rw [h.ids i hi]
    unfold hostOk inI
    simp [unitsOk]
    omega
end
end Go.Proofs.YtoaifodmjkhiiaaDoor
