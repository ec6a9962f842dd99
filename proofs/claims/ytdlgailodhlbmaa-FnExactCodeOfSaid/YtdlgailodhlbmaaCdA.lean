/- The program's own SchemaOf, sumRow, CodeOf. -/
import Derived.Test.YtdlgailodhlbmaaCodA
import Derived.Test.YtdlgailodhlbmaaPrG
import Derived.Test.YtdlgailodhlbmaaFieldG
namespace Go.Proofs.Ytdlgailodhlbmaa
open Go.RowKit
open W (B8 Mx)
attribute [local go_sem ↓] Go.wp_at_zero Go.wp_at_succ
attribute [local irreducible] W.gm W.xs W.mm W.gi mx matOk

theorem implSchemaOf (s : Int) (w : World) : Calls Try.prog 12 #[.int .i64 s] w fun e w' => SchB s w e w' := by
  cases h : schOk s with
  | true =>
    obtain rfl | rfl | rfl := sch_cases h
    all_goals
      clear h
      go_enter Try.func12, Try.ntmps12
      go_wp2_with fail
      go_ret3
      exact ⟨rfl, Below.refl _ _⟩
  | false =>
    obtain ⟨h1, h2, h3⟩ := sch_no h
    obtain ⟨e1, e2⟩ := sch_zero h
    unfold SchB
    rw [e1, e2, h]
    clear h e1 e2
    go_enter Try.func12, Try.ntmps12
    go_wp2_with fail
    go_ret3
    exact ⟨rfl, Below.refl _ _⟩
/-- A row of numbers that was made by append. -/
def RowPostI (xs : List Int) (w : World) (e : Ending) (w' : World) : Prop := ∃ v, e = .returned v ∧ w'.ownsRow w.heap.size 3 1 v xs.length (ics xs) ∧ Below w.heap.size w w'
set_option maxRecDepth 100000 in
set_option maxHeartbeats 2000000 in
theorem implSumRow (k i : Nat) (w : World) (hk : k ≤ 4) (hi : i ≤ 2) : Calls Try.prog 50 #[.int .i64 (k : Int), .int .i64 (i : Int)] w fun e w' => RowPostI (codeRow k i) w e w' := by
  obtain ⟨i1, hi1, hy0, hy1, hy2⟩ := info_parts infoIntG
  go_enter Try.func50, Try.ntmps50
  go_wp2_with fail
  go_loopw [5, 8] (fun rv jj wq => ∃ (j : Nat) (rr : Value), rr = rv ∧ jj = .int .i64 j ∧ j ≤ k ∧ Shut (wq.ownsRow w.heap.size 3 1 rr j (ics ((codeRow k i).take j))) ∧ Shut (Below w.heap.size w wq)) (fun _ jj _ => k - (intOf jj).toNat)
  case atStart => exact ⟨0, _, rfl, rfl, by omega, ⟨World.ownsRow_nil _ _ _ _⟩, ⟨Below.refl _ _⟩⟩
  case round =>
    obtain ⟨j, rr, rfl, rfl, hjk, hown, hbq⟩ := hrel
    obtain ⟨wi, rfl⟩ : ∃ wi, wi = wr := ⟨_, rfl⟩
    by_cases hjl : j < k
    · have hjl' : (j : Int) < (k : Int) := by omega
      have j0 : (0 : Int) ≤ (j : Int) := by omega
      have hx : bits .xor .i64 ((k : Int) + (i : Int)) (j : Int) = (((k + i) ^^^ j : Nat) : Int) := by
        have := i64_xor (k + i) j (by omega) (by omega)
        rw [← this]; push_cast; rfl
      have hst : ics ((codeRow k i).take (j + 1)) = ics ((codeRow k i).take j) ++ [.int .i64 ((W.gi (g8 (((k + i) ^^^ j : Nat) : Int))).toNat : Int)] := by
        have hj2 : j < (codeRow k i).length := by rw [codeRow_len]; exact hjl
        rw [List.take_succ_eq_append_getElem hj2]
        simp [codeRow, ics]
      have HINV := Shut.mk (fun W => implInvG (((k + i) ^^^ j : Nat) : Int) W)
      generalize W.gi (g8 (((k + i) ^^^ j : Nat) : Int)) = G at *
      have HS2 := Shut.mk hst
      have hs3 := hbq.out.size
      generalize (((k + i) ^^^ j : Nat) : Int) = X at *
      clear hst
      go_wp2_with fail
      refine (HINV.out _).mono ?_
      rintro e w5 ⟨rfl, rfl⟩
      have hown3 := hown.out
      clear hown HINV
      go_wp2_with (at_builtin; refine wpList_append_own _ rfl _ _ 32 rfl w.heap.size 3 i1 (.int .i64 0) 1 8 Try.underlying32 hi1 hy0 hy1 hy2 rfl (by decide) _ _ _ rfl (hown3.alloc _) ⟨w5.heap.size, 0, none⟩ 1 1 [.int .i64 (G.toNat : Int)] rfl rfl (cell_one_new _ _ _) ?c2 ?c3 ?c4 ?c5 ?_)
      case c2 => first | rfl | (intro u hu; simp at hu; subst hu; rfl)
      case c3 => unfold maxLen; omega
      case c4 => omega
      case c5 => first | omega | (simp; omega)
      intro v' w4 hown' hgrow _
      rw [← HS2.out] at hown'
      have Q1 := Shut.mk hown'
      have Q2 := Shut.mk ((hbq.out.alloc hs3 (.cells #[.int .i64 (G.toNat : Int)] 3)).grown hgrow (by simp; omega) (fun j hj => (hown3.lt j hj).1))
      clear hown' hgrow hown3 hbq
      go_wp2_with fail
      go_roundw
      case rel => exact ⟨j + 1, v', rfl, by go_num, by omega, Q1, Q2⟩
      case measure => simp [intOf]; omega
    · have e : j = k := by omega
      have hjl' : ¬ (j : Int) < (k : Int) := by omega
      have hown2 := hown.out
      rw [e, List.take_of_length_le (by rw [codeRow_len]; exact Nat.le_refl _)] at hown2
      have HF := Shut.mk hown2
      have HB := Shut.mk hbq.out
      clear hown hbq hown2 e
      go_wp2_with fail
      go_ret
      exact ⟨_, rfl, by rw [codeRow_len]; exact HF.out, HB.out⟩
theorem codeX_take' {s : Int} (h : schOk s = true) {i : Nat} (hi : i < schM s) : (codeX s).take (schK s + i + 1) = (codeX s).take (schK s + i) ++ [codeRow (schK s) i] := by
  have hl : schK s + i < (codeX s).length := by rw [codeX_len h]; omega
  rw [List.take_succ_eq_append_getElem hl]
  congr 2
  simp only [codeX_yes h]
  rw [List.getElem_append_right (by simp)]
  simp
theorem codeX_start' {s : Int} (h : schOk s = true) : (codeX s).take (schK s) = oneX (schK s : Nat) := by
  obtain ⟨b1, b2, _, _⟩ := sch_bounds h
  rw [codeX_yes h, List.take_append_of_le_length (by simp), List.take_of_length_le (by simp)]
  unfold oneX
  rw [if_pos (by omega)]; rfl
set_option maxRecDepth 100000 in
set_option maxHeartbeats 4000000 in
theorem implCodeOf (s : Int) (w : World) : Calls Try.prog 19 #[.int .i64 s] w fun e w' => MPost (codeX s) w e w' := by
  have HS := Shut.mk (fun W => implSchemaOf s W)
  cases h : schOk s with
  | false =>
    rw [codeX_no h]
    unfold SchB at HS
    rw [h] at HS
    clear h
    go_enter Try.func19, Try.ntmps19
    go_wp2_with fail
    refine (HS.out _).mono ?_
    rintro e w1 ⟨rfl, hb⟩
    have HB := Shut.mk hb
    clear hb
    go_wp2_with fail
    go_ret
    exact ⟨_, rfl, MAns.empty _ _ _ _ _, HB.out⟩
  | true =>
    obtain ⟨i0, hi0, hz0, hz1, hz2⟩ := info_parts infoRow
    unfold SchB at HS
    rw [h] at HS
    obtain ⟨b1, b2, b3, b4⟩ := sch_bounds h
    have HSTA := Shut.mk (codeX_start' h)
    have HTK := Shut.mk (fun i (hi : i < schM s) => codeX_take' h hi)
    have HLEN := Shut.mk (codeX_len h)
    clear h
    generalize schK s = k at *
    generalize schM s = m at *
    generalize codeX s = C at *
    have HONE := Shut.mk (fun W => implOneB k W (by omega) (by omega))
    go_enter Try.func19, Try.ntmps19
    go_wp2_with fail
    refine (HS.out _).mono ?_
    rintro e w0 ⟨rfl, hb0⟩
    have HB0 := Shut.mk hb0
    clear hb0
    go_wp2_with fail
    refine (HONE.out _).mono ?_
    rintro e w1 ⟨v1, ss, rfl, hr1, hbi1⟩
    have hlo : (oneX (k : Int)).length = k := by unfold oneX; rw [if_pos (by omega)]; simp
    have hls : ss.length = k := by rw [← rws_len, hr1, hlo]
    have HLS : Hid (ss.length = k) := hls
    have HBI := Shut.mk (hbi1.up' HB0.out)
    have HRW : Shut (rws ss = C.take (k + 0)) := ⟨by rw [hr1, Nat.add_zero, HSTA.out]⟩
    clear hr1 hbi1 hls hlo HONE HB0 HSTA
    go_wp2_with fail
    go_loopw [6, 19] (fun v ii wr => ∃ (i : Nat) (ts : List SR) (vv : Value), vv = v ∧ ii = .int .i64 (i : Nat) ∧ i ≤ m ∧ ts.length = k + i ∧ Shut (rws ts = C.take (k + i)) ∧ Shut (BI w wr vv ts)) (fun _ ii _ => m - (intOf ii).toNat)
    case atStart => exact ⟨0, ss, _, rfl, rfl, Nat.zero_le _, HLS.out, HRW, HBI⟩
    case round =>
      clear HBI HRW HLS
      obtain ⟨i, ts, v, rfl, rfl, him, htl, hrw, hbi⟩ := hrel
      obtain ⟨wo, rfl⟩ : ∃ wo, wo = wr := ⟨_, rfl⟩
      have HTL : Hid (ts.length = k + i) := htl
      clear htl
      by_cases hlt : i < m
      · have hlt' : (i : Int) < (m : Int) := by omega
        have k0 : (0 : Int) ≤ (i : Int) := by omega
        have HST := Shut.mk (HTK.out i hlt)
        have HSR := Shut.mk (fun W => implSumRow k i W (by omega) (by omega))
        go_wp2_with fail
        refine (HSR.out _).mono ?_
        rintro e wi ⟨rv, rfl, hown2, hbq⟩
        obtain ⟨gr, cr, rfl, hcr⟩ := own_at hown2 (by rw [codeRow_len]; omega)
        rw [codeRow_len] at hown2 hcr ⊢
        have hgr := hown2.lt gr rfl
        have HROW := Shut.mk (own_wcells hown2)
        have HBI := Shut.mk (hbi.out.newrow hbq hgr.1)
        have hsi : wo.heap.size ≤ wi.heap.size := hbq.size
        have hso := hbi.out.bel.size
        have hgr1 := hgr.1
        have hown := HBI.out.1.own
        clear hown2 hbq hbi hgr HSR
        go_wp2_with (at_builtin; refine wpList_append_own _ rfl _ _ 36 rfl w.heap.size 32 i0 (.slice none 0 0) 1 24 Try.underlying36 hi0 hz0 hz1 hz2 rfl (by decide) _ _ _ rfl (hown.alloc _) ⟨wi.heap.size, 0, none⟩ 1 1 [.slice (some ⟨gr, 0, none⟩) k cr] rfl rfl (cell_one_new _ _ _) ?c2 ?c3 ?c4 ?c5 ?_)
        case c2 => first | rfl | (intro u hu; simp at hu; subst hu; rfl)
        case c3 => unfold maxLen; have := HTL.out; omega
        case c4 => have := HTL.out; omega
        case c5 => first | omega | (simp; omega)
        intro v' w6 hown' hgrow _
        have hne : codeRow k i ≠ [] := fun e => by have := congrArg List.length e; rw [codeRow_len] at this; simp at this; omega
        have hap := HBI.out.1.append (cap := cr) (by omega) HROW.out hne (by rw [codeRow_len]; exact hcr) HBI.out.2.1 HBI.out.2.2 (by rw [codeRow_len]; exact hown') hgrow
        have HAP := Shut.mk hap
        have HR2 : Shut (rws (ts ++ [SR.mk (some ⟨gr, 0, none⟩) (codeRow k i) cr]) = C.take (k + (i + 1))) := ⟨by rw [rws_snoc, hrw.out, ← Nat.add_assoc, HST.out]⟩
        clear hap hown' hgrow hown HBI HROW hrw hne
        go_wp2_with fail
        go_roundw
        case rel => exact ⟨i + 1, _, v', rfl, by go_num, by omega, by rw [List.length_append, List.length_singleton, HTL.out]; omega, HR2, HAP⟩
        case measure => simp [intOf]; omega
      · have e : i = m := by omega
        have hlt' : ¬ (i : Int) < (m : Int) := by omega
        have HF := Shut.mk (hbi.out.fin (X := C) (by rw [hrw.out, List.take_of_length_le (by rw [HLEN.out]; omega)]))
        have HB := Shut.mk hbi.out.bel
        clear e hbi hrw
        go_wp2_with fail
        go_ret
        exact ⟨v, rfl, HF.out, HB.out⟩
end Go.Proofs.Ytdlgailodhlbmaa
