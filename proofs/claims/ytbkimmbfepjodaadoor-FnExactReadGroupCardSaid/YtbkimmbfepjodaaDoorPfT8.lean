/- Texts of ours, laid one behind the other: TPrC, TPrD, TPrE, TPrB, TPrF, TPrA, TPrG, TFieldG, TCdA, TTbA. -/
import Derived.Test.YtbkimmbfepjodaaDoorPfT7
import Derived.Deep.CutRange
import Derived.Handy
set_option linter.unusedVariables false
set_option linter.unusedSimpArgs false
/- The program's own intsOf, matrixOf, ones. -/
namespace Go.Proofs.YtbkimmbfepjodaaDoorT
set_option maxRecDepth 100000
open Go.RowKit
open W (B8)
attribute [local go_sem ↓] Go.wp_at_zero Go.wp_at_succ
attribute [local irreducible] W.gm W.xt W.gp W.gi

theorem infoRowB : (Tw.prog.info? 105).map (fun i => (i.zero, i.size, i.bytes)) = some (some (.slice none 0 0), 1, 24) := by kernel_rfl
theorem infoB : (Tw.prog.info? 90).map (fun i => (i.zero, i.size, i.bytes)) = some (some (.int .u8 0), 1, 1) := by kernel_rfl
/-- Bytes as numbers. -/
def toI (r : List B8) : List Int := r.map fun A => (A.toNat : Int)
def toIs (K : List (List B8)) : List (List Int) := K.map toI
theorem toI_len (r : List B8) : (toI r).length = r.length := by simp [toI]
theorem toI_ne {r : List B8} (h : r ≠ []) : toI r ≠ [] := fun e => h (by simpa [toI] using e)
/-- Rows that are none of them nothing. -/
def NE (K : List (List B8)) : Prop := ∀ r ∈ K, r ≠ [] ∧ r.length ≤ 1000
theorem own_at {w : World} {B n sz : Nat} {t : TypeId} {v : Value} {L : List Value} (h : w.ownsRow B t sz v n L) (hp : 0 < n) : ∃ g cap, v = .slice (some ⟨g, 0, none⟩) n cap ∧ n ≤ cap := by
  rcases h.2 with ⟨_, h0⟩ | ⟨g, cap, _, rfl, _, _, hc, _⟩
  · omega
  · exact ⟨g, cap, rfl, hc⟩
theorem BI.newrow {w wo wi : World} {v : Value} {ts : List SR} {gr : Nat} (h : BI w wo v ts) (hb : Below wo.heap.size wo wi) (hg : wo.heap.size ≤ gr) : BI w wi v ts ∧ (∀ q, v.ownBlock = some q → q ≠ gr) ∧ ∀ s ∈ ts, s.loc ≠ some ⟨gr, 0, none⟩ :=
  ⟨h.below hb, fun q hq => by have := (h.own.lt q hq).2; omega, fun s hs e => by obtain ⟨b', e', _, q, _⟩ := h.rows s hs; have : b' = gr := congrArg Addr.block (Option.some.inj (e'.symm.trans e)); have := q.1; omega⟩
/-- Rows that were made by append, and are answered. -/
def BPostI (X : List (List Int)) (w : World) (e : Ending) (w' : World) : Prop := ∃ v ts, e = .returned v ∧ rws ts = X ∧ BI w w' v ts
set_option maxRecDepth 100000 in
set_option maxHeartbeats 2000000 in
theorem implIntsOfB (w : World) (v : Value) (K : List (List B8)) (lo hi : Nat) (hs : KSee w v K lo hi) (hne : NE K) (hl : K.length ≤ 1000) :
    Calls Tw.prog 57 #[v] w fun e w' => BPostI (toIs K) w e w' := by
  obtain ⟨a, cap, ss, rfl, hr, hm⟩ := hs
  obtain ⟨i0, hi0, hz0, hz1, hz2⟩ := info_parts infoRow
  obtain ⟨i1, hi1, hy0, hy1, hy2⟩ := info_parts infoIntG
  have HM := Shut.mk hm
  have HX := Shut.mk (show kws ss = K from hr)
  obtain ⟨n, hn⟩ : ∃ n, n = ss.length := ⟨_, rfl⟩
  have HN : Hid (n = ss.length ∧ K.length = n) := ⟨hn, by rw [← hr, kws_len, hn]⟩
  have HE := Shut.mk hne
  have hn1 : n ≤ 1000 := by have := HN.out.2; omega
  rw [← hn]
  clear hm hr hne hn hl
  go_enter Tw.func57, Tw.ntmps57
  go_wp2_with fail
  go_loopw [3, 11] (fun v i wr => ∃ (ts : List SR) (vv : Value), vv = v ∧ i = .int .i64 (ts.length : Nat) ∧ ts.length ≤ n ∧ Shut (rws ts = (toIs K).take ts.length) ∧ Shut (BI w wr vv ts)) (fun _ i _ => n - (intOf i).toNat)
  case atStart => exact ⟨[], _, rfl, rfl, by simp, ⟨rfl⟩, ⟨BI.start w (World.ownsRow_nil _ _ _ _) (Below.refl _ _)⟩⟩
  case round =>
    obtain ⟨ts, v, rfl, rfl, hk, hrw, hbi⟩ := hrel
    obtain ⟨wo, rfl⟩ : ∃ wo, wo = wr := ⟨_, rfl⟩
    obtain ⟨i, hie⟩ : ∃ i, i = ts.length := ⟨_, rfl⟩
    have HI : Hid (i = ts.length) := hie
    rw [← hie] at hk ⊢
    clear hie
    by_cases hlt : i < n
    · have hls : i < ss.length := by have := HN.out.1; omega
      have hso := hbi.out.bel.size
      obtain ⟨b, off, rfl, lb, hcell⟩ := (HM.out.below hbi.out.bel).at (by omega)
      have d1 := hcell i hls
      have hrr := ((HM.out.below hbi.out.bel).2 ss[i] (List.getElem_mem hls)).crow
      have hmem : ss[i].row ∈ K := by rw [← HX.out]; exact List.mem_map.2 ⟨ss[i], List.getElem_mem hls, rfl⟩
      have hne := HE.out _ hmem
      have hget : K[i]'(by have := HN.out.2; omega) = ss[i].row := by
        have := kws_get ss i hls
        simp only [HX.out] at this
        exact this
      unfold ksv at d1
      obtain ⟨row, hrow⟩ : ∃ row, row = ss[i].row := ⟨_, rfl⟩
      rw [← hrow] at d1 hrr hne hget
      generalize ss[i].loc = loc at *
      generalize ss[i].cap = cp at *
      have HST := Shut.mk (show (toIs K).take (i + 1) = (toIs K).take i ++ [toI row] by
        have hi2 : i < (toIs K).length := by unfold toIs; rw [List.length_map]; have := HN.out.2; omega
        rw [List.take_succ_eq_append_getElem hi2]
        simp only [toIs, List.getElem_map, hget])
      obtain ⟨m, hm⟩ : ∃ m, m = row.length := ⟨_, rfl⟩
      have HMR : Hid (m = row.length) := hm
      rw [← hm] at d1 hne
      obtain ⟨hne1, hm1⟩ := hne
      have hm0 : 0 < m := by rw [hm]; exact List.length_pos_iff.2 hne1
      have HR := Shut.mk hrr
      have HNE : Hid (row ≠ []) := hne1
      have k0 : (0 : Int) ≤ (i : Int) := by omega
      have k1 : (i : Int) < (n : Int) := by omega
      clear hm hrow hcell hmem hrr hget hne1
      go_wp2_with fail
      go_loopw [6, 17] (fun rv kk wq => ∃ (k : Nat) (rr : Value), rr = rv ∧ kk = .int .i64 k ∧ k ≤ m ∧ Shut (wq.ownsRow wo.heap.size 3 1 rr k (ics (toI (row.take k)))) ∧ Shut (Below wo.heap.size wo wq)) (fun _ kk _ => m - (intOf kk).toNat)
      case atStart => exact ⟨0, _, rfl, rfl, by omega, ⟨World.ownsRow_nil _ _ _ _⟩, ⟨Below.refl _ _⟩⟩
      case round =>
        obtain ⟨k, rr, rfl, rfl, hkm, hown, hbq⟩ := hrel
        obtain ⟨wi, rfl⟩ : ∃ wi, wi = wr := ⟨_, rfl⟩
        by_cases hkl : k < m
        · have hkr : k < row.length := by have := HMR.out; omega
          have hkl' : (k : Int) < (m : Int) := by omega
          have kk0 : (0 : Int) ≤ (k : Int) := by omega
          obtain ⟨b', o', rfl, lb', hc'⟩ := crow_byte (HR.out.stays hbq.out) (by omega)
          have d2 := hc' k hkr
          have hlx := b8_lt (row.getD k 0#8)
          have hst : ics (toI (row.take (k + 1))) = ics (toI (row.take k)) ++ [.int .i64 ((row.getD k 0#8).toNat : Int)] := by
            have e : row[k] = row.getD k 0#8 := by simp [List.getD, hkr]
            rw [List.take_succ_eq_append_getElem hkr, e]
            simp [toI, ics]
          generalize row.getD k 0#8 = x at *
          have HS2 := Shut.mk hst
          have hown3 := hown.out
          have hs3 := hbq.out.size
          clear hst hc' hown
          go_wp2_with (at_builtin; refine wpList_append_own _ rfl _ _ 52 rfl wo.heap.size 3 i1 (.int .i64 0) 1 8 Tw.underlying52 hi1 hy0 hy1 hy2 rfl (by decide) _ _ _ rfl (hown3.alloc _) ⟨wi.heap.size, 0, none⟩ 1 1 [.int .i64 (x.toNat : Int)] rfl rfl (cell_one_new _ _ _) ?c2 ?c3 ?c4 ?c5 ?_)
          case c2 => first | rfl | (intro u hu; simp at hu; subst hu; rfl)
          case c3 => unfold maxLen; omega
          case c4 => omega
          case c5 => first | omega | (simp; omega)
          intro v' w4 hown' hgrow _
          rw [← HS2.out] at hown'
          have Q1 := Shut.mk hown'
          have Q2 := Shut.mk ((hbq.out.alloc hs3 (.cells #[.int .i64 (x.toNat : Int)] 3)).grown hgrow (by simp; omega) (fun j hj => (hown3.lt j hj).1))
          clear hown' hgrow hown3 hbq
          go_wp2_with fail
          go_roundw
          case rel => exact ⟨k + 1, v', rfl, by go_num, by omega, Q1, Q2⟩
          case measure => simp [intOf]; omega
        · have e : k = m := by omega
          have hkl' : ¬ (k : Int) < (m : Int) := by omega
          have hown2 := hown.out
          rw [List.take_of_length_le (by have := HMR.out; omega)] at hown2
          obtain ⟨gr, cr, rfl, hcr⟩ := own_at hown2 (by omega)
          have hgr := hown2.lt gr rfl
          have HROW := Shut.mk (own_wcells hown2)
          have HBI := Shut.mk (hbi.out.newrow hbq.out hgr.1)
          have hsi : wo.heap.size ≤ wi.heap.size := hbq.out.size
          have hgr1 := hgr.1
          have hown := HBI.out.1.own
          clear hown2 hbq hbi hgr
          rw [e] at *
          clear e
          go_wp2_with (at_builtin; refine wpList_append_own _ rfl _ _ 50 rfl w.heap.size 52 i0 (.slice none 0 0) 1 24 Tw.underlying50 hi0 hz0 hz1 hz2 rfl (by decide) _ _ _ rfl (hown.alloc _) ⟨wi.heap.size, 0, none⟩ 1 1 [.slice (some ⟨gr, 0, none⟩) m cr] rfl rfl (cell_one_new _ _ _) ?c2 ?c3 ?c4 ?c5 ?_)
          case c2 => first | rfl | (intro u hu; simp at hu; subst hu; rfl)
          case c3 => unfold maxLen; have := HI.out; omega
          case c4 => have := HI.out; omega
          case c5 => first | omega | (simp; omega)
          intro v' w6 hown' hgrow _
          have hlen : (toI row).length = m := by rw [toI_len, HMR.out]
          have hap := HBI.out.1.append (cap := cr) (by omega) HROW.out (toI_ne HNE.out) (by rw [hlen]; exact hcr) HBI.out.2.1 HBI.out.2.2 (by rw [hlen]; exact hown') hgrow
          have HAP := Shut.mk hap
          have HR2 : Shut (rws (ts ++ [SR.mk (some ⟨gr, 0, none⟩) (toI row) cr]) = (toIs K).take (i + 1)) := ⟨by rw [rws_snoc, hrw.out, HST.out, HI.out]⟩
          clear hap hown' hgrow hown HBI HROW hrw hlen
          go_wp2_with fail
          go_roundw
          case rel => exact ⟨_, v', rfl, by rw [List.length_append, List.length_singleton, ← HI.out]; go_num, by rw [List.length_append, List.length_singleton, ← HI.out]; omega, ⟨by rw [List.length_append, List.length_singleton, ← HI.out]; exact HR2.out⟩, HAP⟩
          case measure => simp [intOf]; omega
    · have e : i = n := by omega
      have hlt' : ¬ (i : Int) < (n : Int) := by omega
      have HF := Shut.mk (show rws ts = toIs K by
        rw [hrw.out, List.take_of_length_le (by unfold toIs; rw [List.length_map]; have := HN.out.2; have := HI.out; omega)])
      have HB := Shut.mk hbi.out
      clear e hbi hrw
      go_wp2_with fail
      go_ret
      exact ⟨v, ts, rfl, HF.out, HB.out⟩
theorem implIntsOf (w : World) (v : Value) (K : List (List B8)) (lo hi : Nat) (hs : KSee w v K lo hi) (hne : NE K) (hl : K.length ≤ 1000) :
    Calls Tw.prog 57 #[v] w fun e w' => MPost (toIs K) w e w' := (implIntsOfB w v K lo hi hs hne hl).mono fun _ _ ⟨v, _, he, hr, hb⟩ => ⟨v, he, hb.fin hr, hb.bel⟩
end Go.Proofs.YtbkimmbfepjodaaDoorT
/- The program's own matrixOf. -/
namespace Go.Proofs.YtbkimmbfepjodaaDoorT
set_option maxRecDepth 100000
open Go.RowKit
open W (B8)
attribute [local go_sem ↓] Go.wp_at_zero Go.wp_at_succ
attribute [local irreducible] W.gm W.xt W.gp W.gi

/-- Numbers as bytes. -/
def toB (r : List Int) : List B8 := r.map g8
def toBs (X : List (List Int)) : List (List B8) := X.map toB
theorem toB_len (r : List Int) : (toB r).length = r.length := by simp [toB]
theorem toB_ne {r : List Int} (h : r ≠ []) : toB r ≠ [] := fun e => h (by simpa [toB] using e)
def NEI (X : List (List Int)) : Prop := ∀ r ∈ X, r ≠ [] ∧ r.length ≤ 1000
theorem KI.newrow {w wo wi : World} {v : Value} {ts : List KS} {gr : Nat} (h : KI w wo v ts) (hb : Below wo.heap.size wo wi) (hg : wo.heap.size ≤ gr) : KI w wi v ts ∧ (∀ q, v.ownBlock = some q → q ≠ gr) ∧ ∀ s ∈ ts, s.loc ≠ some ⟨gr, 0, none⟩ :=
  ⟨h.below hb, fun q hq => by have := (h.own.lt q hq).2; omega, fun s hs e => by obtain ⟨b', e', _, q, _⟩ := h.rows s hs; have : b' = gr := congrArg Addr.block (Option.some.inj (e'.symm.trans e)); have := q.1; omega⟩
set_option maxRecDepth 100000 in
set_option maxHeartbeats 2000000 in
theorem implMatrixOf (w : World) (v : Value) (X : List (List Int)) (lo hi : Nat) (hs : MSee w v X lo hi) (hne : NEI X) (hl : X.length ≤ 1000) :
    Calls Tw.prog 55 #[v] w fun e w' => KPost (toBs X) w e w' := by
  obtain ⟨a, cap, ss, rfl, hr, hm⟩ := hs
  obtain ⟨i0, hi0, hz0, hz1, hz2⟩ := info_parts infoRowB
  obtain ⟨i1, hi1, hy0, hy1, hy2⟩ := info_parts infoB
  have HM := Shut.mk hm
  have HX := Shut.mk (show rws ss = X from hr)
  obtain ⟨n, hn⟩ : ∃ n, n = ss.length := ⟨_, rfl⟩
  have HN : Hid (n = ss.length ∧ X.length = n) := ⟨hn, by rw [← hr, rws_len, hn]⟩
  have HE := Shut.mk hne
  have hn1 : n ≤ 1000 := by have := HN.out.2; omega
  rw [← hn]
  clear hm hr hne hn hl
  go_enter Tw.func55, Tw.ntmps55
  go_wp2_with fail
  go_loopw [3, 11] (fun v i wr => ∃ (ts : List KS) (vv : Value), vv = v ∧ i = .int .i64 (ts.length : Nat) ∧ ts.length ≤ n ∧ Shut (kws ts = (toBs X).take ts.length) ∧ Shut (KI w wr vv ts)) (fun _ i _ => n - (intOf i).toNat)
  case atStart => exact ⟨[], _, rfl, rfl, by simp, ⟨rfl⟩, ⟨KI.start w (World.ownsRow_nil _ _ _ _) (Below.refl _ _)⟩⟩
  case round =>
    obtain ⟨ts, v, rfl, rfl, hk, hrw, hbi⟩ := hrel
    obtain ⟨wo, rfl⟩ : ∃ wo, wo = wr := ⟨_, rfl⟩
    obtain ⟨i, hie⟩ : ∃ i, i = ts.length := ⟨_, rfl⟩
    have HI : Hid (i = ts.length) := hie
    rw [← hie] at hk ⊢
    clear hie
    by_cases hlt : i < n
    · have hls : i < ss.length := by have := HN.out.1; omega
      have hso := hbi.out.bel.size
      obtain ⟨b, off, rfl, lb, hcell⟩ := (HM.out.below hbi.out.bel).at (by omega)
      have d1 := hcell i hls
      have hrr := ((HM.out.below hbi.out.bel).2 ss[i] (List.getElem_mem hls)).crow
      have hmem : ss[i].row ∈ X := by rw [← HX.out]; exact List.mem_map.2 ⟨ss[i], List.getElem_mem hls, rfl⟩
      have hne := HE.out _ hmem
      have hget : X[i]'(by have := HN.out.2; omega) = ss[i].row := by
        have := rws_get ss i hls
        simp only [HX.out] at this
        exact this
      unfold srv at d1
      obtain ⟨row, hrow⟩ : ∃ row, row = ss[i].row := ⟨_, rfl⟩
      rw [← hrow] at d1 hrr hne hget
      generalize ss[i].loc = loc at *
      generalize ss[i].cap = cp at *
      have HST := Shut.mk (show (toBs X).take (i + 1) = (toBs X).take i ++ [toB row] by
        have hi2 : i < (toBs X).length := by unfold toBs; rw [List.length_map]; have := HN.out.2; omega
        rw [List.take_succ_eq_append_getElem hi2]
        simp only [toBs, List.getElem_map, hget])
      obtain ⟨m, hm⟩ : ∃ m, m = row.length := ⟨_, rfl⟩
      have HMR : Hid (m = row.length) := hm
      rw [← hm] at d1 hne
      obtain ⟨hne1, hm1⟩ := hne
      have hm0 : 0 < m := by rw [hm]; exact List.length_pos_iff.2 hne1
      have HR := Shut.mk hrr
      have HNE : Hid (row ≠ []) := hne1
      have k0 : (0 : Int) ≤ (i : Int) := by omega
      have k1 : (i : Int) < (n : Int) := by omega
      clear hm hrow hcell hmem hrr hget hne1
      go_wp2_with fail
      go_loopw [6, 17] (fun rv kk wq => ∃ (k : Nat) (rr : Value), rr = rv ∧ kk = .int .i64 k ∧ k ≤ m ∧ Shut (wq.ownsRow wo.heap.size 90 1 rr k (ucs (toB (row.take k)))) ∧ Shut (Below wo.heap.size wo wq)) (fun _ kk _ => m - (intOf kk).toNat)
      case atStart => exact ⟨0, _, rfl, rfl, by omega, ⟨World.ownsRow_nil _ _ _ _⟩, ⟨Below.refl _ _⟩⟩
      case round =>
        obtain ⟨k, rr, rfl, rfl, hkm, hown, hbq⟩ := hrel
        obtain ⟨wi, rfl⟩ : ∃ wi, wi = wr := ⟨_, rfl⟩
        by_cases hkl : k < m
        · have hkr : k < row.length := by have := HMR.out; omega
          have hkl' : (k : Int) < (m : Int) := by omega
          have kk0 : (0 : Int) ≤ (k : Int) := by omega
          obtain ⟨b', o', rfl, lb', hc'⟩ := crow_int (HR.out.stays hbq.out) (by omega)
          have d2 := hc' k hkr
          have hst : ucs (toB (row.take (k + 1))) = ucs (toB (row.take k)) ++ [.int .u8 (row.getD k 0 % 256)] := by
            have e : row[k] = row.getD k 0 := by simp [List.getD, hkr]
            rw [List.take_succ_eq_append_getElem hkr, e]
            simp [toB, ucs, u8v, g8_nat]
          generalize row.getD k 0 = x at *
          have HS2 := Shut.mk hst
          have hown3 := hown.out
          have hs3 := hbq.out.size
          clear hst hc' hown
          go_wp2_with (at_builtin; refine wpList_append_own _ rfl _ _ 105 rfl wo.heap.size 90 i1 (.int .u8 0) 1 1 Tw.underlying105 hi1 hy0 hy1 hy2 rfl (by decide) _ _ _ rfl (hown3.alloc _) ⟨wi.heap.size, 0, none⟩ 1 1 [.int .u8 (x % 256)] rfl rfl (cell_one_new _ _ _) ?c2 ?c3 ?c4 ?c5 ?_)
          case c2 => first | rfl | (intro u hu; simp at hu; subst hu; rfl)
          case c3 => unfold maxLen; omega
          case c4 => omega
          case c5 => first | omega | (simp; omega)
          intro v' w4 hown' hgrow _
          rw [← HS2.out] at hown'
          have Q1 := Shut.mk hown'
          have Q2 := Shut.mk ((hbq.out.alloc hs3 (.cells #[.int .u8 (x % 256)] 90)).grown hgrow (by simp; omega) (fun j hj => (hown3.lt j hj).1))
          clear hown' hgrow hown3 hbq
          go_wp2_with fail
          go_roundw
          case rel => exact ⟨k + 1, v', rfl, by go_num, by omega, Q1, Q2⟩
          case measure => simp [intOf]; omega
        · have e : k = m := by omega
          have hkl' : ¬ (k : Int) < (m : Int) := by omega
          have hown2 := hown.out
          rw [List.take_of_length_le (by have := HMR.out; omega)] at hown2
          obtain ⟨gr, cr, rfl, hcr⟩ := own_at hown2 (by omega)
          have hgr := hown2.lt gr rfl
          have HROW := Shut.mk (own_wcells hown2)
          have HBI := Shut.mk (hbi.out.newrow hbq.out hgr.1)
          have hsi : wo.heap.size ≤ wi.heap.size := hbq.out.size
          have hgr1 := hgr.1
          have hown := HBI.out.1.own
          clear hown2 hbq hbi hgr
          rw [e] at *
          clear e
          go_wp2_with (at_builtin; refine wpList_append_own _ rfl _ _ 86 rfl w.heap.size 105 i0 (.slice none 0 0) 1 24 Tw.underlying86 hi0 hz0 hz1 hz2 rfl (by decide) _ _ _ rfl (hown.alloc _) ⟨wi.heap.size, 0, none⟩ 1 1 [.slice (some ⟨gr, 0, none⟩) m cr] rfl rfl (cell_one_new _ _ _) ?c2 ?c3 ?c4 ?c5 ?_)
          case c2 => first | rfl | (intro u hu; simp at hu; subst hu; rfl)
          case c3 => unfold maxLen; have := HI.out; omega
          case c4 => have := HI.out; omega
          case c5 => first | omega | (simp; omega)
          intro v' w6 hown' hgrow _
          have hlen : (toB row).length = m := by rw [toB_len, HMR.out]
          have hap := HBI.out.1.append (cap := cr) (by omega) HROW.out (toB_ne HNE.out) (by rw [hlen]; exact hcr) HBI.out.2.1 HBI.out.2.2 (by rw [hlen]; exact hown') hgrow
          have HAP := Shut.mk hap
          have HR2 : Shut (kws (ts ++ [KS.mk (some ⟨gr, 0, none⟩) (toB row) cr]) = (toBs X).take (i + 1)) := ⟨by rw [kws_snoc, hrw.out, HST.out, HI.out]⟩
          clear hap hown' hgrow hown HBI HROW hrw hlen
          go_wp2_with fail
          go_roundw
          case rel => exact ⟨_, v', rfl, by rw [List.length_append, List.length_singleton, ← HI.out]; go_num, by rw [List.length_append, List.length_singleton, ← HI.out]; omega, ⟨by rw [List.length_append, List.length_singleton, ← HI.out]; exact HR2.out⟩, HAP⟩
          case measure => simp [intOf]; omega
    · have e : i = n := by omega
      have hlt' : ¬ (i : Int) < (n : Int) := by omega
      have HF := Shut.mk (hbi.out.fin (X := toBs X) (by
        rw [hrw.out, List.take_of_length_le (by unfold toBs; rw [List.length_map]; have := HN.out.2; have := HI.out; omega)]))
      have HB := Shut.mk hbi.out.bel
      clear e hbi hrw
      go_wp2_with fail
      go_ret
      exact ⟨v, rfl, HF.out, HB.out⟩
end Go.Proofs.YtbkimmbfepjodaaDoorT
/- The program's own ones. -/
namespace Go.Proofs.YtbkimmbfepjodaaDoorT
set_option maxRecDepth 100000
open Go.RowKit
open W (B8)
attribute [local go_sem ↓] Go.wp_at_zero Go.wp_at_succ
attribute [local irreducible] W.gm W.xt W.gp W.gi

def oneU (t : B8) (n i : Nat) : List B8 := (List.replicate n 0#8).set i t
def onesU (t : B8) (n : Nat) : List (List B8) := (List.range n).map (oneU t n)
theorem oneU_len (t : B8) (n i : Nat) : (oneU t n i).length = n := by simp [oneU]
theorem made_bytes {wm : World} {B n g : Nat} (hownm : wm.ownsRow B 90 1 (.slice (some ⟨g, 0, none⟩) n n) n (madeCells #[Value.int .u8 0] n).toList) : WCells wm g (ucs (List.replicate n 0#8)) := by
  have h := own_wcells hownm
  have e : (madeCells #[Value.int .u8 0] n).toList = ucs (List.replicate n 0#8) := by rw [toList_madeCells_one]; simp [ucs, u8v]
  rw [e] at h
  exact h
set_option maxRecDepth 100000 in
set_option maxHeartbeats 2000000 in
theorem implOnes (t : B8) (n : Nat) (w : World) (hn1 : 1 ≤ n) (hn8 : n ≤ 8) : Calls Tw.prog 69 #[.int .i64 (n : Int), .int .u8 (t.toNat : Int)] w fun e w' => KPost (onesU t n) w e w' := by
  obtain ⟨i0, hi0, hz0, hz1, hz2⟩ := info_parts infoRowB
  obtain ⟨i1, hi1, hy0, hy1, hy2⟩ := info_parts infoB
  go_enter Tw.func69, Tw.ntmps69
  go_wp2_with fail
  go_loopw [5, 9] (fun v i wr => ∃ (ts : List KS) (vv : Value), vv = v ∧ i = .int .i64 (ts.length : Nat) ∧ ts.length ≤ n ∧ Shut (kws ts = (List.range ts.length).map (oneU t n)) ∧ Shut (KI w wr vv ts)) (fun _ i _ => n - (intOf i).toNat)
  case atStart => exact ⟨[], _, rfl, rfl, by simp, ⟨rfl⟩, ⟨KI.start w (World.ownsRow_nil _ _ _ _) (Below.refl _ _)⟩⟩
  case round =>
    obtain ⟨ts, v, rfl, rfl, hk, hr, hbi⟩ := hrel
    obtain ⟨w1, rfl⟩ : ∃ w1, w1 = wr := ⟨_, rfl⟩
    by_cases hlt : ts.length < n
    · have hlt' : (ts.length : Int) < (n : Int) := by omega
      have k0 : (0 : Int) ≤ (ts.length : Int) := by omega
      have hsz := hbi.out.bel.size
      go_wp2_with (at_make; refine wpList_make_full _ rfl _ _ 105 rfl w1.heap.size 90 i1 _ 1 Tw.underlying105 hi1 hy0 hy1 .i64 .i64 _ _ n rfl rfl (by omega) (by omega) ?b2 ?b3 ?b4 ?_)
      case b2 => rw [hy2]; omega
      case b3 => unfold maxLen; omega
      case b4 => omega
      intro wm hownm hgrm
      have hbm : Below w1.heap.size w1 wm := (Below.refl _ _).grown hgrm (Nat.le_refl _) (fun j hj => by simp at hj)
      have hrow : WCells wm w1.heap.size (ucs (List.replicate n 0#8)) := made_bytes hownm
      obtain ⟨c0, z0⟩ := hrow.2 ts.length _ (ucs_get _ ts.length (by simp; exact hlt))
      have hset := hrow.set ts.length (.int .u8 (t.toNat : Int)) (by rw [ucs_len]; simp; exact hlt)
      rw [ucs_set, show (List.replicate n 0#8).set ts.length t = oneU t n ts.length from rfl] at hset
      have hbi1 := hbi.out.below hbm
      have hot : KI w (wm.setCell ⟨w1.heap.size, ts.length, none⟩ (.int .u8 (t.toNat : Int))) v ts := hbi1.other (gb_set' _ _ _ _) (Nat.le_refl w1.heap.size) (fun q hq => (hbi.out.own.lt q hq).2) (fun s hs b e => by obtain ⟨b', e', _, q, _⟩ := hbi.out.rows s hs; have : b' = b := congrArg Addr.block (Option.some.inj (e'.symm.trans e)); have := q.1; omega) hsz hbi1.bel.size
      have HROW := Shut.mk hset
      have HBI := Shut.mk hot
      have HNEW := Shut.mk (hbi.out.newrow (Below.refl _ _) (Nat.le_refl w1.heap.size)).2
      clear hset hot hrow hownm hgrm hbi hbi1
      go_upto_region 7 with fail
      obtain ⟨W2, hW2⟩ : ∃ W2, W2 = wm.setCell ⟨w1.heap.size, ts.length, none⟩ (.int .u8 (t.toNat : Int)) := ⟨_, rfl⟩
      rw [← hW2]
      rw [← hW2] at HROW HBI
      have hs2 : w.heap.size ≤ W2.heap.size := HBI.out.bel.size
      have hown := HBI.out.own
      clear hW2 c0 z0 hbm
      go_wp2_with (at_builtin; refine wpList_append_own _ rfl _ _ 86 rfl w.heap.size 105 i0 (.slice none 0 0) 1 24 Tw.underlying86 hi0 hz0 hz1 hz2 rfl (by decide) _ _ _ rfl (hown.alloc _) ⟨W2.heap.size, 0, none⟩ 1 1 [.slice (some ⟨w1.heap.size, 0, none⟩) n n] rfl rfl (cell_one_new _ _ _) ?c2 ?c3 ?c4 ?c5 ?_)
      case c2 => first | rfl | (intro u hu; simp at hu; subst hu; rfl)
      case c3 => unfold maxLen; omega
      case c4 => omega
      case c5 => first | omega | (simp; omega)
      · intro v' w6 hown' hgrow _
        have hne : oneU t n ts.length ≠ [] := fun e => by have := congrArg List.length e; rw [oneU_len] at this; simp at this; omega
        have hap := HBI.out.append (cap := n) hsz HROW.out hne (by rw [oneU_len]; exact Nat.le_refl _) HNEW.out.1 HNEW.out.2 (by rw [oneU_len]; exact hown') hgrow
        have HAP := Shut.mk hap
        have HR : Shut (kws (ts ++ [KS.mk (some ⟨w1.heap.size, 0, none⟩) (oneU t n ts.length) n]) = (List.range (ts.length + 1)).map (oneU t n)) := ⟨by rw [kws_snoc, hr.out, List.range_succ, List.map_append]; rfl⟩
        clear hap hown' hgrow hown HBI HROW HNEW hr
        go_wp2_with fail
        go_roundw
        case rel => exact ⟨_, v', rfl, by rw [List.length_append, List.length_singleton]; go_num, by rw [List.length_append, List.length_singleton]; omega, ⟨by rw [List.length_append, List.length_singleton]; exact HR.out⟩, HAP⟩
        case measure => simp [intOf]; omega
    · have e : ts.length = n := by omega
      have hlt' : ¬ (ts.length : Int) < (n : Int) := by omega
      have HF := Shut.mk (hbi.out.fin (X := onesU t n) (by rw [hr.out, e]; rfl))
      have HB := Shut.mk hbi.out.bel
      clear hbi hr e
      go_wp2_with fail
      go_ret
      exact ⟨v, rfl, HF.out, HB.out⟩
end Go.Proofs.YtbkimmbfepjodaaDoorT
/- The program's own addTimes: a row, so many times, is added to another one, in place. -/
namespace Go.Proofs.YtbkimmbfepjodaaDoorT
set_option maxRecDepth 100000
open Go.RowKit
open W (B8)
attribute [local go_sem ↓] Go.wp_at_zero Go.wp_at_succ
attribute [local irreducible] W.gm W.xt W.gp W.gi

theorem gb_drew {w w' : World} {r : Option Nat} (h : w.grownBy w' r) : w.grownBy w'.drew r := by
  have hb := Below.drew (Below.refl w'.heap.size w')
  exact ⟨hb.os.trans h.os, hb.tape.trans h.tape, hb.output.trans h.output, Nat.le_trans h.size hb.size, fun k hk hr => (hb.block k (Nat.lt_of_lt_of_le hk h.size)).trans (h.block k hk hr)⟩
/-- A row of a sum that is under way: the first k numbers are there. -/
def plusK (t : B8) (xs ys : List B8) (k : Nat) : List B8 := (List.range xs.length).map fun c => if c < k then xs.getD c 0#8 ^^^ W.gm t (ys.getD c 0#8) else xs.getD c 0#8
def plusU (t : B8) (xs ys : List B8) : List B8 := plusK t xs ys xs.length
theorem plusK_len (t : B8) (xs ys : List B8) (k : Nat) : (plusK t xs ys k).length = xs.length := by simp [plusK]
theorem plusU_len (t : B8) (xs ys : List B8) : (plusU t xs ys).length = xs.length := plusK_len _ _ _ _
theorem plusK_0 (t : B8) (xs ys : List B8) : plusK t xs ys 0 = xs := by
  apply List.ext_getElem (by simp [plusK])
  intro i h1 h2
  simp [plusK, List.getD, h2]
theorem plusK_at {t : B8} {xs ys : List B8} {k c : Nat} (h : c < xs.length) : (plusK t xs ys k).getD c 0#8 = if c < k then xs.getD c 0#8 ^^^ W.gm t (ys.getD c 0#8) else xs.getD c 0#8 := by
  unfold plusK
  rw [List.getD_eq_getElem?_getD, List.getElem?_map, List.getElem?_range h]; rfl
theorem plusU_at {t : B8} {xs ys : List B8} {c : Nat} (h : c < xs.length) : (plusU t xs ys).getD c 0#8 = xs.getD c 0#8 ^^^ W.gm t (ys.getD c 0#8) := by
  unfold plusU; rw [plusK_at h, if_pos h]
theorem plusK_set {t : B8} {xs ys : List B8} {k : Nat} (_ : k < xs.length) : (plusK t xs ys k).set k (xs.getD k 0#8 ^^^ W.gm t (ys.getD k 0#8)) = plusK t xs ys (k + 1) := by
  apply List.ext_getElem (by simp [plusK])
  intro c h1 h2
  simp only [plusK, List.getElem_set, List.getElem_map, List.getElem_range]
  by_cases e : k = c
  · subst e; rw [if_pos rfl, if_pos (by omega)]
  · rw [if_neg e]
    by_cases h : c < k
    · rw [if_pos h, if_pos (by omega)]
    · rw [if_neg h, if_neg (by omega)]
def AddPost (t : B8) (xs ys : List B8) (b : Nat) (w : World) (e : Ending) (w' : World) : Prop := (∃ v, e = .returned v) ∧ WCells w' b (ucs (plusU t xs ys)) ∧ w.grownBy w' (some b)
set_option maxRecDepth 100000 in
set_option maxHeartbeats 2000000 in
theorem implAddTimes (t : B8) (xs ys : List B8) (b cs c o cr n : Nat) (w : World) (hs : WCells w b (ucs xs)) (hr : ∀ j, j < n → w.cell? ⟨c, o + j, none⟩ = some (.int .u8 ((ys.getD j 0#8).toNat : Int))) (hc : c < w.heap.size) (hne : c ≠ b) (hx : xs.length = n) (hl : n ≤ 1000) :
    Calls Tw.prog 91 #[.slice (some ⟨b, 0, none⟩) n cs, .int .u8 (t.toNat : Int), .slice (some ⟨c, o, none⟩) n cr] w fun e w' => AddPost t xs ys b w e w' := by
  have HS := Shut.mk hs
  have HR := Shut.mk hr
  have HX : Hid (xs.length = n) := hx
  clear hs hr hx
  go_enter Tw.func91, Tw.ntmps91
  go_wp2_with fail
  go_loopw [9] (fun i wr => ∃ k : Nat, i = .int .i64 k ∧ k ≤ n ∧ Shut (WCells wr b (ucs (plusK t xs ys k))) ∧ Shut (w.grownBy wr (some b))) (fun i _ => n - (intOf i).toNat)
  case atStart => exact ⟨0, rfl, Nat.zero_le _, ⟨by rw [plusK_0]; exact HS.out⟩, ⟨⟨rfl, rfl, rfl, Nat.le_refl _, fun _ _ _ => rfl⟩⟩⟩
  case round =>
    obtain ⟨k, rfl, hk, hw, hg⟩ := hrel
    by_cases hlt : k < n
    · have k0 : (0 : Int) ≤ (k : Int) := by omega
      have k1 : (k : Int) < (n : Int) := by omega
      have hkx : k < xs.length := by have := HX.out; omega
      have hat := plusK_at (t := t) (xs := xs) (ys := ys) (k := k) hkx
      rw [if_neg (Nat.lt_irrefl k)] at hat
      obtain ⟨d0, z0⟩ := hw.out.2 k _ (ucs_get _ k (by rw [plusK_len]; exact hkx))
      rw [hat] at d0
      have d1 : wr.cell? ⟨c, o + k, none⟩ = some (.int .u8 ((ys.getD k 0#8).toNat : Int)) := by
        rw [← HR.out k hlt]
        exact World.cell?_of_block (a := ⟨c, o + k, none⟩) (hg.out.block c hc (by intro e; cases e; exact hne rfl))
      have hset := hw.out.set k (.int .u8 ((xs.getD k 0#8 ^^^ W.gm t (ys.getD k 0#8)).toNat : Int)) (by rw [ucs_len, plusK_len]; exact hkx)
      rw [ucs_set, plusK_set hkx] at hset
      have ht := implTimes t (ys.getD k 0#8)
      have hp := implPlus (xs.getD k 0#8) (W.gm t (ys.getD k 0#8))
      generalize xs.getD k 0#8 = x at *
      generalize ys.getD k 0#8 = y at *
      generalize W.gm t y = m at *
      generalize x ^^^ m = z at *
      have HW2 := Shut.mk hset
      have HG2 := Shut.mk (gb_two' hg.out (gb_set' wr b k (.int .u8 (z.toNat : Int))))
      have HT := Shut.mk ht
      have HP := Shut.mk hp
      clear hset hw hg hat ht hp
      go_wp2_with fail
      go_region_with (first | (go_at_call 76; refine (HT.out _).mono ?_; rintro e w9 ⟨rfl, rfl⟩) | (go_at_call 75; refine (HP.out _).mono ?_; rintro e w10 ⟨rfl, rfl⟩))
      all_goals go_wp2_with fail
      all_goals exact ⟨⟨k + 1, by go_num, by omega, ⟨HW2.out.drew⟩, ⟨gb_drew HG2.out⟩⟩, by simp [intOf]; omega⟩
    · have e : k = n := by omega
      have hlt' : ¬ (k : Int) < (n : Int) := by omega
      have HF : Shut (WCells wr b (ucs (plusU t xs ys))) := by unfold plusU; rw [HX.out, ← e]; exact hw
      clear e
      go_wp2_with fail
      go_returns
      exact ⟨⟨_, rfl⟩, HF.out, hg.out⟩
end Go.Proofs.YtbkimmbfepjodaaDoorT
/- The program's own products of matrices of bytes. -/
namespace Go.Proofs.YtbkimmbfepjodaaDoorT
set_option maxRecDepth 100000
open Go.RowKit
open W (B8)
attribute [local go_sem ↓] Go.wp_at_zero Go.wp_at_succ
attribute [local irreducible] W.gm W.xt W.gp W.gi W.xs

/-- A matrix of bytes that is read: its rows lie somewhere. -/
def KAt (w : World) (b off : Nat) (K : List (List B8)) (m : Nat) : Prop := b < w.heap.size ∧ ∀ i, i < K.length → ∃ b' o' cp, b' < w.heap.size ∧ w.cell? ⟨b, off + i, none⟩ = some (.slice (some ⟨b', o', none⟩) m cp) ∧ ∀ j, j < m → w.cell? ⟨b', o' + j, none⟩ = some (.int .u8 (((K.getD i []).getD j 0#8).toNat : Int))
theorem KAt.below {w w' : World} {b off m : Nat} {K : List (List B8)} (h : KAt w b off K m) (hb : Below w.heap.size w w') : KAt w' b off K m := by
  have hs := hb.size
  refine ⟨by have := h.1; omega, fun i hi => ?_⟩
  obtain ⟨b', o', cp, h1, h2, h3⟩ := h.2 i hi
  exact ⟨b', o', cp, by omega, (hb.cell (p := ⟨b, off + i, none⟩) h.1).trans h2, fun j hj => (hb.cell (p := ⟨b', o' + j, none⟩) h1).trans (h3 j hj)⟩
theorem KSee.kat {w : World} {v : Value} {K : List (List B8)} {lo hi m : Nat} (h : KSee w v K lo hi) (hK : 0 < K.length) (hm : ∀ r ∈ K, r.length = m) (h0 : 0 < m) : ∃ b off cap, v = .slice (some ⟨b, off, none⟩) K.length cap ∧ KAt w b off K m := by
  obtain ⟨a, cap, ss, rfl, hr, hk⟩ := h
  have hl : ss.length = K.length := by rw [← hr, kws_len]
  obtain ⟨b, off, rfl, lb, hc⟩ := hk.at (by omega)
  refine ⟨b, off, cap, by rw [hl], lb, fun i hi => ?_⟩
  have hi' : i < ss.length := by omega
  have hrow : ss[i].row = K.getD i [] := by
    have e1 := kws_get ss i hi'
    rw [← e1]
    simp only [hr]
    simp [List.getD, hi]
  have hmem : ss[i].row ∈ K := by rw [← hr]; exact List.mem_map.2 ⟨ss[i], List.getElem_mem hi', rfl⟩
  have hlen := hm _ hmem
  obtain ⟨b', o', e, lb', hc'⟩ := crow_byte (hk.2 ss[i] (List.getElem_mem hi')).crow (by omega)
  have d := hc i hi'
  unfold ksv at d
  rw [e, hlen] at d
  exact ⟨b', o', ss[i].cap, lb', d, fun j hj => by rw [← hrow]; exact hc' j (by omega)⟩
end Go.Proofs.YtbkimmbfepjodaaDoorT
/- The program's own MatrixOk. -/
namespace Go.Proofs.YtbkimmbfepjodaaDoorT
set_option maxRecDepth 100000
open Go.RowKit
attribute [local go_sem ↓] Go.wp_at_zero Go.wp_at_succ

theorem rowOk_all {x : List Int} (h3 : ∀ k, k < x.length → numOk (x.getD k 0) = true) : rowOk x.length x = (decide (1 ≤ (x.length : Int)) && decide ((x.length : Int) ≤ 8)) := by
  unfold rowOk
  have : x.all numOk = true := by
    rw [List.all_eq_true]
    intro y hy
    obtain ⟨k, hk, rfl⟩ := List.mem_iff_getElem.1 hy
    have := h3 k hk
    simpa [List.getD, hk] using this
  rw [this, decide_eq_true rfl, Bool.true_and, Bool.and_true]
set_option maxHeartbeats 1000000 in
theorem implRowOk (a : Option Addr) (xs : List Int) (cap : Nat) (w : World) (hr : CRow w a (ics xs)) (hl : xs.length ≤ 1048576) :
    Calls Tw.prog 71 #[.slice a xs.length cap] w fun e w' => e = .returned (.bool (rowOk xs.length xs)) ∧ w' = w := by
  have HR : Hid (CRow w a (ics xs)) := hr
  clear hr
  obtain ⟨R, hR⟩ : ∃ R, R = rowOk xs.length xs := ⟨_, rfl⟩
  rw [← hR]
  have HRR : Hid (R = rowOk xs.length xs) := hR
  clear hR
  go_enter Tw.func71, Tw.ntmps71
  go_wp2_with fail
  go_loop [7] (fun i => ∃ k : Nat, i = .int .i64 k ∧ k ≤ xs.length ∧ ∀ u, u < k → numOk (xs.getD u 0) = true) (fun i => xs.length - (intOf i).toNat)
  case atStart => exact ⟨0, rfl, Nat.zero_le _, fun u h => by omega⟩
  case round =>
    obtain ⟨k, rfl, hk, hnum⟩ := hrel
    have HNUM : Hid (∀ u, u < k → numOk (xs.getD u 0) = true) := hnum
    clear hnum
    by_cases hlt : k < xs.length
    · obtain ⟨b, off, rfl, lb, hc⟩ := crow_int HR.out (by omega)
      have d0 := hc k hlt
      obtain ⟨y, hy⟩ : ∃ y, y = xs.getD k 0 := ⟨_, rfl⟩
      have HY : Hid (y = xs.getD k 0) := hy
      rw [← hy] at d0
      have k0 : (0 : Int) ≤ (k : Int) := by omega
      have k1 : (k : Int) < (xs.length : Int) := by omega
      clear hc hy
      by_cases c0 : y < 0
      · have HNO : Hid (R = false) := by rw [HRR.out]; exact rowOk_num hlt (by rw [← HY.out]; unfold numOk; rw [decide_eq_false (by omega), Bool.false_and])
        go_wp2_with fail
        go_ret
        exact ⟨by rw [HNO.out]; rfl, rfl⟩
      · by_cases c1 : (255 : Int) < y
        · have HNO : Hid (R = false) := by rw [HRR.out]; exact rowOk_num hlt (by rw [← HY.out]; unfold numOk; rw [decide_eq_false (p := y ≤ 255) (by omega), Bool.and_false])
          go_wp2_with fail
          go_ret
          exact ⟨by rw [HNO.out]; rfl, rfl⟩
        · have HQ : Hid (numOk (xs.getD k 0) = true) := by rw [← HY.out]; unfold numOk; rw [decide_eq_true (by omega), decide_eq_true (by omega)]; rfl
          go_wp2_with fail
          go_round
          case rel => exact ⟨k + 1, by go_num, by omega, fun u hu => by
            by_cases e : u = k
            · subst e; exact HQ.out
            · exact HNUM.out u (by omega)⟩
          case measure => simp [intOf]; omega
    · have hlt' : ¬ (k : Int) < (xs.length : Int) := by omega
      have HE : Hid (R = (decide (1 ≤ (xs.length : Int)) && decide ((xs.length : Int) ≤ 8))) := by rw [HRR.out]; exact rowOk_all fun u hu => HNUM.out u (by omega)
      by_cases c0 : (1 : Int) ≤ (xs.length : Int)
      · by_cases c1 : (xs.length : Int) ≤ 8
        · have HV : Hid (R = true) := by rw [HE.out, decide_eq_true c0, decide_eq_true c1]; exact rfl
          go_wp2_with fail
          go_ret
          exact ⟨by rw [HV.out]; rfl, rfl⟩
        · have HV : Hid (R = false) := by rw [HE.out, decide_eq_true c0, decide_eq_false c1]; exact rfl
          go_wp2_with fail
          go_ret
          exact ⟨by rw [HV.out]; rfl, rfl⟩
      · have HV : Hid (R = false) := by rw [HE.out, decide_eq_false c0]; exact rfl
        go_wp2_with fail
        go_ret
        exact ⟨by rw [HV.out]; rfl, rfl⟩
set_option maxRecDepth 100000 in
set_option maxHeartbeats 2000000 in
theorem implMatrixOk (w : World) (v : Value) (X : List (List Int)) (lo hi : Nat) (hs : MSee w v X lo hi) (hf : MFit X) :
    Calls Tw.prog 54 #[v] w fun e w' => e = .returned (.bool (matOk X)) ∧ Below w.heap.size w w' := by
  obtain ⟨a, cap, ss, rfl, hr, hm⟩ := hs
  obtain ⟨hl, hrl, _, _⟩ := rows_fit hr hf
  have HM : Hid (MR w a ss lo hi) := hm
  have HX : Hid (rws ss = X ∧ ∀ s ∈ ss, s.row.length ≤ 1048576) := ⟨hr, hrl⟩
  obtain ⟨n, hn⟩ : ∃ n, n = ss.length := ⟨_, rfl⟩
  have HN : Hid (n = ss.length ∧ X.length = n) := ⟨hn, by rw [← hr, rws_len, hn]⟩
  rw [← hn]
  rw [← hn] at hl
  clear hm hr hrl hf hn
  obtain ⟨c, hc⟩ : ∃ c, c = (X.headD []).length := ⟨_, rfl⟩
  have HC : Hid (c = (X.headD []).length) := hc
  obtain ⟨R, hR⟩ : ∃ R, R = matOk X := ⟨_, rfl⟩
  rw [← hR]
  have HRR : Hid (R = matOk X) := hR
  clear hc hR
  by_cases n1 : (n : Int) < 1
  · have HNO : Hid (R = false) := by
      rw [HRR.out]; unfold matOk; rw [HN.out.2, decide_eq_false (p := (1 : Int) ≤ (n : Int)) (by omega), Bool.false_and, Bool.and_false]; exact rfl
    go_enter Tw.func54, Tw.ntmps54
    go_wp2_with fail
    go_ret
    exact ⟨by rw [HNO.out]; rfl, Below.refl _ _⟩
  by_cases n2 : (8 : Int) < (n : Int)
  · have HNO : Hid (R = false) := by
      rw [HRR.out]; unfold matOk; rw [HN.out.2, decide_eq_false (p := (n : Int) ≤ 8) (by omega), Bool.and_false, Bool.and_false]; exact rfl
    go_enter Tw.func54, Tw.ntmps54
    go_wp2_with fail
    go_ret
    exact ⟨by rw [HNO.out]; rfl, Below.refl _ _⟩
  go_enter Tw.func54, Tw.ntmps54
  go_wp2_with fail
  go_loopw [15] (fun i wr => ∃ (k : Nat), i = .int .i64 k ∧ k ≤ n ∧ (∀ j (h : j < ss.length), j < k → rowOk c ss[j].row = true) ∧ Below w.heap.size w wr) (fun i _ => n - (intOf i).toNat)
  case atStart => exact ⟨0, rfl, by omega, fun j _ h => by omega, Below.refl _ _⟩
  case round =>
    obtain ⟨k, rfl, hk, hok, hbl⟩ := hrel
    obtain ⟨wo, rfl⟩ : ∃ wo, wo = wr := ⟨_, rfl⟩
    have HOK : Hid (∀ j (h : j < ss.length), j < k → rowOk c ss[j].row = true) := hok
    clear hok
    by_cases hlt : k < n
    · have hls : k < ss.length := by have := HN.out.1; omega
      have h0s : 0 < ss.length := by omega
      have HM' := HM.out.below hbl
      obtain ⟨b, off, rfl, lb, hcell⟩ := HM'.at h0s
      have d1 := hcell k hls
      have d0 : wo.cell? ⟨b, off, none⟩ = some (srv ss[0]) := hcell 0 h0s
      have hhead : (ss[0].row).length = c := by
        rw [HC.out, ← HX.out.1]
        have : (rws ss).headD [] = ss[0].row := by cases ss with | nil => simp at h0s | cons s t => rfl
        rw [this]
      have hrr := (HM'.2 ss[k] (List.getElem_mem hls)).crow
      have hmem : ss[k].row ∈ X := by rw [← HX.out.1]; exact List.mem_map.2 ⟨ss[k], List.getElem_mem hls, rfl⟩
      have hle := HX.out.2 ss[k] (List.getElem_mem hls)
      have HSK : Hid (∀ x : List Int, ss[k].row = x → rowOk c x = true → ∀ j (h : j < ss.length), j < k + 1 → rowOk c ss[j].row = true) := fun x hx hxo j hj hjk => by
        by_cases e : j = k
        · subst e; rw [hx]; exact hxo
        · exact HOK.out j hj (by omega)
      unfold srv at d0 d1
      rw [hhead] at d0
      generalize ss[0].loc = loc0 at d0
      generalize ss[0].cap = cp0 at d0
      obtain ⟨row, hrow⟩ : ∃ row, row = ss[k].row := ⟨_, rfl⟩
      have HROW : Hid (ss[k].row = row ∧ row ∈ X) := ⟨hrow.symm, by rw [hrow]; exact hmem⟩
      rw [← hrow] at d1 hrr hle
      generalize ss[k].loc = loc at *
      generalize ss[k].cap = cp at *
      have k0 : (0 : Int) ≤ (k : Int) := by omega
      have k1 : (k : Int) < (n : Int) := by omega
      have n0 : (0 : Int) < (n : Int) := by omega
      have HB : Hid (Below w.heap.size w wo) := hbl
      have hcall := implRowOk loc row cp wo hrr hle
      clear hrow hcell hhead hmem hrr HM' hbl
      by_cases hlen : row.length = c
      · subst hlen
        have e1 : ((row.length : Int) != (row.length : Int)) = false := by simp
        obtain ⟨r, hrb⟩ : ∃ r, rowOk row.length row = r := ⟨_, rfl⟩
        rw [hrb] at hcall
        have HRB : Hid (rowOk row.length row = r) := hrb
        clear hrb
        cases r
        · have HNO : Hid (R = false) := by rw [HRR.out]; exact matOk_no HROW.out.2 (by rw [← HC.out]; exact HRB.out)
          go_wp2_with fail
          refine hcall.mono ?_
          rintro e w5 ⟨rfl, rfl⟩
          go_wp2_with fail
          go_ret
          exact ⟨by rw [HNO.out]; rfl, HB.out⟩
        · go_wp2_with fail
          refine hcall.mono ?_
          rintro e w5 ⟨rfl, rfl⟩
          go_wp2_with fail
          go_roundw
          case rel => exact ⟨k + 1, by go_num, by omega, HSK.out row HROW.out.1 HRB.out, HB.out⟩
          case measure => simp [intOf]; omega
      · have e1 : ((row.length : Int) != (c : Int)) = true := by rw [bne_iff_ne]; omega
        have HNO : Hid (R = false) := by rw [HRR.out]; exact matOk_no HROW.out.2 (by rw [← HC.out]; unfold rowOk; rw [decide_eq_false hlen]; rfl)
        go_wp2_with fail
        go_ret
        exact ⟨by rw [HNO.out]; rfl, HB.out⟩
    · have e : k = n := by omega
      have HEND : Hid (R = true) := by
        have h1 : ∀ x ∈ X, rowOk (X.headD []).length x = true := fun x hx => by
          rw [← HX.out.1] at hx
          obtain ⟨s, hs, rfl⟩ := List.mem_map.1 hx
          obtain ⟨j, hj, rfl⟩ := List.mem_iff_getElem.1 hs
          rw [← HC.out]
          exact HOK.out j hj (by have := HN.out.1; omega)
        have := matOk_end h1
        rw [HN.out.2, decide_eq_true (p := (1 : Int) ≤ (n : Int)) (by omega), decide_eq_true (p := (n : Int) ≤ 8) (by omega)] at this
        rw [HRR.out]
        exact this
      have HB : Hid (Below w.heap.size w wo) := hbl
      have hlt' : ¬ (k : Int) < (n : Int) := by omega
      clear hbl
      go_wp2_with fail
      go_ret
      exact ⟨by rw [HEND.out]; rfl, HB.out⟩
end Go.Proofs.YtbkimmbfepjodaaDoorT
/- The program's own OneM and MulM. -/
namespace Go.Proofs.YtbkimmbfepjodaaDoorT
set_option maxRecDepth 100000
open Go.RowKit
open W (B8 Mx)
attribute [local go_sem ↓] Go.wp_at_zero Go.wp_at_succ
attribute [local irreducible] W.gm W.xs W.mm W.gi matOk

theorem one_rows (n : Nat) : toIs (onesU 1#8 n) = (List.range n).map (oneRow n) := by
  unfold toIs onesU
  rw [List.map_map]
  apply List.map_congr_left
  intro i hi
  have hi' : i < n := List.mem_range.1 hi
  show toI (oneU 1#8 n i) = oneRow n i
  rw [← oneRow_set hi']
  unfold toI oneU
  rw [List.map_set, List.map_replicate]
  rfl
theorem onesU_ne {t : B8} {n : Nat} (h1 : 1 ≤ n) (h8 : n ≤ 8) : NE (onesU t n) := fun r hr => by
  obtain ⟨i, _, rfl⟩ := List.mem_map.1 hr
  exact ⟨fun e => by have := congrArg List.length e; rw [oneU_len] at this; simp at this; omega, by rw [oneU_len]; omega⟩
theorem MAns.broad {w : World} {v : Value} {X : List (List Int)} {lo hi lo' hi' : Nat} (h : MAns w v X lo hi) (h1 : lo' ≤ lo) (h2 : hi ≤ hi') : MAns w v X lo' hi' := by
  obtain ⟨a, cap, ss, e, hr, hc, q⟩ := h
  refine ⟨a, cap, ss, e, hr, hc, ?_⟩
  rcases q with rfl | ⟨g, rfl, hm⟩
  · exact .inl rfl
  · exact .inr ⟨g, rfl, hm.wide h1 h2⟩
theorem BI.up' {w w1 wr : World} {v : Value} {ts : List SR} (h : BI w1 wr v ts) (hb : Below w.heap.size w w1) : BI w wr v ts :=
  ⟨⟨h.own.1, h.own.2.imp id fun ⟨g, cap, cur, e, hB, r⟩ => ⟨g, cap, cur, e, Nat.le_trans hb.size hB, r⟩⟩, fun s hs => by
    obtain ⟨b, e, q1, q2⟩ := h.rows s hs
    exact ⟨b, e, Nat.le_trans hb.size q1, q2⟩, h.apart, hb.trans (h.bel.mono hb.size)⟩
set_option maxHeartbeats 1000000 in
/-- The same, with what is known of the rows that were made by append. -/
theorem implOneB (n : Nat) (w : World) (hn1 : 1 ≤ n) (hn8 : n ≤ 8) : Calls Tw.prog 51 #[.int .i64 (n : Int)] w fun e w' => BPostI (oneX (n : Int)) w e w' := by
  have e0 : oneX (n : Int) = toIs (onesU 1#8 n) := by unfold oneX; rw [if_pos (by omega), one_rows]; rfl
  rw [e0]
  have n1 : ¬ (n : Int) < 1 := by omega
  have n2 : ¬ (8 : Int) < (n : Int) := by omega
  have HC := Shut.mk (fun W => implOnes 1#8 n W hn1 hn8)
  clear e0
  go_enter Tw.func51, Tw.ntmps51
  go_wp2_with fail
  refine (HC.out _).mono ?_
  rintro e w1 ⟨v1, rfl, ha1, hb1⟩
  have HI := Shut.mk (implIntsOfB w1 v1 (onesU 1#8 n) _ _ ha1.see (onesU_ne hn1 hn8) (by simp [onesU]; omega))
  have HB1 := Shut.mk hb1
  clear ha1 hb1
  go_wp2_with fail
  refine HI.out.mono ?_
  rintro e w2 ⟨v2, ts, rfl, hr, hbi⟩
  have HR := Shut.mk (show BPostI (toIs (onesU 1#8 n)) w (.returned v2) w2 from ⟨v2, ts, rfl, hr, hbi.up' HB1.out⟩)
  clear hr hbi
  go_wp2_with fail
  go_ret
  exact HR.out
theorem toBs_get (X : List (List Int)) (i k : Nat) : ((toBs X).getD i []).getD k 0#8 = mx X i k := by
  have e1 : (toBs X).getD i [] = toB (X.getD i []) := by
    unfold toBs
    rw [List.getD_eq_getElem?_getD, List.getElem?_map, List.getD_eq_getElem?_getD]
    cases X[i]? <;> rfl
  rw [e1]
  unfold toB mx
  rw [List.getD_eq_getElem?_getD, List.getElem?_map]
  rw [List.getD_eq_getElem?_getD (l := X.getD i [])]
  cases (X.getD i [])[k]? <;> rfl
theorem toBs_len (X : List (List Int)) : (toBs X).length = X.length := by simp [toBs]
theorem toBs_rows {X : List (List Int)} (h : matOk X = true) : ∀ r ∈ toBs X, r.length = colsOf X := fun r hr => by
  obtain ⟨x, hx, rfl⟩ := List.mem_map.1 hr
  rw [toB_len]
  exact ((matOk_iff h).2.2 x hx).1
theorem matOk_ne {X : List (List Int)} (h : matOk X = true) : NEI X ∧ X.length ≤ 1000 := by
  obtain ⟨⟨h1, h2⟩, ⟨h3, h4⟩, h5⟩ := matOk_iff h
  exact ⟨fun r hr => ⟨fun e => by have := (h5 r hr).1; rw [e] at this; simp at this; omega, by have := (h5 r hr).1; omega⟩, by omega⟩
theorem MSee.head {w : World} {v : Value} {X : List (List Int)} {lo hi : Nat} (h : MSee w v X lo hi) (hok : matOk X = true) : ∃ b off cap loc cp, v = .slice (some ⟨b, off, none⟩) X.length cap ∧ b < w.heap.size ∧ w.cell? ⟨b, off, none⟩ = some (.slice loc (colsOf X) cp) := by
  obtain ⟨a, cap, ss, rfl, hr, hm⟩ := h
  have hl : ss.length = X.length := by rw [← hr, rws_len]
  have h0 : 0 < ss.length := by have := (matOk_iff hok).1.1; omega
  obtain ⟨b, off, rfl, lb, hc⟩ := hm.at h0
  have d := hc 0 h0
  have e : ss[0].row.length = colsOf X := by
    have := (matOk_iff hok).2.2 ss[0].row (by rw [← hr]; exact List.mem_map.2 ⟨ss[0], List.getElem_mem h0, rfl⟩)
    exact this.1
  unfold srv at d
  rw [e] at d
  exact ⟨b, off, cap, _, _, by rw [hl], lb, d⟩
end Go.Proofs.YtbkimmbfepjodaaDoorT
/- The program's own InvG. -/
namespace Go.Proofs.YtbkimmbfepjodaaDoorT
set_option maxRecDepth 100000
open Go.RowKit
open W (B8)
attribute [local go_sem ↓] Go.wp_at_zero Go.wp_at_succ
attribute [local irreducible] W.gm W.xt W.gp W.gi

theorem implInvG (x : Int) (w : World) : Calls Tw.prog 70 #[.int .i64 x] w fun e w' => e = .returned (.int .i64 ((W.gi (g8 x)).toNat : Int)) ∧ w' = w := by
  have hc := implInverse (g8 x)
  rw [g8_nat] at hc
  have hl := b8_lt (W.gi (g8 x))
  generalize W.gi (g8 x) = R at *
  go_enter Tw.func70, Tw.ntmps70
  go_wp2_with fail
  refine (hc _).mono ?_
  rintro e w1 ⟨rfl, rfl⟩
  go_wp2_with fail
  go_ret
  exact ⟨rfl, rfl⟩
end Go.Proofs.YtbkimmbfepjodaaDoorT
/- The program's own SchemaOf, sumRow, CodeOf. -/
namespace Go.Proofs.YtbkimmbfepjodaaDoorT
set_option maxRecDepth 100000
open Go.RowKit
open W (B8 Mx)
attribute [local go_sem ↓] Go.wp_at_zero Go.wp_at_succ
attribute [local irreducible] W.gm W.xs W.mm W.gi mx matOk

theorem implSchemaOf (s : Int) (w : World) : Calls Tw.prog 28 #[.int .i64 s] w fun e w' => SchB s w e w' := by
  cases h : schOk s with
  | true =>
    obtain rfl | rfl | rfl := sch_cases h
    all_goals
      clear h
      go_enter Tw.func28, Tw.ntmps28
      go_wp2_with fail
      go_ret3
      exact ⟨rfl, Below.refl _ _⟩
  | false =>
    obtain ⟨h1, h2, h3⟩ := sch_no h
    obtain ⟨e1, e2⟩ := sch_zero h
    unfold SchB
    rw [e1, e2, h]
    clear h e1 e2
    go_enter Tw.func28, Tw.ntmps28
    go_wp2_with fail
    go_ret3
    exact ⟨rfl, Below.refl _ _⟩
/-- A row of numbers that was made by append. -/
def RowPostI (xs : List Int) (w : World) (e : Ending) (w' : World) : Prop := ∃ v, e = .returned v ∧ w'.ownsRow w.heap.size 3 1 v xs.length (ics xs) ∧ Below w.heap.size w w'
set_option maxRecDepth 100000 in
set_option maxHeartbeats 2000000 in
theorem implSumRow (k i : Nat) (w : World) (hk : k ≤ 4) (hi : i ≤ 2) : Calls Tw.prog 52 #[.int .i64 (k : Int), .int .i64 (i : Int)] w fun e w' => RowPostI (codeRow k i) w e w' := by
  obtain ⟨i1, hi1, hy0, hy1, hy2⟩ := info_parts infoIntG
  go_enter Tw.func52, Tw.ntmps52
  go_wp2_with fail
  go_loopw [5, 8] (fun rv jj wq => ∃ (j : Nat) (rr : Value), rr = rv ∧ jj = .int .i64 j ∧ j ≤ k ∧ Shut (wq.ownsRow w.heap.size 3 1 rr j (ics ((codeRow k i).take j))) ∧ Shut (Below w.heap.size w wq)) (fun _ jj _ => k - (intOf jj).toNat)
  case atStart => exact ⟨0, _, rfl, rfl, by omega, ⟨World.ownsRow_nil _ _ _ _⟩, ⟨Below.refl _ _⟩⟩
  case round =>
    obtain ⟨j, rr, rfl, rfl, hjk, hown, hbq⟩ := hrel
    obtain ⟨wi, rfl⟩ : ∃ wi, wi = wr := ⟨_, rfl⟩
    by_cases hjl : j < k
    · have hjl' : (j : Int) < (k : Int) := by omega
      have j0 : (0 : Int) ≤ (j : Int) := by omega
      have hx : bits .xor .i64 ((k : Int) + (i : Int)) (j : Int) = (((k + i) ^^^ j : Nat) : Int) := by
        have := i64_xor (k + i) j (by omega) (by omega)
        rw [← this]; push_cast; rfl
      have hst : ics ((codeRow k i).take (j + 1)) = ics ((codeRow k i).take j) ++ [.int .i64 ((W.gi (g8 (((k + i) ^^^ j : Nat) : Int))).toNat : Int)] := by
        have hj2 : j < (codeRow k i).length := by rw [codeRow_len]; exact hjl
        rw [List.take_succ_eq_append_getElem hj2]
        simp [codeRow, ics]
      have HINV := Shut.mk (fun W => implInvG (((k + i) ^^^ j : Nat) : Int) W)
      generalize W.gi (g8 (((k + i) ^^^ j : Nat) : Int)) = G at *
      have HS2 := Shut.mk hst
      have hs3 := hbq.out.size
      generalize (((k + i) ^^^ j : Nat) : Int) = X at *
      clear hst
      go_wp2_with fail
      refine (HINV.out _).mono ?_
      rintro e w5 ⟨rfl, rfl⟩
      have hown3 := hown.out
      clear hown HINV
      go_wp2_with (at_builtin; refine wpList_append_own _ rfl _ _ 52 rfl w.heap.size 3 i1 (.int .i64 0) 1 8 Tw.underlying52 hi1 hy0 hy1 hy2 rfl (by decide) _ _ _ rfl (hown3.alloc _) ⟨w5.heap.size, 0, none⟩ 1 1 [.int .i64 (G.toNat : Int)] rfl rfl (cell_one_new _ _ _) ?c2 ?c3 ?c4 ?c5 ?_)
      case c2 => first | rfl | (intro u hu; simp at hu; subst hu; rfl)
      case c3 => unfold maxLen; omega
      case c4 => omega
      case c5 => first | omega | (simp; omega)
      intro v' w4 hown' hgrow _
      rw [← HS2.out] at hown'
      have Q1 := Shut.mk hown'
      have Q2 := Shut.mk ((hbq.out.alloc hs3 (.cells #[.int .i64 (G.toNat : Int)] 3)).grown hgrow (by simp; omega) (fun j hj => (hown3.lt j hj).1))
      clear hown' hgrow hown3 hbq
      go_wp2_with fail
      go_roundw
      case rel => exact ⟨j + 1, v', rfl, by go_num, by omega, Q1, Q2⟩
      case measure => simp [intOf]; omega
    · have e : j = k := by omega
      have hjl' : ¬ (j : Int) < (k : Int) := by omega
      have hown2 := hown.out
      rw [e, List.take_of_length_le (by rw [codeRow_len]; exact Nat.le_refl _)] at hown2
      have HF := Shut.mk hown2
      have HB := Shut.mk hbq.out
      clear hown hbq hown2 e
      go_wp2_with fail
      go_ret
      exact ⟨_, rfl, by rw [codeRow_len]; exact HF.out, HB.out⟩
theorem codeX_take' {s : Int} (h : schOk s = true) {i : Nat} (hi : i < schM s) : (codeX s).take (schK s + i + 1) = (codeX s).take (schK s + i) ++ [codeRow (schK s) i] := by
  have hl : schK s + i < (codeX s).length := by rw [codeX_len h]; omega
  rw [List.take_succ_eq_append_getElem hl]
  congr 2
  simp only [codeX_yes h]
  rw [List.getElem_append_right (by simp)]
  simp
theorem codeX_start' {s : Int} (h : schOk s = true) : (codeX s).take (schK s) = oneX (schK s : Nat) := by
  obtain ⟨b1, b2, _, _⟩ := sch_bounds h
  rw [codeX_yes h, List.take_append_of_le_length (by simp), List.take_of_length_le (by simp)]
  unfold oneX
  rw [if_pos (by omega)]; rfl
set_option maxRecDepth 100000 in
set_option maxHeartbeats 4000000 in
theorem implCodeOf (s : Int) (w : World) : Calls Tw.prog 32 #[.int .i64 s] w fun e w' => MPost (codeX s) w e w' := by
  have HS := Shut.mk (fun W => implSchemaOf s W)
  cases h : schOk s with
  | false =>
    rw [codeX_no h]
    unfold SchB at HS
    rw [h] at HS
    clear h
    go_enter Tw.func32, Tw.ntmps32
    go_wp2_with fail
    refine (HS.out _).mono ?_
    rintro e w1 ⟨rfl, hb⟩
    have HB := Shut.mk hb
    clear hb
    go_wp2_with fail
    go_ret
    exact ⟨_, rfl, MAns.empty _ _ _ _ _, HB.out⟩
  | true =>
    obtain ⟨i0, hi0, hz0, hz1, hz2⟩ := info_parts infoRow
    unfold SchB at HS
    rw [h] at HS
    obtain ⟨b1, b2, b3, b4⟩ := sch_bounds h
    have HSTA := Shut.mk (codeX_start' h)
    have HTK := Shut.mk (fun i (hi : i < schM s) => codeX_take' h hi)
    have HLEN := Shut.mk (codeX_len h)
    clear h
    generalize schK s = k at *
    generalize schM s = m at *
    generalize codeX s = C at *
    have HONE := Shut.mk (fun W => implOneB k W (by omega) (by omega))
    go_enter Tw.func32, Tw.ntmps32
    go_wp2_with fail
    refine (HS.out _).mono ?_
    rintro e w0 ⟨rfl, hb0⟩
    have HB0 := Shut.mk hb0
    clear hb0
    go_wp2_with fail
    refine (HONE.out _).mono ?_
    rintro e w1 ⟨v1, ss, rfl, hr1, hbi1⟩
    have hlo : (oneX (k : Int)).length = k := by unfold oneX; rw [if_pos (by omega)]; simp
    have hls : ss.length = k := by rw [← rws_len, hr1, hlo]
    have HLS : Hid (ss.length = k) := hls
    have HBI := Shut.mk (hbi1.up' HB0.out)
    have HRW : Shut (rws ss = C.take (k + 0)) := ⟨by rw [hr1, Nat.add_zero, HSTA.out]⟩
    clear hr1 hbi1 hls hlo HONE HB0 HSTA
    go_wp2_with fail
    go_loopw [6, 19] (fun v ii wr => ∃ (i : Nat) (ts : List SR) (vv : Value), vv = v ∧ ii = .int .i64 (i : Nat) ∧ i ≤ m ∧ ts.length = k + i ∧ Shut (rws ts = C.take (k + i)) ∧ Shut (BI w wr vv ts)) (fun _ ii _ => m - (intOf ii).toNat)
    case atStart => exact ⟨0, ss, _, rfl, rfl, Nat.zero_le _, HLS.out, HRW, HBI⟩
    case round =>
      clear HBI HRW HLS
      obtain ⟨i, ts, v, rfl, rfl, him, htl, hrw, hbi⟩ := hrel
      obtain ⟨wo, rfl⟩ : ∃ wo, wo = wr := ⟨_, rfl⟩
      have HTL : Hid (ts.length = k + i) := htl
      clear htl
      by_cases hlt : i < m
      · have hlt' : (i : Int) < (m : Int) := by omega
        have k0 : (0 : Int) ≤ (i : Int) := by omega
        have HST := Shut.mk (HTK.out i hlt)
        have HSR := Shut.mk (fun W => implSumRow k i W (by omega) (by omega))
        go_wp2_with fail
        refine (HSR.out _).mono ?_
        rintro e wi ⟨rv, rfl, hown2, hbq⟩
        obtain ⟨gr, cr, rfl, hcr⟩ := own_at hown2 (by rw [codeRow_len]; omega)
        rw [codeRow_len] at hown2 hcr ⊢
        have hgr := hown2.lt gr rfl
        have HROW := Shut.mk (own_wcells hown2)
        have HBI := Shut.mk (hbi.out.newrow hbq hgr.1)
        have hsi : wo.heap.size ≤ wi.heap.size := hbq.size
        have hso := hbi.out.bel.size
        have hgr1 := hgr.1
        have hown := HBI.out.1.own
        clear hown2 hbq hbi hgr HSR
        go_wp2_with (at_builtin; refine wpList_append_own _ rfl _ _ 50 rfl w.heap.size 52 i0 (.slice none 0 0) 1 24 Tw.underlying50 hi0 hz0 hz1 hz2 rfl (by decide) _ _ _ rfl (hown.alloc _) ⟨wi.heap.size, 0, none⟩ 1 1 [.slice (some ⟨gr, 0, none⟩) k cr] rfl rfl (cell_one_new _ _ _) ?c2 ?c3 ?c4 ?c5 ?_)
        case c2 => first | rfl | (intro u hu; simp at hu; subst hu; rfl)
        case c3 => unfold maxLen; have := HTL.out; omega
        case c4 => have := HTL.out; omega
        case c5 => first | omega | (simp; omega)
        intro v' w6 hown' hgrow _
        have hne : codeRow k i ≠ [] := fun e => by have := congrArg List.length e; rw [codeRow_len] at this; simp at this; omega
        have hap := HBI.out.1.append (cap := cr) (by omega) HROW.out hne (by rw [codeRow_len]; exact hcr) HBI.out.2.1 HBI.out.2.2 (by rw [codeRow_len]; exact hown') hgrow
        have HAP := Shut.mk hap
        have HR2 : Shut (rws (ts ++ [SR.mk (some ⟨gr, 0, none⟩) (codeRow k i) cr]) = C.take (k + (i + 1))) := ⟨by rw [rws_snoc, hrw.out, ← Nat.add_assoc, HST.out]⟩
        clear hap hown' hgrow hown HBI HROW hrw hne
        go_wp2_with fail
        go_roundw
        case rel => exact ⟨i + 1, _, v', rfl, by go_num, by omega, by rw [List.length_append, List.length_singleton, HTL.out]; omega, HR2, HAP⟩
        case measure => simp [intOf]; omega
      · have e : i = m := by omega
        have hlt' : ¬ (i : Int) < (m : Int) := by omega
        have HF := Shut.mk (hbi.out.fin (X := C) (by rw [hrw.out, List.take_of_length_le (by rw [HLEN.out]; omega)]))
        have HB := Shut.mk hbi.out.bel
        clear e hbi hrw
        go_wp2_with fail
        go_ret
        exact ⟨v, rfl, HF.out, HB.out⟩
end Go.Proofs.YtbkimmbfepjodaaDoorT
/- Texts byte by byte, plain: sums of texts, and of texts so many times. -/
namespace Go.Proofs.YtbkimmbfepjodaaDoorT
set_option maxRecDepth 100000
open Go.RowKit
open W (B8 Mx)
attribute [local irreducible] W.gm W.xs W.mm W.gi

end Go.Proofs.YtbkimmbfepjodaaDoorT
