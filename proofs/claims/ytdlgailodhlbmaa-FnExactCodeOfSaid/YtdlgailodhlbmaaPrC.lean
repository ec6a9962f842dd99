/- The program's own intsOf, matrixOf, ones. -/
import Derived.Test.YtdlgailodhlbmaaByA
namespace Go.Proofs.Ytdlgailodhlbmaa
open Go.RowKit
open W (B8)
attribute [local go_sem ↓] Go.wp_at_zero Go.wp_at_succ
attribute [local irreducible] W.gm W.xt W.gp W.gi

theorem infoRowB : (Try.prog.info? 82).map (fun i => (i.zero, i.size, i.bytes)) = some (some (.slice none 0 0), 1, 24) := by kernel_rfl
theorem infoB : (Try.prog.info? 71).map (fun i => (i.zero, i.size, i.bytes)) = some (some (.int .u8 0), 1, 1) := by kernel_rfl
/-- Bytes as numbers. -/
def toI (r : List B8) : List Int := r.map fun A => (A.toNat : Int)
def toIs (K : List (List B8)) : List (List Int) := K.map toI
theorem toI_len (r : List B8) : (toI r).length = r.length := by simp [toI]
theorem toI_ne {r : List B8} (h : r ≠ []) : toI r ≠ [] := fun e => h (by simpa [toI] using e)
/-- Rows that are none of them nothing. -/
def NE (K : List (List B8)) : Prop := ∀ r ∈ K, r ≠ [] ∧ r.length ≤ 1000
theorem own_at {w : World} {B n sz : Nat} {t : TypeId} {v : Value} {L : List Value} (h : w.ownsRow B t sz v n L) (hp : 0 < n) : ∃ g cap, v = .slice (some ⟨g, 0, none⟩) n cap ∧ n ≤ cap := by
  rcases h.2 with ⟨_, h0⟩ | ⟨g, cap, _, rfl, _, _, hc, _⟩
  · omega
  · exact ⟨g, cap, rfl, hc⟩
theorem BI.newrow {w wo wi : World} {v : Value} {ts : List SR} {gr : Nat} (h : BI w wo v ts) (hb : Below wo.heap.size wo wi) (hg : wo.heap.size ≤ gr) : BI w wi v ts ∧ (∀ q, v.ownBlock = some q → q ≠ gr) ∧ ∀ s ∈ ts, s.loc ≠ some ⟨gr, 0, none⟩ :=
  ⟨h.below hb, fun q hq => by have := (h.own.lt q hq).2; omega, fun s hs e => by obtain ⟨b', e', _, q, _⟩ := h.rows s hs; have : b' = gr := congrArg Addr.block (Option.some.inj (e'.symm.trans e)); have := q.1; omega⟩
/-- Rows that were made by append, and are answered. -/
def BPostI (X : List (List Int)) (w : World) (e : Ending) (w' : World) : Prop := ∃ v ts, e = .returned v ∧ rws ts = X ∧ BI w w' v ts
set_option maxRecDepth 100000 in
set_option maxHeartbeats 2000000 in
theorem implIntsOfB (w : World) (v : Value) (K : List (List B8)) (lo hi : Nat) (hs : KSee w v K lo hi) (hne : NE K) (hl : K.length ≤ 1000) :
    Calls Try.prog 57 #[v] w fun e w' => BPostI (toIs K) w e w' := by
  obtain ⟨a, cap, ss, rfl, hr, hm⟩ := hs
  obtain ⟨i0, hi0, hz0, hz1, hz2⟩ := info_parts infoRow
  obtain ⟨i1, hi1, hy0, hy1, hy2⟩ := info_parts infoIntG
  have HM := Shut.mk hm
  have HX := Shut.mk (show kws ss = K from hr)
  obtain ⟨n, hn⟩ : ∃ n, n = ss.length := ⟨_, rfl⟩
  have HN : Hid (n = ss.length ∧ K.length = n) := ⟨hn, by rw [← hr, kws_len, hn]⟩
  have HE := Shut.mk hne
  have hn1 : n ≤ 1000 := by have := HN.out.2; omega
  rw [← hn]
  clear hm hr hne hn hl
  go_enter Try.func57, Try.ntmps57
  go_wp2_with fail
  go_loopw [3, 11] (fun v i wr => ∃ (ts : List SR) (vv : Value), vv = v ∧ i = .int .i64 (ts.length : Nat) ∧ ts.length ≤ n ∧ Shut (rws ts = (toIs K).take ts.length) ∧ Shut (BI w wr vv ts)) (fun _ i _ => n - (intOf i).toNat)
  case atStart => exact ⟨[], _, rfl, rfl, by simp, ⟨rfl⟩, ⟨BI.start w (World.ownsRow_nil _ _ _ _) (Below.refl _ _)⟩⟩
  case round =>
    obtain ⟨ts, v, rfl, rfl, hk, hrw, hbi⟩ := hrel
    obtain ⟨wo, rfl⟩ : ∃ wo, wo = wr := ⟨_, rfl⟩
    obtain ⟨i, hie⟩ : ∃ i, i = ts.length := ⟨_, rfl⟩
    have HI : Hid (i = ts.length) := hie
    rw [← hie] at hk ⊢
    clear hie
    by_cases hlt : i < n
    · have hls : i < ss.length := by have := HN.out.1; omega
      have hso := hbi.out.bel.size
      obtain ⟨b, off, rfl, lb, hcell⟩ := (HM.out.below hbi.out.bel).at (by omega)
      have d1 := hcell i hls
      have hrr := ((HM.out.below hbi.out.bel).2 ss[i] (List.getElem_mem hls)).crow
      have hmem : ss[i].row ∈ K := by rw [← HX.out]; exact List.mem_map.2 ⟨ss[i], List.getElem_mem hls, rfl⟩
      have hne := HE.out _ hmem
      have hget : K[i]'(by have := HN.out.2; omega) = ss[i].row := by
        have := kws_get ss i hls
        simp only [HX.out] at this
        exact this
      unfold ksv at d1
      obtain ⟨row, hrow⟩ : ∃ row, row = ss[i].row := ⟨_, rfl⟩
      rw [← hrow] at d1 hrr hne hget
      generalize ss[i].loc = loc at *
      generalize ss[i].cap = cp at *
      have HST := Shut.mk (show (toIs K).take (i + 1) = (toIs K).take i ++ [toI row] by
        have hi2 : i < (toIs K).length := by unfold toIs; rw [List.length_map]; have := HN.out.2; omega
        rw [List.take_succ_eq_append_getElem hi2]
        simp only [toIs, List.getElem_map, hget])
      obtain ⟨m, hm⟩ : ∃ m, m = row.length := ⟨_, rfl⟩
      have HMR : Hid (m = row.length) := hm
      rw [← hm] at d1 hne
      obtain ⟨hne1, hm1⟩ := hne
      have hm0 : 0 < m := by rw [hm]; exact List.length_pos_iff.2 hne1
      have HR := Shut.mk hrr
      have HNE : Hid (row ≠ []) := hne1
      have k0 : (0 : Int) ≤ (i : Int) := by omega
      have k1 : (i : Int) < (n : Int) := by omega
      clear hm hrow hcell hmem hrr hget hne1
      go_wp2_with fail
      go_loopw [6, 17] (fun rv kk wq => ∃ (k : Nat) (rr : Value), rr = rv ∧ kk = .int .i64 k ∧ k ≤ m ∧ Shut (wq.ownsRow wo.heap.size 3 1 rr k (ics (toI (row.take k)))) ∧ Shut (Below wo.heap.size wo wq)) (fun _ kk _ => m - (intOf kk).toNat)
      case atStart => exact ⟨0, _, rfl, rfl, by omega, ⟨World.ownsRow_nil _ _ _ _⟩, ⟨Below.refl _ _⟩⟩
      case round =>
        obtain ⟨k, rr, rfl, rfl, hkm, hown, hbq⟩ := hrel
        obtain ⟨wi, rfl⟩ : ∃ wi, wi = wr := ⟨_, rfl⟩
        by_cases hkl : k < m
        · have hkr : k < row.length := by have := HMR.out; omega
          have hkl' : (k : Int) < (m : Int) := by omega
          have kk0 : (0 : Int) ≤ (k : Int) := by omega
          obtain ⟨b', o', rfl, lb', hc'⟩ := crow_byte (HR.out.stays hbq.out) (by omega)
          have d2 := hc' k hkr
          have hlx := b8_lt (row.getD k 0#8)
          have hst : ics (toI (row.take (k + 1))) = ics (toI (row.take k)) ++ [.int .i64 ((row.getD k 0#8).toNat : Int)] := by
            have e : row[k] = row.getD k 0#8 := by simp [List.getD, hkr]
            rw [List.take_succ_eq_append_getElem hkr, e]
            simp [toI, ics]
          generalize row.getD k 0#8 = x at *
          have HS2 := Shut.mk hst
          have hown3 := hown.out
          have hs3 := hbq.out.size
          clear hst hc' hown
          go_wp2_with (at_builtin; refine wpList_append_own _ rfl _ _ 32 rfl wo.heap.size 3 i1 (.int .i64 0) 1 8 Try.underlying32 hi1 hy0 hy1 hy2 rfl (by decide) _ _ _ rfl (hown3.alloc _) ⟨wi.heap.size, 0, none⟩ 1 1 [.int .i64 (x.toNat : Int)] rfl rfl (cell_one_new _ _ _) ?c2 ?c3 ?c4 ?c5 ?_)
          case c2 => first | rfl | (intro u hu; simp at hu; subst hu; rfl)
          case c3 => unfold maxLen; omega
          case c4 => omega
          case c5 => first | omega | (simp; omega)
          intro v' w4 hown' hgrow _
          rw [← HS2.out] at hown'
          have Q1 := Shut.mk hown'
          have Q2 := Shut.mk ((hbq.out.alloc hs3 (.cells #[.int .i64 (x.toNat : Int)] 3)).grown hgrow (by simp; omega) (fun j hj => (hown3.lt j hj).1))
          clear hown' hgrow hown3 hbq
          go_wp2_with fail
          go_roundw
          case rel => exact ⟨k + 1, v', rfl, by go_num, by omega, Q1, Q2⟩
          case measure => simp [intOf]; omega
        · have e : k = m := by omega
          have hkl' : ¬ (k : Int) < (m : Int) := by omega
          have hown2 := hown.out
          rw [List.take_of_length_le (by have := HMR.out; omega)] at hown2
          obtain ⟨gr, cr, rfl, hcr⟩ := own_at hown2 (by omega)
          have hgr := hown2.lt gr rfl
          have HROW := Shut.mk (own_wcells hown2)
          have HBI := Shut.mk (hbi.out.newrow hbq.out hgr.1)
          have hsi : wo.heap.size ≤ wi.heap.size := hbq.out.size
          have hgr1 := hgr.1
          have hown := HBI.out.1.own
          clear hown2 hbq hbi hgr
          rw [e] at *
          clear e
          go_wp2_with (at_builtin; refine wpList_append_own _ rfl _ _ 36 rfl w.heap.size 32 i0 (.slice none 0 0) 1 24 Try.underlying36 hi0 hz0 hz1 hz2 rfl (by decide) _ _ _ rfl (hown.alloc _) ⟨wi.heap.size, 0, none⟩ 1 1 [.slice (some ⟨gr, 0, none⟩) m cr] rfl rfl (cell_one_new _ _ _) ?c2 ?c3 ?c4 ?c5 ?_)
          case c2 => first | rfl | (intro u hu; simp at hu; subst hu; rfl)
          case c3 => unfold maxLen; have := HI.out; omega
          case c4 => have := HI.out; omega
          case c5 => first | omega | (simp; omega)
          intro v' w6 hown' hgrow _
          have hlen : (toI row).length = m := by rw [toI_len, HMR.out]
          have hap := HBI.out.1.append (cap := cr) (by omega) HROW.out (toI_ne HNE.out) (by rw [hlen]; exact hcr) HBI.out.2.1 HBI.out.2.2 (by rw [hlen]; exact hown') hgrow
          have HAP := Shut.mk hap
          have HR2 : Shut (rws (ts ++ [SR.mk (some ⟨gr, 0, none⟩) (toI row) cr]) = (toIs K).take (i + 1)) := ⟨by rw [rws_snoc, hrw.out, HST.out, HI.out]⟩
          clear hap hown' hgrow hown HBI HROW hrw hlen
          go_wp2_with fail
          go_roundw
          case rel => exact ⟨_, v', rfl, by rw [List.length_append, List.length_singleton, ← HI.out]; go_num, by rw [List.length_append, List.length_singleton, ← HI.out]; omega, ⟨by rw [List.length_append, List.length_singleton, ← HI.out]; exact HR2.out⟩, HAP⟩
          case measure => simp [intOf]; omega
    · have e : i = n := by omega
      have hlt' : ¬ (i : Int) < (n : Int) := by omega
      have HF := Shut.mk (show rws ts = toIs K by
        rw [hrw.out, List.take_of_length_le (by unfold toIs; rw [List.length_map]; have := HN.out.2; have := HI.out; omega)])
      have HB := Shut.mk hbi.out
      clear e hbi hrw
      go_wp2_with fail
      go_ret
      exact ⟨v, ts, rfl, HF.out, HB.out⟩
theorem implIntsOf (w : World) (v : Value) (K : List (List B8)) (lo hi : Nat) (hs : KSee w v K lo hi) (hne : NE K) (hl : K.length ≤ 1000) :
    Calls Try.prog 57 #[v] w fun e w' => MPost (toIs K) w e w' := (implIntsOfB w v K lo hi hs hne hl).mono fun _ _ ⟨v, _, he, hr, hb⟩ => ⟨v, he, hb.fin hr, hb.bel⟩
end Go.Proofs.Ytdlgailodhlbmaa
