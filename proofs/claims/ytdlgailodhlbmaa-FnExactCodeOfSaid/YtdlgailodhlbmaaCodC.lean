/- The walk of the model's Encode. -/
import Derived.Test.YtdlgailodhlbmaaCodB
import Derived.Deep.OwnRows
import Derived.Deep.RegionLaw
namespace Go.Proofs.Ytdlgailodhlbmaa
open Go.RowKit
open W (B8 Mx)
attribute [local go_sem ↓] Go.wp_at_zero Go.wp_at_succ
attribute [local irreducible] W.gm W.xs W.mm W.gi mx matOk addB mulT appX codeX

theorem infoByteG : (Try.prog.info? 5).map (fun i => (i.zero, i.size, i.bytes)) = some (some (.int .u8 0), 1, 1) := by kernel_rfl
theorem make_zeros (n : Nat) (h : n ≤ 1000) (W : World) : (Instr.makeSlice 22 (.int .i64 (n : Int)) (.int .i64 (n : Int))).run Try.prog W = .ok (.slice (some ⟨W.heap.size, 0, none⟩) n n) (W.alloc (.cells (madeCells #[.int .u8 0] n) 5)) :=
  run_make_row' 22 5 (.int .u8 0) 1 Try.underlying22 infoByteG rfl .i64 .i64 n (by omega) (by omega) W
theorem zeros_row (n : Nat) (W : World) : BRow (W.alloc (.cells (madeCells #[.int .u8 0] n) 5)) W.heap.size (List.replicate n (0 : UInt8)) := by
  have h := wcells_new W (madeCells #[.int .u8 0] n) 5
  rw [toList_madeCells_one] at h
  refine ⟨h.1, fun j hj => ?_⟩
  have hj' : j < n := by simpa using hj
  have := h.2 j (.int .u8 0) (by simp [hj'])
  have e : (List.replicate n (0 : UInt8)).getD j 0 = 0 := by simp [List.getD, hj']
  rw [e]
  exact this
theorem zeros_text {n : Nat} {W : World} {g : Nat} (h : BRow W g (List.replicate n (0 : UInt8))) : (convert 22 9 (.slice (some ⟨g, 0, none⟩) n n)).run Try.prog W = .ok (.string (zerosB n)) W := by
  have := brow_string (cap := n) h
  rw [List.length_replicate] at this
  exact this
theorem brow_below {w w' : World} {g : Nat} {l : List UInt8} (h : BRow w g l) (hb : Below w.heap.size w w') : BRow w' g l :=
  ⟨Nat.lt_of_lt_of_le h.1 hb.size, fun j hj => ⟨(hb.cell (p := ⟨g, j, none⟩) h.1).trans (h.2 j hj).1, (hb.frozen (p := ⟨g, j, none⟩) h.1).trans (h.2 j hj).2⟩⟩
theorem cell_kept {w w' : World} {p : Addr} {v : Value} (h : w.cell? p = some v) (hb : Below w.heap.size w w') : w'.cell? p = some v := (hb.cell (p := p) (cell_in h)).trans h
theorem cell_grown {w w' : World} {p : Addr} {v : Value} {r : Option Nat} (h : w.cell? p = some v) (hg : w.grownBy w' r) (hn : r ≠ some p.block) : w'.cell? p = some v := (World.cell?_of_block (a := p) (hg.block p.block (cell_in h) (fun e => hn e.symm))).trans h
theorem own_kept {w w' : World} {B n sz : Nat} {t : TypeId} {v : Value} {L : List Value} (h : w.ownsRow B t sz v n L) (hb : Below w.drew.heap.size w.drew w') : w'.ownsRow B t sz v n L :=
  h.kept (row := none) ⟨hb.os, hb.tape, hb.output, hb.size, fun k hk _ => hb.block k hk⟩ (Classical.em _)
theorem mostL_take {L : List ByteArray} {i : Nat} (hi : i < L.length) : mostL (L.take (i + 1)) = max (mostL (L.take i)) (L.getD i ⟨#[]⟩).size := by
  have e : L[i] = L.getD i ⟨#[]⟩ := by simp [List.getD, hi]
  rw [List.take_succ_eq_append_getElem hi, mostL_snoc, e]
theorem shortL_no {L : List ByteArray} {i : Nat} (hi : i < L.length) (h : 200 < (L.getD i ⟨#[]⟩).size) : shortL L = false := by
  have e : L[i] = L.getD i ⟨#[]⟩ := by simp [List.getD, hi]
  unfold shortL
  rw [List.all_eq_false]
  exact ⟨L[i], List.getElem_mem hi, by rw [e]; simp only [decide_eq_true_eq]; omega⟩
theorem shortL_yes {L : List ByteArray} (h : ∀ i, i < L.length → (L.getD i ⟨#[]⟩).size ≤ 200) : shortL L = true := by
  unfold shortL
  rw [List.all_eq_true]
  intro x hx
  obtain ⟨i, hi, rfl⟩ := List.mem_iff_getElem.1 hx
  have e : L[i] = L.getD i ⟨#[]⟩ := by simp [List.getD, hi]
  rw [e]; simp only [decide_eq_true_eq]; exact h i hi
theorem shortL_size {L : List ByteArray} (h : shortL L = true) : ∀ x ∈ L, x.size ≤ 200 := fun x hx => by
  unfold shortL at h
  rw [List.all_eq_true] at h
  simpa using h x hx
theorem SAns.broad {w : World} {v : Value} {L : List ByteArray} {lo hi lo' hi' : Nat} (h : SAns w v L lo hi) (h1 : lo' ≤ lo) (h2 : hi ≤ hi') : SAns w v L lo' hi' := by
  obtain ⟨a, cap, e, hc, q⟩ := h
  refine ⟨a, cap, e, hc, ?_⟩
  rcases q with rfl | ⟨g, rfl, q1, q2, hm⟩
  · exact .inl rfl
  · exact .inr ⟨g, rfl, by omega, by omega, hm⟩
theorem xsum_le {X : List (List Int)} {m : Nat} (h : ∀ x ∈ X, x.length ≤ m) : xsum X ≤ X.length * m := by
  induction X with
  | nil => simp [xsum]
  | cons x X ih =>
    have h1 := h x (by simp)
    have h2 := ih (fun y hy => h y (by simp [hy]))
    simp only [xsum, List.length_cons]
    rw [Nat.add_mul]; omega
theorem tsum_all {L : List ByteArray} {m : Nat} (h : ∀ x ∈ L, x.size ≤ m) : tsum L ≤ L.length * m := by
  induction L with
  | nil => simp [tsum]
  | cons x X ih =>
    have h1 := h x (by simp)
    have h2 := ih (fun y hy => h y (by simp [hy]))
    simp only [tsum, List.length_cons]
    rw [Nat.add_mul]; omega
theorem codeX_fit {s : Int} (h : schOk s = true) : MFit (codeX s) := by
  obtain ⟨b1, b2, b3, b4⟩ := sch_bounds h
  have h1 := codeX_len h
  have h2 := xsum_le (X := codeX s) (m := 4) (fun x hx => by have := (codeX_rows h x hx).1; omega)
  unfold MFit
  omega
theorem fillL_size {L : List ByteArray} (h : shortL L = true) : ∀ x ∈ fillL L, x.size ≤ 200 := fun x hx => by
  obtain ⟨y, hy, rfl⟩ := List.mem_map.1 hx
  rw [addB_size, zerosB_size]
  have h1 := shortL_size h y hy
  have h2 := mostL_all (shortL_size h)
  omega
theorem fillL_fit {L : List ByteArray} (hl : L.length ≤ 8) (h : shortL L = true) : TFit (fillL L) := by
  have h1 := tsum_all (fillL_size h)
  unfold TFit
  rw [fillL_len] at *
  omega
set_option maxRecDepth 100000 in
set_option maxHeartbeats 4000000 in
theorem specEncode_walk (s : Int) (L : List ByteArray) (k b2 o2 cap2 : Nat) (w : World) (hs : schOk s = true) (hk : schK s = k) (hl : L.length = k) (hU : b2 < w.heap.size ∧ ∀ j, j < k → w.cell? ⟨b2, o2 + j, none⟩ = some (.string (L.getD j ⟨#[]⟩))) (hf : TFit L) :
    Calls Try.prog 14 #[.int .i64 s, .slice (some ⟨b2, o2, none⟩) k cap2] w fun e w' => TPost (encX s L) w e w' := by
  obtain ⟨i0, hi0, hz0, hz1, hz2⟩ := info_parts infoTextG
  obtain ⟨b1, b3, _, _⟩ := sch_bounds hs
  rw [hk] at b1 b3
  have HS := Shut.mk (fun W => specSchema s W)
  unfold SchPost at HS
  rw [hs, hk] at HS
  have HU := Shut.mk hU
  have HL : Hid (L.length = k) := hl
  have HOK := Shut.mk (And.intro hs hk)
  have hfz : ∀ j, j < k → (L.getD j ⟨#[]⟩).size ≤ 1048576 := fun j hj => by
    have hj' : j < L.length := by omega
    have := tsum_mem (L := L) (x := L.getD j ⟨#[]⟩) (by simp [List.getD, hj'])
    unfold TFit at hf; omega
  have HFZ := Shut.mk hfz
  have hne : ((k : Int) != (k : Int)) = false := by simp
  clear hU hl hf hs hk hfz
  go_enter Try.func14, Try.ntmps14
  go_wp2_with fail
  refine (HS.out _).mono ?_
  rintro e w0 ⟨rfl, rfl⟩
  go_wp2_with fail
  go_loop [9, 10] (fun mm ii => ∃ (i : Nat), ii = .int .i64 (i : Nat) ∧ mm = .int .i64 (mostL (L.take i) : Nat) ∧ i ≤ k ∧ Shut (∀ j, j < i → (L.getD j ⟨#[]⟩).size ≤ 200)) (fun _ ii => k - (intOf ii).toNat)
  case atStart => exact ⟨0, rfl, rfl, Nat.zero_le _, ⟨fun j hj => by omega⟩⟩
  case round =>
    obtain ⟨i, rfl, rfl, hik, hsh⟩ := hrel
    by_cases hlt : i < k
    · have hlt' : (i : Int) < (k : Int) := by omega
      have i0' : (0 : Int) ≤ (i : Int) := by omega
      have d := HU.out.2 i hlt
      have hsz := HFZ.out i hlt
      have hmt := mostL_take (L := L) (i := i) (by have := HL.out; omega)
      have hml : mostL (L.take i) ≤ 200 := mostL_all (fun x hx => by
        obtain ⟨j, hj, rfl⟩ := List.mem_iff_getElem.1 hx
        have hj1 : j < i := by rw [List.length_take] at hj; omega
        have hj2 : j < L.length := by have := HL.out; omega
        have := hsh.out j hj1
        have e : L.getD j ⟨#[]⟩ = L[j] := by simp [List.getD, hj2]
        rw [e] at this
        simpa using this)
      by_cases hbig : (200 : Int) < ((L.getD i ⟨#[]⟩).size : Int)
      · have HNO := Shut.mk (encX_no (s := s) (L := L) (fun h => by have := shortL_no (L := L) (i := i) (by have := HL.out; omega) (by omega); rw [this] at h; cases h.2.2))
        generalize L.getD i ⟨#[]⟩ = x at *
        clear hmt hml hsh
        go_wp2_with fail
        go_ret2
        exact tpost_no HNO.out rfl ((Below.refl _ _).alloc (Nat.le_refl _) _)
      · have HSH : Shut (∀ j, j < i + 1 → (L.getD j ⟨#[]⟩).size ≤ 200) := ⟨fun j hj => by
          by_cases e : j = i
          · subst e; omega
          · exact hsh.out j (by omega)⟩
        have HMT := Shut.mk hmt
        generalize L.getD i ⟨#[]⟩ = x at *
        generalize mostL (L.take i) = m at *
        clear hmt hsh
        by_cases hm : (m : Int) < (x.size : Int)
        · go_wp2_with fail
          go_round
          case rel => exact ⟨i + 1, by go_num, by rw [HMT.out, Nat.max_eq_right (by omega)], by omega, HSH⟩
          case measure => simp [intOf]; omega
        · go_wp2_with fail
          go_round
          case rel => exact ⟨i + 1, by go_num, by rw [HMT.out, Nat.max_eq_left (by omega)], by omega, HSH⟩
          case measure => simp [intOf]; omega
    · have e : i = k := by omega
      subst e
      rw [List.take_of_length_le (by rw [HL.out]; exact Nat.le_refl _)]
      have HSHL : Shut (shortL L = true) := ⟨shortL_yes (fun j hj => hsh.out j (by rw [← HL.out]; exact hj))⟩
      have hM : mostL L ≤ 200 := mostL_all (shortL_size HSHL.out)
      have HENC := Shut.mk (encX_yes (s := s) (L := L) ⟨HOK.out.1, by rw [HL.out, HOK.out.2], HSHL.out⟩)
      have HFL : Shut (∀ j, j < i → (fillL L).take (j + 1) = (fillL L).take j ++ [addB (L.getD j ⟨#[]⟩) (zerosB (mostL L))]) := ⟨fun j hj => by
        have h1 : j < (fillL L).length := by rw [fillL_len, HL.out]; exact hj
        have h2 : j < L.length := by rw [HL.out]; exact hj
        rw [List.take_succ_eq_append_getElem h1]
        simp [fillL, List.getD, h2]⟩
      have hlt' : ¬ (i : Int) < (i : Int) := by omega
      obtain ⟨M, hMe⟩ : ∃ M, M = mostL L := ⟨_, rfl⟩
      rw [← hMe] at hM HFL ⊢
      clear hMe hsh
      have HOW : Shut ((w0.alloc (.cells #[] 9)).ownsRow w0.heap.size 9 1 (.slice (some ⟨w0.heap.size, 0, none⟩) 0 0) 0 (tv ((fillL L).take 0))) := ⟨World.ownsRow_made w0 #[] 0 (Nat.le_refl _) (by decide) rfl⟩
      have HBW := Shut.mk (show Below w0.heap.size w0 (w0.alloc (.cells #[] 9)) from (Below.refl _ _).alloc (Nat.le_refl _) _)
      go_wp2_with fail
      go_loopw [11, 12] (fun v jj wr => ∃ (j : Nat) (vv : Value), vv = v ∧ jj = .int .i64 (j : Nat) ∧ j ≤ i ∧ Shut (wr.ownsRow w0.heap.size 9 1 vv j (tv ((fillL L).take j))) ∧ Shut (Below w0.heap.size w0 wr)) (fun _ jj _ => i - (intOf jj).toNat)
      case atStart => exact ⟨0, _, rfl, rfl, Nat.zero_le _, HOW, HBW⟩
      case round =>
        clear HOW HBW
        obtain ⟨j, v, rfl, rfl, hji, hown, hb⟩ := hrel
        obtain ⟨wo, rfl⟩ : ∃ wo, wo = wr := ⟨_, rfl⟩
        by_cases hjl : j < i
        · have hjl' : (j : Int) < (i : Int) := by omega
          have j0 : (0 : Int) ≤ (j : Int) := by omega
          have hso := hb.out.size
          have d := (hb.out.cell (p := ⟨b2, o2 + j, none⟩) HU.out.1).trans (HU.out.2 j hjl)
          have hsz := HFZ.out j hjl
          have HST := Shut.mk (HFL.out j hjl)
          have hmk := make_zeros M (by omega)
          have HADD := Shut.mk (fun W => specAddText (L.getD j ⟨#[]⟩) (zerosB M) W hsz (by rw [zerosB_size]; omega))
          generalize L.getD j ⟨#[]⟩ = x at *
          generalize addB x (zerosB M) = T at *
          have hcv1 := zeros_text (zeros_row M wo)
          have hcv2 := zeros_text (brow_below (zeros_row M wo) (Below.drew (Below.refl _ _)))
          have hown3 := hown.out
          have l2 : b2 < wo.heap.size := Nat.lt_of_lt_of_le HU.out.1 hso
          go_wp2_with fail
          have nv : v.ownBlock ≠ some (⟨b2, o2 + j, none⟩ : Addr).block := fun e => by have := (hown3.lt _ e).1; have := HU.out.1; simp at *; omega
          have tokA : True := trivial
          go_region_law
            (first
              | (have _t := tokA; go_simp; go_at_call 43; refine (HADD.out _).mono ?_; rintro e w6 ⟨rfl, hbA⟩; clear _t tokA)
              | (refine step_append_lies _ (by rfl) _ _ _ (by rfl) w0.heap.size 9 i0 (.string ⟨#[]⟩) 1 16 Try.underlying24 hi0 hz0 hz1 hz2 rfl (by decide) _ _ _ (by rfl) ((own_kept (hown3.alloc (.cells (madeCells #[.int .u8 0] M) 5)) hbA).alloc _) ⟨w6.heap.size, 0, none⟩ 1 1 [.string T] (by rfl) (by rfl) (cell_one_new _ _ _) (by simp [Value.oneCell']) (by omega) (by unfold maxLen; omega) (by omega) (by have h1 := hbA.size; simp at h1 ⊢; omega) (w6.heap.size + 1) (by simp) ?_; intro gg cap1 w8 hown1 hgrow hat hlt8))
          all_goals go_wp2_with fail
          all_goals
            have hb6 : Below w0.heap.size w0 w6 := (Below.drew (hb.out.alloc hso _)).trans (hbA.mono (by simp; omega))
            have hb8 : Below w0.heap.size w0 w8 := (hb6.alloc hb6.size _).grown hgrow (by have := hb6.size; simp; omega) (fun q hq => (hown3.lt q hq).1)
            exact ⟨⟨j + 1, _, rfl, by go_num, by omega, ⟨by rw [HST.out, ← tv_snoc]; exact hown1⟩, ⟨hb8⟩⟩, by simp [intOf]; omega⟩
        · have e : j = i := by omega
          have hjl' : ¬ (j : Int) < (i : Int) := by omega
          have hso := hb.out.size
          have hown3 := hown.out
          rw [e, List.take_of_length_le (by rw [fillL_len, HL.out]; exact Nat.le_refl _)] at hown3
          have HSA := Shut.mk (own_sans (by rw [fillL_len, HL.out]) hown3)
          have HCO := Shut.mk (specCodeOf s wo)
          have HB := hb
          clear hown hown3 e hb
          go_wp2_with fail
          refine HCO.out.mono ?_
          rintro e w6 ⟨v6, rfl, ha6, hb6⟩
          have HB6 := Shut.mk (HB.out.trans (hb6.mono HB.out.size))
          have HAP := Shut.mk (specApplyM ha6.see (HSA.out.see.below hb6) (codeX_fit HOK.out.1) (fillL_fit (by rw [HL.out]; omega) HSHL.out))
          clear ha6 hb6 HCO HSA
          go_wp2_with fail
          refine HAP.out.mono ?_
          rintro e w7 ⟨v7, rfl, ha7, hb7⟩
          have HR := Shut.mk (show TPost (encX s L) w0 (.returned (.tuple #[v7, .bool true])) w7 from ⟨v7, by rw [HENC.out], by rw [HENC.out]; exact ha7.broad HB6.out.size (Nat.le_refl _), HB6.out.trans (hb7.mono HB6.out.size)⟩)
          clear ha7 hb7 HAP
          go_wp2_with fail
          go_ret2
          exact HR.out
/-- Encode's model, at every argument. -/
theorem specEncode {w : World} {u : Value} {L : List ByteArray} {lo hi : Nat} (s : Int) (hu : SSee w u L lo hi) (hf : TFit L) : Calls Try.prog 14 #[.int .i64 s, u] w fun e w' => TPost (encX s L) w e w' := by
  obtain ⟨a2, cap2, rfl, hm2⟩ := hu
  cases h : schOk s with
  | false =>
    have HNO := Shut.mk (encX_no (s := s) (L := L) (fun q => by rw [h] at q; cases q.1))
    have HS := Shut.mk (fun W => specSchema s W)
    unfold SchPost at HS
    rw [h] at HS
    clear h hm2 hf
    go_enter Try.func14, Try.ntmps14
    go_wp2_with fail
    refine (HS.out _).mono ?_
    rintro e w0 ⟨rfl, rfl⟩
    go_wp2_with fail
    go_ret2
    exact tpost_no HNO.out rfl ((Below.refl _ _).alloc (Nat.le_refl _) _)
  | true =>
    obtain ⟨b1, b2, _, _⟩ := sch_bounds h
    by_cases hl : L.length = schK s
    · obtain ⟨b, off, rfl, lb, hc⟩ := units_in hm2 (by omega)
      rw [hl]
      exact specEncode_walk s L (schK s) b off cap2 w h rfl hl ⟨lb, fun j hj => hc j (by omega)⟩ hf
    · have HNO := Shut.mk (encX_no (s := s) (L := L) (fun q => hl q.2.1))
      have hne : ((L.length : Int) != (schK s : Int)) = true := by rw [bne_iff_ne]; omega
      have HS := Shut.mk (fun W => specSchema s W)
      unfold SchPost at HS
      rw [h] at HS
      generalize schK s = k at *
      clear h hm2 hf hl
      go_enter Try.func14, Try.ntmps14
      go_wp2_with fail
      refine (HS.out _).mono ?_
      rintro e w0 ⟨rfl, rfl⟩
      go_wp2_with fail
      go_ret2
      exact tpost_no HNO.out rfl ((Below.refl _ _).alloc (Nat.le_refl _) _)
end Go.Proofs.Ytdlgailodhlbmaa
