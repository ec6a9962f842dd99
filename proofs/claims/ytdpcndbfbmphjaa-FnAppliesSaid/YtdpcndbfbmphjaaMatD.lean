/- The walk of the model's MulM. -/
import Derived.Test.YtdpcndbfbmphjaaMatC
namespace Go.Proofs.Ytdpcndbfbmphjaa
open Go.RowKit
open W (B8 Mx)
attribute [local go_sem ↓] Go.wp_at_zero Go.wp_at_succ
attribute [local irreducible] W.gm W.xs W.mm

set_option maxRecDepth 100000 in
set_option maxHeartbeats 4000000 in
theorem mulM_walk (n m cols b1 o1 b2 o2 cap1 cap2 : Nat) (A B : Mx) (w : World) (hn : 1 ≤ n) (hn8 : n ≤ 8) (hm : 1 ≤ m) (hm8 : m ≤ 8) (hc : 1 ≤ cols) (hc8 : cols ≤ 8) (hA : Lies w n m A b1 o1) (hB : Lies w m cols B b2 o2)
    (hc1 : ∀ W : World, Below w.heap.size w W → Calls Try.prog 25 #[.slice (some ⟨b1, o1, none⟩) n cap1] W fun e w' => e = .returned (.bool true) ∧ Below W.heap.size W w')
    (hc2 : ∀ W : World, Below w.heap.size w W → Calls Try.prog 25 #[.slice (some ⟨b2, o2, none⟩) m cap2] W fun e w' => e = .returned (.bool true) ∧ Below W.heap.size W w') :
    Calls Try.prog 17 #[.slice (some ⟨b1, o1, none⟩) n cap1, .slice (some ⟨b2, o2, none⟩) m cap2] w fun e w' => MPost (rowsX n cols (W.mm m A B)) w e w' := by
  obtain ⟨i0, hi0, hz0, hz1, hz2⟩ := info_parts infoRow
  obtain ⟨i1, hi1, hy0, hy1, hy2⟩ := info_parts infoIntG
  have hal : Below w.heap.size w (w.alloc (.cells #[] 33)) := (Below.refl _ _).alloc (Nat.le_refl _) _
  have HBI0 : Hid (BI w (w.alloc (.cells #[] 33)) (.slice (some ⟨w.heap.size, 0, none⟩) 0 0) []) := BI.start w (World.ownsRow_made w #[] 0 (Nat.le_refl _) (by decide) rfl) hal
  have HA : Hid (Lies w n m A b1 o1) := hA
  have HB : Hid (Lies w m cols B b2 o2) := hB
  have HC1 : Hid _ := hc1
  have HC2 : Hid _ := hc2
  clear hA hB hc1 hc2
  go_enter Try.func17, Try.ntmps17
  go_wp2_with fail
  refine (HC1.out _ hal).mono ?_
  rintro e w1 ⟨rfl, hb1⟩
  have hbw1 : Below w.heap.size w w1 := hal.trans (hb1.mono hal.size)
  have HBI1 : Hid (BI w w1 (.slice (some ⟨w.heap.size, 0, none⟩) 0 0) []) := HBI0.out.below hb1
  clear hb1 HC1 HBI0
  go_wp2_with fail
  refine (HC2.out _ hbw1).mono ?_
  rintro e w2 ⟨rfl, hb2⟩
  have hbw2 : Below w.heap.size w w2 := hbw1.trans (hb2.mono hbw1.size)
  have HBI2 : Shut (BI w w2 (.slice (some ⟨w.heap.size, 0, none⟩) 0 0) []) := ⟨HBI1.out.below hb2⟩
  obtain ⟨loc0, cp0, row0, hr0⟩ := HA.out.below hbw2 0 (by omega)
  have d0 : w2.cell? ⟨b1, o1, none⟩ = some (.slice loc0 m cp0) := hr0.cell
  have hne : ((m : Int) != (m : Int)) = false := by simp
  have n0 : (0 : Int) < (n : Int) := by omega
  have m0 : (0 : Int) < (m : Int) := by omega
  clear hb2 hbw1 HBI1 HC2 hr0 hbw2
  go_wp2_with fail
  go_loopw [5, 6] (fun v i wr => ∃ (ts : List SR) (vv : Value), vv = v ∧ i = .int .i64 (ts.length : Nat) ∧ ts.length ≤ n ∧ Shut (rws ts = rowsX ts.length cols (W.mm m A B)) ∧ Shut (BI w wr vv ts)) (fun _ i _ => n - (intOf i).toNat)
  case atStart => exact ⟨[], _, rfl, rfl, by simp, ⟨rfl⟩, HBI2⟩
  case round =>
    clear HBI2 d0
    obtain ⟨ts, v, rfl, rfl, hk, hr, hbi⟩ := hrel
    obtain ⟨wo, rfl⟩ : ∃ wo, wo = wr := ⟨_, rfl⟩
    obtain ⟨i, hie⟩ : ∃ i, i = ts.length := ⟨_, rfl⟩
    have HI : Hid (i = ts.length) := hie
    rw [← hie] at hk ⊢
    clear hie
    by_cases hlt : i < n
    · have hlt' : (i : Int) < (n : Int) := by omega
      have k0 : (0 : Int) ≤ (i : Int) := by omega
      have hsz := hbi.out.bel.size
      obtain ⟨locB, cpB, rowB, hrB⟩ := HB.out.below hbi.out.bel 0 (by omega)
      have dB : wo.cell? ⟨b2, o2, none⟩ = some (.slice locB cols cpB) := hrB.cell
      have lB := hrB.lt
      clear hrB
      go_wp2_with (at_make; refine wpList_make_full _ rfl _ _ 33 rfl wo.heap.size 3 i1 _ 1 Try.underlying33 hi1 hy0 hy1 .i64 .i64 _ _ cols rfl rfl (by omega) (by omega) ?b2 ?b3 ?b4 ?_)
      case b2 => rw [hy2]; omega
      case b3 => unfold maxLen; omega
      case b4 => omega
      intro wm hownm hgrm
      have hbm : Below wo.heap.size wo wm := (Below.refl _ _).grown hgrm (Nat.le_refl _) (fun j hj => by simp at hj)
      have hrow : WCells wm wo.heap.size (ics (partRow m cols A B i 0 0)) := by
        have h := own_wcells hownm
        have e : (madeCells #[Value.int .i64 0] (cols * 1)).toList = ics (List.replicate cols 0) := by rw [toList_madeCells_one]; simp [ics]
        rw [Nat.mul_one] at e
        rw [← partRow_start m cols A B i]
        first | (rw [e] at h; exact h) | (rw [Nat.mul_one, e] at h; exact h)
      have HLT : Shut ((∀ q, v.ownBlock = some q → q < wo.heap.size) ∧ ∀ s ∈ ts, ∀ b, s.loc = some ⟨b, 0, none⟩ → b < wo.heap.size) := ⟨fun q hq => (hbi.out.own.lt q hq).2, fun s hs b e => by obtain ⟨b', e', _, q, _⟩ := hbi.out.rows s hs; have : b' = b := congrArg Addr.block (Option.some.inj (e'.symm.trans e)); have := q.1; omega⟩
      have HBm : Shut (BI w wm v ts) := ⟨hbi.out.below hbm⟩
      have HRm : Shut (WCells wm wo.heap.size (ics (partRow m cols A B i 0 0))) := ⟨hrow⟩
      obtain ⟨g, hge⟩ : ∃ g, g = wo.heap.size := ⟨_, rfl⟩
      rw [← hge] at hsz HLT HRm ⊢
      clear hrow hownm hgrm hbi hbm dB lB hge
      go_wp2_with fail
      go_loopw [8] (fun kk wq => ∃ k : Nat, kk = .int .i64 k ∧ k ≤ cols ∧ Shut (BI w wq v ts) ∧ Shut (WCells wq g (ics (partRow m cols A B i k 0)))) (fun kk _ => cols - (intOf kk).toNat)
      case atStart => exact ⟨0, rfl, by omega, HBm, HRm⟩
      case round =>
        clear HBm HRm
        obtain ⟨k, rfl, hkc, hbk, hrk⟩ := hrel
        obtain ⟨wk, rfl⟩ : ∃ wk, wk = wr := ⟨_, rfl⟩
        obtain ⟨locB, cpB, rowB, hrB⟩ := HB.out.below hbk.out.bel 0 (by omega)
        have dB : wk.cell? ⟨b2, o2, none⟩ = some (.slice locB cols cpB) := hrB.cell
        have lB := hrB.lt
        clear hrB
        by_cases hkl : k < cols
        · have hkl' : (k : Int) < (cols : Int) := by omega
          have kk0 : (0 : Int) ≤ (k : Int) := by omega
          go_wp2_with fail
          go_loopw [9] (fun jj wq => ∃ j : Nat, jj = .int .i64 j ∧ j ≤ m ∧ Shut (BI w wq v ts) ∧ Shut (WCells wq g (ics (partRow m cols A B i k j)))) (fun jj _ => m - (intOf jj).toNat)
          case atStart => exact ⟨0, rfl, by omega, hbk, hrk⟩
          case round =>
            clear hbk hrk dB lB
            obtain ⟨j, rfl, hjm, hbj, hrj⟩ := hrel
            obtain ⟨wj, rfl⟩ : ∃ wj, wj = wr := ⟨_, rfl⟩
            by_cases hjl : j < m
            · have hjl' : (j : Int) < (m : Int) := by omega
              have j0 : (0 : Int) ≤ (j : Int) := by omega
              obtain ⟨locA, cpA, rowA, hrA⟩ := HA.out.below hbj.out.bel i hlt
              obtain ⟨locC, cpC, rowC, hrC⟩ := HB.out.below hbj.out.bel j hjl
              have e1 := hrA.cell
              have e2 := hrC.cell
              obtain ⟨bA, oA, x, rfl, lA, e3, xA⟩ := hrA.at hjl
              obtain ⟨bC, oC, y, rfl, lC, e4, yC⟩ := hrC.at hkl
              obtain ⟨e5, e6⟩ := hrj.out.2 k _ (ics_get _ k (by rw [partRow_len]; exact hkl))
              rw [partRow_get hkl] at e5
              have hset := hrj.out.set k (.int .i64 (((W.xs j fun l => W.gm (A i l) (B l k)) ^^^ W.gm (A i j) (B j k)).toNat : Int)) (by rw [ics_len, partRow_len]; exact hkl)
              rw [ics_set, partRow_set] at hset
              have hmul := specMulG x y
              rw [← xA, ← yC] at hmul
              have hxo := i64_xor8 (W.xs j fun l => W.gm (A i l) (B l k)) (W.gm (A i j) (B j k))
              generalize (W.xs j fun l => W.gm (A i l) (B l k)) = R at *
              generalize W.gm (A i j) (B j k) = G at *
              generalize R ^^^ G = S at *
              have HSET : Shut (WCells (wj.setCell ⟨g, k, none⟩ (.int .i64 (S.toNat : Int))) g (ics (partRow m cols A B i k (j + 1)))) := ⟨hset⟩
              have HBS : Shut (BI w (wj.setCell ⟨g, k, none⟩ (.int .i64 (S.toNat : Int))) v ts) := ⟨hbj.out.other (gb_set' _ _ _ _) (Nat.le_refl g) HLT.out.1 HLT.out.2 hsz hbj.out.bel.size⟩
              have HMUL : Hid (∀ w : World, Calls Try.prog 45 #[.int .i64 x, .int .i64 y] w fun e w' => e = .returned (.int .i64 (G.toNat : Int)) ∧ w' = w) := hmul
              have l1 := hrA.lt
              have l2 := hrC.lt
              clear hset hmul hrA hrC hbj hrj xA yC
              go_wp2_with fail
              go_region_with ((go_at_call 45; refine (HMUL.out _).mono ?_; rintro e w9 ⟨rfl, rfl⟩))
              all_goals go_wp2_with fail
              all_goals exact ⟨⟨j + 1, by go_num, by omega, ⟨HBS.out.drew⟩, ⟨HSET.out.drew⟩⟩, by simp [intOf]; omega⟩
            · have e : j = m := by omega
              subst e
              rw [partRow_next] at hrj
              go_wp2_with fail
              go_roundw
              case rel => exact ⟨k + 1, by go_num, by omega, hbj, hrj⟩
              case measure => simp [intOf]; omega
        · have e : k = cols := by omega
          have hkl' : ¬ (k : Int) < (cols : Int) := by omega
          have HRW : Shut (WCells wk g (ics ((List.range cols).map fun j => ((W.mm m A B i j).toNat : Int)))) := ⟨by have h := hrk.out; rw [e, partRow_end] at h; exact h⟩
          have hs2 : w.heap.size ≤ wk.heap.size := hbk.out.bel.size
          have hown := hbk.out.own
          clear hrk e hkl
          go_wp2_with (at_builtin; refine wpList_append_own _ rfl _ _ 24 rfl w.heap.size 33 i0 (.slice none 0 0) 1 24 Try.underlying24 hi0 hz0 hz1 hz2 rfl (by decide) _ _ _ rfl (hown.alloc _) ⟨wk.heap.size, 0, none⟩ 1 1 [.slice (some ⟨g, 0, none⟩) cols cols] rfl rfl (cell_one_new _ _ _) ?c2 ?c3 ?c4 ?c5 ?_)
          case c2 => first | rfl | (intro u hu; simp at hu; subst hu; rfl)
          case c3 => unfold maxLen; have := HI.out; omega
          case c4 => have := HI.out; omega
          case c5 => first | omega | (simp; omega)
          · intro v' w6 hown' hgrow _
            have hlen : ((List.range cols).map fun j => ((W.mm m A B i j).toNat : Int)).length = cols := by simp
            have hne : ((List.range cols).map fun j => ((W.mm m A B i j).toNat : Int)) ≠ [] := fun e => by have := congrArg List.length e; rw [hlen] at this; simp at this; omega
            have hap := hbk.out.append (cap := cols) hsz HRW.out hne (by rw [hlen]; exact Nat.le_refl _) (fun q hq => by have := HLT.out.1 q hq; omega) (fun s hs e => by have := HLT.out.2 s hs g e; omega) (by rw [hlen]; exact hown') hgrow
            have HAP : Shut (BI w w6 v' (ts ++ [SR.mk (some ⟨g, 0, none⟩) ((List.range cols).map fun j => ((W.mm m A B i j).toNat : Int)) cols])) := ⟨hap⟩
            have HR2 : Shut (rws (ts ++ [SR.mk (some ⟨g, 0, none⟩) ((List.range cols).map fun j => ((W.mm m A B i j).toNat : Int)) cols]) = rowsX (i + 1) cols (W.mm m A B)) := ⟨by rw [rws_snoc, hr.out, ← HI.out]; unfold rowsX; rw [List.range_succ, List.map_append]; rfl⟩
            clear hap hown' hgrow hown hbk HRW HLT hr hlen hne
            go_wp2_with fail
            go_roundw
            case rel => exact ⟨_, v', rfl, by rw [List.length_append, List.length_singleton, ← HI.out]; go_num, by rw [List.length_append, List.length_singleton, ← HI.out]; omega, ⟨by rw [List.length_append, List.length_singleton, ← HI.out]; exact HR2.out⟩, HAP⟩
            case measure => simp [intOf]; omega
    · have e : i = n := by omega
      have hlt' : ¬ (i : Int) < (n : Int) := by omega
      have hX : rws ts = rowsX n cols (W.mm m A B) := by rw [hr.out, ← HI.out, e]
      have HF : Shut (MAns wo v (rowsX n cols (W.mm m A B)) w.heap.size wo.heap.size) := ⟨hbi.out.fin hX⟩
      have HB2 : Hid (Below w.heap.size w wo) := hbi.out.bel
      clear hX hbi hr e
      go_wp2_with fail
      go_ret
      exact ⟨v, rfl, HF.out, HB2.out⟩
set_option maxRecDepth 100000 in
set_option maxHeartbeats 4000000 in
theorem specMulM {w : World} {v u : Value} {X Y : List (List Int)} {lo hi lo' hi' : Nat} (hs : MSee w v X lo hi) (ht : MSee w u Y lo' hi') (hf : MFit X) (hg : MFit Y) : Calls Try.prog 17 #[v, u] w fun e w' => MPost (mulX X Y) w e w' := by
  have hs' := hs
  have ht' := ht
  obtain ⟨a1, cap1, ss, rfl, hr1, hm1⟩ := hs
  obtain ⟨a2, cap2, tt, rfl, hr2, hm2⟩ := ht
  have hl1 : ss.length = X.length := by rw [← hr1, rws_len]
  have hl2 : tt.length = Y.length := by rw [← hr2, rws_len]
  rw [hl1] at hs' ⊢
  rw [hl2] at ht' ⊢
  have hal : Below w.heap.size w (w.alloc (.cells #[] 33)) := (Below.refl _ _).alloc (Nat.le_refl _) _
  have hc1 := fun W (hW : Below w.heap.size w W) => specMatrixOk (hs'.below hW) hf
  have hc2 := fun W (hW : Below w.heap.size w W) => specMatrixOk (ht'.below hW) hg
  cases h1 : matOk X with
  | false =>
    have HX : Hid (mulX X Y = []) := mulX_no (fun h => by rw [h1] at h; exact absurd h.1 (by simp))
    rw [h1] at hc1
    have HC1 : Hid _ := hc1
    clear hc1 hc2 hm1 hm2 h1 hs' ht'
    go_enter Try.func17, Try.ntmps17
    go_wp2_with fail
    refine (HC1.out _ hal).mono ?_
    rintro e w1 ⟨rfl, hb1⟩
    have HB : Hid (Below w.heap.size w w1) := hal.trans (hb1.mono hal.size)
    clear hb1
    go_wp2_with fail
    go_ret
    exact ⟨_, rfl, by rw [HX.out]; exact MAns.empty _ _ _ _ _, HB.out⟩
  | true =>
    rw [h1] at hc1
    cases h2 : matOk Y with
    | false =>
      have HX : Hid (mulX X Y = []) := mulX_no (fun h => by rw [h2] at h; exact absurd h.2.1 (by simp))
      rw [h2] at hc2
      have HC1 : Hid _ := hc1
      have HC2 : Hid _ := hc2
      clear hc1 hc2 hm1 hm2 h1 h2 hs' ht'
      go_enter Try.func17, Try.ntmps17
      go_wp2_with fail
      refine (HC1.out _ hal).mono ?_
      rintro e w1 ⟨rfl, hb1⟩
      have hbw1 : Below w.heap.size w w1 := hal.trans (hb1.mono hal.size)
      clear hb1
      go_wp2_with fail
      refine (HC2.out _ hbw1).mono ?_
      rintro e w2 ⟨rfl, hb2⟩
      have HB : Hid (Below w.heap.size w w2) := hbw1.trans (hb2.mono hbw1.size)
      clear hb2 hbw1
      go_wp2_with fail
      go_ret
      exact ⟨_, rfl, by rw [HX.out]; exact MAns.empty _ _ _ _ _, HB.out⟩
    | true =>
      rw [h2] at hc2
      obtain ⟨b1, o1, rfl, hrow1⟩ := row_at hm1 hr1 h1
      obtain ⟨b2, o2, rfl, hrow2⟩ := row_at hm2 hr2 h2
      obtain ⟨⟨hx1, hx8⟩, ⟨hcx1, hcx8⟩, _⟩ := matOk_iff h1
      obtain ⟨⟨hy1, hy8⟩, ⟨hcy1, hcy8⟩, _⟩ := matOk_iff h2
      by_cases h3 : colsOf X = Y.length
      · have hX : mulX X Y = rowsX X.length (colsOf Y) (W.mm Y.length (mx X) (mx Y)) := if_pos ⟨h1, h2, h3⟩
        rw [hX]
        rw [h3] at hrow1
        exact mulM_walk X.length Y.length (colsOf Y) b1 o1 b2 o2 cap1 cap2 (mx X) (mx Y) w hx1 hx8 hy1 hy8 hcy1 hcy8 hrow1 hrow2 hc1 hc2
      · have HX : Hid (mulX X Y = []) := mulX_no (fun h => h3 h.2.2)
        obtain ⟨loc0, cp0, row0, hr0⟩ := hrow1 0 (by omega)
        have HR0 : Hid _ := hr0
        have HC1 : Hid (∀ W : World, Below w.heap.size w W → Calls Try.prog 25 #[.slice (some ⟨b1, o1, none⟩) X.length cap1] W fun e w' => e = .returned (.bool true) ∧ Below W.heap.size W w') := hc1
        have HC2 : Hid (∀ W : World, Below w.heap.size w W → Calls Try.prog 25 #[.slice (some ⟨b2, o2, none⟩) Y.length cap2] W fun e w' => e = .returned (.bool true) ∧ Below W.heap.size W w') := hc2
        have hne : ((colsOf X : Int) != (Y.length : Int)) = true := by rw [bne_iff_ne]; omega
        have n0 : (0 : Int) < (X.length : Int) := by omega
        clear hc1 hc2 hm1 hm2 hs' ht' hr0 hrow1 hrow2 h1 h2 h3 hr1 hr2 hl1 hl2 hf hg
        go_enter Try.func17, Try.ntmps17
        go_wp2_with fail
        refine (HC1.out _ hal).mono ?_
        rintro e w1 ⟨rfl, hb1⟩
        have hbw1 : Below w.heap.size w w1 := hal.trans (hb1.mono hal.size)
        clear hb1
        go_wp2_with fail
        refine (HC2.out _ hbw1).mono ?_
        rintro e w2 ⟨rfl, hb2⟩
        have hbw2 : Below w.heap.size w w2 := hbw1.trans (hb2.mono hbw1.size)
        have d0 : w2.cell? ⟨b1, o1, none⟩ = some (.slice loc0 (colsOf X) cp0) := (HR0.out.below hbw2).cell
        have HB : Hid (Below w.heap.size w w2) := hbw2
        clear hb2 hbw1 hbw2
        go_wp2_with fail
        go_ret
        exact ⟨_, rfl, by rw [HX.out]; exact MAns.empty _ _ _ _ _, HB.out⟩
end Go.Proofs.Ytdpcndbfbmphjaa
