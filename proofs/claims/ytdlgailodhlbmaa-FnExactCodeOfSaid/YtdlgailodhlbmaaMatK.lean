/- The walk of the model's ApplyM. -/
import Derived.Test.YtdlgailodhlbmaaMatJ
import Derived.Test.YtdlgailodhlbmaaStrV
import Derived.Test.YtdlgailodhlbmaaFieldT
namespace Go.Proofs.Ytdlgailodhlbmaa
open Go.RowKit
open W (B8 Mx)
attribute [local go_sem ↓] Go.wp_at_zero Go.wp_at_succ
attribute [local irreducible] W.gm W.xs W.mm W.gi mx addB mulT

/-- The sum of texts so many times, of the first k. -/
def accB (row : List Int) (L : List ByteArray) : Nat → ByteArray
  | 0 => ⟨#[]⟩
  | k + 1 => addB (accB row L k) (mulT (g8 (row.getD k 0)) (L.getD k ⟨#[]⟩))
/-- ApplyM, as it is answered. -/
def appX (X : List (List Int)) (L : List ByteArray) : List ByteArray := if matOk X = true ∧ colsOf X = L.length then X.map fun row => accB row L L.length else []
theorem accB_size (row : List Int) (L : List ByteArray) {n : Nat} (h : ∀ x ∈ L, x.size ≤ n) : ∀ k, (accB row L k).size ≤ n
  | 0 => Nat.zero_le _
  | k + 1 => by
    unfold accB
    rw [addB_size, mulT_size]
    have h1 := accB_size row L h k
    have h2 : (L.getD k ⟨#[]⟩).size ≤ n := by
      by_cases hk : k < L.length
      · exact h _ (by simp [List.getD, hk])
      · rw [List.getD_eq_getElem?_getD, List.getElem?_eq_none (by omega)]; exact Nat.zero_le _
    omega
theorem appX_no {X : List (List Int)} {L : List ByteArray} (h : ¬ (matOk X = true ∧ colsOf X = L.length)) : appX X L = [] := if_neg h
theorem cell_in {w : World} {p : Addr} {v : Value} (h : w.cell? p = some v) : p.block < w.heap.size := by
  unfold World.cell? at h
  cases hb : w.heap[p.block]? with
  | none => rw [hb] at h; simp at h
  | some o => exact (Array.getElem?_eq_some_iff.1 hb).1
theorem cells3 {w w' : World} {p q r : Addr} {a b c : Value} (h : w.cell? p = some a ∧ w.cell? q = some b ∧ w.cell? r = some c) (hb : Below w.heap.size w w') : w'.cell? p = some a ∧ w'.cell? q = some b ∧ w'.cell? r = some c :=
  ⟨(hb.cell (p := p) (cell_in h.1)).trans h.1, (hb.cell (p := q) (cell_in h.2.1)).trans h.2.1, (hb.cell (p := r) (cell_in h.2.2)).trans h.2.2⟩
set_option maxRecDepth 100000 in
set_option maxHeartbeats 4000000 in
theorem applyM_walk (X : List (List Int)) (L : List ByteArray) (n m b1 o1 b2 o2 cap1 cap2 : Nat) (w : World) (hn1 : 1 ≤ n) (hn8 : n ≤ 8) (hm1 : 1 ≤ m) (hm8 : m ≤ 8) (hxl : X.length = n) (hll : L.length = m)
    (hR : b1 < w.heap.size ∧ ∀ i, i < n → ∃ b' o' cp, w.cell? ⟨b1, o1 + i, none⟩ = some (.slice (some ⟨b', o', none⟩) m cp) ∧ b' < w.heap.size ∧ ∀ j, j < m → w.cell? ⟨b', o' + j, none⟩ = some (.int .i64 ((X.getD i []).getD j 0)))
    (hU : b2 < w.heap.size ∧ ∀ j, j < m → w.cell? ⟨b2, o2 + j, none⟩ = some (.string (L.getD j ⟨#[]⟩))) (hf : ∀ x ∈ L, x.size ≤ 1048576)
    (hc1 : ∀ W : World, Below w.heap.size w W → Calls Try.prog 65 #[.slice (some ⟨b1, o1, none⟩) n cap1] W fun e w' => e = .returned (.bool true) ∧ Below W.heap.size W w') :
    Calls Try.prog 44 #[.slice (some ⟨b1, o1, none⟩) n cap1, .slice (some ⟨b2, o2, none⟩) m cap2] w fun e w' => SPost (X.map fun row => accB row L L.length) w e w' := by
  obtain ⟨i0, hi0, hz0, hz1, hz2⟩ := info_parts infoTextG
  have hal : Below w.heap.size w (w.alloc (.cells #[] 9)) := (Below.refl _ _).alloc (Nat.le_refl _) _
  have HC1 : Hid _ := hc1
  have HR : Shut (b1 < w.heap.size ∧ ∀ i, i < n → ∃ b' o' cp, w.cell? ⟨b1, o1 + i, none⟩ = some (.slice (some ⟨b', o', none⟩) m cp) ∧ b' < w.heap.size ∧ ∀ j, j < m → w.cell? ⟨b', o' + j, none⟩ = some (.int .i64 ((X.getD i []).getD j 0))) := ⟨hR⟩
  have HU : Shut (b2 < w.heap.size ∧ ∀ j, j < m → w.cell? ⟨b2, o2 + j, none⟩ = some (.string (L.getD j ⟨#[]⟩))) := ⟨hU⟩
  have HF : Shut (∀ x ∈ L, x.size ≤ 1048576) := ⟨hf⟩
  have HX : Shut (X.length = n ∧ L.length = m) := ⟨hxl, hll⟩
  have hne : ((m : Int) != (m : Int)) = false := by simp
  have n0 : (0 : Int) < (n : Int) := by omega
  clear hc1 hR hU hf hxl hll
  go_enter Try.func44, Try.ntmps44
  go_wp2_with fail
  refine (HC1.out _ hal).mono ?_
  rintro e w1 ⟨rfl, hb1⟩
  have hbw1 : Below w.heap.size w w1 := hal.trans (hb1.mono hal.size)
  obtain ⟨br, or, cr, d0', lr, _⟩ := HR.out.2 0 (by omega)
  have d0 : w1.cell? ⟨b1, o1, none⟩ = some (.slice (some ⟨br, or, none⟩) m cr) := (hbw1.cell (p := ⟨b1, o1 + 0, none⟩) HR.out.1).trans d0'
  have HOWN : Shut (w1.ownsRow w.heap.size 9 1 (.slice (some ⟨w.heap.size, 0, none⟩) 0 0) 0 []) := ⟨(World.ownsRow_made w #[] 0 (Nat.le_refl _) (by decide) rfl).kept (row := none) ⟨hb1.os, hb1.tape, hb1.output, hb1.size, fun k hk _ => hb1.block k hk⟩ (Classical.em _)⟩
  have HB1 : Shut (Below w.heap.size w w1) := ⟨hbw1⟩
  clear hb1 hbw1 HC1 d0' hal
  go_wp2_with fail
  go_loopw [5, 6] (fun v i wr => ∃ (k : Nat) (vv : Value), vv = v ∧ i = .int .i64 k ∧ k ≤ n ∧ Shut (wr.ownsRow w.heap.size 9 1 vv k (tv ((X.map fun row => accB row L L.length).take k))) ∧ Shut (Below w.heap.size w wr)) (fun _ i _ => n - (intOf i).toNat)
  case atStart => exact ⟨0, _, rfl, rfl, by omega, HOWN, HB1⟩
  case round =>
    clear HOWN HB1 d0 lr
    obtain ⟨k, v, rfl, rfl, hk, hown, hb⟩ := hrel
    obtain ⟨wo, rfl⟩ : ∃ wo, wo = wr := ⟨_, rfl⟩
    by_cases hlt : k < n
    · have hlt' : (k : Int) < (n : Int) := by omega
      have k0 : (0 : Int) ≤ (k : Int) := by omega
      obtain ⟨r, hre⟩ : ∃ r, r = X.getD k [] := ⟨_, rfl⟩
      have HRE : Shut (r = X.getD k []) := ⟨hre⟩
      clear hre
      go_wp2_with fail
      go_loopw [7, 8] (fun s j wq => ∃ (t : Nat), j = .int .i64 t ∧ t ≤ m ∧ s = .string (accB r L t) ∧ Shut (wq.ownsRow w.heap.size 9 1 v k (tv ((X.map fun row => accB row L L.length).take k))) ∧ Shut (Below w.heap.size w wq)) (fun _ j _ => m - (intOf j).toNat)
      case atStart => exact ⟨0, rfl, by omega, rfl, hown, hb⟩
      case round =>
        clear hown hb
        obtain ⟨t, rfl, ht, rfl, hown, hb⟩ := hrel
        obtain ⟨wi, rfl⟩ : ∃ wi, wi = wr := ⟨_, rfl⟩
        by_cases htl : t < m
        · have htl' : (t : Int) < (m : Int) := by omega
          have t0 : (0 : Int) ≤ (t : Int) := by omega
          obtain ⟨b', o', cp, e1, l1, e2⟩ := HR.out.2 k hlt
          have d1 := (hb.out.cell (p := ⟨b1, o1 + k, none⟩) HR.out.1).trans e1
          have d2 := (hb.out.cell (p := ⟨b', o' + t, none⟩) l1).trans (e2 t htl)
          have d3 := (hb.out.cell (p := ⟨b2, o2 + t, none⟩) HU.out.1).trans (HU.out.2 t htl)
          rw [← HRE.out] at d2
          have hsz := hb.out.size
          have l2 : b1 < wi.heap.size := Nat.lt_of_lt_of_le HR.out.1 hsz
          have l3 : b2 < wi.heap.size := Nat.lt_of_lt_of_le HU.out.1 hsz
          have l4 : b' < wi.heap.size := Nat.lt_of_lt_of_le l1 hsz
          have hst : accB r L (t + 1) = addB (accB r L t) (mulT (g8 (r.getD t 0)) (L.getD t ⟨#[]⟩)) := rfl
          have hz1 := accB_size r L HF.out t
          have hz2 := HF.out (L.getD t ⟨#[]⟩) (by have := HX.out.2; simp [List.getD, show t < L.length by omega])
          have hz3 := mulT_size (g8 (r.getD t 0)) (L.getD t ⟨#[]⟩)
          have HM := Shut.mk fun W => specMulText (r.getD t 0) (L.getD t ⟨#[]⟩) W hz2
          have HA := Shut.mk fun W => specAddText (accB r L t) (mulT (g8 (r.getD t 0)) (L.getD t ⟨#[]⟩)) W hz1 (by omega)
          generalize mulT (g8 (r.getD t 0)) (L.getD t ⟨#[]⟩) = M at HM HA hst
          generalize r.getD t 0 = x at *
          generalize L.getD t ⟨#[]⟩ = u at *
          have HST := Shut.mk hst
          clear hst hz1 hz2 hz3 e1 e2
          go_wp2_with fail
          have tokA : True := trivial
          have tokB : True := trivial
          go_region_held3 (fun w' => w'.cell? ⟨b1, o1 + k, none⟩ = some (.slice (some ⟨b', o', none⟩) m cp) ∧ w'.cell? ⟨b', o' + t, none⟩ = some (.int .i64 x) ∧ w'.cell? ⟨b2, o2 + t, none⟩ = some (.string u))
            (first | assumption | (exact cells3 (by assumption) hbB) | (exact cells3 (by assumption) hbA) | go_keep)
            (first
              | (go_at_call 66; have _t := tokA; refine (HM.out _).mono ?_; rintro e w6 ⟨rfl, hbA⟩; clear _t tokA)
              | (go_at_call 43; have _t := tokB; refine (HA.out _).mono ?_; rintro e w7 ⟨rfl, hbB⟩; clear _t tokB))
          all_goals
            have hbx : Below wi.heap.size wi w7 := ((Below.drew (Below.refl wi.heap.size wi)).trans hbA).trans (hbB.mono hbA.size)
            have HO := Shut.mk (hown.out.kept (row := none) ⟨hbx.os, hbx.tape, hbx.output, hbx.size, fun k hk _ => hbx.block k hk⟩ (Classical.em _))
            have HB2 := Shut.mk (hb.out.trans (hbx.mono hb.out.size))
            clear hbx hbA hbB hown hb
            go_wp2_with fail
            go_roundw
            case rel => exact ⟨t + 1, by go_num, by omega, by rw [HST.out], HO, HB2⟩
            case measure => simp [intOf]; omega
        · have e : t = m := by omega
          have htl' : ¬ (t : Int) < (m : Int) := by omega
          have hsz := hb.out.size
          have hown' := hown.out
          have HST : Shut (tv ((X.map fun row => accB row L L.length).take (k + 1)) = tv ((X.map fun row => accB row L L.length).take k) ++ [.string (accB r L t)]) := ⟨by
            have hkx : k < X.length := by have := HX.out.1; omega
            rw [List.take_succ_eq_append_getElem (by rw [List.length_map]; exact hkx), ← tv_snoc, List.getElem_map, HRE.out, e, HX.out.2]
            congr 3
            simp [List.getD, hkx]⟩
          clear e hown
          generalize accB r L t = T at *
          go_wp2_with (at_builtin; refine wpList_append_own _ rfl _ _ 24 rfl w.heap.size 9 i0 (.string ⟨#[]⟩) 1 16 Try.underlying24 hi0 hz0 hz1 hz2 rfl (by decide) _ _ _ rfl (hown'.alloc _) ⟨wi.heap.size, 0, none⟩ 1 1 [.string T] rfl rfl (cell_one_new _ _ _) ?c2 ?c3 ?c4 ?c5 ?_)
          case c2 => first | rfl | (intro u hu; simp at hu; subst hu; rfl)
          case c3 => unfold maxLen; omega
          case c4 => omega
          case c5 => first | omega | (simp; omega)
          intro v' w8 hown8 hgrow _
          rw [← HST.out] at hown8
          have hb8 : Below w.heap.size w w8 := (hb.out.alloc hsz _).grown hgrow (by simp; omega) (fun j hj => (hown'.lt j hj).1)
          have HO8 := Shut.mk hown8
          have HB8 := Shut.mk hb8
          clear hgrow hown8 hb8 hown' hb HST
          go_wp2_with fail
          go_roundw
          case rel => exact ⟨k + 1, v', rfl, by go_num, by omega, HO8, HB8⟩
          case measure => simp [intOf]; omega
    · have e : k = n := by omega
      have hlt' : ¬ (k : Int) < (n : Int) := by omega
      have hfin : SAns wo v (X.map fun row => accB row L L.length) w.heap.size wo.heap.size := own_sans (n := k) (by rw [List.length_map]; have := HX.out.1; omega) (by
        have h := hown.out
        rw [List.take_of_length_le (by rw [List.length_map]; have := HX.out.1; omega)] at h
        exact h)
      have HFIN := Shut.mk hfin
      clear hfin hown e
      go_wp2_with fail
      go_ret
      exact ⟨v, rfl, HFIN.out, hb.out⟩
/-- What the walk wants of a matrix that is right, and of units. -/
theorem rows_in {w : World} {a : Option Addr} {ss : List SR} {lo hi : Nat} {X : List (List Int)} (h : MR w a ss lo hi) (hX : rws ss = X) (hok : matOk X = true) :
    ∃ b off, a = some ⟨b, off, none⟩ ∧ b < w.heap.size ∧ ∀ i, i < X.length → ∃ b' o' cp, w.cell? ⟨b, off + i, none⟩ = some (.slice (some ⟨b', o', none⟩) (colsOf X) cp) ∧ b' < w.heap.size ∧ ∀ j, j < colsOf X → w.cell? ⟨b', o' + j, none⟩ = some (.int .i64 ((X.getD i []).getD j 0)) := by
  have hl : ss.length = X.length := by rw [← hX, rws_len]
  obtain ⟨h1, h2, h3⟩ := matOk_iff hok
  obtain ⟨b, off, e, hb, hc⟩ := h.at (by omega)
  refine ⟨b, off, e, hb, fun i hi => ?_⟩
  have his : i < ss.length := by omega
  have hget : X.getD i [] = ss[i].row := by rw [← hX, List.getD_eq_getElem?_getD]; simp [rws, his]
  have hmem : ss[i].row ∈ X := by rw [← hX]; exact List.mem_map.2 ⟨ss[i], List.getElem_mem his, rfl⟩
  have hlen : ss[i].row.length = colsOf X := (h3 _ hmem).1
  obtain ⟨b', o', e', hb', hc'⟩ := crow_int (h.2 _ (List.getElem_mem his)).crow (by omega)
  have := hc i his
  unfold srv at this
  rw [hlen, e'] at this
  exact ⟨b', o', ss[i].cap, this, hb', fun j hj => by rw [hget]; exact hc' j (by omega)⟩
theorem units_in {w : World} {a : Option Addr} {L : List ByteArray} {lo hi : Nat} (h : RRow w a (tv L) lo hi) (hp : 0 < L.length) : ∃ b off, a = some ⟨b, off, none⟩ ∧ b < w.heap.size ∧ ∀ j, j < L.length → w.cell? ⟨b, off + j, none⟩ = some (.string (L.getD j ⟨#[]⟩)) := by
  obtain ⟨b, off, e, _, _, hb, hc⟩ := h (by rw [tv_len]; exact hp)
  exact ⟨b, off, e, hb, fun j hj => hc j _ (tv_get L j hj)⟩
set_option maxRecDepth 100000 in
set_option maxHeartbeats 4000000 in
theorem specApplyM {w : World} {v u : Value} {X : List (List Int)} {L : List ByteArray} {lo hi lo' hi' : Nat} (hs : MSee w v X lo hi) (ht : SSee w u L lo' hi') (hf : MFit X) (hg : TFit L) : Calls Try.prog 44 #[v, u] w fun e w' => SPost (appX X L) w e w' := by
  have hs' := hs
  obtain ⟨a1, cap1, ss, rfl, hr1, hm1⟩ := hs
  obtain ⟨a2, cap2, rfl, hm2⟩ := ht
  have hl1 : ss.length = X.length := by rw [← hr1, rws_len]
  rw [hl1] at hs' ⊢
  have hal : Below w.heap.size w (w.alloc (.cells #[] 9)) := (Below.refl _ _).alloc (Nat.le_refl _) _
  have hc1 := fun W (hW : Below w.heap.size w W) => specMatrixOk (hs'.below hW) hf
  cases h1 : matOk X with
  | false =>
    have HX : Hid (appX X L = []) := appX_no (fun h => by rw [h1] at h; cases h.1)
    rw [h1] at hc1
    have HC1 : Hid _ := hc1
    clear hc1 hm1 hm2 h1 hs' hf hg
    go_enter Try.func44, Try.ntmps44
    go_wp2_with fail
    refine (HC1.out _ hal).mono ?_
    rintro e w1 ⟨rfl, hb1⟩
    have HB : Hid (Below w.heap.size w w1) := hal.trans (hb1.mono hal.size)
    clear hb1
    go_wp2_with fail
    go_ret
    exact ⟨_, rfl, by rw [HX.out]; exact SAns.empty _ _ _ _ _, HB.out⟩
  | true =>
    rw [h1] at hc1
    obtain ⟨⟨hx1, hx8⟩, ⟨hcx1, hcx8⟩, _⟩ := matOk_iff h1
    obtain ⟨b1, o1, rfl, lb1, hrow1⟩ := rows_in hm1 hr1 h1
    by_cases h3 : colsOf X = L.length
    · obtain ⟨b2, o2, rfl, lb2, hrow2⟩ := units_in hm2 (by omega)
      have hX : appX X L = X.map fun row => accB row L L.length := if_pos ⟨h1, h3⟩
      rw [hX]
      rw [h3] at hrow1
      exact applyM_walk X L X.length L.length b1 o1 b2 o2 cap1 cap2 w hx1 hx8 (by omega) (by omega) rfl rfl ⟨lb1, hrow1⟩ ⟨lb2, hrow2⟩ (fun x hx => by have := tsum_mem hx; unfold TFit at hg; omega) hc1
    · have HX : Hid (appX X L = []) := appX_no (fun h => h3 h.2)
      obtain ⟨br, or, cr, d0', lr, _⟩ := hrow1 0 (by omega)
      have HD0 : Hid (∀ W : World, Below w.heap.size w W → W.cell? ⟨b1, o1, none⟩ = some (.slice (some ⟨br, or, none⟩) (colsOf X) cr)) := fun W hW => (hW.cell (p := ⟨b1, o1 + 0, none⟩) lb1).trans d0'
      have HC1 : Hid (∀ W : World, Below w.heap.size w W → Calls Try.prog 65 #[.slice (some ⟨b1, o1, none⟩) X.length cap1] W fun e w' => e = .returned (.bool true) ∧ Below W.heap.size W w') := hc1
      have hne : ((colsOf X : Int) != (L.length : Int)) = true := by rw [bne_iff_ne]; omega
      have n0 : (0 : Int) < (X.length : Int) := by omega
      clear hc1 hm1 hm2 hs' d0' lr hrow1 h1 h3 hr1 hl1 hf hg
      go_enter Try.func44, Try.ntmps44
      go_wp2_with fail
      refine (HC1.out _ hal).mono ?_
      rintro e w1 ⟨rfl, hb1⟩
      have hbw1 : Below w.heap.size w w1 := hal.trans (hb1.mono hal.size)
      have d0 := HD0.out w1 hbw1
      have HB : Hid (Below w.heap.size w w1) := hbw1
      clear hb1 hbw1
      go_wp2_with fail
      go_ret
      exact ⟨_, rfl, by rw [HX.out]; exact SAns.empty _ _ _ _ _, HB.out⟩
end Go.Proofs.Ytdlgailodhlbmaa
