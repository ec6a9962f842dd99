/- Texts of ours, laid one behind the other: TMatK, TSchZ, TCodA, TCodB. -/
import Derived.Test.YtbkimmbfepjodaaDoorPfT5
import Derived.Deep.AppendLies
set_option linter.unusedVariables false
set_option linter.unusedSimpArgs false
/- The walk of the model's ApplyM. -/
namespace Go.Proofs.YtbkimmbfepjodaaDoorT
set_option maxRecDepth 100000
open Go.RowKit
open W (B8 Mx)
attribute [local go_sem ↓] Go.wp_at_zero Go.wp_at_succ
attribute [local irreducible] W.gm W.xs W.mm W.gi mx addB mulT

/-- The sum of texts so many times, of the first k. -/
def accB (row : List Int) (L : List ByteArray) : Nat → ByteArray
  | 0 => ⟨#[]⟩
  | k + 1 => addB (accB row L k) (mulT (g8 (row.getD k 0)) (L.getD k ⟨#[]⟩))
/-- ApplyM, as it is answered. -/
def appX (X : List (List Int)) (L : List ByteArray) : List ByteArray := if matOk X = true ∧ colsOf X = L.length then X.map fun row => accB row L L.length else []
theorem accB_size (row : List Int) (L : List ByteArray) {n : Nat} (h : ∀ x ∈ L, x.size ≤ n) : ∀ k, (accB row L k).size ≤ n
  | 0 => Nat.zero_le _
  | k + 1 => by
    unfold accB
    rw [addB_size, mulT_size]
    have h1 := accB_size row L h k
    have h2 : (L.getD k ⟨#[]⟩).size ≤ n := by
      by_cases hk : k < L.length
      · exact h _ (by simp [List.getD, hk])
      · rw [List.getD_eq_getElem?_getD, List.getElem?_eq_none (by omega)]; exact Nat.zero_le _
    omega
theorem appX_no {X : List (List Int)} {L : List ByteArray} (h : ¬ (matOk X = true ∧ colsOf X = L.length)) : appX X L = [] := if_neg h
theorem cell_in {w : World} {p : Addr} {v : Value} (h : w.cell? p = some v) : p.block < w.heap.size := by
  unfold World.cell? at h
  cases hb : w.heap[p.block]? with
  | none => rw [hb] at h; simp at h
  | some o => exact (Array.getElem?_eq_some_iff.1 hb).1
theorem cells3 {w w' : World} {p q r : Addr} {a b c : Value} (h : w.cell? p = some a ∧ w.cell? q = some b ∧ w.cell? r = some c) (hb : Below w.heap.size w w') : w'.cell? p = some a ∧ w'.cell? q = some b ∧ w'.cell? r = some c :=
  ⟨(hb.cell (p := p) (cell_in h.1)).trans h.1, (hb.cell (p := q) (cell_in h.2.1)).trans h.2.1, (hb.cell (p := r) (cell_in h.2.2)).trans h.2.2⟩
set_option maxRecDepth 100000 in
set_option maxHeartbeats 4000000 in
theorem applyM_walk (X : List (List Int)) (L : List ByteArray) (n m b1 o1 b2 o2 cap1 cap2 : Nat) (w : World) (hn1 : 1 ≤ n) (hn8 : n ≤ 8) (hm1 : 1 ≤ m) (hm8 : m ≤ 8) (hxl : X.length = n) (hll : L.length = m)
    (hR : b1 < w.heap.size ∧ ∀ i, i < n → ∃ b' o' cp, w.cell? ⟨b1, o1 + i, none⟩ = some (.slice (some ⟨b', o', none⟩) m cp) ∧ b' < w.heap.size ∧ ∀ j, j < m → w.cell? ⟨b', o' + j, none⟩ = some (.int .i64 ((X.getD i []).getD j 0)))
    (hU : b2 < w.heap.size ∧ ∀ j, j < m → w.cell? ⟨b2, o2 + j, none⟩ = some (.string (L.getD j ⟨#[]⟩))) (hf : ∀ x ∈ L, x.size ≤ 1048576)
    (hc1 : ∀ W : World, Below w.heap.size w W → Calls Tw.prog 44 #[.slice (some ⟨b1, o1, none⟩) n cap1] W fun e w' => e = .returned (.bool true) ∧ Below W.heap.size W w') :
    Calls Tw.prog 23 #[.slice (some ⟨b1, o1, none⟩) n cap1, .slice (some ⟨b2, o2, none⟩) m cap2] w fun e w' => SPost (X.map fun row => accB row L L.length) w e w' := by
  obtain ⟨i0, hi0, hz0, hz1, hz2⟩ := info_parts infoTextG
  have hal : Below w.heap.size w (w.alloc (.cells #[] 9)) := (Below.refl _ _).alloc (Nat.le_refl _) _
  have HC1 : Hid _ := hc1
  have HR : Shut (b1 < w.heap.size ∧ ∀ i, i < n → ∃ b' o' cp, w.cell? ⟨b1, o1 + i, none⟩ = some (.slice (some ⟨b', o', none⟩) m cp) ∧ b' < w.heap.size ∧ ∀ j, j < m → w.cell? ⟨b', o' + j, none⟩ = some (.int .i64 ((X.getD i []).getD j 0))) := ⟨hR⟩
  have HU : Shut (b2 < w.heap.size ∧ ∀ j, j < m → w.cell? ⟨b2, o2 + j, none⟩ = some (.string (L.getD j ⟨#[]⟩))) := ⟨hU⟩
  have HF : Shut (∀ x ∈ L, x.size ≤ 1048576) := ⟨hf⟩
  have HX : Shut (X.length = n ∧ L.length = m) := ⟨hxl, hll⟩
  have hne : ((m : Int) != (m : Int)) = false := by simp
  have n0 : (0 : Int) < (n : Int) := by omega
  clear hc1 hR hU hf hxl hll
  go_enter Tw.func23, Tw.ntmps23
  go_wp2_with fail
  refine (HC1.out _ hal).mono ?_
  rintro e w1 ⟨rfl, hb1⟩
  have hbw1 : Below w.heap.size w w1 := hal.trans (hb1.mono hal.size)
  obtain ⟨br, or, cr, d0', lr, _⟩ := HR.out.2 0 (by omega)
  have d0 : w1.cell? ⟨b1, o1, none⟩ = some (.slice (some ⟨br, or, none⟩) m cr) := (hbw1.cell (p := ⟨b1, o1 + 0, none⟩) HR.out.1).trans d0'
  have HOWN : Shut (w1.ownsRow w.heap.size 9 1 (.slice (some ⟨w.heap.size, 0, none⟩) 0 0) 0 []) := ⟨(World.ownsRow_made w #[] 0 (Nat.le_refl _) (by decide) rfl).kept (row := none) ⟨hb1.os, hb1.tape, hb1.output, hb1.size, fun k hk _ => hb1.block k hk⟩ (Classical.em _)⟩
  have HB1 : Shut (Below w.heap.size w w1) := ⟨hbw1⟩
  clear hb1 hbw1 HC1 d0' hal
  go_wp2_with fail
  go_loopw [5, 6] (fun v i wr => ∃ (k : Nat) (vv : Value), vv = v ∧ i = .int .i64 k ∧ k ≤ n ∧ Shut (wr.ownsRow w.heap.size 9 1 vv k (tv ((X.map fun row => accB row L L.length).take k))) ∧ Shut (Below w.heap.size w wr)) (fun _ i _ => n - (intOf i).toNat)
  case atStart => exact ⟨0, _, rfl, rfl, by omega, HOWN, HB1⟩
  case round =>
    clear HOWN HB1 d0 lr
    obtain ⟨k, v, rfl, rfl, hk, hown, hb⟩ := hrel
    obtain ⟨wo, rfl⟩ : ∃ wo, wo = wr := ⟨_, rfl⟩
    by_cases hlt : k < n
    · have hlt' : (k : Int) < (n : Int) := by omega
      have k0 : (0 : Int) ≤ (k : Int) := by omega
      obtain ⟨r, hre⟩ : ∃ r, r = X.getD k [] := ⟨_, rfl⟩
      have HRE : Shut (r = X.getD k []) := ⟨hre⟩
      clear hre
      go_wp2_with fail
      go_loopw [7, 8] (fun s j wq => ∃ (t : Nat), j = .int .i64 t ∧ t ≤ m ∧ s = .string (accB r L t) ∧ Shut (wq.ownsRow w.heap.size 9 1 v k (tv ((X.map fun row => accB row L L.length).take k))) ∧ Shut (Below w.heap.size w wq)) (fun _ j _ => m - (intOf j).toNat)
      case atStart => exact ⟨0, rfl, by omega, rfl, hown, hb⟩
      case round =>
        clear hown hb
        obtain ⟨t, rfl, ht, rfl, hown, hb⟩ := hrel
        obtain ⟨wi, rfl⟩ : ∃ wi, wi = wr := ⟨_, rfl⟩
        by_cases htl : t < m
        · have htl' : (t : Int) < (m : Int) := by omega
          have t0 : (0 : Int) ≤ (t : Int) := by omega
          obtain ⟨b', o', cp, e1, l1, e2⟩ := HR.out.2 k hlt
          have d1 := (hb.out.cell (p := ⟨b1, o1 + k, none⟩) HR.out.1).trans e1
          have d2 := (hb.out.cell (p := ⟨b', o' + t, none⟩) l1).trans (e2 t htl)
          have d3 := (hb.out.cell (p := ⟨b2, o2 + t, none⟩) HU.out.1).trans (HU.out.2 t htl)
          rw [← HRE.out] at d2
          have hsz := hb.out.size
          have l2 : b1 < wi.heap.size := Nat.lt_of_lt_of_le HR.out.1 hsz
          have l3 : b2 < wi.heap.size := Nat.lt_of_lt_of_le HU.out.1 hsz
          have l4 : b' < wi.heap.size := Nat.lt_of_lt_of_le l1 hsz
          have hst : accB r L (t + 1) = addB (accB r L t) (mulT (g8 (r.getD t 0)) (L.getD t ⟨#[]⟩)) := rfl
          have hz1 := accB_size r L HF.out t
          have hz2 := HF.out (L.getD t ⟨#[]⟩) (by have := HX.out.2; simp [List.getD, show t < L.length by omega])
          have hz3 := mulT_size (g8 (r.getD t 0)) (L.getD t ⟨#[]⟩)
          have HM := Shut.mk fun W => specMulText (r.getD t 0) (L.getD t ⟨#[]⟩) W hz2
          have HA := Shut.mk fun W => specAddText (accB r L t) (mulT (g8 (r.getD t 0)) (L.getD t ⟨#[]⟩)) W hz1 (by omega)
          generalize mulT (g8 (r.getD t 0)) (L.getD t ⟨#[]⟩) = M at HM HA hst
          generalize r.getD t 0 = x at *
          generalize L.getD t ⟨#[]⟩ = u at *
          have HST := Shut.mk hst
          clear hst hz1 hz2 hz3 e1 e2
          go_wp2_with fail
          have tokA : True := trivial
          have tokB : True := trivial
          go_region_held3 (fun w' => w'.cell? ⟨b1, o1 + k, none⟩ = some (.slice (some ⟨b', o', none⟩) m cp) ∧ w'.cell? ⟨b', o' + t, none⟩ = some (.int .i64 x) ∧ w'.cell? ⟨b2, o2 + t, none⟩ = some (.string u))
            (first | assumption | (exact cells3 (by assumption) hbB) | (exact cells3 (by assumption) hbA) | go_keep)
            (first
              | (go_at_call 48; have _t := tokA; refine (HM.out _).mono ?_; rintro e w6 ⟨rfl, hbA⟩; clear _t tokA)
              | (go_at_call 47; have _t := tokB; refine (HA.out _).mono ?_; rintro e w7 ⟨rfl, hbB⟩; clear _t tokB))
          all_goals
            have hbx : Below wi.heap.size wi w7 := ((Below.drew (Below.refl wi.heap.size wi)).trans hbA).trans (hbB.mono hbA.size)
            have HO := Shut.mk (hown.out.kept (row := none) ⟨hbx.os, hbx.tape, hbx.output, hbx.size, fun k hk _ => hbx.block k hk⟩ (Classical.em _))
            have HB2 := Shut.mk (hb.out.trans (hbx.mono hb.out.size))
            clear hbx hbA hbB hown hb
            go_wp2_with fail
            go_roundw
            case rel => exact ⟨t + 1, by go_num, by omega, by rw [HST.out], HO, HB2⟩
            case measure => simp [intOf]; omega
        · have e : t = m := by omega
          have htl' : ¬ (t : Int) < (m : Int) := by omega
          have hsz := hb.out.size
          have hown' := hown.out
          have HST : Shut (tv ((X.map fun row => accB row L L.length).take (k + 1)) = tv ((X.map fun row => accB row L L.length).take k) ++ [.string (accB r L t)]) := ⟨by
            have hkx : k < X.length := by have := HX.out.1; omega
            rw [List.take_succ_eq_append_getElem (by rw [List.length_map]; exact hkx), ← tv_snoc, List.getElem_map, HRE.out, e, HX.out.2]
            congr 3
            simp [List.getD, hkx]⟩
          clear e hown
          generalize accB r L t = T at *
          go_wp2_with (at_builtin; refine wpList_append_own _ rfl _ _ 34 rfl w.heap.size 9 i0 (.string ⟨#[]⟩) 1 16 Tw.underlying34 hi0 hz0 hz1 hz2 rfl (by decide) _ _ _ rfl (hown'.alloc _) ⟨wi.heap.size, 0, none⟩ 1 1 [.string T] rfl rfl (cell_one_new _ _ _) ?c2 ?c3 ?c4 ?c5 ?_)
          case c2 => first | rfl | (intro u hu; simp at hu; subst hu; rfl)
          case c3 => unfold maxLen; omega
          case c4 => omega
          case c5 => first | omega | (simp; omega)
          intro v' w8 hown8 hgrow _
          rw [← HST.out] at hown8
          have hb8 : Below w.heap.size w w8 := (hb.out.alloc hsz _).grown hgrow (by simp; omega) (fun j hj => (hown'.lt j hj).1)
          have HO8 := Shut.mk hown8
          have HB8 := Shut.mk hb8
          clear hgrow hown8 hb8 hown' hb HST
          go_wp2_with fail
          go_roundw
          case rel => exact ⟨k + 1, v', rfl, by go_num, by omega, HO8, HB8⟩
          case measure => simp [intOf]; omega
    · have e : k = n := by omega
      have hlt' : ¬ (k : Int) < (n : Int) := by omega
      have hfin : SAns wo v (X.map fun row => accB row L L.length) w.heap.size wo.heap.size := own_sans (n := k) (by rw [List.length_map]; have := HX.out.1; omega) (by
        have h := hown.out
        rw [List.take_of_length_le (by rw [List.length_map]; have := HX.out.1; omega)] at h
        exact h)
      have HFIN := Shut.mk hfin
      clear hfin hown e
      go_wp2_with fail
      go_ret
      exact ⟨v, rfl, HFIN.out, hb.out⟩
/-- What the walk wants of a matrix that is right, and of units. -/
theorem rows_in {w : World} {a : Option Addr} {ss : List SR} {lo hi : Nat} {X : List (List Int)} (h : MR w a ss lo hi) (hX : rws ss = X) (hok : matOk X = true) :
    ∃ b off, a = some ⟨b, off, none⟩ ∧ b < w.heap.size ∧ ∀ i, i < X.length → ∃ b' o' cp, w.cell? ⟨b, off + i, none⟩ = some (.slice (some ⟨b', o', none⟩) (colsOf X) cp) ∧ b' < w.heap.size ∧ ∀ j, j < colsOf X → w.cell? ⟨b', o' + j, none⟩ = some (.int .i64 ((X.getD i []).getD j 0)) := by
  have hl : ss.length = X.length := by rw [← hX, rws_len]
  obtain ⟨h1, h2, h3⟩ := matOk_iff hok
  obtain ⟨b, off, e, hb, hc⟩ := h.at (by omega)
  refine ⟨b, off, e, hb, fun i hi => ?_⟩
  have his : i < ss.length := by omega
  have hget : X.getD i [] = ss[i].row := by rw [← hX, List.getD_eq_getElem?_getD]; simp [rws, his]
  have hmem : ss[i].row ∈ X := by rw [← hX]; exact List.mem_map.2 ⟨ss[i], List.getElem_mem his, rfl⟩
  have hlen : ss[i].row.length = colsOf X := (h3 _ hmem).1
  obtain ⟨b', o', e', hb', hc'⟩ := crow_int (h.2 _ (List.getElem_mem his)).crow (by omega)
  have := hc i his
  unfold srv at this
  rw [hlen, e'] at this
  exact ⟨b', o', ss[i].cap, this, hb', fun j hj => by rw [hget]; exact hc' j (by omega)⟩
theorem units_in {w : World} {a : Option Addr} {L : List ByteArray} {lo hi : Nat} (h : RRow w a (tv L) lo hi) (hp : 0 < L.length) : ∃ b off, a = some ⟨b, off, none⟩ ∧ b < w.heap.size ∧ ∀ j, j < L.length → w.cell? ⟨b, off + j, none⟩ = some (.string (L.getD j ⟨#[]⟩)) := by
  obtain ⟨b, off, e, _, _, hb, hc⟩ := h (by rw [tv_len]; exact hp)
  exact ⟨b, off, e, hb, fun j hj => hc j _ (tv_get L j hj)⟩
set_option maxRecDepth 100000 in
set_option maxHeartbeats 4000000 in
theorem specApplyMU {w : World} {v u : Value} {X : List (List Int)} {L : List ByteArray} {lo hi lo' hi' : Nat} (hs : MSee w v X lo hi) (ht : SSee w u L lo' hi') (hf : MFit X) (hg : UFit L) : Calls Tw.prog 23 #[v, u] w fun e w' => SPost (appX X L) w e w' := by
  have hs' := hs
  obtain ⟨a1, cap1, ss, rfl, hr1, hm1⟩ := hs
  obtain ⟨a2, cap2, rfl, hm2⟩ := ht
  have hl1 : ss.length = X.length := by rw [← hr1, rws_len]
  rw [hl1] at hs' ⊢
  have hal : Below w.heap.size w (w.alloc (.cells #[] 9)) := (Below.refl _ _).alloc (Nat.le_refl _) _
  have hc1 := fun W (hW : Below w.heap.size w W) => specMatrixOk (hs'.below hW) hf
  cases h1 : matOk X with
  | false =>
    have HX : Hid (appX X L = []) := appX_no (fun h => by rw [h1] at h; cases h.1)
    rw [h1] at hc1
    have HC1 : Hid _ := hc1
    clear hc1 hm1 hm2 h1 hs' hf hg
    go_enter Tw.func23, Tw.ntmps23
    go_wp2_with fail
    refine (HC1.out _ hal).mono ?_
    rintro e w1 ⟨rfl, hb1⟩
    have HB : Hid (Below w.heap.size w w1) := hal.trans (hb1.mono hal.size)
    clear hb1
    go_wp2_with fail
    go_ret
    exact ⟨_, rfl, by rw [HX.out]; exact SAns.empty _ _ _ _ _, HB.out⟩
  | true =>
    rw [h1] at hc1
    obtain ⟨⟨hx1, hx8⟩, ⟨hcx1, hcx8⟩, _⟩ := matOk_iff h1
    obtain ⟨b1, o1, rfl, lb1, hrow1⟩ := rows_in hm1 hr1 h1
    by_cases h3 : colsOf X = L.length
    · obtain ⟨b2, o2, rfl, lb2, hrow2⟩ := units_in hm2 (by omega)
      have hX : appX X L = X.map fun row => accB row L L.length := if_pos ⟨h1, h3⟩
      rw [hX]
      rw [h3] at hrow1
      exact applyM_walk X L X.length L.length b1 o1 b2 o2 cap1 cap2 w hx1 hx8 (by omega) (by omega) rfl rfl ⟨lb1, hrow1⟩ ⟨lb2, hrow2⟩ (fun x hx => hg.2 x hx) hc1
    · have HX : Hid (appX X L = []) := appX_no (fun h => h3 h.2)
      obtain ⟨br, or, cr, d0', lr, _⟩ := hrow1 0 (by omega)
      have HD0 : Hid (∀ W : World, Below w.heap.size w W → W.cell? ⟨b1, o1, none⟩ = some (.slice (some ⟨br, or, none⟩) (colsOf X) cr)) := fun W hW => (hW.cell (p := ⟨b1, o1 + 0, none⟩) lb1).trans d0'
      have HC1 : Hid (∀ W : World, Below w.heap.size w W → Calls Tw.prog 44 #[.slice (some ⟨b1, o1, none⟩) X.length cap1] W fun e w' => e = .returned (.bool true) ∧ Below W.heap.size W w') := hc1
      have hne : ((colsOf X : Int) != (L.length : Int)) = true := by rw [bne_iff_ne]; omega
      have n0 : (0 : Int) < (X.length : Int) := by omega
      clear hc1 hm1 hm2 hs' d0' lr hrow1 h1 h3 hr1 hl1 hf hg
      go_enter Tw.func23, Tw.ntmps23
      go_wp2_with fail
      refine (HC1.out _ hal).mono ?_
      rintro e w1 ⟨rfl, hb1⟩
      have hbw1 : Below w.heap.size w w1 := hal.trans (hb1.mono hal.size)
      have d0 := HD0.out w1 hbw1
      have HB : Hid (Below w.heap.size w w1) := hbw1
      clear hb1 hbw1
      go_wp2_with fail
      go_ret
      exact ⟨_, rfl, by rw [HX.out]; exact SAns.empty _ _ _ _ _, HB.out⟩
end Go.Proofs.YtbkimmbfepjodaaDoorT
/- The schemas, plain, and the walk of the model's SchemaOf. -/
namespace Go.Proofs.YtbkimmbfepjodaaDoorT
set_option maxRecDepth 100000
open Go.RowKit
attribute [local go_sem ↓] Go.wp_at_zero Go.wp_at_succ

def schK (s : Int) : Nat := if s = 1 then 2 else if s = 2 then 3 else if s = 3 then 4 else 0
def schM (s : Int) : Nat := if s = 1 then 1 else if s = 2 then 2 else if s = 3 then 2 else 0
def schOk (s : Int) : Bool := decide (s = 1) || decide (s = 2) || decide (s = 3)
theorem sch_cases {s : Int} (h : schOk s = true) : s = 1 ∨ s = 2 ∨ s = 3 := by
  unfold schOk at h
  simp only [Bool.or_eq_true, decide_eq_true_eq] at h
  omega
theorem sch_no {s : Int} (h : schOk s = false) : s ≠ 1 ∧ s ≠ 2 ∧ s ≠ 3 := by
  unfold schOk at h
  simp only [Bool.or_eq_false_iff, decide_eq_false_iff_not] at h
  omega
theorem sch_bounds {s : Int} (h : schOk s = true) : 2 ≤ schK s ∧ schK s ≤ 4 ∧ 1 ≤ schM s ∧ schM s ≤ 2 := by
  rcases sch_cases h with rfl | rfl | rfl <;> decide
theorem sch_zero {s : Int} (h : schOk s = false) : schK s = 0 ∧ schM s = 0 := by
  obtain ⟨h1, h2, h3⟩ := sch_no h
  unfold schK schM
  rw [if_neg h1, if_neg h2, if_neg h3, if_neg h1, if_neg h2, if_neg h3]
  exact ⟨rfl, rfl⟩
def SchPost (s : Int) (w : World) (e : Ending) (w' : World) : Prop := e = .returned (.tuple #[.int .i64 (schK s : Nat), .int .i64 (schM s : Nat), .bool (schOk s)]) ∧ w' = w
theorem specSchema (s : Int) (w : World) : Calls Tw.prog 19 #[.int .i64 s] w fun e w' => SchPost s w e w' := by
  cases h : schOk s with
  | true =>
    obtain rfl | rfl | rfl := sch_cases h
    all_goals
      clear h
      go_enter Tw.func19, Tw.ntmps19
      go_wp2_with fail
      go_ret3
      exact ⟨rfl, rfl⟩
  | false =>
    obtain ⟨h1, h2, h3⟩ := sch_no h
    obtain ⟨e1, e2⟩ := sch_zero h
    unfold SchPost
    rw [e1, e2, h]
    clear h e1 e2
    go_enter Tw.func19, Tw.ntmps19
    go_wp2_with fail
    go_ret3
    exact ⟨rfl, rfl⟩
/-- The same, of the program's own. -/
def SchB (s : Int) (w : World) (e : Ending) (w' : World) : Prop := e = .returned (.tuple #[.int .i64 (schK s : Nat), .int .i64 (schM s : Nat), .bool (schOk s)]) ∧ Below w.heap.size w w'
end Go.Proofs.YtbkimmbfepjodaaDoorT
/- Units and sums, plain: the schemas, their codes, what is encoded, decoded and built again. Nothing of the program is read here. -/
namespace Go.Proofs.YtbkimmbfepjodaaDoorT
set_option maxRecDepth 100000
open Go.RowKit
open W (B8 Mx)

/-- The row of a sum. -/
def codeRow (k i : Nat) : List Int := (List.range k).map fun j => ((W.gi (g8 (((k + i) ^^^ j : Nat) : Int))).toNat : Int)
def codeX (s : Int) : List (List Int) := if schOk s = true then (List.range (schK s)).map (oneRow (schK s)) ++ (List.range (schM s)).map (codeRow (schK s)) else []
theorem codeX_no {s : Int} (h : schOk s = false) : codeX s = [] := by unfold codeX; rw [if_neg (by rw [h]; decide)]
theorem codeX_yes {s : Int} (h : schOk s = true) : codeX s = (List.range (schK s)).map (oneRow (schK s)) ++ (List.range (schM s)).map (codeRow (schK s)) := by unfold codeX; rw [if_pos h]
theorem codeRow_len (k i : Nat) : (codeRow k i).length = k := by simp [codeRow]
theorem codeX_len {s : Int} (h : schOk s = true) : (codeX s).length = schK s + schM s := by rw [codeX_yes h]; simp
theorem codeX_rows {s : Int} (h : schOk s = true) : ∀ r ∈ codeX s, r.length = schK s ∧ ∀ y ∈ r, 0 ≤ y ∧ y ≤ 255 := fun r hr => by
  rw [codeX_yes h] at hr
  rcases List.mem_append.1 hr with q | q
  · obtain ⟨i, _, rfl⟩ := List.mem_map.1 q
    refine ⟨oneRow_len _ _, fun y hy => ?_⟩
    obtain ⟨j, _, rfl⟩ := List.mem_map.1 hy
    split <;> omega
  · obtain ⟨i, _, rfl⟩ := List.mem_map.1 q
    refine ⟨codeRow_len _ _, fun y hy => ?_⟩
    obtain ⟨j, _, rfl⟩ := List.mem_map.1 hy
    exact b8_num _
theorem codeX_at {s : Int} (h : schOk s = true) {i : Nat} (hi : i < schK s + schM s) : ((codeX s).getD i []).length = schK s ∧ (codeX s).getD i [] ∈ codeX s := by
  have hi' : i < (codeX s).length := by rw [codeX_len h]; exact hi
  have e : (codeX s).getD i [] = (codeX s)[i] := by simp [List.getD, hi']
  rw [e]
  exact ⟨(codeX_rows h _ (List.getElem_mem hi')).1, List.getElem_mem hi'⟩
/-- The longest of some texts. -/
def mostL : List ByteArray → Nat
  | [] => 0
  | x :: L => max x.size (mostL L)
theorem mostL_le {L : List ByteArray} {x : ByteArray} (h : x ∈ L) : x.size ≤ mostL L := by
  induction L with
  | nil => simp at h
  | cons y L ih =>
    rcases List.mem_cons.1 h with rfl | h
    · simp only [mostL]; omega
    · have := ih h; simp only [mostL]; omega
theorem mostL_snoc (L : List ByteArray) (x : ByteArray) : mostL (L ++ [x]) = max (mostL L) x.size := by
  induction L with
  | nil => simp [mostL]
  | cons y L ih => simp only [List.cons_append, mostL, ih]; omega
theorem mostL_all {L : List ByteArray} {n : Nat} (h : ∀ x ∈ L, x.size ≤ n) : mostL L ≤ n := by
  induction L with
  | nil => simp [mostL]
  | cons y L ih => simp only [mostL]; have h1 := h y (by simp); have h2 := ih (fun x hx => h x (by simp [hx])); omega
/-- The places that are there. -/
def thereI (H : List Bool) (n : Nat) : List Nat := (List.range n).filter fun i => H.getD i false
theorem thereI_succ (H : List Bool) (n : Nat) : thereI H (n + 1) = thereI H n ++ if H.getD n false = true then [n] else [] := by
  unfold thereI
  rw [List.range_succ, List.filter_append]
  congr 1
  by_cases h : H.getD n false = true
  · rw [if_pos h, List.filter_cons_of_pos (p := fun i => H.getD i false) h]; rfl
  · rw [if_neg h, List.filter_cons_of_neg (p := fun i => H.getD i false) h]; rfl
theorem thereI_mem {H : List Bool} {n i : Nat} : i ∈ thereI H n ↔ i < n ∧ H.getD i false = true := by
  unfold thereI; rw [List.mem_filter, List.mem_range]
/-- Texts that are there are of one length. -/
def OneLen (L : List ByteArray) (H : List Bool) (n : Nat) : Prop := ∀ i ∈ thereI H n, ∀ j ∈ thereI H n, (L.getD i ⟨#[]⟩).size = (L.getD j ⟨#[]⟩).size
def pickI (s : Int) (H : List Bool) (n : Nat) : List Nat := (thereI H n).take (schK s)
def rowsP (s : Int) (I : List Nat) : List (List Int) := I.map fun i => (codeX s).getD i []
def unitsP (L : List ByteArray) (I : List Nat) : List ByteArray := I.map fun i => L.getD i ⟨#[]⟩
def DecOk (s : Int) (L : List ByteArray) (H : List Bool) : Prop := schOk s = true ∧ L.length = schK s + schM s ∧ H.length = schK s + schM s ∧ OneLen L H H.length ∧ schK s ≤ (thereI H H.length).length
open Classical in
/-- Decode, as it is answered. -/
noncomputable def decX (s : Int) (L : List ByteArray) (H : List Bool) : List ByteArray × Bool :=
  if DecOk s L H ∧ (invX (rowsP s (pickI s H H.length))).2 = true then (appX (invX (rowsP s (pickI s H H.length))).1 (unitsP L (pickI s H H.length)), true) else ([], false)
theorem decX_no {s : Int} {L : List ByteArray} {H : List Bool} (h : ¬ (DecOk s L H ∧ (invX (rowsP s (pickI s H H.length))).2 = true)) : decX s L H = ([], false) := by unfold decX; rw [if_neg h]
theorem decX_yes {s : Int} {L : List ByteArray} {H : List Bool} (h : DecOk s L H) (h2 : (invX (rowsP s (pickI s H H.length))).2 = true) : decX s L H = (appX (invX (rowsP s (pickI s H H.length))).1 (unitsP L (pickI s H H.length)), true) := by unfold decX; rw [if_pos ⟨h, h2⟩]
/-- What such an answer is. -/
def TPost (R : List ByteArray × Bool) (w : World) (e : Ending) (w' : World) : Prop := ∃ v, e = .returned (.tuple #[v, .bool R.2]) ∧ SAns w' v R.1 w.heap.size w'.heap.size ∧ Below w.heap.size w w'
theorem tpost_no {R : List ByteArray × Bool} {w w' : World} {e : Ending} {a : Option Addr} {cap : Nat} (h : R = ([], false)) (he : e = .returned (.tuple #[.slice a 0 cap, .bool false])) (hb : Below w.heap.size w w') : TPost R w e w' := by
  unfold TPost
  rw [h]
  exact ⟨_, he, SAns.empty _ _ _ _ _, hb⟩
end Go.Proofs.YtbkimmbfepjodaaDoorT
/- The walk of the model's CodeOf. -/
namespace Go.Proofs.YtbkimmbfepjodaaDoorT
set_option maxRecDepth 100000
open Go.RowKit
open W (B8 Mx)
attribute [local go_sem ↓] Go.wp_at_zero Go.wp_at_succ
attribute [local irreducible] W.gm W.xs W.mm W.gi mx matOk

/-- The rows of an answer, as they are cells. -/
theorem news_rows {w : World} {g : Nat} {ss : List SR} (h : WCells w g (svs ss)) : ∀ j u, (svs ss)[j]? = some u → w.cell? ((⟨g, 0, none⟩ : Addr).add j) = some u := fun j u hj => by
  have e : (⟨g, 0, none⟩ : Addr).add j = ⟨g, j, none⟩ := by cases j <;> simp [Addr.add]
  rw [e]; exact (h.2 j u hj).1
theorem one_rows' (ss : List SR) : ∀ u ∈ svs ss, u.oneCell' = true := fun u hu => by
  obtain ⟨x, _, rfl⟩ := List.mem_map.1 hu
  rfl
/-- Rows that were answered are taken over by append. -/
theorem BI.over {w w1 w2 : World} {v1 v' : Value} {ss : List SR} {g : Nat} (hw : MW w1 g ss w.heap.size w1.heap.size) (hne : ∀ s ∈ ss, s.row ≠ []) (hb : Below w.heap.size w w1)
    (hv : ∀ q, v1.ownBlock = some q → w.heap.size ≤ q ∧ ∀ s ∈ ss, s.loc ≠ some ⟨q, 0, none⟩) (hown : w2.ownsRow w.heap.size 52 1 v' ss.length (svs ss)) (hg : w1.grownBy w2 v1.ownBlock) : BI w w2 v' ss := by
  refine ⟨hown, fun s hs => ?_, hw.apart, hb.grown hg hb.size (fun q hq => (hv q hq).1)⟩
  obtain ⟨b, e, h1, h2, h3, h4, h5⟩ := hw.rows s hs
  refine ⟨b, e, h1, ⟨Nat.lt_of_lt_of_le h4.1 hg.size, fun i u hu => ?_⟩, h5, hne s hs⟩
  have hbk : w2.heap[b]? = w1.heap[b]? := hg.block b h4.1 (fun q => by
    have := (hv b q.symm).2 s hs
    exact this e)
  exact ⟨(World.cell?_of_block (a := ⟨b, i, none⟩) hbk).trans (h4.2 i u hu).1, (World.frozen?_of_block (a := ⟨b, i, none⟩) hbk).trans (h4.2 i u hu).2⟩
theorem codeX_take {s : Int} (h : schOk s = true) {i : Nat} (hi : i < schM s) : (codeX s).take (schK s + i + 1) = (codeX s).take (schK s + i) ++ [codeRow (schK s) i] := by
  have hl : schK s + i < (codeX s).length := by rw [codeX_len h]; omega
  rw [List.take_succ_eq_append_getElem hl]
  congr 2
  simp only [codeX_yes h]
  rw [List.getElem_append_right (by simp)]
  simp
theorem codeX_start {s : Int} (h : schOk s = true) : (codeX s).take (schK s) = oneX (schK s : Nat) := by
  obtain ⟨b1, b2, _, _⟩ := sch_bounds h
  rw [codeX_yes h, List.take_append_of_le_length (by simp), List.take_of_length_le (by simp)]
  unfold oneX
  rw [if_pos (by omega)]; rfl
set_option maxRecDepth 100000 in
set_option maxHeartbeats 4000000 in
theorem specCodeOf (s : Int) (w : World) : Calls Tw.prog 21 #[.int .i64 s] w fun e w' => MPost (codeX s) w e w' := by
  have HS := Shut.mk (fun W => specSchema s W)
  cases h : schOk s with
  | false =>
    rw [codeX_no h]
    unfold SchPost at HS
    rw [h] at HS
    clear h
    go_enter Tw.func21, Tw.ntmps21
    go_wp2_with fail
    refine (HS.out _).mono ?_
    rintro e w1 ⟨rfl, rfl⟩
    go_wp2_with fail
    go_ret
    exact ⟨_, rfl, MAns.empty _ _ _ _ _, (Below.refl _ _).alloc (Nat.le_refl _) _⟩
  | true =>
    obtain ⟨i0, hi0, hz0, hz1, hz2⟩ := info_parts infoRow
    obtain ⟨i1, hi1, hy0, hy1, hy2⟩ := info_parts infoIntG
    unfold SchPost at HS
    rw [h] at HS
    obtain ⟨b1, b2, b3, b4⟩ := sch_bounds h
    have HSTA := Shut.mk (codeX_start h)
    have HTK := Shut.mk (fun i (hi : i < schM s) => codeX_take h hi)
    have HLEN := Shut.mk (codeX_len h)
    clear h
    generalize schK s = k at *
    generalize schM s = m at *
    generalize codeX s = C at *
    have HONE := Shut.mk (fun W => specOneM (k : Int) W)
    have hal : Below w.heap.size w (w.alloc (.cells #[] 52)) := (Below.refl _ _).alloc (Nat.le_refl _) _
    have HAL := Shut.mk hal
    have HOWN0 := Shut.mk (World.ownsRow_made (base := w.heap.size) (e := 52) (size := 1) w #[] 0 (Nat.le_refl _) (by decide) rfl)
    clear hal
    go_enter Tw.func21, Tw.ntmps21
    go_wp2_with fail
    refine (HS.out _).mono ?_
    rintro e w0 ⟨rfl, rfl⟩
    go_wp2_with fail
    refine (HONE.out _).mono ?_
    rintro e w1 ⟨v1, rfl, ha1, hb1⟩
    have hlo : (oneX (k : Int)).length = k := by unfold oneX; rw [if_pos (by omega)]; simp
    obtain ⟨a1, cap1, ss, rfl, hr1, hc1, q1⟩ := ha1
    have hls : ss.length = k := by rw [← rws_len, hr1, hlo]
    obtain ⟨g, rfl, hm1⟩ : ∃ g, a1 = some ⟨g, 0, none⟩ ∧ MW w1 g ss (w0.alloc (.cells #[] 52)).heap.size w1.heap.size := by
      rcases q1 with rfl | q1
      · simp at hls; omega
      · exact q1
    have hown0 : w1.ownsRow w0.heap.size 52 1 (.slice (some ⟨w0.heap.size, 0, none⟩) 0 0) 0 [] := HOWN0.out.kept (row := none) ⟨hb1.os, hb1.tape, hb1.output, hb1.size, fun k hk _ => hb1.block k hk⟩ (Classical.em _)
    have HNEWS := Shut.mk (news_rows hm1.out)
    have HM1 := Shut.mk hm1
    have HB1 := Shut.mk (HAL.out.trans (hb1.mono HAL.out.size))
    have HR1 := Shut.mk hr1
    have HLS : Hid (ss.length = k) := hls
    rw [hls]
    clear q1 hm1 hb1 hr1 hls hlo hc1 HAL HOWN0 HONE
    go_wp2_with (at_builtin; refine wpList_append_own _ rfl _ _ 50 rfl w0.heap.size 52 i0 (.slice none 0 0) 1 24 Tw.underlying50 hi0 hz0 hz1 hz2 rfl (by decide) _ 0 [] rfl hown0 ⟨g, 0, none⟩ k cap1 (svs ss) rfl ?c1 HNEWS.out (one_rows' ss) ?c3 ?c4 ?c5 ?_)
    case c1 => rw [svs_len, Nat.mul_one]; exact HLS.out
    case c3 => unfold maxLen; omega
    case c4 => omega
    case c5 => exact HB1.out.size
    intro v2 w2 hown2 hg2 _
    have hbi : BI w0 w2 v2 ss := BI.over (HM1.out.wide (by simp) (Nat.le_refl _)) (fun s hs => by
        have : s.row ∈ oneX (k : Int) := by rw [← HR1.out]; exact List.mem_map.2 ⟨s, hs, rfl⟩
        unfold oneX at this
        rw [if_pos (by omega)] at this
        obtain ⟨i, _, hi⟩ := List.mem_map.1 this
        intro e0
        have hl := oneRow_len (k : Int).toNat i
        rw [hi, e0] at hl
        simp at hl; omega) HB1.out (fun q hq => by
        have : q = w0.heap.size := by simp [Value.ownBlock] at hq; exact hq.symm
        subst this
        refine ⟨Nat.le_refl _, fun s hs e0 => ?_⟩
        obtain ⟨b, e1, h1, _⟩ := HM1.out.rows s hs
        have : b = w0.heap.size := congrArg Addr.block (Option.some.inj (e1.symm.trans e0))
        simp at h1; omega) (by rw [HLS.out]; exact hown2) hg2
    have HBI := Shut.mk hbi
    have HRW : Shut (rws ss = C.take (k + 0)) := ⟨by rw [HR1.out, Nat.add_zero, HSTA.out]⟩
    clear hbi hown2 hg2 hown0 HM1 HR1 HSTA HNEWS HB1
    go_wp2_with fail
    go_loopw [6, 7] (fun v ii wr => ∃ (i : Nat) (ts : List SR) (vv : Value), vv = v ∧ ii = .int .i64 (i : Nat) ∧ i ≤ m ∧ ts.length = k + i ∧ Shut (rws ts = C.take (k + i)) ∧ Shut (BI w0 wr vv ts)) (fun _ ii _ => m - (intOf ii).toNat)
    case atStart => exact ⟨0, ss, _, rfl, rfl, Nat.zero_le _, HLS.out, HRW, HBI⟩
    case round =>
      clear HBI HRW HLS
      obtain ⟨i, ts, v, rfl, rfl, him, htl, hrw, hbi⟩ := hrel
      obtain ⟨wo, rfl⟩ : ∃ wo, wo = wr := ⟨_, rfl⟩
      have HTL : Hid (ts.length = k + i) := htl
      clear htl
      by_cases hlt : i < m
      · have hlt' : (i : Int) < (m : Int) := by omega
        have k0 : (0 : Int) ≤ (i : Int) := by omega
        have HST := Shut.mk (HTK.out i hlt)
        have HBA := Shut.mk (show Below wo.heap.size wo (wo.alloc (.cells #[] 3)) from (Below.refl _ _).alloc (Nat.le_refl _) _)
        have HOA : Shut ((wo.alloc (.cells #[] 3)).ownsRow wo.heap.size 3 1 (.slice (some ⟨wo.heap.size, 0, none⟩) 0 0) 0 (ics ((codeRow k i).take 0))) := ⟨World.ownsRow_made wo #[] 0 (Nat.le_refl _) (by decide) rfl⟩
        go_wp2_with fail
        go_loopw [8, 9] (fun rv jj wq => ∃ (j : Nat) (rr : Value), rr = rv ∧ jj = .int .i64 j ∧ j ≤ k ∧ Shut (wq.ownsRow wo.heap.size 3 1 rr j (ics ((codeRow k i).take j))) ∧ Shut (Below wo.heap.size wo wq)) (fun _ jj _ => k - (intOf jj).toNat)
        case atStart => exact ⟨0, _, rfl, rfl, by omega, HOA, HBA⟩
        case round =>
          clear HOA HBA
          obtain ⟨j, rr, rfl, rfl, hjk, hown, hbq⟩ := hrel
          obtain ⟨wi, rfl⟩ : ∃ wi, wi = wr := ⟨_, rfl⟩
          by_cases hjl : j < k
          · have hjl' : (j : Int) < (k : Int) := by omega
            have j0 : (0 : Int) ≤ (j : Int) := by omega
            have hx : bits .xor .i64 ((k : Int) + (i : Int)) (j : Int) = (((k + i) ^^^ j : Nat) : Int) := by
              have := i64_xor (k + i) j (by omega) (by omega)
              rw [← this]; push_cast; rfl
            have hst : ics ((codeRow k i).take (j + 1)) = ics ((codeRow k i).take j) ++ [.int .i64 ((W.gi (g8 (((k + i) ^^^ j : Nat) : Int))).toNat : Int)] := by
              have hj2 : j < (codeRow k i).length := by rw [codeRow_len]; exact hjl
              rw [List.take_succ_eq_append_getElem hj2]
              simp [codeRow, ics]
            have HINV := Shut.mk (fun W => specInvG (((k + i) ^^^ j : Nat) : Int) W)
            generalize W.gi (g8 (((k + i) ^^^ j : Nat) : Int)) = G at *
            have HS2 := Shut.mk hst
            have hs3 := hbq.out.size
            generalize (((k + i) ^^^ j : Nat) : Int) = X at *
            clear hst
            go_wp2_with fail
            refine (HINV.out _).mono ?_
            rintro e w5 ⟨rfl, rfl⟩
            have hown3 := hown.out
            clear hown HINV
            go_wp2_with (at_builtin; refine wpList_append_own _ rfl _ _ 52 rfl wo.heap.size 3 i1 (.int .i64 0) 1 8 Tw.underlying52 hi1 hy0 hy1 hy2 rfl (by decide) _ _ _ rfl (hown3.alloc _) ⟨w5.heap.size, 0, none⟩ 1 1 [.int .i64 (G.toNat : Int)] rfl rfl (cell_one_new _ _ _) ?c2 ?c3 ?c4 ?c5 ?_)
            case c2 => first | rfl | (intro u hu; simp at hu; subst hu; rfl)
            case c3 => unfold maxLen; omega
            case c4 => omega
            case c5 => first | omega | (simp; omega)
            intro v' w4 hown' hgrow _
            rw [← HS2.out] at hown'
            have Q1 := Shut.mk hown'
            have Q2 := Shut.mk ((hbq.out.alloc hs3 (.cells #[.int .i64 (G.toNat : Int)] 3)).grown hgrow (by simp; omega) (fun j hj => (hown3.lt j hj).1))
            clear hown' hgrow hown3 hbq
            go_wp2_with fail
            go_roundw
            case rel => exact ⟨j + 1, v', rfl, by go_num, by omega, Q1, Q2⟩
            case measure => simp [intOf]; omega
          · have e : j = k := by omega
            have hjl' : ¬ (j : Int) < (k : Int) := by omega
            have hown2 := hown.out
            rw [e, List.take_of_length_le (by rw [codeRow_len]; exact Nat.le_refl _)] at hown2
            obtain ⟨gr, cr, rfl, hcr⟩ := own_some hown2 (by omega)
            have hgr := hown2.lt gr rfl
            have HROW := Shut.mk (own_wcells hown2)
            have HBI := Shut.mk (show BI w0 wi v ts ∧ (∀ q, v.ownBlock = some q → q ≠ gr) ∧ ∀ s ∈ ts, s.loc ≠ some ⟨gr, 0, none⟩ from ⟨hbi.out.below hbq.out, fun q hq => by have := (hbi.out.own.lt q hq).2; omega, fun s hs e => by obtain ⟨b', e', _, q, _⟩ := hbi.out.rows s hs; have : b' = gr := congrArg Addr.block (Option.some.inj (e'.symm.trans e)); have := q.1; omega⟩)
            have hsi : wo.heap.size ≤ wi.heap.size := hbq.out.size
            have hso := hbi.out.bel.size
            have hgr1 := hgr.1
            have hown := HBI.out.1.own
            clear hown2 hbq hbi hgr e
            go_wp2_with (at_builtin; refine wpList_append_own _ rfl _ _ 50 rfl w0.heap.size 52 i0 (.slice none 0 0) 1 24 Tw.underlying50 hi0 hz0 hz1 hz2 rfl (by decide) _ _ _ rfl (hown.alloc _) ⟨wi.heap.size, 0, none⟩ 1 1 [.slice (some ⟨gr, 0, none⟩) k cr] rfl rfl (cell_one_new _ _ _) ?c2 ?c3 ?c4 ?c5 ?_)
            case c2 => first | rfl | (intro u hu; simp at hu; subst hu; rfl)
            case c3 => unfold maxLen; have := HTL.out; omega
            case c4 => have := HTL.out; omega
            case c5 => first | omega | (simp; omega)
            intro v' w6 hown' hgrow _
            have hne : codeRow k i ≠ [] := fun e => by have := congrArg List.length e; rw [codeRow_len] at this; simp at this; omega
            have hap := HBI.out.1.append (cap := cr) (by omega) HROW.out hne (by rw [codeRow_len]; exact hcr) HBI.out.2.1 HBI.out.2.2 (by rw [codeRow_len]; exact hown') hgrow
            have HAP := Shut.mk hap
            have HR2 : Shut (rws (ts ++ [SR.mk (some ⟨gr, 0, none⟩) (codeRow k i) cr]) = C.take (k + (i + 1))) := ⟨by rw [rws_snoc, hrw.out, ← Nat.add_assoc, HST.out]⟩
            clear hap hown' hgrow hown HBI HROW hrw hne
            go_wp2_with fail
            go_roundw
            case rel => exact ⟨i + 1, _, v', rfl, by go_num, by omega, by rw [List.length_append, List.length_singleton, HTL.out]; omega, HR2, HAP⟩
            case measure => simp [intOf]; omega
      · have e : i = m := by omega
        have hlt' : ¬ (i : Int) < (m : Int) := by omega
        have HF := Shut.mk (hbi.out.fin (X := C) (by rw [hrw.out, List.take_of_length_le (by rw [HLEN.out]; omega)]))
        have HB := Shut.mk hbi.out.bel
        clear e hbi hrw
        go_wp2_with fail
        go_ret
        exact ⟨v, rfl, HF.out, HB.out⟩
end Go.Proofs.YtbkimmbfepjodaaDoorT
