/- The program's own products of matrices of bytes. -/
import Derived.Test.YtdlgailodhlbmaaPrE
import Derived.Test.YtdlgailodhlbmaaPrB
namespace Go.Proofs.Ytdlgailodhlbmaa
open Go.RowKit
open W (B8)
attribute [local go_sem ↓] Go.wp_at_zero Go.wp_at_succ
attribute [local irreducible] W.gm W.xt W.gp W.gi W.xs

/-- A matrix of bytes that is read: its rows lie somewhere. -/
def KAt (w : World) (b off : Nat) (K : List (List B8)) (m : Nat) : Prop := b < w.heap.size ∧ ∀ i, i < K.length → ∃ b' o' cp, b' < w.heap.size ∧ w.cell? ⟨b, off + i, none⟩ = some (.slice (some ⟨b', o', none⟩) m cp) ∧ ∀ j, j < m → w.cell? ⟨b', o' + j, none⟩ = some (.int .u8 (((K.getD i []).getD j 0#8).toNat : Int))
theorem KAt.below {w w' : World} {b off m : Nat} {K : List (List B8)} (h : KAt w b off K m) (hb : Below w.heap.size w w') : KAt w' b off K m := by
  have hs := hb.size
  refine ⟨by have := h.1; omega, fun i hi => ?_⟩
  obtain ⟨b', o', cp, h1, h2, h3⟩ := h.2 i hi
  exact ⟨b', o', cp, by omega, (hb.cell (p := ⟨b, off + i, none⟩) h.1).trans h2, fun j hj => (hb.cell (p := ⟨b', o' + j, none⟩) h1).trans (h3 j hj)⟩
theorem KSee.kat {w : World} {v : Value} {K : List (List B8)} {lo hi m : Nat} (h : KSee w v K lo hi) (hK : 0 < K.length) (hm : ∀ r ∈ K, r.length = m) (h0 : 0 < m) : ∃ b off cap, v = .slice (some ⟨b, off, none⟩) K.length cap ∧ KAt w b off K m := by
  obtain ⟨a, cap, ss, rfl, hr, hk⟩ := h
  have hl : ss.length = K.length := by rw [← hr, kws_len]
  obtain ⟨b, off, rfl, lb, hc⟩ := hk.at (by omega)
  refine ⟨b, off, cap, by rw [hl], lb, fun i hi => ?_⟩
  have hi' : i < ss.length := by omega
  have hrow : ss[i].row = K.getD i [] := by
    have e1 := kws_get ss i hi'
    rw [← e1]
    simp only [hr]
    simp [List.getD, hi]
  have hmem : ss[i].row ∈ K := by rw [← hr]; exact List.mem_map.2 ⟨ss[i], List.getElem_mem hi', rfl⟩
  have hlen := hm _ hmem
  obtain ⟨b', o', e, lb', hc'⟩ := crow_byte (hk.2 ss[i] (List.getElem_mem hi')).crow (by omega)
  have d := hc i hi'
  unfold ksv at d
  rw [e, hlen] at d
  exact ⟨b', o', ss[i].cap, lb', d, fun j hj => by rw [← hrow]; exact hc' j (by omega)⟩
/-- A row of a product that is under way. -/
def accU (q : Nat) (r : List B8) (K : List (List B8)) (j : Nat) : List B8 := (List.range q).map fun c => W.xs j fun l => W.gm (r.getD l 0#8) ((K.getD l []).getD c 0#8)
theorem accU_len (q : Nat) (r : List B8) (K : List (List B8)) (j : Nat) : (accU q r K j).length = q := by simp [accU]
theorem accU_0 (q : Nat) (r : List B8) (K : List (List B8)) : accU q r K 0 = List.replicate q 0#8 := by
  apply List.ext_getElem (by simp [accU])
  intro i h1 h2
  simp only [accU, List.getElem_map, List.getElem_replicate]
  exact W.xs_0 _
theorem accU_at {q : Nat} {r : List B8} {K : List (List B8)} {j c : Nat} (h : c < q) : (accU q r K j).getD c 0#8 = W.xs j fun l => W.gm (r.getD l 0#8) ((K.getD l []).getD c 0#8) := by
  unfold accU
  rw [List.getD_eq_getElem?_getD, List.getElem?_map, List.getElem?_range h]; rfl
theorem accU_next (q : Nat) (r : List B8) (K : List (List B8)) (j : Nat) : plusU (r.getD j 0#8) (accU q r K j) (K.getD j []) = accU q r K (j + 1) := by
  apply List.ext_getElem (by rw [plusU_len, accU_len, accU_len])
  intro c h1 h2
  have hc : c < q := by rw [accU_len] at h2; exact h2
  have a1 : (plusU (r.getD j 0#8) (accU q r K j) (K.getD j [])).getD c 0#8 = (plusU (r.getD j 0#8) (accU q r K j) (K.getD j []))[c] := by rw [List.getD_eq_getElem?_getD, List.getElem?_eq_getElem h1]; rfl
  have a2 : (accU q r K (j + 1)).getD c 0#8 = (accU q r K (j + 1))[c] := by rw [List.getD_eq_getElem?_getD, List.getElem?_eq_getElem h2]; rfl
  rw [← a1, ← a2, plusU_at (by rw [accU_len]; exact hc), accU_at hc, accU_at hc, W.xs_succ]
def AddPost' (z : List B8) (b : Nat) (w : World) (e : Ending) (w' : World) : Prop := (∃ v, e = .returned v) ∧ WCells w' b (ucs z) ∧ w.grownBy w' (some b)
def mulU (p q : Nat) (K L : List (List B8)) : List (List B8) := K.map fun r => accU q r L p
set_option maxRecDepth 100000 in
set_option maxHeartbeats 2000000 in
theorem implMTimes (K L : List (List B8)) (b1 o1 c1 b2 o2 c2 n p q : Nat) (w : World) (h1 : KAt w b1 o1 K p) (h2 : KAt w b2 o2 L q) (hK : K.length = n) (hL : L.length = p) (hn : n ≤ 8) (hp1 : 1 ≤ p) (hp8 : p ≤ 8) (hq1 : 1 ≤ q) (hq8 : q ≤ 8) :
    Calls Try.prog 102 #[.slice (some ⟨b1, o1, none⟩) n c1, .slice (some ⟨b2, o2, none⟩) p c2] w fun e w' => KPost (mulU p q K L) w e w' := by
  obtain ⟨i0, hi0, hz0, hz1, hz2⟩ := info_parts infoRowB
  obtain ⟨i1, hi1, hy0, hy1, hy2⟩ := info_parts infoB
  have H1 := Shut.mk h1
  have H2 := Shut.mk h2
  have HK : Hid (K.length = n ∧ L.length = p) := ⟨hK, hL⟩
  clear h1 h2 hK hL
  go_enter Try.func102, Try.ntmps102
  go_wp2_with fail
  go_loopw [5, 13] (fun v i wr => ∃ (ts : List KS) (vv : Value), vv = v ∧ i = .int .i64 (ts.length : Nat) ∧ ts.length ≤ n ∧ Shut (kws ts = (mulU p q K L).take ts.length) ∧ Shut (KI w wr vv ts)) (fun _ i _ => n - (intOf i).toNat)
  case atStart => exact ⟨[], _, rfl, rfl, by simp, ⟨rfl⟩, ⟨KI.start w (World.ownsRow_nil _ _ _ _) (Below.refl _ _)⟩⟩
  case round =>
    obtain ⟨ts, v, rfl, rfl, hk, hrw, hbi⟩ := hrel
    obtain ⟨wo, rfl⟩ : ∃ wo, wo = wr := ⟨_, rfl⟩
    obtain ⟨i, hie⟩ : ∃ i, i = ts.length := ⟨_, rfl⟩
    have HI : Hid (i = ts.length) := hie
    rw [← hie] at hk ⊢
    clear hie
    by_cases hlt : i < n
    · have hlt' : (i : Int) < (n : Int) := by omega
      have k0 : (0 : Int) ≤ (i : Int) := by omega
      have hsz := hbi.out.bel.size
      have hbw := hbi.out.bel
      obtain ⟨lb1, q1⟩ := H1.out.below hbw
      obtain ⟨lb2, q2⟩ := H2.out.below hbw
      obtain ⟨b1', o1', cp1, l1', d1, e1⟩ := q1 i (by have := HK.out.1; omega)
      obtain ⟨b20, o20, cp20, l20, d20, _⟩ := q2 0 (by have := HK.out.2; omega)
      rw [Nat.add_zero] at d20
      have p0 : (0 : Int) < (p : Int) := by omega
      have HE1 := Shut.mk e1
      have HQ2 := Shut.mk (H2.out.below hbw)
      have HST := Shut.mk (show (mulU p q K L).take (i + 1) = (mulU p q K L).take i ++ [accU q (K.getD i []) L p] by
        have hi2 : i < (mulU p q K L).length := by unfold mulU; rw [List.length_map]; have := HK.out.1; omega
        have hi3 : i < K.length := by have := HK.out.1; omega
        rw [List.take_succ_eq_append_getElem hi2]
        simp [mulU, List.getD, hi3])
      obtain ⟨r, hr⟩ : ∃ r, r = K.getD i [] := ⟨_, rfl⟩
      rw [← hr] at HE1 HST
      clear q1 q2 e1 hbw hr
      go_wp2_with (at_make; refine wpList_make_full _ rfl _ _ 82 rfl wo.heap.size 71 i1 _ 1 Try.underlying82 hi1 hy0 hy1 .i64 .i64 _ _ q rfl rfl (by omega) (by omega) ?b2 ?b3 ?b4 ?_)
      case b2 => rw [hy2]; omega
      case b3 => unfold maxLen; omega
      case b4 => omega
      intro wm hownm hgrm
      have HBM := Shut.mk (show Below wo.heap.size wo wm from (Below.refl _ _).grown hgrm (Nat.le_refl _) (fun j hj => by simp at hj))
      have HROW := Shut.mk (made_bytes hownm)
      clear hownm hgrm
      go_wp2_with fail
      go_loopw [24] (fun jj wq => ∃ (j : Nat), jj = .int .i64 j ∧ j ≤ p ∧ Shut (WCells wq wo.heap.size (ucs (accU q r L j))) ∧ Shut (Below wo.heap.size wo wq)) (fun jj _ => p - (intOf jj).toNat)
      case atStart => exact ⟨0, rfl, by omega, ⟨by rw [accU_0]; exact HROW.out⟩, HBM⟩
      case round =>
        clear HROW HBM
        obtain ⟨j, rfl, hj, hrow, hbq⟩ := hrel
        obtain ⟨wi, rfl⟩ : ∃ wi, wi = wr := ⟨_, rfl⟩
        by_cases hjp : j < p
        · have hjp' : (j : Int) < (p : Int) := by omega
          have j0 : (0 : Int) ≤ (j : Int) := by omega
          have hsi := hbq.out.size
          have d5 := (hbq.out.cell (p := ⟨b1', o1' + j, none⟩) l1').trans (HE1.out j hjp)
          obtain ⟨b2', o2', cp2, l2', d6, e6⟩ := HQ2.out.2 j (by have := HK.out.2; omega)
          have d7 := (hbq.out.cell (p := ⟨b2, o2 + j, none⟩) lb2).trans d6
          have hcall := implAddTimes (r.getD j 0#8) (accU q r L j) (L.getD j []) wo.heap.size q b2' o2' cp2 q wi hrow.out (fun c hc => (hbq.out.cell (p := ⟨b2', o2' + c, none⟩) l2').trans (e6 c hc)) (by omega) (by omega) (accU_len _ _ _ _) (by omega)
          rw [show AddPost (r.getD j 0#8) (accU q r L j) (L.getD j []) wo.heap.size wi = AddPost' (accU q r L (j + 1)) wo.heap.size wi from by funext e w'; unfold AddPost AddPost'; rw [accU_next]] at hcall
          generalize r.getD j 0#8 = x at d5 hcall
          have HX := Shut.mk hcall
          have HBQ := hbq
          clear hcall e6 d6 hbq
          go_wp2_with fail
          refine HX.out.mono ?_
          rintro e w9 ⟨⟨v9, rfl⟩, hc9, hg9⟩
          have Q1 := Shut.mk hc9
          have Q2 := Shut.mk (HBQ.out.grown hg9 hsi (fun g hg => by cases hg; exact Nat.le_refl _))
          clear hc9 hg9 HBQ HX
          go_wp2_with fail
          go_roundw
          case rel => exact ⟨j + 1, by go_num, by omega, Q1, Q2⟩
          case measure => simp [intOf]; omega
        · have e : j = p := by omega
          have hjp' : ¬ (j : Int) < (p : Int) := by omega
          have HBI := Shut.mk (hbi.out.newrow hbq.out (Nat.le_refl wo.heap.size))
          have hsi : wo.heap.size ≤ wi.heap.size := hbq.out.size
          have hown := HBI.out.1.own
          rw [e] at hrow
          clear hbq hbi e
          go_wp2_with (at_builtin; refine wpList_append_own _ rfl _ _ 67 rfl w.heap.size 82 i0 (.slice none 0 0) 1 24 Try.underlying67 hi0 hz0 hz1 hz2 rfl (by decide) _ _ _ rfl (hown.alloc _) ⟨wi.heap.size, 0, none⟩ 1 1 [.slice (some ⟨wo.heap.size, 0, none⟩) q q] rfl rfl (cell_one_new _ _ _) ?c2 ?c3 ?c4 ?c5 ?_)
          case c2 => first | rfl | (intro u hu; simp at hu; subst hu; rfl)
          case c3 => unfold maxLen; have := HI.out; omega
          case c4 => have := HI.out; omega
          case c5 => first | omega | (simp; omega)
          intro v' w6 hown' hgrow _
          have hne : accU q r L p ≠ [] := fun e => by have := congrArg List.length e; rw [accU_len] at this; simp at this; omega
          have hap := HBI.out.1.append (cap := q) hsz hrow.out hne (by rw [accU_len]; exact Nat.le_refl _) HBI.out.2.1 HBI.out.2.2 (by rw [accU_len]; exact hown') hgrow
          have HAP := Shut.mk hap
          have HR2 : Shut (kws (ts ++ [KS.mk (some ⟨wo.heap.size, 0, none⟩) (accU q r L p) q]) = (mulU p q K L).take (i + 1)) := ⟨by rw [kws_snoc, hrw.out, HST.out, HI.out]⟩
          clear hap hown' hgrow hown HBI hrow hrw hne
          go_wp2_with fail
          go_roundw
          case rel => exact ⟨_, v', rfl, by rw [List.length_append, List.length_singleton, ← HI.out]; go_num, by rw [List.length_append, List.length_singleton, ← HI.out]; omega, ⟨by rw [List.length_append, List.length_singleton, ← HI.out]; exact HR2.out⟩, HAP⟩
          case measure => simp [intOf]; omega
    · have e : i = n := by omega
      have hlt' : ¬ (i : Int) < (n : Int) := by omega
      have HF := Shut.mk (hbi.out.fin (X := mulU p q K L) (by
        rw [hrw.out, List.take_of_length_le (by unfold mulU; rw [List.length_map]; have := HK.out.1; have := HI.out; omega)]))
      have HB := Shut.mk hbi.out.bel
      clear e hbi hrw
      go_wp2_with fail
      go_ret
      exact ⟨v, rfl, HF.out, HB.out⟩
end Go.Proofs.Ytdlgailodhlbmaa
