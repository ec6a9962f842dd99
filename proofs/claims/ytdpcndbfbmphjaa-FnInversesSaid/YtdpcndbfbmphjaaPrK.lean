/- The program's own clearOthers and solve. -/
import Derived.Test.YtdpcndbfbmphjaaPrJ
namespace Go.Proofs.Ytdpcndbfbmphjaa
open Go.RowKit
open W (B8 Mx)
attribute [local go_sem ↓] Go.wp_at_zero Go.wp_at_succ
attribute [local irreducible] W.gm W.xs W.mm W.gi matOk

/-- Where the elimination stands: with the first c columns done, and of the next one i rows. -/
structure Solv (n c : Nat) (M : Mx) (w w' : World) (B g : Nat) (ss : List KS) : Prop where
  len : ss.length = n
  kx : KX w' B g ss
  pu : PuK n c M (kws ss)
  bel : Below B w w'
theorem Solv.drew {n c : Nat} {M : Mx} {w w' : World} {B g : Nat} {ss : List KS} (h : Solv n c M w w' B g ss) : Solv n c M w w'.drew B g ss := ⟨h.len, h.kx.below (Below.drew (Below.refl _ _)), h.pu, Below.drew h.bel⟩
/-- A row, so many times, is added to another one. -/
theorem Solv.plus {n c i b cp : Nat} {M : Mx} {w w' W w9 : World} {B g : Nat} {ss : List KS} (h : Solv n c M w w' B g ss) (hB : B ≤ w'.heap.size) (hc : c < n) (hi : i < n) (hic : i ≠ c) (hd : ColDone n c i (lf (kws ss)))
    (hloc : (ss.getD i default).loc = some ⟨b, 0, none⟩) (hcp : (ss.getD i default).cap = cp) (hb : B ≤ b) (hW : Below w'.heap.size w' W) (hg : W.grownBy w9 (some b)) (hcell : WCells w9 b (ucs (plusU (((kws ss).getD i []).getD c 0#8) ((kws ss).getD i []) ((kws ss).getD c [])))) :
    Solv n c M w w9 B g (ss.set i ⟨some ⟨b, 0, none⟩, plusU (((kws ss).getD i []).getD c 0#8) ((kws ss).getD i []) ((kws ss).getD c []), cp⟩) ∧ ColDone n c (i + 1) (lf (kws (ss.set i ⟨some ⟨b, 0, none⟩, plusU (((kws ss).getD i []).getD c 0#8) ((kws ss).getD i []) ((kws ss).getD c []), cp⟩))) := by
  obtain ⟨p1, p2⟩ := h.pu.plus hc hi hic hd (t := ((kws ss).getD i []).getD c 0#8) rfl
  have hk := (h.kx.below hW).setRow (by rw [h.len]; exact hi) hloc hg hcell (by rw [plusU_len, kws_at])
  rw [hcp] at hk
  have e : kws (ss.set i ⟨some ⟨b, 0, none⟩, plusU (((kws ss).getD i []).getD c 0#8) ((kws ss).getD i []) ((kws ss).getD c []), cp⟩) = (kws ss).set i (plusU (((kws ss).getD i []).getD c 0#8) ((kws ss).getD i []) ((kws ss).getD c [])) := by rw [kws_set]
  rw [e]
  refine ⟨⟨by rw [List.length_set]; exact h.len, hk, by rw [e]; exact p1, ?_⟩, p2⟩
  exact (h.bel.trans (hW.mono hB)).grown hg (Nat.le_trans hB hW.size) (fun j hj => by cases hj; exact hb)
def ClearPost (n c : Nat) (M : Mx) (B g : Nat) (w : World) (e : Ending) (w' : World) : Prop := (∃ v, e = .returned v) ∧ ∃ ss, Solv n (c + 1) M w w' B g ss
set_option maxRecDepth 100000 in
set_option maxHeartbeats 4000000 in
theorem implClear (n c B g cap : Nat) (M : Mx) (ss : List KS) (w : World) (h : Solv n c M w w B g ss) (hd : ColDone n c 0 (lf (kws ss))) (hc : c < n) (h8 : n ≤ 8) (hB : B ≤ w.heap.size) :
    Calls Try.prog 75 #[.slice (some ⟨g, 0, none⟩) n cap, .int .i64 (c : Int)] w fun e w' => ClearPost n c M B g w e w' := by
  have H0 := Shut.mk (And.intro h hd)
  clear h hd
  go_enter Try.func75, Try.ntmps75
  go_wp2_with fail
  go_loopw [8] (fun ii wr => ∃ (i : Nat) (ss : List KS), ii = .int .i64 i ∧ i ≤ n ∧ Shut (Solv n c M w wr B g ss ∧ ColDone n c i (lf (kws ss)))) (fun ii _ => n - (intOf ii).toNat)
  case atStart => exact ⟨0, ss, rfl, Nat.zero_le _, H0⟩
  case round =>
    clear H0
    obtain ⟨i, ss, rfl, hin, hS⟩ := hrel
    have hsw := hS.out.1.bel.size
    by_cases hlt : i < n
    · have hlt' : (i : Int) < (n : Int) := by omega
      have i0 : (0 : Int) ≤ (i : Int) := by omega
      have c0 : (0 : Int) ≤ (c : Int) := by omega
      have c1 : (c : Int) < (n : Int) := by omega
      have c2 : (c : Int) < (n : Int) + (n : Int) := by omega
      obtain ⟨b, cp, q1, q2, q3, q4, q5, q6, d1, z1, q7, ev1⟩ := hS.out.1.kx.at (i := i) (by rw [hS.out.1.len]; exact hlt) (hS.out.1.pu.row i hlt)
      by_cases hic : i = c
      · have e1 : ((i : Int) != (c : Int)) = false := by rw [hic]; simp
        have HN := Shut.mk (show Solv n c M w wr B g ss ∧ ColDone n c (i + 1) (lf (kws ss)) from ⟨hS.out.1, hS.out.2.skip (.inl hic)⟩)
        clear q1 q2 q7 ev1 z1 hS hic
        go_wp2_with fail
        exact ⟨⟨i + 1, ss, by go_num, by omega, HN⟩, by simp [intOf]; omega⟩
      · have e1 : ((i : Int) != (c : Int)) = true := by rw [bne_iff_ne]; omega
        obtain ⟨b', cp', r1, r2, r3, r4, r5, r6, d2, z2, r7, ev2⟩ := hS.out.1.kx.at (i := c) (by rw [hS.out.1.len]; exact hc) (hS.out.1.pu.row c hc)
        have hli := hS.out.1.pu.row i hlt
        have hlc := hS.out.1.pu.row c hc
        have hbb : b' ≠ b := fun e => hS.out.1.kx.ne (i := i) (j := c) (by rw [hS.out.1.len]; exact hlt) (by rw [hS.out.1.len]; exact hc) hic (by rw [q1, r1, e])
        obtain ⟨d3, _⟩ := q7.2 c _ (ucs_get _ c (by omega))
        have HPL := Shut.mk (fun (W w9 : World) (hW : Below wr.heap.size wr W) (hg : W.grownBy w9 (some b)) (hcell : WCells w9 b (ucs (plusU (((kws ss).getD i []).getD c 0#8) ((kws ss).getD i []) ((kws ss).getD c [])))) => hS.out.1.plus (by omega) hc hlt hic hS.out.2 q1 q2 q3 hW hg hcell)
        have HCA := Shut.mk (fun (W : World) (hW : Below wr.heap.size wr W) => implAddTimes (((kws ss).getD i []).getD c 0#8) ((kws ss).getD i []) ((kws ss).getD c []) b cp b' 0 cp' (n + n) W (q7.below hW q7.1) (fun j hj => by
          have := (r7.2 j _ (ucs_get _ j (by omega))).1
          rw [Nat.zero_add]
          exact (hW.cell (p := ⟨b', j, none⟩) r5).trans this) (by have := hW.size; omega) hbb hli (by omega))
        generalize ((kws ss).getD i []).getD c 0#8 = x at *
        clear q1 q2 r1 r2 q7 r7 ev1 ev2 z1 z2 hli hlc hS
        go_wp2_with fail
        go_region_with (go_at_call 65; refine (HCA.out _ ?_).mono ?_; (first | exact Below.refl _ _ | exact Below.drew (Below.refl _ _)); rintro e w9 ⟨⟨v9, rfl⟩, hc9, hg9⟩)
        all_goals go_wp2_with fail
        all_goals first
          | exact ⟨⟨i + 1, _, by go_num, by omega, ⟨HPL.out _ _ (Below.refl _ _) hg9 hc9⟩⟩, by simp [intOf]; omega⟩
          | exact ⟨⟨i + 1, _, by go_num, by omega, ⟨HPL.out _ _ (Below.drew (Below.refl _ _)) hg9 hc9⟩⟩, by simp [intOf]; omega⟩
    · have e : i = n := by omega
      have hlt' : ¬ (i : Int) < (n : Int) := by omega
      have HF : Shut (Solv n (c + 1) M w wr B g ss) := ⟨⟨hS.out.1.len, hS.out.1.kx, hS.out.1.pu.next (by have q := hS.out.2; rw [e] at q; exact q), hS.out.1.bel⟩⟩
      clear e hS
      go_wp2_with fail
      go_returns
      exact ⟨⟨_, rfl⟩, ss, HF.out⟩
def SolvePost (n : Nat) (X : List (List Int)) (B g : Nat) (w : World) (e : Ending) (w' : World) : Prop :=
  Below B w w' ∧ ((e = .returned (.bool true) ∧ ∃ ss, Solv n n (mx X) w w' B g ss) ∨ (e = .returned (.bool false) ∧ ¬ ∃ Y, IsInv X Y))
theorem Solv.shift {n c : Nat} {M : Mx} {w w1 w2 : World} {B g : Nat} {ss : List KS} (h : Solv n c M w1 w2 B g ss) (hb : Below B w w1) : Solv n c M w w2 B g ss := ⟨h.len, h.kx, h.pu, hb.trans h.bel⟩
set_option maxRecDepth 100000 in
set_option maxHeartbeats 4000000 in
theorem implSolve (n B g cap : Nat) (X : List (List Int)) (ss : List KS) (w : World) (h : Solv n 0 (mx X) w w B g ss) (hX : X.length = n) (h8 : n ≤ 8) (hB : B ≤ w.heap.size) :
    Calls Try.prog 68 #[.slice (some ⟨g, 0, none⟩) n cap] w fun e w' => SolvePost n X B g w e w' := by
  have H0 := Shut.mk h
  have HX : Hid (X.length = n) := hX
  clear h hX
  go_enter Try.func68, Try.ntmps68
  go_wp2_with fail
  go_loopw [6] (fun ii wr => ∃ (c : Nat) (ss : List KS), ii = .int .i64 c ∧ c ≤ n ∧ Shut (Solv n c (mx X) w wr B g ss)) (fun ii _ => n - (intOf ii).toNat)
  case atStart => exact ⟨0, ss, rfl, Nat.zero_le _, H0⟩
  case round =>
    clear H0
    obtain ⟨c, ss, rfl, hcn, hS⟩ := hrel
    have hsw := hS.out.bel.size
    by_cases hlt : c < n
    · have hlt' : (c : Int) < (n : Int) := by omega
      have c0 : (0 : Int) ≤ (c : Int) := by omega
      have HL := Shut.mk (implLift n c B g cap ss wr hS.out.kx hS.out.len hS.out.pu.row hlt h8)
      go_wp2_with fail
      refine HL.out.mono ?_
      rintro e w1 ⟨hb1, ⟨p, hp1, hp2, hp3, rfl, hk1⟩ | ⟨rfl, hz, hk1⟩⟩
      · have HS1 := Shut.mk (show Solv n c (mx X) w w1 B g (swapK p c ss) from ⟨by rw [swapK_len]; exact hS.out.len, hk1, by rw [kws_swap]; exact hS.out.pu.swap hlt hp2 hp1, hS.out.bel.trans hb1⟩)
        have HNZ : Shut (lf (kws (swapK p c ss)) c c ≠ 0#8) := ⟨by rw [kws_swap, hS.out.pu.swap_c hlt hp2]; exact hp3⟩
        have hs1 := hb1.size
        have HD := Shut.mk (implDivide n c B g cap (swapK p c ss) w1 HS1.out.kx HS1.out.len HS1.out.pu.row hlt h8 (by omega))
        clear hb1 hk1 hp3 HL hS
        go_wp2_with fail
        refine HD.out.mono ?_
        rintro e w2 ⟨⟨v2, rfl⟩, hb2, s2, hs2, hk2⟩
        have hp := HS1.out.pu.times hlt rfl HNZ.out
        rw [← hs2, ← kws_set] at hp
        have HS2 := Shut.mk (show Solv n c (mx X) w2 w2 B g ((swapK p c ss).set c s2) ∧ ColDone n c 0 (lf (kws ((swapK p c ss).set c s2))) from ⟨⟨by rw [List.length_set]; exact HS1.out.len, hk2, hp.1, Below.refl _ _⟩, hp.2⟩)
        have HB2 := Shut.mk (HS1.out.bel.trans hb2)
        have hsz2 := hb2.size
        have HC := Shut.mk (implClear n c B g cap (mx X) _ w2 HS2.out.1 HS2.out.2 hlt h8 (by omega))
        clear hb2 hs2 hk2 hp HD HS1
        go_wp2_with fail
        refine HC.out.mono ?_
        rintro e w3 ⟨⟨v3, rfl⟩, ss3, hs3⟩
        have HS3 := Shut.mk (hs3.shift HB2.out)
        clear hs3 HC
        go_wp2_with fail
        go_roundw
        case rel => exact ⟨c + 1, ss3, by go_num, by omega, HS3⟩
        case measure => simp [intOf]; omega
      · have HNO := Shut.mk (hS.out.pu.none HX.out hlt hz)
        have HB1 := Shut.mk (hS.out.bel.trans hb1)
        clear hb1 hk1 hz HL hS
        go_wp2_with fail
        go_ret
        exact ⟨HB1.out, .inr ⟨rfl, HNO.out⟩⟩
    · have e : c = n := by omega
      have hlt' : ¬ (c : Int) < (n : Int) := by omega
      have HF : Shut (Solv n n (mx X) w wr B g ss) := ⟨by have q := hS.out; rw [e] at q; exact q⟩
      clear e hS
      go_wp2_with fail
      go_ret
      exact ⟨HF.out.bel, .inl ⟨rfl, ss, HF.out⟩⟩
end Go.Proofs.Ytdpcndbfbmphjaa
