/- Texts of ours, laid one behind the other: TPrJ, TPrK, TPrL, TPrN, TCdD. -/
import Derived.Test.YtbkimmbfepjodaaDoorPfT9
set_option linter.unusedVariables false
set_option linter.unusedSimpArgs false
/- The program's own lift and divide. -/
namespace Go.Proofs.YtbkimmbfepjodaaDoorT
set_option maxRecDepth 100000
open Go.RowKit
open W (B8 Mx)
attribute [local go_sem ↓] Go.wp_at_zero Go.wp_at_succ
attribute [local irreducible] W.gm W.xs W.mm W.gi matOk

def LiftPost (n c B g : Nat) (ss : List KS) (w : World) (e : Ending) (w' : World) : Prop :=
  Below B w w' ∧ ((∃ p, c ≤ p ∧ p < n ∧ lf (kws ss) p c ≠ 0#8 ∧ e = .returned (.bool true) ∧ KX w' B g (swapK p c ss)) ∨ (e = .returned (.bool false) ∧ (∀ i, c ≤ i → i < n → lf (kws ss) i c = 0#8) ∧ KX w' B g ss))
theorem byte_ne {x : B8} (h : x ≠ 0#8) : (((x.toNat : Int)) != 0) = true := by
  rw [bne_iff_ne]
  intro e
  exact h (W.b8_zero (by omega))
set_option maxRecDepth 100000 in
set_option maxHeartbeats 2000000 in
theorem implLift (n c B g cap : Nat) (ss : List KS) (w : World) (h : KX w B g ss) (hn : ss.length = n) (hr : ∀ i, i < n → ((kws ss).getD i []).length = n + n) (hc : c < n) (h8 : n ≤ 8) :
    Calls Tw.prog 85 #[.slice (some ⟨g, 0, none⟩) n cap, .int .i64 (c : Int)] w fun e w' => LiftPost n c B g ss w e w' := by
  have HH := Shut.mk h
  have HN : Hid (ss.length = n) := hn
  have HR := Shut.mk hr
  clear h hn hr
  go_enter Tw.func85, Tw.ntmps85
  go_wp2_with fail
  go_loop [6] (fun i => ∃ k : Nat, i = .int .i64 k ∧ c ≤ k ∧ k ≤ n ∧ Shut (∀ j, c ≤ j → j < k → lf (kws ss) j c = 0#8)) (fun i => n - (intOf i).toNat)
  case atStart => exact ⟨c, rfl, Nat.le_refl _, by omega, ⟨fun j h1 h2 => by omega⟩⟩
  case round =>
    obtain ⟨k, rfl, hck, hk, hz⟩ := hrel
    by_cases hlt : k < n
    · have hlt' : (k : Int) < (n : Int) := by omega
      have k0 : (0 : Int) ≤ (k : Int) := by omega
      have c0 : (0 : Int) ≤ (c : Int) := by omega
      have c1 : (c : Int) < (n : Int) := by omega
      have c2 : (c : Int) < (n : Int) + (n : Int) := by omega
      obtain ⟨b, cp, q1, q2, q3, q4, q5, q6, d1, z1, q7, ev1⟩ := HH.out.at (i := k) (by have := HN.out; omega) (HR.out k hlt)
      obtain ⟨b', cp', r1, r2, r3, r4, r5, r6, d2, z2, r7, ev2⟩ := HH.out.at (i := c) (by have := HN.out; omega) (HR.out c hc)
      obtain ⟨d3, _⟩ := q7.2 c _ (ucs_get _ c (by rw [HR.out k hlt]; omega))
      have hx : lf (kws ss) k c = ((kws ss).getD k []).getD c 0#8 := rfl
      generalize ((kws ss).getD k []).getD c 0#8 = x at *
      by_cases h0 : x = 0#8
      · subst h0
        have e0 : (((0#8 : B8).toNat : Int) != 0) = false := by rfl
        have HZ : Shut (∀ j, c ≤ j → j < k + 1 → lf (kws ss) j c = 0#8) := ⟨fun j h1 h2 => by
          by_cases e : j = k
          · subst e; exact hx
          · exact hz.out j h1 (by omega)⟩
        clear hx hz q7 r7 ev1 ev2
        go_wp2_with fail
        go_round
        case rel => exact ⟨k + 1, by go_num, by omega, by omega, HZ⟩
        case measure => simp [intOf]; omega
      · have e0 := byte_ne h0
        have hsw := HH.out.swap (p := k) (c := c) (by have := HN.out; omega) (by have := HN.out; omega)
        rw [ev1, ev2] at hsw
        have h4 := HH.out.out.set k (.slice (some ⟨b', 0, none⟩) (n + n) cp') (by rw [kvs_len]; have := HN.out; omega)
        obtain ⟨v4, hv4⟩ : ∃ v4, ((kvs ss).set k (.slice (some ⟨b', 0, none⟩) (n + n) cp'))[c]? = some v4 := ⟨_, List.getElem?_eq_getElem (by rw [List.length_set, kvs_len]; have := HN.out; omega)⟩
        obtain ⟨d4, z4⟩ := h4.2 c v4 hv4
        clear h4 hv4
        have HSW := Shut.mk hsw
        have HP := Shut.mk (show lf (kws ss) k c ≠ 0#8 by rw [hx]; exact h0)
        clear hsw hx hz q7 r7 ev1 ev2 h0 q1 q2 r1 r2
        go_wp2_with fail
        go_region
        go_wp2_with fail
        go_ret
        exact ⟨Below.drew (((Below.refl _ _).setCell (p := ⟨g, k, none⟩) HH.out.glo _).setCell (p := ⟨g, c, none⟩) HH.out.glo _), .inl ⟨k, hck, hlt, HP.out, rfl, HSW.out.below (Below.drew (Below.refl _ _))⟩⟩
    · have hlt' : ¬ (k : Int) < (n : Int) := by omega
      have HF : Shut (∀ i, c ≤ i → i < n → lf (kws ss) i c = 0#8) := ⟨fun i h1 h2 => hz.out i h1 (by omega)⟩
      clear hz
      go_wp2_with fail
      go_ret
      exact ⟨Below.refl _ _, .inr ⟨rfl, HF.out, HH.out⟩⟩
/-- A row that is being multiplied: the first k numbers are done. -/
def timesK (t : B8) (xs : List B8) (k : Nat) : List B8 := (List.range xs.length).map fun c => if c < k then W.gm (xs.getD c 0#8) t else xs.getD c 0#8
theorem timesK_len (t : B8) (xs : List B8) (k : Nat) : (timesK t xs k).length = xs.length := by simp [timesK]
theorem timesK_0 (t : B8) (xs : List B8) : timesK t xs 0 = xs := by
  apply List.ext_getElem (by simp [timesK])
  intro i h1 h2
  simp [timesK, List.getD, h2]
theorem timesK_all (t : B8) (xs : List B8) : timesK t xs xs.length = timesU t xs := by
  apply List.ext_getElem (by simp [timesK, timesU])
  intro i h1 h2
  have h3 : i < xs.length := by simpa [timesU] using h2
  simp [timesK, timesU, List.getD, h3]
theorem timesK_at {t : B8} {xs : List B8} {k : Nat} (h : k < xs.length) : (timesK t xs k).getD k 0#8 = xs.getD k 0#8 := by
  unfold timesK
  rw [List.getD_eq_getElem?_getD, List.getElem?_map, List.getElem?_range h]
  show (if k < k then _ else _) = _
  rw [if_neg (Nat.lt_irrefl k)]
theorem timesK_set {t : B8} {xs : List B8} {k : Nat} (_ : k < xs.length) : (timesK t xs k).set k (W.gm (xs.getD k 0#8) t) = timesK t xs (k + 1) := by
  apply List.ext_getElem (by simp [timesK])
  intro c h1 h2
  simp only [timesK, List.getElem_set, List.getElem_map, List.getElem_range]
  by_cases e : k = c
  · subst e; rw [if_pos rfl, if_pos (by omega)]
  · rw [if_neg e]
    by_cases h : c < k
    · rw [if_pos h, if_pos (by omega)]
    · rw [if_neg h, if_neg (by omega)]
def DividePost (c B g : Nat) (ss : List KS) (w : World) (e : Ending) (w' : World) : Prop :=
  (∃ v, e = .returned v) ∧ Below B w w' ∧ ∃ s : KS, s.row = timesU (W.gi (lf (kws ss) c c)) ((kws ss).getD c []) ∧ KX w' B g (ss.set c s)
set_option maxRecDepth 100000 in
set_option maxHeartbeats 2000000 in
theorem implDivide (n c B g cap : Nat) (ss : List KS) (w : World) (h : KX w B g ss) (hn : ss.length = n) (hr : ∀ i, i < n → ((kws ss).getD i []).length = n + n) (hc : c < n) (h8 : n ≤ 8) (hB : B ≤ w.heap.size) :
    Calls Tw.prog 86 #[.slice (some ⟨g, 0, none⟩) n cap, .int .i64 (c : Int)] w fun e w' => DividePost c B g ss w e w' := by
  obtain ⟨b, cp, q1, q2, q3, q4, q5, q6, d1, z1, q7, ev1⟩ := h.at (i := c) (by omega) (hr c hc)
  have hlen := hr c hc
  obtain ⟨d3, _⟩ := q7.2 c _ (ucs_get _ c (by omega))
  have hx : lf (kws ss) c c = ((kws ss).getD c []).getD c 0#8 := rfl
  have hfin := fun w' (hg : w.grownBy w' (some b)) (hcc : WCells w' b (ucs (timesU (W.gi (((kws ss).getD c []).getD c 0#8)) ((kws ss).getD c [])))) => h.setRow (by omega) q1 hg hcc (by rw [timesU_len, kws_at])
  have hinv := implInverse (((kws ss).getD c []).getD c 0#8)
  have HF : Shut (∀ (w' : World), w.grownBy w' (some b) → WCells w' b (ucs (timesU (W.gi (((kws ss).getD c []).getD c 0#8)) ((kws ss).getD c []))) → ∃ s : KS, s.row = timesU (W.gi (((kws ss).getD c []).getD c 0#8)) ((kws ss).getD c []) ∧ KX w' B g (ss.set c s)) := ⟨fun w' hg hcc => ⟨_, rfl, hfin w' hg hcc⟩⟩
  unfold DividePost
  rw [hx]
  generalize (kws ss).getD c [] = row at *
  generalize row.getD c 0#8 = x at *
  generalize W.gi x = y at *
  have HL : Hid (row.length = n + n) := hlen
  have HV := Shut.mk hinv
  have HW := Shut.mk q7
  have c0 : (0 : Int) ≤ (c : Int) := by omega
  have c1 : (c : Int) < (n : Int) := by omega
  have c2 : (c : Int) < (n : Int) + (n : Int) := by omega
  clear hinv q7 hfin hx h hn hr q1 q2 ev1 hlen z1
  go_enter Tw.func86, Tw.ntmps86
  go_wp2_with fail
  refine (HV.out _).mono ?_
  rintro e w1 ⟨rfl, rfl⟩
  go_wp2_with fail
  go_loopw [19] (fun i wr => ∃ k : Nat, i = .int .i64 k ∧ k ≤ n + n ∧ Shut (WCells wr b (ucs (timesK y row k))) ∧ Shut (w1.grownBy wr (some b))) (fun i _ => n + n - (intOf i).toNat)
  case atStart => exact ⟨0, rfl, Nat.zero_le _, ⟨by rw [timesK_0]; exact HW.out⟩, ⟨⟨rfl, rfl, rfl, Nat.le_refl _, fun _ _ _ => rfl⟩⟩⟩
  case round =>
    obtain ⟨k, rfl, hk, hw, hg⟩ := hrel
    by_cases hlt : k < n + n
    · have k0 : (0 : Int) ≤ (k : Int) := by omega
      have k1 : (k : Int) < (n : Int) + (n : Int) := by omega
      have hkx : k < row.length := by have := HL.out; omega
      obtain ⟨e0, z0⟩ := hw.out.2 k _ (ucs_get _ k (by rw [timesK_len]; exact hkx))
      rw [timesK_at hkx] at e0
      have hset := hw.out.set k (.int .u8 ((W.gm (row.getD k 0#8) y).toNat : Int)) (by rw [ucs_len, timesK_len]; exact hkx)
      rw [ucs_set, timesK_set hkx] at hset
      have ht := implTimes (row.getD k 0#8) y
      generalize row.getD k 0#8 = u at *
      generalize W.gm u y = z at *
      have HW2 := Shut.mk hset
      have HG2 := Shut.mk (gb_two' hg.out (gb_set' wr b k (.int .u8 (z.toNat : Int))))
      have HT := Shut.mk ht
      clear hset hw hg ht
      go_wp2_with fail
      refine (HT.out _).mono ?_
      rintro e w2 ⟨rfl, rfl⟩
      go_wp2_with fail
      go_roundw
      case rel => exact ⟨k + 1, by go_num, by omega, HW2, HG2⟩
      case measure => simp [intOf]; omega
    · have e : k = row.length := by have := HL.out; omega
      have hlt' : ¬ (k : Int) < (n : Int) + (n : Int) := by omega
      rw [e, timesK_all] at hw
      have HB := Shut.mk ((Below.refl B w1).grown hg.out hB (fun j hj => by cases hj; exact q3))
      clear e
      go_wp2_with fail
      go_returns
      exact ⟨⟨_, rfl⟩, HB.out, HF.out _ hg.out hw.out⟩
end Go.Proofs.YtbkimmbfepjodaaDoorT
/- The program's own clearOthers and solve. -/
namespace Go.Proofs.YtbkimmbfepjodaaDoorT
set_option maxRecDepth 100000
open Go.RowKit
open W (B8 Mx)
attribute [local go_sem ↓] Go.wp_at_zero Go.wp_at_succ
attribute [local irreducible] W.gm W.xs W.mm W.gi matOk

/-- Where the elimination stands: with the first c columns done, and of the next one i rows. -/
structure Solv (n c : Nat) (M : Mx) (w w' : World) (B g : Nat) (ss : List KS) : Prop where
  len : ss.length = n
  kx : KX w' B g ss
  pu : PuK n c M (kws ss)
  bel : Below B w w'
/-- A row, so many times, is added to another one. -/
theorem Solv.plus {n c i b cp : Nat} {M : Mx} {w w' W w9 : World} {B g : Nat} {ss : List KS} (h : Solv n c M w w' B g ss) (hB : B ≤ w'.heap.size) (hc : c < n) (hi : i < n) (hic : i ≠ c) (hd : ColDone n c i (lf (kws ss)))
    (hloc : (ss.getD i default).loc = some ⟨b, 0, none⟩) (hcp : (ss.getD i default).cap = cp) (hb : B ≤ b) (hW : Below w'.heap.size w' W) (hg : W.grownBy w9 (some b)) (hcell : WCells w9 b (ucs (plusU (((kws ss).getD i []).getD c 0#8) ((kws ss).getD i []) ((kws ss).getD c [])))) :
    Solv n c M w w9 B g (ss.set i ⟨some ⟨b, 0, none⟩, plusU (((kws ss).getD i []).getD c 0#8) ((kws ss).getD i []) ((kws ss).getD c []), cp⟩) ∧ ColDone n c (i + 1) (lf (kws (ss.set i ⟨some ⟨b, 0, none⟩, plusU (((kws ss).getD i []).getD c 0#8) ((kws ss).getD i []) ((kws ss).getD c []), cp⟩))) := by
  obtain ⟨p1, p2⟩ := h.pu.plus hc hi hic hd (t := ((kws ss).getD i []).getD c 0#8) rfl
  have hk := (h.kx.below hW).setRow (by rw [h.len]; exact hi) hloc hg hcell (by rw [plusU_len, kws_at])
  rw [hcp] at hk
  have e : kws (ss.set i ⟨some ⟨b, 0, none⟩, plusU (((kws ss).getD i []).getD c 0#8) ((kws ss).getD i []) ((kws ss).getD c []), cp⟩) = (kws ss).set i (plusU (((kws ss).getD i []).getD c 0#8) ((kws ss).getD i []) ((kws ss).getD c [])) := by rw [kws_set]
  rw [e]
  refine ⟨⟨by rw [List.length_set]; exact h.len, hk, by rw [e]; exact p1, ?_⟩, p2⟩
  exact (h.bel.trans (hW.mono hB)).grown hg (Nat.le_trans hB hW.size) (fun j hj => by cases hj; exact hb)
def ClearPost (n c : Nat) (M : Mx) (B g : Nat) (w : World) (e : Ending) (w' : World) : Prop := (∃ v, e = .returned v) ∧ ∃ ss, Solv n (c + 1) M w w' B g ss
set_option maxRecDepth 100000 in
set_option maxHeartbeats 4000000 in
theorem implClear (n c B g cap : Nat) (M : Mx) (ss : List KS) (w : World) (h : Solv n c M w w B g ss) (hd : ColDone n c 0 (lf (kws ss))) (hc : c < n) (h8 : n ≤ 8) (hB : B ≤ w.heap.size) :
    Calls Tw.prog 87 #[.slice (some ⟨g, 0, none⟩) n cap, .int .i64 (c : Int)] w fun e w' => ClearPost n c M B g w e w' := by
  have H0 := Shut.mk (And.intro h hd)
  clear h hd
  go_enter Tw.func87, Tw.ntmps87
  go_wp2_with fail
  go_loopw [8] (fun ii wr => ∃ (i : Nat) (ss : List KS), ii = .int .i64 i ∧ i ≤ n ∧ Shut (Solv n c M w wr B g ss ∧ ColDone n c i (lf (kws ss)))) (fun ii _ => n - (intOf ii).toNat)
  case atStart => exact ⟨0, ss, rfl, Nat.zero_le _, H0⟩
  case round =>
    clear H0
    obtain ⟨i, ss, rfl, hin, hS⟩ := hrel
    have hsw := hS.out.1.bel.size
    by_cases hlt : i < n
    · have hlt' : (i : Int) < (n : Int) := by omega
      have i0 : (0 : Int) ≤ (i : Int) := by omega
      have c0 : (0 : Int) ≤ (c : Int) := by omega
      have c1 : (c : Int) < (n : Int) := by omega
      have c2 : (c : Int) < (n : Int) + (n : Int) := by omega
      obtain ⟨b, cp, q1, q2, q3, q4, q5, q6, d1, z1, q7, ev1⟩ := hS.out.1.kx.at (i := i) (by rw [hS.out.1.len]; exact hlt) (hS.out.1.pu.row i hlt)
      by_cases hic : i = c
      · have e1 : ((i : Int) != (c : Int)) = false := by rw [hic]; simp
        have HN := Shut.mk (show Solv n c M w wr B g ss ∧ ColDone n c (i + 1) (lf (kws ss)) from ⟨hS.out.1, hS.out.2.skip (.inl hic)⟩)
        clear q1 q2 q7 ev1 z1 hS hic
        go_wp2_with fail
        exact ⟨⟨i + 1, ss, by go_num, by omega, HN⟩, by simp [intOf]; omega⟩
      · have e1 : ((i : Int) != (c : Int)) = true := by rw [bne_iff_ne]; omega
        obtain ⟨b', cp', r1, r2, r3, r4, r5, r6, d2, z2, r7, ev2⟩ := hS.out.1.kx.at (i := c) (by rw [hS.out.1.len]; exact hc) (hS.out.1.pu.row c hc)
        have hli := hS.out.1.pu.row i hlt
        have hlc := hS.out.1.pu.row c hc
        have hbb : b' ≠ b := fun e => hS.out.1.kx.ne (i := i) (j := c) (by rw [hS.out.1.len]; exact hlt) (by rw [hS.out.1.len]; exact hc) hic (by rw [q1, r1, e])
        obtain ⟨d3, _⟩ := q7.2 c _ (ucs_get _ c (by omega))
        have HPL := Shut.mk (fun (W w9 : World) (hW : Below wr.heap.size wr W) (hg : W.grownBy w9 (some b)) (hcell : WCells w9 b (ucs (plusU (((kws ss).getD i []).getD c 0#8) ((kws ss).getD i []) ((kws ss).getD c [])))) => hS.out.1.plus (by omega) hc hlt hic hS.out.2 q1 q2 q3 hW hg hcell)
        have HCA := Shut.mk (fun (W : World) (hW : Below wr.heap.size wr W) => implAddTimes (((kws ss).getD i []).getD c 0#8) ((kws ss).getD i []) ((kws ss).getD c []) b cp b' 0 cp' (n + n) W (q7.below hW q7.1) (fun j hj => by
          have := (r7.2 j _ (ucs_get _ j (by omega))).1
          rw [Nat.zero_add]
          exact (hW.cell (p := ⟨b', j, none⟩) r5).trans this) (by have := hW.size; omega) hbb hli (by omega))
        generalize ((kws ss).getD i []).getD c 0#8 = x at *
        clear q1 q2 r1 r2 q7 r7 ev1 ev2 z1 z2 hli hlc hS
        go_wp2_with fail
        go_region_with (go_at_call 91; refine (HCA.out _ ?_).mono ?_; (first | exact Below.refl _ _ | exact Below.drew (Below.refl _ _)); rintro e w9 ⟨⟨v9, rfl⟩, hc9, hg9⟩)
        all_goals go_wp2_with fail
        all_goals first
          | exact ⟨⟨i + 1, _, by go_num, by omega, ⟨HPL.out _ _ (Below.refl _ _) hg9 hc9⟩⟩, by simp [intOf]; omega⟩
          | exact ⟨⟨i + 1, _, by go_num, by omega, ⟨HPL.out _ _ (Below.drew (Below.refl _ _)) hg9 hc9⟩⟩, by simp [intOf]; omega⟩
    · have e : i = n := by omega
      have hlt' : ¬ (i : Int) < (n : Int) := by omega
      have HF : Shut (Solv n (c + 1) M w wr B g ss) := ⟨⟨hS.out.1.len, hS.out.1.kx, hS.out.1.pu.next (by have q := hS.out.2; rw [e] at q; exact q), hS.out.1.bel⟩⟩
      clear e hS
      go_wp2_with fail
      go_returns
      exact ⟨⟨_, rfl⟩, ss, HF.out⟩
def SolvePost (n : Nat) (X : List (List Int)) (B g : Nat) (w : World) (e : Ending) (w' : World) : Prop :=
  Below B w w' ∧ ((e = .returned (.bool true) ∧ ∃ ss, Solv n n (mx X) w w' B g ss) ∨ (e = .returned (.bool false) ∧ ¬ ∃ Y, IsInv X Y))
theorem Solv.shift {n c : Nat} {M : Mx} {w w1 w2 : World} {B g : Nat} {ss : List KS} (h : Solv n c M w1 w2 B g ss) (hb : Below B w w1) : Solv n c M w w2 B g ss := ⟨h.len, h.kx, h.pu, hb.trans h.bel⟩
set_option maxRecDepth 100000 in
set_option maxHeartbeats 4000000 in
theorem implSolve (n B g cap : Nat) (X : List (List Int)) (ss : List KS) (w : World) (h : Solv n 0 (mx X) w w B g ss) (hX : X.length = n) (h8 : n ≤ 8) (hB : B ≤ w.heap.size) :
    Calls Tw.prog 73 #[.slice (some ⟨g, 0, none⟩) n cap] w fun e w' => SolvePost n X B g w e w' := by
  have H0 := Shut.mk h
  have HX : Hid (X.length = n) := hX
  clear h hX
  go_enter Tw.func73, Tw.ntmps73
  go_wp2_with fail
  go_loopw [6] (fun ii wr => ∃ (c : Nat) (ss : List KS), ii = .int .i64 c ∧ c ≤ n ∧ Shut (Solv n c (mx X) w wr B g ss)) (fun ii _ => n - (intOf ii).toNat)
  case atStart => exact ⟨0, ss, rfl, Nat.zero_le _, H0⟩
  case round =>
    clear H0
    obtain ⟨c, ss, rfl, hcn, hS⟩ := hrel
    have hsw := hS.out.bel.size
    by_cases hlt : c < n
    · have hlt' : (c : Int) < (n : Int) := by omega
      have c0 : (0 : Int) ≤ (c : Int) := by omega
      have HL := Shut.mk (implLift n c B g cap ss wr hS.out.kx hS.out.len hS.out.pu.row hlt h8)
      go_wp2_with fail
      refine HL.out.mono ?_
      rintro e w1 ⟨hb1, ⟨p, hp1, hp2, hp3, rfl, hk1⟩ | ⟨rfl, hz, hk1⟩⟩
      · have HS1 := Shut.mk (show Solv n c (mx X) w w1 B g (swapK p c ss) from ⟨by rw [swapK_len]; exact hS.out.len, hk1, by rw [kws_swap]; exact hS.out.pu.swap hlt hp2 hp1, hS.out.bel.trans hb1⟩)
        have HNZ : Shut (lf (kws (swapK p c ss)) c c ≠ 0#8) := ⟨by rw [kws_swap, hS.out.pu.swap_c hlt hp2]; exact hp3⟩
        have hs1 := hb1.size
        have HD := Shut.mk (implDivide n c B g cap (swapK p c ss) w1 HS1.out.kx HS1.out.len HS1.out.pu.row hlt h8 (by omega))
        clear hb1 hk1 hp3 HL hS
        go_wp2_with fail
        refine HD.out.mono ?_
        rintro e w2 ⟨⟨v2, rfl⟩, hb2, s2, hs2, hk2⟩
        have hp := HS1.out.pu.times hlt rfl HNZ.out
        rw [← hs2, ← kws_set] at hp
        have HS2 := Shut.mk (show Solv n c (mx X) w2 w2 B g ((swapK p c ss).set c s2) ∧ ColDone n c 0 (lf (kws ((swapK p c ss).set c s2))) from ⟨⟨by rw [List.length_set]; exact HS1.out.len, hk2, hp.1, Below.refl _ _⟩, hp.2⟩)
        have HB2 := Shut.mk (HS1.out.bel.trans hb2)
        have hsz2 := hb2.size
        have HC := Shut.mk (implClear n c B g cap (mx X) _ w2 HS2.out.1 HS2.out.2 hlt h8 (by omega))
        clear hb2 hs2 hk2 hp HD HS1
        go_wp2_with fail
        refine HC.out.mono ?_
        rintro e w3 ⟨⟨v3, rfl⟩, ss3, hs3⟩
        have HS3 := Shut.mk (hs3.shift HB2.out)
        clear hs3 HC
        go_wp2_with fail
        go_roundw
        case rel => exact ⟨c + 1, ss3, by go_num, by omega, HS3⟩
        case measure => simp [intOf]; omega
      · have HNO := Shut.mk (hS.out.pu.none HX.out hlt hz)
        have HB1 := Shut.mk (hS.out.bel.trans hb1)
        clear hb1 hk1 hz HL hS
        go_wp2_with fail
        go_ret
        exact ⟨HB1.out, .inr ⟨rfl, HNO.out⟩⟩
    · have e : c = n := by omega
      have hlt' : ¬ (c : Int) < (n : Int) := by omega
      have HF : Shut (Solv n n (mx X) w wr B g ss) := ⟨by have q := hS.out; rw [e] at q; exact q⟩
      clear e hS
      go_wp2_with fail
      go_ret
      exact ⟨HF.out.bel, .inl ⟨rfl, ss, HF.out⟩⟩
end Go.Proofs.YtbkimmbfepjodaaDoorT
/- The program's own beside and from. -/
namespace Go.Proofs.YtbkimmbfepjodaaDoorT
set_option maxRecDepth 100000
open Go.RowKit
open W (B8 Mx)
attribute [local go_sem ↓] Go.wp_at_zero Go.wp_at_succ
attribute [local irreducible] W.gm W.xs W.mm W.gi matOk

theorem news_u {w : World} {b o n : Nat} {r : List B8} (hl : r.length = n) (h : ∀ j, j < n → w.cell? ⟨b, o + j, none⟩ = some (.int .u8 ((r.getD j 0#8).toNat : Int))) : ∀ j u, (ucs r)[j]? = some u → w.cell? ((⟨b, o, none⟩ : Addr).add j) = some u := by
  intro j u hj
  have hj' : j < r.length := by have := (List.getElem?_eq_some_iff.1 hj).1; rwa [ucs_len] at this
  rw [ucs_get r j hj'] at hj
  cases hj
  have e : (⟨b, o, none⟩ : Addr).add j = ⟨b, o + j, none⟩ := by cases j <;> simp [Addr.add]
  rw [e]; exact h j (by omega)
theorem one_u (r : List B8) : ∀ u ∈ ucs r, u.oneCell' = true := fun u hu => by
  obtain ⟨x, _, rfl⟩ := List.mem_map.1 hu
  rfl
set_option maxRecDepth 100000 in
set_option maxHeartbeats 4000000 in
theorem implBeside (K L : List (List B8)) (b1 o1 c1 b2 o2 c2 n : Nat) (w : World) (h1 : KAt w b1 o1 K n) (h2 : KAt w b2 o2 L n) (hK : K.length = n) (hL : L.length = n) (rK : ∀ i, i < n → (K.getD i []).length = n) (rL : ∀ i, i < n → (L.getD i []).length = n) (hn1 : 1 ≤ n) (hn8 : n ≤ 8) :
    Calls Tw.prog 72 #[.slice (some ⟨b1, o1, none⟩) n c1, .slice (some ⟨b2, o2, none⟩) n c2] w fun e w' => KPost (besideU K L) w e w' := by
  obtain ⟨i0, hi0, hz0, hz1, hz2⟩ := info_parts infoRowB
  obtain ⟨i1, hi1, hy0, hy1, hy2⟩ := info_parts infoB
  have H1 := Shut.mk h1
  have H2 := Shut.mk h2
  have HK := Shut.mk (And.intro hK hL)
  have HR := Shut.mk (And.intro rK rL)
  clear h1 h2 hK hL rK rL
  go_enter Tw.func72, Tw.ntmps72
  go_wp2_with fail
  go_loopw [5, 10] (fun v i wr => ∃ (ts : List KS) (vv : Value), vv = v ∧ i = .int .i64 (ts.length : Nat) ∧ ts.length ≤ n ∧ Shut (kws ts = (besideU K L).take ts.length) ∧ Shut (KI w wr vv ts)) (fun _ i _ => n - (intOf i).toNat)
  case atStart => exact ⟨[], _, rfl, rfl, by simp, ⟨rfl⟩, ⟨KI.start w (World.ownsRow_nil _ _ _ _) (Below.refl _ _)⟩⟩
  case round =>
    obtain ⟨ts, v, rfl, rfl, hk, hrw, hbi⟩ := hrel
    obtain ⟨wo, rfl⟩ : ∃ wo, wo = wr := ⟨_, rfl⟩
    obtain ⟨i, hie⟩ : ∃ i, i = ts.length := ⟨_, rfl⟩
    have HI : Hid (i = ts.length) := hie
    rw [← hie] at hk ⊢
    clear hie
    by_cases hlt : i < n
    · have hlt' : (i : Int) < (n : Int) := by omega
      have k0 : (0 : Int) ≤ (i : Int) := by omega
      have hsz := hbi.out.bel.size
      have hbw := hbi.out.bel
      obtain ⟨lb1, q1⟩ := H1.out.below hbw
      obtain ⟨lb2, q2⟩ := H2.out.below hbw
      obtain ⟨b1', o1', cp1, l1', d1, e1⟩ := q1 i (by rw [HK.out.1]; exact hlt)
      obtain ⟨b2', o2', cp2, l2', d2, e2⟩ := q2 i (by rw [HK.out.2]; exact hlt)
      have hl1 := HR.out.1 i hlt
      have hl2 := HR.out.2 i hlt
      have HST := Shut.mk (show (besideU K L).take (i + 1) = (besideU K L).take i ++ [K.getD i [] ++ L.getD i []] by
        have hi2 : i < (besideU K L).length := by rw [besideU_len, HK.out.1]; exact hlt
        rw [List.take_succ_eq_append_getElem hi2]
        have : (besideU K L)[i] = (besideU K L).getD i [] := by simp [List.getD, hi2]
        rw [this, besideU_at (by rw [HK.out.1]; exact hlt)])
      generalize K.getD i [] = r1 at *
      generalize L.getD i [] = r2 at *
      have HE1 := Shut.mk (news_u hl1 e1)
      have HE2 := Shut.mk e2
      have HL1 : Hid (r1.length = n) := hl1
      have HL2 : Hid (r2.length = n) := hl2
      clear q1 q2 e1 e2 hbw hl1 hl2
      go_wp2_with (at_builtin; refine wpList_append_own _ rfl _ _ 105 rfl wo.heap.size 90 i1 (.int .u8 0) 1 1 Tw.underlying105 hi1 hy0 hy1 hy2 rfl (by decide) _ 0 [] rfl (World.ownsRow_nil _ _ _ _) ⟨b1', o1', none⟩ n cp1 (ucs r1) rfl ?c1 HE1.out (one_u r1) ?c3 ?c4 ?c5 ?_)
      case c1 => rw [ucs_len, Nat.mul_one]; exact HL1.out
      case c3 => unfold maxLen; omega
      case c4 => omega
      case c5 => exact Nat.le_refl _
      intro v1 w1 hown1 hg1 _
      have hb1 : Below wo.heap.size wo w1 := (Below.refl _ _).grown hg1 (Nat.le_refl _) (fun j hj => by cases hj)
      have hs1 := hb1.size
      have d3 := (hb1.cell (p := ⟨b2, o2 + i, none⟩) lb2).trans d2
      have HE3 := Shut.mk (news_u (w := w1) (b := b2') (o := o2') HL2.out (fun j hj => (hb1.cell (p := ⟨b2', o2' + j, none⟩) l2').trans (HE2.out j hj)))
      have HB1 := Shut.mk hb1
      clear hg1 hb1 HE2 HE1
      go_wp2_with (at_builtin; refine wpList_append_own _ rfl _ _ 105 rfl wo.heap.size 90 i1 (.int .u8 0) 1 1 Tw.underlying105 hi1 hy0 hy1 hy2 rfl (by decide) _ n (ucs r1) rfl hown1 ⟨b2', o2', none⟩ n cp2 (ucs r2) rfl ?c1 HE3.out (one_u r2) ?c3 ?c4 ?c5 ?_)
      case c1 => rw [ucs_len, Nat.mul_one]; exact HL2.out
      case c3 => unfold maxLen; omega
      case c4 => omega
      case c5 => exact hs1
      intro v2 w2 hown2 hg2 _
      rw [show ucs r1 ++ ucs r2 = ucs (r1 ++ r2) by simp [ucs]] at hown2
      obtain ⟨gr, cr, rfl, hcr⟩ := own_at hown2 (by omega)
      have hgr := hown2.lt gr rfl
      have HROW := Shut.mk (own_wcells hown2)
      have hbq : Below wo.heap.size wo w2 := HB1.out.grown hg2 hs1 (fun j hj => (hown1.lt j hj).1)
      have HBI := Shut.mk (hbi.out.newrow hbq hgr.1)
      have hsi : wo.heap.size ≤ w2.heap.size := hbq.size
      have hgr1 := hgr.1
      have hown := HBI.out.1.own
      clear hown2 hbq hbi hgr hown1 hg2 HB1 d3 HE3
      go_wp2_with (at_builtin; refine wpList_append_own _ rfl _ _ 86 rfl w.heap.size 105 i0 (.slice none 0 0) 1 24 Tw.underlying86 hi0 hz0 hz1 hz2 rfl (by decide) _ _ _ rfl (hown.alloc _) ⟨w2.heap.size, 0, none⟩ 1 1 [.slice (some ⟨gr, 0, none⟩) (n + n) cr] rfl rfl (cell_one_new _ _ _) ?c2 ?c3 ?c4 ?c5 ?_)
      case c2 => first | rfl | (intro u hu; simp at hu; subst hu; rfl)
      case c3 => unfold maxLen; have := HI.out; omega
      case c4 => have := HI.out; omega
      case c5 => first | omega | (simp; omega)
      intro v' w6 hown' hgrow _
      have hlen : (r1 ++ r2).length = n + n := by rw [List.length_append, HL1.out, HL2.out]
      have hne : r1 ++ r2 ≠ [] := fun e => by rw [e] at hlen; simp at hlen; omega
      have hap := HBI.out.1.append (cap := cr) (by omega) HROW.out hne (by rw [hlen]; exact hcr) HBI.out.2.1 HBI.out.2.2 (by rw [hlen]; exact hown') hgrow
      have HAP := Shut.mk hap
      have HR2 : Shut (kws (ts ++ [KS.mk (some ⟨gr, 0, none⟩) (r1 ++ r2) cr]) = (besideU K L).take (i + 1)) := ⟨by rw [kws_snoc, hrw.out, HST.out, HI.out]⟩
      clear hap hown' hgrow hown HBI HROW hrw hlen hne
      go_wp2_with fail
      go_roundw
      case rel => exact ⟨_, v', rfl, by rw [List.length_append, List.length_singleton, ← HI.out]; go_num, by rw [List.length_append, List.length_singleton, ← HI.out]; omega, ⟨by rw [List.length_append, List.length_singleton, ← HI.out]; exact HR2.out⟩, HAP⟩
      case measure => simp [intOf]; omega
    · have e : i = n := by omega
      have hlt' : ¬ (i : Int) < (n : Int) := by omega
      have HF := Shut.mk (hbi.out.fin (X := besideU K L) (by
        rw [hrw.out, List.take_of_length_le (by rw [besideU_len, HK.out.1, ← HI.out]; omega)]))
      have HB := Shut.mk hbi.out.bel
      clear e hbi hrw
      go_wp2_with fail
      go_ret
      exact ⟨v, rfl, HF.out, HB.out⟩
/-- Where the making of the right halves stands. -/
structure HI2 (w wr : World) (v : Value) (ts : List KS) : Prop where
  own : wr.ownsRow w.heap.size 105 1 v ts.length (kvs ts)
  rows : ∀ s ∈ ts, RRow w s.loc (ucs s.row) 0 w.heap.size
  bel : Below w.heap.size w wr
def FromPost (K : List (List B8)) (w : World) (e : Ending) (w' : World) : Prop := ∃ v, e = .returned v ∧ KSee w' v K 0 w'.heap.size ∧ Below w.heap.size w w'
theorem HI2.fin {w wr : World} {v : Value} {ts : List KS} {K : List (List B8)} (h : HI2 w wr v ts) (hK : kws ts = K) (hp : 0 < ts.length) : KSee wr v K 0 wr.heap.size := by
  obtain ⟨g, cap, e, hc⟩ := own_at h.own hp
  have hown := h.own
  rw [e] at hown
  have hs := h.bel.size
  refine ⟨_, cap, ts, e, hK, RRow.of_wcells (own_wcells hown) (Nat.zero_le _) (own_wcells hown).1, fun s hs' => ?_⟩
  exact ((h.rows s hs').below h.bel).wide (Nat.le_refl _) hs
set_option maxRecDepth 100000 in
set_option maxHeartbeats 4000000 in
theorem implFrom (n B g cap : Nat) (ss : List KS) (w : World) (h : KX w B g ss) (hn : ss.length = n) (hr : ∀ i, i < n → ((kws ss).getD i []).length = n + n) (hn1 : 1 ≤ n) (h8 : n ≤ 8) :
    Calls Tw.prog 74 #[.slice (some ⟨g, 0, none⟩) n cap, .int .i64 (n : Int)] w fun e w' => FromPost (halfU n (kws ss)) w e w' := by
  obtain ⟨i0, hi0, hz0, hz1, hz2⟩ := info_parts infoRowB
  have HH := Shut.mk h
  have HN : Hid (ss.length = n) := hn
  have HR := Shut.mk hr
  clear h hn hr
  go_enter Tw.func74, Tw.ntmps74
  go_wp2_with fail
  go_loopw [5, 10] (fun v i wr => ∃ (ts : List KS) (vv : Value), vv = v ∧ i = .int .i64 (ts.length : Nat) ∧ ts.length ≤ n ∧ Shut (kws ts = (halfU n (kws ss)).take ts.length) ∧ Shut (HI2 w wr vv ts)) (fun _ i _ => n - (intOf i).toNat)
  case atStart => exact ⟨[], _, rfl, rfl, by simp, ⟨rfl⟩, ⟨⟨World.ownsRow_nil _ _ _ _, by simp, Below.refl _ _⟩⟩⟩
  case round =>
    obtain ⟨ts, v, rfl, rfl, hk, hrw, hbi⟩ := hrel
    obtain ⟨wo, rfl⟩ : ∃ wo, wo = wr := ⟨_, rfl⟩
    obtain ⟨i, hie⟩ : ∃ i, i = ts.length := ⟨_, rfl⟩
    have HI : Hid (i = ts.length) := hie
    rw [← hie] at hk ⊢
    clear hie
    by_cases hlt : i < n
    · have hlt' : (i : Int) < (n : Int) := by omega
      have k0 : (0 : Int) ≤ (i : Int) := by omega
      have hsz := hbi.out.bel.size
      obtain ⟨b, cp, q1, q2, q3, q4, q5, q6, d1, z1, q7, ev1⟩ := HH.out.at (i := i) (by have := HN.out; omega) (HR.out i hlt)
      have hgl := HH.out.out.1
      have d2 := (hbi.out.bel.cell (p := ⟨g, i, none⟩) hgl).trans d1
      have hlen := HR.out i hlt
      have HST := Shut.mk (show (halfU n (kws ss)).take (i + 1) = (halfU n (kws ss)).take i ++ [((kws ss).getD i []).drop n] by
        have hi3 : i < (kws ss).length := by rw [kws_len]; have := HN.out; omega
        have hi2 : i < (halfU n (kws ss)).length := by unfold halfU; rw [List.length_map]; exact hi3
        rw [List.take_succ_eq_append_getElem hi2]
        simp [halfU, List.getD, hi3])
      generalize (kws ss).getD i [] = r at *
      have HQ7 := Shut.mk q7
      have HLN : Hid (r.length = n + n) := hlen
      have hown := hbi.out.own
      have n0 : (0 : Int) ≤ (n : Int) := by omega
      have n2 : (n : Int) ≤ (n : Int) + (n : Int) := by omega
      have n3 : (n : Int) + (n : Int) ≤ (cp : Int) := by omega
      clear q1 q2 q7 ev1 z1 hlen d1
      go_wp2_with (at_builtin; refine wpList_append_own _ rfl _ _ 86 rfl w.heap.size 105 i0 (.slice none 0 0) 1 24 Tw.underlying86 hi0 hz0 hz1 hz2 rfl (by decide) _ _ _ rfl (hown.alloc _) ⟨wo.heap.size, 0, none⟩ 1 1 [.slice (some ⟨b, n, none⟩) n (cp - n)] rfl rfl (cell_one_new _ _ _) ?c2 ?c3 ?c4 ?c5 ?_)
      case c2 => first | rfl | (intro u hu; simp at hu; subst hu; rfl)
      case c3 => unfold maxLen; have := HI.out; omega
      case c4 => have := HI.out; omega
      case c5 => first | omega | (simp; omega)
      intro v' w6 hown' hgrow _
      have hdl : (r.drop n).length = n := by rw [List.length_drop, HLN.out]; omega
      have hap : HI2 w w6 v' (ts ++ [KS.mk (some ⟨b, n, none⟩) (r.drop n) (cp - n)]) := by
        refine ⟨?_, fun s hs => ?_, (hbi.out.bel.alloc hsz (.cells #[.slice (some ⟨b, n, none⟩) n (cp - n)] 105)).grown hgrow (by simp; omega) (fun j hj => (hown.lt j hj).1)⟩
        · have e : kvs (ts ++ [KS.mk (some ⟨b, n, none⟩) (r.drop n) (cp - n)]) = kvs ts ++ [.slice (some ⟨b, n, none⟩) n (cp - n)] := by simp only [kvs, List.map_append, List.map_cons, List.map_nil, ksv, hdl]
          rw [e, List.length_append]
          exact hown'
        · rcases List.mem_append.1 hs with h1 | h1
          · exact hbi.out.rows s h1
          · simp at h1
            subst h1
            intro _
            refine ⟨b, n, rfl, Nat.zero_le _, q5, q5, fun j u hj => ?_⟩
            have hj' : j < (r.drop n).length := by have := (List.getElem?_eq_some_iff.1 hj).1; rwa [ucs_len] at this
            rw [ucs_get _ j hj'] at hj
            have := (HQ7.out.2 (n + j) _ (ucs_get r (n + j) (by have := HLN.out; omega))).1
            rw [this, ← hj]
            simp [List.getD]
      have HAP := Shut.mk hap
      have HR2 : Shut (kws (ts ++ [KS.mk (some ⟨b, n, none⟩) (r.drop n) (cp - n)]) = (halfU n (kws ss)).take (i + 1)) := ⟨by rw [kws_snoc, hrw.out, HST.out, HI.out]⟩
      clear hap hown' hgrow hown hbi hrw hdl
      go_wp2_with fail
      go_roundw
      case rel => exact ⟨_, v', rfl, by rw [List.length_append, List.length_singleton, ← HI.out]; go_num, by rw [List.length_append, List.length_singleton, ← HI.out]; omega, ⟨by rw [List.length_append, List.length_singleton, ← HI.out]; exact HR2.out⟩, HAP⟩
      case measure => simp [intOf]; omega
    · have e : i = n := by omega
      have hlt' : ¬ (i : Int) < (n : Int) := by omega
      have HF := Shut.mk (hbi.out.fin (K := halfU n (kws ss)) (by
        rw [hrw.out, List.take_of_length_le (by unfold halfU; rw [List.length_map, kws_len, ← HI.out]; have := HN.out; omega)]) (by have := HI.out; omega))
      have HB := Shut.mk hbi.out.bel
      clear e hbi hrw
      go_wp2_with fail
      go_ret
      exact ⟨v, rfl, HF.out, HB.out⟩
end Go.Proofs.YtbkimmbfepjodaaDoorT
/- The program's own InvM. -/
namespace Go.Proofs.YtbkimmbfepjodaaDoorT
set_option maxRecDepth 100000
open Go.RowKit
open W (B8 Mx)
attribute [local go_sem ↓] Go.wp_at_zero Go.wp_at_succ
attribute [local irreducible] W.gm W.xs W.mm W.gi matOk invX

def InverseP (n : Nat) (X : List (List Int)) (w : World) (e : Ending) (w' : World) : Prop :=
  Below w.heap.size w w' ∧ ((∃ v K, e = .returned (.tuple #[v, .bool true]) ∧ KSee w' v (halfU n K) 0 w'.heap.size ∧ PuK n n (mx X) K) ∨ (e = .returned (.tuple #[.slice none 0 0, .bool false]) ∧ ¬ ∃ Y, IsInv X Y))
theorem toBs_row {X : List (List Int)} (h : matOk X = true) {i : Nat} (hi : i < X.length) : ((toBs X).getD i []).length = colsOf X := by
  have hi' : i < (toBs X).length := by rw [toBs_len]; exact hi
  have e : (toBs X).getD i [] = (toBs X)[i] := by simp [List.getD, hi']
  rw [e]
  exact toBs_rows h _ (List.getElem_mem hi')
theorem solv_start {n : Nat} {X : List (List Int)} {w : World} {v : Value} {lo hi : Nat} (h : KAns w v (besideU (toBs X) (onesU 1#8 n)) lo hi) (hX : matOk X = true) (hn : X.length = n) (hc : colsOf X = n) (hp : 1 ≤ n) : ∃ g cap ss, v = .slice (some ⟨g, 0, none⟩) n cap ∧ Solv n 0 (mx X) w w lo g ss := by
  obtain ⟨a, cap, ss, rfl, hr, _, q⟩ := h
  have hl : ss.length = n := by rw [← kws_len, hr, besideU_len, toBs_len]; exact hn
  rcases q with rfl | ⟨g, rfl, hm⟩
  · simp at hl; omega
  · refine ⟨g, cap, ss, by rw [hl], hl, hm.kx, ?_, Below.refl _ _⟩
    rw [hr, ← lf_toBs]
    exact PuK.start (by rw [toBs_len]; exact hn) (fun i hi => by rw [toBs_row hX (by omega)]; exact hc)
set_option maxRecDepth 100000 in
set_option maxHeartbeats 4000000 in
theorem implInverseM (n b1 o1 c1 : Nat) (X : List (List Int)) (w : World) (h1 : KAt w b1 o1 (toBs X) n) (hX : matOk X = true) (hn : X.length = n) (hc : colsOf X = n) (hn1 : 1 ≤ n) (hn8 : n ≤ 8) :
    Calls Tw.prog 56 #[.slice (some ⟨b1, o1, none⟩) n c1, .int .u8 1] w fun e w' => InverseP n X w e w' := by
  have H1 := Shut.mk h1
  have HX := Shut.mk (And.intro hX (And.intro hn hc))
  have HC := Shut.mk (fun W => implOnes 1#8 n W hn1 hn8)
  clear h1 hX hn hc
  go_enter Tw.func56, Tw.ntmps56
  go_wp2_with fail
  refine (HC.out _).mono ?_
  rintro e w1 ⟨v1, rfl, ha1, hb1⟩
  obtain ⟨b2, o2, c2, rfl, k2⟩ := ha1.see.kat (m := n) (by simp [onesU]; omega) (fun r hr => by obtain ⟨i, _, rfl⟩ := List.mem_map.1 hr; exact oneU_len _ _ _) (by omega)
  have HB1 := Shut.mk hb1
  have HC2 := Shut.mk (implBeside (toBs X) (onesU 1#8 n) b1 o1 c1 b2 o2 c2 n w1 (H1.out.below hb1) k2 (by rw [toBs_len]; exact HX.out.2.1) (by simp [onesU]) (fun i hi => by rw [toBs_row HX.out.1 (by rw [HX.out.2.1]; exact hi)]; exact HX.out.2.2) (fun i hi => by rw [onesU_at hi, oneU_len]) hn1 hn8)
  rw [show (onesU 1#8 n).length = n by simp [onesU]]
  clear ha1 hb1 k2 HC
  go_wp2_with fail
  refine HC2.out.mono ?_
  rintro e w2 ⟨v2, rfl, ha2, hb2⟩
  obtain ⟨g, cap, ss, rfl, hS⟩ := solv_start ha2 HX.out.1 HX.out.2.1 HX.out.2.2 hn1
  have hs2 := hb2.size
  have hs1 := HB1.out.size
  have HB2 := Shut.mk (HB1.out.trans (hb2.mono hs1))
  have HC3 := Shut.mk (implSolve n w1.heap.size g cap X ss w2 hS HX.out.2.1 hn8 hs2)
  clear ha2 hb2 HC2 hS
  go_wp2_with fail
  refine HC3.out.mono ?_
  rintro e w3 ⟨hb3, ⟨rfl, ss3, hS3⟩ | ⟨rfl, hno⟩⟩
  · have HB3 := Shut.mk (HB2.out.trans (hb3.mono hs1))
    have HC4 := Shut.mk (implFrom n w1.heap.size g cap ss3 w3 hS3.kx hS3.len hS3.pu.row hn1 hn8)
    have HP := Shut.mk hS3.pu
    clear hb3 hS3 HC3
    go_wp2_with fail
    refine HC4.out.mono ?_
    rintro e w4 ⟨v4, rfl, hk4, hb4⟩
    have HR := Shut.mk (show InverseP n X w (.returned (.tuple #[v4, .bool true])) w4 from ⟨HB3.out.trans (hb4.mono HB3.out.size), .inl ⟨v4, _, rfl, hk4, HP.out⟩⟩)
    clear hk4 hb4 HC4
    go_wp2_with fail
    go_ret2
    exact HR.out
  · have HB3 := Shut.mk (HB2.out.trans (hb3.mono hs1))
    have HNO := Shut.mk hno
    clear hb3 hno HC3
    go_wp2_with fail
    go_ret2
    exact ⟨HB3.out, .inr ⟨rfl, HNO.out⟩⟩
set_option maxRecDepth 100000 in
set_option maxHeartbeats 4000000 in
theorem implInvM (w : World) (v : Value) (X : List (List Int)) (lo hi : Nat) (hv : MSee w v X lo hi) (fX : MFit X) :
    Calls Tw.prog 34 #[v] w fun e w' => InvPost X w e w' := by
  have H1 := Shut.mk (implMatrixOk w v X lo hi hv fX)
  have HV := Shut.mk hv
  by_cases hX : matOk X = true
  · rw [hX] at H1
    obtain ⟨b, off, cap, loc, cp, rfl, lb, d⟩ := hv.head hX
    obtain ⟨⟨x1, x2⟩, ⟨x3, x4⟩, _⟩ := matOk_iff hX
    have n0 : (0 : Int) < (X.length : Int) := by omega
    have D := Shut.mk d
    by_cases hcol : colsOf X = X.length
    · have HOK := Shut.mk (And.intro hX hcol)
      rw [hcol] at D
      have e1 : ((X.length : Int) != (X.length : Int)) = false := by simp
      clear hv fX d hX hcol
      go_enter Tw.func34, Tw.ntmps34
      go_wp2_with fail
      refine H1.out.mono ?_
      rintro e w1 ⟨rfl, hb1⟩
      have HB1 := Shut.mk hb1
      have d1 := (hb1.cell (p := ⟨b, off, none⟩) lb).trans D.out
      have HC1 := Shut.mk (implMatrixOf w1 _ X lo hi (HV.out.below hb1) (matOk_ne HOK.out.1).1 (matOk_ne HOK.out.1).2)
      clear hb1
      go_wp2_with fail
      refine HC1.out.mono ?_
      rintro e w2 ⟨v2, rfl, ha2, hb2⟩
      obtain ⟨b2, o2, c2, rfl, k2⟩ := ha2.see.kat (by rw [toBs_len]; omega) (toBs_rows HOK.out.1) (by omega)
      have HB2 := Shut.mk (HB1.out.trans (hb2.mono HB1.out.size))
      have HC2 := Shut.mk (implInverseM X.length b2 o2 c2 X w2 (by rw [← HOK.out.2]; exact k2) HOK.out.1 rfl HOK.out.2 x1 x2)
      rw [toBs_len]
      clear ha2 hb2 k2 HC1 d1
      go_wp2_with fail
      refine HC2.out.mono ?_
      rintro e w3 ⟨hb3, ⟨v3, K, rfl, hk3, hp3⟩ | ⟨rfl, hno⟩⟩
      · have HB3 := Shut.mk (HB2.out.trans (hb3.mono HB2.out.size))
        have hinv := hp3.done HOK.out.1 rfl HOK.out.2
        have HINV := Shut.mk (invX_yes hinv)
        have hlK := hp3.len
        have HC3 := Shut.mk (implIntsOf w3 v3 (halfU X.length K) _ _ hk3 (fun r hr => by
          obtain ⟨r', hr', rfl⟩ := List.mem_map.1 hr
          obtain ⟨i, hi, rfl⟩ := List.mem_iff_getElem.1 hr'
          have e : K.getD i [] = K[i] := by simp [List.getD, hi]
          have := hp3.row i (by omega)
          rw [e] at this
          have hl : (K[i].drop X.length).length = X.length := by rw [List.length_drop, this]; omega
          exact ⟨fun e => by rw [e] at hl; simp at hl; omega, by omega⟩) (by unfold halfU; rw [List.length_map]; omega))
        clear hb3 hk3 hp3 hinv HC2 hlK
        go_wp2_with fail
        refine HC3.out.mono ?_
        rintro e w4 ⟨v4, rfl, ha4, hb4⟩
        have HR := Shut.mk (show InvPost X w (.returned (.tuple #[v4, .bool true])) w4 from ⟨v4, by rw [HINV.out], by rw [HINV.out]; exact ha4.broad HB3.out.size (Nat.le_refl _), HB3.out.trans (hb4.mono HB3.out.size)⟩)
        clear ha4 hb4 HC3
        go_wp2_with fail
        go_ret2
        exact HR.out
      · have HB3 := Shut.mk (HB2.out.trans (hb3.mono HB2.out.size))
        have HINV := Shut.mk (invX_no hno)
        have HC3 := Shut.mk (implIntsOf w3 (.slice none 0 0) [] 0 0 ⟨none, 0, [], rfl, rfl, KR.nil _ _ _ _⟩ (fun r hr => by simp at hr) (by simp))
        clear hb3 hno HC2
        go_wp2_with fail
        refine HC3.out.mono ?_
        rintro e w4 ⟨v4, rfl, ha4, hb4⟩
        have HR := Shut.mk (show InvPost X w (.returned (.tuple #[v4, .bool false])) w4 from ⟨v4, by rw [HINV.out], by rw [HINV.out]; exact ha4.broad HB3.out.size (Nat.le_refl _), HB3.out.trans (hb4.mono HB3.out.size)⟩)
        clear ha4 hb4 HC3
        go_wp2_with fail
        go_ret2
        exact HR.out
    · have HINV := Shut.mk (invX_no (X := X) (fun ⟨_, h⟩ => hcol h.2.1))
      have e1 : ((X.length : Int) != (colsOf X : Int)) = true := by rw [bne_iff_ne]; omega
      obtain ⟨c, hc⟩ : ∃ c, c = colsOf X := ⟨_, rfl⟩
      rw [← hc] at D e1
      clear hv fX d hX hcol hc
      go_enter Tw.func34, Tw.ntmps34
      go_wp2_with fail
      refine H1.out.mono ?_
      rintro e w1 ⟨rfl, hb1⟩
      have HB1 := Shut.mk hb1
      have d1 := (hb1.cell (p := ⟨b, off, none⟩) lb).trans D.out
      clear hb1
      go_wp2_with fail
      go_ret2
      exact invPost_no HINV.out rfl HB1.out
  · have hX' : matOk X = false := by simpa using hX
    rw [hX'] at H1
    have HINV := Shut.mk (invX_no (X := X) (fun ⟨_, h⟩ => hX h.1))
    clear hv fX hX hX'
    go_enter Tw.func34, Tw.ntmps34
    go_wp2_with fail
    refine H1.out.mono ?_
    rintro e w1 ⟨rfl, hb1⟩
    have HB1 := Shut.mk hb1
    clear hb1
    go_wp2_with fail
    go_ret2
    exact invPost_no HINV.out rfl HB1.out
end Go.Proofs.YtbkimmbfepjodaaDoorT
/- The program's own Decode. -/
namespace Go.Proofs.YtbkimmbfepjodaaDoorT
set_option maxRecDepth 100000
open Go.RowKit
open W (B8 Mx)
attribute [local go_sem ↓] Go.wp_at_zero Go.wp_at_succ
attribute [local irreducible] W.gm W.xs W.mm W.gi mx matOk addB mulT appX codeX invX decX

theorem pickV_text {L : List ByteArray} {H : List Bool} {n : Nat} (h : n ≤ L.length) : pickV H (tv L) n = tv (unitsP L (thereI H n)) := by
  unfold pickV unitsP tv
  rw [List.map_map]
  refine List.map_congr_left (fun i hi => ?_)
  have hi' : i < L.length := by have := (thereI_mem.1 hi).1; omega
  show (L.map Value.string).getD i (.bool false) = .string (L.getD i ⟨#[]⟩)
  rw [getD_in _ (by rw [List.length_map]; exact hi'), List.getElem_map, getD_in _ hi']
def pickS (H : List Bool) (ss : List SR) (n : Nat) : List SR := (thereI H n).map fun i => ss.getD i ⟨none, [], 0⟩
theorem pickV_rows {ss : List SR} {H : List Bool} {n : Nat} (h : n ≤ ss.length) : pickV H (svs ss) n = svs (pickS H ss n) := by
  unfold pickV pickS svs
  rw [List.map_map]
  refine List.map_congr_left (fun i hi => ?_)
  have hi' : i < ss.length := by have := (thereI_mem.1 hi).1; omega
  show (ss.map srv).getD i (.bool false) = srv (ss.getD i ⟨none, [], 0⟩)
  rw [getD_in _ (by rw [List.length_map]; exact hi'), List.getElem_map, getD_in _ hi']
theorem pickS_rows {s : Int} {ss : List SR} (hr : rws ss = codeX s) (H : List Bool) (n : Nat) (h : n ≤ ss.length) : rws (pickS H ss n) = rowsP s (thereI H n) := by
  unfold pickS rowsP
  show ((thereI H n).map fun i => ss.getD i ⟨none, [], 0⟩).map (·.row) = _
  rw [List.map_map]
  refine List.map_congr_left (fun i hi => ?_)
  have hi' : i < ss.length := by have := (thereI_mem.1 hi).1; omega
  show (ss.getD i ⟨none, [], 0⟩).row = (codeX s).getD i []
  rw [← hr, getD_in _ hi', getD_in _ (by rw [rws_len]; exact hi'), rws_get ss i hi']
theorem pickS_mem {ss : List SR} {H : List Bool} {n : Nat} (h : n ≤ ss.length) {s : SR} (hs : s ∈ pickS H ss n) : s ∈ ss := by
  obtain ⟨i, hi, rfl⟩ := List.mem_map.1 hs
  have hi' : i < ss.length := by have := (thereI_mem.1 hi).1; omega
  rw [getD_in _ hi']
  exact List.getElem_mem hi'
/-- The first few rows of such a row of rows. -/
theorem first_rows {w : World} {g cap B n k : Nat} {ts : List SR} {lo hi : Nat} (hown : w.ownsRow B 52 1 (.slice (some ⟨g, 0, none⟩) n cap) n (svs ts)) (hrow : ∀ s ∈ ts, RRow w s.loc (ics s.row) lo hi) (hk : k ≤ ts.length) (hs : hi ≤ w.heap.size) : MSee w (.slice (some ⟨g, 0, none⟩) k cap) ((rws ts).take k) 0 w.heap.size := by
  have hw := own_wcells hown
  refine ⟨_, cap, ts.take k, by rw [List.length_take, Nat.min_eq_left hk], by unfold rws; rw [List.map_take], fun _ => ⟨g, 0, rfl, Nat.zero_le _, hw.1, hw.1, fun i v hv => ?_⟩, fun s h => (hrow s (List.mem_of_mem_take h)).wide (Nat.zero_le _) hs⟩
  rw [Nat.zero_add]
  have hv' : (svs ts)[i]? = some v := by
    unfold svs at hv ⊢
    rw [List.map_take] at hv
    rw [List.getElem?_take] at hv
    split at hv
    · exact hv
    · cases hv
  exact (hw.2 i v hv').1
theorem first_texts {w : World} {g cap B n k : Nat} {L : List ByteArray} (hown : w.ownsRow B 9 1 (.slice (some ⟨g, 0, none⟩) n cap) n (tv L)) (hk : k ≤ L.length) : SSee w (.slice (some ⟨g, 0, none⟩) k cap) (L.take k) 0 w.heap.size := by
  have hw := own_wcells hown
  refine ⟨_, cap, by rw [List.length_take, Nat.min_eq_left hk], fun _ => ⟨g, 0, rfl, Nat.zero_le _, hw.1, hw.1, fun i v hv => ?_⟩⟩
  rw [Nat.zero_add]
  have hv' : (tv L)[i]? = some v := by
    unfold tv at hv ⊢
    rw [List.map_take] at hv
    rw [List.getElem?_take] at hv
    split at hv
    · exact hv
    · cases hv
  exact (hw.2 i v hv').1
theorem all_texts {w : World} {g cap B n : Nat} {L : List ByteArray} (hown : w.ownsRow B 9 1 (.slice (some ⟨g, 0, none⟩) n cap) n (tv L)) (hn : L.length = n) : SSee w (.slice (some ⟨g, 0, none⟩) n cap) L 0 w.heap.size := by
  have h := first_texts (k := n) hown (by omega)
  rwa [List.take_of_length_le (by omega)] at h
theorem there_sub (H : List Bool) (n : Nat) : (thereI H n).Sublist (List.range n) := List.filter_sublist
theorem there_tfitU {L : List ByteArray} (hf : UFit L) (H : List Bool) : UFit (unitsP L (thereI H L.length)) := by
  have h1 := units_sub L (there_sub H L.length)
  exact ⟨Nat.le_trans h1.length_le hf.1, fun x hx => hf.2 x (h1.subset hx)⟩
theorem own_below1 {w w' : World} {B n sz : Nat} {t : TypeId} {v : Value} {L : List Value} (h : w.ownsRow B t sz v n L) (hb : Below w.heap.size w w') : w'.ownsRow B t sz v n L := h.kept (row := none) ⟨hb.os, hb.tape, hb.output, hb.size, fun k hk _ => hb.block k hk⟩ (Classical.em _)
set_option maxRecDepth 100000 in
set_option maxHeartbeats 8000000 in
theorem implDecodeU (w : World) (u v : Value) (L : List ByteArray) (H : List Bool) (lo hi lo' hi' : Nat) (s : Int) (hu : SSee w u L lo hi) (hv : BSee w v H lo' hi') (hf : UFit L) (hh : H.length ≤ 1048576) : Calls Tw.prog 15 #[.int .i64 s, u, v] w fun e w' => TPost (decX s L H) w e w' := by
  have HS := Shut.mk (fun W => implSchemaOf s W)
  unfold SchB at HS
  have hn : L.length ≤ 1048576 := hf.1
  have HF := Shut.mk hf
  obtain ⟨a, cap, rfl, hru⟩ := hu
  obtain ⟨a', cap', rfl, hrv⟩ := hv
  have HU := Shut.mk hru
  have HV := Shut.mk hrv
  clear hf hru hrv
  cases h : schOk s with
  | false =>
    have HE := Shut.mk (dec_not (s := s) (L := L) (H := H) (fun q => by have := q.1; rw [h] at this; cases this))
    rw [h] at HS
    clear h
    go_enter Tw.func15, Tw.ntmps15
    go_wp2_with fail
    refine (HS.out _).mono ?_
    rintro e w1 ⟨rfl, hb⟩
    have HB := Shut.mk hb
    clear hb
    go_wp2_with fail
    go_ret2
    exact tpost_no HE.out rfl HB.out
  | true =>
    rw [h] at HS
    obtain ⟨b1, b2, b3, b4⟩ := sch_bounds h
    have HK := Shut.mk h
    have HEN := Shut.mk (fun (q : ¬ DecOk s L H) => dec_not q)
    have HEY := Shut.mk (fun (q : DecOk s L H) => dec_is q)
    have HDO : Shut (DecOk s L H ↔ (L.length = schK s + schM s ∧ H.length = schK s + schM s ∧ OneLen L H H.length ∧ schK s ≤ (thereI H H.length).length)) := ⟨⟨fun q => q.2, fun q => ⟨h, q⟩⟩⟩
    have HPI : Shut (pickI s H H.length = (thereI H H.length).take (schK s)) := ⟨rfl⟩
    have HCL := Shut.mk (codeX_len h)
    have HRF := Shut.mk (fun (I : List Nat) (q : I.length ≤ 8) (q2 : ∀ i ∈ I, i < schK s + schM s) => rowsP_fit h q q2)
    clear h
    generalize schK s = k at *
    generalize schM s = m at *
    by_cases hl : L.length = k + m
    · by_cases hl2 : H.length = k + m
      · obtain ⟨N, hN⟩ : ∃ N, N = k + m := ⟨_, rfl⟩
        rw [← hN] at hl hl2
        have HTH := Shut.mk (fun W (hW : Below w.heap.size w W) => implThereS (c := cap') (d := cap) (HV.out.below hW) (HU.out.below hW) (by rw [tv_len, hl, hl2]) (by omega) (fun u hu => by obtain ⟨x, _, rfl⟩ := List.mem_map.1 hu; exact ⟨x, rfl⟩))
        have HC := Shut.mk (fun W => implCodeOf s W)
        have HLL := Shut.mk (And.intro hl hl2)
        have hN6 : N ≤ 6 := by omega
        have hNc : (k : Int) + (m : Int) = (N : Int) := by omega
        rw [hl, hl2]
        rw [hl2] at HTH
        have hne2 : ((N : Int) != (N : Int)) = false := by simp
        have HN := Shut.mk hN
        clear hN hl hl2
        go_enter Tw.func15, Tw.ntmps15
        go_wp2_with fail
        refine (HS.out _).mono ?_
        rintro e w1 ⟨rfl, hb1⟩
        have HB1 := Shut.mk hb1
        clear hb1
        go_wp2_with fail
        refine (HTH.out _ HB1.out).mono ?_
        rintro e w2 ⟨v1, rfl, ho1, hb2⟩
        rw [pickV_text (by rw [HLL.out.1]; exact Nat.le_refl _)] at ho1
        have HO1 := Shut.mk ho1
        have HB2 := Shut.mk hb2
        clear ho1 hb2 HTH
        go_wp2_with fail
        refine (HC.out _).mono ?_
        rintro e w3 ⟨v2, rfl, ha3, hb3⟩
        obtain ⟨a2, cap2, ss, rfl, hr2, hm2⟩ := ha3.see
        have hls : ss.length = N := by rw [← rws_len, hr2, HCL.out, HN.out]
        have HB3 := Shut.mk (HB2.out.trans (hb3.mono HB2.out.size))
        have HTR := Shut.mk (implThereR (c := cap') (d := cap2) ((HV.out.below HB1.out).below HB3.out) hm2.1 (by rw [svs_len, hls, HLL.out.2]) (by rw [HLL.out.2]; omega) (fun u hu => by obtain ⟨x, _, rfl⟩ := List.mem_map.1 hu; exact ⟨_, _, _, rfl⟩))
        have HSS := Shut.mk (And.intro hls (And.intro hr2 hm2.2))
        have HO3 := Shut.mk (own_below1 HO1.out hb3)
        rw [HLL.out.2] at HTR
        rw [hls]
        clear hb3 ha3 hr2 hm2 hls HC HO1
        go_wp2_with fail
        refine HTR.out.mono ?_
        rintro e w4 ⟨v3, rfl, ho4, hb4⟩
        rw [pickV_rows (by rw [HSS.out.1]; exact Nat.le_refl _)] at ho4
        have HTX := Shut.mk (own_below1 HO3.out hb4)
        have HR3 := Shut.mk (show w4.ownsRow w3.heap.size 52 1 v3 (thereI H N).length (svs (pickS H ss N)) ∧ rws (pickS H ss N) = rowsP s (thereI H N) ∧ (∀ t ∈ pickS H ss N, RRow w4 t.loc (ics t.row) w2.heap.size w3.heap.size) ∧ w3.heap.size ≤ w4.heap.size from ⟨ho4, pickS_rows HSS.out.2.1 H N (by rw [HSS.out.1]; exact Nat.le_refl _), fun t ht => ((HSS.out.2.2 t (pickS_mem (by rw [HSS.out.1]; exact Nat.le_refl _) ht)).below hb4), hb4.size⟩)
        have HB4 := Shut.mk (HB1.out.trans ((HB3.out.trans (hb4.mono HB3.out.size)).mono HB1.out.size))
        obtain ⟨x1, c1, rfl⟩ := own_slice HTX.out
        obtain ⟨x3, c3, rfl⟩ := own_slice HR3.out.1
        generalize pickS H ss N = ts at *
        have hTN := thereI_le H N
        rw [HLL.out.2] at HDO HPI HEY
        have HUL := Shut.mk (unitsP_len L (thereI H N))
        obtain ⟨T, hT⟩ : ∃ T, T = (thereI H N).length := ⟨_, rfl⟩
        rw [← hT] at hTN HDO HTX HR3 HUL ⊢
        clear ho4 hb4 HTR HB3 HO3 HSS
        by_cases hen : T < k
        · have hen' : (T : Int) < (k : Int) := by omega
          have HE := Shut.mk (HEN.out (fun q => by have := (HDO.out.1 q).2.2.2; omega))
          clear hT
          go_wp2_with fail
          go_ret2
          exact tpost_no HE.out rfl HB4.out
        · have hen' : ¬ (T : Int) < (k : Int) := by omega
          obtain ⟨g1, cc1, e1, hc1⟩ := own_some HTX.out (by omega)
          obtain ⟨g3, cc3, e3, hc3⟩ := own_some HR3.out.1 (by omega)
          simp only [Value.slice.injEq] at e1 e3
          obtain ⟨rfl, _, rfl⟩ := e1
          obtain ⟨rfl, _, rfl⟩ := e3
          have htf : UFit (unitsP L (thereI H N)) := by have := there_tfitU HF.out H; rw [HLL.out.1] at this; exact this
          have HOL := Shut.mk (implOneLengthU (all_texts HTX.out HUL.out) htf)
          clear htf hT
          go_wp2_with fail
          refine HOL.out.mono ?_
          rintro e w5 ⟨fl, rfl, hfl, hb5⟩
          have HB5 := Shut.mk (HB4.out.trans (hb5.mono HB4.out.size))
          cases fl with
          | false =>
            have HE := Shut.mk (HEN.out (fun q => by
              have := hfl.2 ((even_one L H N).2 (HDO.out.1 q).2.2.1)
              cases this))
            clear hb5 hfl HOL
            go_wp2_with fail
            go_ret2
            exact tpost_no HE.out rfl HB5.out
          | true =>
            have HE := Shut.mk (HEY.out (HDO.out.2 ⟨HLL.out.1.trans HN.out, HN.out, (even_one L H N).1 (hfl.1 rfl), by omega⟩))
            have hrl : ts.length = T := by
              have := HR3.out.1.1
              rw [svs_len] at this
              omega
            have hsee := first_rows (k := k) (own_below1 HR3.out.1 hb5) (fun t ht => (HR3.out.2.2.1 t ht).below hb5) (by omega) (Nat.le_trans HR3.out.2.2.2 hb5.size)
            rw [HR3.out.2.1, rowsP_take, ← HPI.out] at hsee
            have HIN := Shut.mk (implInvM w5 _ _ _ _ hsee (HRF.out _ (by rw [HPI.out, List.length_take]; omega) (fun i hi => by
              rw [HPI.out] at hi
              have := (thereI_mem.1 (List.mem_of_mem_take hi)).1
              have := HN.out
              omega)))
            have htx5 := first_texts (k := k) (own_below1 HTX.out hb5) (by rw [HUL.out]; omega)
            rw [unitsP_take, ← HPI.out] at htx5
            have HTX5 := Shut.mk htx5
            have HFU : Shut (UFit (unitsP L (pickI s H N))) := ⟨by have := units_tfitU HF.out s H; rw [HLL.out.1] at this; exact this⟩
            have hkc1 : k ≤ c1 := by omega
            have hkc3 : k ≤ c3 := by omega
            generalize pickI s H N = I at *
            clear hb5 hfl HOL hsee htx5 HR3 HTX HUL hrl
            unfold InvPost at HIN
            go_wp2_with fail
            refine HIN.out.mono ?_
            rintro e w6 ⟨v6, rfl, ha6, hb6⟩
            have HB6 := Shut.mk (HB5.out.trans (hb6.mono HB5.out.size))
            have HAP := Shut.mk (implApplyMU w6 v6 _ _ _ _ _ _ _ ha6.see (HTX5.out.below hb6) (fit_inv _) HFU.out)
            generalize (invX (rowsP s I)).2 = fl at *
            generalize (invX (rowsP s I)).1 = V at *
            clear ha6 hb6 HIN
            go_wp2_with fail
            refine HAP.out.mono ?_
            rintro e w7 ⟨v7, rfl, ha7, hb7⟩
            have HR := Shut.mk (show TPost (decX s L H) w (.returned (.tuple #[v7, .bool fl])) w7 from ⟨v7, by rw [HE.out], by rw [HE.out]; exact ha7.wide HB6.out.size (Nat.le_refl _), HB6.out.trans (hb7.mono HB6.out.size)⟩)
            clear ha7 hb7 HAP
            go_wp2_with fail
            go_ret2
            exact HR.out
      · have HE := Shut.mk (HEN.out (fun q => hl2 (HDO.out.1 q).2.1))
        have hne : (((k + m : Nat) : Int) != (k : Int) + (m : Int)) = false := by simp
        have hne2 : ((H.length : Int) != (k : Int) + (m : Int)) = true := by rw [bne_iff_ne]; omega
        rw [hl]
        clear hl hl2
        go_enter Tw.func15, Tw.ntmps15
        go_wp2_with fail
        refine (HS.out _).mono ?_
        rintro e w1 ⟨rfl, hb⟩
        have HB := Shut.mk hb
        clear hb
        go_wp2_with fail
        go_ret2
        exact tpost_no HE.out rfl HB.out
    · have HE := Shut.mk (HEN.out (fun q => hl (HDO.out.1 q).1))
      have hne : ((L.length : Int) != (k : Int) + (m : Int)) = true := by rw [bne_iff_ne]; omega
      clear hl
      go_enter Tw.func15, Tw.ntmps15
      go_wp2_with fail
      refine (HS.out _).mono ?_
      rintro e w1 ⟨rfl, hb⟩
      have HB := Shut.mk hb
      clear hb
      go_wp2_with fail
      go_ret2
      exact tpost_no HE.out rfl HB.out
end Go.Proofs.YtbkimmbfepjodaaDoorT
