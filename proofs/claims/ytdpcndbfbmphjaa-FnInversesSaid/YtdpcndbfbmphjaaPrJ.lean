/- The program's own lift and divide. -/
import Derived.Test.YtdpcndbfbmphjaaPrI
namespace Go.Proofs.Ytdpcndbfbmphjaa
open Go.RowKit
open W (B8 Mx)
attribute [local go_sem ↓] Go.wp_at_zero Go.wp_at_succ
attribute [local irreducible] W.gm W.xs W.mm W.gi matOk

def LiftPost (n c B g : Nat) (ss : List KS) (w : World) (e : Ending) (w' : World) : Prop :=
  Below B w w' ∧ ((∃ p, c ≤ p ∧ p < n ∧ lf (kws ss) p c ≠ 0#8 ∧ e = .returned (.bool true) ∧ KX w' B g (swapK p c ss)) ∨ (e = .returned (.bool false) ∧ (∀ i, c ≤ i → i < n → lf (kws ss) i c = 0#8) ∧ KX w' B g ss))
theorem byte_ne {x : B8} (h : x ≠ 0#8) : (((x.toNat : Int)) != 0) = true := by
  rw [bne_iff_ne]
  intro e
  exact h (W.b8_zero (by omega))
set_option maxRecDepth 100000 in
set_option maxHeartbeats 2000000 in
theorem implLift (n c B g cap : Nat) (ss : List KS) (w : World) (h : KX w B g ss) (hn : ss.length = n) (hr : ∀ i, i < n → ((kws ss).getD i []).length = n + n) (hc : c < n) (h8 : n ≤ 8) :
    Calls Try.prog 73 #[.slice (some ⟨g, 0, none⟩) n cap, .int .i64 (c : Int)] w fun e w' => LiftPost n c B g ss w e w' := by
  have HH := Shut.mk h
  have HN : Hid (ss.length = n) := hn
  have HR := Shut.mk hr
  clear h hn hr
  go_enter Try.func73, Try.ntmps73
  go_wp2_with fail
  go_loop [6] (fun i => ∃ k : Nat, i = .int .i64 k ∧ c ≤ k ∧ k ≤ n ∧ Shut (∀ j, c ≤ j → j < k → lf (kws ss) j c = 0#8)) (fun i => n - (intOf i).toNat)
  case atStart => exact ⟨c, rfl, Nat.le_refl _, by omega, ⟨fun j h1 h2 => by omega⟩⟩
  case round =>
    obtain ⟨k, rfl, hck, hk, hz⟩ := hrel
    by_cases hlt : k < n
    · have hlt' : (k : Int) < (n : Int) := by omega
      have k0 : (0 : Int) ≤ (k : Int) := by omega
      have c0 : (0 : Int) ≤ (c : Int) := by omega
      have c1 : (c : Int) < (n : Int) := by omega
      have c2 : (c : Int) < (n : Int) + (n : Int) := by omega
      obtain ⟨b, cp, q1, q2, q3, q4, q5, q6, d1, z1, q7, ev1⟩ := HH.out.at (i := k) (by have := HN.out; omega) (HR.out k hlt)
      obtain ⟨b', cp', r1, r2, r3, r4, r5, r6, d2, z2, r7, ev2⟩ := HH.out.at (i := c) (by have := HN.out; omega) (HR.out c hc)
      obtain ⟨d3, _⟩ := q7.2 c _ (ucs_get _ c (by rw [HR.out k hlt]; omega))
      have hx : lf (kws ss) k c = ((kws ss).getD k []).getD c 0#8 := rfl
      generalize ((kws ss).getD k []).getD c 0#8 = x at *
      by_cases h0 : x = 0#8
      · subst h0
        have e0 : (((0#8 : B8).toNat : Int) != 0) = false := by rfl
        have HZ : Shut (∀ j, c ≤ j → j < k + 1 → lf (kws ss) j c = 0#8) := ⟨fun j h1 h2 => by
          by_cases e : j = k
          · subst e; exact hx
          · exact hz.out j h1 (by omega)⟩
        clear hx hz q7 r7 ev1 ev2
        go_wp2_with fail
        go_round
        case rel => exact ⟨k + 1, by go_num, by omega, by omega, HZ⟩
        case measure => simp [intOf]; omega
      · have e0 := byte_ne h0
        have hsw := HH.out.swap (p := k) (c := c) (by have := HN.out; omega) (by have := HN.out; omega)
        rw [ev1, ev2] at hsw
        have h4 := HH.out.out.set k (.slice (some ⟨b', 0, none⟩) (n + n) cp') (by rw [kvs_len]; have := HN.out; omega)
        obtain ⟨v4, hv4⟩ : ∃ v4, ((kvs ss).set k (.slice (some ⟨b', 0, none⟩) (n + n) cp'))[c]? = some v4 := ⟨_, List.getElem?_eq_getElem (by rw [List.length_set, kvs_len]; have := HN.out; omega)⟩
        obtain ⟨d4, z4⟩ := h4.2 c v4 hv4
        clear h4 hv4
        have HSW := Shut.mk hsw
        have HP := Shut.mk (show lf (kws ss) k c ≠ 0#8 by rw [hx]; exact h0)
        clear hsw hx hz q7 r7 ev1 ev2 h0 q1 q2 r1 r2
        go_wp2_with fail
        go_region
        go_wp2_with fail
        go_ret
        exact ⟨Below.drew (((Below.refl _ _).setCell (p := ⟨g, k, none⟩) HH.out.glo _).setCell (p := ⟨g, c, none⟩) HH.out.glo _), .inl ⟨k, hck, hlt, HP.out, rfl, HSW.out.below (Below.drew (Below.refl _ _))⟩⟩
    · have hlt' : ¬ (k : Int) < (n : Int) := by omega
      have HF : Shut (∀ i, c ≤ i → i < n → lf (kws ss) i c = 0#8) := ⟨fun i h1 h2 => hz.out i h1 (by omega)⟩
      clear hz
      go_wp2_with fail
      go_ret
      exact ⟨Below.refl _ _, .inr ⟨rfl, HF.out, HH.out⟩⟩
/-- A row that is being multiplied: the first k numbers are done. -/
def timesK (t : B8) (xs : List B8) (k : Nat) : List B8 := (List.range xs.length).map fun c => if c < k then W.gm (xs.getD c 0#8) t else xs.getD c 0#8
theorem timesK_len (t : B8) (xs : List B8) (k : Nat) : (timesK t xs k).length = xs.length := by simp [timesK]
theorem timesK_0 (t : B8) (xs : List B8) : timesK t xs 0 = xs := by
  apply List.ext_getElem (by simp [timesK])
  intro i h1 h2
  simp [timesK, List.getD, h2]
theorem timesK_all (t : B8) (xs : List B8) : timesK t xs xs.length = timesU t xs := by
  apply List.ext_getElem (by simp [timesK, timesU])
  intro i h1 h2
  have h3 : i < xs.length := by simpa [timesU] using h2
  simp [timesK, timesU, List.getD, h3]
theorem timesK_at {t : B8} {xs : List B8} {k : Nat} (h : k < xs.length) : (timesK t xs k).getD k 0#8 = xs.getD k 0#8 := by
  unfold timesK
  rw [List.getD_eq_getElem?_getD, List.getElem?_map, List.getElem?_range h]
  show (if k < k then _ else _) = _
  rw [if_neg (Nat.lt_irrefl k)]
theorem timesK_set {t : B8} {xs : List B8} {k : Nat} (_ : k < xs.length) : (timesK t xs k).set k (W.gm (xs.getD k 0#8) t) = timesK t xs (k + 1) := by
  apply List.ext_getElem (by simp [timesK])
  intro c h1 h2
  simp only [timesK, List.getElem_set, List.getElem_map, List.getElem_range]
  by_cases e : k = c
  · subst e; rw [if_pos rfl, if_pos (by omega)]
  · rw [if_neg e]
    by_cases h : c < k
    · rw [if_pos h, if_pos (by omega)]
    · rw [if_neg h, if_neg (by omega)]
def DividePost (c B g : Nat) (ss : List KS) (w : World) (e : Ending) (w' : World) : Prop :=
  (∃ v, e = .returned v) ∧ Below B w w' ∧ ∃ s : KS, s.row = timesU (W.gi (lf (kws ss) c c)) ((kws ss).getD c []) ∧ KX w' B g (ss.set c s)
set_option maxRecDepth 100000 in
set_option maxHeartbeats 2000000 in
theorem implDivide (n c B g cap : Nat) (ss : List KS) (w : World) (h : KX w B g ss) (hn : ss.length = n) (hr : ∀ i, i < n → ((kws ss).getD i []).length = n + n) (hc : c < n) (h8 : n ≤ 8) (hB : B ≤ w.heap.size) :
    Calls Try.prog 74 #[.slice (some ⟨g, 0, none⟩) n cap, .int .i64 (c : Int)] w fun e w' => DividePost c B g ss w e w' := by
  obtain ⟨b, cp, q1, q2, q3, q4, q5, q6, d1, z1, q7, ev1⟩ := h.at (i := c) (by omega) (hr c hc)
  have hlen := hr c hc
  obtain ⟨d3, _⟩ := q7.2 c _ (ucs_get _ c (by omega))
  have hx : lf (kws ss) c c = ((kws ss).getD c []).getD c 0#8 := rfl
  have hfin := fun w' (hg : w.grownBy w' (some b)) (hcc : WCells w' b (ucs (timesU (W.gi (((kws ss).getD c []).getD c 0#8)) ((kws ss).getD c [])))) => h.setRow (by omega) q1 hg hcc (by rw [timesU_len, kws_at])
  have hinv := implInverse (((kws ss).getD c []).getD c 0#8)
  have HF : Shut (∀ (w' : World), w.grownBy w' (some b) → WCells w' b (ucs (timesU (W.gi (((kws ss).getD c []).getD c 0#8)) ((kws ss).getD c []))) → ∃ s : KS, s.row = timesU (W.gi (((kws ss).getD c []).getD c 0#8)) ((kws ss).getD c []) ∧ KX w' B g (ss.set c s)) := ⟨fun w' hg hcc => ⟨_, rfl, hfin w' hg hcc⟩⟩
  unfold DividePost
  rw [hx]
  generalize (kws ss).getD c [] = row at *
  generalize row.getD c 0#8 = x at *
  generalize W.gi x = y at *
  have HL : Hid (row.length = n + n) := hlen
  have HV := Shut.mk hinv
  have HW := Shut.mk q7
  have c0 : (0 : Int) ≤ (c : Int) := by omega
  have c1 : (c : Int) < (n : Int) := by omega
  have c2 : (c : Int) < (n : Int) + (n : Int) := by omega
  clear hinv q7 hfin hx h hn hr q1 q2 ev1 hlen z1
  go_enter Try.func74, Try.ntmps74
  go_wp2_with fail
  refine (HV.out _).mono ?_
  rintro e w1 ⟨rfl, rfl⟩
  go_wp2_with fail
  go_loopw [19] (fun i wr => ∃ k : Nat, i = .int .i64 k ∧ k ≤ n + n ∧ Shut (WCells wr b (ucs (timesK y row k))) ∧ Shut (w1.grownBy wr (some b))) (fun i _ => n + n - (intOf i).toNat)
  case atStart => exact ⟨0, rfl, Nat.zero_le _, ⟨by rw [timesK_0]; exact HW.out⟩, ⟨⟨rfl, rfl, rfl, Nat.le_refl _, fun _ _ _ => rfl⟩⟩⟩
  case round =>
    obtain ⟨k, rfl, hk, hw, hg⟩ := hrel
    by_cases hlt : k < n + n
    · have k0 : (0 : Int) ≤ (k : Int) := by omega
      have k1 : (k : Int) < (n : Int) + (n : Int) := by omega
      have hkx : k < row.length := by have := HL.out; omega
      obtain ⟨e0, z0⟩ := hw.out.2 k _ (ucs_get _ k (by rw [timesK_len]; exact hkx))
      rw [timesK_at hkx] at e0
      have hset := hw.out.set k (.int .u8 ((W.gm (row.getD k 0#8) y).toNat : Int)) (by rw [ucs_len, timesK_len]; exact hkx)
      rw [ucs_set, timesK_set hkx] at hset
      have ht := implTimes (row.getD k 0#8) y
      generalize row.getD k 0#8 = u at *
      generalize W.gm u y = z at *
      have HW2 := Shut.mk hset
      have HG2 := Shut.mk (gb_two' hg.out (gb_set' wr b k (.int .u8 (z.toNat : Int))))
      have HT := Shut.mk ht
      clear hset hw hg ht
      go_wp2_with fail
      refine (HT.out _).mono ?_
      rintro e w2 ⟨rfl, rfl⟩
      go_wp2_with fail
      go_roundw
      case rel => exact ⟨k + 1, by go_num, by omega, HW2, HG2⟩
      case measure => simp [intOf]; omega
    · have e : k = row.length := by have := HL.out; omega
      have hlt' : ¬ (k : Int) < (n : Int) + (n : Int) := by omega
      rw [e, timesK_all] at hw
      have HB := Shut.mk ((Below.refl B w1).grown hg.out hB (fun j hj => by cases hj; exact q3))
      clear e
      go_wp2_with fail
      go_returns
      exact ⟨⟨_, rfl⟩, HB.out, HF.out _ hg.out hw.out⟩
end Go.Proofs.Ytdpcndbfbmphjaa
