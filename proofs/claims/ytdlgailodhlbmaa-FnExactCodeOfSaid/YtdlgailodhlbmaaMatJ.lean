/- The model's InvM, at every argument. -/
import Derived.Test.YtdlgailodhlbmaaMatH
namespace Go.Proofs.Ytdlgailodhlbmaa
open Go.RowKit
open W (B8 Mx)
attribute [local go_sem ↓] Go.wp_at_zero Go.wp_at_succ
attribute [local irreducible] W.gm W.xs W.mm W.gi mx

theorem rows2_of {w : World} {a : Option Addr} {ss : List SR} {lo hi : Nat} {X : List (List Int)} {n : Nat} (h : MR w a ss lo hi) (hX : rws ss = X) (hsq : Sq n X) (hp : 0 < n) : ∃ b off, a = some ⟨b, off, none⟩ ∧ Rows2 w X n b off := by
  have hl : ss.length = n := by rw [← hsq.len, ← hX, rws_len]
  obtain ⟨b, off, e, hb, hc⟩ := h.at (by omega)
  refine ⟨b, off, e, hb, fun i hi => ?_⟩
  have his : i < ss.length := by omega
  have hget : X.getD i [] = ss[i].row := by rw [← hX, List.getD_eq_getElem?_getD]; simp [rws, his]
  have hlen : ss[i].row.length = n := by rw [← hget]; exact (hsq.at hi).1
  obtain ⟨b', o', e', hb', hc'⟩ := crow_int (h.2 _ (List.getElem_mem his)).crow (by omega)
  have := hc i his
  unfold srv at this
  rw [hlen, e'] at this
  exact ⟨b', o', ss[i].cap, this, hb', fun j hj => by rw [hget]; exact hc' j (by omega)⟩
theorem sq_of {X : List (List Int)} (h : matOk X = true) (hc : colsOf X = X.length) : Sq X.length X := ⟨rfl, fun x hx => by rw [← hc]; exact (matOk_iff h).2.2 x hx⟩
set_option maxRecDepth 100000 in
set_option maxHeartbeats 4000000 in
theorem specInvM {w : World} {v : Value} {X : List (List Int)} {lo hi : Nat} (hs : MSee w v X lo hi) (hf : MFit X) : Calls Try.prog 62 #[v] w fun e w' => InvPost X w e w' := by
  have hs' := hs
  obtain ⟨a1, cap1, ss, rfl, hr1, hm1⟩ := hs
  have hl1 : ss.length = X.length := by rw [← hr1, rws_len]
  rw [hl1] at hs' ⊢
  have hc1 := fun W (hW : Below w.heap.size w W) => specMatrixOk (hs'.below hW) hf
  cases h1 : matOk X with
  | false =>
    have HX : Hid (invX X = ([], false)) := invX_no (fun ⟨_, h⟩ => by have q := h.1; rw [h1] at q; cases q)
    rw [h1] at hc1
    have HC1 : Hid _ := hc1
    clear hc1 hm1 h1 hs'
    go_enter Try.func62, Try.ntmps62
    go_wp2_with fail
    refine (HC1.out _ (Below.refl _ _)).mono ?_
    rintro e w1 ⟨rfl, hb1⟩
    have HB : Hid (Below w.heap.size w w1) := hb1
    clear hb1
    go_wp2_with fail
    go_ret2
    exact invPost_no HX.out rfl (HB.out.alloc HB.out.size _)
  | true =>
    rw [h1] at hc1
    obtain ⟨⟨hx1, hx8⟩, ⟨hcx1, hcx8⟩, _⟩ := matOk_iff h1
    by_cases h3 : colsOf X = X.length
    · obtain ⟨b1, o1, rfl, hrow1⟩ := rows2_of hm1 hr1 (sq_of h1 h3) (by omega)
      exact invM_walk X X.length b1 o1 cap1 w (sq_of h1 h3) hx1 hx8 hrow1 h1 rfl h3 hc1
    · obtain ⟨b1, o1, rfl, hrow1⟩ := row_at hm1 hr1 h1
      have HX : Hid (invX X = ([], false)) := invX_no (fun ⟨_, h⟩ => h3 h.2.1)
      obtain ⟨loc0, cp0, row0, hr0⟩ := hrow1 0 (by omega)
      have HR0 : Hid _ := hr0
      have HC1 : Hid (∀ W : World, Below w.heap.size w W → Calls Try.prog 65 #[.slice (some ⟨b1, o1, none⟩) X.length cap1] W fun e w' => e = .returned (.bool true) ∧ Below W.heap.size W w') := hc1
      have hne : ((X.length : Int) != (colsOf X : Int)) = true := by rw [bne_iff_ne]; omega
      have n0 : (0 : Int) < (X.length : Int) := by omega
      clear hc1 hm1 hs' hr0 hrow1 h1 h3 hr1 hl1 hf
      go_enter Try.func62, Try.ntmps62
      go_wp2_with fail
      refine (HC1.out _ (Below.refl _ _)).mono ?_
      rintro e w1 ⟨rfl, hb1⟩
      have d0 : w1.cell? ⟨b1, o1, none⟩ = some (.slice loc0 (colsOf X) cp0) := (HR0.out.below hb1).cell
      have HB : Hid (Below w.heap.size w w1) := hb1
      clear hb1
      go_wp2_with fail
      go_ret2
      exact invPost_no HX.out rfl (HB.out.alloc HB.out.size _)
end Go.Proofs.Ytdlgailodhlbmaa
