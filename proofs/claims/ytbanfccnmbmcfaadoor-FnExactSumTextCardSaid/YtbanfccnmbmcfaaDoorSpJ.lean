/- The model's GetUnit. -/
import Derived.Test.YtbanfccnmbmcfaaDoorSpI
namespace Go.Proofs.YtbanfccnmbmcfaaDoor
set_option maxRecDepth 100000
open Go.RowKit BigFrame
attribute [local go_sem ↓] Go.wp_at_zero Go.wp_at_succ

theorem idx_lt {us : List UnM} {g i : Int} (h : unIdx us g i < us.length) : atN us g i = (unIdx us g i : Int) := by unfold atN; rw [if_pos h]
theorem idx_no {us : List UnM} {g i : Int} (h : ¬ unIdx us g i < us.length) : atN us g i = -1 := by unfold atN; rw [if_neg h]
/-- The unit at a place, in every later world. -/
theorem un_at {w W : World} {a : Option Addr} {us : List UnM} (hr : UnRow w a us) (hb : Below w.heap.size w W) {k : Nat} (hk : k < us.length) : ∃ b off u, a = some ⟨b, off, none⟩ ∧ u = us[k] ∧ b < w.heap.size ∧ ∀ X, Below W.heap.size W X → X.cell? ⟨b, off + k * 4, none⟩ = some (.int .i64 u.group) ∧ X.cell? ⟨b, off + k * 4 + 1, none⟩ = some (.int .i64 u.index) ∧ X.cell? ⟨b, off + k * 4 + 2, none⟩ = some (.string u.text) ∧ X.cell? ⟨b, off + k * 4 + 3, none⟩ = some (.int .i64 u.sum) := by
  obtain ⟨b, off, e, lb, _⟩ := UnRow.at hr (by omega)
  refine ⟨b, off, us[k], e, rfl, lb, fun X hX => ?_⟩
  obtain ⟨b', off', e', _, hc⟩ := UnRow.at (hr.stays (hb.trans (hX.mono hb.size))) (by omega)
  rw [e] at e'
  simp only [Option.some.injEq, Addr.mk.injEq, and_true] at e'
  obtain ⟨rfl, rfl⟩ := e'
  exact hc k hk
set_option maxRecDepth 100000 in
set_option maxHeartbeats 2000000 in
theorem specGetUnit (H : HM) (a : Option Addr) (cap : Nat) (g i : Int) (w : World) (hr : UnRow w a H.us) (hl : H.us.length ≤ 1048576) (hz : unSum H.us ≤ 1048576) :
    Calls Tryd.prog 17 #[hov H a cap, .int .i64 g, .int .i64 i] w fun e w' => e = .returned (.tuple #[.string (getX H g i).1, .bool (getX H g i).2]) ∧ Below w.heap.size w w' := by
  have HS0 := Shut.mk ((SL.start w).new #[.int .i64 H.id, .bool H.up, .slice a H.us.length cap] 26)
  have HR := Shut.mk hr
  have HA := Shut.mk (fun (W : World) (hb : Below w.heap.size w W) => specAt14 H a cap g i W (hr.stays hb) hl)
  have HZ : Shut (∀ u ∈ H.us, u.text.size ≤ 1048576) := ⟨fun u hu => by have := unSum_mem hu; omega⟩
  clear hr hz
  obtain ⟨id, up, us⟩ := H
  obtain ⟨R, hR⟩ : ∃ R, R = getX ⟨id, up, us⟩ g i := ⟨_, rfl⟩
  rw [← hR]
  obtain ⟨t0, b0⟩ := R
  have HQ := Shut.mk hR
  clear hR
  show Calls Tryd.prog 17 #[.agg #[.int .i64 id, .bool up, .slice a us.length cap], .int .i64 g, .int .i64 i] w fun e w' => e = .returned (.tuple #[.string t0, .bool b0]) ∧ Below w.heap.size w w'
  dsimp only [hov] at *
  obtain ⟨n, hn⟩ : ∃ n, n = us.length := ⟨_, rfl⟩
  have HN := Shut.mk hn
  rw [← hn] at HS0 HA hl ⊢
  clear hn
  obtain ⟨ki, hki⟩ : ∃ q, q = atN us g i := ⟨_, rfl⟩
  rw [← hki] at HA
  have HK := Shut.mk hki
  clear hki
  go_enter Tryd.func17, Tryd.ntmps17
  go_upto_region 1 with fail
  refine wp_shade (fun W => SL w W [bxS w.heap.size [.int .i64 id, .bool up, .slice a n cap]]) HS0.out ?_
  intro W0 hW
  have HW := Shut.mk hW
  clear HS0 hW
  have x0 := (HW.out.bx 0 rfl 0 _ rfl).1
  have x1 := (HW.out.bx 0 rfl 1 _ rfl).1
  have x2 := (HW.out.bx 0 rfl 2 _ rfl).1
  go_upto_region 2 with (go_at_call 44; refine (HA.out _ HW.out.bel).mono ?_; rintro e w1 ⟨rfl, hb⟩; replace HW := Shut.mk (HW.out.below hb); clear hb x0 x1 x2)
  have lw := (show WCells w1 w.heap.size _ from HW.out.at 0 rfl).1
  have g1 : ∀ X : Grow w1, X.val.cell? ⟨w.heap.size, 1, none⟩ = some (.bool up) := fun X => X.cell (HW.out.bx 0 rfl 1 _ rfl).1 lw
  have g2 : ∀ X : Grow w1, X.val.cell? ⟨w.heap.size, 2, none⟩ = some (.slice a n cap) := fun X => X.cell (HW.out.bx 0 rfl 2 _ rfl).1 lw
  have HGR : Shut (∀ X : Grow w1, SL w X.val [bxS w.heap.size [.int .i64 id, .bool up, .slice a n cap]]) := ⟨fun X => HW.out.below X.bel⟩
  cases hup : up with
  | false =>
    have HE : Shut ((t0, b0) = ((⟨#[]⟩ : ByteArray), false)) := ⟨by rw [HQ.out]; unfold getX; rw [hup]; simp⟩
    rw [hup] at g1 HGR
    refine wp_region_grow (by kernel_rfl) (by kernel_rfl) ?_
    repeat (go_big_quiet_step (fail))
    refine wpQuiet_nil ?_
    rintro _ ⟨X, rfl⟩
    go_wp2_with fail
    go_ret2
    have e1 := HE.out
    simp only [Prod.mk.injEq] at e1
    exact ⟨by rw [e1.1, e1.2]; rfl, (HGR.out X).bel⟩
  | true =>
    rw [hup] at g1 HGR HQ
    by_cases hf : unIdx us g i < us.length
    · obtain ⟨k, hk⟩ : ∃ k, k = unIdx us g i := ⟨_, rfl⟩
      have hki : ki = (k : Int) := by rw [HK.out, idx_lt hf, hk]
      rw [← hk] at hf
      obtain ⟨b, off, u, rfl, hu, lb, hc⟩ := un_at HR.out HW.out.bel hf
      have HE : Shut ((t0, b0) = if unSound u then (u.text, true) else ((⟨#[]⟩ : ByteArray), false)) := ⟨by
        rw [HQ.out]; unfold getX; dsimp only; rw [← hk, getD_un us k hf, ← hu]; simp [hf]⟩
      have HSU := Shut.mk (fun X : Grow w1 => calls_same (w := w1) (fun W' (_ : Below w1.heap.size w1 W') => specSumText u.text W' (by rw [hu]; exact HZ.out _ (List.getElem_mem hf))) X)
      unfold unSound at HE
      generalize sumN u.text = sn at HE HSU
      subst hki
      have k0 : (0 : Int) ≤ (k : Int) := by omega
      have k1 : (k : Int) < (n : Int) := by have := HN.out; omega
      have k2 : decide ((k : Int) < 0) = false := by simp
      have p2 : ∀ X : Grow w1, X.val.cell? ⟨b, off + k * 4 + 2, none⟩ = some (.string u.text) := fun X => (hc X.val X.bel).2.2.1
      have p3 : ∀ X : Grow w1, X.val.cell? ⟨b, off + k * 4 + 3, none⟩ = some (.int .i64 u.sum) := fun X => (hc X.val X.bel).2.2.2
      have HC := Shut.mk hc
      clear hc hk hu hf
      cases hs : u.sum == sn with
      | false =>
        have hs' : (u.sum != sn) = true := by rw [bne, hs]; rfl
        rw [hs] at HE
        refine wp_region_grow (by kernel_rfl) (by kernel_rfl) ?_
        repeat (go_big_quiet_step (first | (go_at_call 19; with_reducible exact HSU.out _)))
        refine wpQuiet_nil ?_
        rintro _ ⟨X, rfl⟩
        go_wp2_with fail
        go_ret2
        have e1 := HE.out
        simp only [Bool.false_eq_true, if_false, Prod.mk.injEq] at e1
        exact ⟨by rw [e1.1, e1.2]; rfl, (HGR.out X).bel⟩
      | true =>
        have hs' : (u.sum != sn) = false := by rw [bne, hs]; rfl
        rw [hs] at HE
        refine wp_region_grow (by kernel_rfl) (by kernel_rfl) ?_
        repeat (go_big_quiet_step (first | (go_at_call 19; with_reducible exact HSU.out _)))
        refine wpQuiet_nil ?_
        rintro _ ⟨X, rfl⟩
        have y2 := g2 X
        have y3 := p2 X
        clear g1 g2 p2 p3
        go_wp2_with fail
        go_ret2
        have e1 := HE.out
        simp only [if_true, Prod.mk.injEq] at e1
        exact ⟨by rw [e1.1, e1.2]; rfl, (HGR.out X).bel⟩
    · have hki : ki = -1 := by rw [HK.out, idx_no hf]
      have HE : Shut ((t0, b0) = ((⟨#[]⟩ : ByteArray), false)) := ⟨by rw [HQ.out]; unfold getX; simp [hf]⟩
      subst hki
      clear hf
      refine wp_region_grow (by kernel_rfl) (by kernel_rfl) ?_
      repeat (go_big_quiet_step (fail))
      refine wpQuiet_nil ?_
      rintro _ ⟨X, rfl⟩
      go_wp2_with fail
      go_ret2
      have e1 := HE.out
      simp only [Prod.mk.injEq] at e1
      exact ⟨by rw [e1.1, e1.2]; rfl, (HGR.out X).bel⟩
end Go.Proofs.YtbanfccnmbmcfaaDoor
