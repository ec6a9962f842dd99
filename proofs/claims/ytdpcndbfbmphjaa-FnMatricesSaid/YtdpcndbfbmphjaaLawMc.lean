/- The walk of the exact law over MulM, over what is told of the program. -/
import Derived.Test.YtdpcndbfbmphjaaLawMa
import Derived.Test.YtdpcndbfbmphjaaMatD
namespace Go.Proofs.Ytdpcndbfbmphjaa
open Go.RowKit
open W (B8 Mx)
attribute [local irreducible] W.gm W.xs W.mm W.gi mx mulX oneX matOk xsum

theorem fit_mul (X Y : List (List Int)) : MFit (mulX X Y) := by
  by_cases h : matOk X = true ∧ matOk Y = true ∧ colsOf X = Y.length
  · unfold mulX
    rw [if_pos h]
    obtain ⟨⟨_, h1⟩, _, _⟩ := matOk_iff h.1
    obtain ⟨_, ⟨_, h2⟩, _⟩ := matOk_iff h.2.1
    refine fit_square (n := 8) (m := 8) (by simp [rowsX]; exact h1) (fun y hy => ?_) (by omega)
    obtain ⟨i, _, rfl⟩ := List.mem_map.1 hy
    simpa using h2
  · rw [mulX_no h]; unfold MFit; simp [xsum]
set_option maxRecDepth 100000 in
set_option maxHeartbeats 4000000 in
theorem lawMulM (h : ∀ (w : World) (v u : Value) (X Y : List (List Int)) (lo hi lo' hi' : Nat), MSee w v X lo hi → MSee w u Y lo' hi' → MFit X → MFit Y → Calls Try.prog 14 #[v, u] w fun e w' => MPost (mulX X Y) w e w') {w : World} {v : Value} {X : List (List Int)} (hv : MSee w v X 0 w.heap.size) (lX : X.length ≤ 9223372036854775807 ∧ ∀ x ∈ X, x.length ≤ 9223372036854775807) {u : Value} {Y : List (List Int)} (hu : MSee w u Y 0 w.heap.size) (lY : Y.length ≤ 9223372036854775807 ∧ ∀ x ∈ Y, x.length ≤ 9223372036854775807) :
    Calls Try.prog 7 #[v, u] w fun e w' => e = .returned (.bool true) ∧ Below w.heap.size w w' := by
  have Fv := Shut.mk hv
  have HX := Shut.mk lX
  clear hv lX
  have Fu := Shut.mk hu
  have HY := Shut.mk lY
  clear hu lY
  have HB : Shut (Below w.heap.size w w) := ⟨Below.refl _ _⟩
  have HH := Shut.mk h
  clear h
  go_enter Try.func7, Try.ntmps7
  go_wp2_with fail
  refine (szIntSS_val 1048576 Fv.out HX.out (by omega) (by omega)).mono ?_
  rintro e w1 ⟨r0, rfl, hw, q1, q2⟩
  obtain rfl : w = w1 := hw.symm
  clear hw
  by_cases hfit : ((X.length + xsum X : Nat) : Int) ≤ 1048576
  case neg =>
    have hneg : r0 < 0 := q2 (by omega)
    clear q1 q2
    go_wp2_with fail
    go_ret
    exact ⟨rfl, HB.out⟩
  have hr := q1 hfit
  have r0n : ¬ r0 < 0 := by omega
  have HFX : Shut (MFit X) := ⟨by unfold MFit; omega⟩
  have r0b : r0 ≤ 1048576 := by omega
  clear q1 q2 hr hfit
  go_wp2_with fail
  refine (szIntSS_val r0 Fu.out HY.out (by omega) (by omega)).mono ?_
  rintro e w1 ⟨r1, rfl, hw, q1, q2⟩
  obtain rfl : w = w1 := hw.symm
  clear hw
  by_cases hfit : ((Y.length + xsum Y : Nat) : Int) ≤ r0
  case neg =>
    have hneg : r1 < 0 := q2 (by omega)
    clear q1 q2
    go_wp2_with fail
    go_ret
    exact ⟨rfl, HB.out⟩
  have hr := q1 hfit
  have r1n : ¬ r1 < 0 := by omega
  have HFY : Shut (MFit Y) := ⟨by unfold MFit; omega⟩
  have r1b : r1 ≤ 1048576 := by omega
  clear q1 q2 hr hfit
  have HFR := Shut.mk (fit_mul X Y)
  have HS := Shut.mk fun (w : World) (v u : Value) (lo hi lo' hi' : Nat) (hs : MSee w v X lo hi) (ht : MSee w u Y lo' hi') => specMulM hs ht HFX.out HFY.out
  have HI := Shut.mk fun (w : World) (v u : Value) (lo hi lo' hi' : Nat) (hs : MSee w v X lo hi) (ht : MSee w u Y lo' hi') => HH.out w v u X Y lo hi lo' hi' hs ht HFX.out HFY.out
  generalize mulX X Y = R at HFR HS HI
  clear HH
  go_wp2_with fail
  refine (toIntSS_val Fv.out HFX.out).mono ?_
  rintro e w1 ⟨a1, rfl, hA, hb⟩
  have Fa1 := Shut.mk hA
  clear hA
  replace Fv := Shut.mk (Fv.out.below hb)
  replace Fu := Shut.mk (Fu.out.below hb)
  have z1 := hb.size
  replace HB := Shut.mk (HB.out.trans (hb.mono HB.out.size))
  clear hb
  go_wp2_with fail
  refine (toIntSS_val Fu.out HFY.out).mono ?_
  rintro e w2 ⟨a2, rfl, hA, hb⟩
  have Fa2 := Shut.mk hA
  clear hA
  replace Fv := Shut.mk (Fv.out.below hb)
  replace Fu := Shut.mk (Fu.out.below hb)
  replace Fa1 := Shut.mk (Fa1.out.below hb)
  have z2 := hb.size
  replace HB := Shut.mk (HB.out.trans (hb.mono HB.out.size))
  clear hb
  go_wp2_with fail
  refine (HS.out _ _ _ _ _ _ _ Fa1.out.see Fa2.out.see).mono ?_
  rintro e w3 ⟨w0, rfl, hA, hb⟩
  have Fw0 := Shut.mk hA
  clear hA
  replace Fv := Shut.mk (Fv.out.below hb)
  replace Fu := Shut.mk (Fu.out.below hb)
  replace Fa1 := Shut.mk (Fa1.out.below hb)
  replace Fa2 := Shut.mk (Fa2.out.below hb)
  have z3 := hb.size
  replace HB := Shut.mk (HB.out.trans (hb.mono HB.out.size))
  clear hb
  clear Fa1
  clear Fa2
  go_wp2_with fail
  refine (toIntSS_val Fv.out HFX.out).mono ?_
  rintro e w4 ⟨x0, rfl, hA, hb⟩
  have Fx0 := Shut.mk hA
  clear hA
  replace Fv := Shut.mk (Fv.out.below hb)
  replace Fu := Shut.mk (Fu.out.below hb)
  replace Fw0 := Shut.mk (Fw0.out.below hb)
  have z4 := hb.size
  replace HB := Shut.mk (HB.out.trans (hb.mono HB.out.size))
  clear hb
  go_wp2_with fail
  refine (toIntSS_val Fu.out HFY.out).mono ?_
  rintro e w5 ⟨x1, rfl, hA, hb⟩
  have Fx1 := Shut.mk hA
  clear hA
  replace Fv := Shut.mk (Fv.out.below hb)
  replace Fu := Shut.mk (Fu.out.below hb)
  replace Fw0 := Shut.mk (Fw0.out.below hb)
  replace Fx0 := Shut.mk (Fx0.out.below hb)
  have z5 := hb.size
  replace HB := Shut.mk (HB.out.trans (hb.mono HB.out.size))
  clear hb
  go_wp2_with fail
  refine (HI.out _ _ _ _ _ _ _ Fx0.out.see Fx1.out.see).mono ?_
  rintro e w6 ⟨g0, rfl, hA, hb⟩
  have Fg0 := Shut.mk hA
  clear hA
  replace Fv := Shut.mk (Fv.out.below hb)
  replace Fu := Shut.mk (Fu.out.below hb)
  replace Fw0 := Shut.mk (Fw0.out.below hb)
  replace Fx0 := Shut.mk (Fx0.out.below hb)
  replace Fx1 := Shut.mk (Fx1.out.below hb)
  have z6 := hb.size
  replace HB := Shut.mk (HB.out.trans (hb.mono HB.out.size))
  clear hb
  go_wp2_with fail
  refine (eqIntSS_val Fg0.out.see Fw0.out.see HFR.out).mono ?_
  rintro e w7 ⟨rfl, hb⟩
  replace Fv := Shut.mk (Fv.out.below hb)
  replace Fu := Shut.mk (Fu.out.below hb)
  replace Fw0 := Shut.mk (Fw0.out.below hb)
  replace Fx0 := Shut.mk (Fx0.out.below hb)
  replace Fx1 := Shut.mk (Fx1.out.below hb)
  replace Fg0 := Shut.mk (Fg0.out.below hb)
  have z7 := hb.size
  replace HB := Shut.mk (HB.out.trans (hb.mono HB.out.size))
  clear hb
  go_wp2_with fail
  refine (toIntSS_val Fv.out HFX.out).mono ?_
  rintro e w8 ⟨a3, rfl, hA, hb⟩
  have Fa3 := Shut.mk hA
  clear hA
  replace Fv := Shut.mk (Fv.out.below hb)
  replace Fu := Shut.mk (Fu.out.below hb)
  replace Fw0 := Shut.mk (Fw0.out.below hb)
  replace Fx0 := Shut.mk (Fx0.out.below hb)
  replace Fx1 := Shut.mk (Fx1.out.below hb)
  replace Fg0 := Shut.mk (Fg0.out.below hb)
  have z8 := hb.size
  replace HB := Shut.mk (HB.out.trans (hb.mono HB.out.size))
  clear hb
  go_wp2_with fail
  refine (eqIntSS_val Fx0.out.see Fa3.out.see HFX.out).mono ?_
  rintro e w9 ⟨rfl, hb⟩
  replace Fv := Shut.mk (Fv.out.below hb)
  replace Fu := Shut.mk (Fu.out.below hb)
  replace Fw0 := Shut.mk (Fw0.out.below hb)
  replace Fx0 := Shut.mk (Fx0.out.below hb)
  replace Fx1 := Shut.mk (Fx1.out.below hb)
  replace Fg0 := Shut.mk (Fg0.out.below hb)
  replace Fa3 := Shut.mk (Fa3.out.below hb)
  have z9 := hb.size
  replace HB := Shut.mk (HB.out.trans (hb.mono HB.out.size))
  clear hb
  clear Fa3
  go_wp2_with fail
  refine (toIntSS_val Fu.out HFY.out).mono ?_
  rintro e w10 ⟨a4, rfl, hA, hb⟩
  have Fa4 := Shut.mk hA
  clear hA
  replace Fv := Shut.mk (Fv.out.below hb)
  replace Fu := Shut.mk (Fu.out.below hb)
  replace Fw0 := Shut.mk (Fw0.out.below hb)
  replace Fx0 := Shut.mk (Fx0.out.below hb)
  replace Fx1 := Shut.mk (Fx1.out.below hb)
  replace Fg0 := Shut.mk (Fg0.out.below hb)
  have z10 := hb.size
  replace HB := Shut.mk (HB.out.trans (hb.mono HB.out.size))
  clear hb
  go_wp2_with fail
  refine (eqIntSS_val Fx1.out.see Fa4.out.see HFY.out).mono ?_
  rintro e w11 ⟨rfl, hb⟩
  replace Fv := Shut.mk (Fv.out.below hb)
  replace Fu := Shut.mk (Fu.out.below hb)
  replace Fw0 := Shut.mk (Fw0.out.below hb)
  replace Fx0 := Shut.mk (Fx0.out.below hb)
  replace Fx1 := Shut.mk (Fx1.out.below hb)
  replace Fg0 := Shut.mk (Fg0.out.below hb)
  replace Fa4 := Shut.mk (Fa4.out.below hb)
  have z11 := hb.size
  replace HB := Shut.mk (HB.out.trans (hb.mono HB.out.size))
  clear hb
  clear Fa4
  go_wp2_with fail
  refine (markIntSS_val 1 Fx0.out HFX.out (by omega)).mono ?_
  rintro e w12 ⟨rfl, hM, ht⟩
  obtain ⟨k1, hk⟩ : ∃ k : Nat, k = 1 + xsum X := ⟨_, rfl⟩
  rw [← hk]
  have Kk1 : k1 ≤ 1 + 1048576 := by have := HFX.out; unfold MFit at this; omega
  have Jk1 := Shut.mk hk
  clear hk
  replace Fv := Shut.mk (Fv.out.turned ht (by omega))
  replace Fu := Shut.mk (Fu.out.turned ht (by omega))
  replace Fw0 := Shut.mk (Fw0.out.turned ht (by omega))
  replace Fx1 := Shut.mk (Fx1.out.turned ht (by omega))
  replace Fg0 := Shut.mk (Fg0.out.turned ht (by omega))
  replace Fx0 := Shut.mk hM
  clear hM
  have z12 := ht.size
  replace HB := Shut.mk (HB.out.trans (ht.below (by omega) HB.out.size))
  clear ht
  go_wp2_with fail
  refine (markIntSS_val k1 Fx1.out HFY.out (by omega)).mono ?_
  rintro e w13 ⟨rfl, hM, ht⟩
  obtain ⟨k2, hk⟩ : ∃ k : Nat, k = k1 + xsum Y := ⟨_, rfl⟩
  rw [← hk]
  have Kk2 : k2 ≤ k1 + 1048576 := by have := HFY.out; unfold MFit at this; omega
  have Jk2 := Shut.mk hk
  clear hk
  replace Fv := Shut.mk (Fv.out.turned ht (by omega))
  replace Fu := Shut.mk (Fu.out.turned ht (by omega))
  replace Fw0 := Shut.mk (Fw0.out.turned ht (by omega))
  replace Fx0 := Shut.mk (Fx0.out.turned ht (by omega))
  replace Fg0 := Shut.mk (Fg0.out.turned ht (by omega))
  replace Fx1 := Shut.mk hM
  clear hM
  have z13 := ht.size
  replace HB := Shut.mk (HB.out.trans (ht.below (by omega) HB.out.size))
  clear ht
  have hk0 : ¬ (k2 : Int) < 0 := by omega
  clear Fx0
  clear Fx1
  go_wp2_with fail
  refine (eqIntSS_val Fg0.out.see Fw0.out.see HFR.out).mono ?_
  rintro e w14 ⟨rfl, hb⟩
  replace Fv := Shut.mk (Fv.out.below hb)
  replace Fu := Shut.mk (Fu.out.below hb)
  replace Fw0 := Shut.mk (Fw0.out.below hb)
  replace Fg0 := Shut.mk (Fg0.out.below hb)
  have z14 := hb.size
  replace HB := Shut.mk (HB.out.trans (hb.mono HB.out.size))
  clear hb
  go_wp2_with fail
  refine (markIntSS_val 1 Fg0.out HFR.out (by omega)).mono ?_
  rintro e w15 ⟨rfl, hM, ht⟩
  obtain ⟨m1, hk⟩ : ∃ k : Nat, k = 1 + xsum R := ⟨_, rfl⟩
  rw [← hk]
  have Km1 : m1 ≤ 1 + 1048576 := by have := HFR.out; unfold MFit at this; omega
  have Jm1 := Shut.mk hk
  clear hk
  replace Fv := Shut.mk (Fv.out.turned ht (by omega))
  replace Fu := Shut.mk (Fu.out.turned ht (by omega))
  replace Fw0 := Shut.mk (Fw0.out.turned ht (by omega))
  replace Fg0 := Shut.mk hM
  clear hM
  have z15 := ht.size
  replace HB := Shut.mk (HB.out.trans (ht.below (by omega) HB.out.size))
  clear ht
  go_wp2_with fail
  refine (heldIntSS_val Fg0.out HFR.out (by omega)).mono ?_
  rintro e w16 ⟨rfl, hb⟩
  rw [← Jm1.out]
  replace Fv := Shut.mk (Fv.out.below hb)
  replace Fu := Shut.mk (Fu.out.below hb)
  replace Fw0 := Shut.mk (Fw0.out.below hb)
  replace Fg0 := Shut.mk (Fg0.out.below hb)
  have z16 := hb.size
  replace HB := Shut.mk (HB.out.trans (hb.mono HB.out.size))
  clear hb
  have hm0 : ¬ (m1 : Int) < 0 := by omega
  have hmm : ((m1 : Int) != (m1 : Int)) = false := by simp
  go_wp2_with fail
  refine (toIntSS_val Fv.out HFX.out).mono ?_
  rintro e w17 ⟨a5, rfl, hA, hb⟩
  have Fa5 := Shut.mk hA
  clear hA
  replace Fv := Shut.mk (Fv.out.below hb)
  replace Fu := Shut.mk (Fu.out.below hb)
  replace Fw0 := Shut.mk (Fw0.out.below hb)
  replace Fg0 := Shut.mk (Fg0.out.below hb)
  have z17 := hb.size
  replace HB := Shut.mk (HB.out.trans (hb.mono HB.out.size))
  clear hb
  go_wp2_with fail
  refine (toIntSS_val Fu.out HFY.out).mono ?_
  rintro e w18 ⟨a6, rfl, hA, hb⟩
  have Fa6 := Shut.mk hA
  clear hA
  replace Fv := Shut.mk (Fv.out.below hb)
  replace Fu := Shut.mk (Fu.out.below hb)
  replace Fw0 := Shut.mk (Fw0.out.below hb)
  replace Fg0 := Shut.mk (Fg0.out.below hb)
  replace Fa5 := Shut.mk (Fa5.out.below hb)
  have z18 := hb.size
  replace HB := Shut.mk (HB.out.trans (hb.mono HB.out.size))
  clear hb
  go_wp2_with fail
  refine (HI.out _ _ _ _ _ _ _ Fa5.out.see Fa6.out.see).mono ?_
  rintro e w19 ⟨h0, rfl, hA, hb⟩
  have Fh0 := Shut.mk hA
  clear hA
  replace Fv := Shut.mk (Fv.out.below hb)
  replace Fu := Shut.mk (Fu.out.below hb)
  replace Fw0 := Shut.mk (Fw0.out.below hb)
  replace Fg0 := Shut.mk (Fg0.out.below hb)
  replace Fa5 := Shut.mk (Fa5.out.below hb)
  replace Fa6 := Shut.mk (Fa6.out.below hb)
  have z19 := hb.size
  replace HB := Shut.mk (HB.out.trans (hb.mono HB.out.size))
  clear hb
  go_wp2_with fail
  refine (eqIntSS_val Fh0.out.see Fw0.out.see HFR.out).mono ?_
  rintro e w20 ⟨rfl, hb⟩
  replace Fv := Shut.mk (Fv.out.below hb)
  replace Fu := Shut.mk (Fu.out.below hb)
  replace Fw0 := Shut.mk (Fw0.out.below hb)
  replace Fg0 := Shut.mk (Fg0.out.below hb)
  replace Fa5 := Shut.mk (Fa5.out.below hb)
  replace Fa6 := Shut.mk (Fa6.out.below hb)
  replace Fh0 := Shut.mk (Fh0.out.below hb)
  have z20 := hb.size
  replace HB := Shut.mk (HB.out.trans (hb.mono HB.out.size))
  clear hb
  go_wp2_with fail
  refine (heldIntSS_val Fg0.out HFR.out (by omega)).mono ?_
  rintro e w21 ⟨rfl, hb⟩
  rw [← Jm1.out]
  replace Fv := Shut.mk (Fv.out.below hb)
  replace Fu := Shut.mk (Fu.out.below hb)
  replace Fw0 := Shut.mk (Fw0.out.below hb)
  replace Fg0 := Shut.mk (Fg0.out.below hb)
  replace Fa5 := Shut.mk (Fa5.out.below hb)
  replace Fa6 := Shut.mk (Fa6.out.below hb)
  replace Fh0 := Shut.mk (Fh0.out.below hb)
  have z21 := hb.size
  replace HB := Shut.mk (HB.out.trans (hb.mono HB.out.size))
  clear hb
  go_wp2_with fail
  go_ret
  exact ⟨rfl, HB.out⟩
end Go.Proofs.Ytdpcndbfbmphjaa
