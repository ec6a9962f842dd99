/- The walk of the exact law over InvM, over what is told of the program. -/
import Derived.Test.YtdpcndbfbmphjaaLawMa
import Derived.Test.YtdpcndbfbmphjaaMatJ
namespace Go.Proofs.Ytdpcndbfbmphjaa
open Go.RowKit
open W (B8 Mx)
attribute [local irreducible] W.gm W.xs W.mm W.gi mx mulX invX oneX matOk xsum

theorem fit_inv (X : List (List Int)) : MFit (invX X).1 := by
  by_cases h : ∃ Y, IsInv X Y
  · obtain ⟨Y, h⟩ := h
    rw [invX_yes h]
    obtain ⟨⟨_, h1⟩, _, _⟩ := matOk_iff h.1
    exact fit_square (n := 8) (m := 8) (by rw [h.2.2.1.len]; exact h1) (fun y hy => by rw [(h.2.2.1.row y hy).1]; exact h1) (by omega)
  · rw [invX_no h]; unfold MFit; simp [xsum]
set_option maxRecDepth 100000 in
set_option maxHeartbeats 4000000 in
theorem lawInvM (h : ∀ (w : World) (v : Value) (X : List (List Int)) (lo hi : Nat), MSee w v X lo hi → MFit X → Calls Try.prog 18 #[v] w fun e w' => InvPost X w e w') {w : World} {v : Value} {X : List (List Int)} (hv : MSee w v X 0 w.heap.size) (lX : X.length ≤ 9223372036854775807 ∧ ∀ x ∈ X, x.length ≤ 9223372036854775807) :
    Calls Try.prog 9 #[v] w fun e w' => e = .returned (.bool true) ∧ Below w.heap.size w w' := by
  have Fv := Shut.mk hv
  have HX := Shut.mk lX
  clear hv lX
  have HB : Shut (Below w.heap.size w w) := ⟨Below.refl _ _⟩
  have HH := Shut.mk h
  clear h
  go_enter Try.func9, Try.ntmps9
  go_wp2_with fail
  refine (szIntSS_val 1048576 Fv.out HX.out (by omega) (by omega)).mono ?_
  rintro e w1 ⟨r0, rfl, hw, q1, q2⟩
  obtain rfl : w = w1 := hw.symm
  clear hw
  by_cases hfit : ((X.length + xsum X : Nat) : Int) ≤ 1048576
  case neg =>
    have hneg : r0 < 0 := q2 (by omega)
    clear q1 q2
    go_wp2_with fail
    go_ret
    exact ⟨rfl, HB.out⟩
  have hr := q1 hfit
  have r0n : ¬ r0 < 0 := by omega
  have HFX : Shut (MFit X) := ⟨by unfold MFit; omega⟩
  have r0b : r0 ≤ 1048576 := by omega
  clear q1 q2 hr hfit
  obtain ⟨R, ok, hre⟩ : ∃ R ok, invX X = (R, ok) := ⟨_, _, rfl⟩
  have HFR : Shut (MFit R) := ⟨by have := fit_inv X; rw [hre] at this; exact this⟩
  have HS := Shut.mk fun (w : World) (v : Value) (lo hi : Nat) (hs : MSee w v X lo hi) => specInvM hs HFX.out
  have HI := Shut.mk fun (w : World) (v : Value) (lo hi : Nat) (hs : MSee w v X lo hi) => HH.out w v X lo hi hs HFX.out
  have hoo : (ok != ok) = false := by cases ok <;> rfl
  clear HH
  have HRE := Shut.mk hre
  clear hre
  go_wp2_with fail
  refine (toIntSS_val Fv.out HFX.out).mono ?_
  rintro e w1 ⟨a1, rfl, hA, hb⟩
  have Fa1 := Shut.mk hA
  clear hA
  replace Fv := Shut.mk (Fv.out.below hb)
  have z1 := hb.size
  replace HB := Shut.mk (HB.out.trans (hb.mono HB.out.size))
  clear hb
  have hre := HRE.out
  go_wp2_with fail
  refine (HS.out _ _ _ _ Fa1.out.see).mono ?_
  rintro e w2 ⟨w0, rfl, hA, hb⟩
  rw [hre] at hA
  rw [hre]
  have Fw0 := Shut.mk hA
  clear hA
  replace Fv := Shut.mk (Fv.out.below hb)
  replace Fa1 := Shut.mk (Fa1.out.below hb)
  have z2 := hb.size
  replace HB := Shut.mk (HB.out.trans (hb.mono HB.out.size))
  clear hb
  clear hre
  clear Fa1
  go_wp2_with fail
  refine (toIntSS_val Fv.out HFX.out).mono ?_
  rintro e w3 ⟨x0, rfl, hA, hb⟩
  have Fx0 := Shut.mk hA
  clear hA
  replace Fv := Shut.mk (Fv.out.below hb)
  replace Fw0 := Shut.mk (Fw0.out.below hb)
  have z3 := hb.size
  replace HB := Shut.mk (HB.out.trans (hb.mono HB.out.size))
  clear hb
  have hre := HRE.out
  go_wp2_with fail
  refine (HI.out _ _ _ _ Fx0.out.see).mono ?_
  rintro e w4 ⟨g0, rfl, hA, hb⟩
  rw [hre] at hA
  rw [hre]
  have Fg0 := Shut.mk hA
  clear hA
  replace Fv := Shut.mk (Fv.out.below hb)
  replace Fw0 := Shut.mk (Fw0.out.below hb)
  replace Fx0 := Shut.mk (Fx0.out.below hb)
  have z4 := hb.size
  replace HB := Shut.mk (HB.out.trans (hb.mono HB.out.size))
  clear hb
  clear hre
  go_wp2_with fail
  refine (eqIntSS_val Fg0.out.see Fw0.out.see HFR.out).mono ?_
  rintro e w5 ⟨rfl, hb⟩
  replace Fv := Shut.mk (Fv.out.below hb)
  replace Fw0 := Shut.mk (Fw0.out.below hb)
  replace Fx0 := Shut.mk (Fx0.out.below hb)
  replace Fg0 := Shut.mk (Fg0.out.below hb)
  have z5 := hb.size
  replace HB := Shut.mk (HB.out.trans (hb.mono HB.out.size))
  clear hb
  go_wp2_with fail
  refine (toIntSS_val Fv.out HFX.out).mono ?_
  rintro e w6 ⟨a3, rfl, hA, hb⟩
  have Fa3 := Shut.mk hA
  clear hA
  replace Fv := Shut.mk (Fv.out.below hb)
  replace Fw0 := Shut.mk (Fw0.out.below hb)
  replace Fx0 := Shut.mk (Fx0.out.below hb)
  replace Fg0 := Shut.mk (Fg0.out.below hb)
  have z6 := hb.size
  replace HB := Shut.mk (HB.out.trans (hb.mono HB.out.size))
  clear hb
  go_wp2_with fail
  refine (eqIntSS_val Fx0.out.see Fa3.out.see HFX.out).mono ?_
  rintro e w7 ⟨rfl, hb⟩
  replace Fv := Shut.mk (Fv.out.below hb)
  replace Fw0 := Shut.mk (Fw0.out.below hb)
  replace Fx0 := Shut.mk (Fx0.out.below hb)
  replace Fg0 := Shut.mk (Fg0.out.below hb)
  replace Fa3 := Shut.mk (Fa3.out.below hb)
  have z7 := hb.size
  replace HB := Shut.mk (HB.out.trans (hb.mono HB.out.size))
  clear hb
  clear Fa3
  go_wp2_with fail
  refine (markIntSS_val 1 Fx0.out HFX.out (by omega)).mono ?_
  rintro e w8 ⟨rfl, hM, ht⟩
  obtain ⟨k1, hk⟩ : ∃ k : Nat, k = 1 + xsum X := ⟨_, rfl⟩
  rw [← hk]
  have Kk1 : k1 ≤ 1 + 1048576 := by have := HFX.out; unfold MFit at this; omega
  have Jk1 := Shut.mk hk
  clear hk
  replace Fv := Shut.mk (Fv.out.turned ht (by omega))
  replace Fw0 := Shut.mk (Fw0.out.turned ht (by omega))
  replace Fg0 := Shut.mk (Fg0.out.turned ht (by omega))
  replace Fx0 := Shut.mk hM
  clear hM
  have z8 := ht.size
  replace HB := Shut.mk (HB.out.trans (ht.below (by omega) HB.out.size))
  clear ht
  have hk0 : ¬ (k1 : Int) < 0 := by omega
  clear Fx0
  go_wp2_with fail
  refine (eqIntSS_val Fg0.out.see Fw0.out.see HFR.out).mono ?_
  rintro e w9 ⟨rfl, hb⟩
  replace Fv := Shut.mk (Fv.out.below hb)
  replace Fw0 := Shut.mk (Fw0.out.below hb)
  replace Fg0 := Shut.mk (Fg0.out.below hb)
  have z9 := hb.size
  replace HB := Shut.mk (HB.out.trans (hb.mono HB.out.size))
  clear hb
  go_wp2_with fail
  refine (markIntSS_val 1 Fg0.out HFR.out (by omega)).mono ?_
  rintro e w10 ⟨rfl, hM, ht⟩
  obtain ⟨m1, hk⟩ : ∃ k : Nat, k = 1 + xsum R := ⟨_, rfl⟩
  rw [← hk]
  have Km1 : m1 ≤ 1 + 1048576 := by have := HFR.out; unfold MFit at this; omega
  have Jm1 := Shut.mk hk
  clear hk
  replace Fv := Shut.mk (Fv.out.turned ht (by omega))
  replace Fw0 := Shut.mk (Fw0.out.turned ht (by omega))
  replace Fg0 := Shut.mk hM
  clear hM
  have z10 := ht.size
  replace HB := Shut.mk (HB.out.trans (ht.below (by omega) HB.out.size))
  clear ht
  go_wp2_with fail
  refine (heldIntSS_val Fg0.out HFR.out (by omega)).mono ?_
  rintro e w11 ⟨rfl, hb⟩
  rw [← Jm1.out]
  replace Fv := Shut.mk (Fv.out.below hb)
  replace Fw0 := Shut.mk (Fw0.out.below hb)
  replace Fg0 := Shut.mk (Fg0.out.below hb)
  have z11 := hb.size
  replace HB := Shut.mk (HB.out.trans (hb.mono HB.out.size))
  clear hb
  have hm0 : ¬ (m1 : Int) < 0 := by omega
  have hmm : ((m1 : Int) != (m1 : Int)) = false := by simp
  go_wp2_with fail
  refine (toIntSS_val Fv.out HFX.out).mono ?_
  rintro e w12 ⟨a5, rfl, hA, hb⟩
  have Fa5 := Shut.mk hA
  clear hA
  replace Fv := Shut.mk (Fv.out.below hb)
  replace Fw0 := Shut.mk (Fw0.out.below hb)
  replace Fg0 := Shut.mk (Fg0.out.below hb)
  have z12 := hb.size
  replace HB := Shut.mk (HB.out.trans (hb.mono HB.out.size))
  clear hb
  have hre := HRE.out
  go_wp2_with fail
  refine (HI.out _ _ _ _ Fa5.out.see).mono ?_
  rintro e w13 ⟨h0, rfl, hA, hb⟩
  rw [hre] at hA
  rw [hre]
  have Fh0 := Shut.mk hA
  clear hA
  replace Fv := Shut.mk (Fv.out.below hb)
  replace Fw0 := Shut.mk (Fw0.out.below hb)
  replace Fg0 := Shut.mk (Fg0.out.below hb)
  replace Fa5 := Shut.mk (Fa5.out.below hb)
  have z13 := hb.size
  replace HB := Shut.mk (HB.out.trans (hb.mono HB.out.size))
  clear hb
  clear hre
  go_wp2_with fail
  refine (eqIntSS_val Fh0.out.see Fw0.out.see HFR.out).mono ?_
  rintro e w14 ⟨rfl, hb⟩
  replace Fv := Shut.mk (Fv.out.below hb)
  replace Fw0 := Shut.mk (Fw0.out.below hb)
  replace Fg0 := Shut.mk (Fg0.out.below hb)
  replace Fa5 := Shut.mk (Fa5.out.below hb)
  replace Fh0 := Shut.mk (Fh0.out.below hb)
  have z14 := hb.size
  replace HB := Shut.mk (HB.out.trans (hb.mono HB.out.size))
  clear hb
  go_wp2_with fail
  refine (heldIntSS_val Fg0.out HFR.out (by omega)).mono ?_
  rintro e w15 ⟨rfl, hb⟩
  rw [← Jm1.out]
  replace Fv := Shut.mk (Fv.out.below hb)
  replace Fw0 := Shut.mk (Fw0.out.below hb)
  replace Fg0 := Shut.mk (Fg0.out.below hb)
  replace Fa5 := Shut.mk (Fa5.out.below hb)
  replace Fh0 := Shut.mk (Fh0.out.below hb)
  have z15 := hb.size
  replace HB := Shut.mk (HB.out.trans (hb.mono HB.out.size))
  clear hb
  go_wp2_with fail
  go_ret
  exact ⟨rfl, HB.out⟩
end Go.Proofs.Ytdpcndbfbmphjaa
