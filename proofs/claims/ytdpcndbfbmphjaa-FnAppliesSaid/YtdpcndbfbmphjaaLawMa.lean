/- The walk of the exact law over MatrixOk, over what is told of the program. -/
import Derived.Test.YtdpcndbfbmphjaaMatA
namespace Go.Proofs.Ytdpcndbfbmphjaa
open Go.RowKit
attribute [local irreducible] matOk xsum

theorem rws_big {ss : List SR} {n m : Nat} (h : ss.length ≤ n ∧ ∀ s ∈ ss, s.row.length ≤ m) : (rws ss).length ≤ n ∧ ∀ x ∈ rws ss, x.length ≤ m :=
  ⟨by rw [rws_len]; exact h.1, fun x hx => by obtain ⟨s, hs, rfl⟩ := List.mem_map.1 hx; exact h.2 s hs⟩
theorem fit_square {n m : Nat} {X : List (List Int)} (hn : X.length ≤ n) (hm : ∀ x ∈ X, x.length ≤ m) (h : n + n * m ≤ 1048576) : MFit X := by
  have hx : xsum X ≤ X.length * m := by
    clear hn h
    induction X with
    | nil => simp [xsum]
    | cons x X ih =>
      have h1 := hm x (by simp)
      have h2 := ih (fun y hy => hm y (by simp [hy]))
      simp only [xsum, List.length_cons]
      rw [Nat.add_mul]; omega
  unfold MFit
  have := Nat.mul_le_mul_right m hn
  omega
set_option maxRecDepth 100000 in
set_option maxHeartbeats 4000000 in
theorem lawMatrixOk (h : ∀ (w : World) (v : Value) (X : List (List Int)) (lo hi : Nat), MSee w v X lo hi → MFit X → Calls Try.prog 15 #[v] w fun e w' => e = .returned (.bool (matOk X)) ∧ Below w.heap.size w w') {w : World} {v : Value} {X : List (List Int)} (hv : MSee w v X 0 w.heap.size) (lX : X.length ≤ 9223372036854775807 ∧ ∀ x ∈ X, x.length ≤ 9223372036854775807) :
    Calls Try.prog 6 #[v] w fun e w' => e = .returned (.bool true) ∧ Below w.heap.size w w' := by
  have Fv := Shut.mk hv
  have HX := Shut.mk lX
  clear hv lX
  have HB : Shut (Below w.heap.size w w) := ⟨Below.refl _ _⟩
  have HH := Shut.mk h
  clear h
  go_enter Try.func6, Try.ntmps6
  go_wp2_with fail
  refine (szIntSS_val 1048576 Fv.out HX.out (by omega) (by omega)).mono ?_
  rintro e w1 ⟨r0, rfl, hw, q1, q2⟩
  obtain rfl : w = w1 := hw.symm
  clear hw
  by_cases hfit : ((X.length + xsum X : Nat) : Int) ≤ 1048576
  case neg =>
    have hneg : r0 < 0 := q2 (by omega)
    clear q1 q2
    go_wp2_with fail
    go_ret
    exact ⟨rfl, HB.out⟩
  have hr := q1 hfit
  have r0n : ¬ r0 < 0 := by omega
  have HFX : Shut (MFit X) := ⟨by unfold MFit; omega⟩
  have r0b : r0 ≤ 1048576 := by omega
  clear q1 q2 hr hfit
  have hS := fun (w : World) (v : Value) (lo hi : Nat) (hs : MSee w v X lo hi) => specMatrixOk hs HFX.out
  have hI := fun (w : World) (v : Value) (lo hi : Nat) (hs : MSee w v X lo hi) => HH.out w v X lo hi hs HFX.out
  generalize matOk X = mo at hS hI
  have HS := Shut.mk hS
  have HI := Shut.mk hI
  have hmo : (mo != mo) = false := by cases mo <;> rfl
  clear hS hI HH
  go_wp2_with fail
  refine (toIntSS_val Fv.out HFX.out).mono ?_
  rintro e w1 ⟨a1, rfl, hA, hb⟩
  have Fa1 := Shut.mk hA
  clear hA
  replace Fv := Shut.mk (Fv.out.below hb)
  have z1 := hb.size
  replace HB := Shut.mk (HB.out.trans (hb.mono HB.out.size))
  clear hb
  go_wp2_with fail
  refine (HS.out _ _ _ _ Fa1.out.see).mono ?_
  rintro e w2 ⟨rfl, hb⟩
  replace Fv := Shut.mk (Fv.out.below hb)
  replace Fa1 := Shut.mk (Fa1.out.below hb)
  have z2 := hb.size
  replace HB := Shut.mk (HB.out.trans (hb.mono HB.out.size))
  clear hb
  clear Fa1
  go_wp2_with fail
  refine (toIntSS_val Fv.out HFX.out).mono ?_
  rintro e w3 ⟨x0, rfl, hA, hb⟩
  have Fx0 := Shut.mk hA
  clear hA
  replace Fv := Shut.mk (Fv.out.below hb)
  have z3 := hb.size
  replace HB := Shut.mk (HB.out.trans (hb.mono HB.out.size))
  clear hb
  go_wp2_with fail
  refine (HI.out _ _ _ _ Fx0.out.see).mono ?_
  rintro e w4 ⟨rfl, hb⟩
  replace Fv := Shut.mk (Fv.out.below hb)
  replace Fx0 := Shut.mk (Fx0.out.below hb)
  have z4 := hb.size
  replace HB := Shut.mk (HB.out.trans (hb.mono HB.out.size))
  clear hb
  go_wp2_with fail
  refine (toIntSS_val Fv.out HFX.out).mono ?_
  rintro e w5 ⟨a2, rfl, hA, hb⟩
  have Fa2 := Shut.mk hA
  clear hA
  replace Fv := Shut.mk (Fv.out.below hb)
  replace Fx0 := Shut.mk (Fx0.out.below hb)
  have z5 := hb.size
  replace HB := Shut.mk (HB.out.trans (hb.mono HB.out.size))
  clear hb
  go_wp2_with fail
  refine (eqIntSS_val Fx0.out.see Fa2.out.see HFX.out).mono ?_
  rintro e w6 ⟨rfl, hb⟩
  replace Fv := Shut.mk (Fv.out.below hb)
  replace Fx0 := Shut.mk (Fx0.out.below hb)
  replace Fa2 := Shut.mk (Fa2.out.below hb)
  have z6 := hb.size
  replace HB := Shut.mk (HB.out.trans (hb.mono HB.out.size))
  clear hb
  go_wp2_with fail
  go_ret
  exact ⟨rfl, HB.out⟩
end Go.Proofs.Ytdpcndbfbmphjaa
