/- The walks of the exact laws over stripes, over what is told of the program's own functions at every argument (written by gen/mklawstr.py). -/
import Derived.Test.YtpcedackanfnjaaSpnE
import Derived.Test.YtpcedackanfnjaaStrW
namespace Go.Proofs.Ytpcedackanfnjaa
open Go.RowKit
attribute [local irreducible] schK schM schOk groupN placeX offX cutX joinX spansX tsum

theorem cutX_len (s : Int) (t : ByteArray) : (cutX s t).1.length ≤ 8 := by
  unfold cutX
  split
  · rename_i h
    show (cutL _ _ _).length ≤ 8
    rw [cutL_len]; have := (sch_bounds h.1).2.1; omega
  · exact Nat.zero_le _
set_option maxRecDepth 100000 in
set_option maxHeartbeats 4000000 in
theorem lawGroupSize (h : ∀ (s : Int) (w : World), Calls Try.prog 15 #[.int .i64 s] w fun e w' => e = .returned (.int .i64 (groupN s : Nat)) ∧ Below w.heap.size w w') {w : World} {s : Int} :
    Calls Try.prog 5 #[.int .i64 s] w fun e w' => e = .returned (.bool true) ∧ Below w.heap.size w w' := by
  have HB : Shut (Below w.heap.size w w) := ⟨Below.refl _ _⟩
  have HH := Shut.mk h
  clear h
  go_enter Try.func5, Try.ntmps5
  have HS := Shut.mk (fun W => specGroupSize s W)
  have HI := Shut.mk (fun W => HH.out s W)
  generalize groupN s = S at HS HI
  have hss : ((S : Int) != (S : Int)) = false := by simp
  clear HH
  go_wp2_with fail
  refine (HS.out _).mono ?_
  rintro e w1 ⟨rfl, hw⟩
  obtain rfl : w = w1 := hw.symm
  clear hw
  go_wp2_with fail
  refine (HI.out _).mono ?_
  rintro e w1 ⟨rfl, hb⟩
  have z1 := hb.size
  replace HB := Shut.mk (HB.out.trans (hb.mono HB.out.size))
  clear hb
  go_wp2_with fail
  go_ret
  exact ⟨rfl, HB.out⟩
set_option maxRecDepth 100000 in
set_option maxHeartbeats 4000000 in
theorem lawPlaceOf (h : ∀ (s o : Int) (w : World), Calls Try.prog 13 #[.int .i64 s, .int .i64 o] w fun e w' => PlacePost s o w e w') {w : World} {s o : Int} :
    Calls Try.prog 6 #[.int .i64 s, .int .i64 o] w fun e w' => e = .returned (.bool true) ∧ Below w.heap.size w w' := by
  have HB : Shut (Below w.heap.size w w) := ⟨Below.refl _ _⟩
  have HH := Shut.mk h
  clear h
  go_enter Try.func6, Try.ntmps6
  have HS := Shut.mk (fun W => specPlaceOf s o W)
  have HI := Shut.mk (fun W => HH.out s o W)
  unfold PlacePost at HS HI
  generalize (placeX s o).1 = x1 at HS HI
  generalize (placeX s o).2.1 = x2 at HS HI
  generalize (placeX s o).2.2 = x3 at HS HI
  have h1 : ((x1 : Int) != (x1 : Int)) = false := by simp
  have h2 : ((x2 : Int) != (x2 : Int)) = false := by simp
  have h3 : ((x3 : Int) != (x3 : Int)) = false := by simp
  clear HH
  go_wp2_with fail
  refine (HS.out _).mono ?_
  rintro e w1 ⟨rfl, hb⟩
  have z1 := hb.size
  replace HB := Shut.mk (HB.out.trans (hb.mono HB.out.size))
  clear hb
  go_wp2_with fail
  refine (HI.out _).mono ?_
  rintro e w2 ⟨rfl, hb⟩
  have z2 := hb.size
  replace HB := Shut.mk (HB.out.trans (hb.mono HB.out.size))
  clear hb
  go_wp2_with fail
  go_ret
  exact ⟨rfl, HB.out⟩
set_option maxRecDepth 100000 in
set_option maxHeartbeats 4000000 in
theorem lawOffsetOf (h : ∀ (s gr un at' : Int) (w : World), Calls Try.prog 14 #[.int .i64 s, .int .i64 gr, .int .i64 un, .int .i64 at'] w fun e w' => e = .returned (.int .i64 (offX s gr un at')) ∧ Below w.heap.size w w') {w : World} {s gr un at' : Int} :
    Calls Try.prog 7 #[.int .i64 s, .int .i64 gr, .int .i64 un, .int .i64 at'] w fun e w' => e = .returned (.bool true) ∧ Below w.heap.size w w' := by
  have HB : Shut (Below w.heap.size w w) := ⟨Below.refl _ _⟩
  have HH := Shut.mk h
  clear h
  go_enter Try.func7, Try.ntmps7
  have HS := Shut.mk (fun W => specOffsetOf s gr un at' W)
  have HI := Shut.mk (fun W => HH.out s gr un at' W)
  generalize offX s gr un at' = x1 at HS HI
  have h1 : (x1 != x1) = false := by simp
  clear HH
  go_wp2_with fail
  refine (HS.out _).mono ?_
  rintro e w1 ⟨rfl, hw⟩
  obtain rfl : w = w1 := hw.symm
  clear hw
  go_wp2_with fail
  refine (HI.out _).mono ?_
  rintro e w1 ⟨rfl, hb⟩
  have z1 := hb.size
  replace HB := Shut.mk (HB.out.trans (hb.mono HB.out.size))
  clear hb
  go_wp2_with fail
  go_ret
  exact ⟨rfl, HB.out⟩
set_option maxRecDepth 100000 in
set_option maxHeartbeats 4000000 in
theorem lawCutUnits (h : ∀ (s : Int) (t : ByteArray) (w : World), t.size ≤ 1048576 → Calls Try.prog 19 #[.int .i64 s, .string t] w fun e w' => TPost8 (cutX s t) w e w') {w : World} {s : Int} {t : ByteArray} (ht : t.size ≤ 9223372036854775807) :
    Calls Try.prog 8 #[.int .i64 s, .string t] w fun e w' => e = .returned (.bool true) ∧ Below w.heap.size w w' := by
  have HB : Shut (Below w.heap.size w w) := ⟨Below.refl _ _⟩
  have HH := Shut.mk h
  clear h
  go_enter Try.func8, Try.ntmps8
  by_cases hbig : (1048576 : Int) < (t.size : Int)
  case pos =>
    go_wp2_with fail
    go_ret
    exact ⟨rfl, HB.out⟩
  have HLR := cutX_len s t
  have HS := Shut.mk (fun W => specCutUnits s t W ht)
  have HI := Shut.mk (fun W => HH.out s t W (by omega))
  obtain ⟨R, ok, hre⟩ : ∃ R ok, cutX s t = (R, ok) := ⟨_, _, rfl⟩
  rw [hre] at HLR HS HI
  replace HLR : R.length ≤ 8 := HLR
  have hoo : (ok != ok) = false := by cases ok <;> rfl
  clear HH hre
  go_wp2_with fail
  refine (HS.out _).mono ?_
  rintro e w1 ⟨w0, rfl, hA, hb⟩
  have Fw0 := Shut.mk (show SAns w1 w0 R _ _ from hA)
  clear hA
  have z1 := hb.size
  replace HB := Shut.mk (HB.out.trans (hb.mono HB.out.size))
  clear hb
  go_wp2_with fail
  refine (HI.out _).mono ?_
  rintro e w2 ⟨g0, rfl, hA, hb⟩
  have Fg0 := Shut.mk (show SAns w2 g0 R _ _ from hA)
  clear hA
  replace Fw0 := Shut.mk (Fw0.out.below hb)
  have z2 := hb.size
  replace HB := Shut.mk (HB.out.trans (hb.mono HB.out.size))
  clear hb
  go_wp2_with fail
  refine (eqStringS_val Fg0.out Fw0.out (by omega)).mono ?_
  rintro e w3 ⟨rfl, hb⟩
  replace Fw0 := Shut.mk (Fw0.out.below hb)
  replace Fg0 := Shut.mk (Fg0.out.below hb)
  have z3 := hb.size
  replace HB := Shut.mk (HB.out.trans (hb.mono HB.out.size))
  clear hb
  go_wp2_with fail
  refine (markStringS_val 1 Fg0.out (by omega) (by have := HLR; omega)).mono ?_
  rintro e w4 ⟨rfl, hM, ht⟩
  obtain ⟨m1, hk⟩ : ∃ k : Nat, k = 1 + List.length R := ⟨_, rfl⟩
  rw [← hk]
  have Km1 : m1 ≤ 1 + 1048576 := by have := HLR; omega
  have Jm1 := Shut.mk hk
  clear hk
  replace Fw0 := Shut.mk (Fw0.out.turned ht (by omega))
  replace Fg0 := Shut.mk hM
  clear hM
  have z4 := ht.size
  replace HB := Shut.mk (HB.out.trans (ht.below (by omega) HB.out.size))
  clear ht
  go_wp2_with fail
  refine (heldStringS_val Fg0.out (by omega) (by have := HLR; omega)).mono ?_
  rintro e w5 ⟨rfl, hb⟩
  rw [← Jm1.out]
  replace Fw0 := Shut.mk (Fw0.out.below hb)
  replace Fg0 := Shut.mk (Fg0.out.below hb)
  have z5 := hb.size
  replace HB := Shut.mk (HB.out.trans (hb.mono HB.out.size))
  clear hb
  have hm0 : ¬ (m1 : Int) < 0 := by omega
  have hmm : ((m1 : Int) != (m1 : Int)) = false := by simp
  go_wp2_with fail
  refine (HI.out _).mono ?_
  rintro e w6 ⟨h0, rfl, hA, hb⟩
  have Fh0 := Shut.mk (show SAns w6 h0 R _ _ from hA)
  clear hA
  replace Fw0 := Shut.mk (Fw0.out.below hb)
  replace Fg0 := Shut.mk (Fg0.out.below hb)
  have z6 := hb.size
  replace HB := Shut.mk (HB.out.trans (hb.mono HB.out.size))
  clear hb
  go_wp2_with fail
  refine (eqStringS_val Fh0.out Fw0.out (by omega)).mono ?_
  rintro e w7 ⟨rfl, hb⟩
  replace Fw0 := Shut.mk (Fw0.out.below hb)
  replace Fg0 := Shut.mk (Fg0.out.below hb)
  replace Fh0 := Shut.mk (Fh0.out.below hb)
  have z7 := hb.size
  replace HB := Shut.mk (HB.out.trans (hb.mono HB.out.size))
  clear hb
  go_wp2_with fail
  refine (heldStringS_val Fg0.out (by omega) (by have := HLR; omega)).mono ?_
  rintro e w8 ⟨rfl, hb⟩
  rw [← Jm1.out]
  replace Fw0 := Shut.mk (Fw0.out.below hb)
  replace Fg0 := Shut.mk (Fg0.out.below hb)
  replace Fh0 := Shut.mk (Fh0.out.below hb)
  have z8 := hb.size
  replace HB := Shut.mk (HB.out.trans (hb.mono HB.out.size))
  clear hb
  go_wp2_with fail
  go_ret
  exact ⟨rfl, HB.out⟩
set_option maxRecDepth 100000 in
set_option maxHeartbeats 4000000 in
theorem lawJoinUnits (h : ∀ (w : World) (u : Value) (L : List ByteArray) (lo hi : Nat) (s n : Int), SSee w u L lo hi → TFit L → Calls Try.prog 20 #[.int .i64 s, u, .int .i64 n] w fun e w' => JoinPost (joinX s L n) w e w') {w : World} {s n : Int} {u : Value} {L : List ByteArray} (hu : SSee w u L 0 w.heap.size) (lL : L.length ≤ 9223372036854775807 ∧ ∀ x ∈ L, x.size ≤ 9223372036854775807) :
    Calls Try.prog 9 #[.int .i64 s, u, .int .i64 n] w fun e w' => e = .returned (.bool true) ∧ Below w.heap.size w w' := by
  have Fu := Shut.mk hu
  have HL := Shut.mk lL
  clear hu lL
  have HB : Shut (Below w.heap.size w w) := ⟨Below.refl _ _⟩
  have HH := Shut.mk h
  clear h
  go_enter Try.func9, Try.ntmps9
  go_wp2_with fail
  refine (szStringS_val 1048576 Fu.out HL.out (by omega) (by omega)).mono ?_
  rintro e w1 ⟨r0, rfl, hw, q1, q2⟩
  obtain rfl : w = w1 := hw.symm
  clear hw
  by_cases hfit : ((L.length + tsum L : Nat) : Int) ≤ 1048576
  case neg =>
    have hneg : r0 < 0 := q2 (by omega)
    clear q1 q2
    go_wp2_with fail
    go_ret
    exact ⟨rfl, HB.out⟩
  have hr := q1 hfit
  have r0n : ¬ r0 < 0 := by omega
  have HFL : Shut (TFit L) := ⟨by unfold TFit; omega⟩
  have NL : L.length ≤ 1048576 := by omega
  clear q1 q2 hr hfit
  have HS := Shut.mk fun (w : World) (u : Value) (lo hi : Nat) (hs : SSee w u L lo hi) => specJoinUnits s n hs HFL.out
  have HI := Shut.mk fun (w : World) (u : Value) (lo hi : Nat) (hs : SSee w u L lo hi) => HH.out w u L lo hi s n hs HFL.out
  unfold JoinPost at HS HI
  generalize (joinX s L n).1 = R at HS HI
  generalize (joinX s L n).2 = ok at HS HI
  have hoo : (ok != ok) = false := by cases ok <;> rfl
  clear HH
  go_wp2_with fail
  refine (toStringS_val Fu.out HFL.out).mono ?_
  rintro e w1 ⟨a1, rfl, hA, hb⟩
  have Fa1 := Shut.mk hA
  clear hA
  replace Fu := Shut.mk (Fu.out.below hb)
  have z1 := hb.size
  replace HB := Shut.mk (HB.out.trans (hb.mono HB.out.size))
  clear hb
  go_wp2_with fail
  refine (HS.out _ _ _ _ Fa1.out.see).mono ?_
  rintro e w2 ⟨rfl, hb⟩
  replace Fu := Shut.mk (Fu.out.below hb)
  replace Fa1 := Shut.mk (Fa1.out.below hb)
  have z2 := hb.size
  replace HB := Shut.mk (HB.out.trans (hb.mono HB.out.size))
  clear hb
  clear Fa1
  go_wp2_with fail
  refine (toStringS_val Fu.out HFL.out).mono ?_
  rintro e w3 ⟨x1, rfl, hA, hb⟩
  have Fx1 := Shut.mk hA
  clear hA
  replace Fu := Shut.mk (Fu.out.below hb)
  have z3 := hb.size
  replace HB := Shut.mk (HB.out.trans (hb.mono HB.out.size))
  clear hb
  go_wp2_with fail
  refine (HI.out _ _ _ _ Fx1.out.see).mono ?_
  rintro e w4 ⟨rfl, hb⟩
  replace Fu := Shut.mk (Fu.out.below hb)
  replace Fx1 := Shut.mk (Fx1.out.below hb)
  have z4 := hb.size
  replace HB := Shut.mk (HB.out.trans (hb.mono HB.out.size))
  clear hb
  go_wp2_with fail
  refine (toStringS_val Fu.out HFL.out).mono ?_
  rintro e w5 ⟨a4, rfl, hA, hb⟩
  have Fa4 := Shut.mk hA
  clear hA
  replace Fu := Shut.mk (Fu.out.below hb)
  replace Fx1 := Shut.mk (Fx1.out.below hb)
  have z5 := hb.size
  replace HB := Shut.mk (HB.out.trans (hb.mono HB.out.size))
  clear hb
  go_wp2_with fail
  refine (eqStringS_val Fx1.out Fa4.out (by omega)).mono ?_
  rintro e w6 ⟨rfl, hb⟩
  replace Fu := Shut.mk (Fu.out.below hb)
  replace Fx1 := Shut.mk (Fx1.out.below hb)
  replace Fa4 := Shut.mk (Fa4.out.below hb)
  have z6 := hb.size
  replace HB := Shut.mk (HB.out.trans (hb.mono HB.out.size))
  clear hb
  go_wp2_with fail
  go_ret
  exact ⟨rfl, HB.out⟩
set_option maxRecDepth 100000 in
set_option maxHeartbeats 4000000 in
theorem lawSpans (h : ∀ (s n : Int) (w : World), Calls Try.prog 16 #[.int .i64 s, .int .i64 n] w fun e w' => IPost (spansX s n) w e w') {w : World} {s n : Int} :
    Calls Try.prog 10 #[.int .i64 s, .int .i64 n] w fun e w' => e = .returned (.bool true) ∧ Below w.heap.size w w' := by
  have HB : Shut (Below w.heap.size w w) := ⟨Below.refl _ _⟩
  have HH := Shut.mk h
  clear h
  go_enter Try.func10, Try.ntmps10
  have HS := Shut.mk (fun W => specSpans s n W)
  have HI := Shut.mk (fun W => HH.out s n W)
  have HLR := spansX_len s n
  generalize spansX s n = R at HS HI HLR
  clear HH
  go_wp2_with fail
  refine (HS.out _).mono ?_
  rintro e w1 ⟨w0, rfl, hA, hb⟩
  have Fw0 := Shut.mk hA
  clear hA
  have z1 := hb.size
  replace HB := Shut.mk (HB.out.trans (hb.mono HB.out.size))
  clear hb
  go_wp2_with fail
  refine (HI.out _).mono ?_
  rintro e w2 ⟨g0, rfl, hA, hb⟩
  have Fg0 := Shut.mk hA
  clear hA
  replace Fw0 := Shut.mk (Fw0.out.below hb)
  have z2 := hb.size
  replace HB := Shut.mk (HB.out.trans (hb.mono HB.out.size))
  clear hb
  go_wp2_with fail
  refine (eqIntS_val Fg0.out Fw0.out (by omega)).mono ?_
  rintro e w3 ⟨rfl, hb⟩
  replace Fw0 := Shut.mk (Fw0.out.below hb)
  replace Fg0 := Shut.mk (Fg0.out.below hb)
  have z3 := hb.size
  replace HB := Shut.mk (HB.out.trans (hb.mono HB.out.size))
  clear hb
  go_wp2_with fail
  refine (markIntS_val 1 Fg0.out (by omega)).mono ?_
  rintro e w4 ⟨rfl, hM, ht⟩
  obtain ⟨m1, hk⟩ : ∃ k : Nat, k = 1 + List.length R := ⟨_, rfl⟩
  rw [← hk]
  have Km1 : m1 ≤ 100000 := by omega
  have Jm1 := Shut.mk hk
  clear hk
  replace Fw0 := Shut.mk (Fw0.out.turned ht (by omega))
  replace Fg0 := Shut.mk hM
  clear hM
  have z4 := ht.size
  replace HB := Shut.mk (HB.out.trans (ht.below (by omega) HB.out.size))
  clear ht
  go_wp2_with fail
  refine (heldIntS_val Fg0.out (by omega)).mono ?_
  rintro e w5 ⟨rfl, hb⟩
  rw [← Jm1.out]
  replace Fw0 := Shut.mk (Fw0.out.below hb)
  replace Fg0 := Shut.mk (Fg0.out.below hb)
  have z5 := hb.size
  replace HB := Shut.mk (HB.out.trans (hb.mono HB.out.size))
  clear hb
  have hm0 : ¬ (m1 : Int) < 0 := by omega
  have hmm : ((m1 : Int) != (m1 : Int)) = false := by simp
  go_wp2_with fail
  refine (HI.out _).mono ?_
  rintro e w6 ⟨h0, rfl, hA, hb⟩
  have Fh0 := Shut.mk hA
  clear hA
  replace Fw0 := Shut.mk (Fw0.out.below hb)
  replace Fg0 := Shut.mk (Fg0.out.below hb)
  have z6 := hb.size
  replace HB := Shut.mk (HB.out.trans (hb.mono HB.out.size))
  clear hb
  go_wp2_with fail
  refine (eqIntS_val Fh0.out Fw0.out (by omega)).mono ?_
  rintro e w7 ⟨rfl, hb⟩
  replace Fw0 := Shut.mk (Fw0.out.below hb)
  replace Fg0 := Shut.mk (Fg0.out.below hb)
  replace Fh0 := Shut.mk (Fh0.out.below hb)
  have z7 := hb.size
  replace HB := Shut.mk (HB.out.trans (hb.mono HB.out.size))
  clear hb
  go_wp2_with fail
  refine (heldIntS_val Fg0.out (by omega)).mono ?_
  rintro e w8 ⟨rfl, hb⟩
  rw [← Jm1.out]
  replace Fw0 := Shut.mk (Fw0.out.below hb)
  replace Fg0 := Shut.mk (Fg0.out.below hb)
  replace Fh0 := Shut.mk (Fh0.out.below hb)
  have z8 := hb.size
  replace HB := Shut.mk (HB.out.trans (hb.mono HB.out.size))
  clear hb
  go_wp2_with fail
  go_ret
  exact ⟨rfl, HB.out⟩
end Go.Proofs.Ytpcedackanfnjaa
