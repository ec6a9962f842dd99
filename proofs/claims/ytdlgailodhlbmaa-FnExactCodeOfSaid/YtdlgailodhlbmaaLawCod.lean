/- The walks of the exact laws over SchemaOf, CodeOf and Encode, over what is told of the program's own functions at every argument (written by gen/mklawcode.py). -/
import Derived.Test.YtdlgailodhlbmaaCodC
import Derived.Test.YtdlgailodhlbmaaLawApp
namespace Go.Proofs.Ytdlgailodhlbmaa
open Go.RowKit
open W (B8 Mx)
attribute [local irreducible] W.gm W.xs W.mm W.gi mx invX oneX matOk xsum appX tsum codeX encX decX rebX schK schM schOk

theorem encX_len (s : Int) (L : List ByteArray) : (encX s L).1.length ≤ 8 := by
  by_cases h : schOk s = true ∧ L.length = schK s ∧ shortL L = true
  · rw [encX_yes h]; exact appX_len _ _
  · rw [encX_no h]; exact Nat.zero_le _
theorem codeX_fits (s : Int) : MFit (codeX s) := by
  cases h : schOk s with
  | true => exact codeX_fit h
  | false => rw [codeX_no h]; unfold MFit; simp [xsum]
set_option maxRecDepth 100000 in
set_option maxHeartbeats 4000000 in
theorem lawSchemaOf (h : ∀ (s : Int) (w : World), Calls Try.prog 12 #[.int .i64 s] w fun e w' => SchB s w e w') {w : World} {s : Int} :
    Calls Try.prog 5 #[.int .i64 s] w fun e w' => e = .returned (.bool true) ∧ Below w.heap.size w w' := by
  have HB : Shut (Below w.heap.size w w) := ⟨Below.refl _ _⟩
  have HH := Shut.mk h
  clear h
  go_enter Try.func5, Try.ntmps5
  have HS := Shut.mk (specSchema s)
  have HI := Shut.mk (HH.out s)
  unfold SchPost at HS
  unfold SchB at HI
  generalize schOk s = ok at HS HI
  generalize schK s = k at HS HI
  generalize schM s = m at HS HI
  have hoo : (ok != ok) = false := by cases ok <;> rfl
  have hkk : ((k : Int) != (k : Int)) = false := by simp
  have hmm : ((m : Int) != (m : Int)) = false := by simp
  clear HH
  go_wp2_with fail
  refine (HS.out _).mono ?_
  rintro e w1 ⟨rfl, hw⟩
  obtain rfl : w = w1 := hw.symm
  clear hw
  go_wp2_with fail
  refine (HI.out _).mono ?_
  rintro e w1 ⟨rfl, hb⟩
  have z1 := hb.size
  replace HB := Shut.mk (HB.out.trans (hb.mono HB.out.size))
  clear hb
  go_wp2_with fail
  go_ret
  exact ⟨rfl, HB.out⟩
set_option maxRecDepth 100000 in
set_option maxHeartbeats 4000000 in
theorem lawCodeOf (h : ∀ (s : Int) (w : World), Calls Try.prog 19 #[.int .i64 s] w fun e w' => MPost (codeX s) w e w') {w : World} {s : Int} :
    Calls Try.prog 6 #[.int .i64 s] w fun e w' => e = .returned (.bool true) ∧ Below w.heap.size w w' := by
  have HB : Shut (Below w.heap.size w w) := ⟨Below.refl _ _⟩
  have HH := Shut.mk h
  clear h
  go_enter Try.func6, Try.ntmps6
  have HFR := Shut.mk (codeX_fits s)
  have HS := Shut.mk (specCodeOf s)
  have HI := Shut.mk (HH.out s)
  generalize codeX s = R at HFR HS HI
  clear HH
  go_wp2_with fail
  refine (HS.out _).mono ?_
  rintro e w1 ⟨w0, rfl, hA, hb⟩
  have Fw0 := Shut.mk hA
  clear hA
  have z1 := hb.size
  replace HB := Shut.mk (HB.out.trans (hb.mono HB.out.size))
  clear hb
  go_wp2_with fail
  refine (HI.out _).mono ?_
  rintro e w2 ⟨g0, rfl, hA, hb⟩
  have Fg0 := Shut.mk hA
  clear hA
  replace Fw0 := Shut.mk (Fw0.out.below hb)
  have z2 := hb.size
  replace HB := Shut.mk (HB.out.trans (hb.mono HB.out.size))
  clear hb
  go_wp2_with fail
  refine (eqIntSS_val Fg0.out.see Fw0.out.see HFR.out).mono ?_
  rintro e w3 ⟨rfl, hb⟩
  replace Fw0 := Shut.mk (Fw0.out.below hb)
  replace Fg0 := Shut.mk (Fg0.out.below hb)
  have z3 := hb.size
  replace HB := Shut.mk (HB.out.trans (hb.mono HB.out.size))
  clear hb
  go_wp2_with fail
  refine (markIntSS_val 1 Fg0.out HFR.out (by omega)).mono ?_
  rintro e w4 ⟨rfl, hM, ht⟩
  obtain ⟨m1, hk⟩ : ∃ k : Nat, k = 1 + xsum R := ⟨_, rfl⟩
  rw [← hk]
  have Km1 : m1 ≤ 1 + 1048576 := by have := HFR.out; unfold MFit at this; omega
  have Jm1 := Shut.mk hk
  clear hk
  replace Fw0 := Shut.mk (Fw0.out.turned ht (by omega))
  replace Fg0 := Shut.mk hM
  clear hM
  have z4 := ht.size
  replace HB := Shut.mk (HB.out.trans (ht.below (by omega) HB.out.size))
  clear ht
  go_wp2_with fail
  refine (heldIntSS_val Fg0.out HFR.out (by omega)).mono ?_
  rintro e w5 ⟨rfl, hb⟩
  rw [← Jm1.out]
  replace Fw0 := Shut.mk (Fw0.out.below hb)
  replace Fg0 := Shut.mk (Fg0.out.below hb)
  have z5 := hb.size
  replace HB := Shut.mk (HB.out.trans (hb.mono HB.out.size))
  clear hb
  have hm0 : ¬ (m1 : Int) < 0 := by omega
  have hmm : ((m1 : Int) != (m1 : Int)) = false := by simp
  go_wp2_with fail
  refine (HI.out _).mono ?_
  rintro e w6 ⟨h0, rfl, hA, hb⟩
  have Fh0 := Shut.mk hA
  clear hA
  replace Fw0 := Shut.mk (Fw0.out.below hb)
  replace Fg0 := Shut.mk (Fg0.out.below hb)
  have z6 := hb.size
  replace HB := Shut.mk (HB.out.trans (hb.mono HB.out.size))
  clear hb
  go_wp2_with fail
  refine (eqIntSS_val Fh0.out.see Fw0.out.see HFR.out).mono ?_
  rintro e w7 ⟨rfl, hb⟩
  replace Fw0 := Shut.mk (Fw0.out.below hb)
  replace Fg0 := Shut.mk (Fg0.out.below hb)
  replace Fh0 := Shut.mk (Fh0.out.below hb)
  have z7 := hb.size
  replace HB := Shut.mk (HB.out.trans (hb.mono HB.out.size))
  clear hb
  go_wp2_with fail
  refine (heldIntSS_val Fg0.out HFR.out (by omega)).mono ?_
  rintro e w8 ⟨rfl, hb⟩
  rw [← Jm1.out]
  replace Fw0 := Shut.mk (Fw0.out.below hb)
  replace Fg0 := Shut.mk (Fg0.out.below hb)
  replace Fh0 := Shut.mk (Fh0.out.below hb)
  have z8 := hb.size
  replace HB := Shut.mk (HB.out.trans (hb.mono HB.out.size))
  clear hb
  go_wp2_with fail
  go_ret
  exact ⟨rfl, HB.out⟩
set_option maxRecDepth 100000 in
set_option maxHeartbeats 4000000 in
theorem lawEncode (h : ∀ (w : World) (u : Value) (L : List ByteArray) (lo hi : Nat) (s : Int), SSee w u L lo hi → TFit L → Calls Try.prog 13 #[.int .i64 s, u] w fun e w' => TPost (encX s L) w e w') {w : World} {s : Int} {u : Value} {L : List ByteArray} (hu : SSee w u L 0 w.heap.size) (lL : L.length ≤ 9223372036854775807 ∧ ∀ x ∈ L, x.size ≤ 9223372036854775807) :
    Calls Try.prog 7 #[.int .i64 s, u] w fun e w' => e = .returned (.bool true) ∧ Below w.heap.size w w' := by
  have Fu := Shut.mk hu
  have HL := Shut.mk lL
  clear hu lL
  have HB : Shut (Below w.heap.size w w) := ⟨Below.refl _ _⟩
  have HH := Shut.mk h
  clear h
  go_enter Try.func7, Try.ntmps7
  go_wp2_with fail
  refine (szStringS_val 1048576 Fu.out HL.out (by omega) (by omega)).mono ?_
  rintro e w1 ⟨r0, rfl, hw, q1, q2⟩
  obtain rfl : w = w1 := hw.symm
  clear hw
  by_cases hfit : ((L.length + tsum L : Nat) : Int) ≤ 1048576
  case neg =>
    have hneg : r0 < 0 := q2 (by omega)
    clear q1 q2
    go_wp2_with fail
    go_ret
    exact ⟨rfl, HB.out⟩
  have hr := q1 hfit
  have r0n : ¬ r0 < 0 := by omega
  have HFL : Shut (TFit L) := ⟨by unfold TFit; omega⟩
  have NL : L.length ≤ 1048576 := by omega
  clear q1 q2 hr hfit
  have HLR := encX_len s L
  have HS := Shut.mk fun (w : World) (u : Value) (lo hi : Nat) (hs : SSee w u L lo hi) => specEncode s hs HFL.out
  have HI := Shut.mk fun (w : World) (u : Value) (lo hi : Nat) (hs : SSee w u L lo hi) => HH.out w u L lo hi s hs HFL.out
  obtain ⟨R, ok, hre⟩ : ∃ R ok, encX s L = (R, ok) := ⟨_, _, rfl⟩
  rw [hre] at HLR HS HI
  replace HLR : R.length ≤ 8 := HLR
  have hoo : (ok != ok) = false := by cases ok <;> rfl
  clear HH hre
  go_wp2_with fail
  refine (toStringS_val Fu.out HFL.out).mono ?_
  rintro e w1 ⟨a1, rfl, hA, hb⟩
  have Fa1 := Shut.mk hA
  clear hA
  replace Fu := Shut.mk (Fu.out.below hb)
  have z1 := hb.size
  replace HB := Shut.mk (HB.out.trans (hb.mono HB.out.size))
  clear hb
  go_wp2_with fail
  refine (HS.out _ _ _ _ Fa1.out.see).mono ?_
  rintro e w2 ⟨w0, rfl, hA, hb⟩
  have Fw0 := Shut.mk (show SAns w2 w0 R _ _ from hA)
  clear hA
  replace Fu := Shut.mk (Fu.out.below hb)
  replace Fa1 := Shut.mk (Fa1.out.below hb)
  have z2 := hb.size
  replace HB := Shut.mk (HB.out.trans (hb.mono HB.out.size))
  clear hb
  clear Fa1
  go_wp2_with fail
  refine (toStringS_val Fu.out HFL.out).mono ?_
  rintro e w3 ⟨x1, rfl, hA, hb⟩
  have Fx1 := Shut.mk hA
  clear hA
  replace Fu := Shut.mk (Fu.out.below hb)
  replace Fw0 := Shut.mk (Fw0.out.below hb)
  have z3 := hb.size
  replace HB := Shut.mk (HB.out.trans (hb.mono HB.out.size))
  clear hb
  go_wp2_with fail
  refine (HI.out _ _ _ _ Fx1.out.see).mono ?_
  rintro e w4 ⟨g0, rfl, hA, hb⟩
  have Fg0 := Shut.mk (show SAns w4 g0 R _ _ from hA)
  clear hA
  replace Fu := Shut.mk (Fu.out.below hb)
  replace Fw0 := Shut.mk (Fw0.out.below hb)
  replace Fx1 := Shut.mk (Fx1.out.below hb)
  have z4 := hb.size
  replace HB := Shut.mk (HB.out.trans (hb.mono HB.out.size))
  clear hb
  go_wp2_with fail
  refine (eqStringS_val Fg0.out Fw0.out (by omega)).mono ?_
  rintro e w5 ⟨rfl, hb⟩
  replace Fu := Shut.mk (Fu.out.below hb)
  replace Fw0 := Shut.mk (Fw0.out.below hb)
  replace Fx1 := Shut.mk (Fx1.out.below hb)
  replace Fg0 := Shut.mk (Fg0.out.below hb)
  have z5 := hb.size
  replace HB := Shut.mk (HB.out.trans (hb.mono HB.out.size))
  clear hb
  go_wp2_with fail
  refine (toStringS_val Fu.out HFL.out).mono ?_
  rintro e w6 ⟨a4, rfl, hA, hb⟩
  have Fa4 := Shut.mk hA
  clear hA
  replace Fu := Shut.mk (Fu.out.below hb)
  replace Fw0 := Shut.mk (Fw0.out.below hb)
  replace Fx1 := Shut.mk (Fx1.out.below hb)
  replace Fg0 := Shut.mk (Fg0.out.below hb)
  have z6 := hb.size
  replace HB := Shut.mk (HB.out.trans (hb.mono HB.out.size))
  clear hb
  go_wp2_with fail
  refine (eqStringS_val Fx1.out Fa4.out (by omega)).mono ?_
  rintro e w7 ⟨rfl, hb⟩
  replace Fu := Shut.mk (Fu.out.below hb)
  replace Fw0 := Shut.mk (Fw0.out.below hb)
  replace Fx1 := Shut.mk (Fx1.out.below hb)
  replace Fg0 := Shut.mk (Fg0.out.below hb)
  replace Fa4 := Shut.mk (Fa4.out.below hb)
  have z7 := hb.size
  replace HB := Shut.mk (HB.out.trans (hb.mono HB.out.size))
  clear hb
  clear Fa4
  go_wp2_with fail
  refine (markStringS_val 1 Fx1.out (by omega) (by have := NL; omega)).mono ?_
  rintro e w8 ⟨rfl, hM, ht⟩
  obtain ⟨k1, hk⟩ : ∃ k : Nat, k = 1 + List.length L := ⟨_, rfl⟩
  rw [← hk]
  have Kk1 : k1 ≤ 1 + 1048576 := by have := NL; omega
  have Jk1 := Shut.mk hk
  clear hk
  replace Fu := Shut.mk (Fu.out.turned ht (by omega))
  replace Fw0 := Shut.mk (Fw0.out.turned ht (by omega))
  replace Fg0 := Shut.mk (Fg0.out.turned ht (by omega))
  replace Fx1 := Shut.mk hM
  clear hM
  have z8 := ht.size
  replace HB := Shut.mk (HB.out.trans (ht.below (by omega) HB.out.size))
  clear ht
  have hk0 : ¬ (k1 : Int) < 0 := by omega
  clear Fx1
  go_wp2_with fail
  refine (eqStringS_val Fg0.out Fw0.out (by omega)).mono ?_
  rintro e w9 ⟨rfl, hb⟩
  replace Fu := Shut.mk (Fu.out.below hb)
  replace Fw0 := Shut.mk (Fw0.out.below hb)
  replace Fg0 := Shut.mk (Fg0.out.below hb)
  have z9 := hb.size
  replace HB := Shut.mk (HB.out.trans (hb.mono HB.out.size))
  clear hb
  go_wp2_with fail
  refine (markStringS_val 1 Fg0.out (by omega) (by have := HLR; omega)).mono ?_
  rintro e w10 ⟨rfl, hM, ht⟩
  obtain ⟨m1, hk⟩ : ∃ k : Nat, k = 1 + List.length R := ⟨_, rfl⟩
  rw [← hk]
  have Km1 : m1 ≤ 1 + 1048576 := by have := HLR; omega
  have Jm1 := Shut.mk hk
  clear hk
  replace Fu := Shut.mk (Fu.out.turned ht (by omega))
  replace Fw0 := Shut.mk (Fw0.out.turned ht (by omega))
  replace Fg0 := Shut.mk hM
  clear hM
  have z10 := ht.size
  replace HB := Shut.mk (HB.out.trans (ht.below (by omega) HB.out.size))
  clear ht
  go_wp2_with fail
  refine (heldStringS_val Fg0.out (by omega) (by have := HLR; omega)).mono ?_
  rintro e w11 ⟨rfl, hb⟩
  rw [← Jm1.out]
  replace Fu := Shut.mk (Fu.out.below hb)
  replace Fw0 := Shut.mk (Fw0.out.below hb)
  replace Fg0 := Shut.mk (Fg0.out.below hb)
  have z11 := hb.size
  replace HB := Shut.mk (HB.out.trans (hb.mono HB.out.size))
  clear hb
  have hm0 : ¬ (m1 : Int) < 0 := by omega
  have hmm : ((m1 : Int) != (m1 : Int)) = false := by simp
  go_wp2_with fail
  refine (toStringS_val Fu.out HFL.out).mono ?_
  rintro e w12 ⟨a6, rfl, hA, hb⟩
  have Fa6 := Shut.mk hA
  clear hA
  replace Fu := Shut.mk (Fu.out.below hb)
  replace Fw0 := Shut.mk (Fw0.out.below hb)
  replace Fg0 := Shut.mk (Fg0.out.below hb)
  have z12 := hb.size
  replace HB := Shut.mk (HB.out.trans (hb.mono HB.out.size))
  clear hb
  go_wp2_with fail
  refine (HI.out _ _ _ _ Fa6.out.see).mono ?_
  rintro e w13 ⟨h0, rfl, hA, hb⟩
  have Fh0 := Shut.mk (show SAns w13 h0 R _ _ from hA)
  clear hA
  replace Fu := Shut.mk (Fu.out.below hb)
  replace Fw0 := Shut.mk (Fw0.out.below hb)
  replace Fg0 := Shut.mk (Fg0.out.below hb)
  replace Fa6 := Shut.mk (Fa6.out.below hb)
  have z13 := hb.size
  replace HB := Shut.mk (HB.out.trans (hb.mono HB.out.size))
  clear hb
  go_wp2_with fail
  refine (eqStringS_val Fh0.out Fw0.out (by omega)).mono ?_
  rintro e w14 ⟨rfl, hb⟩
  replace Fu := Shut.mk (Fu.out.below hb)
  replace Fw0 := Shut.mk (Fw0.out.below hb)
  replace Fg0 := Shut.mk (Fg0.out.below hb)
  replace Fa6 := Shut.mk (Fa6.out.below hb)
  replace Fh0 := Shut.mk (Fh0.out.below hb)
  have z14 := hb.size
  replace HB := Shut.mk (HB.out.trans (hb.mono HB.out.size))
  clear hb
  go_wp2_with fail
  refine (heldStringS_val Fg0.out (by omega) (by have := HLR; omega)).mono ?_
  rintro e w15 ⟨rfl, hb⟩
  rw [← Jm1.out]
  replace Fu := Shut.mk (Fu.out.below hb)
  replace Fw0 := Shut.mk (Fw0.out.below hb)
  replace Fg0 := Shut.mk (Fg0.out.below hb)
  replace Fa6 := Shut.mk (Fa6.out.below hb)
  replace Fh0 := Shut.mk (Fh0.out.below hb)
  have z15 := hb.size
  replace HB := Shut.mk (HB.out.trans (hb.mono HB.out.size))
  clear hb
  go_wp2_with fail
  go_ret
  exact ⟨rfl, HB.out⟩
end Go.Proofs.Ytdlgailodhlbmaa
