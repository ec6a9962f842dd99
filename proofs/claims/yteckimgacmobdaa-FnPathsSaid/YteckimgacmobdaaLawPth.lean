/- The walks of the exact laws over paths, over what is told of the program's own functions at every argument (first written by gen/mklawpath.py). -/
import Derived.Test.YteckimgacmobdaaPathC
import Derived.Test.YteckimgacmobdaaOffB
namespace Go.Proofs.Yteckimgacmobdaa
open Go.RowKit
attribute [local irreducible] nameB splitB joinB parentB tsum

/-- What an answer of texts and a flag is. -/
def TPost9 (R : List ByteArray × Bool) (w : World) (e : Ending) (w' : World) : Prop := ∃ v, e = .returned (.tuple #[v, .bool R.2]) ∧ OAns w' v R.1 w.heap.size w'.heap.size ∧ Below w.heap.size w w'
theorem OPost.tp {R : List ByteArray × Bool} {w w' : World} {e : Ending} (h : OPost R w e w') : TPost9 R w e w' := by
  obtain ⟨v, he, ho, hb⟩ := h
  exact ⟨v, he, (own_sans rfl ho).oans, hb⟩
theorem QPost.tp {R : List ByteArray × Bool} {w w' : World} {e : Ending} (h : QPost R w e w') : TPost9 R w e w' := by
  obtain ⟨v, he, ho, hb⟩ := h
  exact ⟨v, he, ho.oans, hb⟩
theorem same_toList (x : ByteArray) : (x.toList != x.toList) = false := by simp
set_option maxRecDepth 100000 in
set_option maxHeartbeats 4000000 in
theorem lawNameOk (h : ∀ (t : ByteArray) (w : World), t.size ≤ 1048576 → Calls Try.prog 15 #[.string t] w fun e w' => e = .returned (.bool (nameB t)) ∧ Below w.heap.size w w') {w : World} {t : ByteArray} (ht : t.size ≤ 9223372036854775807) :
    Calls Try.prog 4 #[.string t] w fun e w' => e = .returned (.bool true) ∧ Below w.heap.size w w' := by
  have HB : Shut (Below w.heap.size w w) := ⟨Below.refl _ _⟩
  have HH := Shut.mk h
  clear h
  go_enter Try.func4, Try.ntmps4
  by_cases hbig : (1048576 : Int) < (t.size : Int)
  case pos =>
    go_wp2_with fail
    go_ret
    exact ⟨rfl, HB.out⟩
  have HS := Shut.mk (fun W => specNameOk t W (by omega))
  have HI := Shut.mk (fun W => HH.out t W (by omega))
  generalize nameB t = r at HS HI
  have hoo : (r != r) = false := by cases r <;> rfl
  clear HH
  go_wp2_with fail
  refine (HS.out _).mono ?_
  rintro e w1 ⟨rfl, hb⟩
  have z1 := hb.size
  replace HB := Shut.mk (HB.out.trans (hb.mono HB.out.size))
  clear hb
  go_wp2_with fail
  refine (HI.out _).mono ?_
  rintro e w2 ⟨rfl, hb⟩
  have z2 := hb.size
  replace HB := Shut.mk (HB.out.trans (hb.mono HB.out.size))
  clear hb
  go_wp2_with fail
  go_ret
  exact ⟨rfl, HB.out⟩
set_option maxRecDepth 100000 in
set_option maxHeartbeats 4000000 in
theorem lawSplitPath (h : ∀ (t : ByteArray) (w : World), t.size ≤ 1048576 → Calls Try.prog 10 #[.string t] w fun e w' => QPost (splitB t) w e w') {w : World} {t : ByteArray} (ht : t.size ≤ 9223372036854775807) :
    Calls Try.prog 5 #[.string t] w fun e w' => e = .returned (.bool true) ∧ Below w.heap.size w w' := by
  have HB : Shut (Below w.heap.size w w) := ⟨Below.refl _ _⟩
  have HH := Shut.mk h
  clear h
  go_enter Try.func5, Try.ntmps5
  by_cases hbig : (1048576 : Int) < (t.size : Int)
  case pos =>
    go_wp2_with fail
    go_ret
    exact ⟨rfl, HB.out⟩
  have HLR := (splitB_names t).2
  have HS := Shut.mk (fun W => (specSplitPath t W (by omega)).mono (fun _ _ q => OPost.tp q))
  have HI := Shut.mk (fun W => (HH.out t W (by omega)).mono (fun _ _ q => QPost.tp q))
  obtain ⟨R, ok, hre⟩ : ∃ R ok, splitB t = (R, ok) := ⟨_, _, rfl⟩
  rw [hre] at HLR HS HI
  replace HLR : R.length ≤ 8 := by have : R.length ≤ 4 := HLR; omega
  have hoo : (ok != ok) = false := by cases ok <;> rfl
  clear HH hre
  go_wp2_with fail
  refine (HS.out _).mono ?_
  rintro e w1 ⟨w0, rfl, hA, hb⟩
  have Fw0 := Shut.mk (show OAns w1 w0 R _ _ from hA)
  clear hA
  have z1 := hb.size
  replace HB := Shut.mk (HB.out.trans (hb.mono HB.out.size))
  clear hb
  go_wp2_with fail
  refine (HI.out _).mono ?_
  rintro e w2 ⟨g0, rfl, hA, hb⟩
  have Fg0 := Shut.mk (show OAns w2 g0 R _ _ from hA)
  clear hA
  replace Fw0 := Shut.mk (Fw0.out.below hb)
  have z2 := hb.size
  replace HB := Shut.mk (HB.out.trans (hb.mono HB.out.size))
  clear hb
  go_wp2_with fail
  refine (eqStringS_off Fg0.out.see Fw0.out.see (by omega)).mono ?_
  rintro e w3 ⟨rfl, hb⟩
  replace Fw0 := Shut.mk (Fw0.out.below hb)
  replace Fg0 := Shut.mk (Fg0.out.below hb)
  have z3 := hb.size
  replace HB := Shut.mk (HB.out.trans (hb.mono HB.out.size))
  clear hb
  go_wp2_with fail
  refine (markStringS_off 1 Fg0.out (by omega) (by have := HLR; omega)).mono ?_
  rintro e w4 ⟨rfl, hM, ht⟩
  obtain ⟨m1, hk⟩ : ∃ k : Nat, k = 1 + List.length R := ⟨_, rfl⟩
  rw [← hk]
  have Km1 : m1 ≤ 1 + 1048576 := by have := HLR; omega
  have Jm1 := Shut.mk hk
  clear hk
  replace Fw0 := Shut.mk (Fw0.out.turned ht (by omega))
  replace Fg0 := Shut.mk hM
  clear hM
  have z4 := ht.size
  replace HB := Shut.mk (HB.out.trans (ht.below (by omega) HB.out.size))
  clear ht
  go_wp2_with fail
  refine (heldStringS_off Fg0.out.see (by omega) (by have := HLR; omega)).mono ?_
  rintro e w5 ⟨rfl, hb⟩
  rw [← Jm1.out]
  replace Fw0 := Shut.mk (Fw0.out.below hb)
  replace Fg0 := Shut.mk (Fg0.out.below hb)
  have z5 := hb.size
  replace HB := Shut.mk (HB.out.trans (hb.mono HB.out.size))
  clear hb
  have hm0 : ¬ (m1 : Int) < 0 := by omega
  have hmm : ((m1 : Int) != (m1 : Int)) = false := by simp
  go_wp2_with fail
  refine (HI.out _).mono ?_
  rintro e w6 ⟨h0, rfl, hA, hb⟩
  have Fh0 := Shut.mk (show OAns w6 h0 R _ _ from hA)
  clear hA
  replace Fw0 := Shut.mk (Fw0.out.below hb)
  replace Fg0 := Shut.mk (Fg0.out.below hb)
  have z6 := hb.size
  replace HB := Shut.mk (HB.out.trans (hb.mono HB.out.size))
  clear hb
  go_wp2_with fail
  refine (eqStringS_off Fh0.out.see Fw0.out.see (by omega)).mono ?_
  rintro e w7 ⟨rfl, hb⟩
  replace Fw0 := Shut.mk (Fw0.out.below hb)
  replace Fg0 := Shut.mk (Fg0.out.below hb)
  replace Fh0 := Shut.mk (Fh0.out.below hb)
  have z7 := hb.size
  replace HB := Shut.mk (HB.out.trans (hb.mono HB.out.size))
  clear hb
  go_wp2_with fail
  refine (heldStringS_off Fg0.out.see (by omega) (by have := HLR; omega)).mono ?_
  rintro e w8 ⟨rfl, hb⟩
  rw [← Jm1.out]
  replace Fw0 := Shut.mk (Fw0.out.below hb)
  replace Fg0 := Shut.mk (Fg0.out.below hb)
  replace Fh0 := Shut.mk (Fh0.out.below hb)
  have z8 := hb.size
  replace HB := Shut.mk (HB.out.trans (hb.mono HB.out.size))
  clear hb
  go_wp2_with fail
  go_ret
  exact ⟨rfl, HB.out⟩
set_option maxRecDepth 100000 in
set_option maxHeartbeats 4000000 in
theorem lawJoinPath (h : ∀ (w : World) (u : Value) (L : List ByteArray) (lo hi : Nat), CSee w u L lo hi → TFit L → Calls Try.prog 14 #[u] w fun e w' => e = .returned (.string (joinB L)) ∧ Below w.heap.size w w') {w : World} {u : Value} {L : List ByteArray} (hu : SSee w u L 0 w.heap.size) (lL : L.length ≤ 9223372036854775807 ∧ ∀ x ∈ L, x.size ≤ 9223372036854775807) :
    Calls Try.prog 6 #[u] w fun e w' => e = .returned (.bool true) ∧ Below w.heap.size w w' := by
  have Fu := Shut.mk hu
  have HL := Shut.mk lL
  clear hu lL
  have HB : Shut (Below w.heap.size w w) := ⟨Below.refl _ _⟩
  have HH := Shut.mk h
  clear h
  go_enter Try.func6, Try.ntmps6
  go_wp2_with fail
  refine (szStringS_val 1048576 Fu.out HL.out (by omega) (by omega)).mono ?_
  rintro e w1 ⟨r0, rfl, hw, q1, q2⟩
  obtain rfl : w = w1 := hw.symm
  clear hw
  by_cases hfit : ((L.length + tsum L : Nat) : Int) ≤ 1048576
  case neg =>
    have hneg : r0 < 0 := q2 (by omega)
    clear q1 q2
    go_wp2_with fail
    go_ret
    exact ⟨rfl, HB.out⟩
  have hr := q1 hfit
  have r0n : ¬ r0 < 0 := by omega
  have HFL : Shut (TFit L) := ⟨by unfold TFit; omega⟩
  have NL : L.length ≤ 1048576 := by omega
  clear q1 q2 hr hfit
  have HS := Shut.mk fun (w : World) (u : Value) (lo hi : Nat) (hs : SSee w u L lo hi) => specJoinPath hs HFL.out
  have HI := Shut.mk fun (w : World) (u : Value) (lo hi : Nat) (hs : CSee w u L lo hi) => HH.out w u L lo hi hs HFL.out
  generalize joinB L = R at HS HI
  have hoo := same_toList R
  clear HH
  go_wp2_with fail
  refine (toStringS_val Fu.out HFL.out).mono ?_
  rintro e w1 ⟨a1, rfl, hA, hb⟩
  have Fa1 := Shut.mk hA
  clear hA
  replace Fu := Shut.mk (Fu.out.below hb)
  have z1 := hb.size
  replace HB := Shut.mk (HB.out.trans (hb.mono HB.out.size))
  clear hb
  go_wp2_with fail
  refine (HS.out _ _ _ _ Fa1.out.see).mono ?_
  rintro e w2 ⟨rfl, hb⟩
  replace Fu := Shut.mk (Fu.out.below hb)
  replace Fa1 := Shut.mk (Fa1.out.below hb)
  have z2 := hb.size
  replace HB := Shut.mk (HB.out.trans (hb.mono HB.out.size))
  clear hb
  clear Fa1
  go_wp2_with fail
  refine (toStringS_val Fu.out HFL.out).mono ?_
  rintro e w3 ⟨x1, rfl, hA, hb⟩
  have Fx1 := Shut.mk hA
  clear hA
  replace Fu := Shut.mk (Fu.out.below hb)
  have z3 := hb.size
  replace HB := Shut.mk (HB.out.trans (hb.mono HB.out.size))
  clear hb
  go_wp2_with fail
  refine (HI.out _ _ _ _ Fx1.out.oans.csee).mono ?_
  rintro e w4 ⟨rfl, hb⟩
  replace Fu := Shut.mk (Fu.out.below hb)
  replace Fx1 := Shut.mk (Fx1.out.below hb)
  have z4 := hb.size
  replace HB := Shut.mk (HB.out.trans (hb.mono HB.out.size))
  clear hb
  go_wp2_with fail
  refine (toStringS_val Fu.out HFL.out).mono ?_
  rintro e w5 ⟨a4, rfl, hA, hb⟩
  have Fa4 := Shut.mk hA
  clear hA
  replace Fu := Shut.mk (Fu.out.below hb)
  replace Fx1 := Shut.mk (Fx1.out.below hb)
  have z5 := hb.size
  replace HB := Shut.mk (HB.out.trans (hb.mono HB.out.size))
  clear hb
  go_wp2_with fail
  refine (eqStringS_val Fx1.out Fa4.out (by omega)).mono ?_
  rintro e w6 ⟨rfl, hb⟩
  replace Fu := Shut.mk (Fu.out.below hb)
  replace Fx1 := Shut.mk (Fx1.out.below hb)
  replace Fa4 := Shut.mk (Fa4.out.below hb)
  have z6 := hb.size
  replace HB := Shut.mk (HB.out.trans (hb.mono HB.out.size))
  clear hb
  go_wp2_with fail
  go_ret
  exact ⟨rfl, HB.out⟩
set_option maxRecDepth 100000 in
set_option maxHeartbeats 4000000 in
theorem lawParentPath (h : ∀ (t : ByteArray) (w : World), t.size ≤ 1048576 → Calls Try.prog 13 #[.string t] w fun e w' => ParPost t w e w') {w : World} {t : ByteArray} (ht : t.size ≤ 9223372036854775807) :
    Calls Try.prog 7 #[.string t] w fun e w' => e = .returned (.bool true) ∧ Below w.heap.size w w' := by
  have HB : Shut (Below w.heap.size w w) := ⟨Below.refl _ _⟩
  have HH := Shut.mk h
  clear h
  go_enter Try.func7, Try.ntmps7
  by_cases hbig : (1048576 : Int) < (t.size : Int)
  case pos =>
    go_wp2_with fail
    go_ret
    exact ⟨rfl, HB.out⟩
  have HS := Shut.mk (fun W => specParentPath t W (by omega))
  have HI := Shut.mk (fun W => HH.out t W (by omega))
  unfold ParPost at HS HI
  generalize (parentB t).1 = x1 at HS HI
  generalize (parentB t).2.1 = x2 at HS HI
  generalize (parentB t).2.2 = x3 at HS HI
  have h1 := same_toList x1
  have h2 := same_toList x2
  have h3 : (x3 != x3) = false := by cases x3 <;> rfl
  clear HH
  go_wp2_with fail
  refine (HS.out _).mono ?_
  rintro e w1 ⟨rfl, hb⟩
  have z1 := hb.size
  replace HB := Shut.mk (HB.out.trans (hb.mono HB.out.size))
  clear hb
  go_wp2_with fail
  refine (HI.out _).mono ?_
  rintro e w2 ⟨rfl, hb⟩
  have z2 := hb.size
  replace HB := Shut.mk (HB.out.trans (hb.mono HB.out.size))
  clear hb
  go_wp2_with fail
  go_ret
  exact ⟨rfl, HB.out⟩
end Go.Proofs.Yteckimgacmobdaa
