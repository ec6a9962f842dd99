/- The walk of the program's own reader of frames, which is handed a yield, and of the program's Unframe over it. -/
import Derived.Test.YthhpdkeajogkoaaDoorFrS
import Derived.Test.YthhpdkeajogkoaaDoorFrR
namespace Go.Proofs.YthhpdkeajogkoaaDoor
open Go.RowKit Go.Shelf
attribute [local go_sem] Oper.semAt_some

/-- What yield is handed. -/
def frEnc (x : ByteArray × Nat) : Array Value := #[.string x.1, .int .i64 (x.2 : Int)]
theorem faV_none : faV none = .tuple #[.string ⟨#[]⟩, .int .i64 0, .bool false] := rfl
theorem faV_some (r : ByteArray) (b : Nat) : faV (some (r, b)) = .tuple #[.string r, .int .i64 (b : Int), .bool true] := rfl
theorem grown_of {w w' : World} (h : Below w.heap.size w w') : w.grownBy w' none := ⟨h.os, h.tape, h.output, h.size, fun k hk _ => h.block k hk⟩

set_option maxRecDepth 100000 in
set_option maxHeartbeats 2000000 in
theorem frames_in (s : ByteArray) (w0 : World) (ht : SumTab w0) (m l : Nat) (J : List (ByteArray × Nat) → World → Prop) (hJ : ∀ p X Y, J p X → X.grownBy Y none → J p Y)
    (hY : RoundGoes Tryd.prog (m - 1) l w0.heap.size frEnc J (W.framesOf s).length) (W0 : World) (hW : Below w0.heap.size w0 W0) (h0 : J [] W0) :
    CallsIn Fence.wide m Tryd.prog 26 #[.string s, .func (.yield l) #[] #[]] W0 fun e W' => (∃ v, e = .returned v) ∧ J (W.framesOf s) W' := by
  have HT : Hid (SumTab w0) := ht
  have HJ : Hid _ := hJ
  have HY : Hid _ := hY
  clear ht hJ hY
  by_cases hl : 20000 < s.size
  · have hl' : (20000 : Int) < (s.size : Int) := by omega
    have e0 : W.framesOf s = [] := by unfold W.framesOf; rw [if_pos hl]
    rw [e0]
    refine callsIn_of_wp Tryd.func26 rfl trivial ?_ rfl
    simp only [Tryd.ntmps26, List.size_toArray, List.length_cons, List.length_nil, Nat.reduceAdd, Nat.reduceSub, Array.replicate_succ, Array.replicate_zero, List.push_toArray, List.append_toArray, List.nil_append, List.cons_append]
    gi_wp2
    refine bodyPost_ret (results_none rfl _ _ _) rfl ?_
    exact ⟨⟨_, rfl⟩, h0⟩
  · have hl' : ¬ (20000 : Int) < (s.size : Int) := by omega
    have e0 : W.framesOf s = W.framesFrom s 0 := by unfold W.framesOf; rw [if_neg hl]
    have HE : Hid _ := e0
    clear e0
    refine callsIn_of_wp Tryd.func26 rfl trivial ?_ rfl
    simp only [Tryd.ntmps26, List.size_toArray, List.length_cons, List.length_nil, Nat.reduceAdd, Nat.reduceSub, Array.replicate_succ, Array.replicate_zero, List.push_toArray, List.append_toArray, List.nil_append, List.cons_append]
    gi_wp2
    gi_loopw [4] (fun i wr => ∃ (a : Nat) (pre : List (ByteArray × Nat)), i = .int .i64 a ∧ a ≤ s.size ∧ W.framesOf s = pre ++ W.framesFrom s a ∧ J pre wr ∧ Below w0.heap.size w0 wr) (fun i _ => s.size - (intOf i).toNat)
    case atStart => exact ⟨0, [], rfl, Nat.zero_le _, HE.out, h0, hW⟩
    case round =>
      obtain ⟨a, pre, rfl, hle, hall, hj, hb⟩ := hrel
      have HA : Hid _ := hall
      clear hall
      by_cases hlt : a < s.size
      · have a1 : (a : Int) < (s.size : Int) := by omega
        cases hf : W.frameAt s a with
        | none =>
          have HN : Hid (W.framesOf s = pre) := by have := HA.out; rw [W.framesFrom_none hf, List.append_nil] at this; exact this
          have hc := implFrameAt s a wr (HT.out.stays hb) (by omega) hle
          rw [hf, faV_none] at hc
          have hc' := callsIn_wide (n := m - 1).2 hc
          clear hc hf
          gi_wp2_with (refine ⟨trivial, (fun h => by cases h), ?_⟩; gi_at_call 34; refine hc'.mono ?_; clear hc'; rintro e w1 ⟨rfl, hb1⟩)
          refine ⟨fun _ h => (by cases h), ?_⟩
          gi_wp2
          refine bodyPost_ret (results_none rfl _ _ _) rfl ?_
          exact ⟨⟨_, rfl⟩, by rw [HN.out]; exact HJ.out _ _ _ hj (grown_of hb1)⟩
        | some x =>
          obtain ⟨r, b⟩ := x
          have hbd := W.frameAt_bounds hf
          obtain ⟨hbd1, hbd2, hbd3, hbd4⟩ := hbd
          have hn : W.framesOf s = (pre ++ [(r, b)]) ++ W.framesFrom s b := by have := HA.out; rw [W.framesFrom_some hf] at this; rw [this]; simp
          have HN : Hid _ := hn
          clear hn
          have hlen : pre.length < (W.framesOf s).length := by rw [HN.out]; simp
          have hc := implFrameAt s a wr (HT.out.stays hb) (by omega) hle
          rw [hf, faV_some] at hc
          have hc' := callsIn_wide (n := m - 1).2 hc
          clear hc hf
          gi_wp2_with (refine ⟨trivial, (fun h => by cases h), ?_⟩; gi_at_call 34; refine hc'.mono ?_; clear hc'; rintro e w1 ⟨rfl, hb1⟩; obtain ⟨fn, tmps, assign, body, hy, hR⟩ := HY.out pre (r, b) w1 (HJ.out _ _ _ hj (grown_of hb1)) hlen; dsimp only [frEnc] at hy)
          refine ⟨(fun h => by cases h), hR.mono ?_⟩
          rintro e w2 ⟨rfl, hj2, hb2⟩
          gi_wp2
          go_roundw
          case rel => exact ⟨b, pre ++ [(r, b)], rfl, hbd2, HN.out, hj2, (hb.trans (hb1.mono hb.size)).trans hb2⟩
          case measure => simp [intOf]; omega
      · have a1 : ¬ (a : Int) < (s.size : Int) := by omega
        have HN : Hid (W.framesOf s = pre) := by have := HA.out; rw [W.framesFrom_over (by omega), List.append_nil] at this; exact this
        gi_wp2
        go_end0
        exact ⟨⟨_, rfl⟩, by rw [HN.out]; exact hj⟩
end Go.Proofs.YthhpdkeajogkoaaDoor
