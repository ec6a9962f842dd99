/- The exact laws of asks (written by gen/mklawak.py). -/
import Derived.Test.YtodgabdhgaglmaaAkP
import Derived.Test.YtodgabdhgaglmaaEdC
import Derived.Test.YtodgabdhgaglmaaSlG
namespace Go.Proofs.Ytodgabdhgaglmaa
set_option maxRecDepth 100000
open Go.RowKit BigFrame
attribute [local go_sem ↓] Go.wp_at_zero Go.wp_at_succ
set_option maxRecDepth 100000 in
set_option maxHeartbeats 4000000 in
theorem lawEditOf (q : AkM) (R : EM) (w : World) (hf : AkFit q)
    (hsp : q.path.size ≤ 1048576 → q.dest.size ≤ 1048576 → ∀ W : World, Calls Try.prog 15 #[akv q] W fun e w' => e = .returned (ev R) ∧ Below W.heap.size W w')
    (him : q.path.size ≤ 1048576 → q.dest.size ≤ 1048576 → q.text.size ≤ 1048576 → ∀ W : World, Below w.heap.size w W → Calls Try.prog 16 #[akv q] W fun e w' => e = .returned (ev R) ∧ Below W.heap.size W w') :
    Calls Try.prog 5 #[akv q] w fun e w' => e = .returned (.bool true) ∧ Below w.heap.size w w' := by
  have HSZ := Shut.mk (fun (W : World) => szAsk_any q 1048576 W (by omega) (by omega) hf)
  have HTO := Shut.mk (fun (W : World) => toAsk_any q W)
  have HSP := Shut.mk hsp
  have HIM := Shut.mk him
  have HEQ := Shut.mk (fun (W : World) => eqEdit_same R W)
  obtain ⟨ek, ep, ed, en, ew⟩ := R
  clear hf hsp him
  obtain ⟨kind, who, path, dest, text, num⟩ := q
  dsimp only at *
  have HS := Shut.mk ((SL.start w).new #[.int .i64 kind, .int .i64 who, .string path, .string dest, .string text, .int .i64 num] 23)
  obtain ⟨qb, hqb⟩ : ∃ q, q = w.heap.size := ⟨_, rfl⟩
  go_enter Try.func5, Try.ntmps5
  go_upto_region 2 with fail
  rw [← hqb] at HS
  refine wp_shade (fun W => SL w W [bxS qb [.int .i64 kind, .int .i64 who, .string path, .string dest, .string text, .int .i64 num]]) HS.out ?_
  rw [← hqb]
  intro W0 hS0
  have H := Shut.mk hS0
  clear hS0 HS hqb
  have x0 := (H.out.bx 0 rfl 0 _ rfl).1
  have x1 := (H.out.bx 0 rfl 1 _ rfl).1
  have x2 := (H.out.bx 0 rfl 2 _ rfl).1
  have x3 := (H.out.bx 0 rfl 3 _ rfl).1
  have x4 := (H.out.bx 0 rfl 4 _ rfl).1
  have x5 := (H.out.bx 0 rfl 5 _ rfl).1
  go_upto_region 3 with (go_at_call 6; refine (HSZ.out _).mono ?_; rintro e w1 ⟨r, rfl, r0, r1, hb⟩; replace H := Shut.mk (H.out.below hb); clear hb x0 x1 x2 x3 x4 x5)
  by_cases hq : r < 0
  · clear r1
    go_wp2_with fail
    go_ret
    exact ⟨rfl, H.out.bel⟩
  have hr1 := r1 (by omega)
  have hp : path.size ≤ 1048576 := by omega
  have hd : dest.size ≤ 1048576 := by omega
  replace HSP := Shut.mk (HSP.out hp hd)
  replace HIM := Shut.mk (HIM.out hp hd (by omega))
  clear r1 hr1 r0 HSZ hp hd
  have x0 := (H.out.bx 0 rfl 0 _ rfl).1
  have x1 := (H.out.bx 0 rfl 1 _ rfl).1
  have x2 := (H.out.bx 0 rfl 2 _ rfl).1
  have x3 := (H.out.bx 0 rfl 3 _ rfl).1
  have x4 := (H.out.bx 0 rfl 4 _ rfl).1
  have x5 := (H.out.bx 0 rfl 5 _ rfl).1
  go_upto_region 6 with (first | (go_at_call 8; refine (HTO.out _).mono ?_; rintro e w2 ⟨rfl, hb⟩; replace H := Shut.mk (H.out.below hb); clear hb x0 x1 x2 x3 x4 x5) | (go_at_call 15; refine (HSP.out _).mono ?_; rintro e w3 ⟨rfl, hb⟩; replace H := Shut.mk (H.out.below hb); clear hb))
  replace H := Shut.mk (H.out.new #[.int .i64 ek, .string ep, .string ed, .int .i64 en, .int .i64 ew] 43)
  obtain ⟨b4, hb4⟩ : ∃ q, q = w3.heap.size := ⟨_, rfl⟩
  rw [← hb4] at H
  refine wp_shade (fun W => SL w W [bxS b4 [.int .i64 ek, .string ep, .string ed, .int .i64 en, .int .i64 ew], bxS qb [.int .i64 kind, .int .i64 who, .string path, .string dest, .string text, .int .i64 num]]) H.out ?_
  rw [← hb4]
  intro W1 hW
  replace H := Shut.mk hW
  clear hW hb4
  have x0 := (H.out.bx 1 rfl 0 _ rfl).1
  have x1 := (H.out.bx 1 rfl 1 _ rfl).1
  have x2 := (H.out.bx 1 rfl 2 _ rfl).1
  have x3 := (H.out.bx 1 rfl 3 _ rfl).1
  have x4 := (H.out.bx 1 rfl 4 _ rfl).1
  have x5 := (H.out.bx 1 rfl 5 _ rfl).1
  go_upto_region 7 with (first | (go_at_call 8; refine (HTO.out _).mono ?_; rintro e w2 ⟨rfl, hb⟩; replace H := Shut.mk (H.out.below hb); clear hb x0 x1 x2 x3 x4 x5) | (go_at_call 16; refine (HIM.out _ H.out.bel).mono ?_; rintro e w3 ⟨rfl, hb⟩; replace H := Shut.mk (H.out.below hb); clear hb))
  replace H := Shut.mk (H.out.new #[.int .i64 ek, .string ep, .string ed, .int .i64 en, .int .i64 ew] 43)
  obtain ⟨b5, hb5⟩ : ∃ q, q = w3.heap.size := ⟨_, rfl⟩
  rw [← hb5] at H
  refine wp_shade (fun W => SL w W [bxS b5 [.int .i64 ek, .string ep, .string ed, .int .i64 en, .int .i64 ew], bxS b4 [.int .i64 ek, .string ep, .string ed, .int .i64 en, .int .i64 ew], bxS qb [.int .i64 kind, .int .i64 who, .string path, .string dest, .string text, .int .i64 num]]) H.out ?_
  rw [← hb5]
  intro W2 hW
  replace H := Shut.mk hW
  clear hW hb5
  have y0 := (H.out.bx 0 rfl 0 _ rfl).1
  have z0 := (H.out.bx 1 rfl 0 _ rfl).1
  have y1 := (H.out.bx 0 rfl 1 _ rfl).1
  have z1 := (H.out.bx 1 rfl 1 _ rfl).1
  have y2 := (H.out.bx 0 rfl 2 _ rfl).1
  have z2 := (H.out.bx 1 rfl 2 _ rfl).1
  have y3 := (H.out.bx 0 rfl 3 _ rfl).1
  have z3 := (H.out.bx 1 rfl 3 _ rfl).1
  have y4 := (H.out.bx 0 rfl 4 _ rfl).1
  have z4 := (H.out.bx 1 rfl 4 _ rfl).1
  go_wp2_with (go_at_call 17; refine (HEQ.out _).mono ?_; rintro e w4 ⟨rfl, hb⟩; replace H := Shut.mk (H.out.below hb); clear hb y0 y1 y2 y3 y4 z0 z1 z2 z3 z4)
  go_ret
  exact ⟨rfl, H.out.bel⟩
set_option maxRecDepth 100000 in
set_option maxHeartbeats 4000000 in
theorem lawAskOk (q : AkM) (ok : Bool) (w : World) (hf : AkFit q)
    (hsp : q.path.size ≤ 1048576 → q.dest.size ≤ 1048576 → ∀ W : World, Calls Try.prog 7 #[akv q] W fun e w' => e = .returned (.bool ok) ∧ Below W.heap.size W w')
    (him : q.path.size ≤ 1048576 → q.dest.size ≤ 1048576 → q.text.size ≤ 1048576 → ∀ W : World, Below w.heap.size w W → Calls Try.prog 9 #[akv q] W fun e w' => e = .returned (.bool ok) ∧ Below W.heap.size W w') :
    Calls Try.prog 3 #[akv q] w fun e w' => e = .returned (.bool true) ∧ Below w.heap.size w w' := by
  have HSZ := Shut.mk (fun (W : World) => szAsk_any q 1048576 W (by omega) (by omega) hf)
  have HTO := Shut.mk (fun (W : World) => toAsk_any q W)
  have HSP := Shut.mk hsp
  have HIM := Shut.mk him
  have hdd : (ok != ok) = false := by simp
  clear hf hsp him
  obtain ⟨kind, who, path, dest, text, num⟩ := q
  dsimp only at *
  have HS := Shut.mk ((SL.start w).new #[.int .i64 kind, .int .i64 who, .string path, .string dest, .string text, .int .i64 num] 23)
  obtain ⟨qb, hqb⟩ : ∃ q, q = w.heap.size := ⟨_, rfl⟩
  go_enter Try.func3, Try.ntmps3
  go_upto_region 2 with fail
  rw [← hqb] at HS
  refine wp_shade (fun W => SL w W [bxS qb [.int .i64 kind, .int .i64 who, .string path, .string dest, .string text, .int .i64 num]]) HS.out ?_
  rw [← hqb]
  intro W0 hS0
  have H := Shut.mk hS0
  clear hS0 HS hqb
  have x0 := (H.out.bx 0 rfl 0 _ rfl).1
  have x1 := (H.out.bx 0 rfl 1 _ rfl).1
  have x2 := (H.out.bx 0 rfl 2 _ rfl).1
  have x3 := (H.out.bx 0 rfl 3 _ rfl).1
  have x4 := (H.out.bx 0 rfl 4 _ rfl).1
  have x5 := (H.out.bx 0 rfl 5 _ rfl).1
  go_upto_region 3 with (go_at_call 6; refine (HSZ.out _).mono ?_; rintro e w1 ⟨r, rfl, r0, r1, hb⟩; replace H := Shut.mk (H.out.below hb); clear hb x0 x1 x2 x3 x4 x5)
  by_cases hq : r < 0
  · clear r1
    go_wp2_with fail
    go_ret
    exact ⟨rfl, H.out.bel⟩
  have hr1 := r1 (by omega)
  have hp : path.size ≤ 1048576 := by omega
  have hd : dest.size ≤ 1048576 := by omega
  replace HSP := Shut.mk (HSP.out hp hd)
  replace HIM := Shut.mk (HIM.out hp hd (by omega))
  clear r1 hr1 r0 HSZ hp hd
  have x0 := (H.out.bx 0 rfl 0 _ rfl).1
  have x1 := (H.out.bx 0 rfl 1 _ rfl).1
  have x2 := (H.out.bx 0 rfl 2 _ rfl).1
  have x3 := (H.out.bx 0 rfl 3 _ rfl).1
  have x4 := (H.out.bx 0 rfl 4 _ rfl).1
  have x5 := (H.out.bx 0 rfl 5 _ rfl).1
  go_upto_region 6 with (first | (go_at_call 8; refine (HTO.out _).mono ?_; rintro e w2 ⟨rfl, hb⟩; replace H := Shut.mk (H.out.below hb); clear hb x0 x1 x2 x3 x4 x5) | (go_at_call 7; refine (HSP.out _).mono ?_; rintro e w3 ⟨rfl, hb⟩; replace H := Shut.mk (H.out.below hb); clear hb))
  have x0 := (H.out.bx 0 rfl 0 _ rfl).1
  have x1 := (H.out.bx 0 rfl 1 _ rfl).1
  have x2 := (H.out.bx 0 rfl 2 _ rfl).1
  have x3 := (H.out.bx 0 rfl 3 _ rfl).1
  have x4 := (H.out.bx 0 rfl 4 _ rfl).1
  have x5 := (H.out.bx 0 rfl 5 _ rfl).1
  go_upto_region 7 with (first | (go_at_call 8; refine (HTO.out _).mono ?_; rintro e w2 ⟨rfl, hb⟩; replace H := Shut.mk (H.out.below hb); clear hb x0 x1 x2 x3 x4 x5) | (go_at_call 9; refine (HIM.out _ H.out.bel).mono ?_; rintro e w3 ⟨rfl, hb⟩; replace H := Shut.mk (H.out.below hb); clear hb))
  go_wp2_with fail
  go_ret
  exact ⟨rfl, H.out.bel⟩
end Go.Proofs.Ytodgabdhgaglmaa
