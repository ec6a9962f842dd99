/- The program's own EventOk. -/
import Derived.Test.YtendbipfmgnjkaaEvA
import Derived.Test.YtendbipfmgnjkaaAkK
namespace Go.Proofs.Ytendbipfmgnjkaa
set_option maxRecDepth 100000
open Go.RowKit BigFrame
attribute [local go_sem ↓] Go.wp_at_zero Go.wp_at_succ

set_option maxRecDepth 100000 in
set_option maxHeartbeats 4000000 in
theorem implEventOk (e : EvM) (la : Option Addr) (lc : Nat) (w : World) (hp : e.ask.path.size ≤ 1048576) (hd : e.ask.dest.size ≤ 1048576) (ht : e.ask.text.size ≤ 1048576) (_hl : e.left.length ≤ 1048576) (_h : CRow w la (ics e.left)) :
    Calls Try.prog 9 #[evC e la lc] w fun r w' => r = .returned (.bool (eventOk e)) ∧ Below w.heap.size w w' := by
  have HOK := Shut.mk (fun W => implAskOk e.ask W hp hd ht)
  have HR : Shut (eventOk e = (decide (1 ≤ e.kind) && decide (e.kind ≤ 9) && (decide (e.kind ≠ 1) || askOk e.ask) && decide (1 ≤ e.host) && decide (e.host ≤ 7) && decide (0 ≤ e.at9) && decide ((e.left.length : Int) ≤ 30))) := ⟨by
    unfold eventOk inI
    generalize askOk e.ask = z
    rw [Bool.eq_iff_iff]
    simp only [Bool.and_eq_true, Bool.or_eq_true, decide_eq_true_eq, bne_iff_ne, ne_eq, Bool.not_eq_true', decide_eq_false_iff_not]
    constructor
    · rintro ⟨⟨⟨⟨⟨a1, a2⟩, a3, a4⟩, a5⟩, a6⟩, a7⟩
      exact ⟨⟨⟨⟨⟨⟨a1, a2⟩, a7⟩, a3⟩, a4⟩, by omega⟩, by omega⟩
    · rintro ⟨⟨⟨⟨⟨⟨a1, a2⟩, a7⟩, a3⟩, a4⟩, a5⟩, a6⟩
      exact ⟨⟨⟨⟨⟨a1, a2⟩, a3, a4⟩, by omega⟩, by omega⟩, a7⟩⟩
  generalize eventOk e = R at *
  generalize askOk e.ask = ok9 at HOK HR
  clear _h _hl hp hd ht
  obtain ⟨kd, ⟨k, who, p, d, t, num⟩, ho, at9, cut, left⟩ := e
  dsimp only [evC] at *
  generalize left.length = n at *
  have H := Shut.mk ((SL.start w).new #[.int .i64 kd, .int .i64 k, .int .i64 who, .string p, .string d, .string t, .int .i64 num, .int .i64 ho, .int .i64 at9, .bool cut, .slice la n lc] 31)
  obtain ⟨qb, hqb⟩ : ∃ b, b = w.heap.size := ⟨_, rfl⟩
  go_enter Try.func9, Try.ntmps9
  go_upto_region 1 with fail
  rw [← hqb] at H ⊢
  refine wp_shade (fun W => SL w W [bxS qb [.int .i64 kd, .int .i64 k, .int .i64 who, .string p, .string d, .string t, .int .i64 num, .int .i64 ho, .int .i64 at9, .bool cut, .slice la n lc]]) H.out ?_
  intro W0 hS0
  replace H := Shut.mk hS0
  clear hS0 hqb
  have x0 := (H.out.bx 0 rfl 0 _ rfl).1
  have x1 := (H.out.bx 0 rfl 1 _ rfl).1
  have x2 := (H.out.bx 0 rfl 2 _ rfl).1
  have x3 := (H.out.bx 0 rfl 3 _ rfl).1
  have x4 := (H.out.bx 0 rfl 4 _ rfl).1
  have x5 := (H.out.bx 0 rfl 5 _ rfl).1
  have x6 := (H.out.bx 0 rfl 6 _ rfl).1
  have x7 := (H.out.bx 0 rfl 7 _ rfl).1
  have x8 := (H.out.bx 0 rfl 8 _ rfl).1
  have x10 := (H.out.bx 0 rfl 10 _ rfl).1
  by_cases h5 : kd = 1
  · subst h5
    go_wp2_with (go_at_call 28; refine (HOK.out _).mono ?_; rintro r w1 ⟨rfl, hb⟩; replace H := Shut.mk (H.out.below hb); have y7 := (H.out.bx 0 rfl 7 _ rfl).1; have y8 := (H.out.bx 0 rfl 8 _ rfl).1; have y10 := (H.out.bx 0 rfl 10 _ rfl).1; clear hb)
    all_goals
      go_ret
      refine ⟨by rw [HR.out]; first | (simp [*]; done) | (simp [*]; omega), H.out.bel⟩
  · have h5' : (kd != 1) = true := by simpa using h5
    go_wp2_with fail
    all_goals
      go_ret
      refine ⟨by rw [HR.out]; first | (simp [*]; done) | (simp [*]; omega), H.out.bel⟩
end Go.Proofs.Ytendbipfmgnjkaa
