/- Events in the laws: two that are the same; sizes; copies; the model's EventOk (written by gen/mkeva.py). -/
import Derived.Test.YtendbipfmgnjkaaSpAk
import Derived.Test.YtendbipfmgnjkaaIntsA
import Derived.Test.YtendbipfmgnjkaaSlG
import Derived.Test.YtendbipfmgnjkaaDiskC
import Derived.Test.YtendbipfmgnjkaaNestB
import Derived.Test.YtendbipfmgnjkaaGrwD
namespace Go.Proofs.Ytendbipfmgnjkaa
set_option maxRecDepth 100000
open Go.RowKit BigFrame
attribute [local go_sem ↓] Go.wp_at_zero Go.wp_at_succ

/-- An event. -/
structure EvM where
  kind : Int
  ask : AkM
  host : Int
  at9 : Int
  cut : Bool
  left : List Int
abbrev evC (e : EvM) (la : Option Addr) (lc : Nat) : Value := .agg #[.int .i64 e.kind, .int .i64 e.ask.kind, .int .i64 e.ask.who, .string e.ask.path, .string e.ask.dest, .string e.ask.text, .int .i64 e.ask.num, .int .i64 e.host, .int .i64 e.at9, .bool e.cut, .slice la e.left.length lc]
theorem szIntS_ev (a : Option Addr) (n cap : Nat) (left : Int) (w : World) (h0 : 0 ≤ left) (h1 : left ≤ 1048576) (hn : n ≤ 9223372036854775807) :
    Calls Try.prog 23 #[.slice a n cap, .int .i64 left] w fun e w' => ∃ r : Int, e = .returned (.int .i64 r) ∧ -1 ≤ r ∧ (0 ≤ r → r + (n : Nat) = left) ∧ Below w.heap.size w w' := by
  refine (szIntS_any a n cap left w h0 h1 hn).mono ?_
  rintro e w' ⟨rfl, rfl⟩
  exact ⟨_, rfl, by split <;> omega, by split <;> omega, Below.refl _ _⟩
set_option maxHeartbeats 2000000 in
set_option maxRecDepth 100000 in
theorem eqEvent_same {w : World} (q : AkM) {la la' : Option Addr} {lc lc' ln : Nat} {kd ho at9 : Int} {cut : Bool} {left : List Int} (h : CRow w la (ics left)) (k : CRow w la' (ics left)) (hl : ln = left.length) (hf : left.length ≤ 1048576) :
    Calls Try.prog 10 #[.agg #[.int .i64 kd, .int .i64 q.kind, .int .i64 q.who, .string q.path, .string q.dest, .string q.text, .int .i64 q.num, .int .i64 ho, .int .i64 at9, .bool cut, .slice la ln lc], .agg #[.int .i64 kd, .int .i64 q.kind, .int .i64 q.who, .string q.path, .string q.dest, .string q.text, .int .i64 q.num, .int .i64 ho, .int .i64 at9, .bool cut, .slice la' ln lc']] w fun e w' => e = .returned (.bool true) ∧ Below w.heap.size w w' := by
  have HA := Shut.mk (fun (W : World) => eqAsk_same q W)
  have HL := Shut.mk (fun (W : World) (hb : Below w.heap.size w W) => eqIntS_same la la' left lc lc' W (h.stays hb) (k.stays hb) hf)
  rw [← hl] at HL
  have hcc : (cut != cut) = false := by simp
  clear h k hl hf
  obtain ⟨ak, aw, ap, ad, ax, an⟩ := q
  dsimp only at *
  have HS := Shut.mk (SL.start w)
  replace HS := Shut.mk (HS.out.new #[.int .i64 kd, .int .i64 ak, .int .i64 aw, .string ap, .string ad, .string ax, .int .i64 an, .int .i64 ho, .int .i64 at9, .bool cut, .slice la ln lc] 31)
  replace HS := Shut.mk (HS.out.new #[.int .i64 kd, .int .i64 ak, .int .i64 aw, .string ap, .string ad, .string ax, .int .i64 an, .int .i64 ho, .int .i64 at9, .bool cut, .slice la' ln lc'] 31)
  simp only [World.size_alloc] at HS
  obtain ⟨b1, hb1⟩ : ∃ q, q = w.heap.size := ⟨_, rfl⟩
  go_enter Try.func10, Try.ntmps10
  go_upto_region 1 with fail
  rw [← hb1] at HS
  refine wp_shade (fun W => SL w W [bxS (b1 + 1) [.int .i64 kd, .int .i64 ak, .int .i64 aw, .string ap, .string ad, .string ax, .int .i64 an, .int .i64 ho, .int .i64 at9, .bool cut, .slice la' ln lc'], bxS b1 [.int .i64 kd, .int .i64 ak, .int .i64 aw, .string ap, .string ad, .string ax, .int .i64 an, .int .i64 ho, .int .i64 at9, .bool cut, .slice la ln lc]]) HS.out ?_
  rw [← hb1]
  intro W0 hS0
  have H := Shut.mk hS0
  clear hS0 HS hb1
  have x0 := (H.out.bx 1 rfl 0 _ rfl).1
  have x1 := (H.out.bx 1 rfl 1 _ rfl).1
  have x2 := (H.out.bx 1 rfl 2 _ rfl).1
  have x3 := (H.out.bx 1 rfl 3 _ rfl).1
  have x4 := (H.out.bx 1 rfl 4 _ rfl).1
  have x5 := (H.out.bx 1 rfl 5 _ rfl).1
  have x6 := (H.out.bx 1 rfl 6 _ rfl).1
  have x7 := (H.out.bx 1 rfl 7 _ rfl).1
  have x8 := (H.out.bx 1 rfl 8 _ rfl).1
  have x9 := (H.out.bx 1 rfl 9 _ rfl).1
  have x10 := (H.out.bx 1 rfl 10 _ rfl).1
  have y0 := (H.out.bx 0 rfl 0 _ rfl).1
  have y1 := (H.out.bx 0 rfl 1 _ rfl).1
  have y2 := (H.out.bx 0 rfl 2 _ rfl).1
  have y3 := (H.out.bx 0 rfl 3 _ rfl).1
  have y4 := (H.out.bx 0 rfl 4 _ rfl).1
  have y5 := (H.out.bx 0 rfl 5 _ rfl).1
  have y6 := (H.out.bx 0 rfl 6 _ rfl).1
  have y7 := (H.out.bx 0 rfl 7 _ rfl).1
  have y8 := (H.out.bx 0 rfl 8 _ rfl).1
  have y9 := (H.out.bx 0 rfl 9 _ rfl).1
  have y10 := (H.out.bx 0 rfl 10 _ rfl).1
  go_wp2_with fail
  refine (HA.out _).mono ?_
  rintro e w1 ⟨rfl, hb⟩
  replace H := Shut.mk (H.out.below hb)
  clear hb x0 x1 x2 x3 x4 x5 x6 x7 x8 x9 x10 y0 y1 y2 y3 y4 y5 y6 y7 y8 y9 y10
  have x0 := (H.out.bx 1 rfl 0 _ rfl).1
  have x1 := (H.out.bx 1 rfl 1 _ rfl).1
  have x2 := (H.out.bx 1 rfl 2 _ rfl).1
  have x3 := (H.out.bx 1 rfl 3 _ rfl).1
  have x4 := (H.out.bx 1 rfl 4 _ rfl).1
  have x5 := (H.out.bx 1 rfl 5 _ rfl).1
  have x6 := (H.out.bx 1 rfl 6 _ rfl).1
  have x7 := (H.out.bx 1 rfl 7 _ rfl).1
  have x8 := (H.out.bx 1 rfl 8 _ rfl).1
  have x9 := (H.out.bx 1 rfl 9 _ rfl).1
  have x10 := (H.out.bx 1 rfl 10 _ rfl).1
  have y0 := (H.out.bx 0 rfl 0 _ rfl).1
  have y1 := (H.out.bx 0 rfl 1 _ rfl).1
  have y2 := (H.out.bx 0 rfl 2 _ rfl).1
  have y3 := (H.out.bx 0 rfl 3 _ rfl).1
  have y4 := (H.out.bx 0 rfl 4 _ rfl).1
  have y5 := (H.out.bx 0 rfl 5 _ rfl).1
  have y6 := (H.out.bx 0 rfl 6 _ rfl).1
  have y7 := (H.out.bx 0 rfl 7 _ rfl).1
  have y8 := (H.out.bx 0 rfl 8 _ rfl).1
  have y9 := (H.out.bx 0 rfl 9 _ rfl).1
  have y10 := (H.out.bx 0 rfl 10 _ rfl).1
  go_wp2_with fail
  refine (HL.out _ H.out.bel).mono ?_
  rintro e w2 ⟨rfl, hb⟩
  replace H := Shut.mk (H.out.below hb)
  clear hb x0 x1 x2 x3 x4 x5 x6 x7 x8 x9 x10 y0 y1 y2 y3 y4 y5 y6 y7 y8 y9 y10
  go_wp2_with fail
  go_ret
  exact ⟨rfl, H.out.bel⟩
set_option maxHeartbeats 2000000 in
set_option maxRecDepth 100000 in
theorem szEvent_any {w : World} (q : AkM) {la : Option Addr} {lc ln : Nat} {kd ho at9 : Int} {cut : Bool} (left : Int) (hq : AkFit q) (hl : ln ≤ 9223372036854775807) (h0 : 0 ≤ left) (h1 : left ≤ 1048576) :
    Calls Try.prog 6 #[.agg #[.int .i64 kd, .int .i64 q.kind, .int .i64 q.who, .string q.path, .string q.dest, .string q.text, .int .i64 q.num, .int .i64 ho, .int .i64 at9, .bool cut, .slice la ln lc], .int .i64 left] w fun e w' => ∃ r : Int, e = .returned (.int .i64 r) ∧ -1 ≤ r ∧ (0 ≤ r → r + (q.path.size + q.dest.size + q.text.size + ln : Nat) = left) ∧ Below w.heap.size w w' := by
  have HA := Shut.mk (fun (W : World) => szAsk_any q left W h0 h1 hq)
  have HL := Shut.mk (fun (W : World) (x : Int) (x0 : 0 ≤ x) (x1 : x ≤ 1048576) => szIntS_ev la ln lc x W x0 x1 hl)
  clear hq
  obtain ⟨ak, aw, ap, ad, ax, an⟩ := q
  dsimp only at *
  have HS := Shut.mk (SL.start w)
  replace HS := Shut.mk (HS.out.new #[.int .i64 kd, .int .i64 ak, .int .i64 aw, .string ap, .string ad, .string ax, .int .i64 an, .int .i64 ho, .int .i64 at9, .bool cut, .slice la ln lc] 26)
  obtain ⟨b1, hb1⟩ : ∃ q, q = w.heap.size := ⟨_, rfl⟩
  go_enter Try.func6, Try.ntmps6
  go_upto_region 1 with fail
  rw [← hb1] at HS
  refine wp_shade (fun W => SL w W [bxS b1 [.int .i64 kd, .int .i64 ak, .int .i64 aw, .string ap, .string ad, .string ax, .int .i64 an, .int .i64 ho, .int .i64 at9, .bool cut, .slice la ln lc]]) HS.out ?_
  rw [← hb1]
  intro W0 hS0
  have H := Shut.mk hS0
  clear hS0 HS hb1
  have x0 := (H.out.bx 0 rfl 0 _ rfl).1
  have x1 := (H.out.bx 0 rfl 1 _ rfl).1
  have x2 := (H.out.bx 0 rfl 2 _ rfl).1
  have x3 := (H.out.bx 0 rfl 3 _ rfl).1
  have x4 := (H.out.bx 0 rfl 4 _ rfl).1
  have x5 := (H.out.bx 0 rfl 5 _ rfl).1
  have x6 := (H.out.bx 0 rfl 6 _ rfl).1
  have x7 := (H.out.bx 0 rfl 7 _ rfl).1
  have x8 := (H.out.bx 0 rfl 8 _ rfl).1
  have x9 := (H.out.bx 0 rfl 9 _ rfl).1
  have x10 := (H.out.bx 0 rfl 10 _ rfl).1
  go_wp2_with fail
  refine (HA.out _).mono ?_
  rintro e w1 ⟨r0, rfl, p0, q0, hb⟩
  replace H := Shut.mk (H.out.below hb)
  clear hb x0 x1 x2 x3 x4 x5 x6 x7 x8 x9 x10
  by_cases c0 : r0 < 0
  · clear q0
    go_wp2_with fail
    go_ret
    exact ⟨-1, rfl, by omega, by omega, H.out.bel⟩
  have k0 := q0 (by omega)
  clear q0
  have x0 := (H.out.bx 0 rfl 0 _ rfl).1
  have x1 := (H.out.bx 0 rfl 1 _ rfl).1
  have x2 := (H.out.bx 0 rfl 2 _ rfl).1
  have x3 := (H.out.bx 0 rfl 3 _ rfl).1
  have x4 := (H.out.bx 0 rfl 4 _ rfl).1
  have x5 := (H.out.bx 0 rfl 5 _ rfl).1
  have x6 := (H.out.bx 0 rfl 6 _ rfl).1
  have x7 := (H.out.bx 0 rfl 7 _ rfl).1
  have x8 := (H.out.bx 0 rfl 8 _ rfl).1
  have x9 := (H.out.bx 0 rfl 9 _ rfl).1
  have x10 := (H.out.bx 0 rfl 10 _ rfl).1
  go_wp2_with fail
  refine (HL.out _ _ (by omega) (by omega)).mono ?_
  rintro e w2 ⟨r1, rfl, p1, q1, hb⟩
  replace H := Shut.mk (H.out.below hb)
  clear hb x0 x1 x2 x3 x4 x5 x6 x7 x8 x9 x10
  by_cases c1 : r1 < 0
  · clear q1
    go_wp2_with fail
    go_ret
    exact ⟨-1, rfl, by omega, by omega, H.out.bel⟩
  have k1 := q1 (by omega)
  clear q1
  go_wp2_with fail
  go_ret
  exact ⟨r1, rfl, by omega, fun _ => by omega, H.out.bel⟩
set_option maxHeartbeats 4000000 in
set_option maxRecDepth 100000 in
theorem toEvent_any {w : World} (q : AkM) {la : Option Addr} {lc ln : Nat} {kd ho at9 : Int} {cut : Bool} {left : List Int} (h : CRow w la (ics left)) (hl : ln = left.length) (hf : left.length ≤ 1048576) :
    Calls Try.prog 8 #[.agg #[.int .i64 kd, .int .i64 q.kind, .int .i64 q.who, .string q.path, .string q.dest, .string q.text, .int .i64 q.num, .int .i64 ho, .int .i64 at9, .bool cut, .slice la ln lc]] w fun e w' => ∃ (lb : Option Addr) (lc' : Nat), e = .returned (.agg #[.int .i64 kd, .int .i64 q.kind, .int .i64 q.who, .string q.path, .string q.dest, .string q.text, .int .i64 q.num, .int .i64 ho, .int .i64 at9, .bool cut, .slice lb ln lc']) ∧ CRow w' lb (ics left) ∧ Below w.heap.size w w' := by
  have HA := Shut.mk (fun (W : World) => toAsk_any q W)
  have HL := Shut.mk (fun (W : World) (hb : Below w.heap.size w W) => toIntS_any la left lc W (h.stays hb) hf)
  rw [← hl] at HL
  unfold ToInts at HL
  try rw [← hl] at HL
  clear h hl hf
  obtain ⟨ak, aw, ap, ad, ax, an⟩ := q
  dsimp only at *
  have HS := Shut.mk (SL.start w)
  replace HS := Shut.mk (HS.out.new #[.int .i64 kd, .int .i64 ak, .int .i64 aw, .string ap, .string ad, .string ax, .int .i64 an, .int .i64 ho, .int .i64 at9, .bool cut, .slice la ln lc] 26)
  replace HS := Shut.mk (HS.out.new #[.int .i64 0, .int .i64 0, .int .i64 0, .string ⟨#[]⟩, .string ⟨#[]⟩, .string ⟨#[]⟩, .int .i64 0, .int .i64 0, .int .i64 0, .bool false, .slice none 0 0] 31)
  replace HS := Shut.mk (HS.out.new #[.int .i64 0, .int .i64 0, .int .i64 0, .string ⟨#[]⟩, .string ⟨#[]⟩, .string ⟨#[]⟩, .int .i64 0, .int .i64 0, .int .i64 0, .bool false, .slice none 0 0] 31)
  simp only [World.size_alloc] at HS
  obtain ⟨b1, hb1⟩ : ∃ q, q = w.heap.size := ⟨_, rfl⟩
  go_enter Try.func8, Try.ntmps8
  go_upto_region 2 with fail
  rw [← hb1] at HS
  refine wp_shade (fun W => SL w W [bxS (b1 + 1 + 1) [.int .i64 0, .int .i64 0, .int .i64 0, .string ⟨#[]⟩, .string ⟨#[]⟩, .string ⟨#[]⟩, .int .i64 0, .int .i64 0, .int .i64 0, .bool false, .slice none 0 0], bxS (b1 + 1) [.int .i64 0, .int .i64 0, .int .i64 0, .string ⟨#[]⟩, .string ⟨#[]⟩, .string ⟨#[]⟩, .int .i64 0, .int .i64 0, .int .i64 0, .bool false, .slice none 0 0], bxS b1 [.int .i64 kd, .int .i64 ak, .int .i64 aw, .string ap, .string ad, .string ax, .int .i64 an, .int .i64 ho, .int .i64 at9, .bool cut, .slice la ln lc]]) HS.out ?_
  rw [← hb1]
  intro W0 hS0
  have H := Shut.mk hS0
  clear hS0 HS hb1
  have x0 := (H.out.bx 2 rfl 0 _ rfl).1
  have x1 := (H.out.bx 2 rfl 1 _ rfl).1
  have x2 := (H.out.bx 2 rfl 2 _ rfl).1
  have x3 := (H.out.bx 2 rfl 3 _ rfl).1
  have x4 := (H.out.bx 2 rfl 4 _ rfl).1
  have x5 := (H.out.bx 2 rfl 5 _ rfl).1
  have x6 := (H.out.bx 2 rfl 6 _ rfl).1
  have x7 := (H.out.bx 2 rfl 7 _ rfl).1
  have x8 := (H.out.bx 2 rfl 8 _ rfl).1
  have x9 := (H.out.bx 2 rfl 9 _ rfl).1
  have x10 := (H.out.bx 2 rfl 10 _ rfl).1
  obtain ⟨y0, z0⟩ := H.out.bx 0 rfl 0 _ rfl
  obtain ⟨y1, z1⟩ := H.out.bx 0 rfl 1 _ rfl
  obtain ⟨y2, z2⟩ := H.out.bx 0 rfl 2 _ rfl
  obtain ⟨y3, z3⟩ := H.out.bx 0 rfl 3 _ rfl
  obtain ⟨y4, z4⟩ := H.out.bx 0 rfl 4 _ rfl
  obtain ⟨y5, z5⟩ := H.out.bx 0 rfl 5 _ rfl
  obtain ⟨y6, z6⟩ := H.out.bx 0 rfl 6 _ rfl
  obtain ⟨y7, z7⟩ := H.out.bx 0 rfl 7 _ rfl
  obtain ⟨y8, z8⟩ := H.out.bx 0 rfl 8 _ rfl
  obtain ⟨y9, z9⟩ := H.out.bx 0 rfl 9 _ rfl
  obtain ⟨y10, z10⟩ := H.out.bx 0 rfl 10 _ rfl
  go_upto_region 3 with fail
  replace H := Shut.mk ((H.out.put 0 rfl 0 (.int .i64 kd) (by simp)))
  simp only [List.set_cons_zero] at H
  clear x0 y0 z0 x1 y1 z1 x2 y2 z2 x3 y3 z3 x4 y4 z4 x5 y5 z5 x6 y6 z6 x7 y7 z7 x8 y8 z8 x9 y9 z9 x10 y10 z10
  refine wp_shade (fun W => SL w W [bxS (b1 + 1 + 1) [.int .i64 kd, .int .i64 0, .int .i64 0, .string ⟨#[]⟩, .string ⟨#[]⟩, .string ⟨#[]⟩, .int .i64 0, .int .i64 0, .int .i64 0, .bool false, .slice none 0 0], bxS (b1 + 1) [.int .i64 0, .int .i64 0, .int .i64 0, .string ⟨#[]⟩, .string ⟨#[]⟩, .string ⟨#[]⟩, .int .i64 0, .int .i64 0, .int .i64 0, .bool false, .slice none 0 0], bxS b1 [.int .i64 kd, .int .i64 ak, .int .i64 aw, .string ap, .string ad, .string ax, .int .i64 an, .int .i64 ho, .int .i64 at9, .bool cut, .slice la ln lc]]) H.out ?_
  intro W1 hW
  replace H := Shut.mk hW
  clear hW
  have x0 := (H.out.bx 2 rfl 0 _ rfl).1
  have x1 := (H.out.bx 2 rfl 1 _ rfl).1
  have x2 := (H.out.bx 2 rfl 2 _ rfl).1
  have x3 := (H.out.bx 2 rfl 3 _ rfl).1
  have x4 := (H.out.bx 2 rfl 4 _ rfl).1
  have x5 := (H.out.bx 2 rfl 5 _ rfl).1
  have x6 := (H.out.bx 2 rfl 6 _ rfl).1
  have x7 := (H.out.bx 2 rfl 7 _ rfl).1
  have x8 := (H.out.bx 2 rfl 8 _ rfl).1
  have x9 := (H.out.bx 2 rfl 9 _ rfl).1
  have x10 := (H.out.bx 2 rfl 10 _ rfl).1
  obtain ⟨y0, z0⟩ := H.out.bx 0 rfl 0 _ rfl
  obtain ⟨y1, z1⟩ := H.out.bx 0 rfl 1 _ rfl
  obtain ⟨y2, z2⟩ := H.out.bx 0 rfl 2 _ rfl
  obtain ⟨y3, z3⟩ := H.out.bx 0 rfl 3 _ rfl
  obtain ⟨y4, z4⟩ := H.out.bx 0 rfl 4 _ rfl
  obtain ⟨y5, z5⟩ := H.out.bx 0 rfl 5 _ rfl
  obtain ⟨y6, z6⟩ := H.out.bx 0 rfl 6 _ rfl
  obtain ⟨y7, z7⟩ := H.out.bx 0 rfl 7 _ rfl
  obtain ⟨y8, z8⟩ := H.out.bx 0 rfl 8 _ rfl
  obtain ⟨y9, z9⟩ := H.out.bx 0 rfl 9 _ rfl
  obtain ⟨y10, z10⟩ := H.out.bx 0 rfl 10 _ rfl
  go_wp2_with fail
  refine (HA.out _).mono ?_
  rintro e w3 ⟨rfl, hb⟩
  replace H := Shut.mk (H.out.below hb)
  clear hb x0 y0 z0 x1 y1 z1 x2 y2 z2 x3 y3 z3 x4 y4 z4 x5 y5 z5 x6 y6 z6 x7 y7 z7 x8 y8 z8 x9 y9 z9 x10 y10 z10
  have x0 := (H.out.bx 2 rfl 0 _ rfl).1
  have x1 := (H.out.bx 2 rfl 1 _ rfl).1
  have x2 := (H.out.bx 2 rfl 2 _ rfl).1
  have x3 := (H.out.bx 2 rfl 3 _ rfl).1
  have x4 := (H.out.bx 2 rfl 4 _ rfl).1
  have x5 := (H.out.bx 2 rfl 5 _ rfl).1
  have x6 := (H.out.bx 2 rfl 6 _ rfl).1
  have x7 := (H.out.bx 2 rfl 7 _ rfl).1
  have x8 := (H.out.bx 2 rfl 8 _ rfl).1
  have x9 := (H.out.bx 2 rfl 9 _ rfl).1
  have x10 := (H.out.bx 2 rfl 10 _ rfl).1
  obtain ⟨y0, z0⟩ := H.out.bx 0 rfl 0 _ rfl
  obtain ⟨y1, z1⟩ := H.out.bx 0 rfl 1 _ rfl
  obtain ⟨y2, z2⟩ := H.out.bx 0 rfl 2 _ rfl
  obtain ⟨y3, z3⟩ := H.out.bx 0 rfl 3 _ rfl
  obtain ⟨y4, z4⟩ := H.out.bx 0 rfl 4 _ rfl
  obtain ⟨y5, z5⟩ := H.out.bx 0 rfl 5 _ rfl
  obtain ⟨y6, z6⟩ := H.out.bx 0 rfl 6 _ rfl
  obtain ⟨y7, z7⟩ := H.out.bx 0 rfl 7 _ rfl
  obtain ⟨y8, z8⟩ := H.out.bx 0 rfl 8 _ rfl
  obtain ⟨y9, z9⟩ := H.out.bx 0 rfl 9 _ rfl
  obtain ⟨y10, z10⟩ := H.out.bx 0 rfl 10 _ rfl
  go_upto_region 4 with fail
  replace H := Shut.mk (((((((H.out.put 0 rfl 1 (.int .i64 ak) (by simp)).put 0 rfl 2 (.int .i64 aw) (by simp)).put 0 rfl 3 (.string ap) (by simp)).put 0 rfl 4 (.string ad) (by simp)).put 0 rfl 5 (.string ax) (by simp)).put 0 rfl 6 (.int .i64 an) (by simp)))
  simp only [List.set_cons_zero, List.set_cons_succ] at H
  clear x0 y0 z0 x1 y1 z1 x2 y2 z2 x3 y3 z3 x4 y4 z4 x5 y5 z5 x6 y6 z6 x7 y7 z7 x8 y8 z8 x9 y9 z9 x10 y10 z10
  refine wp_shade (fun W => SL w W [bxS (b1 + 1 + 1) [.int .i64 kd, .int .i64 ak, .int .i64 aw, .string ap, .string ad, .string ax, .int .i64 an, .int .i64 0, .int .i64 0, .bool false, .slice none 0 0], bxS (b1 + 1) [.int .i64 0, .int .i64 0, .int .i64 0, .string ⟨#[]⟩, .string ⟨#[]⟩, .string ⟨#[]⟩, .int .i64 0, .int .i64 0, .int .i64 0, .bool false, .slice none 0 0], bxS b1 [.int .i64 kd, .int .i64 ak, .int .i64 aw, .string ap, .string ad, .string ax, .int .i64 an, .int .i64 ho, .int .i64 at9, .bool cut, .slice la ln lc]]) H.out ?_
  intro W2 hW
  replace H := Shut.mk hW
  clear hW
  have x0 := (H.out.bx 2 rfl 0 _ rfl).1
  have x1 := (H.out.bx 2 rfl 1 _ rfl).1
  have x2 := (H.out.bx 2 rfl 2 _ rfl).1
  have x3 := (H.out.bx 2 rfl 3 _ rfl).1
  have x4 := (H.out.bx 2 rfl 4 _ rfl).1
  have x5 := (H.out.bx 2 rfl 5 _ rfl).1
  have x6 := (H.out.bx 2 rfl 6 _ rfl).1
  have x7 := (H.out.bx 2 rfl 7 _ rfl).1
  have x8 := (H.out.bx 2 rfl 8 _ rfl).1
  have x9 := (H.out.bx 2 rfl 9 _ rfl).1
  have x10 := (H.out.bx 2 rfl 10 _ rfl).1
  obtain ⟨y0, z0⟩ := H.out.bx 0 rfl 0 _ rfl
  obtain ⟨y1, z1⟩ := H.out.bx 0 rfl 1 _ rfl
  obtain ⟨y2, z2⟩ := H.out.bx 0 rfl 2 _ rfl
  obtain ⟨y3, z3⟩ := H.out.bx 0 rfl 3 _ rfl
  obtain ⟨y4, z4⟩ := H.out.bx 0 rfl 4 _ rfl
  obtain ⟨y5, z5⟩ := H.out.bx 0 rfl 5 _ rfl
  obtain ⟨y6, z6⟩ := H.out.bx 0 rfl 6 _ rfl
  obtain ⟨y7, z7⟩ := H.out.bx 0 rfl 7 _ rfl
  obtain ⟨y8, z8⟩ := H.out.bx 0 rfl 8 _ rfl
  obtain ⟨y9, z9⟩ := H.out.bx 0 rfl 9 _ rfl
  obtain ⟨y10, z10⟩ := H.out.bx 0 rfl 10 _ rfl
  go_upto_region 5 with fail
  replace H := Shut.mk ((H.out.put 0 rfl 7 (.int .i64 ho) (by simp)))
  simp only [List.set_cons_zero, List.set_cons_succ] at H
  clear x0 y0 z0 x1 y1 z1 x2 y2 z2 x3 y3 z3 x4 y4 z4 x5 y5 z5 x6 y6 z6 x7 y7 z7 x8 y8 z8 x9 y9 z9 x10 y10 z10
  refine wp_shade (fun W => SL w W [bxS (b1 + 1 + 1) [.int .i64 kd, .int .i64 ak, .int .i64 aw, .string ap, .string ad, .string ax, .int .i64 an, .int .i64 ho, .int .i64 0, .bool false, .slice none 0 0], bxS (b1 + 1) [.int .i64 0, .int .i64 0, .int .i64 0, .string ⟨#[]⟩, .string ⟨#[]⟩, .string ⟨#[]⟩, .int .i64 0, .int .i64 0, .int .i64 0, .bool false, .slice none 0 0], bxS b1 [.int .i64 kd, .int .i64 ak, .int .i64 aw, .string ap, .string ad, .string ax, .int .i64 an, .int .i64 ho, .int .i64 at9, .bool cut, .slice la ln lc]]) H.out ?_
  intro W3 hW
  replace H := Shut.mk hW
  clear hW
  have x0 := (H.out.bx 2 rfl 0 _ rfl).1
  have x1 := (H.out.bx 2 rfl 1 _ rfl).1
  have x2 := (H.out.bx 2 rfl 2 _ rfl).1
  have x3 := (H.out.bx 2 rfl 3 _ rfl).1
  have x4 := (H.out.bx 2 rfl 4 _ rfl).1
  have x5 := (H.out.bx 2 rfl 5 _ rfl).1
  have x6 := (H.out.bx 2 rfl 6 _ rfl).1
  have x7 := (H.out.bx 2 rfl 7 _ rfl).1
  have x8 := (H.out.bx 2 rfl 8 _ rfl).1
  have x9 := (H.out.bx 2 rfl 9 _ rfl).1
  have x10 := (H.out.bx 2 rfl 10 _ rfl).1
  obtain ⟨y0, z0⟩ := H.out.bx 0 rfl 0 _ rfl
  obtain ⟨y1, z1⟩ := H.out.bx 0 rfl 1 _ rfl
  obtain ⟨y2, z2⟩ := H.out.bx 0 rfl 2 _ rfl
  obtain ⟨y3, z3⟩ := H.out.bx 0 rfl 3 _ rfl
  obtain ⟨y4, z4⟩ := H.out.bx 0 rfl 4 _ rfl
  obtain ⟨y5, z5⟩ := H.out.bx 0 rfl 5 _ rfl
  obtain ⟨y6, z6⟩ := H.out.bx 0 rfl 6 _ rfl
  obtain ⟨y7, z7⟩ := H.out.bx 0 rfl 7 _ rfl
  obtain ⟨y8, z8⟩ := H.out.bx 0 rfl 8 _ rfl
  obtain ⟨y9, z9⟩ := H.out.bx 0 rfl 9 _ rfl
  obtain ⟨y10, z10⟩ := H.out.bx 0 rfl 10 _ rfl
  go_upto_region 6 with fail
  replace H := Shut.mk ((H.out.put 0 rfl 8 (.int .i64 at9) (by simp)))
  simp only [List.set_cons_zero, List.set_cons_succ] at H
  clear x0 y0 z0 x1 y1 z1 x2 y2 z2 x3 y3 z3 x4 y4 z4 x5 y5 z5 x6 y6 z6 x7 y7 z7 x8 y8 z8 x9 y9 z9 x10 y10 z10
  refine wp_shade (fun W => SL w W [bxS (b1 + 1 + 1) [.int .i64 kd, .int .i64 ak, .int .i64 aw, .string ap, .string ad, .string ax, .int .i64 an, .int .i64 ho, .int .i64 at9, .bool false, .slice none 0 0], bxS (b1 + 1) [.int .i64 0, .int .i64 0, .int .i64 0, .string ⟨#[]⟩, .string ⟨#[]⟩, .string ⟨#[]⟩, .int .i64 0, .int .i64 0, .int .i64 0, .bool false, .slice none 0 0], bxS b1 [.int .i64 kd, .int .i64 ak, .int .i64 aw, .string ap, .string ad, .string ax, .int .i64 an, .int .i64 ho, .int .i64 at9, .bool cut, .slice la ln lc]]) H.out ?_
  intro W4 hW
  replace H := Shut.mk hW
  clear hW
  have x0 := (H.out.bx 2 rfl 0 _ rfl).1
  have x1 := (H.out.bx 2 rfl 1 _ rfl).1
  have x2 := (H.out.bx 2 rfl 2 _ rfl).1
  have x3 := (H.out.bx 2 rfl 3 _ rfl).1
  have x4 := (H.out.bx 2 rfl 4 _ rfl).1
  have x5 := (H.out.bx 2 rfl 5 _ rfl).1
  have x6 := (H.out.bx 2 rfl 6 _ rfl).1
  have x7 := (H.out.bx 2 rfl 7 _ rfl).1
  have x8 := (H.out.bx 2 rfl 8 _ rfl).1
  have x9 := (H.out.bx 2 rfl 9 _ rfl).1
  have x10 := (H.out.bx 2 rfl 10 _ rfl).1
  obtain ⟨y0, z0⟩ := H.out.bx 0 rfl 0 _ rfl
  obtain ⟨y1, z1⟩ := H.out.bx 0 rfl 1 _ rfl
  obtain ⟨y2, z2⟩ := H.out.bx 0 rfl 2 _ rfl
  obtain ⟨y3, z3⟩ := H.out.bx 0 rfl 3 _ rfl
  obtain ⟨y4, z4⟩ := H.out.bx 0 rfl 4 _ rfl
  obtain ⟨y5, z5⟩ := H.out.bx 0 rfl 5 _ rfl
  obtain ⟨y6, z6⟩ := H.out.bx 0 rfl 6 _ rfl
  obtain ⟨y7, z7⟩ := H.out.bx 0 rfl 7 _ rfl
  obtain ⟨y8, z8⟩ := H.out.bx 0 rfl 8 _ rfl
  obtain ⟨y9, z9⟩ := H.out.bx 0 rfl 9 _ rfl
  obtain ⟨y10, z10⟩ := H.out.bx 0 rfl 10 _ rfl
  go_upto_region 7 with fail
  replace H := Shut.mk ((H.out.put 0 rfl 9 (.bool cut) (by simp)))
  simp only [List.set_cons_zero, List.set_cons_succ] at H
  clear x0 y0 z0 x1 y1 z1 x2 y2 z2 x3 y3 z3 x4 y4 z4 x5 y5 z5 x6 y6 z6 x7 y7 z7 x8 y8 z8 x9 y9 z9 x10 y10 z10
  refine wp_shade (fun W => SL w W [bxS (b1 + 1 + 1) [.int .i64 kd, .int .i64 ak, .int .i64 aw, .string ap, .string ad, .string ax, .int .i64 an, .int .i64 ho, .int .i64 at9, .bool cut, .slice none 0 0], bxS (b1 + 1) [.int .i64 0, .int .i64 0, .int .i64 0, .string ⟨#[]⟩, .string ⟨#[]⟩, .string ⟨#[]⟩, .int .i64 0, .int .i64 0, .int .i64 0, .bool false, .slice none 0 0], bxS b1 [.int .i64 kd, .int .i64 ak, .int .i64 aw, .string ap, .string ad, .string ax, .int .i64 an, .int .i64 ho, .int .i64 at9, .bool cut, .slice la ln lc]]) H.out ?_
  intro W5 hW
  replace H := Shut.mk hW
  clear hW
  have x0 := (H.out.bx 2 rfl 0 _ rfl).1
  have x1 := (H.out.bx 2 rfl 1 _ rfl).1
  have x2 := (H.out.bx 2 rfl 2 _ rfl).1
  have x3 := (H.out.bx 2 rfl 3 _ rfl).1
  have x4 := (H.out.bx 2 rfl 4 _ rfl).1
  have x5 := (H.out.bx 2 rfl 5 _ rfl).1
  have x6 := (H.out.bx 2 rfl 6 _ rfl).1
  have x7 := (H.out.bx 2 rfl 7 _ rfl).1
  have x8 := (H.out.bx 2 rfl 8 _ rfl).1
  have x9 := (H.out.bx 2 rfl 9 _ rfl).1
  have x10 := (H.out.bx 2 rfl 10 _ rfl).1
  obtain ⟨y0, z0⟩ := H.out.bx 0 rfl 0 _ rfl
  obtain ⟨y1, z1⟩ := H.out.bx 0 rfl 1 _ rfl
  obtain ⟨y2, z2⟩ := H.out.bx 0 rfl 2 _ rfl
  obtain ⟨y3, z3⟩ := H.out.bx 0 rfl 3 _ rfl
  obtain ⟨y4, z4⟩ := H.out.bx 0 rfl 4 _ rfl
  obtain ⟨y5, z5⟩ := H.out.bx 0 rfl 5 _ rfl
  obtain ⟨y6, z6⟩ := H.out.bx 0 rfl 6 _ rfl
  obtain ⟨y7, z7⟩ := H.out.bx 0 rfl 7 _ rfl
  obtain ⟨y8, z8⟩ := H.out.bx 0 rfl 8 _ rfl
  obtain ⟨y9, z9⟩ := H.out.bx 0 rfl 9 _ rfl
  obtain ⟨y10, z10⟩ := H.out.bx 0 rfl 10 _ rfl
  go_wp2_with fail
  refine (HL.out _ H.out.bel).mono ?_
  rintro e w6 ⟨gl, rfl, hg1, hwc, hb⟩
  replace H := Shut.mk (H.out.add (s := rwS (some ⟨gl, 0, none⟩) (ics left) W5.heap.size w6.heap.size) hb (.inr ⟨gl, rfl, hg1, hwc.1, hwc⟩) (rwS.loc _ _ _ _) (Nat.le_refl _) (Nat.le_refl _))
  obtain ⟨lo6, hlo6⟩ : ∃ q, q = W5.heap.size := ⟨_, rfl⟩
  obtain ⟨hi6, hhi6⟩ : ∃ q, q = w6.heap.size := ⟨_, rfl⟩
  rw [← hlo6, ← hhi6] at H
  clear hb hg1 hwc hlo6 hhi6 x0 y0 z0 x1 y1 z1 x2 y2 z2 x3 y3 z3 x4 y4 z4 x5 y5 z5 x6 y6 z6 x7 y7 z7 x8 y8 z8 x9 y9 z9 x10 y10 z10
  have x0 := (H.out.bx 3 rfl 0 _ rfl).1
  have x1 := (H.out.bx 3 rfl 1 _ rfl).1
  have x2 := (H.out.bx 3 rfl 2 _ rfl).1
  have x3 := (H.out.bx 3 rfl 3 _ rfl).1
  have x4 := (H.out.bx 3 rfl 4 _ rfl).1
  have x5 := (H.out.bx 3 rfl 5 _ rfl).1
  have x6 := (H.out.bx 3 rfl 6 _ rfl).1
  have x7 := (H.out.bx 3 rfl 7 _ rfl).1
  have x8 := (H.out.bx 3 rfl 8 _ rfl).1
  have x9 := (H.out.bx 3 rfl 9 _ rfl).1
  have x10 := (H.out.bx 3 rfl 10 _ rfl).1
  obtain ⟨y0, z0⟩ := H.out.bx 1 rfl 0 _ rfl
  obtain ⟨y1, z1⟩ := H.out.bx 1 rfl 1 _ rfl
  obtain ⟨y2, z2⟩ := H.out.bx 1 rfl 2 _ rfl
  obtain ⟨y3, z3⟩ := H.out.bx 1 rfl 3 _ rfl
  obtain ⟨y4, z4⟩ := H.out.bx 1 rfl 4 _ rfl
  obtain ⟨y5, z5⟩ := H.out.bx 1 rfl 5 _ rfl
  obtain ⟨y6, z6⟩ := H.out.bx 1 rfl 6 _ rfl
  obtain ⟨y7, z7⟩ := H.out.bx 1 rfl 7 _ rfl
  obtain ⟨y8, z8⟩ := H.out.bx 1 rfl 8 _ rfl
  obtain ⟨y9, z9⟩ := H.out.bx 1 rfl 9 _ rfl
  obtain ⟨y10, z10⟩ := H.out.bx 1 rfl 10 _ rfl
  go_upto_region 8 with fail
  replace H := Shut.mk ((H.out.put 1 rfl 10 (.slice (some ⟨gl, 0, none⟩) ln ln) (by simp)))
  simp only [List.set_cons_zero, List.set_cons_succ] at H
  clear x0 y0 z0 x1 y1 z1 x2 y2 z2 x3 y3 z3 x4 y4 z4 x5 y5 z5 x6 y6 z6 x7 y7 z7 x8 y8 z8 x9 y9 z9 x10 y10 z10
  refine wp_shade (fun W => SL w W [rwS (some ⟨gl, 0, none⟩) (ics left) lo6 hi6, bxS (b1 + 1 + 1) [.int .i64 kd, .int .i64 ak, .int .i64 aw, .string ap, .string ad, .string ax, .int .i64 an, .int .i64 ho, .int .i64 at9, .bool cut, .slice (some ⟨gl, 0, none⟩) ln ln], bxS (b1 + 1) [.int .i64 0, .int .i64 0, .int .i64 0, .string ⟨#[]⟩, .string ⟨#[]⟩, .string ⟨#[]⟩, .int .i64 0, .int .i64 0, .int .i64 0, .bool false, .slice none 0 0], bxS b1 [.int .i64 kd, .int .i64 ak, .int .i64 aw, .string ap, .string ad, .string ax, .int .i64 an, .int .i64 ho, .int .i64 at9, .bool cut, .slice la ln lc]]) H.out ?_
  intro W6 hW
  replace H := Shut.mk hW
  clear hW
  have x0 := (H.out.bx 3 rfl 0 _ rfl).1
  have x1 := (H.out.bx 3 rfl 1 _ rfl).1
  have x2 := (H.out.bx 3 rfl 2 _ rfl).1
  have x3 := (H.out.bx 3 rfl 3 _ rfl).1
  have x4 := (H.out.bx 3 rfl 4 _ rfl).1
  have x5 := (H.out.bx 3 rfl 5 _ rfl).1
  have x6 := (H.out.bx 3 rfl 6 _ rfl).1
  have x7 := (H.out.bx 3 rfl 7 _ rfl).1
  have x8 := (H.out.bx 3 rfl 8 _ rfl).1
  have x9 := (H.out.bx 3 rfl 9 _ rfl).1
  have x10 := (H.out.bx 3 rfl 10 _ rfl).1
  obtain ⟨y0, z0⟩ := H.out.bx 1 rfl 0 _ rfl
  obtain ⟨y1, z1⟩ := H.out.bx 1 rfl 1 _ rfl
  obtain ⟨y2, z2⟩ := H.out.bx 1 rfl 2 _ rfl
  obtain ⟨y3, z3⟩ := H.out.bx 1 rfl 3 _ rfl
  obtain ⟨y4, z4⟩ := H.out.bx 1 rfl 4 _ rfl
  obtain ⟨y5, z5⟩ := H.out.bx 1 rfl 5 _ rfl
  obtain ⟨y6, z6⟩ := H.out.bx 1 rfl 6 _ rfl
  obtain ⟨y7, z7⟩ := H.out.bx 1 rfl 7 _ rfl
  obtain ⟨y8, z8⟩ := H.out.bx 1 rfl 8 _ rfl
  obtain ⟨y9, z9⟩ := H.out.bx 1 rfl 9 _ rfl
  obtain ⟨y10, z10⟩ := H.out.bx 1 rfl 10 _ rfl
  obtain ⟨r0, s0⟩ := H.out.bx 2 rfl 0 _ rfl
  obtain ⟨r1, s1⟩ := H.out.bx 2 rfl 1 _ rfl
  obtain ⟨r2, s2⟩ := H.out.bx 2 rfl 2 _ rfl
  obtain ⟨r3, s3⟩ := H.out.bx 2 rfl 3 _ rfl
  obtain ⟨r4, s4⟩ := H.out.bx 2 rfl 4 _ rfl
  obtain ⟨r5, s5⟩ := H.out.bx 2 rfl 5 _ rfl
  obtain ⟨r6, s6⟩ := H.out.bx 2 rfl 6 _ rfl
  obtain ⟨r7, s7⟩ := H.out.bx 2 rfl 7 _ rfl
  obtain ⟨r8, s8⟩ := H.out.bx 2 rfl 8 _ rfl
  obtain ⟨r9, s9⟩ := H.out.bx 2 rfl 9 _ rfl
  obtain ⟨r10, s10⟩ := H.out.bx 2 rfl 10 _ rfl
  have HE := Shut.mk ((((((((((((H.out.put 2 rfl 0 (.int .i64 kd) (by simp)).put 2 rfl 1 (.int .i64 ak) (by simp)).put 2 rfl 2 (.int .i64 aw) (by simp)).put 2 rfl 3 (.string ap) (by simp)).put 2 rfl 4 (.string ad) (by simp)).put 2 rfl 5 (.string ax) (by simp)).put 2 rfl 6 (.int .i64 an) (by simp)).put 2 rfl 7 (.int .i64 ho) (by simp)).put 2 rfl 8 (.int .i64 at9) (by simp)).put 2 rfl 9 (.bool cut) (by simp)).put 2 rfl 10 (.slice (some ⟨gl, 0, none⟩) ln ln) (by simp)))
  simp only [List.set_cons_zero, List.set_cons_succ] at HE
  go_wp2_with fail
  refine bodyPost_ret (v := .agg #[.int .i64 kd, .int .i64 ak, .int .i64 aw, .string ap, .string ad, .string ax, .int .i64 an, .int .i64 ho, .int .i64 at9, .bool cut, .slice (some ⟨gl, 0, none⟩) ln ln]) (by simp [results, Try.results8, go_sem, r0, r1, r2, r3, r4, r5, r6, r7, r8, r9, r10]) rfl ?_
  exact ⟨some ⟨gl, 0, none⟩, ln, rfl, (show FRw _ (some ⟨gl, 0, none⟩) (ics left) lo6 hi6 from HE.out.at 0 rfl).crow, HE.out.bel⟩
/-- A right event. -/
def eventOk (e : EvM) : Bool := inI e.kind 1 9 && inI e.host 1 7 && !(decide (e.at9 < 0)) && !(decide (30 < e.left.length)) && (e.kind != 1 || askOk e.ask)
set_option maxHeartbeats 4000000 in
set_option maxRecDepth 100000 in
theorem specEventOk (e : EvM) (la : Option Addr) (lc ln : Nat) (w : World) (hp : e.ask.path.size ≤ 1048576) (hd : e.ask.dest.size ≤ 1048576) (hn : ln = e.left.length) :
    Calls Try.prog 7 #[.agg #[.int .i64 e.kind, .int .i64 e.ask.kind, .int .i64 e.ask.who, .string e.ask.path, .string e.ask.dest, .string e.ask.text, .int .i64 e.ask.num, .int .i64 e.host, .int .i64 e.at9, .bool e.cut, .slice la ln lc]] w fun r w' => r = .returned (.bool (eventOk e)) ∧ Below w.heap.size w w' := by
  have HIN := Shut.mk (fun x a b W => isInI x a b W _ rfl)
  have HOK := Shut.mk (fun W => specAskOk e.ask W hp hd)
  obtain ⟨R, hR⟩ : ∃ R, R = eventOk e := ⟨_, rfl⟩
  rw [← hR]
  unfold eventOk at hR
  rw [← hn] at hR
  generalize askOk e.ask = ok9 at HOK hR
  have HR := Shut.mk hR
  clear hR hp hd hn
  obtain ⟨kd, ⟨ak, aw, ap, ad, ax, an⟩, ho, at9, cut, left⟩ := e
  dsimp only at *
  by_cases h1 : inI kd 1 9 = true
  case neg =>
    have h1' : inI kd 1 9 = false := by simpa using h1
    go_enter Try.func7, Try.ntmps7
    go_wp2_with (go_at_call 24; refine (HIN.out _ _ _ _).mono ?_; rintro r w1 ⟨rfl, rfl⟩)
    go_ret
    exact ⟨by rw [HR.out]; simp [*], (Below.refl _ _).alloc (Nat.le_refl _) _⟩
  by_cases h2 : inI ho 1 7 = true
  case neg =>
    have h2' : inI ho 1 7 = false := by simpa using h2
    go_enter Try.func7, Try.ntmps7
    go_wp2_with (go_at_call 24; refine (HIN.out _ _ _ _).mono ?_; rintro r w1 ⟨rfl, rfl⟩)
    go_ret
    exact ⟨by rw [HR.out]; simp [*], (Below.refl _ _).alloc (Nat.le_refl _) _⟩
  by_cases h3 : at9 < 0
  · have h3' : decide (at9 < 0) = true := by simpa using h3
    go_enter Try.func7, Try.ntmps7
    go_wp2_with (go_at_call 24; refine (HIN.out _ _ _ _).mono ?_; rintro r w1 ⟨rfl, rfl⟩)
    go_ret
    exact ⟨by rw [HR.out]; simp [*], (Below.refl _ _).alloc (Nat.le_refl _) _⟩
  have h3' : decide (at9 < 0) = false := by simpa using h3
  by_cases h4 : 30 < ln
  · have h4' : (30 : Int) < (ln : Int) := by omega
    have h4e : decide ((30 : Int) < (ln : Int)) = true := decide_eq_true h4'
    go_enter Try.func7, Try.ntmps7
    go_wp2_with (go_at_call 24; refine (HIN.out _ _ _ _).mono ?_; rintro r w1 ⟨rfl, rfl⟩)
    go_ret
    exact ⟨by rw [HR.out]; simp [*], (Below.refl _ _).alloc (Nat.le_refl _) _⟩
  have h4' : ¬ (30 : Int) < (ln : Int) := by omega
  have h4e : decide ((30 : Int) < (ln : Int)) = false := decide_eq_false h4'
  by_cases h5 : kd = 1
  · subst h5
    go_enter Try.func7, Try.ntmps7
    go_wp2_with (first | (go_at_call 24; refine (HIN.out _ _ _ _).mono ?_; rintro r w1 ⟨rfl, rfl⟩) | (go_at_call 25; refine (HOK.out _).mono ?_; rintro r w1 ⟨rfl, hb⟩; have HB := Shut.mk hb; clear hb))
    go_ret
    exact ⟨by rw [HR.out]; simp [*], Below.trans ((Below.refl _ _).alloc (Nat.le_refl _) _) (HB.out.mono (by simp))⟩
  have h5' : (kd != 1) = true := by simpa using h5
  go_enter Try.func7, Try.ntmps7
  go_wp2_with (go_at_call 24; refine (HIN.out _ _ _ _).mono ?_; rintro r w1 ⟨rfl, rfl⟩)
  go_ret
  exact ⟨by rw [HR.out]; simp [*], (Below.refl _ _).alloc (Nat.le_refl _) _⟩
set_option maxHeartbeats 8000000 in
set_option maxRecDepth 1000000 in
theorem lawEventOk (e : EvM) (la : Option Addr) (lc : Nat) (R : Bool) (w : World) (hr : CRow w la (ics e.left)) (hq : AkFit e.ask) (hl : e.left.length ≤ 9223372036854775807)
    (hsp : e.ask.path.size ≤ 1048576 → e.ask.dest.size ≤ 1048576 → ∀ (W : World) (b : Option Addr) (c : Nat), Calls Try.prog 7 #[evC e b c] W fun r w' => r = .returned (.bool R) ∧ Below W.heap.size W w')
    (him : e.ask.path.size ≤ 1048576 → e.ask.dest.size ≤ 1048576 → e.ask.text.size ≤ 1048576 → e.left.length ≤ 1048576 → ∀ (W : World) (b : Option Addr) (c : Nat), CRow W b (ics e.left) → Below w.heap.size w W → Calls Try.prog 9 #[evC e b c] W fun r w' => r = .returned (.bool R) ∧ Below W.heap.size W w') :
    Calls Try.prog 3 #[evC e la lc] w fun r w' => r = .returned (.bool true) ∧ Below w.heap.size w w' := by
  have HSZ := Shut.mk (fun (W : World) => szEvent_any (w := W) e.ask (la := la) (lc := lc) (kd := e.kind) (ho := e.host) (at9 := e.at9) (cut := e.cut) 1048576 hq hl (by omega) (by omega))
  have HTO := Shut.mk (fun (hf : e.left.length ≤ 1048576) (W : World) (hb : Below w.heap.size w W) => toEvent_any e.ask (lc := lc) (kd := e.kind) (ho := e.host) (at9 := e.at9) (cut := e.cut) (hr.stays hb) rfl hf)
  have HEQ := Shut.mk (fun (hf : e.left.length ≤ 1048576) (W : World) (b c : Option Addr) (x y : Nat) (h : CRow W b (ics e.left)) (k : CRow W c (ics e.left)) => eqEvent_same e.ask (lc := x) (lc' := y) (kd := e.kind) (ho := e.host) (at9 := e.at9) (cut := e.cut) h k rfl hf)
  have HSP := Shut.mk hsp
  have HIM := Shut.mk him
  clear hr hq hsp him
  obtain ⟨kd, ⟨ak, aw, ap, ad, ax, an⟩, ho, at9, cut, left⟩ := e
  dsimp only [evC] at *
  obtain ⟨ln, hln⟩ : ∃ q, q = left.length := ⟨_, rfl⟩
  rw [← hln] at HSZ HTO HEQ HSP HIM ⊢
  clear hl hln
  have hdd : (R != R) = false := by simp
  have HS := Shut.mk ((SL.start w).new #[.int .i64 kd, .int .i64 ak, .int .i64 aw, .string ap, .string ad, .string ax, .int .i64 an, .int .i64 ho, .int .i64 at9, .bool cut, .slice la ln lc] 26)
  obtain ⟨b1, hb1⟩ : ∃ q, q = w.heap.size := ⟨_, rfl⟩
  go_enter Try.func3, Try.ntmps3
  go_upto_region 2 with fail
  rw [← hb1] at HS
  refine wp_shade (fun W => SL w W [bxS b1 [.int .i64 kd, .int .i64 ak, .int .i64 aw, .string ap, .string ad, .string ax, .int .i64 an, .int .i64 ho, .int .i64 at9, .bool cut, .slice la ln lc]]) HS.out ?_
  rw [← hb1]
  intro W0 hS0
  have H := Shut.mk hS0
  clear hS0 HS hb1
  have x0 := (H.out.bx 0 rfl 0 _ rfl).1
  have x1 := (H.out.bx 0 rfl 1 _ rfl).1
  have x2 := (H.out.bx 0 rfl 2 _ rfl).1
  have x3 := (H.out.bx 0 rfl 3 _ rfl).1
  have x4 := (H.out.bx 0 rfl 4 _ rfl).1
  have x5 := (H.out.bx 0 rfl 5 _ rfl).1
  have x6 := (H.out.bx 0 rfl 6 _ rfl).1
  have x7 := (H.out.bx 0 rfl 7 _ rfl).1
  have x8 := (H.out.bx 0 rfl 8 _ rfl).1
  have x9 := (H.out.bx 0 rfl 9 _ rfl).1
  have x10 := (H.out.bx 0 rfl 10 _ rfl).1
  go_wp2_with fail
  refine (HSZ.out _).mono ?_
  rintro r w1 ⟨t, rfl, t0, t1, hb⟩
  replace H := Shut.mk (H.out.below hb)
  clear hb x0 x1 x2 x3 x4 x5 x6 x7 x8 x9 x10 HSZ
  by_cases hq : t < 0
  · clear t1
    go_wp2_with fail
    go_ret
    exact ⟨rfl, H.out.bel⟩
  have ht1 := t1 (by omega)
  replace HTO := Shut.mk (HTO.out (by omega))
  replace HEQ := Shut.mk (HEQ.out (by omega))
  replace HSP := Shut.mk (HSP.out (by omega) (by omega))
  replace HIM := Shut.mk (HIM.out (by omega) (by omega) (by omega) (by omega))
  clear t1 ht1 t0
  have x0 := (H.out.bx 0 rfl 0 _ rfl).1
  have x1 := (H.out.bx 0 rfl 1 _ rfl).1
  have x2 := (H.out.bx 0 rfl 2 _ rfl).1
  have x3 := (H.out.bx 0 rfl 3 _ rfl).1
  have x4 := (H.out.bx 0 rfl 4 _ rfl).1
  have x5 := (H.out.bx 0 rfl 5 _ rfl).1
  have x6 := (H.out.bx 0 rfl 6 _ rfl).1
  have x7 := (H.out.bx 0 rfl 7 _ rfl).1
  have x8 := (H.out.bx 0 rfl 8 _ rfl).1
  have x9 := (H.out.bx 0 rfl 9 _ rfl).1
  have x10 := (H.out.bx 0 rfl 10 _ rfl).1
  go_wp2_with fail
  refine (HTO.out _ H.out.bel).mono ?_
  rintro r w2 ⟨l9, n9, rfl, _, hb⟩
  replace H := Shut.mk (H.out.below hb)
  clear hb x0 x1 x2 x3 x4 x5 x6 x7 x8 x9 x10
  go_wp2_with fail
  refine (HSP.out _ l9 n9).mono ?_
  rintro r w3 ⟨rfl, hb⟩
  replace H := Shut.mk (H.out.below hb)
  clear hb HSP
  go_upto_region 6 with fail
  have x0 := (H.out.bx 0 rfl 0 _ rfl).1
  have x1 := (H.out.bx 0 rfl 1 _ rfl).1
  have x2 := (H.out.bx 0 rfl 2 _ rfl).1
  have x3 := (H.out.bx 0 rfl 3 _ rfl).1
  have x4 := (H.out.bx 0 rfl 4 _ rfl).1
  have x5 := (H.out.bx 0 rfl 5 _ rfl).1
  have x6 := (H.out.bx 0 rfl 6 _ rfl).1
  have x7 := (H.out.bx 0 rfl 7 _ rfl).1
  have x8 := (H.out.bx 0 rfl 8 _ rfl).1
  have x9 := (H.out.bx 0 rfl 9 _ rfl).1
  have x10 := (H.out.bx 0 rfl 10 _ rfl).1
  go_wp2_with fail
  refine (HTO.out _ H.out.bel).mono ?_
  rintro r w4 ⟨lb, lc', rfl, hrow, hb⟩
  replace H := Shut.mk ((H.out.below hb).new #[.int .i64 kd, .int .i64 ak, .int .i64 aw, .string ap, .string ad, .string ax, .int .i64 an, .int .i64 ho, .int .i64 at9, .bool cut, .slice lb ln lc'] 31)
  have KA := Shut.mk (hrow.stays ((Below.refl _ _).alloc (Nat.le_refl _) (.cells #[.int .i64 kd, .int .i64 ak, .int .i64 aw, .string ap, .string ad, .string ax, .int .i64 an, .int .i64 ho, .int .i64 at9, .bool cut, .slice lb ln lc'] 31)))
  obtain ⟨b5, hb5⟩ : ∃ q, q = w4.heap.size := ⟨_, rfl⟩
  rw [← hb5] at H
  clear hb hrow x0 x1 x2 x3 x4 x5 x6 x7 x8 x9 x10
  go_upto_region 7 with fail
  refine wp_shade (fun W => SL w W [bxS b5 [.int .i64 kd, .int .i64 ak, .int .i64 aw, .string ap, .string ad, .string ax, .int .i64 an, .int .i64 ho, .int .i64 at9, .bool cut, .slice lb ln lc'], bxS b1 [.int .i64 kd, .int .i64 ak, .int .i64 aw, .string ap, .string ad, .string ax, .int .i64 an, .int .i64 ho, .int .i64 at9, .bool cut, .slice la ln lc]] ∧ CRow W lb (ics left)) ⟨H.out, KA.out⟩ ?_
  rw [← hb5]
  intro W5 hW
  replace H := Shut.mk hW.1
  replace KA := Shut.mk hW.2
  clear hW hb5
  have x0 := (H.out.bx 0 rfl 0 _ rfl).1
  have x1 := (H.out.bx 0 rfl 1 _ rfl).1
  have x2 := (H.out.bx 0 rfl 2 _ rfl).1
  have x3 := (H.out.bx 0 rfl 3 _ rfl).1
  have x4 := (H.out.bx 0 rfl 4 _ rfl).1
  have x5 := (H.out.bx 0 rfl 5 _ rfl).1
  have x6 := (H.out.bx 0 rfl 6 _ rfl).1
  have x7 := (H.out.bx 0 rfl 7 _ rfl).1
  have x8 := (H.out.bx 0 rfl 8 _ rfl).1
  have x9 := (H.out.bx 0 rfl 9 _ rfl).1
  have x10 := (H.out.bx 0 rfl 10 _ rfl).1
  go_wp2_with fail
  refine (HIM.out _ lb lc' KA.out H.out.bel).mono ?_
  rintro r w6 ⟨rfl, hb⟩
  replace H := Shut.mk (H.out.below hb)
  replace KA := Shut.mk (KA.out.stays hb)
  clear hb x0 x1 x2 x3 x4 x5 x6 x7 x8 x9 x10 HIM
  go_upto_region 10 with fail
  have HTX : Shut (∀ x, Later w6.drew x → SL w x [bxS b5 [.int .i64 kd, .int .i64 ak, .int .i64 aw, .string ap, .string ad, .string ax, .int .i64 an, .int .i64 ho, .int .i64 at9, .bool cut, .slice lb ln lc'], bxS b1 [.int .i64 kd, .int .i64 ak, .int .i64 aw, .string ap, .string ad, .string ax, .int .i64 an, .int .i64 ho, .int .i64 at9, .bool cut, .slice la ln lc]]) := ⟨fun x hx => H.out.below (Below.trans (Below.drew (Below.refl _ _)) hx)⟩
  have HLE : Shut (∀ x, Later w6.drew x → x.cell? ⟨b5, 0, none⟩ = some (.int .i64 kd) ∧ x.cell? ⟨b5, 1, none⟩ = some (.int .i64 ak) ∧ x.cell? ⟨b5, 2, none⟩ = some (.int .i64 aw) ∧ x.cell? ⟨b5, 3, none⟩ = some (.string ap) ∧ x.cell? ⟨b5, 4, none⟩ = some (.string ad) ∧ x.cell? ⟨b5, 5, none⟩ = some (.string ax) ∧ x.cell? ⟨b5, 6, none⟩ = some (.int .i64 an) ∧ x.cell? ⟨b5, 7, none⟩ = some (.int .i64 ho) ∧ x.cell? ⟨b5, 8, none⟩ = some (.int .i64 at9) ∧ x.cell? ⟨b5, 9, none⟩ = some (.bool cut) ∧ x.cell? ⟨b5, 10, none⟩ = some (.slice lb ln lc') ∧ x.cell? ⟨b1, 0, none⟩ = some (.int .i64 kd) ∧ x.cell? ⟨b1, 1, none⟩ = some (.int .i64 ak) ∧ x.cell? ⟨b1, 2, none⟩ = some (.int .i64 aw) ∧ x.cell? ⟨b1, 3, none⟩ = some (.string ap) ∧ x.cell? ⟨b1, 4, none⟩ = some (.string ad) ∧ x.cell? ⟨b1, 5, none⟩ = some (.string ax) ∧ x.cell? ⟨b1, 6, none⟩ = some (.int .i64 an) ∧ x.cell? ⟨b1, 7, none⟩ = some (.int .i64 ho) ∧ x.cell? ⟨b1, 8, none⟩ = some (.int .i64 at9) ∧ x.cell? ⟨b1, 9, none⟩ = some (.bool cut) ∧ x.cell? ⟨b1, 10, none⟩ = some (.slice la ln lc)) := ⟨fun x hx => ⟨((HTX.out x hx).bx 0 rfl 0 _ rfl).1, ((HTX.out x hx).bx 0 rfl 1 _ rfl).1, ((HTX.out x hx).bx 0 rfl 2 _ rfl).1, ((HTX.out x hx).bx 0 rfl 3 _ rfl).1, ((HTX.out x hx).bx 0 rfl 4 _ rfl).1, ((HTX.out x hx).bx 0 rfl 5 _ rfl).1, ((HTX.out x hx).bx 0 rfl 6 _ rfl).1, ((HTX.out x hx).bx 0 rfl 7 _ rfl).1, ((HTX.out x hx).bx 0 rfl 8 _ rfl).1, ((HTX.out x hx).bx 0 rfl 9 _ rfl).1, ((HTX.out x hx).bx 0 rfl 10 _ rfl).1, ((HTX.out x hx).bx 1 rfl 0 _ rfl).1, ((HTX.out x hx).bx 1 rfl 1 _ rfl).1, ((HTX.out x hx).bx 1 rfl 2 _ rfl).1, ((HTX.out x hx).bx 1 rfl 3 _ rfl).1, ((HTX.out x hx).bx 1 rfl 4 _ rfl).1, ((HTX.out x hx).bx 1 rfl 5 _ rfl).1, ((HTX.out x hx).bx 1 rfl 6 _ rfl).1, ((HTX.out x hx).bx 1 rfl 7 _ rfl).1, ((HTX.out x hx).bx 1 rfl 8 _ rfl).1, ((HTX.out x hx).bx 1 rfl 9 _ rfl).1, ((HTX.out x hx).bx 1 rfl 10 _ rfl).1⟩⟩
  have HKA : Shut (∀ x, Later w6.drew x → CRow x lb (ics left)) := ⟨fun x hx => KA.out.stays (Below.trans (Below.drew (Below.refl _ _)) hx)⟩
  refine wp_region_set (fun _ => false) (by kernel_rfl) ?_
  refine wpD_val (i := 0) (v := ?va0) rfl (by kernel_rfl) (by kernel_rfl) (by kernel_rfl) (by kernel_rfl) (fun _ _ _ h => h) (by rfl) ?hya0 ?resta0
  case hya0 => (intro x hx; obtain ⟨d0, d1, d2, d3, d4, d5, d6, d7, d8, d9, d10, d11, d12, d13, d14, d15, d16, d17, d18, d19, d20, d21⟩ := HLE.out x hx; go_simp; try with_reducible rfl)
  try simp only [Act.put, List.setIfInBounds_toArray, List.set_cons_zero, List.set_cons_succ]
  refine wpD_val (i := 1) (v := ?va1) rfl (by kernel_rfl) (by kernel_rfl) (by kernel_rfl) (by kernel_rfl) (fun _ _ _ h => h) (by rfl) ?hya1 ?resta1
  case hya1 => (intro x hx; obtain ⟨d0, d1, d2, d3, d4, d5, d6, d7, d8, d9, d10, d11, d12, d13, d14, d15, d16, d17, d18, d19, d20, d21⟩ := HLE.out x hx; go_simp; try with_reducible rfl)
  try simp only [Act.put, List.setIfInBounds_toArray, List.set_cons_zero, List.set_cons_succ]
  refine wpD_onecall (f := 8) (args := #[.agg #[.int .i64 kd, .int .i64 ak, .int .i64 aw, .string ap, .string ad, .string ax, .int .i64 an, .int .i64 ho, .int .i64 at9, .bool cut, .slice la ln lc]]) (i := 2) (by kernel_rfl) rfl (by rfl) (fun x hx => by go_simp) (fun x hx => (HTO.out x (HTX.out x hx).bel).mono ?_)
  rintro r z ⟨l2, n2, rfl, hat, hb⟩
  refine ⟨_, rfl, hb, ?_⟩
  have KB := Shut.mk hat
  have KC := Shut.mk ((HKA.out x hx).stays hb)
  have HTY : Shut (∀ y, Later z y → Below w.heap.size w y) := ⟨fun y hy => (((HTX.out x hx).below hb).below hy).bel⟩
  clear hat hb hx HTX HLE H HKA KA
  try simp only [Act.put, List.setIfInBounds_toArray, List.set_cons_zero, List.set_cons_succ]
  refine wpD_call (i := 3) (v := .bool true) (f := 10) (args := #[.agg #[.int .i64 kd, .int .i64 ak, .int .i64 aw, .string ap, .string ad, .string ax, .int .i64 an, .int .i64 ho, .int .i64 at9, .bool cut, .slice lb ln lc'], .agg #[.int .i64 kd, .int .i64 ak, .int .i64 aw, .string ap, .string ad, .string ax, .int .i64 an, .int .i64 ho, .int .i64 at9, .bool cut, .slice l2 ln n2]]) rfl (by kernel_rfl) (by kernel_rfl) (by kernel_rfl) (by kernel_rfl) (fun _ _ _ h => h) (by rfl) ?hyb3 (fun x hx => HEQ.out x lb l2 lc' n2 (KC.out.stays hx) (KB.out.stays hx)) ?restb3
  case hyb3 => (intro x hx; go_simp; try with_reducible rfl)
  try simp only [Act.put, List.setIfInBounds_toArray, List.set_cons_zero, List.set_cons_succ]
  refine wpD_val (i := 4) (v := ?vb4) rfl (by kernel_rfl) (by kernel_rfl) (by kernel_rfl) (by kernel_rfl) (fun _ _ _ h => h) (by rfl) ?hyb4 ?restb4
  case hyb4 => (intro x hx; go_simp; try with_reducible rfl)
  try simp only [Act.put, List.setIfInBounds_toArray, List.set_cons_zero, List.set_cons_succ]
  refine wpD_done (by kernel_rfl) (fun w7 hx => ?_) _
  have HB := Shut.mk (HTY.out w7 hx)
  clear HTY hx
  go_wp2_with fail
  go_ret
  exact ⟨rfl, HB.out⟩
end Go.Proofs.Ytendbipfmgnjkaa
