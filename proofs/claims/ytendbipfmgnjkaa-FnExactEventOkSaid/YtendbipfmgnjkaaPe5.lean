/- Texts of ours, laid one behind the other: EvA, OpenM, AkRo, DiskO, ActA, ActO, EvO, AkI, ClS. -/
import Derived.Test.YtendbipfmgnjkaaPe4
import Derived.Deep.Slices
import Derived.Deep.Strs
import Derived.ChangeArms
import Derived.ChangeSame
import Derived.WideShapes
import Derived.OpenShut
import Derived.PlainAid
import Derived.OwnWalk
import Derived.Deep.RegionHeld3
import Derived.Deep.DrawnRows
import Derived.Handy
import Derived.Test.YtendbipfmgnjkaaShelf
/- EvA: Events in the laws: two that are the same; sizes; copies; the model's EventOk (written by gen/mkeva.py). -/
namespace Go.Proofs.Ytendbipfmgnjkaa
set_option maxRecDepth 100000
open Go.RowKit BigFrame
attribute [local go_sem ↓] Go.wp_at_zero Go.wp_at_succ

/-- An event. -/
structure EvM where
  kind : Int
  ask : AkM
  host : Int
  at9 : Int
  cut : Bool
  left : List Int
abbrev evC (e : EvM) (la : Option Addr) (lc : Nat) : Value := .agg #[.int .i64 e.kind, .int .i64 e.ask.kind, .int .i64 e.ask.who, .string e.ask.path, .string e.ask.dest, .string e.ask.text, .int .i64 e.ask.num, .int .i64 e.host, .int .i64 e.at9, .bool e.cut, .slice la e.left.length lc]
theorem szIntS_ev (a : Option Addr) (n cap : Nat) (left : Int) (w : World) (h0 : 0 ≤ left) (h1 : left ≤ 1048576) (hn : n ≤ 9223372036854775807) :
    Calls Try.prog 23 #[.slice a n cap, .int .i64 left] w fun e w' => ∃ r : Int, e = .returned (.int .i64 r) ∧ -1 ≤ r ∧ (0 ≤ r → r + (n : Nat) = left) ∧ Below w.heap.size w w' := by
  refine (szIntS_any a n cap left w h0 h1 hn).mono ?_
  rintro e w' ⟨rfl, rfl⟩
  exact ⟨_, rfl, by split <;> omega, by split <;> omega, Below.refl _ _⟩
set_option maxHeartbeats 2000000 in
set_option maxRecDepth 100000 in
theorem eqEvent_same {w : World} (q : AkM) {la la' : Option Addr} {lc lc' ln : Nat} {kd ho at9 : Int} {cut : Bool} {left : List Int} (h : CRow w la (ics left)) (k : CRow w la' (ics left)) (hl : ln = left.length) (hf : left.length ≤ 1048576) :
    Calls Try.prog 10 #[.agg #[.int .i64 kd, .int .i64 q.kind, .int .i64 q.who, .string q.path, .string q.dest, .string q.text, .int .i64 q.num, .int .i64 ho, .int .i64 at9, .bool cut, .slice la ln lc], .agg #[.int .i64 kd, .int .i64 q.kind, .int .i64 q.who, .string q.path, .string q.dest, .string q.text, .int .i64 q.num, .int .i64 ho, .int .i64 at9, .bool cut, .slice la' ln lc']] w fun e w' => e = .returned (.bool true) ∧ Below w.heap.size w w' := by
  have HA := Shut.mk (fun (W : World) => eqAsk_same q W)
  have HL := Shut.mk (fun (W : World) (hb : Below w.heap.size w W) => eqIntS_same la la' left lc lc' W (h.stays hb) (k.stays hb) hf)
  rw [← hl] at HL
  have hcc : (cut != cut) = false := by simp
  clear h k hl hf
  obtain ⟨ak, aw, ap, ad, ax, an⟩ := q
  dsimp only at *
  have HS := Shut.mk (SL.start w)
  replace HS := Shut.mk (HS.out.new #[.int .i64 kd, .int .i64 ak, .int .i64 aw, .string ap, .string ad, .string ax, .int .i64 an, .int .i64 ho, .int .i64 at9, .bool cut, .slice la ln lc] 31)
  replace HS := Shut.mk (HS.out.new #[.int .i64 kd, .int .i64 ak, .int .i64 aw, .string ap, .string ad, .string ax, .int .i64 an, .int .i64 ho, .int .i64 at9, .bool cut, .slice la' ln lc'] 31)
  simp only [World.size_alloc] at HS
  obtain ⟨b1, hb1⟩ : ∃ q, q = w.heap.size := ⟨_, rfl⟩
  go_enter Try.func10, Try.ntmps10
  go_upto_region 1 with fail
  rw [← hb1] at HS
  refine wp_shade (fun W => SL w W [bxS (b1 + 1) [.int .i64 kd, .int .i64 ak, .int .i64 aw, .string ap, .string ad, .string ax, .int .i64 an, .int .i64 ho, .int .i64 at9, .bool cut, .slice la' ln lc'], bxS b1 [.int .i64 kd, .int .i64 ak, .int .i64 aw, .string ap, .string ad, .string ax, .int .i64 an, .int .i64 ho, .int .i64 at9, .bool cut, .slice la ln lc]]) HS.out ?_
  rw [← hb1]
  intro W0 hS0
  have H := Shut.mk hS0
  clear hS0 HS hb1
  have x0 := (H.out.bx 1 rfl 0 _ rfl).1
  have x1 := (H.out.bx 1 rfl 1 _ rfl).1
  have x2 := (H.out.bx 1 rfl 2 _ rfl).1
  have x3 := (H.out.bx 1 rfl 3 _ rfl).1
  have x4 := (H.out.bx 1 rfl 4 _ rfl).1
  have x5 := (H.out.bx 1 rfl 5 _ rfl).1
  have x6 := (H.out.bx 1 rfl 6 _ rfl).1
  have x7 := (H.out.bx 1 rfl 7 _ rfl).1
  have x8 := (H.out.bx 1 rfl 8 _ rfl).1
  have x9 := (H.out.bx 1 rfl 9 _ rfl).1
  have x10 := (H.out.bx 1 rfl 10 _ rfl).1
  have y0 := (H.out.bx 0 rfl 0 _ rfl).1
  have y1 := (H.out.bx 0 rfl 1 _ rfl).1
  have y2 := (H.out.bx 0 rfl 2 _ rfl).1
  have y3 := (H.out.bx 0 rfl 3 _ rfl).1
  have y4 := (H.out.bx 0 rfl 4 _ rfl).1
  have y5 := (H.out.bx 0 rfl 5 _ rfl).1
  have y6 := (H.out.bx 0 rfl 6 _ rfl).1
  have y7 := (H.out.bx 0 rfl 7 _ rfl).1
  have y8 := (H.out.bx 0 rfl 8 _ rfl).1
  have y9 := (H.out.bx 0 rfl 9 _ rfl).1
  have y10 := (H.out.bx 0 rfl 10 _ rfl).1
  go_wp2_with fail
  refine (HA.out _).mono ?_
  rintro e w1 ⟨rfl, hb⟩
  replace H := Shut.mk (H.out.below hb)
  clear hb x0 x1 x2 x3 x4 x5 x6 x7 x8 x9 x10 y0 y1 y2 y3 y4 y5 y6 y7 y8 y9 y10
  have x0 := (H.out.bx 1 rfl 0 _ rfl).1
  have x1 := (H.out.bx 1 rfl 1 _ rfl).1
  have x2 := (H.out.bx 1 rfl 2 _ rfl).1
  have x3 := (H.out.bx 1 rfl 3 _ rfl).1
  have x4 := (H.out.bx 1 rfl 4 _ rfl).1
  have x5 := (H.out.bx 1 rfl 5 _ rfl).1
  have x6 := (H.out.bx 1 rfl 6 _ rfl).1
  have x7 := (H.out.bx 1 rfl 7 _ rfl).1
  have x8 := (H.out.bx 1 rfl 8 _ rfl).1
  have x9 := (H.out.bx 1 rfl 9 _ rfl).1
  have x10 := (H.out.bx 1 rfl 10 _ rfl).1
  have y0 := (H.out.bx 0 rfl 0 _ rfl).1
  have y1 := (H.out.bx 0 rfl 1 _ rfl).1
  have y2 := (H.out.bx 0 rfl 2 _ rfl).1
  have y3 := (H.out.bx 0 rfl 3 _ rfl).1
  have y4 := (H.out.bx 0 rfl 4 _ rfl).1
  have y5 := (H.out.bx 0 rfl 5 _ rfl).1
  have y6 := (H.out.bx 0 rfl 6 _ rfl).1
  have y7 := (H.out.bx 0 rfl 7 _ rfl).1
  have y8 := (H.out.bx 0 rfl 8 _ rfl).1
  have y9 := (H.out.bx 0 rfl 9 _ rfl).1
  have y10 := (H.out.bx 0 rfl 10 _ rfl).1
  go_wp2_with fail
  refine (HL.out _ H.out.bel).mono ?_
  rintro e w2 ⟨rfl, hb⟩
  replace H := Shut.mk (H.out.below hb)
  clear hb x0 x1 x2 x3 x4 x5 x6 x7 x8 x9 x10 y0 y1 y2 y3 y4 y5 y6 y7 y8 y9 y10
  go_wp2_with fail
  go_ret
  exact ⟨rfl, H.out.bel⟩
set_option maxHeartbeats 2000000 in
set_option maxRecDepth 100000 in
theorem szEvent_any {w : World} (q : AkM) {la : Option Addr} {lc ln : Nat} {kd ho at9 : Int} {cut : Bool} (left : Int) (hq : AkFit q) (hl : ln ≤ 9223372036854775807) (h0 : 0 ≤ left) (h1 : left ≤ 1048576) :
    Calls Try.prog 6 #[.agg #[.int .i64 kd, .int .i64 q.kind, .int .i64 q.who, .string q.path, .string q.dest, .string q.text, .int .i64 q.num, .int .i64 ho, .int .i64 at9, .bool cut, .slice la ln lc], .int .i64 left] w fun e w' => ∃ r : Int, e = .returned (.int .i64 r) ∧ -1 ≤ r ∧ (0 ≤ r → r + (q.path.size + q.dest.size + q.text.size + ln : Nat) = left) ∧ Below w.heap.size w w' := by
  have HA := Shut.mk (fun (W : World) => szAsk_any q left W h0 h1 hq)
  have HL := Shut.mk (fun (W : World) (x : Int) (x0 : 0 ≤ x) (x1 : x ≤ 1048576) => szIntS_ev la ln lc x W x0 x1 hl)
  clear hq
  obtain ⟨ak, aw, ap, ad, ax, an⟩ := q
  dsimp only at *
  have HS := Shut.mk (SL.start w)
  replace HS := Shut.mk (HS.out.new #[.int .i64 kd, .int .i64 ak, .int .i64 aw, .string ap, .string ad, .string ax, .int .i64 an, .int .i64 ho, .int .i64 at9, .bool cut, .slice la ln lc] 26)
  obtain ⟨b1, hb1⟩ : ∃ q, q = w.heap.size := ⟨_, rfl⟩
  go_enter Try.func6, Try.ntmps6
  go_upto_region 1 with fail
  rw [← hb1] at HS
  refine wp_shade (fun W => SL w W [bxS b1 [.int .i64 kd, .int .i64 ak, .int .i64 aw, .string ap, .string ad, .string ax, .int .i64 an, .int .i64 ho, .int .i64 at9, .bool cut, .slice la ln lc]]) HS.out ?_
  rw [← hb1]
  intro W0 hS0
  have H := Shut.mk hS0
  clear hS0 HS hb1
  have x0 := (H.out.bx 0 rfl 0 _ rfl).1
  have x1 := (H.out.bx 0 rfl 1 _ rfl).1
  have x2 := (H.out.bx 0 rfl 2 _ rfl).1
  have x3 := (H.out.bx 0 rfl 3 _ rfl).1
  have x4 := (H.out.bx 0 rfl 4 _ rfl).1
  have x5 := (H.out.bx 0 rfl 5 _ rfl).1
  have x6 := (H.out.bx 0 rfl 6 _ rfl).1
  have x7 := (H.out.bx 0 rfl 7 _ rfl).1
  have x8 := (H.out.bx 0 rfl 8 _ rfl).1
  have x9 := (H.out.bx 0 rfl 9 _ rfl).1
  have x10 := (H.out.bx 0 rfl 10 _ rfl).1
  go_wp2_with fail
  refine (HA.out _).mono ?_
  rintro e w1 ⟨r0, rfl, p0, q0, hb⟩
  replace H := Shut.mk (H.out.below hb)
  clear hb x0 x1 x2 x3 x4 x5 x6 x7 x8 x9 x10
  by_cases c0 : r0 < 0
  · clear q0
    go_wp2_with fail
    go_ret
    exact ⟨-1, rfl, by omega, by omega, H.out.bel⟩
  have k0 := q0 (by omega)
  clear q0
  have x0 := (H.out.bx 0 rfl 0 _ rfl).1
  have x1 := (H.out.bx 0 rfl 1 _ rfl).1
  have x2 := (H.out.bx 0 rfl 2 _ rfl).1
  have x3 := (H.out.bx 0 rfl 3 _ rfl).1
  have x4 := (H.out.bx 0 rfl 4 _ rfl).1
  have x5 := (H.out.bx 0 rfl 5 _ rfl).1
  have x6 := (H.out.bx 0 rfl 6 _ rfl).1
  have x7 := (H.out.bx 0 rfl 7 _ rfl).1
  have x8 := (H.out.bx 0 rfl 8 _ rfl).1
  have x9 := (H.out.bx 0 rfl 9 _ rfl).1
  have x10 := (H.out.bx 0 rfl 10 _ rfl).1
  go_wp2_with fail
  refine (HL.out _ _ (by omega) (by omega)).mono ?_
  rintro e w2 ⟨r1, rfl, p1, q1, hb⟩
  replace H := Shut.mk (H.out.below hb)
  clear hb x0 x1 x2 x3 x4 x5 x6 x7 x8 x9 x10
  by_cases c1 : r1 < 0
  · clear q1
    go_wp2_with fail
    go_ret
    exact ⟨-1, rfl, by omega, by omega, H.out.bel⟩
  have k1 := q1 (by omega)
  clear q1
  go_wp2_with fail
  go_ret
  exact ⟨r1, rfl, by omega, fun _ => by omega, H.out.bel⟩
set_option maxHeartbeats 4000000 in
set_option maxRecDepth 100000 in
theorem toEvent_any {w : World} (q : AkM) {la : Option Addr} {lc ln : Nat} {kd ho at9 : Int} {cut : Bool} {left : List Int} (h : CRow w la (ics left)) (hl : ln = left.length) (hf : left.length ≤ 1048576) :
    Calls Try.prog 8 #[.agg #[.int .i64 kd, .int .i64 q.kind, .int .i64 q.who, .string q.path, .string q.dest, .string q.text, .int .i64 q.num, .int .i64 ho, .int .i64 at9, .bool cut, .slice la ln lc]] w fun e w' => ∃ (lb : Option Addr) (lc' : Nat), e = .returned (.agg #[.int .i64 kd, .int .i64 q.kind, .int .i64 q.who, .string q.path, .string q.dest, .string q.text, .int .i64 q.num, .int .i64 ho, .int .i64 at9, .bool cut, .slice lb ln lc']) ∧ CRow w' lb (ics left) ∧ Below w.heap.size w w' := by
  have HA := Shut.mk (fun (W : World) => toAsk_any q W)
  have HL := Shut.mk (fun (W : World) (hb : Below w.heap.size w W) => toIntS_any la left lc W (h.stays hb) hf)
  rw [← hl] at HL
  unfold ToInts at HL
  try rw [← hl] at HL
  clear h hl hf
  obtain ⟨ak, aw, ap, ad, ax, an⟩ := q
  dsimp only at *
  have HS := Shut.mk (SL.start w)
  replace HS := Shut.mk (HS.out.new #[.int .i64 kd, .int .i64 ak, .int .i64 aw, .string ap, .string ad, .string ax, .int .i64 an, .int .i64 ho, .int .i64 at9, .bool cut, .slice la ln lc] 26)
  replace HS := Shut.mk (HS.out.new #[.int .i64 0, .int .i64 0, .int .i64 0, .string ⟨#[]⟩, .string ⟨#[]⟩, .string ⟨#[]⟩, .int .i64 0, .int .i64 0, .int .i64 0, .bool false, .slice none 0 0] 31)
  replace HS := Shut.mk (HS.out.new #[.int .i64 0, .int .i64 0, .int .i64 0, .string ⟨#[]⟩, .string ⟨#[]⟩, .string ⟨#[]⟩, .int .i64 0, .int .i64 0, .int .i64 0, .bool false, .slice none 0 0] 31)
  simp only [World.size_alloc] at HS
  obtain ⟨b1, hb1⟩ : ∃ q, q = w.heap.size := ⟨_, rfl⟩
  go_enter Try.func8, Try.ntmps8
  go_upto_region 2 with fail
  rw [← hb1] at HS
  refine wp_shade (fun W => SL w W [bxS (b1 + 1 + 1) [.int .i64 0, .int .i64 0, .int .i64 0, .string ⟨#[]⟩, .string ⟨#[]⟩, .string ⟨#[]⟩, .int .i64 0, .int .i64 0, .int .i64 0, .bool false, .slice none 0 0], bxS (b1 + 1) [.int .i64 0, .int .i64 0, .int .i64 0, .string ⟨#[]⟩, .string ⟨#[]⟩, .string ⟨#[]⟩, .int .i64 0, .int .i64 0, .int .i64 0, .bool false, .slice none 0 0], bxS b1 [.int .i64 kd, .int .i64 ak, .int .i64 aw, .string ap, .string ad, .string ax, .int .i64 an, .int .i64 ho, .int .i64 at9, .bool cut, .slice la ln lc]]) HS.out ?_
  rw [← hb1]
  intro W0 hS0
  have H := Shut.mk hS0
  clear hS0 HS hb1
  have x0 := (H.out.bx 2 rfl 0 _ rfl).1
  have x1 := (H.out.bx 2 rfl 1 _ rfl).1
  have x2 := (H.out.bx 2 rfl 2 _ rfl).1
  have x3 := (H.out.bx 2 rfl 3 _ rfl).1
  have x4 := (H.out.bx 2 rfl 4 _ rfl).1
  have x5 := (H.out.bx 2 rfl 5 _ rfl).1
  have x6 := (H.out.bx 2 rfl 6 _ rfl).1
  have x7 := (H.out.bx 2 rfl 7 _ rfl).1
  have x8 := (H.out.bx 2 rfl 8 _ rfl).1
  have x9 := (H.out.bx 2 rfl 9 _ rfl).1
  have x10 := (H.out.bx 2 rfl 10 _ rfl).1
  obtain ⟨y0, z0⟩ := H.out.bx 0 rfl 0 _ rfl
  obtain ⟨y1, z1⟩ := H.out.bx 0 rfl 1 _ rfl
  obtain ⟨y2, z2⟩ := H.out.bx 0 rfl 2 _ rfl
  obtain ⟨y3, z3⟩ := H.out.bx 0 rfl 3 _ rfl
  obtain ⟨y4, z4⟩ := H.out.bx 0 rfl 4 _ rfl
  obtain ⟨y5, z5⟩ := H.out.bx 0 rfl 5 _ rfl
  obtain ⟨y6, z6⟩ := H.out.bx 0 rfl 6 _ rfl
  obtain ⟨y7, z7⟩ := H.out.bx 0 rfl 7 _ rfl
  obtain ⟨y8, z8⟩ := H.out.bx 0 rfl 8 _ rfl
  obtain ⟨y9, z9⟩ := H.out.bx 0 rfl 9 _ rfl
  obtain ⟨y10, z10⟩ := H.out.bx 0 rfl 10 _ rfl
  go_upto_region 3 with fail
  replace H := Shut.mk ((H.out.put 0 rfl 0 (.int .i64 kd) (by simp)))
  simp only [List.set_cons_zero] at H
  clear x0 y0 z0 x1 y1 z1 x2 y2 z2 x3 y3 z3 x4 y4 z4 x5 y5 z5 x6 y6 z6 x7 y7 z7 x8 y8 z8 x9 y9 z9 x10 y10 z10
  refine wp_shade (fun W => SL w W [bxS (b1 + 1 + 1) [.int .i64 kd, .int .i64 0, .int .i64 0, .string ⟨#[]⟩, .string ⟨#[]⟩, .string ⟨#[]⟩, .int .i64 0, .int .i64 0, .int .i64 0, .bool false, .slice none 0 0], bxS (b1 + 1) [.int .i64 0, .int .i64 0, .int .i64 0, .string ⟨#[]⟩, .string ⟨#[]⟩, .string ⟨#[]⟩, .int .i64 0, .int .i64 0, .int .i64 0, .bool false, .slice none 0 0], bxS b1 [.int .i64 kd, .int .i64 ak, .int .i64 aw, .string ap, .string ad, .string ax, .int .i64 an, .int .i64 ho, .int .i64 at9, .bool cut, .slice la ln lc]]) H.out ?_
  intro W1 hW
  replace H := Shut.mk hW
  clear hW
  have x0 := (H.out.bx 2 rfl 0 _ rfl).1
  have x1 := (H.out.bx 2 rfl 1 _ rfl).1
  have x2 := (H.out.bx 2 rfl 2 _ rfl).1
  have x3 := (H.out.bx 2 rfl 3 _ rfl).1
  have x4 := (H.out.bx 2 rfl 4 _ rfl).1
  have x5 := (H.out.bx 2 rfl 5 _ rfl).1
  have x6 := (H.out.bx 2 rfl 6 _ rfl).1
  have x7 := (H.out.bx 2 rfl 7 _ rfl).1
  have x8 := (H.out.bx 2 rfl 8 _ rfl).1
  have x9 := (H.out.bx 2 rfl 9 _ rfl).1
  have x10 := (H.out.bx 2 rfl 10 _ rfl).1
  obtain ⟨y0, z0⟩ := H.out.bx 0 rfl 0 _ rfl
  obtain ⟨y1, z1⟩ := H.out.bx 0 rfl 1 _ rfl
  obtain ⟨y2, z2⟩ := H.out.bx 0 rfl 2 _ rfl
  obtain ⟨y3, z3⟩ := H.out.bx 0 rfl 3 _ rfl
  obtain ⟨y4, z4⟩ := H.out.bx 0 rfl 4 _ rfl
  obtain ⟨y5, z5⟩ := H.out.bx 0 rfl 5 _ rfl
  obtain ⟨y6, z6⟩ := H.out.bx 0 rfl 6 _ rfl
  obtain ⟨y7, z7⟩ := H.out.bx 0 rfl 7 _ rfl
  obtain ⟨y8, z8⟩ := H.out.bx 0 rfl 8 _ rfl
  obtain ⟨y9, z9⟩ := H.out.bx 0 rfl 9 _ rfl
  obtain ⟨y10, z10⟩ := H.out.bx 0 rfl 10 _ rfl
  go_wp2_with fail
  refine (HA.out _).mono ?_
  rintro e w3 ⟨rfl, hb⟩
  replace H := Shut.mk (H.out.below hb)
  clear hb x0 y0 z0 x1 y1 z1 x2 y2 z2 x3 y3 z3 x4 y4 z4 x5 y5 z5 x6 y6 z6 x7 y7 z7 x8 y8 z8 x9 y9 z9 x10 y10 z10
  have x0 := (H.out.bx 2 rfl 0 _ rfl).1
  have x1 := (H.out.bx 2 rfl 1 _ rfl).1
  have x2 := (H.out.bx 2 rfl 2 _ rfl).1
  have x3 := (H.out.bx 2 rfl 3 _ rfl).1
  have x4 := (H.out.bx 2 rfl 4 _ rfl).1
  have x5 := (H.out.bx 2 rfl 5 _ rfl).1
  have x6 := (H.out.bx 2 rfl 6 _ rfl).1
  have x7 := (H.out.bx 2 rfl 7 _ rfl).1
  have x8 := (H.out.bx 2 rfl 8 _ rfl).1
  have x9 := (H.out.bx 2 rfl 9 _ rfl).1
  have x10 := (H.out.bx 2 rfl 10 _ rfl).1
  obtain ⟨y0, z0⟩ := H.out.bx 0 rfl 0 _ rfl
  obtain ⟨y1, z1⟩ := H.out.bx 0 rfl 1 _ rfl
  obtain ⟨y2, z2⟩ := H.out.bx 0 rfl 2 _ rfl
  obtain ⟨y3, z3⟩ := H.out.bx 0 rfl 3 _ rfl
  obtain ⟨y4, z4⟩ := H.out.bx 0 rfl 4 _ rfl
  obtain ⟨y5, z5⟩ := H.out.bx 0 rfl 5 _ rfl
  obtain ⟨y6, z6⟩ := H.out.bx 0 rfl 6 _ rfl
  obtain ⟨y7, z7⟩ := H.out.bx 0 rfl 7 _ rfl
  obtain ⟨y8, z8⟩ := H.out.bx 0 rfl 8 _ rfl
  obtain ⟨y9, z9⟩ := H.out.bx 0 rfl 9 _ rfl
  obtain ⟨y10, z10⟩ := H.out.bx 0 rfl 10 _ rfl
  go_upto_region 4 with fail
  replace H := Shut.mk (((((((H.out.put 0 rfl 1 (.int .i64 ak) (by simp)).put 0 rfl 2 (.int .i64 aw) (by simp)).put 0 rfl 3 (.string ap) (by simp)).put 0 rfl 4 (.string ad) (by simp)).put 0 rfl 5 (.string ax) (by simp)).put 0 rfl 6 (.int .i64 an) (by simp)))
  simp only [List.set_cons_zero, List.set_cons_succ] at H
  clear x0 y0 z0 x1 y1 z1 x2 y2 z2 x3 y3 z3 x4 y4 z4 x5 y5 z5 x6 y6 z6 x7 y7 z7 x8 y8 z8 x9 y9 z9 x10 y10 z10
  refine wp_shade (fun W => SL w W [bxS (b1 + 1 + 1) [.int .i64 kd, .int .i64 ak, .int .i64 aw, .string ap, .string ad, .string ax, .int .i64 an, .int .i64 0, .int .i64 0, .bool false, .slice none 0 0], bxS (b1 + 1) [.int .i64 0, .int .i64 0, .int .i64 0, .string ⟨#[]⟩, .string ⟨#[]⟩, .string ⟨#[]⟩, .int .i64 0, .int .i64 0, .int .i64 0, .bool false, .slice none 0 0], bxS b1 [.int .i64 kd, .int .i64 ak, .int .i64 aw, .string ap, .string ad, .string ax, .int .i64 an, .int .i64 ho, .int .i64 at9, .bool cut, .slice la ln lc]]) H.out ?_
  intro W2 hW
  replace H := Shut.mk hW
  clear hW
  have x0 := (H.out.bx 2 rfl 0 _ rfl).1
  have x1 := (H.out.bx 2 rfl 1 _ rfl).1
  have x2 := (H.out.bx 2 rfl 2 _ rfl).1
  have x3 := (H.out.bx 2 rfl 3 _ rfl).1
  have x4 := (H.out.bx 2 rfl 4 _ rfl).1
  have x5 := (H.out.bx 2 rfl 5 _ rfl).1
  have x6 := (H.out.bx 2 rfl 6 _ rfl).1
  have x7 := (H.out.bx 2 rfl 7 _ rfl).1
  have x8 := (H.out.bx 2 rfl 8 _ rfl).1
  have x9 := (H.out.bx 2 rfl 9 _ rfl).1
  have x10 := (H.out.bx 2 rfl 10 _ rfl).1
  obtain ⟨y0, z0⟩ := H.out.bx 0 rfl 0 _ rfl
  obtain ⟨y1, z1⟩ := H.out.bx 0 rfl 1 _ rfl
  obtain ⟨y2, z2⟩ := H.out.bx 0 rfl 2 _ rfl
  obtain ⟨y3, z3⟩ := H.out.bx 0 rfl 3 _ rfl
  obtain ⟨y4, z4⟩ := H.out.bx 0 rfl 4 _ rfl
  obtain ⟨y5, z5⟩ := H.out.bx 0 rfl 5 _ rfl
  obtain ⟨y6, z6⟩ := H.out.bx 0 rfl 6 _ rfl
  obtain ⟨y7, z7⟩ := H.out.bx 0 rfl 7 _ rfl
  obtain ⟨y8, z8⟩ := H.out.bx 0 rfl 8 _ rfl
  obtain ⟨y9, z9⟩ := H.out.bx 0 rfl 9 _ rfl
  obtain ⟨y10, z10⟩ := H.out.bx 0 rfl 10 _ rfl
  go_upto_region 5 with fail
  replace H := Shut.mk ((H.out.put 0 rfl 7 (.int .i64 ho) (by simp)))
  simp only [List.set_cons_zero, List.set_cons_succ] at H
  clear x0 y0 z0 x1 y1 z1 x2 y2 z2 x3 y3 z3 x4 y4 z4 x5 y5 z5 x6 y6 z6 x7 y7 z7 x8 y8 z8 x9 y9 z9 x10 y10 z10
  refine wp_shade (fun W => SL w W [bxS (b1 + 1 + 1) [.int .i64 kd, .int .i64 ak, .int .i64 aw, .string ap, .string ad, .string ax, .int .i64 an, .int .i64 ho, .int .i64 0, .bool false, .slice none 0 0], bxS (b1 + 1) [.int .i64 0, .int .i64 0, .int .i64 0, .string ⟨#[]⟩, .string ⟨#[]⟩, .string ⟨#[]⟩, .int .i64 0, .int .i64 0, .int .i64 0, .bool false, .slice none 0 0], bxS b1 [.int .i64 kd, .int .i64 ak, .int .i64 aw, .string ap, .string ad, .string ax, .int .i64 an, .int .i64 ho, .int .i64 at9, .bool cut, .slice la ln lc]]) H.out ?_
  intro W3 hW
  replace H := Shut.mk hW
  clear hW
  have x0 := (H.out.bx 2 rfl 0 _ rfl).1
  have x1 := (H.out.bx 2 rfl 1 _ rfl).1
  have x2 := (H.out.bx 2 rfl 2 _ rfl).1
  have x3 := (H.out.bx 2 rfl 3 _ rfl).1
  have x4 := (H.out.bx 2 rfl 4 _ rfl).1
  have x5 := (H.out.bx 2 rfl 5 _ rfl).1
  have x6 := (H.out.bx 2 rfl 6 _ rfl).1
  have x7 := (H.out.bx 2 rfl 7 _ rfl).1
  have x8 := (H.out.bx 2 rfl 8 _ rfl).1
  have x9 := (H.out.bx 2 rfl 9 _ rfl).1
  have x10 := (H.out.bx 2 rfl 10 _ rfl).1
  obtain ⟨y0, z0⟩ := H.out.bx 0 rfl 0 _ rfl
  obtain ⟨y1, z1⟩ := H.out.bx 0 rfl 1 _ rfl
  obtain ⟨y2, z2⟩ := H.out.bx 0 rfl 2 _ rfl
  obtain ⟨y3, z3⟩ := H.out.bx 0 rfl 3 _ rfl
  obtain ⟨y4, z4⟩ := H.out.bx 0 rfl 4 _ rfl
  obtain ⟨y5, z5⟩ := H.out.bx 0 rfl 5 _ rfl
  obtain ⟨y6, z6⟩ := H.out.bx 0 rfl 6 _ rfl
  obtain ⟨y7, z7⟩ := H.out.bx 0 rfl 7 _ rfl
  obtain ⟨y8, z8⟩ := H.out.bx 0 rfl 8 _ rfl
  obtain ⟨y9, z9⟩ := H.out.bx 0 rfl 9 _ rfl
  obtain ⟨y10, z10⟩ := H.out.bx 0 rfl 10 _ rfl
  go_upto_region 6 with fail
  replace H := Shut.mk ((H.out.put 0 rfl 8 (.int .i64 at9) (by simp)))
  simp only [List.set_cons_zero, List.set_cons_succ] at H
  clear x0 y0 z0 x1 y1 z1 x2 y2 z2 x3 y3 z3 x4 y4 z4 x5 y5 z5 x6 y6 z6 x7 y7 z7 x8 y8 z8 x9 y9 z9 x10 y10 z10
  refine wp_shade (fun W => SL w W [bxS (b1 + 1 + 1) [.int .i64 kd, .int .i64 ak, .int .i64 aw, .string ap, .string ad, .string ax, .int .i64 an, .int .i64 ho, .int .i64 at9, .bool false, .slice none 0 0], bxS (b1 + 1) [.int .i64 0, .int .i64 0, .int .i64 0, .string ⟨#[]⟩, .string ⟨#[]⟩, .string ⟨#[]⟩, .int .i64 0, .int .i64 0, .int .i64 0, .bool false, .slice none 0 0], bxS b1 [.int .i64 kd, .int .i64 ak, .int .i64 aw, .string ap, .string ad, .string ax, .int .i64 an, .int .i64 ho, .int .i64 at9, .bool cut, .slice la ln lc]]) H.out ?_
  intro W4 hW
  replace H := Shut.mk hW
  clear hW
  have x0 := (H.out.bx 2 rfl 0 _ rfl).1
  have x1 := (H.out.bx 2 rfl 1 _ rfl).1
  have x2 := (H.out.bx 2 rfl 2 _ rfl).1
  have x3 := (H.out.bx 2 rfl 3 _ rfl).1
  have x4 := (H.out.bx 2 rfl 4 _ rfl).1
  have x5 := (H.out.bx 2 rfl 5 _ rfl).1
  have x6 := (H.out.bx 2 rfl 6 _ rfl).1
  have x7 := (H.out.bx 2 rfl 7 _ rfl).1
  have x8 := (H.out.bx 2 rfl 8 _ rfl).1
  have x9 := (H.out.bx 2 rfl 9 _ rfl).1
  have x10 := (H.out.bx 2 rfl 10 _ rfl).1
  obtain ⟨y0, z0⟩ := H.out.bx 0 rfl 0 _ rfl
  obtain ⟨y1, z1⟩ := H.out.bx 0 rfl 1 _ rfl
  obtain ⟨y2, z2⟩ := H.out.bx 0 rfl 2 _ rfl
  obtain ⟨y3, z3⟩ := H.out.bx 0 rfl 3 _ rfl
  obtain ⟨y4, z4⟩ := H.out.bx 0 rfl 4 _ rfl
  obtain ⟨y5, z5⟩ := H.out.bx 0 rfl 5 _ rfl
  obtain ⟨y6, z6⟩ := H.out.bx 0 rfl 6 _ rfl
  obtain ⟨y7, z7⟩ := H.out.bx 0 rfl 7 _ rfl
  obtain ⟨y8, z8⟩ := H.out.bx 0 rfl 8 _ rfl
  obtain ⟨y9, z9⟩ := H.out.bx 0 rfl 9 _ rfl
  obtain ⟨y10, z10⟩ := H.out.bx 0 rfl 10 _ rfl
  go_upto_region 7 with fail
  replace H := Shut.mk ((H.out.put 0 rfl 9 (.bool cut) (by simp)))
  simp only [List.set_cons_zero, List.set_cons_succ] at H
  clear x0 y0 z0 x1 y1 z1 x2 y2 z2 x3 y3 z3 x4 y4 z4 x5 y5 z5 x6 y6 z6 x7 y7 z7 x8 y8 z8 x9 y9 z9 x10 y10 z10
  refine wp_shade (fun W => SL w W [bxS (b1 + 1 + 1) [.int .i64 kd, .int .i64 ak, .int .i64 aw, .string ap, .string ad, .string ax, .int .i64 an, .int .i64 ho, .int .i64 at9, .bool cut, .slice none 0 0], bxS (b1 + 1) [.int .i64 0, .int .i64 0, .int .i64 0, .string ⟨#[]⟩, .string ⟨#[]⟩, .string ⟨#[]⟩, .int .i64 0, .int .i64 0, .int .i64 0, .bool false, .slice none 0 0], bxS b1 [.int .i64 kd, .int .i64 ak, .int .i64 aw, .string ap, .string ad, .string ax, .int .i64 an, .int .i64 ho, .int .i64 at9, .bool cut, .slice la ln lc]]) H.out ?_
  intro W5 hW
  replace H := Shut.mk hW
  clear hW
  have x0 := (H.out.bx 2 rfl 0 _ rfl).1
  have x1 := (H.out.bx 2 rfl 1 _ rfl).1
  have x2 := (H.out.bx 2 rfl 2 _ rfl).1
  have x3 := (H.out.bx 2 rfl 3 _ rfl).1
  have x4 := (H.out.bx 2 rfl 4 _ rfl).1
  have x5 := (H.out.bx 2 rfl 5 _ rfl).1
  have x6 := (H.out.bx 2 rfl 6 _ rfl).1
  have x7 := (H.out.bx 2 rfl 7 _ rfl).1
  have x8 := (H.out.bx 2 rfl 8 _ rfl).1
  have x9 := (H.out.bx 2 rfl 9 _ rfl).1
  have x10 := (H.out.bx 2 rfl 10 _ rfl).1
  obtain ⟨y0, z0⟩ := H.out.bx 0 rfl 0 _ rfl
  obtain ⟨y1, z1⟩ := H.out.bx 0 rfl 1 _ rfl
  obtain ⟨y2, z2⟩ := H.out.bx 0 rfl 2 _ rfl
  obtain ⟨y3, z3⟩ := H.out.bx 0 rfl 3 _ rfl
  obtain ⟨y4, z4⟩ := H.out.bx 0 rfl 4 _ rfl
  obtain ⟨y5, z5⟩ := H.out.bx 0 rfl 5 _ rfl
  obtain ⟨y6, z6⟩ := H.out.bx 0 rfl 6 _ rfl
  obtain ⟨y7, z7⟩ := H.out.bx 0 rfl 7 _ rfl
  obtain ⟨y8, z8⟩ := H.out.bx 0 rfl 8 _ rfl
  obtain ⟨y9, z9⟩ := H.out.bx 0 rfl 9 _ rfl
  obtain ⟨y10, z10⟩ := H.out.bx 0 rfl 10 _ rfl
  go_wp2_with fail
  refine (HL.out _ H.out.bel).mono ?_
  rintro e w6 ⟨gl, rfl, hg1, hwc, hb⟩
  replace H := Shut.mk (H.out.add (s := rwS (some ⟨gl, 0, none⟩) (ics left) W5.heap.size w6.heap.size) hb (.inr ⟨gl, rfl, hg1, hwc.1, hwc⟩) (rwS.loc _ _ _ _) (Nat.le_refl _) (Nat.le_refl _))
  obtain ⟨lo6, hlo6⟩ : ∃ q, q = W5.heap.size := ⟨_, rfl⟩
  obtain ⟨hi6, hhi6⟩ : ∃ q, q = w6.heap.size := ⟨_, rfl⟩
  rw [← hlo6, ← hhi6] at H
  clear hb hg1 hwc hlo6 hhi6 x0 y0 z0 x1 y1 z1 x2 y2 z2 x3 y3 z3 x4 y4 z4 x5 y5 z5 x6 y6 z6 x7 y7 z7 x8 y8 z8 x9 y9 z9 x10 y10 z10
  have x0 := (H.out.bx 3 rfl 0 _ rfl).1
  have x1 := (H.out.bx 3 rfl 1 _ rfl).1
  have x2 := (H.out.bx 3 rfl 2 _ rfl).1
  have x3 := (H.out.bx 3 rfl 3 _ rfl).1
  have x4 := (H.out.bx 3 rfl 4 _ rfl).1
  have x5 := (H.out.bx 3 rfl 5 _ rfl).1
  have x6 := (H.out.bx 3 rfl 6 _ rfl).1
  have x7 := (H.out.bx 3 rfl 7 _ rfl).1
  have x8 := (H.out.bx 3 rfl 8 _ rfl).1
  have x9 := (H.out.bx 3 rfl 9 _ rfl).1
  have x10 := (H.out.bx 3 rfl 10 _ rfl).1
  obtain ⟨y0, z0⟩ := H.out.bx 1 rfl 0 _ rfl
  obtain ⟨y1, z1⟩ := H.out.bx 1 rfl 1 _ rfl
  obtain ⟨y2, z2⟩ := H.out.bx 1 rfl 2 _ rfl
  obtain ⟨y3, z3⟩ := H.out.bx 1 rfl 3 _ rfl
  obtain ⟨y4, z4⟩ := H.out.bx 1 rfl 4 _ rfl
  obtain ⟨y5, z5⟩ := H.out.bx 1 rfl 5 _ rfl
  obtain ⟨y6, z6⟩ := H.out.bx 1 rfl 6 _ rfl
  obtain ⟨y7, z7⟩ := H.out.bx 1 rfl 7 _ rfl
  obtain ⟨y8, z8⟩ := H.out.bx 1 rfl 8 _ rfl
  obtain ⟨y9, z9⟩ := H.out.bx 1 rfl 9 _ rfl
  obtain ⟨y10, z10⟩ := H.out.bx 1 rfl 10 _ rfl
  go_upto_region 8 with fail
  replace H := Shut.mk ((H.out.put 1 rfl 10 (.slice (some ⟨gl, 0, none⟩) ln ln) (by simp)))
  simp only [List.set_cons_zero, List.set_cons_succ] at H
  clear x0 y0 z0 x1 y1 z1 x2 y2 z2 x3 y3 z3 x4 y4 z4 x5 y5 z5 x6 y6 z6 x7 y7 z7 x8 y8 z8 x9 y9 z9 x10 y10 z10
  refine wp_shade (fun W => SL w W [rwS (some ⟨gl, 0, none⟩) (ics left) lo6 hi6, bxS (b1 + 1 + 1) [.int .i64 kd, .int .i64 ak, .int .i64 aw, .string ap, .string ad, .string ax, .int .i64 an, .int .i64 ho, .int .i64 at9, .bool cut, .slice (some ⟨gl, 0, none⟩) ln ln], bxS (b1 + 1) [.int .i64 0, .int .i64 0, .int .i64 0, .string ⟨#[]⟩, .string ⟨#[]⟩, .string ⟨#[]⟩, .int .i64 0, .int .i64 0, .int .i64 0, .bool false, .slice none 0 0], bxS b1 [.int .i64 kd, .int .i64 ak, .int .i64 aw, .string ap, .string ad, .string ax, .int .i64 an, .int .i64 ho, .int .i64 at9, .bool cut, .slice la ln lc]]) H.out ?_
  intro W6 hW
  replace H := Shut.mk hW
  clear hW
  have x0 := (H.out.bx 3 rfl 0 _ rfl).1
  have x1 := (H.out.bx 3 rfl 1 _ rfl).1
  have x2 := (H.out.bx 3 rfl 2 _ rfl).1
  have x3 := (H.out.bx 3 rfl 3 _ rfl).1
  have x4 := (H.out.bx 3 rfl 4 _ rfl).1
  have x5 := (H.out.bx 3 rfl 5 _ rfl).1
  have x6 := (H.out.bx 3 rfl 6 _ rfl).1
  have x7 := (H.out.bx 3 rfl 7 _ rfl).1
  have x8 := (H.out.bx 3 rfl 8 _ rfl).1
  have x9 := (H.out.bx 3 rfl 9 _ rfl).1
  have x10 := (H.out.bx 3 rfl 10 _ rfl).1
  obtain ⟨y0, z0⟩ := H.out.bx 1 rfl 0 _ rfl
  obtain ⟨y1, z1⟩ := H.out.bx 1 rfl 1 _ rfl
  obtain ⟨y2, z2⟩ := H.out.bx 1 rfl 2 _ rfl
  obtain ⟨y3, z3⟩ := H.out.bx 1 rfl 3 _ rfl
  obtain ⟨y4, z4⟩ := H.out.bx 1 rfl 4 _ rfl
  obtain ⟨y5, z5⟩ := H.out.bx 1 rfl 5 _ rfl
  obtain ⟨y6, z6⟩ := H.out.bx 1 rfl 6 _ rfl
  obtain ⟨y7, z7⟩ := H.out.bx 1 rfl 7 _ rfl
  obtain ⟨y8, z8⟩ := H.out.bx 1 rfl 8 _ rfl
  obtain ⟨y9, z9⟩ := H.out.bx 1 rfl 9 _ rfl
  obtain ⟨y10, z10⟩ := H.out.bx 1 rfl 10 _ rfl
  obtain ⟨r0, s0⟩ := H.out.bx 2 rfl 0 _ rfl
  obtain ⟨r1, s1⟩ := H.out.bx 2 rfl 1 _ rfl
  obtain ⟨r2, s2⟩ := H.out.bx 2 rfl 2 _ rfl
  obtain ⟨r3, s3⟩ := H.out.bx 2 rfl 3 _ rfl
  obtain ⟨r4, s4⟩ := H.out.bx 2 rfl 4 _ rfl
  obtain ⟨r5, s5⟩ := H.out.bx 2 rfl 5 _ rfl
  obtain ⟨r6, s6⟩ := H.out.bx 2 rfl 6 _ rfl
  obtain ⟨r7, s7⟩ := H.out.bx 2 rfl 7 _ rfl
  obtain ⟨r8, s8⟩ := H.out.bx 2 rfl 8 _ rfl
  obtain ⟨r9, s9⟩ := H.out.bx 2 rfl 9 _ rfl
  obtain ⟨r10, s10⟩ := H.out.bx 2 rfl 10 _ rfl
  have HE := Shut.mk ((((((((((((H.out.put 2 rfl 0 (.int .i64 kd) (by simp)).put 2 rfl 1 (.int .i64 ak) (by simp)).put 2 rfl 2 (.int .i64 aw) (by simp)).put 2 rfl 3 (.string ap) (by simp)).put 2 rfl 4 (.string ad) (by simp)).put 2 rfl 5 (.string ax) (by simp)).put 2 rfl 6 (.int .i64 an) (by simp)).put 2 rfl 7 (.int .i64 ho) (by simp)).put 2 rfl 8 (.int .i64 at9) (by simp)).put 2 rfl 9 (.bool cut) (by simp)).put 2 rfl 10 (.slice (some ⟨gl, 0, none⟩) ln ln) (by simp)))
  simp only [List.set_cons_zero, List.set_cons_succ] at HE
  go_wp2_with fail
  refine bodyPost_ret (v := .agg #[.int .i64 kd, .int .i64 ak, .int .i64 aw, .string ap, .string ad, .string ax, .int .i64 an, .int .i64 ho, .int .i64 at9, .bool cut, .slice (some ⟨gl, 0, none⟩) ln ln]) (by simp [results, Try.results8, go_sem, r0, r1, r2, r3, r4, r5, r6, r7, r8, r9, r10]) rfl ?_
  exact ⟨some ⟨gl, 0, none⟩, ln, rfl, (show FRw _ (some ⟨gl, 0, none⟩) (ics left) lo6 hi6 from HE.out.at 0 rfl).crow, HE.out.bel⟩
/-- A right event. -/
def eventOk (e : EvM) : Bool := inI e.kind 1 9 && inI e.host 1 7 && !(decide (e.at9 < 0)) && !(decide (30 < e.left.length)) && (e.kind != 1 || askOk e.ask)
set_option maxHeartbeats 4000000 in
set_option maxRecDepth 100000 in
theorem specEventOk (e : EvM) (la : Option Addr) (lc ln : Nat) (w : World) (hp : e.ask.path.size ≤ 1048576) (hd : e.ask.dest.size ≤ 1048576) (hn : ln = e.left.length) :
    Calls Try.prog 7 #[.agg #[.int .i64 e.kind, .int .i64 e.ask.kind, .int .i64 e.ask.who, .string e.ask.path, .string e.ask.dest, .string e.ask.text, .int .i64 e.ask.num, .int .i64 e.host, .int .i64 e.at9, .bool e.cut, .slice la ln lc]] w fun r w' => r = .returned (.bool (eventOk e)) ∧ Below w.heap.size w w' := by
  have HIN := Shut.mk (fun x a b W => isInI x a b W _ rfl)
  have HOK := Shut.mk (fun W => specAskOk e.ask W hp hd)
  obtain ⟨R, hR⟩ : ∃ R, R = eventOk e := ⟨_, rfl⟩
  rw [← hR]
  unfold eventOk at hR
  rw [← hn] at hR
  generalize askOk e.ask = ok9 at HOK hR
  have HR := Shut.mk hR
  clear hR hp hd hn
  obtain ⟨kd, ⟨ak, aw, ap, ad, ax, an⟩, ho, at9, cut, left⟩ := e
  dsimp only at *
  by_cases h1 : inI kd 1 9 = true
  case neg =>
    have h1' : inI kd 1 9 = false := by simpa using h1
    go_enter Try.func7, Try.ntmps7
    go_wp2_with (go_at_call 24; refine (HIN.out _ _ _ _).mono ?_; rintro r w1 ⟨rfl, rfl⟩)
    go_ret
    exact ⟨by rw [HR.out]; simp [*], (Below.refl _ _).alloc (Nat.le_refl _) _⟩
  by_cases h2 : inI ho 1 7 = true
  case neg =>
    have h2' : inI ho 1 7 = false := by simpa using h2
    go_enter Try.func7, Try.ntmps7
    go_wp2_with (go_at_call 24; refine (HIN.out _ _ _ _).mono ?_; rintro r w1 ⟨rfl, rfl⟩)
    go_ret
    exact ⟨by rw [HR.out]; simp [*], (Below.refl _ _).alloc (Nat.le_refl _) _⟩
  by_cases h3 : at9 < 0
  · have h3' : decide (at9 < 0) = true := by simpa using h3
    go_enter Try.func7, Try.ntmps7
    go_wp2_with (go_at_call 24; refine (HIN.out _ _ _ _).mono ?_; rintro r w1 ⟨rfl, rfl⟩)
    go_ret
    exact ⟨by rw [HR.out]; simp [*], (Below.refl _ _).alloc (Nat.le_refl _) _⟩
  have h3' : decide (at9 < 0) = false := by simpa using h3
  by_cases h4 : 30 < ln
  · have h4' : (30 : Int) < (ln : Int) := by omega
    have h4e : decide ((30 : Int) < (ln : Int)) = true := decide_eq_true h4'
    go_enter Try.func7, Try.ntmps7
    go_wp2_with (go_at_call 24; refine (HIN.out _ _ _ _).mono ?_; rintro r w1 ⟨rfl, rfl⟩)
    go_ret
    exact ⟨by rw [HR.out]; simp [*], (Below.refl _ _).alloc (Nat.le_refl _) _⟩
  have h4' : ¬ (30 : Int) < (ln : Int) := by omega
  have h4e : decide ((30 : Int) < (ln : Int)) = false := decide_eq_false h4'
  by_cases h5 : kd = 1
  · subst h5
    go_enter Try.func7, Try.ntmps7
    go_wp2_with (first | (go_at_call 24; refine (HIN.out _ _ _ _).mono ?_; rintro r w1 ⟨rfl, rfl⟩) | (go_at_call 25; refine (HOK.out _).mono ?_; rintro r w1 ⟨rfl, hb⟩; have HB := Shut.mk hb; clear hb))
    go_ret
    exact ⟨by rw [HR.out]; simp [*], Below.trans ((Below.refl _ _).alloc (Nat.le_refl _) _) (HB.out.mono (by simp))⟩
  have h5' : (kd != 1) = true := by simpa using h5
  go_enter Try.func7, Try.ntmps7
  go_wp2_with (go_at_call 24; refine (HIN.out _ _ _ _).mono ?_; rintro r w1 ⟨rfl, rfl⟩)
  go_ret
  exact ⟨by rw [HR.out]; simp [*], (Below.refl _ _).alloc (Nat.le_refl _) _⟩
set_option maxHeartbeats 8000000 in
set_option maxRecDepth 1000000 in
theorem lawEventOk (e : EvM) (la : Option Addr) (lc : Nat) (R : Bool) (w : World) (hr : CRow w la (ics e.left)) (hq : AkFit e.ask) (hl : e.left.length ≤ 9223372036854775807)
    (hsp : e.ask.path.size ≤ 1048576 → e.ask.dest.size ≤ 1048576 → ∀ (W : World) (b : Option Addr) (c : Nat), Calls Try.prog 7 #[evC e b c] W fun r w' => r = .returned (.bool R) ∧ Below W.heap.size W w')
    (him : e.ask.path.size ≤ 1048576 → e.ask.dest.size ≤ 1048576 → e.ask.text.size ≤ 1048576 → e.left.length ≤ 1048576 → ∀ (W : World) (b : Option Addr) (c : Nat), CRow W b (ics e.left) → Below w.heap.size w W → Calls Try.prog 9 #[evC e b c] W fun r w' => r = .returned (.bool R) ∧ Below W.heap.size W w') :
    Calls Try.prog 3 #[evC e la lc] w fun r w' => r = .returned (.bool true) ∧ Below w.heap.size w w' := by
  have HSZ := Shut.mk (fun (W : World) => szEvent_any (w := W) e.ask (la := la) (lc := lc) (kd := e.kind) (ho := e.host) (at9 := e.at9) (cut := e.cut) 1048576 hq hl (by omega) (by omega))
  have HTO := Shut.mk (fun (hf : e.left.length ≤ 1048576) (W : World) (hb : Below w.heap.size w W) => toEvent_any e.ask (lc := lc) (kd := e.kind) (ho := e.host) (at9 := e.at9) (cut := e.cut) (hr.stays hb) rfl hf)
  have HEQ := Shut.mk (fun (hf : e.left.length ≤ 1048576) (W : World) (b c : Option Addr) (x y : Nat) (h : CRow W b (ics e.left)) (k : CRow W c (ics e.left)) => eqEvent_same e.ask (lc := x) (lc' := y) (kd := e.kind) (ho := e.host) (at9 := e.at9) (cut := e.cut) h k rfl hf)
  have HSP := Shut.mk hsp
  have HIM := Shut.mk him
  clear hr hq hsp him
  obtain ⟨kd, ⟨ak, aw, ap, ad, ax, an⟩, ho, at9, cut, left⟩ := e
  dsimp only [evC] at *
  obtain ⟨ln, hln⟩ : ∃ q, q = left.length := ⟨_, rfl⟩
  rw [← hln] at HSZ HTO HEQ HSP HIM ⊢
  clear hl hln
  have hdd : (R != R) = false := by simp
  have HS := Shut.mk ((SL.start w).new #[.int .i64 kd, .int .i64 ak, .int .i64 aw, .string ap, .string ad, .string ax, .int .i64 an, .int .i64 ho, .int .i64 at9, .bool cut, .slice la ln lc] 26)
  obtain ⟨b1, hb1⟩ : ∃ q, q = w.heap.size := ⟨_, rfl⟩
  go_enter Try.func3, Try.ntmps3
  go_upto_region 2 with fail
  rw [← hb1] at HS
  refine wp_shade (fun W => SL w W [bxS b1 [.int .i64 kd, .int .i64 ak, .int .i64 aw, .string ap, .string ad, .string ax, .int .i64 an, .int .i64 ho, .int .i64 at9, .bool cut, .slice la ln lc]]) HS.out ?_
  rw [← hb1]
  intro W0 hS0
  have H := Shut.mk hS0
  clear hS0 HS hb1
  have x0 := (H.out.bx 0 rfl 0 _ rfl).1
  have x1 := (H.out.bx 0 rfl 1 _ rfl).1
  have x2 := (H.out.bx 0 rfl 2 _ rfl).1
  have x3 := (H.out.bx 0 rfl 3 _ rfl).1
  have x4 := (H.out.bx 0 rfl 4 _ rfl).1
  have x5 := (H.out.bx 0 rfl 5 _ rfl).1
  have x6 := (H.out.bx 0 rfl 6 _ rfl).1
  have x7 := (H.out.bx 0 rfl 7 _ rfl).1
  have x8 := (H.out.bx 0 rfl 8 _ rfl).1
  have x9 := (H.out.bx 0 rfl 9 _ rfl).1
  have x10 := (H.out.bx 0 rfl 10 _ rfl).1
  go_wp2_with fail
  refine (HSZ.out _).mono ?_
  rintro r w1 ⟨t, rfl, t0, t1, hb⟩
  replace H := Shut.mk (H.out.below hb)
  clear hb x0 x1 x2 x3 x4 x5 x6 x7 x8 x9 x10 HSZ
  by_cases hq : t < 0
  · clear t1
    go_wp2_with fail
    go_ret
    exact ⟨rfl, H.out.bel⟩
  have ht1 := t1 (by omega)
  replace HTO := Shut.mk (HTO.out (by omega))
  replace HEQ := Shut.mk (HEQ.out (by omega))
  replace HSP := Shut.mk (HSP.out (by omega) (by omega))
  replace HIM := Shut.mk (HIM.out (by omega) (by omega) (by omega) (by omega))
  clear t1 ht1 t0
  have x0 := (H.out.bx 0 rfl 0 _ rfl).1
  have x1 := (H.out.bx 0 rfl 1 _ rfl).1
  have x2 := (H.out.bx 0 rfl 2 _ rfl).1
  have x3 := (H.out.bx 0 rfl 3 _ rfl).1
  have x4 := (H.out.bx 0 rfl 4 _ rfl).1
  have x5 := (H.out.bx 0 rfl 5 _ rfl).1
  have x6 := (H.out.bx 0 rfl 6 _ rfl).1
  have x7 := (H.out.bx 0 rfl 7 _ rfl).1
  have x8 := (H.out.bx 0 rfl 8 _ rfl).1
  have x9 := (H.out.bx 0 rfl 9 _ rfl).1
  have x10 := (H.out.bx 0 rfl 10 _ rfl).1
  go_wp2_with fail
  refine (HTO.out _ H.out.bel).mono ?_
  rintro r w2 ⟨l9, n9, rfl, _, hb⟩
  replace H := Shut.mk (H.out.below hb)
  clear hb x0 x1 x2 x3 x4 x5 x6 x7 x8 x9 x10
  go_wp2_with fail
  refine (HSP.out _ l9 n9).mono ?_
  rintro r w3 ⟨rfl, hb⟩
  replace H := Shut.mk (H.out.below hb)
  clear hb HSP
  go_upto_region 6 with fail
  have x0 := (H.out.bx 0 rfl 0 _ rfl).1
  have x1 := (H.out.bx 0 rfl 1 _ rfl).1
  have x2 := (H.out.bx 0 rfl 2 _ rfl).1
  have x3 := (H.out.bx 0 rfl 3 _ rfl).1
  have x4 := (H.out.bx 0 rfl 4 _ rfl).1
  have x5 := (H.out.bx 0 rfl 5 _ rfl).1
  have x6 := (H.out.bx 0 rfl 6 _ rfl).1
  have x7 := (H.out.bx 0 rfl 7 _ rfl).1
  have x8 := (H.out.bx 0 rfl 8 _ rfl).1
  have x9 := (H.out.bx 0 rfl 9 _ rfl).1
  have x10 := (H.out.bx 0 rfl 10 _ rfl).1
  go_wp2_with fail
  refine (HTO.out _ H.out.bel).mono ?_
  rintro r w4 ⟨lb, lc', rfl, hrow, hb⟩
  replace H := Shut.mk ((H.out.below hb).new #[.int .i64 kd, .int .i64 ak, .int .i64 aw, .string ap, .string ad, .string ax, .int .i64 an, .int .i64 ho, .int .i64 at9, .bool cut, .slice lb ln lc'] 31)
  have KA := Shut.mk (hrow.stays ((Below.refl _ _).alloc (Nat.le_refl _) (.cells #[.int .i64 kd, .int .i64 ak, .int .i64 aw, .string ap, .string ad, .string ax, .int .i64 an, .int .i64 ho, .int .i64 at9, .bool cut, .slice lb ln lc'] 31)))
  obtain ⟨b5, hb5⟩ : ∃ q, q = w4.heap.size := ⟨_, rfl⟩
  rw [← hb5] at H
  clear hb hrow x0 x1 x2 x3 x4 x5 x6 x7 x8 x9 x10
  go_upto_region 7 with fail
  refine wp_shade (fun W => SL w W [bxS b5 [.int .i64 kd, .int .i64 ak, .int .i64 aw, .string ap, .string ad, .string ax, .int .i64 an, .int .i64 ho, .int .i64 at9, .bool cut, .slice lb ln lc'], bxS b1 [.int .i64 kd, .int .i64 ak, .int .i64 aw, .string ap, .string ad, .string ax, .int .i64 an, .int .i64 ho, .int .i64 at9, .bool cut, .slice la ln lc]] ∧ CRow W lb (ics left)) ⟨H.out, KA.out⟩ ?_
  rw [← hb5]
  intro W5 hW
  replace H := Shut.mk hW.1
  replace KA := Shut.mk hW.2
  clear hW hb5
  have x0 := (H.out.bx 0 rfl 0 _ rfl).1
  have x1 := (H.out.bx 0 rfl 1 _ rfl).1
  have x2 := (H.out.bx 0 rfl 2 _ rfl).1
  have x3 := (H.out.bx 0 rfl 3 _ rfl).1
  have x4 := (H.out.bx 0 rfl 4 _ rfl).1
  have x5 := (H.out.bx 0 rfl 5 _ rfl).1
  have x6 := (H.out.bx 0 rfl 6 _ rfl).1
  have x7 := (H.out.bx 0 rfl 7 _ rfl).1
  have x8 := (H.out.bx 0 rfl 8 _ rfl).1
  have x9 := (H.out.bx 0 rfl 9 _ rfl).1
  have x10 := (H.out.bx 0 rfl 10 _ rfl).1
  go_wp2_with fail
  refine (HIM.out _ lb lc' KA.out H.out.bel).mono ?_
  rintro r w6 ⟨rfl, hb⟩
  replace H := Shut.mk (H.out.below hb)
  replace KA := Shut.mk (KA.out.stays hb)
  clear hb x0 x1 x2 x3 x4 x5 x6 x7 x8 x9 x10 HIM
  go_upto_region 10 with fail
  have HTX : Shut (∀ x, Later w6.drew x → SL w x [bxS b5 [.int .i64 kd, .int .i64 ak, .int .i64 aw, .string ap, .string ad, .string ax, .int .i64 an, .int .i64 ho, .int .i64 at9, .bool cut, .slice lb ln lc'], bxS b1 [.int .i64 kd, .int .i64 ak, .int .i64 aw, .string ap, .string ad, .string ax, .int .i64 an, .int .i64 ho, .int .i64 at9, .bool cut, .slice la ln lc]]) := ⟨fun x hx => H.out.below (Below.trans (Below.drew (Below.refl _ _)) hx)⟩
  have HLE : Shut (∀ x, Later w6.drew x → x.cell? ⟨b5, 0, none⟩ = some (.int .i64 kd) ∧ x.cell? ⟨b5, 1, none⟩ = some (.int .i64 ak) ∧ x.cell? ⟨b5, 2, none⟩ = some (.int .i64 aw) ∧ x.cell? ⟨b5, 3, none⟩ = some (.string ap) ∧ x.cell? ⟨b5, 4, none⟩ = some (.string ad) ∧ x.cell? ⟨b5, 5, none⟩ = some (.string ax) ∧ x.cell? ⟨b5, 6, none⟩ = some (.int .i64 an) ∧ x.cell? ⟨b5, 7, none⟩ = some (.int .i64 ho) ∧ x.cell? ⟨b5, 8, none⟩ = some (.int .i64 at9) ∧ x.cell? ⟨b5, 9, none⟩ = some (.bool cut) ∧ x.cell? ⟨b5, 10, none⟩ = some (.slice lb ln lc') ∧ x.cell? ⟨b1, 0, none⟩ = some (.int .i64 kd) ∧ x.cell? ⟨b1, 1, none⟩ = some (.int .i64 ak) ∧ x.cell? ⟨b1, 2, none⟩ = some (.int .i64 aw) ∧ x.cell? ⟨b1, 3, none⟩ = some (.string ap) ∧ x.cell? ⟨b1, 4, none⟩ = some (.string ad) ∧ x.cell? ⟨b1, 5, none⟩ = some (.string ax) ∧ x.cell? ⟨b1, 6, none⟩ = some (.int .i64 an) ∧ x.cell? ⟨b1, 7, none⟩ = some (.int .i64 ho) ∧ x.cell? ⟨b1, 8, none⟩ = some (.int .i64 at9) ∧ x.cell? ⟨b1, 9, none⟩ = some (.bool cut) ∧ x.cell? ⟨b1, 10, none⟩ = some (.slice la ln lc)) := ⟨fun x hx => ⟨((HTX.out x hx).bx 0 rfl 0 _ rfl).1, ((HTX.out x hx).bx 0 rfl 1 _ rfl).1, ((HTX.out x hx).bx 0 rfl 2 _ rfl).1, ((HTX.out x hx).bx 0 rfl 3 _ rfl).1, ((HTX.out x hx).bx 0 rfl 4 _ rfl).1, ((HTX.out x hx).bx 0 rfl 5 _ rfl).1, ((HTX.out x hx).bx 0 rfl 6 _ rfl).1, ((HTX.out x hx).bx 0 rfl 7 _ rfl).1, ((HTX.out x hx).bx 0 rfl 8 _ rfl).1, ((HTX.out x hx).bx 0 rfl 9 _ rfl).1, ((HTX.out x hx).bx 0 rfl 10 _ rfl).1, ((HTX.out x hx).bx 1 rfl 0 _ rfl).1, ((HTX.out x hx).bx 1 rfl 1 _ rfl).1, ((HTX.out x hx).bx 1 rfl 2 _ rfl).1, ((HTX.out x hx).bx 1 rfl 3 _ rfl).1, ((HTX.out x hx).bx 1 rfl 4 _ rfl).1, ((HTX.out x hx).bx 1 rfl 5 _ rfl).1, ((HTX.out x hx).bx 1 rfl 6 _ rfl).1, ((HTX.out x hx).bx 1 rfl 7 _ rfl).1, ((HTX.out x hx).bx 1 rfl 8 _ rfl).1, ((HTX.out x hx).bx 1 rfl 9 _ rfl).1, ((HTX.out x hx).bx 1 rfl 10 _ rfl).1⟩⟩
  have HKA : Shut (∀ x, Later w6.drew x → CRow x lb (ics left)) := ⟨fun x hx => KA.out.stays (Below.trans (Below.drew (Below.refl _ _)) hx)⟩
  refine wp_region_set (fun _ => false) (by kernel_rfl) ?_
  refine wpD_val (i := 0) (v := ?va0) rfl (by kernel_rfl) (by kernel_rfl) (by kernel_rfl) (by kernel_rfl) (fun _ _ _ h => h) (by rfl) ?hya0 ?resta0
  case hya0 => (intro x hx; obtain ⟨d0, d1, d2, d3, d4, d5, d6, d7, d8, d9, d10, d11, d12, d13, d14, d15, d16, d17, d18, d19, d20, d21⟩ := HLE.out x hx; go_simp; try with_reducible rfl)
  try simp only [Act.put, List.setIfInBounds_toArray, List.set_cons_zero, List.set_cons_succ]
  refine wpD_val (i := 1) (v := ?va1) rfl (by kernel_rfl) (by kernel_rfl) (by kernel_rfl) (by kernel_rfl) (fun _ _ _ h => h) (by rfl) ?hya1 ?resta1
  case hya1 => (intro x hx; obtain ⟨d0, d1, d2, d3, d4, d5, d6, d7, d8, d9, d10, d11, d12, d13, d14, d15, d16, d17, d18, d19, d20, d21⟩ := HLE.out x hx; go_simp; try with_reducible rfl)
  try simp only [Act.put, List.setIfInBounds_toArray, List.set_cons_zero, List.set_cons_succ]
  refine wpD_onecall (f := 8) (args := #[.agg #[.int .i64 kd, .int .i64 ak, .int .i64 aw, .string ap, .string ad, .string ax, .int .i64 an, .int .i64 ho, .int .i64 at9, .bool cut, .slice la ln lc]]) (i := 2) (by kernel_rfl) rfl (by rfl) (fun x hx => by go_simp) (fun x hx => (HTO.out x (HTX.out x hx).bel).mono ?_)
  rintro r z ⟨l2, n2, rfl, hat, hb⟩
  refine ⟨_, rfl, hb, ?_⟩
  have KB := Shut.mk hat
  have KC := Shut.mk ((HKA.out x hx).stays hb)
  have HTY : Shut (∀ y, Later z y → Below w.heap.size w y) := ⟨fun y hy => (((HTX.out x hx).below hb).below hy).bel⟩
  clear hat hb hx HTX HLE H HKA KA
  try simp only [Act.put, List.setIfInBounds_toArray, List.set_cons_zero, List.set_cons_succ]
  refine wpD_call (i := 3) (v := .bool true) (f := 10) (args := #[.agg #[.int .i64 kd, .int .i64 ak, .int .i64 aw, .string ap, .string ad, .string ax, .int .i64 an, .int .i64 ho, .int .i64 at9, .bool cut, .slice lb ln lc'], .agg #[.int .i64 kd, .int .i64 ak, .int .i64 aw, .string ap, .string ad, .string ax, .int .i64 an, .int .i64 ho, .int .i64 at9, .bool cut, .slice l2 ln n2]]) rfl (by kernel_rfl) (by kernel_rfl) (by kernel_rfl) (by kernel_rfl) (fun _ _ _ h => h) (by rfl) ?hyb3 (fun x hx => HEQ.out x lb l2 lc' n2 (KC.out.stays hx) (KB.out.stays hx)) ?restb3
  case hyb3 => (intro x hx; go_simp; try with_reducible rfl)
  try simp only [Act.put, List.setIfInBounds_toArray, List.set_cons_zero, List.set_cons_succ]
  refine wpD_val (i := 4) (v := ?vb4) rfl (by kernel_rfl) (by kernel_rfl) (by kernel_rfl) (by kernel_rfl) (fun _ _ _ h => h) (by rfl) ?hyb4 ?restb4
  case hyb4 => (intro x hx; go_simp; try with_reducible rfl)
  try simp only [Act.put, List.setIfInBounds_toArray, List.set_cons_zero, List.set_cons_succ]
  refine wpD_done (by kernel_rfl) (fun w7 hx => ?_) _
  have HB := Shut.mk (HTY.out w7 hx)
  clear HTY hx
  go_wp2_with fail
  go_ret
  exact ⟨rfl, HB.out⟩
end Go.Proofs.Ytendbipfmgnjkaa
/- OpenM: Rows of numbers, of rows of numbers, and of texts, that came in. -/
namespace Go.Proofs.Ytendbipfmgnjkaa
set_option maxRecDepth 100000
open Go.RowKit Go.Deep Go.ChangeShapes Go.WideShapes

theorem cells_int : Try.prog.cellsOf 3 = 1 := by kernel_rfl
theorem cells_ints : Try.prog.cellsOf 24 = 1 := by kernel_rfl
theorem cells_str : Try.prog.cellsOf 9 = 1 := by kernel_rfl
/-- A row out of its elements. -/
theorem rows_from {α : Type} [Inhabited α] {en : α → List Value} {sz : Nat} (hsz : ∀ x, (en x).length = sz) (hp0 : 0 < sz) {W : World} {ad : Addr} {len : Nat} {Pr : α → Prop}
    (each : ∀ i, i < len → ∃ f : α, (∀ r v, (en f)[r]? = some v → W.cell? (ad.add (i * sz + r)) = some v) ∧ Pr f) : ∃ xs : List α, xs.length = len ∧ CRow W (some ad) (xs.flatMap en) ∧ ∀ f ∈ xs, Pr f := by
  obtain ⟨F, hF⟩ := choose_lt each
  have hlen : ((List.range len).map F).length = len := by simp
  have hget : ∀ j (hj : j < ((List.range len).map F).length), ((List.range len).map F)[j] = F j := by intro j hj; simp
  refine ⟨(List.range len).map F, hlen, ?_, ?_⟩
  · intro hp
    rw [flat_len hsz, hlen] at hp
    have hl0 : 0 < len := Nat.pos_of_ne_zero fun e => by rw [e] at hp; simp at hp
    have h00 : ∃ v, (en (F 0))[0]? = some v := by
      have : 0 < (en (F 0)).length := by rw [hsz]; exact hp0
      exact ⟨_, List.getElem?_eq_getElem this⟩
    obtain ⟨v0, hv0⟩ := h00
    have c0 := (hF 0 hl0).1 0 v0 hv0
    have hs : ad.spot = none := by
      have := World.cell?_spot c0
      simpa [Addr.add] using this
    obtain ⟨b, off, spot⟩ := ad
    simp only at hs
    subst hs
    have hadd : ∀ i, (⟨b, off, none⟩ : Addr).add i = ⟨b, off + i, none⟩ := by intro i; cases i <;> simp [Addr.add]
    refine ⟨b, off, rfl, ?_, fun i v hv => ?_⟩
    · by_cases hb : b < W.heap.size
      · exact hb
      · unfold World.cell? at c0
        rw [hadd, Array.getElem?_eq_none (by simpa using hb)] at c0
        simp at c0
    · have hi : i < (((List.range len).map F).flatMap en).length := (List.getElem?_eq_some_iff.1 hv).1
      rw [flat_len hsz, hlen] at hi
      have hq : i / sz < len := Nat.div_lt_of_lt_mul (by rwa [Nat.mul_comm] at hi)
      have hr := Nat.mod_lt i hp0
      have ei : i = i / sz * sz + i % sz := by rw [Nat.mul_comm]; exact (Nat.div_add_mod i sz).symm
      have hj : i / sz < ((List.range len).map F).length := by rw [hlen]; exact hq
      have l1 := flat_get hsz ((List.range len).map F) (i / sz) hj (i % sz) hr
      rw [hget _ hj, ← ei] at l1
      have := (hF (i / sz) hq).1 (i % sz) v (by rw [← l1]; exact hv)
      rw [← ei, hadd] at this
      exact this
  · intro f hf
    obtain ⟨j, hj, rfl⟩ := List.mem_map.1 hf
    exact (hF j (by simpa using hj)).2
theorem ics_flats (xs : List Int) : ics xs = xs.flatMap fun x => [.int .i64 x] := by
  unfold ics
  induction xs with
  | nil => rfl
  | cons x xs ih => simp [ih]
set_option maxRecDepth 100000 in
theorem open_row {H : Type} {enc : TypeId × Value → H} {W : World} {base : Nat} {spare : Nat → Bool} {held : Bool} {fuel : Nat} {cs : List Value} {x : DataW H × List MemPlace}
    (h : DataW.trod enc Try.prog W base spare held fuel 24 cs = some x) : ∃ s : SR, cs = [srv s] ∧ CRow W s.loc (ics s.row) ∧ s.row.length ≤ 9223372036854775807 := by
  rcases open_slice Try.underlying24 h with ⟨rfl, _⟩ | ⟨ad, len, cap, m, n, D, Pl, rfl, hb, hl, hm, hmm, _, hx⟩
  · exact ⟨⟨none, [], 0⟩, rfl, fun h => by simp [ics] at h, by simp⟩
  · have hlm : len ≤ m := by rw [hmm]; split <;> omega
    have each : ∀ i, i < len → ∃ f : Int, (∀ r v, ([.int .i64 f] : List Value)[r]? = some v → W.cell? (ad.add (i * 1 + r)) = some v) ∧ True := by
      intro i hi
      obtain ⟨cs', h1, h2⟩ := hx i (by omega)
      rw [cells_int] at h1
      obtain ⟨_, hlen, hcell⟩ := World.cells?_some h1
      obtain ⟨q, e2, _, z2⟩ := DataW.trod_int Try.underlying3 h2
      have c0 := hcell 0 (by omega)
      rw [add_add] at c0
      subst e2
      refine ⟨q, fun r v hv => ?_, trivial⟩
      match r, hv with
      | 0, hv => simp at hv; subst hv; simpa using c0
    obtain ⟨xs, hxl, hrow, _⟩ := rows_from (en := fun x => [.int .i64 x]) (fun _ => rfl) (by decide) each
    rw [← ics_flats] at hrow
    exact ⟨⟨some ad, xs, cap⟩, by simp only [srv]; rw [hxl], hrow, by show xs.length ≤ _; rw [hxl]; unfold maxLen at hm; omega⟩
theorem svs_flat (ss : List SR) : svs ss = ss.flatMap fun s => [srv s] := by
  unfold svs
  induction ss with
  | nil => rfl
  | cons x xs ih => simp [ih]
end Go.Proofs.Ytendbipfmgnjkaa
/- AkRo: Asks, and rows of them, that came in (written by gen/mkrow.py). -/
namespace Go.Proofs.Ytendbipfmgnjkaa
set_option maxRecDepth 100000
open Go.RowKit Go.Deep Go.ChangeShapes Go.WideShapes
theorem cellsLAsk : Try.prog.cellsOf 23 = 6 := by kernel_rfl
theorem cellsTAsk : Try.prog.cellsOf 9 = 1 := by kernel_rfl
theorem cellsNAsk : Try.prog.cellsOf 3 = 1 := by kernel_rfl
set_option maxRecDepth 100000 in
theorem openAsk_cells {H : Type} {enc : TypeId × Value → H} {W : World} {base : Nat} {spare : Nat → Bool} {held : Bool} {n : Nat} {cs : List Value} {x : DataW H × List MemPlace} (h : DataW.trod enc Try.prog W base spare held n 23 cs = some x) :
    ∃ f : AkM, cs = akC f ∧ AkFit f := by
  obtain ⟨xs, k, _, rfl, hl, hlen, hf⟩ := DataW.trod_struct Try.underlying23 h
  rw [cellsLAsk] at hl
  match xs, hlen, cs, hl with
  | [y0, y1, y2, y3, y4, y5], _, [v0, v1, v2, v3, v4, v5], _ =>
    have g0 := hf 0 _ rfl
    have g1 := hf 1 _ rfl
    have g2 := hf 2 _ rfl
    have g3 := hf 3 _ rfl
    have g4 := hf 4 _ rfl
    have g5 := hf 5 _ rfl
    simp [cellsTAsk, cellsNAsk] at g0 g1 g2 g3 g4 g5
    obtain ⟨q0, e0, _, z0⟩ := DataW.trod_int Try.underlying3 g0
    obtain ⟨q1, e1, _, z1⟩ := DataW.trod_int Try.underlying3 g1
    obtain ⟨s2, e2, _, z2⟩ := DataW.trod_string Try.underlying9 g2
    obtain ⟨s3, e3, _, z3⟩ := DataW.trod_string Try.underlying9 g3
    obtain ⟨s4, e4, _, z4⟩ := DataW.trod_string Try.underlying9 g4
    obtain ⟨q5, e5, _, z5⟩ := DataW.trod_int Try.underlying3 g5
    simp only [List.cons.injEq, and_true] at e0 e1 e2 e3 e4 e5
    subst e0 e1 e2 e3 e4 e5
    unfold maxLen at z2 z3 z4
    exact ⟨⟨q0, q1, s2, s3, s4, q5⟩, rfl, by simpa using z2, by simpa using z3, by simpa using z4, bounds_i64 z0, bounds_i64 z1, bounds_i64 z5⟩
set_option maxRecDepth 100000 in
theorem openAsk {H : Type} {enc : TypeId × Value → H} {W : World} {r : Reach} {b0 base : Nat} {spare : Nat → Bool} {held : Bool} {v : Value} {d : DataW H} {p : List MemPlace}
    (hv : Value.okWide Try.prog W r b0 23 v) (h : DataW.Trod enc Try.prog W base spare held 23 v d p) : ∃ f : AkM, v = akv f ∧ AkFit f := by
  obtain ⟨cs, rfl, hsz⟩ := okWide_struct Try.underlying23 hv
  obtain ⟨fuel, h⟩ := h
  obtain ⟨f, e, hf⟩ := openAsk_cells h
  refine ⟨f, ?_, hf⟩
  have : cs.toList = akC f := by simpa [Value.cells] using e
  rw [show cs = (akC f).toArray by rw [← this]]
  rfl
end Go.Proofs.Ytendbipfmgnjkaa
/- DiskO: A disk that came in: the row of its files. -/
namespace Go.Proofs.Ytendbipfmgnjkaa
set_option maxRecDepth 100000
open Go.RowKit Go.Deep Go.ChangeShapes Go.WideShapes

theorem cellsStr : Try.prog.cellsOf 9 = 1 := by kernel_rfl
theorem cellsInt : Try.prog.cellsOf 3 = 1 := by kernel_rfl
end Go.Proofs.Ytendbipfmgnjkaa
/- ActA: Rows of acts, as the model holds them: their sizes, their copies. -/
namespace Go.Proofs.Ytendbipfmgnjkaa
set_option maxRecDepth 100000
open Go.RowKit
attribute [local go_sem ↓] Go.wp_at_zero Go.wp_at_succ

/-- An act. -/
structure AM where
  kind : Int
  name : ByteArray
  text : ByteArray
  dst : ByteArray
instance : Inhabited AM := ⟨⟨0, ⟨#[]⟩, ⟨#[]⟩, ⟨#[]⟩⟩⟩
abbrev av (f : AM) : Value := .agg #[.int .i64 f.kind, .string f.name, .string f.text, .string f.dst]
def acells (f : AM) : List Value := [.int .i64 f.kind, .string f.name, .string f.text, .string f.dst]
theorem acells_len (f : AM) : (acells f).length = 4 := rfl
def acs (fs : List AM) : List Value := fs.flatMap acells
theorem acs_len (fs : List AM) : (acs fs).length = fs.length * 4 := flat_len acells_len fs
/-- A row of files in memory. -/
abbrev ARow (w : World) (a : Option Addr) (fs : List AM) : Prop := CRow w a (acs fs)
theorem ARow.at {w : World} {a : Option Addr} {fs : List AM} (h : ARow w a fs) (hp : 0 < fs.length) :
    ∃ b off, a = some ⟨b, off, none⟩ ∧ b < w.heap.size ∧ ∀ j (h : j < fs.length), w.cell? ⟨b, off + j * 4, none⟩ = some (.int .i64 fs[j].kind) ∧ w.cell? ⟨b, off + j * 4 + 1, none⟩ = some (.string fs[j].name) ∧ w.cell? ⟨b, off + j * 4 + 2, none⟩ = some (.string fs[j].text) ∧ w.cell? ⟨b, off + j * 4 + 3, none⟩ = some (.string fs[j].dst) := by
  obtain ⟨b, off, e, hb, hc⟩ := h (by rw [acs_len]; omega)
  exact ⟨b, off, e, hb, fun j hj => ⟨hc (j * 4) _ (flat_get acells_len fs j hj 0 (by omega)), hc (j * 4 + 1) _ (flat_get acells_len fs j hj 1 (by omega)), hc (j * 4 + 2) _ (flat_get acells_len fs j hj 2 (by omega)), hc (j * 4 + 3) _ (flat_get acells_len fs j hj 3 (by omega))⟩⟩
/-- What is in the acts: their texts fit a machine. -/
def AFit (fs : List AM) : Prop := fs.length ≤ 9223372036854775807 ∧ ∀ f ∈ fs, f.name.size ≤ 9223372036854775807 ∧ f.text.size ≤ 9223372036854775807 ∧ f.dst.size ≤ 9223372036854775807 ∧ -9223372036854775808 ≤ f.kind ∧ f.kind ≤ 9223372036854775807
/-- How many bytes they have. -/
def asum : List AM → Nat
  | [] => 0
  | f :: fs => f.name.size + f.text.size + f.dst.size + asum fs
theorem asum_take (fs : List AM) (k : Nat) (h : k < fs.length) : asum (fs.take (k + 1)) = asum (fs.take k) + (fs[k].name.size + fs[k].text.size + fs[k].dst.size) := by
  induction fs generalizing k with
  | nil => simp at h
  | cons f fs ih =>
    cases k with
    | zero => simp [asum]
    | succ k =>
      have := ih k (by simpa using h)
      simp only [List.take_succ_cons, asum, List.getElem_cons_succ]
      omega

def SzPostA (left : Int) (n : Nat) (w : World) (e : Ending) (w' : World) : Prop := ∃ r : Int, e = .returned (.int .i64 r) ∧ -1 ≤ r ∧ (0 ≤ r → r + n = left) ∧ Below w.heap.size w w'
/-- A copy of the files, in a block of its own. -/
def ToPostA (fs : List AM) (w : World) (e : Ending) (w' : World) : Prop := ∃ g, e = .returned (.slice (some ⟨g, 0, none⟩) fs.length fs.length) ∧ w.heap.size ≤ g ∧ WCells w' g (acs fs) ∧ Below w.heap.size w w'
end Go.Proofs.Ytendbipfmgnjkaa
/- ActO: Rows of numbers and of acts that came in. -/
namespace Go.Proofs.Ytendbipfmgnjkaa
set_option maxRecDepth 100000
open Go.RowKit Go.Deep Go.ChangeShapes Go.WideShapes

/-- A row out of its elements. -/
theorem rows_of {α : Type} [Inhabited α] {en : α → List Value} {sz : Nat} (hsz : ∀ x, (en x).length = sz) (hp0 : 0 < sz) {W : World} {ad : Addr} {len : Nat} {Pr : α → Prop}
    (each : ∀ i, i < len → ∃ f : α, (∀ r v, (en f)[r]? = some v → W.cell? (ad.add (i * sz + r)) = some v) ∧ Pr f) : ∃ xs : List α, xs.length = len ∧ CRow W (some ad) (xs.flatMap en) ∧ ∀ f ∈ xs, Pr f := by
  obtain ⟨F, hF⟩ := choose_lt each
  have hlen : ((List.range len).map F).length = len := by simp
  have hget : ∀ j (hj : j < ((List.range len).map F).length), ((List.range len).map F)[j] = F j := by intro j hj; simp
  refine ⟨(List.range len).map F, hlen, ?_, ?_⟩
  · intro hp
    rw [flat_len hsz, hlen] at hp
    have hl0 : 0 < len := Nat.pos_of_ne_zero fun e => by rw [e] at hp; simp at hp
    have h00 : ∃ v, (en (F 0))[0]? = some v := by
      have : 0 < (en (F 0)).length := by rw [hsz]; exact hp0
      exact ⟨_, List.getElem?_eq_getElem this⟩
    obtain ⟨v0, hv0⟩ := h00
    have c0 := (hF 0 hl0).1 0 v0 hv0
    have hs : ad.spot = none := by
      have := World.cell?_spot c0
      simpa [Addr.add] using this
    obtain ⟨b, off, spot⟩ := ad
    simp only at hs
    subst hs
    have hadd : ∀ i, (⟨b, off, none⟩ : Addr).add i = ⟨b, off + i, none⟩ := by intro i; cases i <;> simp [Addr.add]
    refine ⟨b, off, rfl, ?_, fun i v hv => ?_⟩
    · by_cases hb : b < W.heap.size
      · exact hb
      · unfold World.cell? at c0
        rw [hadd, Array.getElem?_eq_none (by simpa using hb)] at c0
        simp at c0
    · have hi : i < (((List.range len).map F).flatMap en).length := (List.getElem?_eq_some_iff.1 hv).1
      rw [flat_len hsz, hlen] at hi
      have hq : i / sz < len := Nat.div_lt_of_lt_mul (by rwa [Nat.mul_comm] at hi)
      have hr := Nat.mod_lt i hp0
      have ei : i = i / sz * sz + i % sz := by rw [Nat.mul_comm]; exact (Nat.div_add_mod i sz).symm
      have hj : i / sz < ((List.range len).map F).length := by rw [hlen]; exact hq
      have l1 := flat_get hsz ((List.range len).map F) (i / sz) hj (i % sz) hr
      rw [hget _ hj, ← ei] at l1
      have := (hF (i / sz) hq).1 (i % sz) v (by rw [← l1]; exact hv)
      rw [← ei, hadd] at this
      exact this
  · intro f hf
    obtain ⟨j, hj, rfl⟩ := List.mem_map.1 hf
    exact (hF j (by simpa using hj)).2
theorem ics_flat (xs : List Int) : ics xs = xs.flatMap fun x => [.int .i64 x] := by
  unfold ics
  induction xs with
  | nil => rfl
  | cons x xs ih => simp [ih]
set_option maxRecDepth 100000 in
theorem open_intS {H : Type} {enc : TypeId × Value → H} {W : World} {r : Reach} {b0 base : Nat} {spare : Nat → Bool} {held : Bool} {v : Value} {d : DataW H} {p : List MemPlace}
    (hv : Value.okWide Try.prog W r b0 24 v) (h : DataW.Trod enc Try.prog W base spare held 24 v d p) : ∃ a xs cap, v = .slice a (List.length (α := Int) xs) cap ∧ CRow W a (ics xs) ∧ xs.length ≤ 9223372036854775807 := by
  obtain ⟨va, vl, vc, rfl⟩ := okWide_slice Try.underlying24 hv
  obtain ⟨fuel, h⟩ := h
  rcases open_slice Try.underlying24 h with ⟨e, _⟩ | ⟨ad, len, cap, m, n, D, Pl, e, hb, hl, hm, hmm, _, hx⟩
  · simp only [Value.cells, List.cons.injEq, and_true, Value.slice.injEq] at e
    obtain ⟨rfl, rfl, rfl⟩ := e
    exact ⟨none, [], 0, rfl, fun h => by simp [ics] at h, by simp⟩
  · have hlm : len ≤ m := by rw [hmm]; split <;> omega
    have each : ∀ i, i < len → ∃ f : Int, (∀ r v, ([.int .i64 f] : List Value)[r]? = some v → W.cell? (ad.add (i * 1 + r)) = some v) ∧ True := by
      intro i hi
      obtain ⟨cs', h1, h2⟩ := hx i (by omega)
      rw [cellsInt] at h1
      obtain ⟨_, hlen, hcell⟩ := World.cells?_some h1
      obtain ⟨q, e2, _, z2⟩ := DataW.trod_int Try.underlying3 h2
      have c0 := hcell 0 (by omega)
      rw [add_add] at c0
      subst e2
      refine ⟨q, fun r v hv => ?_, trivial⟩
      match r, hv with
      | 0, hv => simp at hv; subst hv; simpa using c0
    obtain ⟨xs, hxl, hrow, _⟩ := rows_of (en := fun x => [.int .i64 x]) (fun _ => rfl) (by decide) each
    rw [← ics_flat] at hrow
    simp only [Value.cells, List.cons.injEq, and_true, Value.slice.injEq] at e
    obtain ⟨rfl, rfl, rfl⟩ := e
    exact ⟨some ad, xs, vc, by rw [hxl], hrow, by rw [hxl]; unfold maxLen at hm; omega⟩
/-- An act's four fields. -/
def ActFit (f : AM) : Prop := f.name.size ≤ 9223372036854775807 ∧ f.text.size ≤ 9223372036854775807 ∧ f.dst.size ≤ 9223372036854775807 ∧ -9223372036854775808 ≤ f.kind ∧ f.kind ≤ 9223372036854775807
end Go.Proofs.Ytendbipfmgnjkaa
/- EvO: Events that came in. -/
namespace Go.Proofs.Ytendbipfmgnjkaa
set_option maxRecDepth 100000
open Go.RowKit Go.Deep Go.ChangeShapes Go.WideShapes

theorem cellsEv : Try.prog.cellsOf 26 = 11 := by kernel_rfl
theorem cellsEvB : Try.prog.cellsOf 4 = 1 := by kernel_rfl
theorem cellsEvI : Try.prog.cellsOf 3 = 1 := by kernel_rfl
theorem cellsEvA : Try.prog.cellsOf 23 = 6 := by kernel_rfl
theorem cellsEvL : Try.prog.cellsOf 24 = 1 := by kernel_rfl
set_option maxRecDepth 100000 in
theorem open_ints9 {H : Type} {enc : TypeId × Value → H} {W : World} {base : Nat} {spare : Nat → Bool} {held : Bool} {fuel : Nat} {x : DataW H × List MemPlace} {c0 : Value} (h : DataW.trod enc Try.prog W base spare held fuel 24 [c0] = some x) :
    ∃ (a : Option Addr) (xs : List Int) (cap : Nat), c0 = .slice a (List.length (α := Int) xs) cap ∧ CRow W a (ics xs) ∧ xs.length ≤ 9223372036854775807 := by
  rcases open_slice Try.underlying24 h with ⟨e, _⟩ | ⟨ad, len, cap, m, n, D, Pl, e, hb, hl, hm, hmm, _, hx⟩
  · simp only [List.cons.injEq, and_true] at e
    exact ⟨none, [], 0, e, fun h => by simp [ics] at h, by simp⟩
  · have hlm : len ≤ m := by rw [hmm]; split <;> omega
    have each : ∀ i, i < len → ∃ f : Int, (∀ r v, ([.int .i64 f] : List Value)[r]? = some v → W.cell? (ad.add (i * 1 + r)) = some v) ∧ True := by
      intro i hi
      obtain ⟨cs', h1, h2⟩ := hx i (by omega)
      rw [cellsInt] at h1
      obtain ⟨_, hlen, hcell⟩ := World.cells?_some h1
      obtain ⟨q, e2, _, z2⟩ := DataW.trod_int Try.underlying3 h2
      have c0 := hcell 0 (by omega)
      rw [add_add] at c0
      subst e2
      refine ⟨q, fun r v hv => ?_, trivial⟩
      match r, hv with
      | 0, hv => simp at hv; subst hv; simpa using c0
    obtain ⟨xs, hxl, hrow, _⟩ := rows_of (en := fun x => [.int .i64 x]) (fun _ => rfl) (by decide) each
    rw [← ics_flat] at hrow
    simp only [List.cons.injEq, and_true] at e
    exact ⟨some ad, xs, cap, by rw [e, hxl], hrow, by rw [hxl]; unfold maxLen at hm; omega⟩
set_option maxRecDepth 100000 in
theorem openEvent {H : Type} {enc : TypeId × Value → H} {W : World} {r : Reach} {b0 base : Nat} {spare : Nat → Bool} {held : Bool} {v : Value} {d : DataW H} {p : List MemPlace}
    (hv : Value.okWide Try.prog W r b0 26 v) (h : DataW.Trod enc Try.prog W base spare held 26 v d p) :
    ∃ (e : EvM) (la : Option Addr) (lc : Nat), v = evC e la lc ∧ CRow W la (ics e.left) ∧ AkFit e.ask ∧ e.left.length ≤ 9223372036854775807 := by
  obtain ⟨cs, rfl, hsz⟩ := okWide_struct Try.underlying26 hv
  rw [cellsEv] at hsz
  obtain ⟨fuel, h⟩ := h
  obtain ⟨xs, k, _, _, hl, hlen, hf⟩ := DataW.trod_struct Try.underlying26 h
  obtain ⟨v0, v1, v2, v3, v4, v5, v6, v7, v8, v9, v10, rfl⟩ : ∃ v0 v1 v2 v3 v4 v5 v6 v7 v8 v9 v10, cs = #[v0, v1, v2, v3, v4, v5, v6, v7, v8, v9, v10] := by
    match cs, hsz with
    | ⟨[v0, v1, v2, v3, v4, v5, v6, v7, v8, v9, v10]⟩, _ => exact ⟨v0, v1, v2, v3, v4, v5, v6, v7, v8, v9, v10, rfl⟩
  match xs, hlen with
  | [y0, y1, y2, y3, y4, y5], _ =>
    have g0 := hf 0 _ rfl
    have g1 := hf 1 _ rfl
    have g2 := hf 2 _ rfl
    have g3 := hf 3 _ rfl
    have g4 := hf 4 _ rfl
    have g5 := hf 5 _ rfl
    simp [cellsEvB, cellsEvI, cellsEvA, cellsEvL, Value.cells] at g0 g1 g2 g3 g4 g5
    obtain ⟨q0, e0, _⟩ := DataW.trod_int Try.underlying3 g0
    obtain ⟨q, e1, hq⟩ := openAsk_cells g1
    obtain ⟨q2, e2, _⟩ := DataW.trod_int Try.underlying3 g2
    obtain ⟨q3, e3, _⟩ := DataW.trod_int Try.underlying3 g3
    obtain ⟨q4, e4, _⟩ := DataW.trod_bool Try.underlying4 g4
    obtain ⟨la, xs, lc, e5, hr, hx⟩ := open_ints9 g5
    simp only [akC, List.cons.injEq, and_true] at e0 e1 e2 e3 e4
    obtain ⟨rfl, rfl, rfl, rfl, rfl, rfl⟩ := e1
    subst e0 e2 e3 e4 e5
    exact ⟨⟨q0, q, q2, q3, q4, xs⟩, la, lc, rfl, hr, hq, hx⟩
end Go.Proofs.Ytendbipfmgnjkaa
/- AkI: The program's own: records of asks, one function a kind, in a table (written by gen/mkaki.py). -/
namespace Go.Proofs.Ytendbipfmgnjkaa
set_option maxRecDepth 100000
open Go.RowKit BigFrame
attribute [local go_sem ↓] Go.wp_at_zero Go.wp_at_succ
theorem stNoFn {P : Program} {w : World} {a : Addr} {m : Mode} : (store a .nilFunc m).run P w = stored P w a .nilFunc m := run_store P w a _ m rfl
theorem stFn {P : Program} {w : World} {a : Addr} {m : Mode} (f : Fn) (x y : Array Value) : (store a (.func f x y) m).run P w = stored P w a (.func f x y) m := run_store P w a _ m rfl
attribute [local go_sem] stNoFn stFn

set_option maxRecDepth 100000 in
theorem implToMake (kind who num : Int) (path dest text : ByteArray) (w : World) : Calls Try.prog 103 #[akv ⟨kind, who, path, dest, text, num⟩] w fun e w' => e = .returned (ev ⟨1, path, ⟨#[]⟩, 0, 0⟩) ∧ Below w.heap.size w w' := by
  go_enter Try.func103, Try.ntmps103
  go_wp2_with fail
  refine bodyPost_ret (v := ev ⟨1, path, ⟨#[]⟩, 0, 0⟩) (by simp [results, Try.results103, go_sem]) rfl ⟨rfl, ?_⟩
  exact ((Below.refl _ _).alloc (Nat.le_refl _) _).alloc (by simp) _
set_option maxRecDepth 100000 in
theorem implToCreate (kind who num : Int) (path dest text : ByteArray) (w : World) : Calls Try.prog 104 #[akv ⟨kind, who, path, dest, text, num⟩] w fun e w' => e = .returned (ev ⟨2, path, ⟨#[]⟩, 0, who⟩) ∧ Below w.heap.size w w' := by
  go_enter Try.func104, Try.ntmps104
  go_wp2_with fail
  refine bodyPost_ret (v := ev ⟨2, path, ⟨#[]⟩, 0, who⟩) (by simp [results, Try.results104, go_sem]) rfl ⟨rfl, ?_⟩
  exact ((Below.refl _ _).alloc (Nat.le_refl _) _).alloc (by simp) _
set_option maxRecDepth 100000 in
theorem implToAppend (kind who num : Int) (path dest text : ByteArray) (w : World) : Calls Try.prog 105 #[akv ⟨kind, who, path, dest, text, num⟩] w fun e w' => e = .returned (ev ⟨7, path, ⟨#[]⟩, (text.size : Int), 0⟩) ∧ Below w.heap.size w w' := by
  go_enter Try.func105, Try.ntmps105
  go_wp2_with fail
  refine bodyPost_ret (v := ev ⟨7, path, ⟨#[]⟩, (text.size : Int), 0⟩) (by simp [results, Try.results105, go_sem]) rfl ⟨rfl, ?_⟩
  exact ((Below.refl _ _).alloc (Nat.le_refl _) _).alloc (by simp) _
set_option maxRecDepth 100000 in
theorem implToClose (kind who num : Int) (path dest text : ByteArray) (w : World) : Calls Try.prog 106 #[akv ⟨kind, who, path, dest, text, num⟩] w fun e w' => e = .returned (ev ⟨8, path, ⟨#[]⟩, 0, 0⟩) ∧ Below w.heap.size w w' := by
  go_enter Try.func106, Try.ntmps106
  go_wp2_with fail
  refine bodyPost_ret (v := ev ⟨8, path, ⟨#[]⟩, 0, 0⟩) (by simp [results, Try.results106, go_sem]) rfl ⟨rfl, ?_⟩
  exact ((Below.refl _ _).alloc (Nat.le_refl _) _).alloc (by simp) _
set_option maxRecDepth 100000 in
theorem implToMove (kind who num : Int) (path dest text : ByteArray) (w : World) : Calls Try.prog 107 #[akv ⟨kind, who, path, dest, text, num⟩] w fun e w' => e = .returned (ev ⟨3, path, dest, 0, 0⟩) ∧ Below w.heap.size w w' := by
  go_enter Try.func107, Try.ntmps107
  go_wp2_with fail
  refine bodyPost_ret (v := ev ⟨3, path, dest, 0, 0⟩) (by simp [results, Try.results107, go_sem]) rfl ⟨rfl, ?_⟩
  exact ((Below.refl _ _).alloc (Nat.le_refl _) _).alloc (by simp) _
set_option maxRecDepth 100000 in
theorem implToDrop (kind who num : Int) (path dest text : ByteArray) (w : World) : Calls Try.prog 108 #[akv ⟨kind, who, path, dest, text, num⟩] w fun e w' => e = .returned (ev ⟨4, path, ⟨#[]⟩, 0, 0⟩) ∧ Below w.heap.size w w' := by
  go_enter Try.func108, Try.ntmps108
  go_wp2_with fail
  refine bodyPost_ret (v := ev ⟨4, path, ⟨#[]⟩, 0, 0⟩) (by simp [results, Try.results108, go_sem]) rfl ⟨rfl, ?_⟩
  exact ((Below.refl _ _).alloc (Nat.le_refl _) _).alloc (by simp) _
set_option maxRecDepth 100000 in
theorem implToRead (kind who num : Int) (path dest text : ByteArray) (w : World) : Calls Try.prog 109 #[akv ⟨kind, who, path, dest, text, num⟩] w fun e w' => e = .returned (ev ⟨0, ⟨#[]⟩, ⟨#[]⟩, 0, 0⟩) ∧ Below w.heap.size w w' := by
  go_enter Try.func109, Try.ntmps109
  go_wp2_with fail
  refine bodyPost_ret (v := ev ⟨0, ⟨#[]⟩, ⟨#[]⟩, 0, 0⟩) (by simp [results, Try.results109, go_sem]) rfl ⟨rfl, ?_⟩
  exact ((Below.refl _ _).alloc (Nat.le_refl _) _).alloc (by simp) _
set_option maxRecDepth 100000 in
theorem implToSchema (kind who num : Int) (path dest text : ByteArray) (w : World) : Calls Try.prog 110 #[akv ⟨kind, who, path, dest, text, num⟩] w fun e w' => e = .returned (ev ⟨5, path, ⟨#[]⟩, num, 0⟩) ∧ Below w.heap.size w w' := by
  go_enter Try.func110, Try.ntmps110
  go_wp2_with fail
  refine bodyPost_ret (v := ev ⟨5, path, ⟨#[]⟩, num, 0⟩) (by simp [results, Try.results110, go_sem]) rfl ⟨rfl, ?_⟩
  exact ((Below.refl _ _).alloc (Nat.le_refl _) _).alloc (by simp) _
set_option maxRecDepth 100000 in
theorem implToQuota (kind who num : Int) (path dest text : ByteArray) (w : World) : Calls Try.prog 111 #[akv ⟨kind, who, path, dest, text, num⟩] w fun e w' => e = .returned (ev ⟨6, path, ⟨#[]⟩, num, 0⟩) ∧ Below w.heap.size w w' := by
  go_enter Try.func111, Try.ntmps111
  go_wp2_with fail
  refine bodyPost_ret (v := ev ⟨6, path, ⟨#[]⟩, num, 0⟩) (by simp [results, Try.results111, go_sem]) rfl ⟨rfl, ?_⟩
  exact ((Below.refl _ _).alloc (Nat.le_refl _) _).alloc (by simp) _
set_option maxRecDepth 100000 in
theorem implToReopen (kind who num : Int) (path dest text : ByteArray) (w : World) : Calls Try.prog 112 #[akv ⟨kind, who, path, dest, text, num⟩] w fun e w' => e = .returned (ev ⟨9, path, ⟨#[]⟩, 0, who⟩) ∧ Below w.heap.size w w' := by
  go_enter Try.func112, Try.ntmps112
  go_wp2_with fail
  refine bodyPost_ret (v := ev ⟨9, path, ⟨#[]⟩, 0, who⟩) (by simp [results, Try.results112, go_sem]) rfl ⟨rfl, ?_⟩
  exact ((Below.refl _ _).alloc (Nat.le_refl _) _).alloc (by simp) _
/-- The table of what makes records. -/
abbrev akTab : Value := .agg #[.nilFunc, .func (.func 103) #[] #[], .func (.func 104) #[] #[], .func (.func 105) #[] #[], .func (.func 106) #[] #[], .func (.func 107) #[] #[], .func (.func 108) #[] #[], .func (.func 109) #[] #[], .func (.func 110) #[] #[], .func (.func 111) #[] #[], .func (.func 112) #[] #[]]
set_option maxRecDepth 100000 in
theorem implAskRecords (w : World) : Calls Try.prog 93 #[] w fun e w' => e = .returned akTab ∧ Below w.heap.size w w' := by
  go_enter Try.func93, Try.ntmps93
  go_wp2_with fail
  refine bodyPost_ret (v := akTab) (by simp [results, Try.results93, go_sem]) rfl ⟨rfl, ?_⟩
  exact ((Below.refl _ _).alloc (Nat.le_refl _) _)
end Go.Proofs.Ytendbipfmgnjkaa
/- ClS: The library's strings.Clone. -/
namespace Go.Proofs.Ytendbipfmgnjkaa
set_option maxRecDepth 100000
open Go.RowKit BigFrame
attribute [local go_sem ↓] Go.wp_at_zero Go.wp_at_succ

set_option maxRecDepth 100000 in
theorem implClone (s : ByteArray) (w : World) (hs : s.size ≤ 281474976710656) : Calls Try.prog 49 #[.string s] w fun e w' => e = .returned (.string s) ∧ Below w.heap.size w w' := by
  have HC := Shut.mk (fun W => Try.stringslite_Clone s W hs)
  go_enter Try.func49, Try.ntmps49
  go_wp2_with fail
  refine (HC.out _).mono ?_
  rintro e w1 ⟨rfl, hb⟩
  go_wp2_with fail
  go_ret
  exact ⟨rfl, hb⟩
end Go.Proofs.Ytendbipfmgnjkaa
