/- The program's own AskOk (written by gen/mkakk.py). -/
import Derived.Test.YtendbipfmgnjkaaAkJ
import Derived.Test.YtendbipfmgnjkaaEdQ
import Derived.Test.YtendbipfmgnjkaaHasN
namespace Go.Proofs.Ytendbipfmgnjkaa
set_option maxRecDepth 100000
open Go.RowKit BigFrame
attribute [local go_sem ↓] Go.wp_at_zero Go.wp_at_succ
def textQ (q : AkM) : Bool := if q.kind = 3 then inI (q.text.size : Int) 1 60 else (q.text.toList == [])
def spareQ (q : AkM) : Bool := ((q.num == 0) || (q.kind == 8) || (q.kind == 9)) && ((q.dest.toList == []) || (q.kind == 5))
def placeQ (q : AkM) : Bool := if q.kind = 7 then named q.path else editOk (edOf q)
theorem ask_is (q : AkM) : askOk q = (inI q.kind 1 10 && inI q.who 1 9 && textQ q && spareQ q && placeQ q) := by
  unfold askOk textQ spareQ placeQ
  have hne : (q.dest.toList != []) = !(q.dest.toList == []) := rfl
  rw [hne]
  generalize (q.dest.toList == []) = a1
  generalize (if q.kind = 3 then inI (q.text.size : Int) 1 60 else (q.text.toList == [])) = a2
  generalize (if q.kind = 7 then named q.path else editOk (edOf q)) = a3
  generalize inI q.kind 1 10 = a4
  generalize inI q.who 1 9 = a5
  have e5 : (q.kind != 5) = !(q.kind == 5) := rfl
  have e8 : (q.kind != 8) = !(q.kind == 8) := rfl
  have e9 : (q.kind != 9) = !(q.kind == 9) := rfl
  have en : (q.num != 0) = !(q.num == 0) := rfl
  rw [e5, e8, e9, en]
  generalize (q.kind == 5) = b5
  generalize (q.kind == 8) = b8
  generalize (q.kind == 9) = b9
  generalize (q.num == 0) = bn
  revert a1 a2 a3 a4 a5 b5 b8 b9 bn
  decide
theorem implTextOk (q : AkM) (w : World) (ht : q.text.size ≤ 1048576) : Calls Try.prog 54 #[akv q] w fun e w' => e = .returned (.bool (textQ q)) ∧ Below w.heap.size w w' := by
  have HR : Shut (textQ q = if q.kind = 3 then (decide (1 ≤ (q.text.size : Int)) && decide ((q.text.size : Int) ≤ 60)) else (q.text.toList == [])) := ⟨rfl⟩
  generalize textQ q = R at *
  obtain ⟨kind, who, path, dest, text, num⟩ := q
  dsimp only at *
  go_enter Try.func54, Try.ntmps54
  go_wp2_with fail
  all_goals
    go_ret
    refine ⟨by rw [HR.out]; (try simp only [beq_iff_eq, beq_eq_false_iff_ne, ne_eq] at *); first | (simp [*]; done) | (simp [*]; omega), ?_⟩
    exact (Below.refl _ _).alloc (Nat.le_refl _) _
theorem implSpareOk (q : AkM) (w : World) : Calls Try.prog 55 #[akv q] w fun e w' => e = .returned (.bool (spareQ q)) ∧ Below w.heap.size w w' := by
  have HR : Shut (spareQ q = (((q.num == 0) || (q.kind == 8) || (q.kind == 9)) && ((q.dest.toList == []) || (q.kind == 5)))) := ⟨rfl⟩
  generalize spareQ q = R at *
  obtain ⟨kind, who, path, dest, text, num⟩ := q
  dsimp only at *
  go_enter Try.func55, Try.ntmps55
  go_wp2_with fail
  all_goals
    go_ret
    refine ⟨by rw [HR.out]; first | (simp [*]; done) | (simp [*]; omega), ?_⟩
    exact (Below.refl _ _).alloc (Nat.le_refl _) _
theorem implPlaceOk (q : AkM) (w : World) (hp : q.path.size ≤ 1048576) (hd : q.dest.size ≤ 1048576) : Calls Try.prog 56 #[akv q] w fun e w' => e = .returned (.bool (placeQ q)) ∧ Below w.heap.size w w' := by
  have HN := Shut.mk (fun W => implHasName q.path W hp)
  have HE := Shut.mk (fun W => implEditOf q W hp hd)
  have HO := Shut.mk (fun W => implEditOk (edOf q) W (edOf_fit hp hd))
  have HR : Shut (placeQ q = if q.kind = 7 then named q.path else editOk (edOf q)) := ⟨rfl⟩
  generalize placeQ q = R at *
  generalize named q.path = n9 at HN HR
  generalize editOk (edOf q) = e9 at HO HR
  generalize edOf q = E at HE HO
  obtain ⟨kind, who, path, dest, text, num⟩ := q
  obtain ⟨ek, ep, ed, en, ew⟩ := E
  clear hp hd
  have H := Shut.mk ((SL.start w).new #[.int .i64 kind, .int .i64 who, .string path, .string dest, .string text, .int .i64 num] 29)
  obtain ⟨qb, hqb⟩ : ∃ b, b = w.heap.size := ⟨_, rfl⟩
  dsimp only at *
  go_enter Try.func56, Try.ntmps56
  go_upto_region 1 with fail
  rw [← hqb] at H ⊢
  refine wp_shade (fun W => SL w W [bxS qb [.int .i64 kind, .int .i64 who, .string path, .string dest, .string text, .int .i64 num]]) H.out ?_
  intro W0 hS0
  replace H := Shut.mk hS0
  clear hS0 hqb
  have x0 := (H.out.bx 0 rfl 0 _ rfl).1
  have x1 := (H.out.bx 0 rfl 1 _ rfl).1
  have x2 := (H.out.bx 0 rfl 2 _ rfl).1
  have x3 := (H.out.bx 0 rfl 3 _ rfl).1
  have x4 := (H.out.bx 0 rfl 4 _ rfl).1
  have x5 := (H.out.bx 0 rfl 5 _ rfl).1
  go_wp2_with (first
    | (go_at_call 75; refine (HN.out _).mono ?_; rintro e w1 ⟨rfl, hb⟩; replace H := Shut.mk (H.out.below hb); clear hb x0 x1 x2 x3 x4 x5)
    | (go_at_call 77; refine (HE.out _).mono ?_; rintro e w1 ⟨rfl, hb⟩; replace H := Shut.mk (H.out.below hb); clear hb x0 x1 x2 x3 x4 x5)
    | (go_at_call 76; refine (HO.out _).mono ?_; rintro e w1 ⟨rfl, hb⟩; replace H := Shut.mk (H.out.below hb); clear hb))
  all_goals
    go_ret
    exact ⟨by rw [HR.out]; (try simp only [beq_iff_eq, beq_eq_false_iff_ne, ne_eq] at *); simp [*], H.out.bel⟩
set_option maxRecDepth 100000 in
set_option maxHeartbeats 4000000 in
theorem implAskOk (q : AkM) (w : World) (hp : q.path.size ≤ 1048576) (hd : q.dest.size ≤ 1048576) (ht : q.text.size ≤ 1048576) : Calls Try.prog 28 #[akv q] w fun e w' => e = .returned (.bool (askOk q)) ∧ Below w.heap.size w w' := by
  have HK := Shut.mk (fun W => implKindOk q W)
  have HT := Shut.mk (fun W => implTextOk q W ht)
  have HS := Shut.mk (fun W => implSpareOk q W)
  have HP := Shut.mk (fun W => implPlaceOk q W hp hd)
  have HR := Shut.mk (ask_is q)
  generalize askOk q = R at *
  generalize inI q.kind 1 10 = kk at HK HR
  generalize textQ q = kt at HT HR
  generalize spareQ q = ks at HS HR
  generalize placeQ q = kp at HP HR
  unfold inI at HR
  obtain ⟨kind, who, path, dest, text, num⟩ := q
  clear hp hd ht
  have H := Shut.mk ((SL.start w).new #[.int .i64 kind, .int .i64 who, .string path, .string dest, .string text, .int .i64 num] 29)
  obtain ⟨qb, hqb⟩ : ∃ b, b = w.heap.size := ⟨_, rfl⟩
  dsimp only at *
  go_enter Try.func28, Try.ntmps28
  go_upto_region 1 with fail
  rw [← hqb] at H ⊢
  refine wp_shade (fun W => SL w W [bxS qb [.int .i64 kind, .int .i64 who, .string path, .string dest, .string text, .int .i64 num]]) H.out ?_
  intro W0 hS0
  replace H := Shut.mk hS0
  clear hS0 hqb
  have x0 := (H.out.bx 0 rfl 0 _ rfl).1
  have x1 := (H.out.bx 0 rfl 1 _ rfl).1
  have x2 := (H.out.bx 0 rfl 2 _ rfl).1
  have x3 := (H.out.bx 0 rfl 3 _ rfl).1
  have x4 := (H.out.bx 0 rfl 4 _ rfl).1
  have x5 := (H.out.bx 0 rfl 5 _ rfl).1
  go_wp2_with (first
    | (go_at_call 53; refine (HK.out _).mono ?_; rintro e w1 ⟨rfl, hb⟩; replace H := Shut.mk (H.out.below hb); clear hb x0 x1 x2 x3 x4 x5; have x0 := (H.out.bx 0 rfl 0 _ rfl).1; have x1 := (H.out.bx 0 rfl 1 _ rfl).1; have x2 := (H.out.bx 0 rfl 2 _ rfl).1; have x3 := (H.out.bx 0 rfl 3 _ rfl).1; have x4 := (H.out.bx 0 rfl 4 _ rfl).1; have x5 := (H.out.bx 0 rfl 5 _ rfl).1)
    | (go_at_call 54; refine (HT.out _).mono ?_; rintro e w1 ⟨rfl, hb⟩; replace H := Shut.mk (H.out.below hb); clear hb x0 x1 x2 x3 x4 x5; have x0 := (H.out.bx 0 rfl 0 _ rfl).1; have x1 := (H.out.bx 0 rfl 1 _ rfl).1; have x2 := (H.out.bx 0 rfl 2 _ rfl).1; have x3 := (H.out.bx 0 rfl 3 _ rfl).1; have x4 := (H.out.bx 0 rfl 4 _ rfl).1; have x5 := (H.out.bx 0 rfl 5 _ rfl).1)
    | (go_at_call 55; refine (HS.out _).mono ?_; rintro e w1 ⟨rfl, hb⟩; replace H := Shut.mk (H.out.below hb); clear hb x0 x1 x2 x3 x4 x5; have x0 := (H.out.bx 0 rfl 0 _ rfl).1; have x1 := (H.out.bx 0 rfl 1 _ rfl).1; have x2 := (H.out.bx 0 rfl 2 _ rfl).1; have x3 := (H.out.bx 0 rfl 3 _ rfl).1; have x4 := (H.out.bx 0 rfl 4 _ rfl).1; have x5 := (H.out.bx 0 rfl 5 _ rfl).1)
    | (go_at_call 56; refine (HP.out _).mono ?_; rintro e w1 ⟨rfl, hb⟩; replace H := Shut.mk (H.out.below hb); clear hb x0 x1 x2 x3 x4 x5; have x0 := (H.out.bx 0 rfl 0 _ rfl).1; have x1 := (H.out.bx 0 rfl 1 _ rfl).1; have x2 := (H.out.bx 0 rfl 2 _ rfl).1; have x3 := (H.out.bx 0 rfl 3 _ rfl).1; have x4 := (H.out.bx 0 rfl 4 _ rfl).1; have x5 := (H.out.bx 0 rfl 5 _ rfl).1))
  all_goals
    go_ret
    exact ⟨by rw [HR.out]; first | (simp [*]; done) | (simp [*]; omega), H.out.bel⟩
end Go.Proofs.Ytendbipfmgnjkaa
