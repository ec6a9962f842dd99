/- Texts of ours, laid one behind the other: AkJ, EdC, PaI, PaJ, StrW, OffA, GuardA, OffB, PaK, LawPth, Draw. -/
import Derived.Test.YtendbipfmgnjkaaPe5
import Derived.WalkSmall
import Derived.Laws.RangeAny
import Derived.Test.YtendbipfmgnjkaaRows
import Derived.Maps.AppendAt
import Derived.ArgAppend
import Derived.Test.YtendbipfmgnjkaaShelf
import Derived.PlainAid
import Derived.Deep.QuietTactic
import Derived.BigQuiet
import Derived.Deep.RegionHeld3
import Derived.Deep.DrawnRows
/- AkJ: The program's own EditOf (written by gen/mkakj.py). -/
namespace Go.Proofs.Ytendbipfmgnjkaa
set_option maxRecDepth 100000
open Go.RowKit BigFrame
attribute [local go_sem ↓] Go.wp_at_zero Go.wp_at_succ
theorem implKindOk (q : AkM) (w : World) : Calls Try.prog 53 #[akv q] w fun e w' => e = .returned (.bool (inI q.kind 1 10)) ∧ Below w.heap.size w w' := by
  obtain ⟨kind, who, path, dest, text, num⟩ := q
  unfold inI
  go_enter Try.func53, Try.ntmps53
  go_wp2_with fail
  all_goals
    go_ret
    exact ⟨by first | (simp [*]; done) | (simp [*]; omega), (Below.refl _ _).alloc (Nat.le_refl _) _⟩
theorem akMade (q : AkM) (h : inI q.kind 1 10 = true) : ∃ F, (∀ (A : Array Value) (W : World), (callFunc F A).run Try.prog W = .ok (.enter F A) W) ∧ (∀ W : World, (Instr.index 124 akTab (.int .i64 q.kind)).run Try.prog W = .ok (.func (.func F) #[] #[]) W) ∧ ∀ W : World, Calls Try.prog F #[akv q] W fun e w' => e = .returned (ev (edOf q)) ∧ Below W.heap.size W w' := by
  obtain ⟨kind, who, path, dest, text, num⟩ := q
  have h' := inI_iff.1 h
  have hc : kind = 1 ∨ kind = 2 ∨ kind = 3 ∨ kind = 4 ∨ kind = 5 ∨ kind = 6 ∨ kind = 7 ∨ kind = 8 ∨ kind = 9 ∨ kind = 10 := by dsimp only at h'; omega
  rcases hc with rfl | rfl | rfl | rfl | rfl | rfl | rfl | rfl | rfl | rfl
  · exact ⟨103, fun A W => by kernel_rfl, fun W => by kernel_rfl, implToMake 1 who num path dest text⟩
  · exact ⟨104, fun A W => by kernel_rfl, fun W => by kernel_rfl, implToCreate 2 who num path dest text⟩
  · exact ⟨105, fun A W => by kernel_rfl, fun W => by kernel_rfl, implToAppend 3 who num path dest text⟩
  · exact ⟨106, fun A W => by kernel_rfl, fun W => by kernel_rfl, implToClose 4 who num path dest text⟩
  · exact ⟨107, fun A W => by kernel_rfl, fun W => by kernel_rfl, implToMove 5 who num path dest text⟩
  · exact ⟨108, fun A W => by kernel_rfl, fun W => by kernel_rfl, implToDrop 6 who num path dest text⟩
  · exact ⟨109, fun A W => by kernel_rfl, fun W => by kernel_rfl, implToRead 7 who num path dest text⟩
  · exact ⟨110, fun A W => by kernel_rfl, fun W => by kernel_rfl, implToSchema 8 who num path dest text⟩
  · exact ⟨111, fun A W => by kernel_rfl, fun W => by kernel_rfl, implToQuota 9 who num path dest text⟩
  · exact ⟨112, fun A W => by kernel_rfl, fun W => by kernel_rfl, implToReopen 10 who num path dest text⟩
set_option maxRecDepth 100000 in
set_option maxHeartbeats 4000000 in
theorem implEditOf (q : AkM) (w : World) (hp : q.path.size ≤ 1048576) (hd : q.dest.size ≤ 1048576) : Calls Try.prog 77 #[akv q] w fun e w' => e = .returned (ev (edOf q)) ∧ Below w.heap.size w w' := by
  have HK := Shut.mk (fun W => implKindOk q W)
  have HM := Shut.mk (akMade q)
  have HNO : Shut (inI q.kind 1 10 = false → edOf q = ⟨0, ⟨#[]⟩, ⟨#[]⟩, 0, 0⟩) := ⟨fun h => by
    unfold edOf
    unfold inI at h
    simp only [Bool.and_eq_false_iff, decide_eq_false_iff_not] at h
    repeat rw [if_neg (by omega)]⟩
  have HFT := Shut.mk (edOf_fit hp hd)
  obtain ⟨E, hE⟩ : ∃ E, E = edOf q := ⟨_, rfl⟩
  rw [← hE] at HM HNO HFT ⊢
  obtain ⟨ok, hok⟩ : ∃ b, b = inI q.kind 1 10 := ⟨_, rfl⟩
  rw [← hok] at HK HM HNO
  clear hE hok hp hd
  obtain ⟨kind, who, path, dest, text, num⟩ := q
  obtain ⟨ek, ep, ed, en, ew⟩ := E
  dsimp only at *
  obtain ⟨qb, hqb⟩ : ∃ b, b = w.heap.size := ⟨_, rfl⟩
  obtain ⟨rb, hrb⟩ : ∃ b, b = qb + 1 := ⟨_, rfl⟩
  have HS : Shut (SL w ((w.alloc (.cells #[.int .i64 kind, .int .i64 who, .string path, .string dest, .string text, .int .i64 num] 29)).alloc (.cells #[.int .i64 0, .string ⟨#[]⟩, .string ⟨#[]⟩, .int .i64 0, .int .i64 0] 91)) [bxS rb [.int .i64 0, .string ⟨#[]⟩, .string ⟨#[]⟩, .int .i64 0, .int .i64 0], bxS qb [.int .i64 kind, .int .i64 who, .string path, .string dest, .string text, .int .i64 num]]) := ⟨by
    have := ((SL.start w).new #[.int .i64 kind, .int .i64 who, .string path, .string dest, .string text, .int .i64 num] 29).new #[.int .i64 0, .string ⟨#[]⟩, .string ⟨#[]⟩, .int .i64 0, .int .i64 0] 91
    rw [show (w.alloc (.cells #[.int .i64 kind, .int .i64 who, .string path, .string dest, .string text, .int .i64 num] 29)).heap.size = rb by simp [hqb, hrb], ← hqb] at this
    exact this⟩
  go_enter Try.func77, Try.ntmps77
  go_upto_region 1 with fail
  rw [← hqb, ← hrb]
  refine wp_shade (fun W => SL w W [bxS rb [.int .i64 0, .string ⟨#[]⟩, .string ⟨#[]⟩, .int .i64 0, .int .i64 0], bxS qb [.int .i64 kind, .int .i64 who, .string path, .string dest, .string text, .int .i64 num]]) HS.out ?_
  intro W0 hS0
  have H := Shut.mk hS0
  clear hS0 HS hqb hrb
  have x0 := (H.out.bx 1 rfl 0 _ rfl).1
  have x1 := (H.out.bx 1 rfl 1 _ rfl).1
  have x2 := (H.out.bx 1 rfl 2 _ rfl).1
  have x3 := (H.out.bx 1 rfl 3 _ rfl).1
  have x4 := (H.out.bx 1 rfl 4 _ rfl).1
  have x5 := (H.out.bx 1 rfl 5 _ rfl).1
  cases ok with
  | false =>
    obtain ⟨rfl, rfl, rfl, rfl, rfl⟩ : ek = 0 ∧ ep = ⟨#[]⟩ ∧ ed = ⟨#[]⟩ ∧ en = 0 ∧ ew = 0 := by simpa using HNO.out rfl
    go_wp2_with (go_at_call 53; refine (HK.out _).mono ?_; rintro e w1 ⟨rfl, hb⟩; replace H := Shut.mk (H.out.below hb); clear hb x0 x1 x2 x3 x4 x5; obtain ⟨r0, s0⟩ := H.out.bx 0 rfl 0 _ rfl; obtain ⟨r1, s1⟩ := H.out.bx 0 rfl 1 _ rfl; obtain ⟨r2, s2⟩ := H.out.bx 0 rfl 2 _ rfl; obtain ⟨r3, s3⟩ := H.out.bx 0 rfl 3 _ rfl; obtain ⟨r4, s4⟩ := H.out.bx 0 rfl 4 _ rfl)
    have HE := Shut.mk (((((H.out.put 0 rfl 0 (.int .i64 0) (by simp)).put 0 rfl 1 (.string ⟨#[]⟩) (by simp)).put 0 rfl 2 (.string ⟨#[]⟩) (by simp)).put 0 rfl 3 (.int .i64 0) (by simp)).put 0 rfl 4 (.int .i64 0) (by simp))
    refine bodyPost_ret (v := ev ⟨0, ⟨#[]⟩, ⟨#[]⟩, 0, 0⟩) (by simp [results, Try.results77, go_sem, r0, r1, r2, r3, r4]) rfl ⟨rfl, ?_⟩
    exact HE.out.bel
  | true =>
    obtain ⟨F, hF0, hF1, hF2⟩ := HM.out rfl
    have HF := Shut.mk hF2
    clear hF2 HM HNO
    go_upto_region 3 with (go_at_call 53; refine (HK.out _).mono ?_; rintro e w1 ⟨rfl, hb⟩; replace H := Shut.mk (H.out.below hb); clear hb x0 x1 x2 x3 x4 x5)
    go_cut [3] from 8 to 14 (fun u wx => ∃ nb, u = .pointer (some ⟨nb, 0, none⟩) ∧ Shut (SL w wx [bxS nb [.int .i64 ek, .string ep, .string ed, .int .i64 en, .int .i64 ew], bxS rb [.int .i64 0, .string ⟨#[]⟩, .string ⟨#[]⟩, .int .i64 0, .int .i64 0], bxS qb [.int .i64 kind, .int .i64 who, .string path, .string dest, .string text, .int .i64 num]]))
    case first =>
      have HLE : Shut (∀ x, Later w1.drew x → x.cell? ⟨qb, 0, none⟩ = some (.int .i64 kind) ∧ x.cell? ⟨qb, 1, none⟩ = some (.int .i64 who) ∧ x.cell? ⟨qb, 2, none⟩ = some (.string path) ∧ x.cell? ⟨qb, 3, none⟩ = some (.string dest) ∧ x.cell? ⟨qb, 4, none⟩ = some (.string text) ∧ x.cell? ⟨qb, 5, none⟩ = some (.int .i64 num)) := ⟨fun x hx => by
        have M := H.out.drew.below hx
        exact ⟨(M.bx 1 rfl 0 _ rfl).1, (M.bx 1 rfl 1 _ rfl).1, (M.bx 1 rfl 2 _ rfl).1, (M.bx 1 rfl 3 _ rfl).1, (M.bx 1 rfl 4 _ rfl).1, (M.bx 1 rfl 5 _ rfl).1⟩⟩
      have HMX : Shut (∀ x, Later w1.drew x → SL w x [bxS rb [.int .i64 0, .string ⟨#[]⟩, .string ⟨#[]⟩, .int .i64 0, .int .i64 0], bxS qb [.int .i64 kind, .int .i64 who, .string path, .string dest, .string text, .int .i64 num]]) := ⟨fun x hx => H.out.drew.below hx⟩
      refine wp_region_tail 7 (by kernel_rfl) ?_
      refine wpK_call (i := 0) (v := akTab) (f := 93) (args := #[]) rfl (by kernel_rfl) (by kernel_rfl) (by kernel_rfl) (by kernel_rfl) (fun _ _ _ h => h) (by rfl) ?hya0 (fun x _ => implAskRecords x) ?resta0
      case hya0 => (intro x hx; obtain ⟨d0, d1, d2, d3, d4, d5⟩ := HLE.out x hx; go_simp; try with_reducible rfl)
      try simp only [Act.put, List.setIfInBounds_toArray, List.set_cons_zero, List.set_cons_succ]
      refine wpK_val (i := 1) (v := ?va1) rfl (by kernel_rfl) (by kernel_rfl) (by kernel_rfl) (by kernel_rfl) (fun _ _ _ h => h) (by rfl) ?hya1 ?resta1
      case hya1 => (intro x hx; obtain ⟨d0, d1, d2, d3, d4, d5⟩ := HLE.out x hx; go_simp; try with_reducible rfl)
      try simp only [Act.put, List.setIfInBounds_toArray, List.set_cons_zero, List.set_cons_succ]
      refine wpK_val (i := 2) (v := ?va2) rfl (by kernel_rfl) (by kernel_rfl) (by kernel_rfl) (by kernel_rfl) (fun _ _ _ h => h) (by rfl) ?hya2 ?resta2
      case hya2 => (intro x hx; obtain ⟨d0, d1, d2, d3, d4, d5⟩ := HLE.out x hx; go_simp; try with_reducible rfl)
      try simp only [Act.put, List.setIfInBounds_toArray, List.set_cons_zero, List.set_cons_succ]
      refine wpK_val (i := 3) (v := ?va3) rfl (by kernel_rfl) (by kernel_rfl) (by kernel_rfl) (by kernel_rfl) (fun _ _ _ h => h) (by rfl) ?hya3 ?resta3
      case hya3 => (intro x hx; obtain ⟨d0, d1, d2, d3, d4, d5⟩ := HLE.out x hx; go_simp; try with_reducible rfl)
      try simp only [Act.put, List.setIfInBounds_toArray, List.set_cons_zero, List.set_cons_succ]
      refine wpK_val (i := 4) (v := ?va4) rfl (by kernel_rfl) (by kernel_rfl) (by kernel_rfl) (by kernel_rfl) (fun _ _ _ h => h) (by rfl) ?hya4 ?resta4
      case hya4 => (intro x hx; obtain ⟨d0, d1, d2, d3, d4, d5⟩ := HLE.out x hx; go_simp; try with_reducible rfl)
      try simp only [Act.put, List.setIfInBounds_toArray, List.set_cons_zero, List.set_cons_succ]
      refine wpK_callbox (f := F) (args := #[akv ⟨kind, who, path, dest, text, num⟩]) (C := #[.int .i64 0, .string ⟨#[]⟩, .string ⟨#[]⟩, .int .i64 0, .int .i64 0]) (t := 91) (i := 5) (j := 6) (by kernel_rfl) rfl rfl (by rfl) (by rfl) (fun x hx => by go_simp) (fun x hx => by kernel_rfl) (fun x hx => (HF.out x).mono ?_) (fun x hx => ?_)
      · rintro e y ⟨rfl, hby⟩
        refine ⟨_, rfl, hby, ?_⟩
        have HY := Shut.mk ((HMX.out x hx).below hby)
        clear hx hby
        try simp only [Act.put, List.setIfInBounds_toArray, List.set_cons_zero, List.set_cons_succ]
        refine wpK_one (i := 6) (by kernel_rfl) rfl (by rfl) (fun x2 hx2 => ⟨.pointer (some ⟨x2.heap.size, 0, none⟩), x2.alloc (.cells #[.int .i64 0, .string ⟨#[]⟩, .string ⟨#[]⟩, .int .i64 0, .int .i64 0] 91), by kernel_rfl, (Below.refl _ _).alloc (Nat.le_refl _) _, ?_⟩)
        have HY2 := Shut.mk ((HY.out.below hx2).new #[.int .i64 0, .string ⟨#[]⟩, .string ⟨#[]⟩, .int .i64 0, .int .i64 0] 91)
        obtain ⟨nb, hnb⟩ : ∃ nb, nb = x2.heap.size := ⟨_, rfl⟩
        rw [← hnb] at HY2 ⊢
        clear hx2 hnb HY
        try simp only [Act.put, List.setIfInBounds_toArray, List.set_cons_zero, List.set_cons_succ]
        refine wpK_tail (by kernel_rfl) ?_
        intro x5 hx5
        have HY3 := Shut.mk (HY2.out.below hx5)
        clear HY2
        have q0 := (HY3.out.bx 0 rfl 0 _ rfl)
        have q1 := (HY3.out.bx 0 rfl 1 _ rfl)
        have q2 := (HY3.out.bx 0 rfl 2 _ rfl)
        have q3 := (HY3.out.bx 0 rfl 3 _ rfl)
        have q4 := (HY3.out.bx 0 rfl 4 _ rfl)
        obtain ⟨q0, qf0⟩ := q0
        obtain ⟨q1, qf1⟩ := q1
        obtain ⟨q2, qf2⟩ := q2
        obtain ⟨q3, qf3⟩ := q3
        obtain ⟨q4, qf4⟩ := q4
        refine wpA_store (y := ((((x5.setCell ⟨nb, 0, none⟩ (.int .i64 ek)).setCell ⟨nb, 1, none⟩ (.string ep)).setCell ⟨nb, 2, none⟩ (.string ed)).setCell ⟨nb, 3, none⟩ (.int .i64 en)).setCell ⟨nb, 4, none⟩ (.int .i64 ew)) (i := 7) (by kernel_rfl) rfl (by rfl) (by go_simp) (by kernel_rfl) ?_
        have HZ := Shut.mk (((((HY3.out.put 0 rfl 0 (.int .i64 ek) (by simp)).put 0 rfl 1 (.string ep) (by simp)).put 0 rfl 2 (.string ed) (by simp)).put 0 rfl 3 (.int .i64 en) (by simp)).put 0 rfl 4 (.int .i64 ew) (by simp))
        clear q0 qf0 q1 qf1 q2 qf2 q3 qf3 q4 qf4 hx5 HY3
        simp only [Act.put]
        go_wp2_with fail
        go_meet
        case rel => exact ⟨nb, rfl, HZ⟩
      · have HY := Shut.mk ((HMX.out x hx).new #[.int .i64 0, .string ⟨#[]⟩, .string ⟨#[]⟩, .int .i64 0, .int .i64 0] 91)
        obtain ⟨nb, hnb⟩ : ∃ nb, nb = x.heap.size := ⟨_, rfl⟩
        rw [← hnb] at HY ⊢
        generalize x.alloc (.cells #[.int .i64 0, .string ⟨#[]⟩, .string ⟨#[]⟩, .int .i64 0, .int .i64 0] 91) = x2 at HY ⊢
        clear hnb hx
        try simp only [Act.put, List.setIfInBounds_toArray, List.set_cons_zero, List.set_cons_succ]
        refine wpK_onecall (f := F) (args := #[akv ⟨kind, who, path, dest, text, num⟩]) (i := 5) (by kernel_rfl) rfl (by rfl) (fun x3 hx3 => by go_simp) (fun x3 hx3 => (HF.out x3).mono ?_)
        rintro e y ⟨rfl, hby⟩
        refine ⟨_, rfl, hby, ?_⟩
        have HY2 := Shut.mk ((HY.out.below hx3).below hby)
        clear hx3 hby HY
        try simp only [Act.put, List.setIfInBounds_toArray, List.set_cons_zero, List.set_cons_succ]
        refine wpK_tail (by kernel_rfl) ?_
        intro x5 hx5
        have HY3 := Shut.mk (HY2.out.below hx5)
        clear HY2
        have q0 := (HY3.out.bx 0 rfl 0 _ rfl)
        have q1 := (HY3.out.bx 0 rfl 1 _ rfl)
        have q2 := (HY3.out.bx 0 rfl 2 _ rfl)
        have q3 := (HY3.out.bx 0 rfl 3 _ rfl)
        have q4 := (HY3.out.bx 0 rfl 4 _ rfl)
        obtain ⟨q0, qf0⟩ := q0
        obtain ⟨q1, qf1⟩ := q1
        obtain ⟨q2, qf2⟩ := q2
        obtain ⟨q3, qf3⟩ := q3
        obtain ⟨q4, qf4⟩ := q4
        refine wpA_store (y := ((((x5.setCell ⟨nb, 0, none⟩ (.int .i64 ek)).setCell ⟨nb, 1, none⟩ (.string ep)).setCell ⟨nb, 2, none⟩ (.string ed)).setCell ⟨nb, 3, none⟩ (.int .i64 en)).setCell ⟨nb, 4, none⟩ (.int .i64 ew)) (i := 7) (by kernel_rfl) rfl (by rfl) (by go_simp) (by kernel_rfl) ?_
        have HZ := Shut.mk (((((HY3.out.put 0 rfl 0 (.int .i64 ek) (by simp)).put 0 rfl 1 (.string ep) (by simp)).put 0 rfl 2 (.string ed) (by simp)).put 0 rfl 3 (.int .i64 en) (by simp)).put 0 rfl 4 (.int .i64 ew) (by simp))
        clear q0 qf0 q1 qf1 q2 qf2 q3 qf3 q4 qf4 hx5 HY3
        simp only [Act.put]
        go_wp2_with fail
        go_meet
        case rel => exact ⟨nb, rfl, HZ⟩
    case rest =>
      obtain ⟨nb, rfl, hS⟩ := hcut
      replace H := Shut.mk hS.out
      clear hS HF hF0 hF1 HK
      have hs1 : ep.size ≤ 281474976710656 := Nat.le_trans HFT.out.1 (by decide)
      have hs2 : ed.size ≤ 281474976710656 := Nat.le_trans HFT.out.2 (by decide)
      have HC1 := Shut.mk (fun W => implClone ep W hs1)
      have HC2 := Shut.mk (fun W => implClone ed W hs2)
      clear hs1 hs2 HFT
      go_upto_region 4 with fail
      have HLE : Shut (∀ x, Later wc.drew x → x.cell? ⟨nb, 1, none⟩ = some (.string ep) ∧ x.cell? ⟨nb, 2, none⟩ = some (.string ed)) := ⟨fun x hx => by
        have M := H.out.drew.below hx
        exact ⟨(M.bx 0 rfl 1 _ rfl).1, (M.bx 0 rfl 2 _ rfl).1⟩⟩
      refine wp_region_tail 7 (by kernel_rfl) ?_
      refine wpK_val (i := 0) (v := ?vb0) rfl (by kernel_rfl) (by kernel_rfl) (by kernel_rfl) (by kernel_rfl) (fun _ _ _ h => h) (by rfl) ?hyb0 ?restb0
      case hyb0 => (intro x hx; obtain ⟨d1, d2⟩ := HLE.out x hx; go_simp; try with_reducible rfl)
      try simp only [Act.put, List.setIfInBounds_toArray, List.set_cons_zero, List.set_cons_succ]
      refine wpK_val (i := 1) (v := ?vb1) rfl (by kernel_rfl) (by kernel_rfl) (by kernel_rfl) (by kernel_rfl) (fun _ _ _ h => h) (by rfl) ?hyb1 ?restb1
      case hyb1 => (intro x hx; obtain ⟨d1, d2⟩ := HLE.out x hx; go_simp; try with_reducible rfl)
      try simp only [Act.put, List.setIfInBounds_toArray, List.set_cons_zero, List.set_cons_succ]
      refine wpK_call (i := 2) (v := .string ep) (f := 49) (args := #[.string ep]) rfl (by kernel_rfl) (by kernel_rfl) (by kernel_rfl) (by kernel_rfl) (fun _ _ _ h => h) (by rfl) ?hyb2 (fun x _ => HC1.out x) ?restb2
      case hyb2 => (intro x hx; obtain ⟨d1, d2⟩ := HLE.out x hx; go_simp; try with_reducible rfl)
      try simp only [Act.put, List.setIfInBounds_toArray, List.set_cons_zero, List.set_cons_succ]
      refine wpK_val (i := 3) (v := ?vb3) rfl (by kernel_rfl) (by kernel_rfl) (by kernel_rfl) (by kernel_rfl) (fun _ _ _ h => h) (by rfl) ?hyb3 ?restb3
      case hyb3 => (intro x hx; obtain ⟨d1, d2⟩ := HLE.out x hx; go_simp; try with_reducible rfl)
      try simp only [Act.put, List.setIfInBounds_toArray, List.set_cons_zero, List.set_cons_succ]
      refine wpK_val (i := 4) (v := ?vb4) rfl (by kernel_rfl) (by kernel_rfl) (by kernel_rfl) (by kernel_rfl) (fun _ _ _ h => h) (by rfl) ?hyb4 ?restb4
      case hyb4 => (intro x hx; obtain ⟨d1, d2⟩ := HLE.out x hx; go_simp; try with_reducible rfl)
      try simp only [Act.put, List.setIfInBounds_toArray, List.set_cons_zero, List.set_cons_succ]
      refine wpK_val (i := 6) (v := ?vb6) rfl (by kernel_rfl) (by kernel_rfl) (by kernel_rfl) (by kernel_rfl) (fun _ _ _ h => h) (by rfl) ?hyb6 ?restb6
      case hyb6 => (intro x hx; obtain ⟨d1, d2⟩ := HLE.out x hx; go_simp; try with_reducible rfl)
      try simp only [Act.put, List.setIfInBounds_toArray, List.set_cons_zero, List.set_cons_succ]
      refine wpK_call (i := 5) (v := .string ed) (f := 49) (args := #[.string ed]) rfl (by kernel_rfl) (by kernel_rfl) (by kernel_rfl) (by kernel_rfl) (fun _ _ _ h => h) (by rfl) ?hyb5 (fun x _ => HC2.out x) ?restb5
      case hyb5 => (intro x hx; obtain ⟨d1, d2⟩ := HLE.out x hx; go_simp; try with_reducible rfl)
      try simp only [Act.put, List.setIfInBounds_toArray, List.set_cons_zero, List.set_cons_succ]
      refine wpK_tail (by kernel_rfl) ?_
      intro x5 hx5
      have HY := Shut.mk (H.out.drew.below hx5)
      clear H hx5 HLE HC1 HC2
      obtain ⟨q1, qf1⟩ := HY.out.bx 0 rfl 1 _ rfl
      obtain ⟨q2, qf2⟩ := HY.out.bx 0 rfl 2 _ rfl
      refine wpA_step (y := x5.setCell ⟨nb, 1, none⟩ (.string ep)) (i := 7) (by kernel_rfl) rfl (by rfl) (by go_simp) ?_
      replace HY := Shut.mk (HY.out.put 0 rfl 1 (.string ep) (by simp))
      generalize x5.setCell ⟨nb, 1, none⟩ (.string ep) = x6 at *
      clear q1 qf1 q2 qf2
      simp only [List.set_cons_zero, List.set_cons_succ] at HY
      obtain ⟨q2, qf2⟩ := HY.out.bx 0 rfl 2 _ rfl
      simp only [Act.put]
      refine wpA_val (i := 8) (v := .pointer (some ⟨nb, 2, none⟩)) rfl (by kernel_rfl) (by kernel_rfl) (by kernel_rfl) (fun _ _ _ h => h) (by rfl) (fun x => by go_simp) ?_
      try simp only [Act.put, List.setIfInBounds_toArray, List.set_cons_zero, List.set_cons_succ]
      refine wpA_store (y := x6.setCell ⟨nb, 2, none⟩ (.string ed)) (i := 9) (by kernel_rfl) rfl (by rfl) (by go_simp) (by kernel_rfl) ?_
      replace HY := Shut.mk (HY.out.put 0 rfl 2 (.string ed) (by simp))
      generalize x6.setCell ⟨nb, 2, none⟩ (.string ed) = x7 at *
      clear q2 qf2
      simp only [List.set_cons_zero, List.set_cons_succ, Act.put] at HY ⊢
      have y0 := (HY.out.bx 0 rfl 0 _ rfl).1
      have y1 := (HY.out.bx 0 rfl 1 _ rfl).1
      have y2 := (HY.out.bx 0 rfl 2 _ rfl).1
      have y3 := (HY.out.bx 0 rfl 3 _ rfl).1
      have y4 := (HY.out.bx 0 rfl 4 _ rfl).1
      obtain ⟨r0, s0⟩ := HY.out.bx 1 rfl 0 _ rfl
      obtain ⟨r1, s1⟩ := HY.out.bx 1 rfl 1 _ rfl
      obtain ⟨r2, s2⟩ := HY.out.bx 1 rfl 2 _ rfl
      obtain ⟨r3, s3⟩ := HY.out.bx 1 rfl 3 _ rfl
      obtain ⟨r4, s4⟩ := HY.out.bx 1 rfl 4 _ rfl
      have HE := Shut.mk (((((HY.out.put 1 rfl 0 (.int .i64 ek) (by simp)).put 1 rfl 1 (.string ep) (by simp)).put 1 rfl 2 (.string ed) (by simp)).put 1 rfl 3 (.int .i64 en) (by simp)).put 1 rfl 4 (.int .i64 ew) (by simp))
      clear HY
      go_wp2_with fail
      refine bodyPost_ret (v := ev ⟨ek, ep, ed, en, ew⟩) (by simp [results, Try.results77, go_sem, r0, r1, r2, r3, r4]) rfl ⟨rfl, ?_⟩
      exact HE.out.bel
end Go.Proofs.Ytendbipfmgnjkaa
/- EdC: Records that came in, and what the laws do with them: their size, a copy, a comparison. -/
namespace Go.Proofs.Ytendbipfmgnjkaa
set_option maxRecDepth 100000
open Go.RowKit Go.Deep Go.ChangeShapes Go.WideShapes
attribute [local go_sem ↓] Go.wp_at_zero Go.wp_at_succ

/-- A record whose numbers are the machine's, and whose texts it can count. -/
def EdFit (e : EM) : Prop := e.path.size ≤ 9223372036854775807 ∧ e.dest.size ≤ 9223372036854775807 ∧ (Lit.int .i64 e.kind).wf = true ∧ (Lit.int .i64 e.num).wf = true ∧ (Lit.int .i64 e.who).wf = true
theorem cells_intE : Try.prog.cellsOf 3 = 1 := by kernel_rfl
theorem cells_strE : Try.prog.cellsOf 9 = 1 := by kernel_rfl
end Go.Proofs.Ytendbipfmgnjkaa
/- PaI: The program's own NameOk: its text is gone through rune by rune. -/
namespace Go.Proofs.Ytendbipfmgnjkaa
set_option maxRecDepth 100000
open Go.RowKit
open Go.PlainAid (bt)
attribute [local go_sem ↓] Go.wp_at_zero Go.wp_at_succ

theorem get_bt9 (s : ByteArray) (j : Nat) (h : j < s.size) : bt s j = ((s.get! j).toNat : Int) := by
  unfold bt
  rw [dif_pos h]
  simp [ByteArray.get!, getElem!_pos, h]
  rfl
/-- A rune that is no byte below 128 goes over bytes from 128 on alone, and not past the end. -/
theorem decode_far (s : ByteArray) (pos : Nat) (h : pos < s.size) (ha : 128 ≤ bt s pos) : pos + (Utf8.decode s pos).2 ≤ s.size ∧ (Utf8.decode s pos).2 ≤ 4 ∧ ∀ d, d < (Utf8.decode s pos).2 → 128 ≤ bt s (pos + d) := by
  have hg := fun d (q : pos + d < s.size) => get_bt9 s (pos + d) q
  have g0 := hg 0 (by omega)
  simp only [Nat.add_zero] at g0
  have g1 := hg 1
  have g2 := hg 2
  have g3 := hg 3
  clear hg
  have hn : ¬ (s.get! (pos + 0)).toNat < 128 := by simp only [Nat.add_zero]; omega
  simp only [Utf8.decode, hn, if_false]
  have hone : pos + 1 ≤ s.size ∧ 1 ≤ 4 ∧ ∀ d, d < 1 → 128 ≤ bt s (pos + d) := ⟨by omega, by omega, fun d hd => by
    have : d = 0 := by omega
    subst this; exact ha⟩
  split
  · rename_i q
    simp only [Bool.and_eq_true, decide_eq_true_eq, beq_iff_eq] at q
    split
    · refine ⟨by simp only; omega, by simp only; omega, fun d hd => ?_⟩
      have h1 := g1 q.2.1
      rcases (show d = 0 ∨ d = 1 from by simp only at hd; omega) with rfl | rfl
      · exact ha
      · rw [h1]; omega
    · exact hone
  · split
    · rename_i q
      simp only [Bool.and_eq_true, decide_eq_true_eq, beq_iff_eq] at q
      split
      · refine ⟨by simp only; omega, by simp only; omega, fun d hd => ?_⟩
        have h1 := g1 q.1.2.1
        have h2 := g2 q.2.1
        rcases (show d = 0 ∨ d = 1 ∨ d = 2 from by simp only at hd; omega) with rfl | rfl | rfl
        · exact ha
        · rw [h1]; omega
        · rw [h2]; omega
      · exact hone
    · split
      · rename_i q
        simp only [Bool.and_eq_true, decide_eq_true_eq, beq_iff_eq] at q
        split
        · refine ⟨by simp only; omega, by simp only; omega, fun d hd => ?_⟩
          have h1 := g1 q.1.1.2.1
          have h2 := g2 q.1.2.1
          have h3 := g3 q.2.1
          rcases (show d = 0 ∨ d = 1 ∨ d = 2 ∨ d = 3 from by simp only at hd; omega) with rfl | rfl | rfl | rfl
          · exact ha
          · rw [h1]; omega
          · rw [h2]; omega
          · rw [h3]; omega
        · exact hone
      · exact hone
theorem rune_low (s : ByteArray) (pos : Nat) (h : pos < s.size) (ha : bt s pos < 128) : ((Utf8.decode s pos).1 : Int) = bt s pos ∧ (Utf8.decode s pos).2 = 1 := by
  have e : bt s pos = ((s[pos]'h).toNat : Int) := by unfold bt; rw [dif_pos h]
  rw [decode_ascii s pos h (by omega), e]
  exact ⟨rfl, rfl⟩
theorem rune_high (s : ByteArray) (pos : Nat) (h : pos < s.size) (ha : 128 ≤ bt s pos) : (128 : Int) ≤ ((Utf8.decode s pos).1 : Int) ∧ 1 ≤ (Utf8.decode s pos).2 := by
  have e : bt s pos = ((s[pos]'h).toNat : Int) := by unfold bt; rw [dif_pos h]
  have := decode_high s pos h (by omega)
  omega
theorem implNameRune (r : Int) (b : Bool) (hb : b = true ↔ nameN r) (w : World) : Calls Try.prog 119 #[.int .i32 r] w fun e w' => e = .returned (.bool b) ∧ w' = w := by
  have HB := Shut.mk hb
  clear hb
  unfold nameN at HB
  by_cases c1 : 97 ≤ r
  · by_cases c2 : r ≤ 122
    · have hb : b = true := HB.out.2 (by omega)
      subst hb
      go_enter Try.func119, Try.ntmps119
      go_wp2_with fail
      go_ret
      exact ⟨rfl, rfl⟩
    · have c3 : 48 ≤ r := by omega
      have c4 : ¬ r ≤ 57 := by omega
      have hb : b = false := by cases b with | false => rfl | true => exact absurd (HB.out.1 rfl) (by omega)
      subst hb
      go_enter Try.func119, Try.ntmps119
      go_wp2_with fail
      go_ret
      exact ⟨rfl, rfl⟩
  · by_cases c3 : 48 ≤ r
    · by_cases c4 : r ≤ 57
      · have hb : b = true := HB.out.2 (by omega)
        subst hb
        go_enter Try.func119, Try.ntmps119
        go_wp2_with fail
        go_ret
        exact ⟨rfl, rfl⟩
      · have hb : b = false := by cases b with | false => rfl | true => exact absurd (HB.out.1 rfl) (by omega)
        subst hb
        go_enter Try.func119, Try.ntmps119
        go_wp2_with fail
        go_ret
        exact ⟨rfl, rfl⟩
    · have hb : b = false := by cases b with | false => rfl | true => exact absurd (HB.out.1 rfl) (by omega)
      subst hb
      go_enter Try.func119, Try.ntmps119
      go_wp2_with fail
      go_ret
      exact ⟨rfl, rfl⟩
theorem iter_below (w : World) (s : ByteArray) (pos : Nat) : Below w.heap.size w (w.iter s pos) := (Below.refl _ _).alloc (Nat.le_refl _) _
set_option maxRecDepth 100000 in
set_option maxHeartbeats 1000000 in
theorem implNameOk (s : ByteArray) (w : World) (hs : s.size ≤ 1048576) : Calls Try.prog 115 #[.string s] w fun e w' => e = .returned (.bool (nameB s)) ∧ Below w.heap.size w w' := by
  obtain ⟨r, hre⟩ : ∃ r, r = nameB s := ⟨_, rfl⟩
  have HRE := Shut.mk hre
  rw [← hre]
  clear hre
  have hnot (q : ¬ (1 ≤ s.size ∧ s.size ≤ 8)) : r = false := by
    rw [HRE.out]
    cases e : nameB s with
    | false => rfl
    | true => exact absurd ((nameB_iff s).1 e).2 q
  by_cases h1 : s.size < 1
  · have hr := hnot (by omega)
    subst hr
    have h1' : (s.size : Int) < 1 := by omega
    go_enter Try.func115, Try.ntmps115
    go_wp2_with fail
    go_ret
    exact ⟨rfl, Below.refl _ _⟩
  have h1' : ¬ (s.size : Int) < 1 := by omega
  by_cases h8 : 8 < s.size
  · have hr := hnot (by omega)
    subst hr
    have h8' : (8 : Int) < (s.size : Int) := by omega
    go_enter Try.func115, Try.ntmps115
    go_wp2_with fail
    go_ret
    exact ⟨rfl, Below.refl _ _⟩
  have h8' : ¬ (8 : Int) < (s.size : Int) := by omega
  clear hnot
  go_enter Try.func115, Try.ntmps115
  go_wp2_with fail
  go_loopw [2] (fun v wr => ∃ (pos : Nat), v = .bool false ∧ wr = w.iter s pos ∧ pos ≤ s.size ∧ Shut (∀ j, j < pos → nameN (bt s j))) (fun _ wr => s.size - wr.iterPos w.heap.size)
  case atStart => exact ⟨0, rfl, rfl, Nat.zero_le _, ⟨fun j hj => by omega⟩⟩
  case round =>
    obtain ⟨pos, rfl, rfl, hp, hall⟩ := hrel
    by_cases hlt : pos < s.size
    · have hnx : ∀ ty, (Instr.next (.pointer (some ⟨w.heap.size, 0, none⟩)) true ty).run Try.prog (w.iter s pos) = _ := fun ty => run_next_any w s pos ty hlt
      have hlow := rune_low s pos hlt
      have hhigh := rune_high s pos hlt
      generalize Utf8.decode s pos = D at *
      obtain ⟨rn, wd⟩ := D
      simp only at hlow hhigh hnx
      by_cases hn : nameN (bt s pos)
      · have hl : bt s pos < 128 := by unfold nameN at hn; omega
        obtain ⟨e1, rfl⟩ := hlow hl
        have HN := Shut.mk (fun W => implNameRune (rn : Int) true (by rw [e1]; exact ⟨fun _ => hn, fun _ => rfl⟩) W)
        have HA : Shut (∀ j, j < pos + 1 → nameN (bt s j)) := ⟨fun j hj => by
          by_cases e : j = pos
          · subst e; exact hn
          · exact hall.out j (by omega)⟩
        clear hn hlow hhigh e1 hl hall
        go_wp2_with fail
        refine (HN.out _).mono ?_
        rintro e w1 ⟨rfl, hw⟩
        subst hw
        go_wp2_with fail
        go_roundw
        case rel => exact ⟨pos + 1, rfl, rfl, by omega, HA⟩
        case measure => simp; omega
      · have hr : r = false := HRE.out.trans (nameB_no hlt hn)
        have HN := Shut.mk (fun W => implNameRune (rn : Int) false (by
          refine ⟨fun q => (Bool.noConfusion q), fun q => ?_⟩
          exfalso
          by_cases hl : bt s pos < 128
          · rw [(hlow hl).1] at q; exact hn q
          · have := (hhigh (by omega)).1
            unfold nameN at q
            omega) W)
        subst hr
        clear hn hlow hhigh hall
        go_wp2_with fail
        refine (HN.out _).mono ?_
        rintro e w1 ⟨rfl, hw⟩
        subst hw
        go_wp2_with fail
        go_ret
        exact ⟨rfl, iter_below _ _ _⟩
    · have hnx : ∀ ty, (Instr.next (.pointer (some ⟨w.heap.size, 0, none⟩)) true ty).run Try.prog (w.iter s pos) = _ := fun ty => run_next_end w s pos ty hlt
      have hr : r = true := HRE.out.trans ((nameB_iff s).2 ⟨fun j hj => hall.out j (by omega), by omega, by omega⟩)
      subst hr
      go_wp2_with fail
      go_ret
      exact ⟨rfl, iter_below _ _ _⟩
end Go.Proofs.Ytendbipfmgnjkaa
/- PaJ: The program's own way through a path: what lies between slashes. -/
namespace Go.Proofs.Ytendbipfmgnjkaa
set_option maxRecDepth 100000
open Go.RowKit
open Go.PlainAid (bt)
attribute [local go_sem ↓] Go.wp_at_zero Go.wp_at_succ

/-- Where the way through a text stands. -/
structure BwRel (p : ByteArray) (i bg : Nat) (done : List ByteArray) : Prop where
  le : bg ≤ i
  clean : ∀ j, bg ≤ j → j < i → bt p j ≠ 47
  sofar : (segs (lb p)).map ba = done ++ (segs ((lb p).drop bg)).map ba
theorem BwRel.start {p : ByteArray} : BwRel p 0 0 [] := ⟨Nat.le_refl _, fun j h1 h2 => by omega, rfl⟩
theorem BwRel.step {p : ByteArray} {i bg wd : Nat} {done : List ByteArray} (h : BwRel p i bg done) (hc : ∀ d, d < wd → bt p (i + d) ≠ 47) : BwRel p (i + wd) bg done :=
  ⟨by have := h.le; omega, fun j h1 h2 => by
    by_cases e : j < i
    · exact h.clean j h1 e
    · have := hc (j - i) (by omega)
      rwa [show i + (j - i) = j from by omega] at this, h.sofar⟩
theorem BwRel.cut {p : ByteArray} {i bg : Nat} {done : List ByteArray} (h : BwRel p i bg done) (hi : i < p.size) (hc : bt p i = 47) : BwRel p (i + 1) (i + 1) (done ++ [p.extract bg i]) := by
  refine ⟨Nat.le_refl _, fun j h1 h2 => by omega, ?_⟩
  have hl : (lb p).length = p.size := rfl
  have e : (lb p).drop bg = ((lb p).drop bg).take (i - bg) ++ 47 :: (lb p).drop (i + 1) := by
    have h1 : ((lb p).drop bg).drop (i - bg) = 47 :: (lb p).drop (i + 1) := by
      rw [List.drop_drop, show bg + (i - bg) = i from by have := h.le; omega, List.drop_eq_getElem_cons (by omega)]
      congr 1
      have := bt_at hi
      rw [hc] at this
      have h2 : ((lb p)[i]'(by omega)).toNat = 47 := by omega
      exact UInt8.toNat_inj.1 h2
    rw [← h1, List.take_append_drop]
  rw [h.sofar, e, segs_cut _ _ (clean_list (by omega) h.clean), List.map_cons, List.append_assoc]
  congr 1
  rw [← ext_list, ba_lb]; rfl
theorem BwRel.fin {p : ByteArray} {i bg : Nat} {done : List ByteArray} (h : BwRel p i bg done) (hi : i = p.size) : (segs (lb p)).map ba = done ++ [p.extract bg p.size] := by
  have hl : (lb p).length = p.size := rfl
  subst hi
  have e : (lb p).drop bg = ((lb p).drop bg).take (p.size - bg) := by rw [List.take_of_length_le (by rw [List.length_drop]; omega)]
  rw [h.sofar, e, segs_none _ (clean_list (by omega) h.clean), List.map_cons, List.map_nil, ← ext_list, ba_lb]
theorem slice_from (s : ByteArray) (a : Nat) (h : a ≤ s.size) (w : World) : (Instr.slice 9 (.string s) (some (.int .i64 a)) none none).run Try.prog w = .ok (.string (s.extract a s.size)) w := by
  rw [run_slice_string_from_if w 9 s .i64 a Try.underlying9, if_pos ⟨by omega, by omega⟩]
  rfl
theorem own_iter9 {w : World} {B e size n : Nat} {v : Value} {xs : List Value} {k : Nat} {s : ByteArray} {pos : Nat} (h : w.ownsRow B e size v n xs) (hk : w.heap[k]? = some (.stringIter s pos)) (pos' : Nat) : (w.iterAt k s pos').ownsRow B e size v n xs := by
  refine ⟨h.1, h.2.imp id fun ⟨g, cap, cur, hv, hb, hg, rest⟩ => ⟨g, cap, cur, hv, hb, ?_, rest⟩⟩
  rw [Lib.iterAt_other _ _ _ _ _ (fun e => by subst e; rw [hk] at hg; cases hg)]
  exact hg
theorem own_ne9 {w : World} {B e size n : Nat} {v : Value} {xs : List Value} {k : Nat} {s : ByteArray} {pos : Nat} (h : w.ownsRow B e size v n xs) (hk : w.heap[k]? = some (.stringIter s pos)) : some k ≠ v.ownBlock := by
  rcases h.2 with ⟨rfl, _⟩ | ⟨g, cap, cur, rfl, hb, hg, rest⟩
  · exact fun e => nomatch e
  · intro e
    cases e
    rw [hk] at hg
    cases hg
set_option maxRecDepth 100000 in
set_option maxHeartbeats 2000000 in
theorem implBetween (p : ByteArray) (w : World) (hs : p.size ≤ 1048576) : Calls Try.prog 114 #[.string p] w fun e w' => ∃ v, e = .returned v ∧ w'.ownsRow w.heap.size 9 1 v (segs (lb p)).length (tv ((segs (lb p)).map ba)) ∧ Below w.heap.size w w' := by
  obtain ⟨i0, hi, hz0, hz1, hz2⟩ := info_parts infoTextG
  have hb := Go.PlainAid.get_bt p
  go_enter Try.func114, Try.ntmps114
  go_wp2_with fail
  go_loopw [3, 4] (fun v bg wr => ∃ (pos g : Nat) (done : List ByteArray) (vv : Value), vv = v ∧ bg = .int .i64 g ∧ wr.heap[w.heap.size]? = some (.stringIter p pos) ∧ pos ≤ p.size ∧ g ≤ pos ∧ done.length ≤ pos ∧ Shut (BwRel p pos g done) ∧ Shut (wr.ownsRow w.heap.size 9 1 vv done.length (tv done)) ∧ Shut (Below w.heap.size w wr)) (fun _ _ wr => p.size - wr.iterPos w.heap.size)
  case atStart => exact ⟨0, 0, [], _, rfl, rfl, World.iter_heap _ _ _, Nat.zero_le _, Nat.le_refl _, by simp, ⟨BwRel.start⟩, ⟨⟨rfl, .inl ⟨rfl, rfl⟩⟩⟩, ⟨iter_below _ _ _⟩⟩
  case round =>
    obtain ⟨pos, g, done, v, rfl, rfl, hit, hp, hg, hd, hrl, hown, hbl⟩ := hrel
    have hB := hbl.out.size
    have hB1 : w.heap.size < wr.heap.size := (Array.getElem?_eq_some_iff.1 hit).1
    by_cases hlt : pos < p.size
    · have hlow := rune_low p pos hlt
      have hhigh := rune_high p pos hlt
      have hfar := decode_far p pos hlt
      obtain ⟨rn, wd, hD⟩ : ∃ rn wd, Utf8.decode p pos = (rn, wd) := ⟨_, _, rfl⟩
      have hnx : ∀ ty, (Instr.next (.pointer (some ⟨w.heap.size, 0, none⟩)) true ty).run Try.prog wr = _ := fun ty => Lib.run_next_any_at wr w.heap.size p pos ty hit hlt
      rw [hD] at hlow hhigh hfar hnx
      simp only at hlow hhigh hfar hnx
      generalize (rn : Int) = R at hlow hhigh hnx
      have hitp := iterPos_of hit
      have hit1 := Lib.iterAt_heap wr w.heap.size p pos (pos + wd) hit
      have hown1 := own_iter9 hown.out hit (pos + wd)
      have hbl1 := Lib.below_iterAt hbl.out (Nat.le_refl _) p (pos + wd)
      have hsz1 : w.heap.size < (wr.iterAt w.heap.size p (pos + wd)).heap.size := by rw [Lib.iterAt_size]; exact hB1
      generalize wr.iterAt w.heap.size p (pos + wd) = W1 at *
      clear hD hbl hown hit
      by_cases hc : bt p pos = 47
      · obtain ⟨e1, rfl⟩ := hlow (by omega)
        have hrn : R = 47 := by omega
        have hrn' : (R == 47) = true := by rw [hrn]; rfl
        have HR := Shut.mk (hrl.out.cut hlt hc)
        have hsl := slice_str p g pos hg (by omega)
        have hne := own_ne9 hown1 hit1
        have HB1 := Shut.mk hbl1
        generalize p.extract g pos = x at *
        clear hlow hhigh hfar hrl hc e1 hrn hbl1
        go_wp2_with (at_builtin; refine wpList_append_own _ rfl _ _ 45 rfl w.heap.size 9 i0 (.string ⟨#[]⟩) 1 16 Try.underlying45 hi hz0 hz1 hz2 rfl (by decide) _ _ _ rfl (hown1.alloc _) ⟨W1.heap.size, 0, none⟩ 1 1 [.string x] rfl rfl (cell_one_new _ _ _) ?c2 ?c3 ?c4 ?c5 ?_)
        case c2 => first | rfl | (intro u hu; simp at hu; subst hu; rfl)
        case c3 => unfold maxLen; omega
        case c4 => omega
        case c5 => first | omega | (simp; omega)
        intro v' w4 hown' hgrow _
        rw [tv_snoc] at hown'
        have Q1 : Shut (w4.ownsRow w.heap.size 9 1 v' (done ++ [x]).length (tv (done ++ [x]))) := ⟨by rw [List.length_append, List.length_singleton]; exact hown'⟩
        have Q2 := Shut.mk ((HB1.out.alloc (by omega) (.cells #[.string x] 9)).grown hgrow (by simp; omega) (fun j hj => (hown1.lt j hj).1))
        have hit4 : w4.heap[w.heap.size]? = some (.stringIter p (pos + 1)) := by
          rw [hgrow.block _ (by simp; omega) hne, Below.heap_alloc _ _ _ (by omega)]
          exact hit1
        clear hown' hgrow hown1 HB1
        go_wp2_with fail
        go_roundw
        case rel => exact ⟨pos + 1, pos + 1, _, v', rfl, by go_num, hit4, by omega, Nat.le_refl _, by rw [List.length_append, List.length_singleton]; omega, HR, Q1, Q2⟩
        case measure => rw [hitp, iterPos_of hit4]; omega
      · have hrn : ¬ R = 47 ∧ pos + wd ≤ p.size ∧ 1 ≤ wd ∧ ∀ d, d < wd → bt p (pos + d) ≠ 47 := by
          by_cases hl : bt p pos < 128
          · obtain ⟨e1, rfl⟩ := hlow hl
            refine ⟨by omega, by omega, by omega, fun d hd => ?_⟩
            have : d = 0 := by omega
            subst this; exact hc
          · have h1 := hhigh (by omega)
            have h2 := hfar (by omega)
            refine ⟨by omega, h2.1, h1.2, fun d hd => ?_⟩
            have := h2.2.2 d hd
            omega
        obtain ⟨h1, h2, h3, h4⟩ := hrn
        have hrn' : (R == 47) = false := by rw [beq_eq_false_iff_ne]; exact h1
        have HR := Shut.mk (hrl.out.step h4)
        clear hlow hhigh hfar hrl hc h4
        go_wp2_with fail
        go_roundw
        case rel => exact ⟨pos + wd, g, done, v, rfl, rfl, hit1, h2, by omega, by omega, HR, ⟨hown1⟩, ⟨hbl1⟩⟩
        case measure => rw [hitp, iterPos_of hit1]; omega
    · have hnx : ∀ ty, (Instr.next (.pointer (some ⟨w.heap.size, 0, none⟩)) true ty).run Try.prog wr = _ := fun ty => Lib.run_next_end_at wr w.heap.size p pos ty hit hlt
      have hfin := hrl.out.fin (by omega)
      have hsl := slice_from p g (by omega)
      have hln : (segs (lb p)).length = done.length + 1 := by
        have := congrArg List.length hfin
        rwa [List.length_map, List.length_append, List.length_singleton] at this
      have HL := Shut.mk hln
      have HF := Shut.mk hfin
      have hown1 := hown.out
      generalize p.extract g p.size = x at *
      clear hrl hfin hln hown
      go_wp2_with (at_builtin; refine wpList_append_own _ rfl _ _ 45 rfl w.heap.size 9 i0 (.string ⟨#[]⟩) 1 16 Try.underlying45 hi hz0 hz1 hz2 rfl (by decide) _ _ _ rfl (hown1.alloc _) ⟨wr.heap.size, 0, none⟩ 1 1 [.string x] rfl rfl (cell_one_new _ _ _) ?c2 ?c3 ?c4 ?c5 ?_)
      case c2 => first | rfl | (intro u hu; simp at hu; subst hu; rfl)
      case c3 => unfold maxLen; omega
      case c4 => omega
      case c5 => first | omega | (simp; omega)
      intro v' w4 hown' hgrow _
      rw [tv_snoc] at hown'
      have Q2 := Shut.mk ((hbl.out.alloc hB (.cells #[.string x] 9)).grown hgrow (by simp; omega) (fun j hj => (hown1.lt j hj).1))
      have Q1 := Shut.mk hown'
      clear hown' hgrow hown1
      go_wp2_with fail
      go_ret
      exact ⟨_, rfl, by rw [HL.out, HF.out]; exact Q1.out, Q2.out⟩
end Go.Proofs.Ytendbipfmgnjkaa
/- StrW: The size of a row of texts. -/
namespace Go.Proofs.Ytendbipfmgnjkaa
set_option maxRecDepth 100000
open Go.RowKit
attribute [local go_sem ↓] Go.wp_at_zero Go.wp_at_succ

end Go.Proofs.Ytendbipfmgnjkaa
/- OffA: Rows of texts that lie anywhere in their block: held against one another, marked, found again. -/
namespace Go.Proofs.Ytendbipfmgnjkaa
set_option maxRecDepth 100000
open Go.RowKit
attribute [local go_sem ↓] Go.wp_at_zero Go.wp_at_succ

/-- Texts that may be written, from a place of a block on. -/
def OCells (w : World) (g off : Nat) (xs : List ByteArray) : Prop :=
  g < w.heap.size ∧ ∀ j, j < xs.length → w.cell? ⟨g, off + j, none⟩ = some (.string (xs.getD j ⟨#[]⟩)) ∧ w.frozen? ⟨g, off + j, none⟩ = false
theorem OCells.below {w w' : World} {g off B : Nat} {xs : List ByteArray} (h : OCells w g off xs) (hb : Below B w w') (hg : g < B) : OCells w' g off xs :=
  ⟨Nat.lt_of_lt_of_le h.1 hb.size, fun j hj => ⟨(hb.cell (p := ⟨g, off + j, none⟩) hg).trans (h.2 j hj).1, (hb.frozen (p := ⟨g, off + j, none⟩) hg).trans (h.2 j hj).2⟩⟩
theorem OCells.block {w w' : World} {g off : Nat} {xs : List ByteArray} (h : OCells w g off xs) (hs : w.heap.size ≤ w'.heap.size) (hb : w'.heap[g]? = w.heap[g]?) : OCells w' g off xs :=
  ⟨Nat.lt_of_lt_of_le h.1 hs, fun j hj => ⟨(World.cell?_of_block (a := ⟨g, off + j, none⟩) hb).trans (h.2 j hj).1, (World.frozen?_of_block (a := ⟨g, off + j, none⟩) hb).trans (h.2 j hj).2⟩⟩
theorem OCells.set {w : World} {g off : Nat} {xs : List ByteArray} (h : OCells w g off xs) (i : Nat) (x : ByteArray) (hi : i < xs.length) : OCells (w.setCell ⟨g, off + i, none⟩ (.string x)) g off (xs.set i x) := by
  refine ⟨by have := h.1; simpa [World.setCell] using this, fun j hj => ?_⟩
  rw [List.length_set] at hj
  refine ⟨?_, (World.frozen?_setCell _ _ _ _).trans (h.2 j hj).2⟩
  by_cases e : j = i
  · subst e
    rw [World.cell?_setCell_same _ _ _ (h.2 j hj).1]
    simp [List.getD, hi]
  · rw [World.cell?_setCell_other _ _ _ _ (by first | (simp; done) | (simp; omega)), (h.2 j hj).1]
    simp [List.getD, Ne.symm e]
theorem OCells.marks {w : World} {g off k n : Nat} {ys : List ByteArray} (h : OCells w g off ys) (hl : ys.length = n) (hy : ∀ t, t < n → ys.getD t ⟨#[]⟩ = mt (k + t)) : OCells w g off (marks k n) := by
  refine ⟨h.1, fun j hj => ?_⟩
  rw [marks_len] at hj
  have := h.2 j (by omega)
  rw [marks_at k n j hj, ← hy j hj]
  exact this
/-- An answer of texts, wherever in its block. -/
def OAns (w : World) (v : Value) (L : List ByteArray) (lo hi : Nat) : Prop := ∃ (a : Option Addr) (cap : Nat), v = .slice a L.length cap ∧ L.length ≤ cap ∧ (L = [] ∨ ∃ g off, a = some ⟨g, off, none⟩ ∧ lo ≤ g ∧ g < hi ∧ OCells w g off L)
theorem OAns.see {w : World} {v : Value} {L : List ByteArray} {lo hi : Nat} (h : OAns w v L lo hi) : SSee w v L lo hi := by
  obtain ⟨a, cap, e, _, h1⟩ := h
  refine ⟨a, cap, e, ?_⟩
  rcases h1 with rfl | ⟨g, off, rfl, q1, q2, hm⟩
  · intro h; simp [tv] at h
  · intro _
    refine ⟨g, off, rfl, q1, q2, hm.1, fun i v hv => ?_⟩
    have hi : i < L.length := by
      have := (List.getElem?_eq_some_iff.1 hv).1
      rwa [tv_len] at this
    rw [tv_get L i hi] at hv
    cases hv
    exact (hm.2 i hi).1
theorem SAns.oans {w : World} {v : Value} {L : List ByteArray} {lo hi : Nat} (h : SAns w v L lo hi) : OAns w v L lo hi := by
  obtain ⟨a, cap, e, hc, h1⟩ := h
  refine ⟨a, cap, e, hc, ?_⟩
  rcases h1 with rfl | ⟨g, rfl, q1, q2, hm⟩
  · exact .inl rfl
  · refine .inr ⟨g, 0, rfl, q1, q2, hm.1, fun j hj => ?_⟩
    rw [Nat.zero_add]
    exact hm.2 j _ (tv_get L j hj)
theorem OAns.form {w : World} {v : Value} {L : List ByteArray} {lo hi : Nat} (h : OAns w v L lo hi) : ∃ a cap, v = .slice a L.length cap := by
  obtain ⟨a, cap, e, _⟩ := h
  exact ⟨a, cap, e⟩
theorem OAns.turned {w w' : World} {v : Value} {L : List ByteArray} {lo hi lo' hi' : Nat} (h : OAns w v L lo hi) (t : Turned w w' lo' hi') (hd : hi ≤ lo' ∨ hi' ≤ lo) : OAns w' v L lo hi := by
  obtain ⟨a, cap, e, hc, h1⟩ := h
  refine ⟨a, cap, e, hc, ?_⟩
  rcases h1 with rfl | ⟨g, off, rfl, q1, q2, hm⟩
  · exact .inl rfl
  · exact .inr ⟨g, off, rfl, q1, q2, hm.block t.size (t.block g hm.1 (by omega))⟩
theorem OAns.below {w w' : World} {v : Value} {L : List ByteArray} {lo hi : Nat} (h : OAns w v L lo hi) (hb : Below w.heap.size w w') : OAns w' v L lo hi := by
  obtain ⟨a, cap, e, hc, h1⟩ := h
  refine ⟨a, cap, e, hc, ?_⟩
  rcases h1 with rfl | ⟨g, off, rfl, q1, q2, hm⟩
  · exact .inl rfl
  · exact .inr ⟨g, off, rfl, q1, q2, hm.below hb hm.1⟩
theorem same_beq (x : ByteArray) : (x.toList == x.toList) = true := by simp
set_option maxHeartbeats 400000 in
theorem eqStringS_off {w : World} {v u : Value} {L : List ByteArray} {lo hi lo' hi' : Nat} (h : SSee w v L lo hi) (k : SSee w u L lo' hi') (hn : L.length ≤ 100000000) : Calls Try.prog 35 #[v, u] w fun e w' => e = .returned (.bool true) ∧ Below w.heap.size w w' := by
  obtain ⟨a, ca, rfl, ha⟩ := h
  obtain ⟨b, cb, rfl, hb⟩ := k
  have HA := Shut.mk (fun hp => units_at ha hp)
  have HB := Shut.mk (fun hp => units_at hb hp)
  obtain ⟨n, hnx⟩ : ∃ n, n = L.length := ⟨_, rfl⟩
  rw [← hnx] at HA HB hn ⊢
  clear ha hb hnx
  have hd : (((n : Int) != (n : Int))) = false := by simp
  go_enter Try.func35, Try.ntmps35
  go_wp2_with fail
  go_loopw [5] (fun i wr => ∃ (k q : Nat), i = .int .i64 k ∧ k ≤ n ∧ wr = w.drewN q) (fun i _ => n - (intOf i).toNat)
  case atStart => exact ⟨0, 0, rfl, Nat.zero_le _, rfl⟩
  case round =>
    obtain ⟨k, q, rfl, hk, rfl⟩ := hrel
    by_cases hlt : k < n
    · obtain ⟨g, o1, rfl, _, hc⟩ := HA.out (by omega)
      obtain ⟨g', o2, rfl, _, hc'⟩ := HB.out (by omega)
      have c1 := hc k hlt
      have c2 := hc' k hlt
      have k0 : (0 : Int) ≤ (k : Int) := by omega
      have k1 : (k : Int) < (n : Int) := by omega
      generalize L.getD k ⟨#[]⟩ = x at c1 c2
      have hxx := same_beq x
      clear hc hc' HA HB
      go_wp2_with fail
      go_quiet (fail)
      go_wp2_with fail
      go_roundw
      case rel => exact ⟨k + 1, q + nq, by go_num, by omega, rfl⟩
      case measure => simp [intOf]; omega
    · go_wp2_with fail
      go_ret
      exact ⟨rfl, ⟨rfl, rfl, rfl, Nat.le_refl _, fun _ _ => rfl⟩⟩
set_option maxHeartbeats 400000 in
theorem heldStringS_off {w : World} {v : Value} {k n lo hi : Nat} (h : SSee w v (marks k n) lo hi) (hk : 0 < k) (hn : k + n ≤ 100000000) :
    Calls Try.prog 44 #[v, .int .i64 k] w fun e w' => e = .returned (.int .i64 (k + n : Nat)) ∧ Below w.heap.size w w' := by
  obtain ⟨a, ca, rfl, ha⟩ := h
  rw [marks_len]
  have HA := Shut.mk (fun hp => units_at ha hp)
  rw [marks_len] at HA
  clear ha
  go_enter Try.func44, Try.ntmps44
  go_wp2_with fail
  go_loopw [1, 5] (fun c i wr => ∃ (j : Nat), i = .int .i64 j ∧ c = .int .i64 (k + j : Nat) ∧ j ≤ n ∧ Below w.heap.size w wr) (fun _ i _ => n - (intOf i).toNat)
  case atStart => exact ⟨0, rfl, rfl, Nat.zero_le _, Below.refl _ _⟩
  case round =>
    obtain ⟨j, rfl, rfl, hj, hb⟩ := hrel
    have hB := hb.size
    by_cases hlt : j < n
    · obtain ⟨g, off, rfl, hg, hc⟩ := HA.out (by omega)
      have c1 := hc j hlt
      rw [marks_at k n j hlt, ← hb.cell (p := ⟨g, off + j, none⟩) hg] at c1
      have j0 : (0 : Int) ≤ (j : Int) := by omega
      have j1 : (j : Int) < (n : Int) := by omega
      clear hc HA
      go_wp2_with fail
      go_region_held3 (fun w' => w'.cell? ⟨g, off + j, none⟩ = some (.string (mt (k + j)))) (first | go_keep | (rw [hb1.cell (p := ⟨g, off + j, none⟩) (by simp; omega)]; assumption)) ((go_at_call 67; refine (markText_any (k + j) _ ?_ ?_).mono ?_; (omega); (omega); rintro e w1 ⟨rfl, hb1⟩))
      all_goals go_wp2_with fail
      exact ⟨⟨j + 1, by go_num, congrArg (Value.int .i64) (by omega), by omega, hb.trans ((Below.drew (Below.refl _ _)).trans (hb1.mono hB))⟩, by simp [intOf]; omega⟩
    · have e : j = n := by omega
      subst e
      go_wp2_with fail
      go_ret
      exact ⟨rfl, hb⟩
set_option maxHeartbeats 400000 in
theorem markStringS_at (g off : Nat) (xs : List ByteArray) (k ca : Nat) (w : World) (ha : OCells w g off xs) (hk : 0 < k) (hn : k + xs.length ≤ 100000000) (hca : xs.length ≤ ca) :
    Calls Try.prog 39 #[.slice (some ⟨g, off, none⟩) xs.length ca, .int .i64 k] w fun e w' => e = .returned (.int .i64 (k + xs.length : Nat)) ∧ OCells w' g off (marks k xs.length) ∧ w.grownBy w' (some g) := by
  obtain ⟨n, hnx⟩ : ∃ n, n = xs.length := ⟨_, rfl⟩
  have HN : Hid (n = xs.length) := hnx
  rw [← hnx]
  rw [← hnx] at hn hca
  clear hnx
  go_enter Try.func39, Try.ntmps39
  go_wp2_with fail
  go_loopw [1, 5] (fun c i wr => ∃ (j : Nat) (ys : List ByteArray), i = .int .i64 j ∧ c = .int .i64 (k + j : Nat) ∧ j ≤ n ∧ ys.length = n ∧ (∀ t, t < j → ys.getD t ⟨#[]⟩ = mt (k + t)) ∧ OCells wr g off ys ∧ w.grownBy wr (some g)) (fun _ i _ => n - (intOf i).toNat)
  case atStart => exact ⟨0, xs, rfl, rfl, Nat.zero_le _, HN.out.symm, fun t ht => by omega, ha, grownBy_below (Below.refl _ _)⟩
  case round =>
    obtain ⟨j, ys, rfl, rfl, hj, hyl, hys, hw, hgr⟩ := hrel
    have HL : Hid (ys.length = n) := hyl
    have HY : Hid _ := hys
    clear hyl hys
    by_cases hlt : j < n
    · have j0 : (0 : Int) ≤ (j : Int) := by omega
      have j1 : (j : Int) < (n : Int) := by omega
      go_wp2_with fail
      refine (markText_any (k + j) _ (by omega) (by omega)).mono ?_
      rintro e w1 ⟨rfl, hb1⟩
      have hw1 := hw.below hb1 hw.1
      have c1 := (hw1.2 j (by have := HL.out; omega)).1
      have c2 := (hw1.2 j (by have := HL.out; omega)).2
      have hset := hw1.set j (mt (k + j)) (by have := HL.out; omega)
      have hgs := grownBy_two hgr (grownBy_two (grownBy_below hb1) (grownBy_setCell w1 g (off + j) (.string (mt (k + j)))))
      clear hw hgr hb1
      go_wp2_with fail
      go_roundw
      case rel => exact ⟨j + 1, _, by go_num, congrArg (Value.int .i64) (by omega), by omega, by rw [List.length_set]; exact HL.out, set_marks HY.out (by have := HL.out; omega), hset, hgs⟩
      case measure => simp [intOf]; omega
    · have e : j = n := by omega
      subst e
      have hfin := hw.marks HL.out HY.out
      go_wp2_with fail
      go_ret
      exact ⟨rfl, hfin, hgr⟩
theorem markStringS_off {w : World} {v : Value} {L : List ByteArray} {lo hi : Nat} (k : Nat) (h : OAns w v L lo hi) (h0 : 0 < k) (hk : k + L.length ≤ 100000000) :
    Calls Try.prog 39 #[v, .int .i64 k] w fun e w' => e = .returned (.int .i64 (k + L.length : Nat)) ∧ OAns w' v (marks k L.length) lo hi ∧ Turned w w' lo hi := by
  obtain ⟨a, cap, rfl, hc, h1⟩ := h
  rcases h1 with rfl | ⟨g, off, rfl, q1, q2, hm⟩
  · refine (markStringS_none a k cap w).mono ?_
    rintro e w' ⟨rfl, rfl⟩
    exact ⟨rfl, ⟨a, cap, rfl, Nat.zero_le _, .inl rfl⟩, Turned.refl _ _ _⟩
  · refine (markStringS_at g off L k cap w hm h0 hk hc).mono ?_
    rintro e w' ⟨rfl, hw, hg⟩
    exact ⟨rfl, ⟨_, cap, by rw [marks_len], by rw [marks_len]; exact hc, .inr ⟨g, off, rfl, q1, q2, hw⟩⟩, Turned.of_grown hg q1 q2⟩
end Go.Proofs.Ytendbipfmgnjkaa
/- GuardA: An append that stands behind a guard which is open. -/
namespace Go.Proofs.Ytendbipfmgnjkaa
set_option maxRecDepth 100000

theorem wpList_append_guard {P : Program} {w : World} {ops : Array Oper} {rest : List Oper} {o : Oper} {a : Act} {Q : Exit → Act → World → Prop} (hgd : Region.wanted o (yielded ops a.tmps) = true) (s x : Operand) (t : TypeId)
    (ho : o.op = .call { callee := .builtin .append, args := #[s, x], argTypes := #[t, t] })
    (base : Nat) (e : TypeId) (i : TypeInfo) (z : Value) (size bytes : Nat) (ht : P.underlying t = some (.slice e)) (hi : P.info? e = some i) (hz : i.zero = some z)
    (hsize : i.size = size) (hby : i.bytes = bytes) (hzs : z.cells.size = size) (hsz : 0 < size)
    (v : Value) (n : Nat) (xs : List Value) (hs : a.eval s = v) (hown : w.ownsRow base e size v n xs)
    (ad : Addr) (m c : Nat) (news : List Value) (hx : a.eval x = .slice (some ad) m c) (hl : news.length = m * size) (hnews : ∀ j u, news[j]? = some u → w.cell? (ad.add j) = some u) (h1 : ∀ u ∈ news, u.oneCell' = true)
    (h63 : n + m ≤ maxLen) (hbytes : (n + m) * bytes ≤ 140737488355328) (hbase : base ≤ w.heap.size)
    (h : ∀ v' w', w'.ownsRow base e size v' (n + m) (xs ++ news) → w.grownBy w' v.ownBlock → wpList P ops Q rest (a.put o.dst v') w') :
    wpList P ops Q (o :: rest) a w := by
  obtain ⟨v', w', hr, h2, h3, h4, h5⟩ := run_append_own_at (P := P) w base t o.type e i z size bytes ht hi hz hsize hby hzs hsz v n xs hown ad m c news hl hnews h1 h63 hbytes hbase
  show if Region.wanted o (yielded ops a.tmps) = true then _ else _
  rw [if_pos hgd]
  left
  unfold Oper.wp execOp
  simp only [ho, resolve, invoke, builtin, Sem.run_bind, Sem.run_pure, Result.andThen_ok, List.map_toArray, List.map_cons, List.map_nil, hs, hx, hr]
  exact h v' w' h2 h3
end Go.Proofs.Ytendbipfmgnjkaa
/- OffB: Rows of texts that the call made, from any place of their block on: made longer; what answers of texts and a flag are. -/
namespace Go.Proofs.Ytendbipfmgnjkaa
set_option maxRecDepth 100000
open Go.RowKit

/-- A text in a slice of which more is there than its length. -/
def CSee (w : World) (v : Value) (L : List ByteArray) (lo hi : Nat) : Prop := ∃ (a : Option Addr) (cap : Nat), v = .slice a L.length cap ∧ L.length ≤ cap ∧ RRow w a (tv L) lo hi
theorem CSee.see {w : World} {v : Value} {L : List ByteArray} {lo hi : Nat} (h : CSee w v L lo hi) : SSee w v L lo hi := by
  obtain ⟨a, cap, e, _, h1⟩ := h
  exact ⟨a, cap, e, h1⟩
theorem OAns.csee {w : World} {v : Value} {L : List ByteArray} {lo hi : Nat} (h : OAns w v L lo hi) : CSee w v L lo hi := by
  obtain ⟨a, cap, e, hr⟩ := h.see
  obtain ⟨a', cap', e', hc, _⟩ := h
  rw [e] at e'
  cases e'
  exact ⟨a, cap, e, hc, hr⟩
/-- A row of texts of the call's own, from any place of its block on. -/
def OwnAt (w : World) (base : Nat) (v : Value) (n : Nat) (L : List ByteArray) : Prop :=
  L.length = n ∧ ((v = .slice none 0 0 ∧ n = 0) ∨ ∃ g off cap, v = .slice (some ⟨g, off, none⟩) n cap ∧ base ≤ g ∧ n ≤ cap ∧ (∀ j, j < cap → (w.cell? ⟨g, off + j, none⟩).isSome = true ∧ w.frozen? ⟨g, off + j, none⟩ = false) ∧ OCells w g off L)
theorem OwnAt.nil (w : World) (base : Nat) : OwnAt w base (.slice none 0 0) 0 [] := ⟨rfl, .inl ⟨rfl, rfl⟩⟩
theorem own_cell1 {w : World} {g : Nat} {cur : Array Value} (hg : w.heap[g]? = some (.cells cur 9 (0, 0))) (j : Nat) (hj : j < cur.size) : (w.cell? ⟨g, j, none⟩).isSome = true ∧ w.frozen? ⟨g, j, none⟩ = false := by
  refine ⟨?_, ?_⟩
  · simp [World.cell?, hg, hj]
  · simp [World.frozen?, hg]
theorem own_tail {w : World} {base g n cap : Nat} {L : List ByteArray} {x : ByteArray} (h : w.ownsRow base 9 1 (.slice (some ⟨g, 0, none⟩) (n + 1) cap) (n + 1) (tv (x :: L))) : OwnAt w base (.slice (some ⟨g, 1, none⟩) n (cap - 1)) n L := by
  have hw := own_wcells h
  have hl := h.1
  rw [tv_len, List.length_cons] at hl
  rcases h.2 with ⟨e, _⟩ | ⟨g', cap', cur, e, hb, hg, hn, _, hs, _⟩
  · cases e
  · cases e
    refine ⟨by omega, .inr ⟨g, 1, cap - 1, rfl, hb, by omega, fun j hj => own_cell1 hg _ (by omega), hw.1, fun j hj => ?_⟩⟩
    have := hw.2 (1 + j) (.string (L.getD j ⟨#[]⟩)) (by rw [Nat.add_comm]; exact tv_get L j hj)
    exact this
theorem own_at {w : World} {base n : Nat} {v : Value} {L : List ByteArray} (h : w.ownsRow base 9 1 v n (tv L)) : OwnAt w base v n L := by
  have hl := h.1
  rw [tv_len] at hl
  rcases h.2 with ⟨e, h0⟩ | ⟨g, cap, cur, rfl, hb, hg, hn, _, hs, _⟩
  · exact ⟨by omega, .inl ⟨e, h0⟩⟩
  · have hw := own_wcells h
    refine ⟨by omega, .inr ⟨g, 0, cap, rfl, hb, hn, fun j hj => ?_, hw.1, fun j hj => ?_⟩⟩
    · rw [Nat.zero_add]; exact own_cell1 hg _ (by omega)
    · rw [Nat.zero_add]; exact hw.2 j _ (tv_get L j hj)
theorem OwnAt.oans {w : World} {base n : Nat} {v : Value} {L : List ByteArray} (h : OwnAt w base v n L) : OAns w v L base w.heap.size := by
  obtain ⟨hl, h | ⟨g, off, cap, e, hb, hn, _, hc⟩⟩ := h
  · obtain ⟨e, h0⟩ := h
    rw [h0] at hl
    rw [List.eq_nil_of_length_eq_zero hl]
    exact ⟨none, 0, e, Nat.le_refl _, .inl rfl⟩
  · exact ⟨_, cap, by rw [hl]; exact e, by omega, .inr ⟨g, off, rfl, hb, hc.1, hc⟩⟩
theorem OwnAt.lt {w : World} {base n : Nat} {v : Value} {L : List ByteArray} (h : OwnAt w base v n L) : ∀ k, v.ownBlock = some k → base ≤ k ∧ k < w.heap.size := by
  intro k hk
  obtain ⟨_, ⟨rfl, _⟩ | ⟨g, off, cap, rfl, hb, _, _, hc⟩⟩ := h
  · cases hk
  · cases hk; exact ⟨hb, hc.1⟩
theorem OwnAt.kept {w w' : World} {base n : Nat} {v : Value} {L : List ByteArray} (h : OwnAt w base v n L) (hs : w.heap.size ≤ w'.heap.size) (hb : ∀ k, v.ownBlock = some k → w'.heap[k]? = w.heap[k]?) : OwnAt w' base v n L := by
  obtain ⟨hl, h0 | ⟨g, off, cap, rfl, hbs, hn, hf, hc⟩⟩ := h
  · exact ⟨hl, .inl h0⟩
  · have e := hb g rfl
    exact ⟨hl, .inr ⟨g, off, cap, rfl, hbs, hn, fun j hj => by rw [World.cell?_of_block (a := ⟨g, off + j, none⟩) e, World.frozen?_of_block (a := ⟨g, off + j, none⟩) e]; exact hf j hj, hc.block hs e⟩⟩
theorem OwnAt.below {w w' : World} {base n : Nat} {v : Value} {L : List ByteArray} (h : OwnAt w base v n L) (hb : Below w.heap.size w w') : OwnAt w' base v n L := h.kept hb.size (fun k hk => hb.block k (h.lt k hk).2)
theorem OwnAt.alloc {w : World} {base n : Nat} {v : Value} {L : List ByteArray} (h : OwnAt w base v n L) (o : Obj) : OwnAt (w.alloc o) base v n L := h.below ((Below.refl _ _).alloc (Nat.le_refl _) _)
theorem isSome_set {w : World} {a p : Addr} {x : Value} (h : (w.cell? p).isSome = true) : ((w.setCell a x).cell? p).isSome = true := by
  obtain ⟨u, hu⟩ := Option.isSome_iff_exists.1 h
  by_cases e : p = a
  · subst e
    rw [World.cell?_setCell_same _ _ _ hu]; rfl
  · rw [World.cell?_setCell_other _ _ _ _ (Ne.symm e)]; exact h
theorem OCells.more {w : World} {g off : Nat} {L : List ByteArray} {x : ByteArray} (h : OCells w g off L) (hc : (w.cell? ⟨g, off + L.length, none⟩).isSome = true) (hf : w.frozen? ⟨g, off + L.length, none⟩ = false) : OCells (w.setCell ⟨g, off + L.length, none⟩ (.string x)) g off (L ++ [x]) := by
  refine ⟨by have := h.1; simpa [World.setCell] using this, fun j hj => ?_⟩
  rw [List.length_append, List.length_singleton] at hj
  obtain ⟨u, hu⟩ := Option.isSome_iff_exists.1 hc
  by_cases e : j = L.length
  · subst e
    refine ⟨?_, (World.frozen?_setCell _ _ _ _).trans hf⟩
    rw [World.cell?_setCell_same _ _ _ hu]
    simp [List.getD]
  · have hj' : j < L.length := by omega
    refine ⟨?_, (World.frozen?_setCell _ _ _ _).trans (h.2 j hj').2⟩
    rw [World.cell?_setCell_other _ _ _ _ (fun q => e (by have := congrArg Addr.off q; simp at this; omega)), (h.2 j hj').1]
    simp [List.getD, List.getElem?_append_left hj']
theorem grow_none {w w' : World} {r : Option Nat} (h : w.grownBy w' none) : w.grownBy w' r := ⟨h.os, h.tape, h.output, h.size, fun k hk _ => h.block k hk (by simp)⟩
theorem own_mono {w : World} {B B' n t : Nat} {v : Value} {L : List Value} (h : w.ownsRow B t 1 v n L) (hb : B' ≤ B) : w.ownsRow B' t 1 v n L :=
  ⟨h.1, h.2.imp id fun ⟨g, cap, cur, h1, h2, h3⟩ => ⟨g, cap, cur, h1, Nat.le_trans hb h2, h3⟩⟩
theorem run_append_off {w : World} {base n : Nat} {v : Value} {L : List ByteArray} (hown : OwnAt w base v n L) (ty : TypeId) (i : TypeInfo) (hi : Try.prog.info? 9 = some i) (hz : i.zero = some (.string ⟨#[]⟩)) (hsize : i.size = 1) (hby : i.bytes = 16)
    (ad : Addr) (c : Nat) (x : ByteArray) (hx : w.cell? (ad.add 0) = some (.string x)) (h63 : n + 1 ≤ 1000000) (hbase : base ≤ w.heap.size) :
    ∃ v' w', (Builtin.append_ #[45, 45] ty #[v, .slice (some ad) 1 c]).run Try.prog w = .ok v' w' ∧ OwnAt w' base v' (n + 1) (L ++ [x]) ∧ w.grownBy w' v.ownBlock := by
  have hnews : ∀ (j : Nat) u, [Value.string x][j]? = some u → w.cell? (ad.add j) = some u := fun j u hu => by
    cases j with
    | zero => cases hu; exact hx
    | succ j => cases hu
  have hone : ∀ u ∈ [Value.string x], u.oneCell' = true := fun u hu => by simp at hu; subst hu; rfl
  obtain ⟨hl, ⟨rfl, h0⟩ | ⟨g, off, cap, rfl, hb, hn, hf, hc⟩⟩ := hown
  · subst h0
    obtain ⟨v', w', hr, h2, h3, _, _⟩ := run_append_own_at (P := Try.prog) w base 45 ty 9 i (.string ⟨#[]⟩) 1 16 Try.underlying45 hi hz hsize hby rfl (by decide) (.slice none 0 0) 0 [] ⟨rfl, .inl ⟨rfl, rfl⟩⟩ ad 1 c [.string x] rfl hnews hone (by unfold maxLen; omega) (by omega) hbase
    refine ⟨v', w', hr, ?_, h3⟩
    rw [List.eq_nil_of_length_eq_zero hl]
    exact own_at h2
  · by_cases hr : n + 1 ≤ cap
    · have hcc := hf n (by omega)
      refine ⟨_, _, run_append_room_cells w (P := Try.prog) 45 ty 9 i Try.underlying45 hi g off n cap ad 1 c [.string x] (by rw [hsize]; rfl) hnews hone hr ?_ ?_, ?_, ?_⟩
      · intro j hj
        have : j = 0 := by simpa using hj
        subst this
        rw [hsize, Nat.mul_one, Nat.add_zero]
        exact hcc.1
      · intro j hj
        have : j = 0 := by simpa using hj
        subst this
        rw [hsize, Nat.mul_one, Nat.add_zero]
        exact hcc.2
      · rw [hsize, Nat.mul_one]
        refine ⟨by simp [hl], .inr ⟨g, off, cap, rfl, hb, hr, fun j hj => ⟨?_, ?_⟩, ?_⟩⟩
        · exact isSome_set (hf j hj).1
        · exact (World.frozen?_setCell _ _ _ _).trans (hf j hj).2
        · have := hc.more (x := x) (by rw [hl]; exact hcc.1) (by rw [hl]; exact hcc.2)
          rw [hl] at this
          exact this
      · exact grownBy_setCell _ _ _ _
    · have holds : ∀ (j : Nat) u, (tv L)[j]? = some u → w.cell? ((⟨g, off, none⟩ : Addr).add j) = some u := fun j u hu => by
        have hj : j < L.length := by
          have := (List.getElem?_eq_some_iff.1 hu).1
          rwa [tv_len] at this
        rw [tv_get L j hj] at hu
        cases hu
        rw [Addr.add_lit]
        exact (hc.2 j hj).1
      obtain ⟨v', w', hrun, r1, r2⟩ := run_append_arg_grows w (P := Try.prog) 45 ty 9 i (.string ⟨#[]⟩) 1 16 Try.underlying45 hi hz hsize hby rfl (by decide) ⟨g, off, none⟩ n cap (tv L) (by rw [tv_len, hl, Nat.mul_one]) holds ad 1 c [.string x] rfl hnews (by omega) (by unfold maxLen; omega) (by omega)
      rw [tv_snoc] at r1
      exact ⟨v', w', hrun, own_at (own_mono r1 hbase), grow_none r2⟩
theorem wpList_append_off {w : World} {ops : Array Oper} {rest : List Oper} {o : Oper} {a : Act} {Q : Exit → Act → World → Prop} (hgd : Region.wanted o (yielded ops a.tmps) = true) (s x : Operand)
    (ho : o.op = .call { callee := .builtin .append, args := #[s, x], argTypes := #[45, 45] })
    (base : Nat) (i : TypeInfo) (hi : Try.prog.info? 9 = some i) (hz : i.zero = some (.string ⟨#[]⟩)) (hsize : i.size = 1) (hby : i.bytes = 16)
    (v : Value) (n : Nat) (L : List ByteArray) (hs : a.eval s = v) (hown : OwnAt w base v n L)
    (ad : Addr) (c : Nat) (t : ByteArray) (hx : a.eval x = .slice (some ad) 1 c) (hc : w.cell? (ad.add 0) = some (.string t)) (h63 : n + 1 ≤ 1000000) (hbase : base ≤ w.heap.size)
    (h : ∀ v' w', OwnAt w' base v' (n + 1) (L ++ [t]) → w.grownBy w' v.ownBlock → wpList Try.prog ops Q rest (a.put o.dst v') w') :
    wpList Try.prog ops Q (o :: rest) a w := by
  obtain ⟨v', w', hr, h2, h3⟩ := run_append_off hown o.type i hi hz hsize hby ad c t hc h63 hbase
  show if Region.wanted o (yielded ops a.tmps) = true then _ else _
  rw [if_pos hgd]
  left
  unfold Oper.wp execOp
  simp only [ho, resolve, invoke, builtin, Sem.run_bind, Sem.run_pure, Result.andThen_ok, List.map_toArray, List.map_cons, List.map_nil, hs, hx, hr]
  exact h v' w' h2 h3
/-- What an answer of texts and a flag is, in a row that may be made longer, wherever in its block. -/
def QPost (R : List ByteArray × Bool) (w : World) (e : Ending) (w' : World) : Prop := ∃ v, e = .returned (.tuple #[v, .bool R.2]) ∧ OwnAt w' w.heap.size v R.1.length R.1 ∧ Below w.heap.size w w'
theorem QPost.none {R : List ByteArray × Bool} {b : Bool} {w w' : World} (h : R = ([], b)) (hb : Below w.heap.size w w') : QPost R w (.returned (.tuple #[.slice none 0 0, .bool b])) w' := by
  unfold QPost
  rw [h]
  exact ⟨_, rfl, OwnAt.nil _ _, hb⟩
end Go.Proofs.Ytendbipfmgnjkaa
/- PaK: The program's own SplitPath. -/
namespace Go.Proofs.Ytendbipfmgnjkaa
set_option maxRecDepth 100000
open Go.RowKit
open Go.PlainAid (bt)
attribute [local go_sem ↓] Go.wp_at_zero Go.wp_at_succ

theorem split_parts {p x : ByteArray} {L : List ByteArray} (hp : p ≠ ⟨#[47]⟩) (h : (segs (lb p)).map ba = x :: L) : splitB p = if x.size = 0 ∧ 1 ≤ L.length ∧ L.length ≤ 4 ∧ (∀ s ∈ L, nameB s = true) then (L, true) else ([], false) := by
  unfold splitB
  cases e : lb p with
  | nil =>
    rw [e] at h
    simp only [segs, List.map_cons, List.map_nil, List.cons.injEq] at h
    rw [← h.2, if_neg (fun q => by have := q.2.1; simp at this)]
    rfl
  | cons c r =>
    rw [e] at h
    by_cases hc : c = 47
    · subst hc
      have hr : r ≠ [] := fun q => by
        subst q
        apply hp
        have := congrArg ba e
        rwa [ba_lb] at this
      have e1 : segs (47 :: r) = [] :: segs r := by simp [segs]
      rw [e1, List.map_cons, List.cons.injEq] at h
      obtain ⟨h1, h2⟩ := h
      have hx : x.size = 0 := by rw [← h1]; rfl
      have hlen : L.length = (segs r).length := by rw [← h2, List.length_map]
      have hpos : 1 ≤ L.length := by
        rw [hlen]
        exact List.length_pos_iff.2 (segs_ne r)
      have hall : (∀ s ∈ L, nameB s = true) ↔ (segs r).all nameL = true := by
        rw [← h2, List.all_eq_true]
        constructor
        · intro q l hl
          have := q (ba l) (List.mem_map.2 ⟨l, hl, rfl⟩)
          unfold nameB at this
          rwa [lb_ba] at this
        · intro q s hs
          obtain ⟨l, hl, rfl⟩ := List.mem_map.1 hs
          unfold nameB
          rw [lb_ba]
          exact q l hl
      have es : splitP (47 :: r) = if (segs r).all nameL = true ∧ (segs r).length ≤ 4 then (segs r, true) else ([], false) := by
        unfold splitP
        simp only
        rw [if_pos trivial, if_neg hr]
      rw [es]
      by_cases q : (segs r).all nameL = true ∧ (segs r).length ≤ 4
      · rw [if_pos q, if_pos ⟨hx, hpos, by omega, hall.2 q.1⟩]
        simp only
        rw [h2]
      · rw [if_neg q, if_neg (fun k => q ⟨hall.1 k.2.2.2, by have := k.2.2.1; omega⟩)]
        rfl
    · have e2 : splitP (c :: r) = ([], false) := by unfold splitP; exact if_neg hc
      rw [e2]
      obtain ⟨y, t, ht⟩ : ∃ y t, segs r = y :: t := by
        cases q : segs r with
        | nil => exact absurd q (segs_ne r)
        | cons y t => exact ⟨y, t, rfl⟩
      rw [segs_cons hc ht, List.map_cons, List.cons.injEq] at h
      have hx : x.size ≠ 0 := by
        rw [← h.1]
        show (c :: y).toArray.size ≠ 0
        simp
      rw [if_neg (fun k => hx k.1)]
      rfl
theorem parts_ne (p : ByteArray) : ∃ x L, (segs (lb p)).map ba = x :: L := by
  cases q : segs (lb p) with
  | nil => exact absurd q (segs_ne _)
  | cons y t => exact ⟨ba y, t.map ba, rfl⟩
theorem strClone9 (s : ByteArray) (w : World) (h : s.size ≤ 281474976710656) : Calls Try.prog 49 #[.string s] w fun e w' => e = .returned (.string s) ∧ Below w.heap.size w w' := by
  go_enter Try.func49, Try.ntmps49
  go_wp2_with fail
  refine (Try.stringslite_Clone s _ h).mono ?_
  rintro e w1 ⟨rfl, hb⟩
  go_wp2_with fail
  go_ret
  exact ⟨rfl, hb⟩
theorem OwnAt.same {w : World} {base g off n cap k : Nat} {L : List ByteArray} (h : OwnAt w base (.slice (some ⟨g, off, none⟩) n cap) n L) (hk : k < L.length) : OwnAt (w.setCell ⟨g, off + k, none⟩ (.string (L.getD k ⟨#[]⟩))) base (.slice (some ⟨g, off, none⟩) n cap) n L := by
  obtain ⟨hl, h | ⟨g', off', cap', e, hb, hn, hf, hc⟩⟩ := h
  · cases h.1
  · cases e
    have hs := hc.set k (L.getD k ⟨#[]⟩) hk
    have e2 : L.set k (L.getD k ⟨#[]⟩) = L := by
      have : L.getD k ⟨#[]⟩ = L[k] := by simp [List.getD, hk]
      rw [this]
      exact List.set_getElem_self hk
    rw [e2] at hs
    exact ⟨hl, .inr ⟨g, off, cap, rfl, hb, hn, fun j hj => ⟨isSome_set (hf j hj).1, (World.frozen?_setCell _ _ _ _).trans (hf j hj).2⟩, hs⟩⟩
theorem seg_small (p : ByteArray) : ∀ s ∈ (segs (lb p)).map ba, s.size ≤ p.size := by
  have h : ∀ (l : List UInt8), ∀ t ∈ segs l, t.length ≤ l.length := by
    intro l
    induction l with
    | nil => intro t ht; simp [segs] at ht; subst ht; simp
    | cons c r ih =>
      intro t ht
      unfold segs at ht
      split at ht
      · rcases List.mem_cons.1 ht with rfl | q
        · simp
        · have := ih t q; simp; omega
      · split at ht
        · rename_i q; exact absurd q (segs_ne r)
        · rename_i y u q
          rcases List.mem_cons.1 ht with rfl | k
          · have := ih y (by rw [q]; simp); simp; omega
          · have := ih t (by rw [q]; simp [k]); simp; omega
  intro s hs
  obtain ⟨l, hl, rfl⟩ := List.mem_map.1 hs
  exact h _ l hl
set_option maxRecDepth 100000 in
set_option maxHeartbeats 2000000 in
theorem implSplitPath (p : ByteArray) (w : World) (hs : p.size ≤ 1048576) : Calls Try.prog 100 #[.string p] w fun e w' => QPost (splitB p) w e w' := by
  by_cases h1 : p = ⟨#[47]⟩
  · have HE := Shut.mk (splitB_one h1)
    have h1' : (p.toList == [47]) = true := by rw [h1, Go.ByteArray.toList_eq]; rfl
    have HP := Shut.mk h1
    clear h1
    go_enter Try.func100, Try.ntmps100
    go_wp2_with fail
    go_ret2
    exact QPost.none HE.out (Below.refl _ _)
  have h1' : (p.toList == [47]) = false := by
    rw [beq_eq_false_iff_ne]
    intro e
    rw [Go.ByteArray.toList_eq] at e
    exact h1 (ByteArray.ext (Array.toList_inj.1 e))
  have HB0 := Shut.mk (fun W => implBetween p W hs)
  obtain ⟨x, L, hxl⟩ := parts_ne p
  have hsm := seg_small p
  have hsp := split_parts h1 hxl
  have hln : (segs (lb p)).length = L.length + 1 := by
    have := congrArg List.length hxl
    rwa [List.length_map, List.length_cons] at this
  rw [hln, hxl] at HB0
  rw [hxl] at hsm
  have HSM := Shut.mk hsm
  have HSP := Shut.mk hsp
  clear h1 hxl hsm hsp hln
  obtain ⟨n, hn⟩ : ∃ n, n = L.length := ⟨_, rfl⟩
  rw [← hn] at HB0 HSP
  have HN := Shut.mk hn
  clear hn
  go_enter Try.func100, Try.ntmps100
  go_wp2_with fail
  refine (HB0.out _).mono ?_
  rintro e w1 ⟨v, rfl, hown, hb⟩
  obtain ⟨g, cap, rfl, hcap⟩ := own_some9 hown (by omega)
  have HB := Shut.mk hb
  have hw := own_wcells hown
  have c0 := (hw.2 0 (.string x) rfl).1
  have HOT := Shut.mk (own_tail hown)
  have z1 := hb.size
  clear hb hw hown HB0
  by_cases hx : x.size = 0
  case neg =>
    have hx1 : (x.toList != []) = true := by
      rw [bne_iff_ne]
      intro q
      rw [Go.ByteArray.toList_eq] at q
      exact hx (show x.data.size = 0 by rw [← Array.length_toList, q]; rfl)
    have hx2 : ¬ x.toList = [] := bne_iff_ne.1 hx1
    have HE : Shut (splitB p = ([], false)) := ⟨by rw [HSP.out, if_neg (fun q => hx q.1)]⟩
    clear HSP hx
    by_cases hc1 : cap = 1
    all_goals
      go_wp2_with fail
      go_quiet (fail)
      go_wp2_with fail
      go_ret2
      exact QPost.none HE.out (below_drewN HB.out _)
  have hx1 : (x.toList != []) = false := by
    rw [bne_eq_false_iff_eq, Go.ByteArray.toList_eq]
    exact List.eq_nil_of_length_eq_zero (by rw [Array.length_toList]; exact hx)
  have hx2 : x.toList = [] := by rwa [bne_eq_false_iff_eq] at hx1
  by_cases hn1 : (n : Int) < 1
  · have HE : Shut (splitB p = ([], false)) := ⟨by rw [HSP.out, if_neg (fun q => by have := q.2.1; omega)]⟩
    have hn5 : ¬ (1 : Int) ≤ (n : Int) := by omega
    clear HSP hx
    by_cases hc1 : cap = 1
    all_goals
      go_wp2_with fail
      go_quiet (fail)
      go_wp2_with fail
      go_ret2
      exact QPost.none HE.out (below_drewN HB.out _)
  by_cases hn4 : (4 : Int) < (n : Int)
  · have HE : Shut (splitB p = ([], false)) := ⟨by rw [HSP.out, if_neg (fun q => by have := q.2.2.1; omega)]⟩
    have hn5 : (1 : Int) ≤ (n : Int) := by omega
    have hn6 : ¬ (n : Int) ≤ 4 := by omega
    clear HSP hx
    by_cases hc1 : cap = 1
    all_goals
      go_wp2_with fail
      go_quiet (fail)
      go_wp2_with fail
      go_ret2
      exact QPost.none HE.out (below_drewN HB.out _)
  have hc1 : ¬ cap = 1 := by omega
  have hn5 : (1 : Int) ≤ (n : Int) := by omega
  have hn6 : (n : Int) ≤ 4 := by omega
  have HE : Shut (splitB p = if (∀ s ∈ L, nameB s = true) then (L, true) else ([], false)) := ⟨by
    rw [HSP.out]
    by_cases q : ∀ s ∈ L, nameB s = true
    · rw [if_pos q, if_pos ⟨hx, by omega, by omega, q⟩]
    · rw [if_neg q, if_neg (fun k => q k.2.2.2)]⟩
  clear HSP hx
  go_wp2_with fail
  go_quiet (fail)
  go_wp2_with fail
  go_loopw [32] (fun i wr => ∃ (k : Nat), i = .int .i64 k ∧ k ≤ n ∧ Shut (∀ j, j < k → nameB (L.getD j ⟨#[]⟩) = true) ∧ Shut (OwnAt wr w.heap.size (.slice (some ⟨g, 1, none⟩) n (cap - 1)) n L) ∧ Shut (Below w.heap.size w wr)) (fun i _ => n - (intOf i).toNat)
  case atStart => exact ⟨0, rfl, Nat.zero_le _, ⟨fun j hj => by omega⟩, ⟨HOT.out.kept (Nat.le_refl _) (fun _ _ => rfl)⟩, ⟨below_drewN HB.out _⟩⟩
  case round =>
    clear HOT HB c0
    obtain ⟨k, rfl, hk, hall, hown, hbl⟩ := hrel
    by_cases hlt : k < n
    · have hkL : k < L.length := by have := HN.out; omega
      obtain ⟨_, q | ⟨g', off', cap', e', hgb, hnc, hf, hoc⟩⟩ := hown.out
      · cases q.1
      cases e'
      have c1 := (hoc.2 k hkL).1
      have c2 := (hoc.2 k hkL).2
      have hg := hoc.1
      have hB := hbl.out.size
      have k0 : (0 : Int) ≤ (k : Int) := by omega
      have k1 : (k : Int) < (n : Int) := by omega
      have hmem : L.getD k ⟨#[]⟩ ∈ L := by simp [List.getD, hkL]
      have hsz : (L.getD k ⟨#[]⟩).size ≤ 1048576 := by have := HSM.out _ (List.mem_cons_of_mem x hmem); omega
      have HNA := Shut.mk (fun W => implNameOk (L.getD k ⟨#[]⟩) W hsz)
      have HCL := Shut.mk (fun W => strClone9 (L.getD k ⟨#[]⟩) W (by omega))
      clear hf hoc
      cases hnm : nameB (L.getD k ⟨#[]⟩) with
      | false =>
        have HF : Shut (splitB p = ([], false)) := ⟨by rw [HE.out, if_neg (fun q => by have := q _ hmem; rw [hnm] at this; cases this)]⟩
        rw [hnm] at HNA
        generalize L.getD k ⟨#[]⟩ = y at *
        clear hnm hmem HCL HE
        go_wp2_with fail
        refine (HNA.out _).mono ?_
        rintro e w2 ⟨rfl, hb2⟩
        have HB2 := Shut.mk (hbl.out.trans (hb2.mono hbl.out.size))
        clear hb2
        go_wp2_with fail
        go_ret2
        exact QPost.none HF.out HB2.out
      | true =>
        have HA : Shut (∀ j, j < k + 1 → nameB (L.getD j ⟨#[]⟩) = true) := ⟨fun j hj => by
          by_cases e : j = k
          · subst e; exact hnm
          · exact hall.out j (by omega)⟩
        have HSA := Shut.mk (fun W (q : OwnAt W w.heap.size (.slice (some ⟨g, 1, none⟩) n (cap - 1)) n L) => q.same hkL)
        rw [hnm] at HNA
        generalize L.getD k ⟨#[]⟩ = y at *
        clear hnm hmem HE hall
        go_wp2_with fail
        refine (HNA.out _).mono ?_
        rintro e w2 ⟨rfl, hb2⟩
        have HB2 := Shut.mk (hbl.out.trans (hb2.mono hbl.out.size))
        have HO2 := Shut.mk (hown.out.below hb2)
        rw [← hb2.cell (p := ⟨g, 1 + k, none⟩) hg] at c1
        rw [← hb2.frozen (p := ⟨g, 1 + k, none⟩) hg] at c2
        have hg2 := Nat.lt_of_lt_of_le hg hb2.size
        clear hb2 HNA hown hbl
        go_wp2_with fail
        refine (HCL.out _).mono ?_
        rintro e w3 ⟨rfl, hb3⟩
        have HB3 := Shut.mk (HB2.out.trans (hb3.mono HB2.out.size))
        have HO3 := Shut.mk (HO2.out.below hb3)
        rw [← hb3.cell (p := ⟨g, 1 + k, none⟩) hg2] at c1
        rw [← hb3.frozen (p := ⟨g, 1 + k, none⟩) hg2] at c2
        have hg3 := Nat.lt_of_lt_of_le hg2 hb3.size
        clear hb3 HCL HO2 HB2
        have HO4 := Shut.mk (HSA.out _ HO3.out)
        have HB4 := Shut.mk (HB3.out.grown (grownBy_setCell w3 g (1 + k) (.string y)) HB3.out.size (fun j hj => by cases hj; exact hgb))
        clear HO3 HB3 HSA
        go_wp2_with fail
        go_roundw
        case rel => exact ⟨k + 1, by go_num, by omega, HA, HO4, HB4⟩
        case measure => simp [intOf]; omega
    · have HF : Shut (splitB p = (L, true)) := ⟨by
        rw [HE.out, if_pos (fun s hs => ?_)]
        obtain ⟨j, hj, rfl⟩ := List.mem_iff_getElem.1 hs
        have := hall.out j (by have := HN.out; omega)
        simpa [List.getD, hj] using this⟩
      have k1 : ¬ (k : Int) < (n : Int) := by omega
      clear hall HE
      go_wp2_with fail
      go_ret2
      unfold QPost
      rw [HF.out]
      exact ⟨_, rfl, by rw [← HN.out]; exact hown.out, hbl.out⟩
end Go.Proofs.Ytendbipfmgnjkaa
/- LawPth: The walks of the exact laws over paths, over what is told of the program's own functions at every argument (first written by gen/mklawpath.py). -/
namespace Go.Proofs.Ytendbipfmgnjkaa
set_option maxRecDepth 100000
open Go.RowKit
attribute [local irreducible] nameB splitB joinB parentB tsum

/-- What an answer of texts and a flag is. -/
def TPost9 (R : List ByteArray × Bool) (w : World) (e : Ending) (w' : World) : Prop := ∃ v, e = .returned (.tuple #[v, .bool R.2]) ∧ OAns w' v R.1 w.heap.size w'.heap.size ∧ Below w.heap.size w w'
theorem OPost.tp {R : List ByteArray × Bool} {w w' : World} {e : Ending} (h : OPost R w e w') : TPost9 R w e w' := by
  obtain ⟨v, he, ho, hb⟩ := h
  exact ⟨v, he, (own_sans rfl ho).oans, hb⟩
theorem QPost.tp {R : List ByteArray × Bool} {w w' : World} {e : Ending} (h : QPost R w e w') : TPost9 R w e w' := by
  obtain ⟨v, he, ho, hb⟩ := h
  exact ⟨v, he, ho.oans, hb⟩
theorem same_toList (x : ByteArray) : (x.toList != x.toList) = false := by simp
end Go.Proofs.Ytendbipfmgnjkaa
/- Draw: The draws of the models: a cursor over the bytes of a code. What is drawn lies within its bounds; nothing but the cursor's own block is turned. -/
namespace Go.Proofs.Ytendbipfmgnjkaa
set_option maxRecDepth 100000
open Go.RowKit
attribute [local go_sem ↓] Go.wp_at_zero Go.wp_at_succ

/-- The code that is drawn from: a slice of bytes that came in, below block B. -/
def CodeAt (w : World) (B : Nat) (a : Option Addr) (len : Nat) : Prop :=
  len ≤ 1048576 ∧ (0 < len → ∃ b off, a = some ⟨b, off, none⟩ ∧ b < B ∧ ∀ j, j < len → ∃ x : Int, w.cell? ⟨b, off + j, none⟩ = some (.int .u8 x) ∧ 0 ≤ x ∧ x ≤ 255)
/-- The cursor in block g. -/
def Cur (w : World) (g B : Nat) (a : Option Addr) (len cap : Nat) : Prop :=
  B ≤ g ∧ g < w.heap.size ∧ CodeAt w B a len ∧ w.cell? ⟨g, 0, none⟩ = some (.slice a len cap) ∧
  (∃ i : Nat, w.cell? ⟨g, 1, none⟩ = some (.int .i64 i) ∧ i ≤ len) ∧ (∃ h : Int, w.cell? ⟨g, 2, none⟩ = some (.int .i64 h)) ∧
  (∀ j, j < 3 → w.frozen? ⟨g, j, none⟩ = false)
def BytePost (w : World) (g B : Nat) (a : Option Addr) (len cap : Nat) (e : Ending) (w' : World) : Prop :=
  ∃ x : Int, e = .returned (.int .i64 x) ∧ 0 ≤ x ∧ x ≤ 255 ∧ Cur w' g B a len cap ∧ w.grownBy w' (some g)

theorem and255 (n : Int) : 0 ≤ bits .and .i64 n 255 ∧ bits .and .i64 n 255 ≤ 255 := by
  have h255 : (BitVec.ofInt 64 255).toNat = 2 ^ 8 - 1 := by decide
  have key : (BitVec.ofInt 64 n &&& BitVec.ofInt 64 255).toNat = (n % ((2 ^ 64 : Nat) : Int)).toNat % 2 ^ 8 := by
    rw [BitVec.toNat_and, BitVec.toNat_ofInt, h255, Nat.and_two_pow_sub_one_eq_mod]
  have e : bits .and .i64 n 255 = n % 256 := by
    show IntKind.i64.wrap ((BitVec.ofInt 64 n &&& BitVec.ofInt 64 255).toNat : Nat) = n % 256
    rw [key, IntKind.wrap_i64]
    omega
  rw [e]; omega
theorem gb_set (w : World) (g i : Nat) (v : Value) : w.grownBy (w.setCell ⟨g, i, none⟩ v) (some g) :=
  ⟨rfl, rfl, rfl, by simp [World.setCell], fun k _ hk => Below.heap_setCell _ _ _ _ (fun e => hk (by rw [e]))⟩
theorem gb_drewN (w : World) (q : Nat) (row : Option Nat) : w.grownBy (w.drewN q) row := ⟨rfl, rfl, rfl, Nat.le_refl _, fun _ _ _ => rfl⟩
theorem gb_two {a b c : World} {row : Option Nat} (h : a.grownBy b row) (k : b.grownBy c row) : a.grownBy c row :=
  ⟨k.os.trans h.os, k.tape.trans h.tape, k.output.trans h.output, Nat.le_trans h.size k.size, fun i hi hn => (k.block i (Nat.lt_of_lt_of_le hi h.size) hn).trans (h.block i hi hn)⟩
theorem gb_below {w w' : World} {row : Option Nat} (h : Below w.heap.size w w') : w.grownBy w' row := ⟨h.os, h.tape, h.output, h.size, fun k hk _ => h.block k hk⟩
theorem below_gb {w w' : World} {g B : Nat} (h : w.grownBy w' (some g)) (hB : B ≤ g) (hs : B ≤ w.heap.size) : Below B w w' :=
  ⟨h.os, h.tape, h.output, h.size, fun k hk => h.block k (by omega) (by simp; omega)⟩
theorem CodeAt.gb {w w' : World} {B g len : Nat} {a : Option Addr} (h : CodeAt w B a len) (hg : w.grownBy w' (some g)) (hB : B ≤ g) : CodeAt w' B a len := by
  refine ⟨h.1, fun hl => ?_⟩
  obtain ⟨b, off, rfl, hb, hx⟩ := h.2 hl
  refine ⟨b, off, rfl, hb, fun j hj => ?_⟩
  obtain ⟨x, hc, h0, h1⟩ := hx j hj
  exact ⟨x, hg.cell hc (by simp; omega), h0, h1⟩
theorem CodeAt.below {w w' : World} {B C len : Nat} {a : Option Addr} (h : CodeAt w B a len) (hb : Below C w w') (hC : B ≤ C) : CodeAt w' B a len := by
  refine ⟨h.1, fun hl => ?_⟩
  obtain ⟨b, off, rfl, hlt, hx⟩ := h.2 hl
  refine ⟨b, off, rfl, hlt, fun j hj => ?_⟩
  obtain ⟨x, hc, h0, h1⟩ := hx j hj
  exact ⟨x, (hb.cell (p := ⟨b, off + j, none⟩) (Nat.lt_of_lt_of_le hlt hC)).trans hc, h0, h1⟩
/-- New blocks, and what turns none of the cursor's: the cursor stands. -/
theorem Cur.below {w w' : World} {g B len cap : Nat} {a : Option Addr} (h : Cur w g B a len cap) (hb : Below w.heap.size w w') : Cur w' g B a len cap := by
  obtain ⟨hB, hg, hcode, c0, ⟨i, c1, hi⟩, ⟨k, c2⟩, hf⟩ := h
  exact ⟨hB, Nat.lt_of_lt_of_le hg hb.size, hcode.below hb (by omega), (hb.cell (p := ⟨g, 0, none⟩) hg).trans c0, ⟨i, (hb.cell (p := ⟨g, 1, none⟩) hg).trans c1, hi⟩, ⟨k, (hb.cell (p := ⟨g, 2, none⟩) hg).trans c2⟩,
    fun j hj => (hb.frozen (p := ⟨g, j, none⟩) hg).trans (hf j hj)⟩
theorem Cur.seth {w : World} {g B len cap : Nat} {a : Option Addr} (h : Cur w g B a len cap) (k : Int) : Cur (w.setCell ⟨g, 2, none⟩ (.int .i64 k)) g B a len cap := by
  obtain ⟨hB, hg, hcode, c0, ⟨i, c1, hi⟩, ⟨k', c2⟩, hf⟩ := h
  exact ⟨hB, by simpa [World.setCell] using hg, hcode.gb (gb_set _ _ _ _) hB, (World.cell?_setCell_other _ _ _ _ (by simp)).trans c0, ⟨i, (World.cell?_setCell_other _ _ _ _ (by simp)).trans c1, hi⟩, ⟨k, World.cell?_setCell_same _ _ _ c2⟩,
    fun j hj => (World.frozen?_setCell _ _ _ _).trans (hf j hj)⟩
theorem Cur.seti {w : World} {g B len cap : Nat} {a : Option Addr} (h : Cur w g B a len cap) (i : Nat) (hi : i ≤ len) : Cur (w.setCell ⟨g, 1, none⟩ (.int .i64 i)) g B a len cap := by
  obtain ⟨hB, hg, hcode, c0, ⟨i', c1, _⟩, ⟨k, c2⟩, hf⟩ := h
  exact ⟨hB, by simpa [World.setCell] using hg, hcode.gb (gb_set _ _ _ _) hB, (World.cell?_setCell_other _ _ _ _ (by simp)).trans c0, ⟨i, World.cell?_setCell_same _ _ _ c1, hi⟩, ⟨k, (World.cell?_setCell_other _ _ _ _ (by simp)).trans c2⟩,
    fun j hj => (World.frozen?_setCell _ _ _ _).trans (hf j hj)⟩
theorem drewN_bel (B : Nat) (w : World) (q : Nat) : Below B w (w.drewN q) := ⟨rfl, rfl, rfl, Nat.le_refl _, fun _ _ => rfl⟩
theorem byte_more {w : World} {g B len cap i : Nat} {a : Option Addr} (h : Cur w g B a len cap) (hi : i < len) (k : Int) (q : Nat) (y : Int) (hy : y = ((i + 1 : Nat) : Int)) (x : Int) (h0 : 0 ≤ x) (h1 : x ≤ 255) :
    BytePost w g B a len cap (.returned (.int .i64 x)) (((w.setCell ⟨g, 2, none⟩ (.int .i64 k)).drewN q).setCell ⟨g, 1, none⟩ (.int .i64 y)) := by
  subst hy
  exact ⟨x, rfl, h0, h1, (((h.seth k).below (drewN_bel _ _ _)).seti (i + 1) (by omega)), gb_two (gb_two (gb_set _ _ _ _) (gb_drewN _ _ _)) (gb_set _ _ _ _)⟩
theorem byte_over2 {w : World} {g B len cap : Nat} {a : Option Addr} (h : Cur w g B a len cap) (k : Int) (q q' : Nat) (x : Int) (h0 : 0 ≤ x) (h1 : x ≤ 255) :
    BytePost w g B a len cap (.returned (.int .i64 x)) (((w.setCell ⟨g, 2, none⟩ (.int .i64 k)).drewN q).drewN q') :=
  ⟨x, rfl, h0, h1, (((h.seth k).below (drewN_bel _ _ _)).below (drewN_bel _ _ _)), gb_two (gb_two (gb_set _ _ _ _) (gb_drewN _ _ _)) (gb_drewN _ _ _)⟩

def BelowPost (w : World) (g B : Nat) (a : Option Addr) (len cap : Nat) (n : Int) (e : Ending) (w' : World) : Prop :=
  ∃ x : Int, e = .returned (.int .i64 x) ∧ 0 ≤ x ∧ (x < n ∨ x = 0) ∧ Cur w' g B a len cap ∧ w.grownBy w' (some g)
end Go.Proofs.Ytendbipfmgnjkaa
