/- The program's own EditOf (written by gen/mkakj.py). -/
import Derived.Test.YtendbipfmgnjkaaAkI
import Derived.Test.YtendbipfmgnjkaaClS
import Derived.Test.YtendbipfmgnjkaaGrwC
import Derived.Test.YtendbipfmgnjkaaSlG
namespace Go.Proofs.Ytendbipfmgnjkaa
set_option maxRecDepth 100000
open Go.RowKit BigFrame
attribute [local go_sem ↓] Go.wp_at_zero Go.wp_at_succ
theorem implKindOk (q : AkM) (w : World) : Calls Try.prog 53 #[akv q] w fun e w' => e = .returned (.bool (inI q.kind 1 10)) ∧ Below w.heap.size w w' := by
  obtain ⟨kind, who, path, dest, text, num⟩ := q
  unfold inI
  go_enter Try.func53, Try.ntmps53
  go_wp2_with fail
  all_goals
    go_ret
    exact ⟨by first | (simp [*]; done) | (simp [*]; omega), (Below.refl _ _).alloc (Nat.le_refl _) _⟩
theorem akMade (q : AkM) (h : inI q.kind 1 10 = true) : ∃ F, (∀ (A : Array Value) (W : World), (callFunc F A).run Try.prog W = .ok (.enter F A) W) ∧ (∀ W : World, (Instr.index 124 akTab (.int .i64 q.kind)).run Try.prog W = .ok (.func (.func F) #[] #[]) W) ∧ ∀ W : World, Calls Try.prog F #[akv q] W fun e w' => e = .returned (ev (edOf q)) ∧ Below W.heap.size W w' := by
  obtain ⟨kind, who, path, dest, text, num⟩ := q
  have h' := inI_iff.1 h
  have hc : kind = 1 ∨ kind = 2 ∨ kind = 3 ∨ kind = 4 ∨ kind = 5 ∨ kind = 6 ∨ kind = 7 ∨ kind = 8 ∨ kind = 9 ∨ kind = 10 := by dsimp only at h'; omega
  rcases hc with rfl | rfl | rfl | rfl | rfl | rfl | rfl | rfl | rfl | rfl
  · exact ⟨103, fun A W => by kernel_rfl, fun W => by kernel_rfl, implToMake 1 who num path dest text⟩
  · exact ⟨104, fun A W => by kernel_rfl, fun W => by kernel_rfl, implToCreate 2 who num path dest text⟩
  · exact ⟨105, fun A W => by kernel_rfl, fun W => by kernel_rfl, implToAppend 3 who num path dest text⟩
  · exact ⟨106, fun A W => by kernel_rfl, fun W => by kernel_rfl, implToClose 4 who num path dest text⟩
  · exact ⟨107, fun A W => by kernel_rfl, fun W => by kernel_rfl, implToMove 5 who num path dest text⟩
  · exact ⟨108, fun A W => by kernel_rfl, fun W => by kernel_rfl, implToDrop 6 who num path dest text⟩
  · exact ⟨109, fun A W => by kernel_rfl, fun W => by kernel_rfl, implToRead 7 who num path dest text⟩
  · exact ⟨110, fun A W => by kernel_rfl, fun W => by kernel_rfl, implToSchema 8 who num path dest text⟩
  · exact ⟨111, fun A W => by kernel_rfl, fun W => by kernel_rfl, implToQuota 9 who num path dest text⟩
  · exact ⟨112, fun A W => by kernel_rfl, fun W => by kernel_rfl, implToReopen 10 who num path dest text⟩
set_option maxRecDepth 100000 in
set_option maxHeartbeats 4000000 in
theorem implEditOf (q : AkM) (w : World) (hp : q.path.size ≤ 1048576) (hd : q.dest.size ≤ 1048576) : Calls Try.prog 77 #[akv q] w fun e w' => e = .returned (ev (edOf q)) ∧ Below w.heap.size w w' := by
  have HK := Shut.mk (fun W => implKindOk q W)
  have HM := Shut.mk (akMade q)
  have HNO : Shut (inI q.kind 1 10 = false → edOf q = ⟨0, ⟨#[]⟩, ⟨#[]⟩, 0, 0⟩) := ⟨fun h => by
    unfold edOf
    unfold inI at h
    simp only [Bool.and_eq_false_iff, decide_eq_false_iff_not] at h
    repeat rw [if_neg (by omega)]⟩
  have HFT := Shut.mk (edOf_fit hp hd)
  obtain ⟨E, hE⟩ : ∃ E, E = edOf q := ⟨_, rfl⟩
  rw [← hE] at HM HNO HFT ⊢
  obtain ⟨ok, hok⟩ : ∃ b, b = inI q.kind 1 10 := ⟨_, rfl⟩
  rw [← hok] at HK HM HNO
  clear hE hok hp hd
  obtain ⟨kind, who, path, dest, text, num⟩ := q
  obtain ⟨ek, ep, ed, en, ew⟩ := E
  dsimp only at *
  obtain ⟨qb, hqb⟩ : ∃ b, b = w.heap.size := ⟨_, rfl⟩
  obtain ⟨rb, hrb⟩ : ∃ b, b = qb + 1 := ⟨_, rfl⟩
  have HS : Shut (SL w ((w.alloc (.cells #[.int .i64 kind, .int .i64 who, .string path, .string dest, .string text, .int .i64 num] 29)).alloc (.cells #[.int .i64 0, .string ⟨#[]⟩, .string ⟨#[]⟩, .int .i64 0, .int .i64 0] 91)) [bxS rb [.int .i64 0, .string ⟨#[]⟩, .string ⟨#[]⟩, .int .i64 0, .int .i64 0], bxS qb [.int .i64 kind, .int .i64 who, .string path, .string dest, .string text, .int .i64 num]]) := ⟨by
    have := ((SL.start w).new #[.int .i64 kind, .int .i64 who, .string path, .string dest, .string text, .int .i64 num] 29).new #[.int .i64 0, .string ⟨#[]⟩, .string ⟨#[]⟩, .int .i64 0, .int .i64 0] 91
    rw [show (w.alloc (.cells #[.int .i64 kind, .int .i64 who, .string path, .string dest, .string text, .int .i64 num] 29)).heap.size = rb by simp [hqb, hrb], ← hqb] at this
    exact this⟩
  go_enter Try.func77, Try.ntmps77
  go_upto_region 1 with fail
  rw [← hqb, ← hrb]
  refine wp_shade (fun W => SL w W [bxS rb [.int .i64 0, .string ⟨#[]⟩, .string ⟨#[]⟩, .int .i64 0, .int .i64 0], bxS qb [.int .i64 kind, .int .i64 who, .string path, .string dest, .string text, .int .i64 num]]) HS.out ?_
  intro W0 hS0
  have H := Shut.mk hS0
  clear hS0 HS hqb hrb
  have x0 := (H.out.bx 1 rfl 0 _ rfl).1
  have x1 := (H.out.bx 1 rfl 1 _ rfl).1
  have x2 := (H.out.bx 1 rfl 2 _ rfl).1
  have x3 := (H.out.bx 1 rfl 3 _ rfl).1
  have x4 := (H.out.bx 1 rfl 4 _ rfl).1
  have x5 := (H.out.bx 1 rfl 5 _ rfl).1
  cases ok with
  | false =>
    obtain ⟨rfl, rfl, rfl, rfl, rfl⟩ : ek = 0 ∧ ep = ⟨#[]⟩ ∧ ed = ⟨#[]⟩ ∧ en = 0 ∧ ew = 0 := by simpa using HNO.out rfl
    go_wp2_with (go_at_call 53; refine (HK.out _).mono ?_; rintro e w1 ⟨rfl, hb⟩; replace H := Shut.mk (H.out.below hb); clear hb x0 x1 x2 x3 x4 x5; obtain ⟨r0, s0⟩ := H.out.bx 0 rfl 0 _ rfl; obtain ⟨r1, s1⟩ := H.out.bx 0 rfl 1 _ rfl; obtain ⟨r2, s2⟩ := H.out.bx 0 rfl 2 _ rfl; obtain ⟨r3, s3⟩ := H.out.bx 0 rfl 3 _ rfl; obtain ⟨r4, s4⟩ := H.out.bx 0 rfl 4 _ rfl)
    have HE := Shut.mk (((((H.out.put 0 rfl 0 (.int .i64 0) (by simp)).put 0 rfl 1 (.string ⟨#[]⟩) (by simp)).put 0 rfl 2 (.string ⟨#[]⟩) (by simp)).put 0 rfl 3 (.int .i64 0) (by simp)).put 0 rfl 4 (.int .i64 0) (by simp))
    refine bodyPost_ret (v := ev ⟨0, ⟨#[]⟩, ⟨#[]⟩, 0, 0⟩) (by simp [results, Try.results77, go_sem, r0, r1, r2, r3, r4]) rfl ⟨rfl, ?_⟩
    exact HE.out.bel
  | true =>
    obtain ⟨F, hF0, hF1, hF2⟩ := HM.out rfl
    have HF := Shut.mk hF2
    clear hF2 HM HNO
    go_upto_region 3 with (go_at_call 53; refine (HK.out _).mono ?_; rintro e w1 ⟨rfl, hb⟩; replace H := Shut.mk (H.out.below hb); clear hb x0 x1 x2 x3 x4 x5)
    go_cut [3] from 8 to 14 (fun u wx => ∃ nb, u = .pointer (some ⟨nb, 0, none⟩) ∧ Shut (SL w wx [bxS nb [.int .i64 ek, .string ep, .string ed, .int .i64 en, .int .i64 ew], bxS rb [.int .i64 0, .string ⟨#[]⟩, .string ⟨#[]⟩, .int .i64 0, .int .i64 0], bxS qb [.int .i64 kind, .int .i64 who, .string path, .string dest, .string text, .int .i64 num]]))
    case first =>
      have HLE : Shut (∀ x, Later w1.drew x → x.cell? ⟨qb, 0, none⟩ = some (.int .i64 kind) ∧ x.cell? ⟨qb, 1, none⟩ = some (.int .i64 who) ∧ x.cell? ⟨qb, 2, none⟩ = some (.string path) ∧ x.cell? ⟨qb, 3, none⟩ = some (.string dest) ∧ x.cell? ⟨qb, 4, none⟩ = some (.string text) ∧ x.cell? ⟨qb, 5, none⟩ = some (.int .i64 num)) := ⟨fun x hx => by
        have M := H.out.drew.below hx
        exact ⟨(M.bx 1 rfl 0 _ rfl).1, (M.bx 1 rfl 1 _ rfl).1, (M.bx 1 rfl 2 _ rfl).1, (M.bx 1 rfl 3 _ rfl).1, (M.bx 1 rfl 4 _ rfl).1, (M.bx 1 rfl 5 _ rfl).1⟩⟩
      have HMX : Shut (∀ x, Later w1.drew x → SL w x [bxS rb [.int .i64 0, .string ⟨#[]⟩, .string ⟨#[]⟩, .int .i64 0, .int .i64 0], bxS qb [.int .i64 kind, .int .i64 who, .string path, .string dest, .string text, .int .i64 num]]) := ⟨fun x hx => H.out.drew.below hx⟩
      refine wp_region_tail 7 (by kernel_rfl) ?_
      refine wpK_call (i := 0) (v := akTab) (f := 93) (args := #[]) rfl (by kernel_rfl) (by kernel_rfl) (by kernel_rfl) (by kernel_rfl) (fun _ _ _ h => h) (by rfl) ?hya0 (fun x _ => implAskRecords x) ?resta0
      case hya0 => (intro x hx; obtain ⟨d0, d1, d2, d3, d4, d5⟩ := HLE.out x hx; go_simp; try with_reducible rfl)
      try simp only [Act.put, List.setIfInBounds_toArray, List.set_cons_zero, List.set_cons_succ]
      refine wpK_val (i := 1) (v := ?va1) rfl (by kernel_rfl) (by kernel_rfl) (by kernel_rfl) (by kernel_rfl) (fun _ _ _ h => h) (by rfl) ?hya1 ?resta1
      case hya1 => (intro x hx; obtain ⟨d0, d1, d2, d3, d4, d5⟩ := HLE.out x hx; go_simp; try with_reducible rfl)
      try simp only [Act.put, List.setIfInBounds_toArray, List.set_cons_zero, List.set_cons_succ]
      refine wpK_val (i := 2) (v := ?va2) rfl (by kernel_rfl) (by kernel_rfl) (by kernel_rfl) (by kernel_rfl) (fun _ _ _ h => h) (by rfl) ?hya2 ?resta2
      case hya2 => (intro x hx; obtain ⟨d0, d1, d2, d3, d4, d5⟩ := HLE.out x hx; go_simp; try with_reducible rfl)
      try simp only [Act.put, List.setIfInBounds_toArray, List.set_cons_zero, List.set_cons_succ]
      refine wpK_val (i := 3) (v := ?va3) rfl (by kernel_rfl) (by kernel_rfl) (by kernel_rfl) (by kernel_rfl) (fun _ _ _ h => h) (by rfl) ?hya3 ?resta3
      case hya3 => (intro x hx; obtain ⟨d0, d1, d2, d3, d4, d5⟩ := HLE.out x hx; go_simp; try with_reducible rfl)
      try simp only [Act.put, List.setIfInBounds_toArray, List.set_cons_zero, List.set_cons_succ]
      refine wpK_val (i := 4) (v := ?va4) rfl (by kernel_rfl) (by kernel_rfl) (by kernel_rfl) (by kernel_rfl) (fun _ _ _ h => h) (by rfl) ?hya4 ?resta4
      case hya4 => (intro x hx; obtain ⟨d0, d1, d2, d3, d4, d5⟩ := HLE.out x hx; go_simp; try with_reducible rfl)
      try simp only [Act.put, List.setIfInBounds_toArray, List.set_cons_zero, List.set_cons_succ]
      refine wpK_callbox (f := F) (args := #[akv ⟨kind, who, path, dest, text, num⟩]) (C := #[.int .i64 0, .string ⟨#[]⟩, .string ⟨#[]⟩, .int .i64 0, .int .i64 0]) (t := 91) (i := 5) (j := 6) (by kernel_rfl) rfl rfl (by rfl) (by rfl) (fun x hx => by go_simp) (fun x hx => by kernel_rfl) (fun x hx => (HF.out x).mono ?_) (fun x hx => ?_)
      · rintro e y ⟨rfl, hby⟩
        refine ⟨_, rfl, hby, ?_⟩
        have HY := Shut.mk ((HMX.out x hx).below hby)
        clear hx hby
        try simp only [Act.put, List.setIfInBounds_toArray, List.set_cons_zero, List.set_cons_succ]
        refine wpK_one (i := 6) (by kernel_rfl) rfl (by rfl) (fun x2 hx2 => ⟨.pointer (some ⟨x2.heap.size, 0, none⟩), x2.alloc (.cells #[.int .i64 0, .string ⟨#[]⟩, .string ⟨#[]⟩, .int .i64 0, .int .i64 0] 91), by kernel_rfl, (Below.refl _ _).alloc (Nat.le_refl _) _, ?_⟩)
        have HY2 := Shut.mk ((HY.out.below hx2).new #[.int .i64 0, .string ⟨#[]⟩, .string ⟨#[]⟩, .int .i64 0, .int .i64 0] 91)
        obtain ⟨nb, hnb⟩ : ∃ nb, nb = x2.heap.size := ⟨_, rfl⟩
        rw [← hnb] at HY2 ⊢
        clear hx2 hnb HY
        try simp only [Act.put, List.setIfInBounds_toArray, List.set_cons_zero, List.set_cons_succ]
        refine wpK_tail (by kernel_rfl) ?_
        intro x5 hx5
        have HY3 := Shut.mk (HY2.out.below hx5)
        clear HY2
        have q0 := (HY3.out.bx 0 rfl 0 _ rfl)
        have q1 := (HY3.out.bx 0 rfl 1 _ rfl)
        have q2 := (HY3.out.bx 0 rfl 2 _ rfl)
        have q3 := (HY3.out.bx 0 rfl 3 _ rfl)
        have q4 := (HY3.out.bx 0 rfl 4 _ rfl)
        obtain ⟨q0, qf0⟩ := q0
        obtain ⟨q1, qf1⟩ := q1
        obtain ⟨q2, qf2⟩ := q2
        obtain ⟨q3, qf3⟩ := q3
        obtain ⟨q4, qf4⟩ := q4
        refine wpA_store (y := ((((x5.setCell ⟨nb, 0, none⟩ (.int .i64 ek)).setCell ⟨nb, 1, none⟩ (.string ep)).setCell ⟨nb, 2, none⟩ (.string ed)).setCell ⟨nb, 3, none⟩ (.int .i64 en)).setCell ⟨nb, 4, none⟩ (.int .i64 ew)) (i := 7) (by kernel_rfl) rfl (by rfl) (by go_simp) (by kernel_rfl) ?_
        have HZ := Shut.mk (((((HY3.out.put 0 rfl 0 (.int .i64 ek) (by simp)).put 0 rfl 1 (.string ep) (by simp)).put 0 rfl 2 (.string ed) (by simp)).put 0 rfl 3 (.int .i64 en) (by simp)).put 0 rfl 4 (.int .i64 ew) (by simp))
        clear q0 qf0 q1 qf1 q2 qf2 q3 qf3 q4 qf4 hx5 HY3
        simp only [Act.put]
        go_wp2_with fail
        go_meet
        case rel => exact ⟨nb, rfl, HZ⟩
      · have HY := Shut.mk ((HMX.out x hx).new #[.int .i64 0, .string ⟨#[]⟩, .string ⟨#[]⟩, .int .i64 0, .int .i64 0] 91)
        obtain ⟨nb, hnb⟩ : ∃ nb, nb = x.heap.size := ⟨_, rfl⟩
        rw [← hnb] at HY ⊢
        generalize x.alloc (.cells #[.int .i64 0, .string ⟨#[]⟩, .string ⟨#[]⟩, .int .i64 0, .int .i64 0] 91) = x2 at HY ⊢
        clear hnb hx
        try simp only [Act.put, List.setIfInBounds_toArray, List.set_cons_zero, List.set_cons_succ]
        refine wpK_onecall (f := F) (args := #[akv ⟨kind, who, path, dest, text, num⟩]) (i := 5) (by kernel_rfl) rfl (by rfl) (fun x3 hx3 => by go_simp) (fun x3 hx3 => (HF.out x3).mono ?_)
        rintro e y ⟨rfl, hby⟩
        refine ⟨_, rfl, hby, ?_⟩
        have HY2 := Shut.mk ((HY.out.below hx3).below hby)
        clear hx3 hby HY
        try simp only [Act.put, List.setIfInBounds_toArray, List.set_cons_zero, List.set_cons_succ]
        refine wpK_tail (by kernel_rfl) ?_
        intro x5 hx5
        have HY3 := Shut.mk (HY2.out.below hx5)
        clear HY2
        have q0 := (HY3.out.bx 0 rfl 0 _ rfl)
        have q1 := (HY3.out.bx 0 rfl 1 _ rfl)
        have q2 := (HY3.out.bx 0 rfl 2 _ rfl)
        have q3 := (HY3.out.bx 0 rfl 3 _ rfl)
        have q4 := (HY3.out.bx 0 rfl 4 _ rfl)
        obtain ⟨q0, qf0⟩ := q0
        obtain ⟨q1, qf1⟩ := q1
        obtain ⟨q2, qf2⟩ := q2
        obtain ⟨q3, qf3⟩ := q3
        obtain ⟨q4, qf4⟩ := q4
        refine wpA_store (y := ((((x5.setCell ⟨nb, 0, none⟩ (.int .i64 ek)).setCell ⟨nb, 1, none⟩ (.string ep)).setCell ⟨nb, 2, none⟩ (.string ed)).setCell ⟨nb, 3, none⟩ (.int .i64 en)).setCell ⟨nb, 4, none⟩ (.int .i64 ew)) (i := 7) (by kernel_rfl) rfl (by rfl) (by go_simp) (by kernel_rfl) ?_
        have HZ := Shut.mk (((((HY3.out.put 0 rfl 0 (.int .i64 ek) (by simp)).put 0 rfl 1 (.string ep) (by simp)).put 0 rfl 2 (.string ed) (by simp)).put 0 rfl 3 (.int .i64 en) (by simp)).put 0 rfl 4 (.int .i64 ew) (by simp))
        clear q0 qf0 q1 qf1 q2 qf2 q3 qf3 q4 qf4 hx5 HY3
        simp only [Act.put]
        go_wp2_with fail
        go_meet
        case rel => exact ⟨nb, rfl, HZ⟩
    case rest =>
      obtain ⟨nb, rfl, hS⟩ := hcut
      replace H := Shut.mk hS.out
      clear hS HF hF0 hF1 HK
      have hs1 : ep.size ≤ 281474976710656 := Nat.le_trans HFT.out.1 (by decide)
      have hs2 : ed.size ≤ 281474976710656 := Nat.le_trans HFT.out.2 (by decide)
      have HC1 := Shut.mk (fun W => implClone ep W hs1)
      have HC2 := Shut.mk (fun W => implClone ed W hs2)
      clear hs1 hs2 HFT
      go_upto_region 4 with fail
      have HLE : Shut (∀ x, Later wc.drew x → x.cell? ⟨nb, 1, none⟩ = some (.string ep) ∧ x.cell? ⟨nb, 2, none⟩ = some (.string ed)) := ⟨fun x hx => by
        have M := H.out.drew.below hx
        exact ⟨(M.bx 0 rfl 1 _ rfl).1, (M.bx 0 rfl 2 _ rfl).1⟩⟩
      refine wp_region_tail 7 (by kernel_rfl) ?_
      refine wpK_val (i := 0) (v := ?vb0) rfl (by kernel_rfl) (by kernel_rfl) (by kernel_rfl) (by kernel_rfl) (fun _ _ _ h => h) (by rfl) ?hyb0 ?restb0
      case hyb0 => (intro x hx; obtain ⟨d1, d2⟩ := HLE.out x hx; go_simp; try with_reducible rfl)
      try simp only [Act.put, List.setIfInBounds_toArray, List.set_cons_zero, List.set_cons_succ]
      refine wpK_val (i := 1) (v := ?vb1) rfl (by kernel_rfl) (by kernel_rfl) (by kernel_rfl) (by kernel_rfl) (fun _ _ _ h => h) (by rfl) ?hyb1 ?restb1
      case hyb1 => (intro x hx; obtain ⟨d1, d2⟩ := HLE.out x hx; go_simp; try with_reducible rfl)
      try simp only [Act.put, List.setIfInBounds_toArray, List.set_cons_zero, List.set_cons_succ]
      refine wpK_call (i := 2) (v := .string ep) (f := 49) (args := #[.string ep]) rfl (by kernel_rfl) (by kernel_rfl) (by kernel_rfl) (by kernel_rfl) (fun _ _ _ h => h) (by rfl) ?hyb2 (fun x _ => HC1.out x) ?restb2
      case hyb2 => (intro x hx; obtain ⟨d1, d2⟩ := HLE.out x hx; go_simp; try with_reducible rfl)
      try simp only [Act.put, List.setIfInBounds_toArray, List.set_cons_zero, List.set_cons_succ]
      refine wpK_val (i := 3) (v := ?vb3) rfl (by kernel_rfl) (by kernel_rfl) (by kernel_rfl) (by kernel_rfl) (fun _ _ _ h => h) (by rfl) ?hyb3 ?restb3
      case hyb3 => (intro x hx; obtain ⟨d1, d2⟩ := HLE.out x hx; go_simp; try with_reducible rfl)
      try simp only [Act.put, List.setIfInBounds_toArray, List.set_cons_zero, List.set_cons_succ]
      refine wpK_val (i := 4) (v := ?vb4) rfl (by kernel_rfl) (by kernel_rfl) (by kernel_rfl) (by kernel_rfl) (fun _ _ _ h => h) (by rfl) ?hyb4 ?restb4
      case hyb4 => (intro x hx; obtain ⟨d1, d2⟩ := HLE.out x hx; go_simp; try with_reducible rfl)
      try simp only [Act.put, List.setIfInBounds_toArray, List.set_cons_zero, List.set_cons_succ]
      refine wpK_val (i := 6) (v := ?vb6) rfl (by kernel_rfl) (by kernel_rfl) (by kernel_rfl) (by kernel_rfl) (fun _ _ _ h => h) (by rfl) ?hyb6 ?restb6
      case hyb6 => (intro x hx; obtain ⟨d1, d2⟩ := HLE.out x hx; go_simp; try with_reducible rfl)
      try simp only [Act.put, List.setIfInBounds_toArray, List.set_cons_zero, List.set_cons_succ]
      refine wpK_call (i := 5) (v := .string ed) (f := 49) (args := #[.string ed]) rfl (by kernel_rfl) (by kernel_rfl) (by kernel_rfl) (by kernel_rfl) (fun _ _ _ h => h) (by rfl) ?hyb5 (fun x _ => HC2.out x) ?restb5
      case hyb5 => (intro x hx; obtain ⟨d1, d2⟩ := HLE.out x hx; go_simp; try with_reducible rfl)
      try simp only [Act.put, List.setIfInBounds_toArray, List.set_cons_zero, List.set_cons_succ]
      refine wpK_tail (by kernel_rfl) ?_
      intro x5 hx5
      have HY := Shut.mk (H.out.drew.below hx5)
      clear H hx5 HLE HC1 HC2
      obtain ⟨q1, qf1⟩ := HY.out.bx 0 rfl 1 _ rfl
      obtain ⟨q2, qf2⟩ := HY.out.bx 0 rfl 2 _ rfl
      refine wpA_step (y := x5.setCell ⟨nb, 1, none⟩ (.string ep)) (i := 7) (by kernel_rfl) rfl (by rfl) (by go_simp) ?_
      replace HY := Shut.mk (HY.out.put 0 rfl 1 (.string ep) (by simp))
      generalize x5.setCell ⟨nb, 1, none⟩ (.string ep) = x6 at *
      clear q1 qf1 q2 qf2
      simp only [List.set_cons_zero, List.set_cons_succ] at HY
      obtain ⟨q2, qf2⟩ := HY.out.bx 0 rfl 2 _ rfl
      simp only [Act.put]
      refine wpA_val (i := 8) (v := .pointer (some ⟨nb, 2, none⟩)) rfl (by kernel_rfl) (by kernel_rfl) (by kernel_rfl) (fun _ _ _ h => h) (by rfl) (fun x => by go_simp) ?_
      try simp only [Act.put, List.setIfInBounds_toArray, List.set_cons_zero, List.set_cons_succ]
      refine wpA_store (y := x6.setCell ⟨nb, 2, none⟩ (.string ed)) (i := 9) (by kernel_rfl) rfl (by rfl) (by go_simp) (by kernel_rfl) ?_
      replace HY := Shut.mk (HY.out.put 0 rfl 2 (.string ed) (by simp))
      generalize x6.setCell ⟨nb, 2, none⟩ (.string ed) = x7 at *
      clear q2 qf2
      simp only [List.set_cons_zero, List.set_cons_succ, Act.put] at HY ⊢
      have y0 := (HY.out.bx 0 rfl 0 _ rfl).1
      have y1 := (HY.out.bx 0 rfl 1 _ rfl).1
      have y2 := (HY.out.bx 0 rfl 2 _ rfl).1
      have y3 := (HY.out.bx 0 rfl 3 _ rfl).1
      have y4 := (HY.out.bx 0 rfl 4 _ rfl).1
      obtain ⟨r0, s0⟩ := HY.out.bx 1 rfl 0 _ rfl
      obtain ⟨r1, s1⟩ := HY.out.bx 1 rfl 1 _ rfl
      obtain ⟨r2, s2⟩ := HY.out.bx 1 rfl 2 _ rfl
      obtain ⟨r3, s3⟩ := HY.out.bx 1 rfl 3 _ rfl
      obtain ⟨r4, s4⟩ := HY.out.bx 1 rfl 4 _ rfl
      have HE := Shut.mk (((((HY.out.put 1 rfl 0 (.int .i64 ek) (by simp)).put 1 rfl 1 (.string ep) (by simp)).put 1 rfl 2 (.string ed) (by simp)).put 1 rfl 3 (.int .i64 en) (by simp)).put 1 rfl 4 (.int .i64 ew) (by simp))
      clear HY
      go_wp2_with fail
      refine bodyPost_ret (v := ev ⟨ek, ep, ed, en, ew⟩) (by simp [results, Try.results77, go_sem, r0, r1, r2, r3, r4]) rfl ⟨rfl, ?_⟩
      exact HE.out.bel
end Go.Proofs.Ytendbipfmgnjkaa
