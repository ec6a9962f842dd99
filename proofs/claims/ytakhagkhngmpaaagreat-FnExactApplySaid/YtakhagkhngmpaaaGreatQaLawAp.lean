/- Texts of ours, laid one behind the other: LawAp. -/
import Derived.Test.YtakhagkhngmpaaaGreatQa9
/- LawAp: . -/
namespace Go.Proofs.YtakhagkhngmpaaaGreat
set_option maxRecDepth 100000
open Go.RowKit
attribute [local go_sem ↓] Go.wp_at_zero Go.wp_at_succ
attribute [local irreducible] treeOk applyX groupsX markK
set_option maxHeartbeats 16000000 in
theorem lawApply {w : World} {v : Value} {T : TM} (e : EM) (gr : Int) (h : ∀ {w : World} {v : Value} {T : TM} {lo hi : Nat}, TSee w v T lo hi → NFit T → NInt T.nodes → EFit e → Calls Tryz.prog 13 #[v, ev e, .int .i64 gr] w fun r w' => ApPost (applyX T e gr) w r w') (hv : TSee w v T 0 w.heap.size) (lT : NOk T.nodes) (hI : NInt T.nodes) (hf : EdFit e) :
  Calls Tryz.prog 8 #[v, ev e, .int .i64 gr] w fun r w' => r = .returned (.bool true) ∧ Below w.heap.size w w' := by
 have HSZ := Shut.mk (fun W left h0 h1 => szEdit_any e left W h0 h1 hf)
 have HTE := Shut.mk (fun W => toEdit_any e W)
 obtain ⟨a, cap, rs, rfl, hr, hm⟩ := id hv
 obtain ⟨n, hn⟩ : ∃ n, n = rs.length := ⟨_, rfl⟩
 obtain ⟨nx, hnx⟩ : ∃ nx, nx = T.next := ⟨_, rfl⟩
 rw [← hn, ← hnx] at hv ⊢
 have FV := Shut.mk hv
 have HNO := Shut.mk (And.intro lT hI)
 have HNX := Shut.mk hnx
 have HIM := Shut.mk (fun (W : World) (u : Value) (lo hi : Nat) (q : TSee W u T lo hi) (hf : NFit T) (he : EFit e) => h q hf hI he)
 have HSP := Shut.mk (fun (W : World) (u : Value) (lo hi : Nat) (q : TSee W u T lo hi) (hf : NFit T) (he : EFit e) => specApply e gr q hf he)
 have HFX := Shut.mk (fun (hf : NFit T) => apply_fit hf e gr)
 obtain ⟨XT, rc, hXX⟩ : ∃ XT rc, applyX T e gr = (XT, rc) := ⟨_, _, rfl⟩
 rw [hXX] at HIM HSP HFX
 unfold ApPost at HIM HSP
 obtain ⟨tx, htx⟩ : ∃ tx, tx = XT.next := ⟨_, rfl⟩
 have HTX9 := Shut.mk htx
 clear hXX htx
 clear h hm hr hn hv lT hI hnx hf
 obtain ⟨kind, path, dest, num, who⟩ := e
 dsimp only at *
 go_enter Tryz.func8, Tryz.ntmps8
 go_upto_region 1 with fail
 obtain ⟨tb, htb⟩ : ∃ tb, tb = w.heap.size := ⟨_, rfl⟩
 obtain ⟨eb, heb⟩ : ∃ eb, eb = w.heap.size + 1 := ⟨_, rfl⟩
 refine wp_shade (fun W => TL w W [(eb, [.int .i64 kind, .string path, .string dest, .int .i64 num, .int .i64 who]), (tb, [.slice a n cap, .int .i64 nx])] [] []) (by rw [heb, htb]; exact TL.of (MB.two w #[.slice a n cap, .int .i64 nx] #[.int .i64 kind, .string path, .string dest, .int .i64 num, .int .i64 who] 56 57)) ?_
 intro W1 hW1
 have HT := Shut.mk hW1
 rw [← heb, ← htb]
 clear hW1 htb heb
 have tb0 := ((HT.out.mb.at 1 rfl).1.2 0 _ rfl).1
 have tb1 := ((HT.out.mb.at 1 rfl).1.2 1 _ rfl).1
 go_upto_region 3 with (go_at_call 41; refine (szTree_val 1048576 (FV.out.below HT.out.bel) HNO.out.1 (by omega) (by omega)).mono ?_; rintro e w1 ⟨r0, rfl, r00, q1, hb⟩; replace HT := Shut.mk (HT.out.below hb); clear hb tb0 tb1)
 by_cases r0n : r0 < 0
 case pos =>
  clear q1 r00
  go_wp2_with fail
  go_ret
  exact ⟨rfl, HT.out.bel⟩
 have hq1 := q1 (by omega)
 have HF : Shut (NFit T) := ⟨by unfold NFit; omega⟩
 have r01 : r0 ≤ 1048576 := by omega
 clear q1 hq1 r00
 have eb0 := ((HT.out.mb.at 0 rfl).1.2 0 _ rfl).1
 have eb1 := ((HT.out.mb.at 0 rfl).1.2 1 _ rfl).1
 have eb2 := ((HT.out.mb.at 0 rfl).1.2 2 _ rfl).1
 have eb3 := ((HT.out.mb.at 0 rfl).1.2 3 _ rfl).1
 have eb4 := ((HT.out.mb.at 0 rfl).1.2 4 _ rfl).1
 go_upto_region 6 with (go_at_call 42; refine (HSZ.out _ r0 (by omega) r01).mono ?_; rintro e w2 ⟨⟨q0, rfl, q00, q1⟩, hb⟩; replace HT := Shut.mk (HT.out.below hb); clear hb eb0 eb1 eb2 eb3 eb4)
 by_cases q0n : q0 < 0
 case pos =>
  clear q1 q00
  go_wp2_with fail
  go_ret
  exact ⟨rfl, HT.out.bel⟩
 have hq1 := q1 (by omega)
 have HEF : Shut (EFit ⟨kind, path, dest, num, who⟩) := ⟨⟨by dsimp only at hq1 ⊢; omega, by dsimp only at hq1 ⊢; omega⟩⟩
 clear q1 hq1 q00 HSZ
 go_upto_region 8 with fail
 clear r0n q0n r01
 have HXF := Shut.mk (HFX.out HF.out)
 clear HFX
 have hrr : (rc != rc) = false := by simp
 go_cut [8, 9] from 28 to 36 (fun u8 u9 wq => ∃ (b8 : Nat) (c8 : Option Addr) (m8 d8 lo8 hi8 : Nat), u8 = .pointer (some ⟨b8, 0, none⟩) ∧ u9 = .int .i64 rc ∧ Shut (TL w wq [(b8, [.slice c8 m8 d8, .int .i64 tx]), (eb, [.int .i64 kind, .string path, .string dest, .int .i64 num, .int .i64 who]), (tb, [.slice a n cap, .int .i64 nx])] [(.agg #[.slice c8 m8 d8, .int .i64 tx], XT, lo8, hi8)] []))
 case first =>
  have HTX : Shut (∀ x, Later w2.drew x → TL w x [(eb, [.int .i64 kind, .string path, .string dest, .int .i64 num, .int .i64 who]), (tb, [.slice a n cap, .int .i64 nx])] [] []) := ⟨fun x hx => HT.out.below (Below.trans (Below.drew (Below.refl _ _)) hx)⟩
  have HLE : Shut (∀ x, Later w2.drew x → x.cell? ⟨eb, 0, none⟩ = some (.int .i64 kind) ∧ x.cell? ⟨eb, 1, none⟩ = some (.string path) ∧ x.cell? ⟨eb, 2, none⟩ = some (.string dest) ∧ x.cell? ⟨eb, 3, none⟩ = some (.int .i64 num) ∧ x.cell? ⟨eb, 4, none⟩ = some (.int .i64 who) ∧ x.cell? ⟨tb, 0, none⟩ = some (.slice a n cap) ∧ x.cell? ⟨tb, 1, none⟩ = some (.int .i64 nx)) := ⟨fun x hx => by
   have M := (HTX.out x hx).mb
   exact ⟨((M.at 0 rfl).1.2 0 _ rfl).1, ((M.at 0 rfl).1.2 1 _ rfl).1, ((M.at 0 rfl).1.2 2 _ rfl).1, ((M.at 0 rfl).1.2 3 _ rfl).1, ((M.at 0 rfl).1.2 4 _ rfl).1, ((M.at 1 rfl).1.2 0 _ rfl).1, ((M.at 1 rfl).1.2 1 _ rfl).1⟩⟩
  refine wp_region_set (fun j => decide (j = 6 ∨ j = 7 ∨ j = 8 ∨ 9 < j)) (by kernel_rfl) ?_
  refine wpD_val (i := 0) (v := ?v8a0) rfl (by kernel_rfl) (by kernel_rfl) (by kernel_rfl) (by kernel_rfl) (fun _ _ _ h => h) (by rfl) ?hy8a0 ?rest8a0
  case hy8a0 => (intro x hx; obtain ⟨d0, d1, d2, d3, d4, d5, d6⟩ := HLE.out x hx; go_simp; try with_reducible rfl)
  try simp only [Act.put, qA, qB, qC]
  refine wpD_val (i := 2) (v := ?v8a2) rfl (by kernel_rfl) (by kernel_rfl) (by kernel_rfl) (by kernel_rfl) (fun _ _ _ h => h) (by rfl) ?hy8a2 ?rest8a2
  case hy8a2 => (intro x hx; obtain ⟨d0, d1, d2, d3, d4, d5, d6⟩ := HLE.out x hx; go_simp; try with_reducible rfl)
  try simp only [Act.put, qA, qB, qC]
  refine wpD_val (i := 4) (v := ?v8a4) rfl (by kernel_rfl) (by kernel_rfl) (by kernel_rfl) (by kernel_rfl) (fun _ _ _ h => h) (by rfl) ?hy8a4 ?rest8a4
  case hy8a4 => (intro x hx; obtain ⟨d0, d1, d2, d3, d4, d5, d6⟩ := HLE.out x hx; go_simp; try with_reducible rfl)
  try simp only [Act.put, qA, qB, qC]
  refine wpD_callbox (f := 43) (args := #[.agg #[.slice a n cap, .int .i64 nx]]) (C := #[.slice none 0 0, .int .i64 0]) (t := 26) (i := 1) (j := 9) (by kernel_rfl) rfl rfl (by rfl) (by rfl) (fun x hx => by go_simp) (fun x hx => by kernel_rfl) (fun x hx => (toTree_val (FV.out.below (HTX.out x hx).bel) HF.out).mono ?_) (fun x hx => ?_)
  ·rintro e y ⟨u1, rfl, hA, hby⟩
   refine ⟨_, rfl, hby, ?_⟩
   obtain ⟨c1, m1, d1, rfl⟩ := tans_is hA
   have T1 := Shut.mk ((HTX.out x hx).below hby)
   have SE1 := Shut.mk hA.see
   clear hA hby hx
   try simp only [Act.put, qA, qB, qC]
   refine wpD_call (i := 3) (v := .agg #[.int .i64 kind, .string path, .string dest, .int .i64 num, .int .i64 who]) (f := 44) (args := #[.agg #[.int .i64 kind, .string path, .string dest, .int .i64 num, .int .i64 who]]) rfl (by kernel_rfl) (by kernel_rfl) (by kernel_rfl) (by kernel_rfl) (fun _ _ _ h => h) (by rfl) (fun x hx => by go_simp; try with_reducible rfl) (fun x _ => HTE.out x) ?_
   try simp only [Act.put, qA, qB, qC]
   refine wpD_callbox (f := 14) (args := #[.agg #[.slice c1 m1 d1, .int .i64 T.next], .agg #[.int .i64 kind, .string path, .string dest, .int .i64 num, .int .i64 who], .int .i64 gr]) (C := #[.slice none 0 0, .int .i64 0]) (t := 26) (i := 5) (j := 9) (by kernel_rfl) rfl rfl (by rfl) (by rfl) (fun x hx => by go_simp) (fun x hx => by kernel_rfl) (fun x hx => (HSP.out x _ _ _ (SE1.out.below hx) HF.out HEF.out).mono ?_) (fun x hx => ?_)
   ·rintro e y2 ⟨vv, rfl, hans, hb2⟩
    refine ⟨_, rfl, hb2, ?_⟩
    obtain ⟨c8, m8, d8, rfl⟩ := tans_is hans
    rw [← HTX9.out] at hans ⊢
    obtain ⟨lo9, hi9, hcall⟩ := (T1.out.below hx).call hans hb2
    have HY := Shut.mk hcall
    clear hcall hans hb2
    try simp only [Act.put, qA, qB, qC]
    clear hx
    refine wpD_pure (i := 6) (v := ?vk4) rfl (by kernel_rfl) (by kernel_rfl) (by kernel_rfl) (by kernel_rfl) (fun _ _ _ h => h) (by rfl) ?hyk4 ?restk4
    case hyk4 => (intro x; go_simp; try with_reducible rfl)
    try simp only [Act.put, qA, qB, qC]
    refine wpD_pure (i := 7) (v := ?vk5) rfl (by kernel_rfl) (by kernel_rfl) (by kernel_rfl) (by kernel_rfl) (fun _ _ _ h => h) (by rfl) ?hyk5 ?restk5
    case hyk5 => (intro x; go_simp; try with_reducible rfl)
    try simp only [Act.put, qA, qB, qC]
    refine wpD_pure (i := 8) (v := ?vk6) rfl (by kernel_rfl) (by kernel_rfl) (by kernel_rfl) (by kernel_rfl) (fun _ _ _ h => h) (by rfl) ?hyk6 ?restk6
    case hyk6 => (intro x; go_simp; try with_reducible rfl)
    try simp only [Act.put, qA, qB, qC]
    refine wpD_one (i := 9) (by kernel_rfl) rfl (by rfl) (fun x2 hx2 => ⟨.pointer (some ⟨x2.heap.size, 0, none⟩), x2.alloc (.cells #[.slice none 0 0, .int .i64 0] 26), by kernel_rfl, (Below.refl _ _).alloc (Nat.le_refl _) _, ?_⟩)
    have HY2 := Shut.mk ((HY.out.below hx2).new #[.slice none 0 0, .int .i64 0] 26)
    obtain ⟨nb, hnb⟩ : ∃ nb, nb = x2.heap.size := ⟨_, rfl⟩
    rw [← hnb] at HY2 ⊢
    clear hx2 hnb HY
    try simp only [Act.put, qA, qB, qC]
    refine wpD_tail (by kernel_rfl) ?_
    intro x5 hx5
    have HY3 := Shut.mk (HY2.out.below hx5)
    obtain ⟨q0, qf0⟩ := (HY3.out.mb.at 0 rfl).1.2 0 _ rfl
    obtain ⟨q1, qf1⟩ := (HY3.out.mb.at 0 rfl).1.2 1 _ rfl
    refine wpA_step (y := (x5.setCell ⟨nb, 0, none⟩ (.slice c8 m8 d8)).setCell ⟨nb, 1, none⟩ (.int .i64 tx)) (i := 10) (by kernel_rfl) rfl (by rfl) (by go_simp) ?_
    have HZ := Shut.mk ((HY3.out.setBox 0 rfl 0 (.slice c8 m8 d8) (by simp)).setBox 0 rfl 1 (.int .i64 tx) (by simp))
    clear q0 qf0 q1 qf1 hx5 HY2 HY3
    simp only [Act.put]
    refine wpA_val (i := 11) (v := .int .i64 rc) rfl (by kernel_rfl) (by kernel_rfl) (by kernel_rfl) (fun _ _ _ h => h) (by rfl) (fun x => by go_simp) ?_
    try simp only [Act.put, qA, qB, qC]
    refine wpA_done (by kernel_rfl) ?_ _
    go_wp2_with fail
    go_meet
    case rel => exact ⟨nb, c8, m8, d8, _, _, rfl, rfl, ⟨HZ.out⟩⟩
   ·have HW := Shut.mk ((T1.out.below hx).new #[.slice none 0 0, .int .i64 0] 26)
    have HSEE := Shut.mk ((SE1.out.below hx).below ((Below.refl x.heap.size x).alloc (Nat.le_refl _) (.cells #[.slice none 0 0, .int .i64 0] 26)))
    obtain ⟨nb, hnb⟩ : ∃ nb, nb = x.heap.size := ⟨_, rfl⟩
    rw [← hnb] at HW ⊢
    generalize x.alloc (.cells #[.slice none 0 0, .int .i64 0] 26) = xx at HW HSEE ⊢
    clear hnb hx
    try simp only [Act.put, qA, qB, qC]
    refine wpD_onecall (f := 14) (args := #[.agg #[.slice c1 m1 d1, .int .i64 T.next], .agg #[.int .i64 kind, .string path, .string dest, .int .i64 num, .int .i64 who], .int .i64 gr]) (i := 5) (by kernel_rfl) rfl (by rfl) (fun x hx => by go_simp) (fun x hx => (HSP.out x _ _ _ (HSEE.out.below hx) HF.out HEF.out).mono ?_)
    rintro e y2 ⟨vv, rfl, hans, hb2⟩
    refine ⟨_, rfl, hb2, ?_⟩
    obtain ⟨c8, m8, d8, rfl⟩ := tans_is hans
    rw [← HTX9.out] at hans ⊢
    obtain ⟨lo9, hi9, hcall⟩ := (HW.out.below hx).call hans hb2
    have HY := Shut.mk hcall
    clear hcall hans hb2
    try simp only [Act.put, qA, qB, qC]
    clear hx HW HSEE
    refine wpD_pure (i := 6) (v := ?vk7) rfl (by kernel_rfl) (by kernel_rfl) (by kernel_rfl) (by kernel_rfl) (fun _ _ _ h => h) (by rfl) ?hyk7 ?restk7
    case hyk7 => (intro x; go_simp; try with_reducible rfl)
    try simp only [Act.put, qA, qB, qC]
    refine wpD_pure (i := 7) (v := ?vk8) rfl (by kernel_rfl) (by kernel_rfl) (by kernel_rfl) (by kernel_rfl) (fun _ _ _ h => h) (by rfl) ?hyk8 ?restk8
    case hyk8 => (intro x; go_simp; try with_reducible rfl)
    try simp only [Act.put, qA, qB, qC]
    refine wpD_pure (i := 8) (v := ?vk9) rfl (by kernel_rfl) (by kernel_rfl) (by kernel_rfl) (by kernel_rfl) (fun _ _ _ h => h) (by rfl) ?hyk9 ?restk9
    case hyk9 => (intro x; go_simp; try with_reducible rfl)
    try simp only [Act.put, qA, qB, qC]
    have HY2 := HY
    clear HY
    refine wpD_tail (by kernel_rfl) ?_
    intro x5 hx5
    have HY3 := Shut.mk (HY2.out.below hx5)
    obtain ⟨q0, qf0⟩ := (HY3.out.mb.at 0 rfl).1.2 0 _ rfl
    obtain ⟨q1, qf1⟩ := (HY3.out.mb.at 0 rfl).1.2 1 _ rfl
    refine wpA_step (y := (x5.setCell ⟨nb, 0, none⟩ (.slice c8 m8 d8)).setCell ⟨nb, 1, none⟩ (.int .i64 tx)) (i := 10) (by kernel_rfl) rfl (by rfl) (by go_simp) ?_
    have HZ := Shut.mk ((HY3.out.setBox 0 rfl 0 (.slice c8 m8 d8) (by simp)).setBox 0 rfl 1 (.int .i64 tx) (by simp))
    clear q0 qf0 q1 qf1 hx5 HY2 HY3
    simp only [Act.put]
    refine wpA_val (i := 11) (v := .int .i64 rc) rfl (by kernel_rfl) (by kernel_rfl) (by kernel_rfl) (fun _ _ _ h => h) (by rfl) (fun x => by go_simp) ?_
    try simp only [Act.put, qA, qB, qC]
    refine wpA_done (by kernel_rfl) ?_ _
    go_wp2_with fail
    go_meet
    case rel => exact ⟨nb, c8, m8, d8, _, _, rfl, rfl, ⟨HZ.out⟩⟩
  ·have T0 := Shut.mk ((HTX.out x hx).new #[.slice none 0 0, .int .i64 0] 26)
   obtain ⟨nb, hnb⟩ : ∃ nb, nb = x.heap.size := ⟨_, rfl⟩
   rw [← hnb] at T0 ⊢
   generalize x.alloc (.cells #[.slice none 0 0, .int .i64 0] 26) = xx at T0 ⊢
   clear hnb hx
   try simp only [Act.put, qA, qB, qC]
   refine wpD_onecall (f := 43) (args := #[.agg #[.slice a n cap, .int .i64 nx]]) (i := 1) (by kernel_rfl) rfl (by rfl) (fun x hx => by go_simp) (fun x hx => (toTree_val (FV.out.below (T0.out.below hx).bel) HF.out).mono ?_)
   rintro e y ⟨u1, rfl, hA, hby⟩
   refine ⟨_, rfl, hby, ?_⟩
   obtain ⟨c1, m1, d1, rfl⟩ := tans_is hA
   have T1 := Shut.mk ((T0.out.below hx).below hby)
   have SE1 := Shut.mk hA.see
   clear hA hby hx T0
   try simp only [Act.put, qA, qB, qC]
   refine wpD_call (i := 3) (v := .agg #[.int .i64 kind, .string path, .string dest, .int .i64 num, .int .i64 who]) (f := 44) (args := #[.agg #[.int .i64 kind, .string path, .string dest, .int .i64 num, .int .i64 who]]) rfl (by kernel_rfl) (by kernel_rfl) (by kernel_rfl) (by kernel_rfl) (fun _ _ _ h => h) (by rfl) (fun x hx => by go_simp; try with_reducible rfl) (fun x _ => HTE.out x) ?_
   try simp only [Act.put, qA, qB, qC]
   refine wpD_onecall (f := 14) (args := #[.agg #[.slice c1 m1 d1, .int .i64 T.next], .agg #[.int .i64 kind, .string path, .string dest, .int .i64 num, .int .i64 who], .int .i64 gr]) (i := 5) (by kernel_rfl) rfl (by rfl) (fun x hx => by go_simp) (fun x hx => (HSP.out x _ _ _ (SE1.out.below hx) HF.out HEF.out).mono ?_)
   rintro e y2 ⟨vv, rfl, hans, hb2⟩
   refine ⟨_, rfl, hb2, ?_⟩
   obtain ⟨c8, m8, d8, rfl⟩ := tans_is hans
   rw [← HTX9.out] at hans ⊢
   obtain ⟨lo9, hi9, hcall⟩ := (T1.out.below hx).call hans hb2
   have HY := Shut.mk hcall
   clear hcall hans hb2
   try simp only [Act.put, qA, qB, qC]
   clear hx
   refine wpD_pure (i := 6) (v := ?vk10) rfl (by kernel_rfl) (by kernel_rfl) (by kernel_rfl) (by kernel_rfl) (fun _ _ _ h => h) (by rfl) ?hyk10 ?restk10
   case hyk10 => (intro x; go_simp; try with_reducible rfl)
   try simp only [Act.put, qA, qB, qC]
   refine wpD_pure (i := 7) (v := ?vk11) rfl (by kernel_rfl) (by kernel_rfl) (by kernel_rfl) (by kernel_rfl) (fun _ _ _ h => h) (by rfl) ?hyk11 ?restk11
   case hyk11 => (intro x; go_simp; try with_reducible rfl)
   try simp only [Act.put, qA, qB, qC]
   refine wpD_pure (i := 8) (v := ?vk12) rfl (by kernel_rfl) (by kernel_rfl) (by kernel_rfl) (by kernel_rfl) (fun _ _ _ h => h) (by rfl) ?hyk12 ?restk12
   case hyk12 => (intro x; go_simp; try with_reducible rfl)
   try simp only [Act.put, qA, qB, qC]
   have HY2 := HY
   clear HY
   refine wpD_tail (by kernel_rfl) ?_
   intro x5 hx5
   have HY3 := Shut.mk (HY2.out.below hx5)
   obtain ⟨q0, qf0⟩ := (HY3.out.mb.at 0 rfl).1.2 0 _ rfl
   obtain ⟨q1, qf1⟩ := (HY3.out.mb.at 0 rfl).1.2 1 _ rfl
   refine wpA_step (y := (x5.setCell ⟨nb, 0, none⟩ (.slice c8 m8 d8)).setCell ⟨nb, 1, none⟩ (.int .i64 tx)) (i := 10) (by kernel_rfl) rfl (by rfl) (by go_simp) ?_
   have HZ := Shut.mk ((HY3.out.setBox 0 rfl 0 (.slice c8 m8 d8) (by simp)).setBox 0 rfl 1 (.int .i64 tx) (by simp))
   clear q0 qf0 q1 qf1 hx5 HY2 HY3
   simp only [Act.put]
   refine wpA_val (i := 11) (v := .int .i64 rc) rfl (by kernel_rfl) (by kernel_rfl) (by kernel_rfl) (fun _ _ _ h => h) (by rfl) (fun x => by go_simp) ?_
   try simp only [Act.put, qA, qB, qC]
   refine wpA_done (by kernel_rfl) ?_ _
   go_wp2_with fail
   go_meet
   case rel => exact ⟨nb, c8, m8, d8, _, _, rfl, rfl, ⟨HZ.out⟩⟩
 case rest =>
 obtain ⟨b8, c8, m8, d8, lo8, hi8, rfl, rfl, hS⟩ := hcut
 clear HT
 have HT := hS
 clear hS
 have tb0 := ((HT.out.mb.at 2 rfl).1.2 0 _ rfl).1
 have tb1 := ((HT.out.mb.at 2 rfl).1.2 1 _ rfl).1
 go_upto_region 10 with (go_at_call 43; refine (toTree_val (FV.out.below HT.out.bel) HF.out).mono ?_; rintro e w4 ⟨u2, rfl, hA, hb⟩; obtain ⟨c, m, cc, rfl⟩ := tans_is hA; rw [← HNX.out] at hA ⊢; obtain ⟨lo1, hi1, h9⟩ := HT.out.call hA hb; replace HT := Shut.mk h9; clear hA hb h9 tb0 tb1)
 obtain ⟨xb, hxb⟩ : ∃ xb, xb = w4.heap.size := ⟨_, rfl⟩
 rw [← hxb]
 refine wp_shade (fun W => TL w W [(xb, [.slice c m cc, .int .i64 nx]), (b8, [.slice c8 m8 d8, .int .i64 tx]), (eb, [.int .i64 kind, .string path, .string dest, .int .i64 num, .int .i64 who]), (tb, [.slice a n cap, .int .i64 nx])] [(.agg #[.slice c m cc, .int .i64 nx], T, lo1, hi1), (.agg #[.slice c8 m8 d8, .int .i64 tx], XT, lo8, hi8)] []) (by rw [hxb]; exact HT.out.new #[.slice c m cc, .int .i64 nx] 26) ?_
 intro w5 hW9
 replace HT := Shut.mk hW9
 clear hW9
 clear hxb
 go_cut [11, 12] from 39 to 46 (fun u8 u9 wq => ∃ (b11 : Nat) (c11 : Option Addr) (m11 d11 lo11 hi11 : Nat), u8 = .pointer (some ⟨b11, 0, none⟩) ∧ u9 = .int .i64 rc ∧ Shut (TL w wq [(b11, [.slice c11 m11 d11, .int .i64 tx]), (xb, [.slice c m cc, .int .i64 nx]), (b8, [.slice c8 m8 d8, .int .i64 tx]), (eb, [.int .i64 kind, .string path, .string dest, .int .i64 num, .int .i64 who]), (tb, [.slice a n cap, .int .i64 nx])] [(.agg #[.slice c11 m11 d11, .int .i64 tx], XT, lo11, hi11), (.agg #[.slice c m cc, .int .i64 nx], T, lo1, hi1), (.agg #[.slice c8 m8 d8, .int .i64 tx], XT, lo8, hi8)] []))
 case first =>
  have HTX : Shut (∀ x, Later w5.drew x → TL w x [(xb, [.slice c m cc, .int .i64 nx]), (b8, [.slice c8 m8 d8, .int .i64 tx]), (eb, [.int .i64 kind, .string path, .string dest, .int .i64 num, .int .i64 who]), (tb, [.slice a n cap, .int .i64 nx])] [(.agg #[.slice c m cc, .int .i64 nx], T, lo1, hi1), (.agg #[.slice c8 m8 d8, .int .i64 tx], XT, lo8, hi8)] []) := ⟨fun x hx => HT.out.below (Below.trans (Below.drew (Below.refl _ _)) hx)⟩
  have HLE : Shut (∀ x, Later w5.drew x → x.cell? ⟨xb, 0, none⟩ = some (.slice c m cc) ∧ x.cell? ⟨xb, 1, none⟩ = some (.int .i64 nx) ∧ x.cell? ⟨eb, 0, none⟩ = some (.int .i64 kind) ∧ x.cell? ⟨eb, 1, none⟩ = some (.string path) ∧ x.cell? ⟨eb, 2, none⟩ = some (.string dest) ∧ x.cell? ⟨eb, 3, none⟩ = some (.int .i64 num) ∧ x.cell? ⟨eb, 4, none⟩ = some (.int .i64 who)) := ⟨fun x hx => by
   have M := (HTX.out x hx).mb
   exact ⟨((M.at 0 rfl).1.2 0 _ rfl).1, ((M.at 0 rfl).1.2 1 _ rfl).1, ((M.at 2 rfl).1.2 0 _ rfl).1, ((M.at 2 rfl).1.2 1 _ rfl).1, ((M.at 2 rfl).1.2 2 _ rfl).1, ((M.at 2 rfl).1.2 3 _ rfl).1, ((M.at 2 rfl).1.2 4 _ rfl).1⟩⟩
  refine wp_region_set (fun j => decide (j = 5 ∨ j = 6 ∨ j = 7 ∨ 8 < j)) (by kernel_rfl) ?_
  refine wpD_val (i := 0) (v := ?v11a0) rfl (by kernel_rfl) (by kernel_rfl) (by kernel_rfl) (by kernel_rfl) (fun _ _ _ h => h) (by rfl) ?hy11a0 ?rest11a0
  case hy11a0 => (intro x hx; obtain ⟨d0, d1, d2, d3, d4, d5, d6⟩ := HLE.out x hx; go_simp; try with_reducible rfl)
  try simp only [Act.put, qA, qB, qC]
  refine wpD_val (i := 1) (v := ?v11a1) rfl (by kernel_rfl) (by kernel_rfl) (by kernel_rfl) (by kernel_rfl) (fun _ _ _ h => h) (by rfl) ?hy11a1 ?rest11a1
  case hy11a1 => (intro x hx; obtain ⟨d0, d1, d2, d3, d4, d5, d6⟩ := HLE.out x hx; go_simp; try with_reducible rfl)
  try simp only [Act.put, qA, qB, qC]
  refine wpD_val (i := 3) (v := ?v11a3) rfl (by kernel_rfl) (by kernel_rfl) (by kernel_rfl) (by kernel_rfl) (fun _ _ _ h => h) (by rfl) ?hy11a3 ?rest11a3
  case hy11a3 => (intro x hx; obtain ⟨d0, d1, d2, d3, d4, d5, d6⟩ := HLE.out x hx; go_simp; try with_reducible rfl)
  try simp only [Act.put, qA, qB, qC]
  refine wpD_call (i := 2) (v := .agg #[.int .i64 kind, .string path, .string dest, .int .i64 num, .int .i64 who]) (f := 44) (args := #[.agg #[.int .i64 kind, .string path, .string dest, .int .i64 num, .int .i64 who]]) rfl (by kernel_rfl) (by kernel_rfl) (by kernel_rfl) (by kernel_rfl) (fun _ _ _ h => h) (by rfl) (fun x hx => by go_simp; try with_reducible rfl) (fun x _ => HTE.out x) ?_
  try simp only [Act.put, qA, qB, qC]
  refine wpD_callbox (f := 13) (args := #[.agg #[.slice c m cc, .int .i64 nx], .agg #[.int .i64 kind, .string path, .string dest, .int .i64 num, .int .i64 who], .int .i64 gr]) (C := #[.slice none 0 0, .int .i64 0]) (t := 26) (i := 4) (j := 8) (by kernel_rfl) rfl rfl (by rfl) (by rfl) (fun x hx => by go_simp) (fun x hx => by kernel_rfl) (fun x hx => (HIM.out x _ _ _ ((HTX.out x hx).at 0 rfl).see HF.out HEF.out).mono ?_) (fun x hx => ?_)
  ·rintro e y2 ⟨vv, rfl, hans, hb2⟩
   refine ⟨_, rfl, hb2, ?_⟩
   obtain ⟨c11, m11, d11, rfl⟩ := tans_is hans
   rw [← HTX9.out] at hans ⊢
   obtain ⟨lo9, hi9, hcall⟩ := (HTX.out x hx).call hans hb2
   have HY := Shut.mk hcall
   clear hcall hans hb2
   try simp only [Act.put, qA, qB, qC]
   clear hx
   refine wpD_pure (i := 5) (v := ?vk13) rfl (by kernel_rfl) (by kernel_rfl) (by kernel_rfl) (by kernel_rfl) (fun _ _ _ h => h) (by rfl) ?hyk13 ?restk13
   case hyk13 => (intro x; go_simp; try with_reducible rfl)
   try simp only [Act.put, qA, qB, qC]
   refine wpD_pure (i := 6) (v := ?vk14) rfl (by kernel_rfl) (by kernel_rfl) (by kernel_rfl) (by kernel_rfl) (fun _ _ _ h => h) (by rfl) ?hyk14 ?restk14
   case hyk14 => (intro x; go_simp; try with_reducible rfl)
   try simp only [Act.put, qA, qB, qC]
   refine wpD_pure (i := 7) (v := ?vk15) rfl (by kernel_rfl) (by kernel_rfl) (by kernel_rfl) (by kernel_rfl) (fun _ _ _ h => h) (by rfl) ?hyk15 ?restk15
   case hyk15 => (intro x; go_simp; try with_reducible rfl)
   try simp only [Act.put, qA, qB, qC]
   refine wpD_one (i := 8) (by kernel_rfl) rfl (by rfl) (fun x2 hx2 => ⟨.pointer (some ⟨x2.heap.size, 0, none⟩), x2.alloc (.cells #[.slice none 0 0, .int .i64 0] 26), by kernel_rfl, (Below.refl _ _).alloc (Nat.le_refl _) _, ?_⟩)
   have HY2 := Shut.mk ((HY.out.below hx2).new #[.slice none 0 0, .int .i64 0] 26)
   obtain ⟨nb, hnb⟩ : ∃ nb, nb = x2.heap.size := ⟨_, rfl⟩
   rw [← hnb] at HY2 ⊢
   clear hx2 hnb HY
   try simp only [Act.put, qA, qB, qC]
   refine wpD_tail (by kernel_rfl) ?_
   intro x5 hx5
   have HY3 := Shut.mk (HY2.out.below hx5)
   obtain ⟨q0, qf0⟩ := (HY3.out.mb.at 0 rfl).1.2 0 _ rfl
   obtain ⟨q1, qf1⟩ := (HY3.out.mb.at 0 rfl).1.2 1 _ rfl
   refine wpA_step (y := (x5.setCell ⟨nb, 0, none⟩ (.slice c11 m11 d11)).setCell ⟨nb, 1, none⟩ (.int .i64 tx)) (i := 9) (by kernel_rfl) rfl (by rfl) (by go_simp) ?_
   have HZ := Shut.mk ((HY3.out.setBox 0 rfl 0 (.slice c11 m11 d11) (by simp)).setBox 0 rfl 1 (.int .i64 tx) (by simp))
   clear q0 qf0 q1 qf1 hx5 HY2 HY3
   simp only [Act.put]
   refine wpA_val (i := 10) (v := .int .i64 rc) rfl (by kernel_rfl) (by kernel_rfl) (by kernel_rfl) (fun _ _ _ h => h) (by rfl) (fun x => by go_simp) ?_
   try simp only [Act.put, qA, qB, qC]
   refine wpA_done (by kernel_rfl) ?_ _
   go_wp2_with fail
   go_meet
   case rel => exact ⟨nb, c11, m11, d11, _, _, rfl, rfl, ⟨HZ.out⟩⟩
  ·have HW := Shut.mk ((HTX.out x hx).new #[.slice none 0 0, .int .i64 0] 26)
   have HSEE := Shut.mk (((HTX.out x hx).at 0 rfl).see.below ((Below.refl x.heap.size x).alloc (Nat.le_refl _) (.cells #[.slice none 0 0, .int .i64 0] 26)))
   obtain ⟨nb, hnb⟩ : ∃ nb, nb = x.heap.size := ⟨_, rfl⟩
   rw [← hnb] at HW ⊢
   generalize x.alloc (.cells #[.slice none 0 0, .int .i64 0] 26) = xx at HW HSEE ⊢
   clear hnb hx
   try simp only [Act.put, qA, qB, qC]
   refine wpD_onecall (f := 13) (args := #[.agg #[.slice c m cc, .int .i64 nx], .agg #[.int .i64 kind, .string path, .string dest, .int .i64 num, .int .i64 who], .int .i64 gr]) (i := 4) (by kernel_rfl) rfl (by rfl) (fun x hx => by go_simp) (fun x hx => (HIM.out x _ _ _ (HSEE.out.below hx) HF.out HEF.out).mono ?_)
   rintro e y2 ⟨vv, rfl, hans, hb2⟩
   refine ⟨_, rfl, hb2, ?_⟩
   obtain ⟨c11, m11, d11, rfl⟩ := tans_is hans
   rw [← HTX9.out] at hans ⊢
   obtain ⟨lo9, hi9, hcall⟩ := (HW.out.below hx).call hans hb2
   have HY := Shut.mk hcall
   clear hcall hans hb2
   try simp only [Act.put, qA, qB, qC]
   clear hx HW HSEE
   refine wpD_pure (i := 5) (v := ?vk16) rfl (by kernel_rfl) (by kernel_rfl) (by kernel_rfl) (by kernel_rfl) (fun _ _ _ h => h) (by rfl) ?hyk16 ?restk16
   case hyk16 => (intro x; go_simp; try with_reducible rfl)
   try simp only [Act.put, qA, qB, qC]
   refine wpD_pure (i := 6) (v := ?vk17) rfl (by kernel_rfl) (by kernel_rfl) (by kernel_rfl) (by kernel_rfl) (fun _ _ _ h => h) (by rfl) ?hyk17 ?restk17
   case hyk17 => (intro x; go_simp; try with_reducible rfl)
   try simp only [Act.put, qA, qB, qC]
   refine wpD_pure (i := 7) (v := ?vk18) rfl (by kernel_rfl) (by kernel_rfl) (by kernel_rfl) (by kernel_rfl) (fun _ _ _ h => h) (by rfl) ?hyk18 ?restk18
   case hyk18 => (intro x; go_simp; try with_reducible rfl)
   try simp only [Act.put, qA, qB, qC]
   have HY2 := HY
   clear HY
   refine wpD_tail (by kernel_rfl) ?_
   intro x5 hx5
   have HY3 := Shut.mk (HY2.out.below hx5)
   obtain ⟨q0, qf0⟩ := (HY3.out.mb.at 0 rfl).1.2 0 _ rfl
   obtain ⟨q1, qf1⟩ := (HY3.out.mb.at 0 rfl).1.2 1 _ rfl
   refine wpA_step (y := (x5.setCell ⟨nb, 0, none⟩ (.slice c11 m11 d11)).setCell ⟨nb, 1, none⟩ (.int .i64 tx)) (i := 9) (by kernel_rfl) rfl (by rfl) (by go_simp) ?_
   have HZ := Shut.mk ((HY3.out.setBox 0 rfl 0 (.slice c11 m11 d11) (by simp)).setBox 0 rfl 1 (.int .i64 tx) (by simp))
   clear q0 qf0 q1 qf1 hx5 HY2 HY3
   simp only [Act.put]
   refine wpA_val (i := 10) (v := .int .i64 rc) rfl (by kernel_rfl) (by kernel_rfl) (by kernel_rfl) (fun _ _ _ h => h) (by rfl) (fun x => by go_simp) ?_
   try simp only [Act.put, qA, qB, qC]
   refine wpA_done (by kernel_rfl) ?_ _
   go_wp2_with fail
   go_meet
   case rel => exact ⟨nb, c11, m11, d11, _, _, rfl, rfl, ⟨HZ.out⟩⟩
 case rest =>
 obtain ⟨b11, c11, m11, d11, lo11, hi11, rfl, rfl, hS⟩ := hcut
 clear HT
 have HT := hS
 clear hS
 have b110 := ((HT.out.mb.at 0 rfl).1.2 0 _ rfl).1
 have b111 := ((HT.out.mb.at 0 rfl).1.2 1 _ rfl).1
 have b80 := ((HT.out.mb.at 2 rfl).1.2 0 _ rfl).1
 have b81 := ((HT.out.mb.at 2 rfl).1.2 1 _ rfl).1
 go_upto_region 13 with (go_at_call 45; refine (eqTree_val (HT.out.at 0 rfl).see (HT.out.at 2 rfl).see HXF.out).mono ?_; rintro e w6 ⟨rfl, hb⟩; replace HT := Shut.mk (HT.out.below hb); clear hb b110 b111 b80 b81)
 have HTX : Shut (∀ x, Later w6.drew x → TL w x [(b11, [.slice c11 m11 d11, .int .i64 tx]), (xb, [.slice c m cc, .int .i64 nx]), (b8, [.slice c8 m8 d8, .int .i64 tx]), (eb, [.int .i64 kind, .string path, .string dest, .int .i64 num, .int .i64 who]), (tb, [.slice a n cap, .int .i64 nx])] [(.agg #[.slice c11 m11 d11, .int .i64 tx], XT, lo11, hi11), (.agg #[.slice c m cc, .int .i64 nx], T, lo1, hi1), (.agg #[.slice c8 m8 d8, .int .i64 tx], XT, lo8, hi8)] []) := ⟨fun x hx => HT.out.below (Below.trans (Below.drew (Below.refl _ _)) hx)⟩
 have HLE : Shut (∀ x, Later w6.drew x → x.cell? ⟨xb, 0, none⟩ = some (.slice c m cc) ∧ x.cell? ⟨xb, 1, none⟩ = some (.int .i64 nx) ∧ x.cell? ⟨tb, 0, none⟩ = some (.slice a n cap) ∧ x.cell? ⟨tb, 1, none⟩ = some (.int .i64 nx)) := ⟨fun x hx => by
  have M := (HTX.out x hx).mb
  exact ⟨((M.at 1 rfl).1.2 0 _ rfl).1, ((M.at 1 rfl).1.2 1 _ rfl).1, ((M.at 4 rfl).1.2 0 _ rfl).1, ((M.at 4 rfl).1.2 1 _ rfl).1⟩⟩
 refine wp_region_tail 5 (by kernel_rfl) ?_
 refine wpK_val (i := 0) (v := ?vc0) rfl (by kernel_rfl) (by kernel_rfl) (by kernel_rfl) (by kernel_rfl) (fun _ _ _ h => h) (by rfl) ?hyc0 ?restc0
 case hyc0 => (intro x hx; obtain ⟨d0, d1, d2, d3⟩ := HLE.out x hx; go_simp; try with_reducible rfl)
 try simp only [Act.put, qA, qB, qC]
 refine wpK_val (i := 1) (v := ?vc1) rfl (by kernel_rfl) (by kernel_rfl) (by kernel_rfl) (by kernel_rfl) (fun _ _ _ h => h) (by rfl) ?hyc1 ?restc1
 case hyc1 => (intro x hx; obtain ⟨d0, d1, d2, d3⟩ := HLE.out x hx; go_simp; try with_reducible rfl)
 try simp only [Act.put, qA, qB, qC]
 refine wpK_onecall (f := 43) (args := #[.agg #[.slice a n cap, .int .i64 nx]]) (i := 2) (by kernel_rfl) rfl (by rfl) (fun x hx => by go_simp) (fun x hx => (toTree_val (FV.out.below (HTX.out x hx).bel) HF.out).mono ?_)
 rintro e y ⟨u1, rfl, hA, hby⟩
 refine ⟨_, rfl, hby, ?_⟩
 obtain ⟨c1, m1, d1, rfl⟩ := tans_is hA
 have T1 := Shut.mk ((HTX.out x hx).below hby)
 have SE1 := Shut.mk hA.see
 clear hA hby hx
 try simp only [Act.put, qA, qB, qC]
 refine wpK_call (i := 3) (v := .bool true) (f := 45) (args := #[.agg #[.slice c m cc, .int .i64 nx], .agg #[.slice c1 m1 d1, .int .i64 T.next]]) rfl (by kernel_rfl) (by kernel_rfl) (by kernel_rfl) (by kernel_rfl) (fun _ _ _ h => h) (by rfl) (fun x hx => by go_simp; try with_reducible rfl) (fun x hx => eqTree_val ((T1.out.below hx).at 1 rfl).see (SE1.out.below hx) HF.out) ?_
 try simp only [Act.put, qA, qB, qC]
 refine wpK_val (i := 4) (v := ?vk19) rfl (by kernel_rfl) (by kernel_rfl) (by kernel_rfl) (by kernel_rfl) (fun _ _ _ h => h) (by rfl) ?hyk19 ?restk19
 case hyk19 => (intro x hx; go_simp; try with_reducible rfl)
 try simp only [Act.put, qA, qB, qC]
 refine wpK_done (by kernel_rfl) ?_ _
 intro w7 hy9
 have T9 := Shut.mk (T1.out.below hy9)
 clear hy9 HTX HLE HT T1 SE1
 have HT := T9
 clear T9
 obtain ⟨K1, hK1⟩ : ∃ K, K = markK 1 T.nodes := ⟨_, rfl⟩
 obtain ⟨K2, hK2⟩ : ∃ K, K = markK 1 XT.nodes := ⟨_, rfl⟩
 have HM1 := Shut.mk (fun (W : World) (u : Value) (lo hi : Nat) (q : TAns W u T lo hi) => markTree_val 1 q HF.out (by omega) (by omega))
 have HM2 := Shut.mk (fun (W : World) (u : Value) (lo hi : Nat) (q : TAns W u XT lo hi) => markTree_val 1 q HXF.out (by omega) (by omega))
 have HH2 := Shut.mk (fun (W : World) (u : Value) (lo hi : Nat) (q : THeld W u 1 XT lo hi) => heldTree_val q HXF.out (by omega) (by omega))
 rw [← hK1] at HM1
 rw [← hK2] at HM2 HH2
 clear hK1 hK2
 have k10 : ¬ (K1 : Int) < 0 := by omega
 have k20 : ¬ (K2 : Int) < 0 := by omega
 have k11 : decide ((K1 : Int) < 0) = false := by simp
 have k21 : decide ((K2 : Int) < 0) = false := by simp
 have k22 : ((K2 : Int) != (K2 : Int)) = false := by simp
 have xb0 := ((HT.out.mb.at 1 rfl).1.2 0 _ rfl).1
 have xb1 := ((HT.out.mb.at 1 rfl).1.2 1 _ rfl).1
 go_upto_region 17 with (go_at_call 46; refine (HM1.out _ _ _ _ (HT.out.at 1 rfl)).mono ?_; rintro e w8 ⟨rfl, hH, ht⟩; replace HT := Shut.mk (TL.mark [(.agg #[.slice c11 m11 d11, .int .i64 tx], XT, lo11, hi11)] [(.agg #[.slice c8 m8 d8, .int .i64 tx], XT, lo8, hi8)] HT.out hH ht); clear hH ht xb0 xb1)
 replace HT : Shut (TL w w8 [(b11, [.slice c11 m11 d11, .int .i64 tx]), (xb, [.slice c m cc, .int .i64 nx]), (b8, [.slice c8 m8 d8, .int .i64 tx]), (eb, [.int .i64 kind, .string path, .string dest, .int .i64 num, .int .i64 who]), (tb, [.slice a n cap, .int .i64 nx])] [(.agg #[.slice c11 m11 d11, .int .i64 tx], XT, lo11, hi11), (.agg #[.slice c8 m8 d8, .int .i64 tx], XT, lo8, hi8)] [(.agg #[.slice c m cc, .int .i64 nx], T, lo1, hi1)]) := HT
 have b110 := ((HT.out.mb.at 0 rfl).1.2 0 _ rfl).1
 have b111 := ((HT.out.mb.at 0 rfl).1.2 1 _ rfl).1
 have b80 := ((HT.out.mb.at 2 rfl).1.2 0 _ rfl).1
 have b81 := ((HT.out.mb.at 2 rfl).1.2 1 _ rfl).1
 go_upto_region 20 with (go_at_call 45; refine (eqTree_val (HT.out.at 0 rfl).see (HT.out.at 1 rfl).see HXF.out).mono ?_; rintro e w9 ⟨rfl, hb⟩; replace HT := Shut.mk (HT.out.below hb); clear hb b110 b111 b80 b81)
 have b110 := ((HT.out.mb.at 0 rfl).1.2 0 _ rfl).1
 have b111 := ((HT.out.mb.at 0 rfl).1.2 1 _ rfl).1
 go_upto_region 22 with (go_at_call 46; refine (HM2.out _ _ _ _ (HT.out.at 0 rfl)).mono ?_; rintro e w10 ⟨rfl, hH, ht⟩; replace HT := Shut.mk (TL.mark [] [(.agg #[.slice c8 m8 d8, .int .i64 tx], XT, lo8, hi8)] HT.out hH ht); clear hH ht b110 b111)
 replace HT : Shut (TL w w10 [(b11, [.slice c11 m11 d11, .int .i64 tx]), (xb, [.slice c m cc, .int .i64 nx]), (b8, [.slice c8 m8 d8, .int .i64 tx]), (eb, [.int .i64 kind, .string path, .string dest, .int .i64 num, .int .i64 who]), (tb, [.slice a n cap, .int .i64 nx])] [(.agg #[.slice c8 m8 d8, .int .i64 tx], XT, lo8, hi8)] [(.agg #[.slice c11 m11 d11, .int .i64 tx], XT, lo11, hi11), (.agg #[.slice c m cc, .int .i64 nx], T, lo1, hi1)]) := HT
 have b110 := ((HT.out.mb.at 0 rfl).1.2 0 _ rfl).1
 have b111 := ((HT.out.mb.at 0 rfl).1.2 1 _ rfl).1
 go_upto_region 27 with (go_at_call 47; refine (HH2.out _ _ _ _ (HT.out.hat 0 rfl)).mono ?_; rintro e w11 ⟨rfl, hb⟩; replace HT := Shut.mk (HT.out.below hb); clear hb b110 b111)
 go_cut [16, 17] from 88 to 96 (fun u8 u9 wq => ∃ (b16 : Nat) (c16 : Option Addr) (m16 d16 lo16 hi16 : Nat), u8 = .pointer (some ⟨b16, 0, none⟩) ∧ u9 = .int .i64 rc ∧ Shut (TL w wq [(b16, [.slice c16 m16 d16, .int .i64 tx]), (b11, [.slice c11 m11 d11, .int .i64 tx]), (xb, [.slice c m cc, .int .i64 nx]), (b8, [.slice c8 m8 d8, .int .i64 tx]), (eb, [.int .i64 kind, .string path, .string dest, .int .i64 num, .int .i64 who]), (tb, [.slice a n cap, .int .i64 nx])] [(.agg #[.slice c16 m16 d16, .int .i64 tx], XT, lo16, hi16), (.agg #[.slice c8 m8 d8, .int .i64 tx], XT, lo8, hi8)] [(.agg #[.slice c11 m11 d11, .int .i64 tx], XT, lo11, hi11), (.agg #[.slice c m cc, .int .i64 nx], T, lo1, hi1)]))
 case first =>
  have HTX : Shut (∀ x, Later w11.drew x → TL w x [(b11, [.slice c11 m11 d11, .int .i64 tx]), (xb, [.slice c m cc, .int .i64 nx]), (b8, [.slice c8 m8 d8, .int .i64 tx]), (eb, [.int .i64 kind, .string path, .string dest, .int .i64 num, .int .i64 who]), (tb, [.slice a n cap, .int .i64 nx])] [(.agg #[.slice c8 m8 d8, .int .i64 tx], XT, lo8, hi8)] [(.agg #[.slice c11 m11 d11, .int .i64 tx], XT, lo11, hi11), (.agg #[.slice c m cc, .int .i64 nx], T, lo1, hi1)]) := ⟨fun x hx => HT.out.below (Below.trans (Below.drew (Below.refl _ _)) hx)⟩
  have HLE : Shut (∀ x, Later w11.drew x → x.cell? ⟨eb, 0, none⟩ = some (.int .i64 kind) ∧ x.cell? ⟨eb, 1, none⟩ = some (.string path) ∧ x.cell? ⟨eb, 2, none⟩ = some (.string dest) ∧ x.cell? ⟨eb, 3, none⟩ = some (.int .i64 num) ∧ x.cell? ⟨eb, 4, none⟩ = some (.int .i64 who) ∧ x.cell? ⟨tb, 0, none⟩ = some (.slice a n cap) ∧ x.cell? ⟨tb, 1, none⟩ = some (.int .i64 nx)) := ⟨fun x hx => by
   have M := (HTX.out x hx).mb
   exact ⟨((M.at 3 rfl).1.2 0 _ rfl).1, ((M.at 3 rfl).1.2 1 _ rfl).1, ((M.at 3 rfl).1.2 2 _ rfl).1, ((M.at 3 rfl).1.2 3 _ rfl).1, ((M.at 3 rfl).1.2 4 _ rfl).1, ((M.at 4 rfl).1.2 0 _ rfl).1, ((M.at 4 rfl).1.2 1 _ rfl).1⟩⟩
  refine wp_region_set (fun j => decide (j = 6 ∨ j = 7 ∨ j = 8 ∨ 9 < j)) (by kernel_rfl) ?_
  refine wpD_val (i := 0) (v := ?v16a0) rfl (by kernel_rfl) (by kernel_rfl) (by kernel_rfl) (by kernel_rfl) (fun _ _ _ h => h) (by rfl) ?hy16a0 ?rest16a0
  case hy16a0 => (intro x hx; obtain ⟨d0, d1, d2, d3, d4, d5, d6⟩ := HLE.out x hx; go_simp; try with_reducible rfl)
  try simp only [Act.put, qA, qB, qC]
  refine wpD_val (i := 2) (v := ?v16a2) rfl (by kernel_rfl) (by kernel_rfl) (by kernel_rfl) (by kernel_rfl) (fun _ _ _ h => h) (by rfl) ?hy16a2 ?rest16a2
  case hy16a2 => (intro x hx; obtain ⟨d0, d1, d2, d3, d4, d5, d6⟩ := HLE.out x hx; go_simp; try with_reducible rfl)
  try simp only [Act.put, qA, qB, qC]
  refine wpD_val (i := 4) (v := ?v16a4) rfl (by kernel_rfl) (by kernel_rfl) (by kernel_rfl) (by kernel_rfl) (fun _ _ _ h => h) (by rfl) ?hy16a4 ?rest16a4
  case hy16a4 => (intro x hx; obtain ⟨d0, d1, d2, d3, d4, d5, d6⟩ := HLE.out x hx; go_simp; try with_reducible rfl)
  try simp only [Act.put, qA, qB, qC]
  refine wpD_callbox (f := 43) (args := #[.agg #[.slice a n cap, .int .i64 nx]]) (C := #[.slice none 0 0, .int .i64 0]) (t := 26) (i := 1) (j := 9) (by kernel_rfl) rfl rfl (by rfl) (by rfl) (fun x hx => by go_simp) (fun x hx => by kernel_rfl) (fun x hx => (toTree_val (FV.out.below (HTX.out x hx).bel) HF.out).mono ?_) (fun x hx => ?_)
  ·rintro e y ⟨u1, rfl, hA, hby⟩
   refine ⟨_, rfl, hby, ?_⟩
   obtain ⟨c1, m1, d1, rfl⟩ := tans_is hA
   have T1 := Shut.mk ((HTX.out x hx).below hby)
   have SE1 := Shut.mk hA.see
   clear hA hby hx
   try simp only [Act.put, qA, qB, qC]
   refine wpD_call (i := 3) (v := .agg #[.int .i64 kind, .string path, .string dest, .int .i64 num, .int .i64 who]) (f := 44) (args := #[.agg #[.int .i64 kind, .string path, .string dest, .int .i64 num, .int .i64 who]]) rfl (by kernel_rfl) (by kernel_rfl) (by kernel_rfl) (by kernel_rfl) (fun _ _ _ h => h) (by rfl) (fun x hx => by go_simp; try with_reducible rfl) (fun x _ => HTE.out x) ?_
   try simp only [Act.put, qA, qB, qC]
   refine wpD_callbox (f := 13) (args := #[.agg #[.slice c1 m1 d1, .int .i64 T.next], .agg #[.int .i64 kind, .string path, .string dest, .int .i64 num, .int .i64 who], .int .i64 gr]) (C := #[.slice none 0 0, .int .i64 0]) (t := 26) (i := 5) (j := 9) (by kernel_rfl) rfl rfl (by rfl) (by rfl) (fun x hx => by go_simp) (fun x hx => by kernel_rfl) (fun x hx => (HIM.out x _ _ _ (SE1.out.below hx) HF.out HEF.out).mono ?_) (fun x hx => ?_)
   ·rintro e y2 ⟨vv, rfl, hans, hb2⟩
    refine ⟨_, rfl, hb2, ?_⟩
    obtain ⟨c16, m16, d16, rfl⟩ := tans_is hans
    rw [← HTX9.out] at hans ⊢
    obtain ⟨lo9, hi9, hcall⟩ := (T1.out.below hx).call hans hb2
    have HY := Shut.mk hcall
    clear hcall hans hb2
    try simp only [Act.put, qA, qB, qC]
    clear hx
    refine wpD_pure (i := 6) (v := ?vk20) rfl (by kernel_rfl) (by kernel_rfl) (by kernel_rfl) (by kernel_rfl) (fun _ _ _ h => h) (by rfl) ?hyk20 ?restk20
    case hyk20 => (intro x; go_simp; try with_reducible rfl)
    try simp only [Act.put, qA, qB, qC]
    refine wpD_pure (i := 7) (v := ?vk21) rfl (by kernel_rfl) (by kernel_rfl) (by kernel_rfl) (by kernel_rfl) (fun _ _ _ h => h) (by rfl) ?hyk21 ?restk21
    case hyk21 => (intro x; go_simp; try with_reducible rfl)
    try simp only [Act.put, qA, qB, qC]
    refine wpD_pure (i := 8) (v := ?vk22) rfl (by kernel_rfl) (by kernel_rfl) (by kernel_rfl) (by kernel_rfl) (fun _ _ _ h => h) (by rfl) ?hyk22 ?restk22
    case hyk22 => (intro x; go_simp; try with_reducible rfl)
    try simp only [Act.put, qA, qB, qC]
    refine wpD_one (i := 9) (by kernel_rfl) rfl (by rfl) (fun x2 hx2 => ⟨.pointer (some ⟨x2.heap.size, 0, none⟩), x2.alloc (.cells #[.slice none 0 0, .int .i64 0] 26), by kernel_rfl, (Below.refl _ _).alloc (Nat.le_refl _) _, ?_⟩)
    have HY2 := Shut.mk ((HY.out.below hx2).new #[.slice none 0 0, .int .i64 0] 26)
    obtain ⟨nb, hnb⟩ : ∃ nb, nb = x2.heap.size := ⟨_, rfl⟩
    rw [← hnb] at HY2 ⊢
    clear hx2 hnb HY
    try simp only [Act.put, qA, qB, qC]
    refine wpD_tail (by kernel_rfl) ?_
    intro x5 hx5
    have HY3 := Shut.mk (HY2.out.below hx5)
    obtain ⟨q0, qf0⟩ := (HY3.out.mb.at 0 rfl).1.2 0 _ rfl
    obtain ⟨q1, qf1⟩ := (HY3.out.mb.at 0 rfl).1.2 1 _ rfl
    refine wpA_step (y := (x5.setCell ⟨nb, 0, none⟩ (.slice c16 m16 d16)).setCell ⟨nb, 1, none⟩ (.int .i64 tx)) (i := 10) (by kernel_rfl) rfl (by rfl) (by go_simp) ?_
    have HZ := Shut.mk ((HY3.out.setBox 0 rfl 0 (.slice c16 m16 d16) (by simp)).setBox 0 rfl 1 (.int .i64 tx) (by simp))
    clear q0 qf0 q1 qf1 hx5 HY2 HY3
    simp only [Act.put]
    refine wpA_val (i := 11) (v := .int .i64 rc) rfl (by kernel_rfl) (by kernel_rfl) (by kernel_rfl) (fun _ _ _ h => h) (by rfl) (fun x => by go_simp) ?_
    try simp only [Act.put, qA, qB, qC]
    refine wpA_done (by kernel_rfl) ?_ _
    go_wp2_with fail
    go_meet
    case rel => exact ⟨nb, c16, m16, d16, _, _, rfl, rfl, ⟨HZ.out⟩⟩
   ·have HW := Shut.mk ((T1.out.below hx).new #[.slice none 0 0, .int .i64 0] 26)
    have HSEE := Shut.mk ((SE1.out.below hx).below ((Below.refl x.heap.size x).alloc (Nat.le_refl _) (.cells #[.slice none 0 0, .int .i64 0] 26)))
    obtain ⟨nb, hnb⟩ : ∃ nb, nb = x.heap.size := ⟨_, rfl⟩
    rw [← hnb] at HW ⊢
    generalize x.alloc (.cells #[.slice none 0 0, .int .i64 0] 26) = xx at HW HSEE ⊢
    clear hnb hx
    try simp only [Act.put, qA, qB, qC]
    refine wpD_onecall (f := 13) (args := #[.agg #[.slice c1 m1 d1, .int .i64 T.next], .agg #[.int .i64 kind, .string path, .string dest, .int .i64 num, .int .i64 who], .int .i64 gr]) (i := 5) (by kernel_rfl) rfl (by rfl) (fun x hx => by go_simp) (fun x hx => (HIM.out x _ _ _ (HSEE.out.below hx) HF.out HEF.out).mono ?_)
    rintro e y2 ⟨vv, rfl, hans, hb2⟩
    refine ⟨_, rfl, hb2, ?_⟩
    obtain ⟨c16, m16, d16, rfl⟩ := tans_is hans
    rw [← HTX9.out] at hans ⊢
    obtain ⟨lo9, hi9, hcall⟩ := (HW.out.below hx).call hans hb2
    have HY := Shut.mk hcall
    clear hcall hans hb2
    try simp only [Act.put, qA, qB, qC]
    clear hx HW HSEE
    refine wpD_pure (i := 6) (v := ?vk23) rfl (by kernel_rfl) (by kernel_rfl) (by kernel_rfl) (by kernel_rfl) (fun _ _ _ h => h) (by rfl) ?hyk23 ?restk23
    case hyk23 => (intro x; go_simp; try with_reducible rfl)
    try simp only [Act.put, qA, qB, qC]
    refine wpD_pure (i := 7) (v := ?vk24) rfl (by kernel_rfl) (by kernel_rfl) (by kernel_rfl) (by kernel_rfl) (fun _ _ _ h => h) (by rfl) ?hyk24 ?restk24
    case hyk24 => (intro x; go_simp; try with_reducible rfl)
    try simp only [Act.put, qA, qB, qC]
    refine wpD_pure (i := 8) (v := ?vk25) rfl (by kernel_rfl) (by kernel_rfl) (by kernel_rfl) (by kernel_rfl) (fun _ _ _ h => h) (by rfl) ?hyk25 ?restk25
    case hyk25 => (intro x; go_simp; try with_reducible rfl)
    try simp only [Act.put, qA, qB, qC]
    have HY2 := HY
    clear HY
    refine wpD_tail (by kernel_rfl) ?_
    intro x5 hx5
    have HY3 := Shut.mk (HY2.out.below hx5)
    obtain ⟨q0, qf0⟩ := (HY3.out.mb.at 0 rfl).1.2 0 _ rfl
    obtain ⟨q1, qf1⟩ := (HY3.out.mb.at 0 rfl).1.2 1 _ rfl
    refine wpA_step (y := (x5.setCell ⟨nb, 0, none⟩ (.slice c16 m16 d16)).setCell ⟨nb, 1, none⟩ (.int .i64 tx)) (i := 10) (by kernel_rfl) rfl (by rfl) (by go_simp) ?_
    have HZ := Shut.mk ((HY3.out.setBox 0 rfl 0 (.slice c16 m16 d16) (by simp)).setBox 0 rfl 1 (.int .i64 tx) (by simp))
    clear q0 qf0 q1 qf1 hx5 HY2 HY3
    simp only [Act.put]
    refine wpA_val (i := 11) (v := .int .i64 rc) rfl (by kernel_rfl) (by kernel_rfl) (by kernel_rfl) (fun _ _ _ h => h) (by rfl) (fun x => by go_simp) ?_
    try simp only [Act.put, qA, qB, qC]
    refine wpA_done (by kernel_rfl) ?_ _
    go_wp2_with fail
    go_meet
    case rel => exact ⟨nb, c16, m16, d16, _, _, rfl, rfl, ⟨HZ.out⟩⟩
  ·have T0 := Shut.mk ((HTX.out x hx).new #[.slice none 0 0, .int .i64 0] 26)
   obtain ⟨nb, hnb⟩ : ∃ nb, nb = x.heap.size := ⟨_, rfl⟩
   rw [← hnb] at T0 ⊢
   generalize x.alloc (.cells #[.slice none 0 0, .int .i64 0] 26) = xx at T0 ⊢
   clear hnb hx
   try simp only [Act.put, qA, qB, qC]
   refine wpD_onecall (f := 43) (args := #[.agg #[.slice a n cap, .int .i64 nx]]) (i := 1) (by kernel_rfl) rfl (by rfl) (fun x hx => by go_simp) (fun x hx => (toTree_val (FV.out.below (T0.out.below hx).bel) HF.out).mono ?_)
   rintro e y ⟨u1, rfl, hA, hby⟩
   refine ⟨_, rfl, hby, ?_⟩
   obtain ⟨c1, m1, d1, rfl⟩ := tans_is hA
   have T1 := Shut.mk ((T0.out.below hx).below hby)
   have SE1 := Shut.mk hA.see
   clear hA hby hx T0
   try simp only [Act.put, qA, qB, qC]
   refine wpD_call (i := 3) (v := .agg #[.int .i64 kind, .string path, .string dest, .int .i64 num, .int .i64 who]) (f := 44) (args := #[.agg #[.int .i64 kind, .string path, .string dest, .int .i64 num, .int .i64 who]]) rfl (by kernel_rfl) (by kernel_rfl) (by kernel_rfl) (by kernel_rfl) (fun _ _ _ h => h) (by rfl) (fun x hx => by go_simp; try with_reducible rfl) (fun x _ => HTE.out x) ?_
   try simp only [Act.put, qA, qB, qC]
   refine wpD_onecall (f := 13) (args := #[.agg #[.slice c1 m1 d1, .int .i64 T.next], .agg #[.int .i64 kind, .string path, .string dest, .int .i64 num, .int .i64 who], .int .i64 gr]) (i := 5) (by kernel_rfl) rfl (by rfl) (fun x hx => by go_simp) (fun x hx => (HIM.out x _ _ _ (SE1.out.below hx) HF.out HEF.out).mono ?_)
   rintro e y2 ⟨vv, rfl, hans, hb2⟩
   refine ⟨_, rfl, hb2, ?_⟩
   obtain ⟨c16, m16, d16, rfl⟩ := tans_is hans
   rw [← HTX9.out] at hans ⊢
   obtain ⟨lo9, hi9, hcall⟩ := (T1.out.below hx).call hans hb2
   have HY := Shut.mk hcall
   clear hcall hans hb2
   try simp only [Act.put, qA, qB, qC]
   clear hx
   refine wpD_pure (i := 6) (v := ?vk26) rfl (by kernel_rfl) (by kernel_rfl) (by kernel_rfl) (by kernel_rfl) (fun _ _ _ h => h) (by rfl) ?hyk26 ?restk26
   case hyk26 => (intro x; go_simp; try with_reducible rfl)
   try simp only [Act.put, qA, qB, qC]
   refine wpD_pure (i := 7) (v := ?vk27) rfl (by kernel_rfl) (by kernel_rfl) (by kernel_rfl) (by kernel_rfl) (fun _ _ _ h => h) (by rfl) ?hyk27 ?restk27
   case hyk27 => (intro x; go_simp; try with_reducible rfl)
   try simp only [Act.put, qA, qB, qC]
   refine wpD_pure (i := 8) (v := ?vk28) rfl (by kernel_rfl) (by kernel_rfl) (by kernel_rfl) (by kernel_rfl) (fun _ _ _ h => h) (by rfl) ?hyk28 ?restk28
   case hyk28 => (intro x; go_simp; try with_reducible rfl)
   try simp only [Act.put, qA, qB, qC]
   have HY2 := HY
   clear HY
   refine wpD_tail (by kernel_rfl) ?_
   intro x5 hx5
   have HY3 := Shut.mk (HY2.out.below hx5)
   obtain ⟨q0, qf0⟩ := (HY3.out.mb.at 0 rfl).1.2 0 _ rfl
   obtain ⟨q1, qf1⟩ := (HY3.out.mb.at 0 rfl).1.2 1 _ rfl
   refine wpA_step (y := (x5.setCell ⟨nb, 0, none⟩ (.slice c16 m16 d16)).setCell ⟨nb, 1, none⟩ (.int .i64 tx)) (i := 10) (by kernel_rfl) rfl (by rfl) (by go_simp) ?_
   have HZ := Shut.mk ((HY3.out.setBox 0 rfl 0 (.slice c16 m16 d16) (by simp)).setBox 0 rfl 1 (.int .i64 tx) (by simp))
   clear q0 qf0 q1 qf1 hx5 HY2 HY3
   simp only [Act.put]
   refine wpA_val (i := 11) (v := .int .i64 rc) rfl (by kernel_rfl) (by kernel_rfl) (by kernel_rfl) (fun _ _ _ h => h) (by rfl) (fun x => by go_simp) ?_
   try simp only [Act.put, qA, qB, qC]
   refine wpA_done (by kernel_rfl) ?_ _
   go_wp2_with fail
   go_meet
   case rel => exact ⟨nb, c16, m16, d16, _, _, rfl, rfl, ⟨HZ.out⟩⟩
 case rest =>
 obtain ⟨b16, c16, m16, d16, lo16, hi16, rfl, rfl, hS⟩ := hcut
 clear HT
 have HT := hS
 clear hS
 have b160 := ((HT.out.mb.at 0 rfl).1.2 0 _ rfl).1
 have b161 := ((HT.out.mb.at 0 rfl).1.2 1 _ rfl).1
 have b80 := ((HT.out.mb.at 3 rfl).1.2 0 _ rfl).1
 have b81 := ((HT.out.mb.at 3 rfl).1.2 1 _ rfl).1
 go_upto_region 31 with (go_at_call 45; refine (eqTree_val (HT.out.at 0 rfl).see (HT.out.at 1 rfl).see HXF.out).mono ?_; rintro e w12 ⟨rfl, hb⟩; replace HT := Shut.mk (HT.out.below hb); clear hb b160 b161 b80 b81)
 have b110 := ((HT.out.mb.at 1 rfl).1.2 0 _ rfl).1
 have b111 := ((HT.out.mb.at 1 rfl).1.2 1 _ rfl).1
 go_wp2_with (go_at_call 47; refine (HH2.out _ _ _ _ (HT.out.hat 0 rfl)).mono ?_; rintro e w13 ⟨rfl, hb⟩; replace HT := Shut.mk (HT.out.below hb); clear hb b110 b111)
 go_ret
 exact ⟨rfl, HT.out.bel⟩
end Go.Proofs.YtakhagkhngmpaaaGreat
