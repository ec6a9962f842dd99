/- Texts of ours, laid one behind the other: StY. -/
import Derived.Test.YtakhagkhngmpaaaGreatQqStX
/- StY: . -/
namespace Go.Proofs.YtakhagkhngmpaaaGreat
set_option maxRecDepth 100000
open Go.RowKit
attribute [local go_sem ↓] Go.wp_at_zero Go.wp_at_succ
theorem stp_zero {T : TM} {e : EM} {g : Int} (h : (stpX T e g).2.2 = 0) : treeOk (stpX T e g).1 = true ∧ 1 ≤ g ∧ g ≤ 99000 ∧ 0 ≤ (stpX T e g).2.1 ∧ (stpX T e g).2.1 ≤ 1000 := by
 unfold stpX at h ⊢
 by_cases h1 : mayX T e g = false
 ·rw [if_pos h1] at h
  exact absurd h (by decide)
 rw [if_neg h1] at h ⊢
 obtain ⟨-, hE, g1, g2⟩ := may_parts (by simpa using h1 : mayX T e g = true)
 by_cases h2 : findX T (mustP e) = 0
 ·rw [if_pos h2] at h
  exact absurd h (by decide)
 rw [if_neg h2] at h ⊢
 by_cases h3 : refX T e (ndAt T (plc T (findX T (mustP e)))) ≠ 0
 ·rw [if_pos h3] at h
  exact absurd h h3
 rw [if_neg h3] at h ⊢
 by_cases h4 : treeOk (chT T e (plc T (findX T (mustP e))) g) = false
 ·rw [if_pos h4] at h
  exact absurd h (by decide)
 rw [if_neg h4]
 refine ⟨by simpa using h4, g1, g2, ?_⟩
 dsimp only
 unfold takX
 split
 ·rename_i k7
  have hn7 := (edit_numz hE (by omega)).2.2.2.2.2.1 k7
  have := spans_len (ndAt T (plc T (findX T (mustP e)))).schema e.num (by omega)
  omega
 split <;> omega
theorem stp_none {T : TM} {e : EM} {g : Int} (h : (stpX T e g).2.2 ≠ 0) : (stpX T e g).2.1 = 0 := by
 unfold stpX at h ⊢
 repeat' split
 all_goals first | rfl | skip
 rename_i h1 h2 h3 h4
 rw [if_neg h1, if_neg h2, if_neg h3, if_neg h4] at h
 exact absurd rfl h
attribute [local irreducible] treeOk stpX applyX groupsX
set_option maxHeartbeats 4000000 in
theorem implApply {w : World} {v : Value} {T : TM} {lo hi : Nat} (e : EM) (gr : Int) (h : TSee w v T lo hi) (hf : NFit T) (hI : NInt T.nodes) (he : EFit e) : Calls Tryz.prog 13 #[v, ev e, .int .i64 gr] w fun r w' => ApPost (applyX T e gr) w r w' := by
 have HST := Shut.mk (fun W (hb : Below w.heap.size w W) => implStep e gr (h.below hb) hf hI he)
 have HCP := Shut.mk (fun W (hb : Below w.heap.size w W) => implCopy (h.below hb) hf)
 obtain ⟨RT, tk, rc, hRR⟩ : ∃ RT tk rc, stpX T e gr = (RT, tk, rc) := ⟨_, _, _, rfl⟩
 have hsa := stp_apply T e gr
 obtain ⟨X, hX⟩ : ∃ X, X = applyX T e gr := ⟨_, rfl⟩
 rw [← hX] at hsa ⊢
 rw [hRR] at HST hsa
 dsimp only at hsa
 have HSA := Shut.mk hsa
 clear hX hRR hsa
 unfold StPost at HST
 unfold CpPost at HCP
 obtain ⟨a, cap, rs, rfl, hr, hm⟩ := h
 obtain ⟨n, hn⟩ : ∃ n, n = rs.length := ⟨_, rfl⟩
 obtain ⟨nx, hnx⟩ : ∃ nx, nx = T.next := ⟨_, rfl⟩
 rw [← hn, ← hnx] at HST HCP ⊢
 have HNX := Shut.mk hnx
 clear hn hm hr hf hI he hnx
 obtain ⟨kind, path, dest, num, who⟩ := e
 dsimp only at *
 go_enter Tryz.func13, Tryz.ntmps13
 go_upto_region 1 with fail
 obtain ⟨tb, htb⟩ : ∃ tb, tb = w.heap.size := ⟨_, rfl⟩
 obtain ⟨eb, heb⟩ : ∃ eb, eb = w.heap.size + 1 := ⟨_, rfl⟩
 obtain ⟨rb, hrb⟩ : ∃ rb, rb = w.heap.size + 1 + 1 := ⟨_, rfl⟩
 refine wp_shade (fun W => MB w W [(rb, [.slice none 0 0, .int .i64 0]), (eb, [.int .i64 kind, .string path, .string dest, .int .i64 num, .int .i64 who]), (tb, [.slice a n cap, .int .i64 nx])]) (by rw [hrb, heb, htb]; exact MB.three w #[.slice a n cap, .int .i64 nx] #[.int .i64 kind, .string path, .string dest, .int .i64 num, .int .i64 who] #[.slice none 0 0, .int .i64 0] 26 28 26) ?_
 intro W1 hW1
 have HM := Shut.mk hW1
 rw [← hrb, ← heb, ← htb]
 clear hW1 htb heb hrb
 have HRB := Shut.mk (HM.out.at 0 rfl).1.1
 have HWW := Shut.mk HM.out.bel.size
 have x0 := ((HM.out.at 2 rfl).1.2 0 _ rfl).1
 have x1 := ((HM.out.at 2 rfl).1.2 1 _ rfl).1
 have e0 := ((HM.out.at 1 rfl).1.2 0 _ rfl).1
 have e1 := ((HM.out.at 1 rfl).1.2 1 _ rfl).1
 have e2 := ((HM.out.at 1 rfl).1.2 2 _ rfl).1
 have e3 := ((HM.out.at 1 rfl).1.2 3 _ rfl).1
 have e4 := ((HM.out.at 1 rfl).1.2 4 _ rfl).1
 go_upto_region 2 with (go_at_call 58; refine (HST.out _ HM.out.bel).mono ?_; rintro e w5 ⟨vv, rfl, hans, hb5⟩; obtain ⟨a5, c5, rs5, rfl, hr5, hc5, hq5⟩ := hans.see_form; replace HM := Shut.mk (HM.out.below hb5); have HAN := Shut.mk hans; have HLB := Shut.mk hb5.size; clear hr5 hc5 hq5 hans hb5 x0 x1 e0 e1 e2 e3 e4)
 obtain ⟨m5, hm5⟩ : ∃ m, m = rs5.length := ⟨_, rfl⟩
 obtain ⟨t5, ht5⟩ : ∃ m, m = RT.next := ⟨_, rfl⟩
 obtain ⟨nb, hnb⟩ : ∃ m, m = w5.heap.size := ⟨_, rfl⟩
 rw [← hm5, ← ht5] at HAN ⊢
 rw [← hnb]
 refine wp_shade (fun W => MB w W ((nb, [.slice a5 m5 c5, .int .i64 t5]) :: [(rb, [.slice none 0 0, .int .i64 0]), (eb, [.int .i64 kind, .string path, .string dest, .int .i64 num, .int .i64 who]), (tb, [.slice a n cap, .int .i64 nx])]) ∧ TAns W (.agg #[.slice a5 m5 c5, .int .i64 t5]) RT W1.heap.size W.heap.size) ⟨by rw [hnb]; exact HM.out.new #[.slice a5 m5 c5, .int .i64 t5] 26, (HAN.out.below ((Below.refl _ _).alloc (Nat.le_refl _) _)).wide (Nat.le_refl _) (by simp)⟩ ?_
 rintro w6 ⟨hm6, ha6⟩
 replace HM := Shut.mk hm6
 replace HAN := Shut.mk ha6
 clear hm6 ha6 hm5 ht5 hnb
 have d0 := ((HM.out.at 0 rfl).1.2 0 _ rfl).1
 have d1 := ((HM.out.at 0 rfl).1.2 1 _ rfl).1
 have x0 := ((HM.out.at 3 rfl).1.2 0 _ rfl).1
 have x1 := ((HM.out.at 3 rfl).1.2 1 _ rfl).1
 have HR6 := Shut.mk (And.intro (HM.out.at 1 rfl).1.1 HM.out.bel.size)
 obtain ⟨r0, rf0⟩ := (HM.out.at 1 rfl).1.2 0 _ rfl
 obtain ⟨r1, rf1⟩ := (HM.out.at 1 rfl).1.2 1 _ rfl
 by_cases hz : rc = 0
 case neg =>
  have z1 : (rc == 0) = false := by simp [hz]
  have z2 : (rc != 0) = true := by simp [hz]
  have z3 : decide (rc = 0) = false := by simp [hz]
  have HEX : Shut (X = (T, rc)) := ⟨by
   have q := HSA.out
   have q1 : X.2 ≠ 0 := by rw [← q.1]; exact hz
   rw [← q.2.2.1 q1, q.1]⟩
  go_wp2_with (go_at_call 59; refine (HCP.out _ HM.out.bel).mono ?_; rintro e w7 ⟨a2, cap2, rs2, rfl, hr2, hnb2, hb7⟩; have HNB := Shut.mk (hnb2.ans (w := w6) (nx := nx) hr2 (Nat.le_refl _)); replace HM := Shut.mk (HM.out.below hb7); clear hr2 hnb2 hb7 d0 d1 x0 x1 r0 rf0 r1 rf1; obtain ⟨r0, rf0⟩ := (HM.out.at 1 rfl).1.2 0 _ rfl; obtain ⟨r1, rf1⟩ := (HM.out.at 1 rfl).1.2 1 _ rfl)
  refine body_shade (fun W => FinT w W rb (.slice a2 rs2.length cap2) nx T) (by
   have M2 := (HM.out.put 1 rfl 0 (.slice a2 rs2.length cap2) (by simp)).put 1 rfl 1 (.int .i64 nx) (by simp)
   refine ⟨((M2.at 1 rfl).1.2 0 _ rfl).1, ((M2.at 1 rfl).1.2 1 _ rfl).1, ?_, M2.bel⟩
   have hs : ((w7.setCell ⟨rb, 0, none⟩ (.slice a2 rs2.length cap2)).setCell ⟨rb, 1, none⟩ (.int .i64 nx)).heap.size = w7.heap.size := by simp
   rw [hs]
   have q := ((HNB.out.box rb 0 (.slice a2 rs2.length cap2) HR6.out.1).box rb 1 (.int .i64 nx) HR6.out.1).wide HR6.out.2 (Nat.le_refl _)
   rw [HNX.out] at q ⊢
   exact q) ?_
  rintro W8 ⟨q0, q1, hans, hbel⟩
  exact bodyPost_ret (v := .tuple #[.agg #[.slice a2 rs2.length cap2, .int .i64 nx], .int .i64 rc]) (by simp [results, Tryz.results13, go_sem, q0, q1]) rfl ⟨_, by rw [HEX.out], by rw [HEX.out]; exact hans, hbel⟩
 case pos =>
 subst hz
 have HEX : Shut (X = (RT, 0)) := ⟨by
  have q := HSA.out
  rw [q.2.1 q.1.symm, q.1]⟩
 have HFIN : Shut (FinT w ((w6.setCell ⟨rb, 0, none⟩ (.slice a5 m5 c5)).setCell ⟨rb, 1, none⟩ (.int .i64 t5)) rb (.slice a5 m5 c5) t5 RT) := ⟨by
  have M2 := (HM.out.put 1 rfl 0 (.slice a5 m5 c5) (by simp)).put 1 rfl 1 (.int .i64 t5) (by simp)
  refine ⟨((M2.at 1 rfl).1.2 0 _ rfl).1, ((M2.at 1 rfl).1.2 1 _ rfl).1, ?_, M2.bel⟩
  have hs : ((w6.setCell ⟨rb, 0, none⟩ (.slice a5 m5 c5)).setCell ⟨rb, 1, none⟩ (.int .i64 t5)).heap.size = w6.heap.size := by simp
  rw [hs]
  exact ((HAN.out.box rb 0 _ HRB.out).box rb 1 _ HRB.out).wide HWW.out (Nat.le_refl _)⟩
 go_wp2_with fail
 refine body_shade (fun W => FinT w W rb (.slice a5 m5 c5) t5 RT) HFIN.out ?_
 rintro W8 ⟨q0, q1, hans, hbel⟩
 exact bodyPost_ret (v := .tuple #[.agg #[.slice a5 m5 c5, .int .i64 t5], .int .i64 0]) (by simp [results, Tryz.results13, go_sem, q0, q1]) rfl ⟨_, by rw [HEX.out], by rw [HEX.out]; exact hans, hbel⟩
set_option maxHeartbeats 4000000 in
theorem implGroupsAfter {w : World} {v : Value} {T : TM} {lo hi : Nat} (e : EM) (gr : Int) (hg : -9223372036854775808 ≤ gr ∧ gr ≤ 9223372036854775807) (h : TSee w v T lo hi) (hf : NFit T) (hI : NInt T.nodes) (he : EFit e) : Calls Tryz.prog 15 #[v, ev e, .int .i64 gr] w fun r w' => r = .returned (.int .i64 (groupsX T e gr)) ∧ Below w.heap.size w w' := by
 have HST := Shut.mk (fun W (hb : Below w.heap.size w W) => implStep e gr (h.below hb) hf hI he)
 have hsa := (stp_apply T e gr).2.2.2
 have hbd : -9223372036854775808 ≤ gr + (stpX T e gr).2.1 ∧ gr + (stpX T e gr).2.1 ≤ 9223372036854775807 := by
  by_cases hz : (stpX T e gr).2.2 = 0
  ·have := stp_zero hz
   omega
  ·rw [stp_none hz]
   omega
 obtain ⟨RT, tk, rc, hRR⟩ : ∃ RT tk rc, stpX T e gr = (RT, tk, rc) := ⟨_, _, _, rfl⟩
 obtain ⟨X, hX⟩ : ∃ X, X = groupsX T e gr := ⟨_, rfl⟩
 rw [← hX] at hsa ⊢
 rw [hRR] at HST hsa hbd
 dsimp only at hsa hbd
 have HSA := Shut.mk hsa
 obtain ⟨hb1, hb2⟩ := hbd
 clear hX hRR hsa hg
 unfold StPost at HST
 obtain ⟨a, cap, rs, rfl, hr, hm⟩ := h
 obtain ⟨n, hn⟩ : ∃ n, n = rs.length := ⟨_, rfl⟩
 obtain ⟨nx, hnx⟩ : ∃ nx, nx = T.next := ⟨_, rfl⟩
 rw [← hn, ← hnx] at HST ⊢
 clear hn hm hr hf hI he hnx
 obtain ⟨kind, path, dest, num, who⟩ := e
 dsimp only at *
 go_enter Tryz.func15, Tryz.ntmps15
 go_upto_region 1 with fail
 obtain ⟨tb, htb⟩ : ∃ tb, tb = w.heap.size := ⟨_, rfl⟩
 obtain ⟨eb, heb⟩ : ∃ eb, eb = w.heap.size + 1 := ⟨_, rfl⟩
 refine wp_shade (fun W => MB w W [(eb, [.int .i64 kind, .string path, .string dest, .int .i64 num, .int .i64 who]), (tb, [.slice a n cap, .int .i64 nx])]) (by rw [heb, htb]; exact MB.two w #[.slice a n cap, .int .i64 nx] #[.int .i64 kind, .string path, .string dest, .int .i64 num, .int .i64 who] 26 28) ?_
 intro W1 hW1
 have HM := Shut.mk hW1
 rw [← heb, ← htb]
 clear hW1 htb heb
 have x0 := ((HM.out.at 1 rfl).1.2 0 _ rfl).1
 have x1 := ((HM.out.at 1 rfl).1.2 1 _ rfl).1
 have e0 := ((HM.out.at 0 rfl).1.2 0 _ rfl).1
 have e1 := ((HM.out.at 0 rfl).1.2 1 _ rfl).1
 have e2 := ((HM.out.at 0 rfl).1.2 2 _ rfl).1
 have e3 := ((HM.out.at 0 rfl).1.2 3 _ rfl).1
 have e4 := ((HM.out.at 0 rfl).1.2 4 _ rfl).1
 go_wp2_with (go_at_call 58; refine (HST.out _ HM.out.bel).mono ?_; rintro e w5 ⟨vv, rfl, hans, hb5⟩; obtain ⟨a5, c5, rs5, rfl, hr5, hc5, hq5⟩ := hans.see_form; replace HM := Shut.mk (HM.out.below hb5); clear hr5 hc5 hq5 hans hb5 x0 x1 e0 e1 e2 e3 e4)
 refine body_shade (fun W => Below w.heap.size w W) (by have q := HM.out.bel; exact q.trans ((Below.refl _ _).alloc q.size _)) ?_
 intro W8 hbel
 exact bodyPost_ret (v := .int .i64 (gr + tk)) (by simp [results, Tryz.results15, go_sem]) rfl ⟨by rw [HSA.out], hbel⟩
end Go.Proofs.YtakhagkhngmpaaaGreat
