/- The program's own ServerNew. -/
import Derived.Test.YtendbipfmgnjkaaSvN
import Derived.Test.YtendbipfmgnjkaaLkN
namespace Go.Proofs.Ytendbipfmgnjkaa
set_option maxRecDepth 100000
open Go.RowKit
attribute [local go_sem ↓] Go.wp_at_zero Go.wp_at_succ

set_option maxRecDepth 100000 in
set_option maxHeartbeats 2000000 in
theorem implServerNew (w : World) : Calls Try.prog 32 #[] w fun e w' => SvNew newX newX.next w e w' := by
  have HT := Shut.mk implTreeNew
  unfold TrPost at HT
  generalize newX = T at *
  obtain ⟨nx, hnx⟩ : ∃ q, q = T.next := ⟨_, rfl⟩
  rw [← hnx]
  have HN := Shut.mk hnx
  clear hnx
  have HS := Shut.mk ((SL.start w).new #[.bool false, .slice none 0 0, .int .i64 0, .int .i64 0, .slice none 0 0, .slice none 0 0, .int .i64 0] 43)
  obtain ⟨b1, hb1⟩ : ∃ q, q = w.heap.size := ⟨_, rfl⟩
  go_enter Try.func32, Try.ntmps32
  go_upto_region 1 with fail
  rw [← hb1] at HS
  refine wp_shade (fun W => SL w W [bxS b1 [.bool false, .slice none 0 0, .int .i64 0, .int .i64 0, .slice none 0 0, .slice none 0 0, .int .i64 0]]) HS.out ?_
  rw [← hb1]
  intro W0 hS0
  have H := Shut.mk hS0
  clear hS0 HS hb1
  go_wp2_with fail
  refine (HT.out _).mono ?_
  rintro e w1 ⟨v1, rfl, hA, hb⟩
  obtain ⟨ca, cm, cc, rfl⟩ := tans_form hA
  rw [← HN.out] at hA ⊢
  replace H := Shut.mk (H.out.add (s := trS (.agg #[.slice ca cm cc, .int .i64 nx]) T W0.heap.size w1.heap.size) hb hA (trS.loc _ _ _ _) (Nat.le_refl _) (Nat.le_refl _))
  clear hA hb
  obtain ⟨r0, s0⟩ := H.out.bx 1 rfl 0 _ rfl
  obtain ⟨r1, s1⟩ := H.out.bx 1 rfl 1 _ rfl
  obtain ⟨r2, s2⟩ := H.out.bx 1 rfl 2 _ rfl
  obtain ⟨r3, s3⟩ := H.out.bx 1 rfl 3 _ rfl
  obtain ⟨r4, s4⟩ := H.out.bx 1 rfl 4 _ rfl
  obtain ⟨r5, s5⟩ := H.out.bx 1 rfl 5 _ rfl
  obtain ⟨r6, s6⟩ := H.out.bx 1 rfl 6 _ rfl
  have HE := Shut.mk ((((((((H.out.put 1 rfl 0 (.bool true) (by simp)).put 1 rfl 1 (.slice ca cm cc) (by simp)).put 1 rfl 2 (.int .i64 nx) (by simp)).put 1 rfl 3 (.int .i64 1) (by simp)).put 1 rfl 4 (.slice none 0 0) (by simp)).put 1 rfl 5 (.slice none 0 0) (by simp)).put 1 rfl 6 (.int .i64 0) (by simp)))
  simp only [List.set_cons_zero, List.set_cons_succ] at HE
  obtain ⟨ht, -, l1, l2⟩ := HE.out.is _ (List.mem_cons_self ..)
  have HX := Shut.mk (tans_wide (show TAns _ (.agg #[.slice ca cm cc, .int .i64 nx]) T W0.heap.size w1.heap.size from ht) l1 l2)
  clear ht l1 l2
  go_wp2_with fail
  refine bodyPost_ret (v := .agg #[.bool true, .slice ca cm cc, .int .i64 nx, .int .i64 1, .slice none 0 0, .slice none 0 0, .int .i64 0]) (by simp [results, Try.results32, go_sem, r0, r1, r2, r3, r4, r5, r6]) rfl ?_
  exact ⟨ca, none, none, cm, cc, 0, 0, rfl, HX.out, HE.out.bel⟩
end Go.Proofs.Ytendbipfmgnjkaa
