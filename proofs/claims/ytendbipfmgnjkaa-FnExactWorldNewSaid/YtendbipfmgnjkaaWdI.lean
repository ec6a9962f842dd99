/- The program's own WorldNew. -/
import Derived.Test.YtendbipfmgnjkaaWdN
import Derived.Test.YtendbipfmgnjkaaSvI
import Derived.Laws.MakeOwn
import Derived.Deep.AppendLies
namespace Go.Proofs.Ytendbipfmgnjkaa
set_option maxRecDepth 100000
open Go.RowKit BigFrame
attribute [local go_sem ↓] Go.wp_at_zero Go.wp_at_succ

set_option maxRecDepth 100000 in
set_option maxHeartbeats 8000000 in
theorem implWorldNew (w : World) : Calls Try.prog 12 #[] w fun e w' => WdNew newX newX.next w e w' := by
  obtain ⟨i0, hin, hz0, hz1, hz2⟩ := info_parts infoHost9
  have HSN := Shut.mk (fun (W : World) => implServerNew W)
  generalize newX.next = nx at *
  generalize newX = T at *
  unfold SvNew at HSN
  have HS := Shut.mk ((SL.start w).new #[.bool false, .slice none 0 0, .int .i64 0, .int .i64 0, .slice none 0 0, .slice none 0 0, .int .i64 0, .slice none 0 0, .slice none 0 0, .slice none 0 0, .slice none 0 0] 48)
  obtain ⟨b0, hb0⟩ : ∃ q, q = w.heap.size := ⟨_, rfl⟩
  go_enter Try.func12, Try.ntmps12
  go_upto_region 1 with fail
  rw [← hb0] at HS
  refine wp_shade (fun W => SL w W [bxS b0 [.bool false, .slice none 0 0, .int .i64 0, .int .i64 0, .slice none 0 0, .slice none 0 0, .int .i64 0, .slice none 0 0, .slice none 0 0, .slice none 0 0, .slice none 0 0]]) HS.out ?_
  intro W0 hS0
  rw [← hb0]
  have H := Shut.mk hS0
  clear hS0 HS hb0
  obtain ⟨W1, hmk, hown, hgr⟩ := run_make_own (P := Try.prog) W0 w.heap.size 44 73 i0 _ 3 Try.underlying44 hin hz0 hz1 .i64 .i64 7 (by rw [hz2]; omega) (by unfold maxLen; omega) H.out.bel.size
  have HO := Shut.mk (OwS.more (OwS.nil (ty := 73) (sz := 3) H.out) (Below.refl _ _) hown hgr (.inr rfl))
  obtain ⟨g0, hg0⟩ : ∃ q, q = W0.heap.size := ⟨_, rfl⟩
  rw [← hg0] at hmk HO
  clear hown hgr H hg0
  rw [show ((7 : Nat) : Int) = 7 from rfl] at hmk
  go_wp2_with fail
  clear hmk
  go_loopw [1, 2] (fun v i wr => ∃ (k : Nat) (hb : Option Addr) (hc : Nat), v = .slice hb k hc ∧ i = .int .i64 ((k : Int) + 1) ∧ k ≤ 7 ∧ Shut (OwS w wr [bxS b0 [.bool false, .slice none 0 0, .int .i64 0, .int .i64 0, .slice none 0 0, .slice none 0 0, .int .i64 0, .slice none 0 0, .slice none 0 0, .slice none 0 0, .slice none 0 0]] 73 3 (.slice hb k hc) k (hS (hrs9 k)))) (fun _ i _ => 8 - (intOf i).toNat)
  case atStart => exact ⟨0, _, _, rfl, rfl, by omega, HO⟩
  case round =>
    clear HO
    obtain ⟨k, hb, hc, rfl, rfl, hk, H⟩ := hrel
    by_cases hlt : k < 7
    · have h7 : (k : Int) + 1 ≤ 7 := by omega
      have hown := H.out.own
      have hsz : w.heap.size ≤ wr.heap.size := H.out.sl.bel.size
      have hcl : ∀ j u, ([.int .i64 ((k : Int) + 1), .bool true, .slice none 0 0] : List Value)[j]? = some u → (wr.alloc (.cells #[.int .i64 ((k : Int) + 1), .bool true, .slice none 0 0] 73)).cell? ((⟨wr.heap.size, 0, none⟩ : Addr).add j) = some u := fun j u hu => by
        have q := ((wcells_new wr #[.int .i64 ((k : Int) + 1), .bool true, .slice none 0 0] 73).2 j u hu).1
        cases j with
        | zero => exact q
        | succ j => simpa [Addr.add] using q
      have hone : ∀ u ∈ ([.int .i64 ((k : Int) + 1), .bool true, .slice none 0 0] : List Value), u.oneCell' = true := fun u hu => by
        simp only [List.mem_cons, List.not_mem_nil, or_false] at hu
        rcases hu with rfl | rfl | rfl <;> rfl
      go_wp2_with (at_builtin; go_loud (refine wpList_append_own_at _ rfl _ _ 44 rfl w.heap.size 73 i0 _ 3 40 Try.underlying44 hin hz0 hz1 hz2 rfl (by decide) _ _ _ rfl (hown.alloc _) ⟨wr.heap.size, 0, none⟩ 1 1 [.int .i64 ((k : Int) + 1), .bool true, .slice none 0 0] rfl rfl hcl hone (by unfold maxLen; omega) (by omega) (by rw [World.size_alloc]; omega) ?_))
      intro v9 w9 ho hg _ hat
      obtain ⟨b9, c9, rfl⟩ := own_row_slice ho
      have HS := Shut.mk (H.out.more (m := k + 1) (L' := hS (hrs9 (k + 1))) ((Below.refl _ _).alloc (Nat.le_refl _) (.cells #[.int .i64 ((k : Int) + 1), .bool true, .slice none 0 0] 73)) (by rw [hS_snoc k]; exact ho) hg (by rw [World.size_alloc]; exact hat))
      clear ho hg hat hown hsz hcl hone H
      go_wp2_with fail
      go_roundw
      case rel => exact ⟨k + 1, b9, c9, rfl, by go_num, by omega, HS⟩
      case measure => simp [intOf]; omega
    · obtain rfl : k = 7 := by omega
      obtain ⟨hc7, lo, hi, hrow⟩ := H.out.rest
      have HX := Shut.mk (hrow.as (q := fun W => HsW W hb (hrs9 7) lo hi) (hsw9 (hrow.is _ (List.mem_cons_self ..)).1 (by omega)) (hsS.loc _ _ _ _))
      clear H hrow
      go_wp2_with fail
      refine (HSN.out _).mono ?_
      rintro e w1 ⟨ca, da, la, cm, cc, dc, lc, rfl, hA, hb9⟩
      have H2 := Shut.mk (HX.out.add (s := trS (.agg #[.slice ca cm cc, .int .i64 nx]) T wr.heap.size w1.heap.size) hb9 hA (trS.loc _ _ _ _) (Nat.le_refl _) (Nat.le_refl _))
      clear hA hb9 HX
      obtain ⟨r0, s0⟩ := H2.out.bx 2 rfl 0 _ rfl
      obtain ⟨r1, s1⟩ := H2.out.bx 2 rfl 1 _ rfl
      obtain ⟨r2, s2⟩ := H2.out.bx 2 rfl 2 _ rfl
      obtain ⟨r3, s3⟩ := H2.out.bx 2 rfl 3 _ rfl
      obtain ⟨r4, s4⟩ := H2.out.bx 2 rfl 4 _ rfl
      obtain ⟨r5, s5⟩ := H2.out.bx 2 rfl 5 _ rfl
      obtain ⟨r6, s6⟩ := H2.out.bx 2 rfl 6 _ rfl
      obtain ⟨r7, s7⟩ := H2.out.bx 2 rfl 7 _ rfl
      obtain ⟨r8, s8⟩ := H2.out.bx 2 rfl 8 _ rfl
      obtain ⟨r9, s9⟩ := H2.out.bx 2 rfl 9 _ rfl
      obtain ⟨r10, s10⟩ := H2.out.bx 2 rfl 10 _ rfl
      have HE := Shut.mk (((((((((((H2.out.put 2 rfl 0 (.bool true) (by simp)).put 2 rfl 1 (.slice ca cm cc) (by simp)).put 2 rfl 2 (.int .i64 nx) (by simp)).put 2 rfl 3 (.int .i64 1) (by simp)).put 2 rfl 4 (.slice da 0 dc) (by simp)).put 2 rfl 5 (.slice la 0 lc) (by simp)).put 2 rfl 6 (.int .i64 0) (by simp)).put 2 rfl 7 (.slice hb 7 hc) (by simp)).put 2 rfl 8 (.slice none 0 0) (by simp)).put 2 rfl 9 (.slice none 0 0) (by simp)).put 2 rfl 10 (.slice none 0 0) (by simp))
      simp only [List.set_cons_zero, List.set_cons_succ] at HE
      have HF := Shut.mk (HE.out.less (S' := [trS (.agg #[.slice ca cm cc, .int .i64 nx]) T wr.heap.size w1.heap.size, hsS hb (hrs9 7) lo hi]) (List.Sublist.cons_cons _ (List.Sublist.cons_cons _ (List.nil_sublist _)))).swap
      clear HE
      go_wp2_with fail
      refine bodyPost_ret (v := .agg #[.bool true, .slice ca cm cc, .int .i64 nx, .int .i64 1, .slice da 0 dc, .slice la 0 lc, .int .i64 0, .slice hb 7 hc, .slice none 0 0, .slice none 0 0, .slice none 0 0]) (by simp [results, Try.results12, go_sem, r0, r1, r2, r3, r4, r5, r6, r7, r8, r9, r10]) rfl ?_
      exact ⟨ca, da, la, hb, none, none, none, cm, cc, dc, lc, hc, 0, 0, 0, _, _, lo, hi, hrs9 7, by rw [hrs9_len], hrs9_hms 7, by rw [hrs9_len]; exact hc7, HF.out⟩
end Go.Proofs.Ytendbipfmgnjkaa
