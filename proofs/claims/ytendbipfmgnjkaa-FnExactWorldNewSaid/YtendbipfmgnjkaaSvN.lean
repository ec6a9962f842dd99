/- A new server: its model, its marks, its exact law (written by gen/mksvn.py). -/
import Derived.Test.YtendbipfmgnjkaaSvA
import Derived.Test.YtendbipfmgnjkaaTreL
import Derived.Test.YtendbipfmgnjkaaTreI
import Derived.Test.YtendbipfmgnjkaaDiskP
import Derived.Test.YtendbipfmgnjkaaLsAm
import Derived.Test.YtendbipfmgnjkaaLawTrn
namespace Go.Proofs.Ytendbipfmgnjkaa
set_option maxRecDepth 100000
open Go.RowKit BigFrame
attribute [local go_sem ↓] Go.wp_at_zero Go.wp_at_succ

theorem tans_wide {W : World} {v : Value} {T : TM} {lo hi lo' hi' : Nat} (h : TAns W v T lo hi) (h1 : lo' ≤ lo) (h2 : hi ≤ hi') : TAns W v T lo' hi' := by
  obtain ⟨a, cap, rs, e, hr, hc, hx⟩ := h
  refine ⟨a, cap, rs, e, hr, hc, ?_⟩
  rcases hx with rfl | ⟨g, rfl, hm⟩
  · exact .inl rfl
  · exact .inr ⟨g, rfl, hm.wide h1 h2⟩
theorem newX_marks : 0 < markK 1 newX.nodes := by decide
/-- A new server that was answered. -/
def SvNew (T : TM) (nx : Int) (w : World) (e : Ending) (w' : World) : Prop := ∃ (ca da la : Option Addr) (cm cc dc lc : Nat), e = .returned (.agg #[.bool true, .slice ca cm cc, .int .i64 nx, .int .i64 1, .slice da 0 dc, .slice la 0 lc, .int .i64 0]) ∧ TAns w' (.agg #[.slice ca cm cc, .int .i64 nx]) T w.heap.size w'.heap.size ∧ Below w.heap.size w w'
theorem newX_next : newX.next = 2 := rfl
set_option maxRecDepth 100000 in
set_option maxHeartbeats 2000000 in
theorem specServerNew (w : World) : Calls Try.prog 31 #[] w fun e w' => SvNew newX newX.next w e w' := by
  have HT := Shut.mk specTreeNew
  unfold TrPost at HT
  generalize newX = T at *
  obtain ⟨nx, hnx⟩ : ∃ q, q = T.next := ⟨_, rfl⟩
  rw [← hnx]
  have HN := Shut.mk hnx
  clear hnx
  have HS := Shut.mk ((SL.start w).new #[.bool false, .slice none 0 0, .int .i64 0, .int .i64 0, .slice none 0 0, .slice none 0 0, .int .i64 0] 43)
  obtain ⟨b1, hb1⟩ : ∃ q, q = w.heap.size := ⟨_, rfl⟩
  go_enter Try.func31, Try.ntmps31
  go_upto_region 1 with fail
  rw [← hb1] at HS
  refine wp_shade (fun W => SL w W [bxS b1 [.bool false, .slice none 0 0, .int .i64 0, .int .i64 0, .slice none 0 0, .slice none 0 0, .int .i64 0]]) HS.out ?_
  rw [← hb1]
  intro W0 hS0
  have H := Shut.mk hS0
  clear hS0 HS hb1
  go_wp2_with fail
  refine (HT.out _).mono ?_
  rintro e w1 ⟨v1, rfl, hA, hb⟩
  obtain ⟨ca, cm, cc, rfl⟩ := tans_form hA
  rw [← HN.out] at hA ⊢
  replace H := Shut.mk (H.out.add (s := trS (.agg #[.slice ca cm cc, .int .i64 nx]) T W0.heap.size w1.heap.size) hb hA (trS.loc _ _ _ _) (Nat.le_refl _) (Nat.le_refl _))
  clear hA hb
  obtain ⟨r0, s0⟩ := H.out.bx 1 rfl 0 _ rfl
  obtain ⟨r1, s1⟩ := H.out.bx 1 rfl 1 _ rfl
  obtain ⟨r2, s2⟩ := H.out.bx 1 rfl 2 _ rfl
  obtain ⟨r3, s3⟩ := H.out.bx 1 rfl 3 _ rfl
  obtain ⟨r4, s4⟩ := H.out.bx 1 rfl 4 _ rfl
  obtain ⟨r5, s5⟩ := H.out.bx 1 rfl 5 _ rfl
  obtain ⟨r6, s6⟩ := H.out.bx 1 rfl 6 _ rfl
  have HE := Shut.mk ((((((((H.out.put 1 rfl 0 (.bool true) (by simp)).put 1 rfl 1 (.slice ca cm cc) (by simp)).put 1 rfl 2 (.int .i64 nx) (by simp)).put 1 rfl 3 (.int .i64 1) (by simp)).put 1 rfl 4 (.slice none 0 0) (by simp)).put 1 rfl 5 (.slice none 0 0) (by simp)).put 1 rfl 6 (.int .i64 0) (by simp)))
  simp only [List.set_cons_zero, List.set_cons_succ] at HE
  obtain ⟨ht, -, l1, l2⟩ := HE.out.is _ (List.mem_cons_self ..)
  have HX := Shut.mk (tans_wide (show TAns _ (.agg #[.slice ca cm cc, .int .i64 nx]) T W0.heap.size w1.heap.size from ht) l1 l2)
  clear ht l1 l2
  go_wp2_with fail
  refine bodyPost_ret (v := .agg #[.bool true, .slice ca cm cc, .int .i64 nx, .int .i64 1, .slice none 0 0, .slice none 0 0, .int .i64 0]) (by simp [results, Try.results31, go_sem, r0, r1, r2, r3, r4, r5, r6]) rfl ?_
  exact ⟨ca, none, none, cm, cc, 0, 0, rfl, HX.out, HE.out.bel⟩
set_option maxRecDepth 100000 in
set_option maxHeartbeats 2000000 in
theorem markServer_new {w : World} {T : TM} {ca da la : Option Addr} {cm cc dc lc lo hi : Nat} {nx : Int} (k : Nat) (h : TAns w (.agg #[.slice ca cm cc, .int .i64 nx]) T lo hi) (hf : NFit T) (h1 : 1 ≤ k) (hk : k ≤ 1000) (hlo : hi ≤ w.heap.size) :
    Calls Try.prog 36 #[.agg #[.bool true, .slice ca cm cc, .int .i64 nx, .int .i64 1, .slice da 0 dc, .slice la 0 lc, .int .i64 0], .int .i64 k] w fun e w' => e = .returned (.int .i64 (markK k T.nodes : Nat)) ∧ THeld w' (.agg #[.slice ca cm cc, .int .i64 nx]) k T lo hi ∧ Turned w w' lo hi := by
  have HT := Shut.mk (fun (W : World) (hb : Below w.heap.size w W) => markTree_val k (h.below hb) hf h1 hk)
  obtain ⟨kk, hkk⟩ : ∃ q, q = markK k T.nodes := ⟨_, rfl⟩
  rw [← hkk] at HT ⊢
  have HD := Shut.mk (fun (W : World) => markDisk_none da kk dc W)
  have HL := Shut.mk (fun (W : World) => markLeaseS_zero la kk lc W)
  have HH := Shut.mk hlo
  clear h hf hkk hlo
  have HB := Shut.mk ((Below.refl w.heap.size w).alloc (Nat.le_refl _) (.cells #[.bool true, .slice ca cm cc, .int .i64 nx, .int .i64 1, .slice da 0 dc, .slice la 0 lc, .int .i64 0] 43))
  have HC := Shut.mk (wcells_new w #[.bool true, .slice ca cm cc, .int .i64 nx, .int .i64 1, .slice da 0 dc, .slice la 0 lc, .int .i64 0] 43)
  obtain ⟨b1, hb1⟩ : ∃ q, q = w.heap.size := ⟨_, rfl⟩
  go_enter Try.func36, Try.ntmps36
  go_upto_region 1 with fail
  rw [← hb1] at HC
  refine wp_shade (fun W => Below w.heap.size w W ∧ WCells W b1 [.bool true, .slice ca cm cc, .int .i64 nx, .int .i64 1, .slice da 0 dc, .slice la 0 lc, .int .i64 0]) ⟨HB.out, HC.out⟩ ?_
  intro W0 hW
  rw [← hb1]
  replace HB := Shut.mk hW.1
  replace HC := Shut.mk hW.2
  replace HH := Shut.mk (show hi ≤ b1 by rw [hb1]; exact HH.out)
  clear hW hb1
  have x1 := (HC.out.2 1 _ rfl).1
  have x2 := (HC.out.2 2 _ rfl).1
  have x4 := (HC.out.2 4 _ rfl).1
  have x5 := (HC.out.2 5 _ rfl).1
  go_wp2_with fail
  refine (HT.out _ (HB.out)).mono ?_
  rintro e w1 ⟨rfl, hA, ht⟩
  have HX := Shut.mk hA
  have HU := Shut.mk ((Turned.of_below (show Below w.heap.size w W0 from HB.out) lo hi).trans ht)
  replace HC := Shut.mk (HC.out.turned ht (.inr (by have := HH.out; omega)))
  clear hA ht HB HT x1 x2 x4 x5
  have x1 := (HC.out.2 1 _ rfl).1
  have x2 := (HC.out.2 2 _ rfl).1
  have x4 := (HC.out.2 4 _ rfl).1
  have x5 := (HC.out.2 5 _ rfl).1
  go_wp2_with fail
  refine (HD.out _).mono ?_
  rintro e w2 ⟨rfl, hb⟩
  replace HX := Shut.mk (HX.out.below hb)
  replace HU := Shut.mk (HU.out.trans (Turned.of_below hb lo hi))
  replace HC := Shut.mk (HC.out.grow hb)
  clear hb x1 x2 x4 x5
  have x1 := (HC.out.2 1 _ rfl).1
  have x2 := (HC.out.2 2 _ rfl).1
  have x4 := (HC.out.2 4 _ rfl).1
  have x5 := (HC.out.2 5 _ rfl).1
  go_wp2_with fail
  refine (HL.out _).mono ?_
  rintro e w3 ⟨rfl, rfl⟩
  go_wp2_with fail
  go_ret
  exact ⟨rfl, HX.out, HU.out⟩
set_option maxRecDepth 100000 in
set_option maxHeartbeats 2000000 in
theorem heldServer_new {w : World} {T : TM} {ca da la : Option Addr} {cm cc dc lc lo hi : Nat} {nx : Int} {k : Nat} (h : THeld w (.agg #[.slice ca cm cc, .int .i64 nx]) k T lo hi) (hf : NFit T) (h1 : 1 ≤ k) (hk : k ≤ 1000) (hp : 0 < markK k T.nodes) :
    Calls Try.prog 41 #[.agg #[.bool true, .slice ca cm cc, .int .i64 nx, .int .i64 1, .slice da 0 dc, .slice la 0 lc, .int .i64 0], .int .i64 k] w fun e w' => e = .returned (.int .i64 (markK k T.nodes : Nat)) ∧ Below w.heap.size w w' := by
  have HT := Shut.mk (fun (W : World) (hb : Below w.heap.size w W) => heldTree_val (h.below hb) hf h1 hk)
  have hfit := mark_fit hf k hk
  obtain ⟨kk, hkk⟩ : ∃ q, q = markK k T.nodes := ⟨_, rfl⟩
  rw [← hkk] at HT hp hfit ⊢
  have HD := Shut.mk (fun (W : World) => heldDisk_any da kk 0 dc W (fun h => by simp [marksF, fcs] at h) hp (by omega))
  have HL := Shut.mk (fun (W : World) => heldLeaseS_any la kk 0 lc W (fun h => by simp [marksL, lsS] at h) hp (by omega))
  rw [show kk + 3 * 0 = kk by omega] at HD HL
  have hneg : ¬ (kk : Int) < 0 := by omega
  clear h hf hkk hp hfit
  have HB := Shut.mk ((Below.refl w.heap.size w).alloc (Nat.le_refl _) (.cells #[.bool true, .slice ca cm cc, .int .i64 nx, .int .i64 1, .slice da 0 dc, .slice la 0 lc, .int .i64 0] 43))
  have HC := Shut.mk (wcells_new w #[.bool true, .slice ca cm cc, .int .i64 nx, .int .i64 1, .slice da 0 dc, .slice la 0 lc, .int .i64 0] 43)
  obtain ⟨b1, hb1⟩ : ∃ q, q = w.heap.size := ⟨_, rfl⟩
  go_enter Try.func41, Try.ntmps41
  go_upto_region 1 with fail
  rw [← hb1] at HC
  refine wp_shade (fun W => Below w.heap.size w W ∧ WCells W b1 [.bool true, .slice ca cm cc, .int .i64 nx, .int .i64 1, .slice da 0 dc, .slice la 0 lc, .int .i64 0]) ⟨HB.out, HC.out⟩ ?_
  intro W0 hW
  rw [← hb1]
  replace HB := Shut.mk hW.1
  replace HC := Shut.mk hW.2
  clear hW hb1
  have x1 := (HC.out.2 1 _ rfl).1
  have x2 := (HC.out.2 2 _ rfl).1
  have x4 := (HC.out.2 4 _ rfl).1
  have x5 := (HC.out.2 5 _ rfl).1
  go_wp2_with fail
  refine (HT.out _ HB.out).mono ?_
  rintro e w1 ⟨rfl, hb⟩
  replace HB := Shut.mk (HB.out.trans (hb.mono HB.out.size))
  replace HC := Shut.mk (HC.out.grow hb)
  clear hb x1 x2 x4 x5
  have x1 := (HC.out.2 1 _ rfl).1
  have x2 := (HC.out.2 2 _ rfl).1
  have x4 := (HC.out.2 4 _ rfl).1
  have x5 := (HC.out.2 5 _ rfl).1
  go_wp2_with fail
  refine (HD.out _).mono ?_
  rintro e w2 ⟨rfl, hb⟩
  replace HB := Shut.mk (HB.out.trans (hb.mono HB.out.size))
  replace HC := Shut.mk (HC.out.grow hb)
  clear hb x1 x2 x4 x5
  have x1 := (HC.out.2 1 _ rfl).1
  have x2 := (HC.out.2 2 _ rfl).1
  have x4 := (HC.out.2 4 _ rfl).1
  have x5 := (HC.out.2 5 _ rfl).1
  go_wp2_with fail
  refine (HL.out _).mono ?_
  rintro e w3 ⟨rfl, hb⟩
  replace HB := Shut.mk (HB.out.trans (hb.mono HB.out.size))
  replace HC := Shut.mk (HC.out.grow hb)
  clear hb x1 x2 x4 x5
  go_wp2_with fail
  go_ret
  exact ⟨rfl, HB.out⟩
attribute [local irreducible] newX markK
end Go.Proofs.Ytendbipfmgnjkaa
