/- A new server: its model, its marks, its exact law (written by gen/mksvn.py). -/
import Derived.Test.YtodgabdhgaglmaaSvA
import Derived.Test.YtodgabdhgaglmaaTreL
import Derived.Test.YtodgabdhgaglmaaTreI
import Derived.Test.YtodgabdhgaglmaaDiskP
import Derived.Test.YtodgabdhgaglmaaLsAm
import Derived.Test.YtodgabdhgaglmaaLawTrn
namespace Go.Proofs.Ytodgabdhgaglmaa
set_option maxRecDepth 100000
open Go.RowKit BigFrame
attribute [local go_sem ↓] Go.wp_at_zero Go.wp_at_succ

theorem tans_wide {W : World} {v : Value} {T : TM} {lo hi lo' hi' : Nat} (h : TAns W v T lo hi) (h1 : lo' ≤ lo) (h2 : hi ≤ hi') : TAns W v T lo' hi' := by
  obtain ⟨a, cap, rs, e, hr, hc, hx⟩ := h
  refine ⟨a, cap, rs, e, hr, hc, ?_⟩
  rcases hx with rfl | ⟨g, rfl, hm⟩
  · exact .inl rfl
  · exact .inr ⟨g, rfl, hm.wide h1 h2⟩
theorem newX_marks : 0 < markK 1 newX.nodes := by decide
/-- A new server that was answered. -/
def SvNew (T : TM) (nx : Int) (w : World) (e : Ending) (w' : World) : Prop := ∃ (ca da la : Option Addr) (cm cc dc lc : Nat), e = .returned (.agg #[.bool true, .slice ca cm cc, .int .i64 nx, .int .i64 1, .slice da 0 dc, .slice la 0 lc, .int .i64 0]) ∧ TAns w' (.agg #[.slice ca cm cc, .int .i64 nx]) T w.heap.size w'.heap.size ∧ Below w.heap.size w w'
theorem newX_next : newX.next = 2 := rfl
set_option maxRecDepth 100000 in
set_option maxHeartbeats 2000000 in
theorem specServerNew (w : World) : Calls Try.prog 10 #[] w fun e w' => SvNew newX newX.next w e w' := by
  have HT := Shut.mk specTreeNew
  unfold TrPost at HT
  generalize newX = T at *
  obtain ⟨nx, hnx⟩ : ∃ q, q = T.next := ⟨_, rfl⟩
  rw [← hnx]
  have HN := Shut.mk hnx
  clear hnx
  have HS := Shut.mk ((SL.start w).new #[.bool false, .slice none 0 0, .int .i64 0, .int .i64 0, .slice none 0 0, .slice none 0 0, .int .i64 0] 37)
  obtain ⟨b1, hb1⟩ : ∃ q, q = w.heap.size := ⟨_, rfl⟩
  go_enter Try.func10, Try.ntmps10
  go_upto_region 1 with fail
  rw [← hb1] at HS
  refine wp_shade (fun W => SL w W [bxS b1 [.bool false, .slice none 0 0, .int .i64 0, .int .i64 0, .slice none 0 0, .slice none 0 0, .int .i64 0]]) HS.out ?_
  rw [← hb1]
  intro W0 hS0
  have H := Shut.mk hS0
  clear hS0 HS hb1
  go_wp2_with fail
  refine (HT.out _).mono ?_
  rintro e w1 ⟨v1, rfl, hA, hb⟩
  obtain ⟨ca, cm, cc, rfl⟩ := tans_form hA
  rw [← HN.out] at hA ⊢
  replace H := Shut.mk (H.out.add (s := trS (.agg #[.slice ca cm cc, .int .i64 nx]) T W0.heap.size w1.heap.size) hb hA (trS.loc _ _ _ _) (Nat.le_refl _) (Nat.le_refl _))
  clear hA hb
  obtain ⟨r0, s0⟩ := H.out.bx 1 rfl 0 _ rfl
  obtain ⟨r1, s1⟩ := H.out.bx 1 rfl 1 _ rfl
  obtain ⟨r2, s2⟩ := H.out.bx 1 rfl 2 _ rfl
  obtain ⟨r3, s3⟩ := H.out.bx 1 rfl 3 _ rfl
  obtain ⟨r4, s4⟩ := H.out.bx 1 rfl 4 _ rfl
  obtain ⟨r5, s5⟩ := H.out.bx 1 rfl 5 _ rfl
  obtain ⟨r6, s6⟩ := H.out.bx 1 rfl 6 _ rfl
  have HE := Shut.mk ((((((((H.out.put 1 rfl 0 (.bool true) (by simp)).put 1 rfl 1 (.slice ca cm cc) (by simp)).put 1 rfl 2 (.int .i64 nx) (by simp)).put 1 rfl 3 (.int .i64 1) (by simp)).put 1 rfl 4 (.slice none 0 0) (by simp)).put 1 rfl 5 (.slice none 0 0) (by simp)).put 1 rfl 6 (.int .i64 0) (by simp)))
  simp only [List.set_cons_zero, List.set_cons_succ] at HE
  obtain ⟨ht, -, l1, l2⟩ := HE.out.is _ (List.mem_cons_self ..)
  have HX := Shut.mk (tans_wide (show TAns _ (.agg #[.slice ca cm cc, .int .i64 nx]) T W0.heap.size w1.heap.size from ht) l1 l2)
  clear ht l1 l2
  go_wp2_with fail
  refine bodyPost_ret (v := .agg #[.bool true, .slice ca cm cc, .int .i64 nx, .int .i64 1, .slice none 0 0, .slice none 0 0, .int .i64 0]) (by simp [results, Try.results10, go_sem, r0, r1, r2, r3, r4, r5, r6]) rfl ?_
  exact ⟨ca, none, none, cm, cc, 0, 0, rfl, HX.out, HE.out.bel⟩
set_option maxRecDepth 100000 in
set_option maxHeartbeats 2000000 in
theorem markServer_new {w : World} {T : TM} {ca da la : Option Addr} {cm cc dc lc lo hi : Nat} {nx : Int} (k : Nat) (h : TAns w (.agg #[.slice ca cm cc, .int .i64 nx]) T lo hi) (hf : NFit T) (h1 : 1 ≤ k) (hk : k ≤ 1000) (hlo : hi ≤ w.heap.size) :
    Calls Try.prog 13 #[.agg #[.bool true, .slice ca cm cc, .int .i64 nx, .int .i64 1, .slice da 0 dc, .slice la 0 lc, .int .i64 0], .int .i64 k] w fun e w' => e = .returned (.int .i64 (markK k T.nodes : Nat)) ∧ THeld w' (.agg #[.slice ca cm cc, .int .i64 nx]) k T lo hi ∧ Turned w w' lo hi := by
  have HT := Shut.mk (fun (W : World) (hb : Below w.heap.size w W) => markTree_val k (h.below hb) hf h1 hk)
  obtain ⟨kk, hkk⟩ : ∃ q, q = markK k T.nodes := ⟨_, rfl⟩
  rw [← hkk] at HT ⊢
  have HD := Shut.mk (fun (W : World) => markDisk_none da kk dc W)
  have HL := Shut.mk (fun (W : World) => markLeaseS_zero la kk lc W)
  have HH := Shut.mk hlo
  clear h hf hkk hlo
  have HB := Shut.mk ((Below.refl w.heap.size w).alloc (Nat.le_refl _) (.cells #[.bool true, .slice ca cm cc, .int .i64 nx, .int .i64 1, .slice da 0 dc, .slice la 0 lc, .int .i64 0] 37))
  have HC := Shut.mk (wcells_new w #[.bool true, .slice ca cm cc, .int .i64 nx, .int .i64 1, .slice da 0 dc, .slice la 0 lc, .int .i64 0] 37)
  obtain ⟨b1, hb1⟩ : ∃ q, q = w.heap.size := ⟨_, rfl⟩
  go_enter Try.func13, Try.ntmps13
  go_upto_region 1 with fail
  rw [← hb1] at HC
  refine wp_shade (fun W => Below w.heap.size w W ∧ WCells W b1 [.bool true, .slice ca cm cc, .int .i64 nx, .int .i64 1, .slice da 0 dc, .slice la 0 lc, .int .i64 0]) ⟨HB.out, HC.out⟩ ?_
  intro W0 hW
  rw [← hb1]
  replace HB := Shut.mk hW.1
  replace HC := Shut.mk hW.2
  replace HH := Shut.mk (show hi ≤ b1 by rw [hb1]; exact HH.out)
  clear hW hb1
  have x1 := (HC.out.2 1 _ rfl).1
  have x2 := (HC.out.2 2 _ rfl).1
  have x4 := (HC.out.2 4 _ rfl).1
  have x5 := (HC.out.2 5 _ rfl).1
  go_wp2_with fail
  refine (HT.out _ (HB.out)).mono ?_
  rintro e w1 ⟨rfl, hA, ht⟩
  have HX := Shut.mk hA
  have HU := Shut.mk ((Turned.of_below (show Below w.heap.size w W0 from HB.out) lo hi).trans ht)
  replace HC := Shut.mk (HC.out.turned ht (.inr (by have := HH.out; omega)))
  clear hA ht HB HT x1 x2 x4 x5
  have x1 := (HC.out.2 1 _ rfl).1
  have x2 := (HC.out.2 2 _ rfl).1
  have x4 := (HC.out.2 4 _ rfl).1
  have x5 := (HC.out.2 5 _ rfl).1
  go_wp2_with fail
  refine (HD.out _).mono ?_
  rintro e w2 ⟨rfl, hb⟩
  replace HX := Shut.mk (HX.out.below hb)
  replace HU := Shut.mk (HU.out.trans (Turned.of_below hb lo hi))
  replace HC := Shut.mk (HC.out.grow hb)
  clear hb x1 x2 x4 x5
  have x1 := (HC.out.2 1 _ rfl).1
  have x2 := (HC.out.2 2 _ rfl).1
  have x4 := (HC.out.2 4 _ rfl).1
  have x5 := (HC.out.2 5 _ rfl).1
  go_wp2_with fail
  refine (HL.out _).mono ?_
  rintro e w3 ⟨rfl, rfl⟩
  go_wp2_with fail
  go_ret
  exact ⟨rfl, HX.out, HU.out⟩
set_option maxRecDepth 100000 in
set_option maxHeartbeats 2000000 in
theorem heldServer_new {w : World} {T : TM} {ca da la : Option Addr} {cm cc dc lc lo hi : Nat} {nx : Int} {k : Nat} (h : THeld w (.agg #[.slice ca cm cc, .int .i64 nx]) k T lo hi) (hf : NFit T) (h1 : 1 ≤ k) (hk : k ≤ 1000) (hp : 0 < markK k T.nodes) :
    Calls Try.prog 14 #[.agg #[.bool true, .slice ca cm cc, .int .i64 nx, .int .i64 1, .slice da 0 dc, .slice la 0 lc, .int .i64 0], .int .i64 k] w fun e w' => e = .returned (.int .i64 (markK k T.nodes : Nat)) ∧ Below w.heap.size w w' := by
  have HT := Shut.mk (fun (W : World) (hb : Below w.heap.size w W) => heldTree_val (h.below hb) hf h1 hk)
  have hfit := mark_fit hf k hk
  obtain ⟨kk, hkk⟩ : ∃ q, q = markK k T.nodes := ⟨_, rfl⟩
  rw [← hkk] at HT hp hfit ⊢
  have HD := Shut.mk (fun (W : World) => heldDisk_any da kk 0 dc W (fun h => by simp [marksF, fcs] at h) hp (by omega))
  have HL := Shut.mk (fun (W : World) => heldLeaseS_any la kk 0 lc W (fun h => by simp [marksL, lsS] at h) hp (by omega))
  rw [show kk + 3 * 0 = kk by omega] at HD HL
  have hneg : ¬ (kk : Int) < 0 := by omega
  clear h hf hkk hp hfit
  have HB := Shut.mk ((Below.refl w.heap.size w).alloc (Nat.le_refl _) (.cells #[.bool true, .slice ca cm cc, .int .i64 nx, .int .i64 1, .slice da 0 dc, .slice la 0 lc, .int .i64 0] 37))
  have HC := Shut.mk (wcells_new w #[.bool true, .slice ca cm cc, .int .i64 nx, .int .i64 1, .slice da 0 dc, .slice la 0 lc, .int .i64 0] 37)
  obtain ⟨b1, hb1⟩ : ∃ q, q = w.heap.size := ⟨_, rfl⟩
  go_enter Try.func14, Try.ntmps14
  go_upto_region 1 with fail
  rw [← hb1] at HC
  refine wp_shade (fun W => Below w.heap.size w W ∧ WCells W b1 [.bool true, .slice ca cm cc, .int .i64 nx, .int .i64 1, .slice da 0 dc, .slice la 0 lc, .int .i64 0]) ⟨HB.out, HC.out⟩ ?_
  intro W0 hW
  rw [← hb1]
  replace HB := Shut.mk hW.1
  replace HC := Shut.mk hW.2
  clear hW hb1
  have x1 := (HC.out.2 1 _ rfl).1
  have x2 := (HC.out.2 2 _ rfl).1
  have x4 := (HC.out.2 4 _ rfl).1
  have x5 := (HC.out.2 5 _ rfl).1
  go_wp2_with fail
  refine (HT.out _ HB.out).mono ?_
  rintro e w1 ⟨rfl, hb⟩
  replace HB := Shut.mk (HB.out.trans (hb.mono HB.out.size))
  replace HC := Shut.mk (HC.out.grow hb)
  clear hb x1 x2 x4 x5
  have x1 := (HC.out.2 1 _ rfl).1
  have x2 := (HC.out.2 2 _ rfl).1
  have x4 := (HC.out.2 4 _ rfl).1
  have x5 := (HC.out.2 5 _ rfl).1
  go_wp2_with fail
  refine (HD.out _).mono ?_
  rintro e w2 ⟨rfl, hb⟩
  replace HB := Shut.mk (HB.out.trans (hb.mono HB.out.size))
  replace HC := Shut.mk (HC.out.grow hb)
  clear hb x1 x2 x4 x5
  have x1 := (HC.out.2 1 _ rfl).1
  have x2 := (HC.out.2 2 _ rfl).1
  have x4 := (HC.out.2 4 _ rfl).1
  have x5 := (HC.out.2 5 _ rfl).1
  go_wp2_with fail
  refine (HL.out _).mono ?_
  rintro e w3 ⟨rfl, hb⟩
  replace HB := Shut.mk (HB.out.trans (hb.mono HB.out.size))
  replace HC := Shut.mk (HC.out.grow hb)
  clear hb x1 x2 x4 x5
  go_wp2_with fail
  go_ret
  exact ⟨rfl, HB.out⟩
attribute [local irreducible] newX markK
set_option maxRecDepth 100000 in
set_option maxHeartbeats 8000000 in
theorem lawServerNew (h : ∀ (w : World), Calls Try.prog 11 #[] w fun e w' => SvNew newX newX.next w e w') (w : World) :
    Calls Try.prog 4 #[] w fun e w' => e = .returned (.bool true) ∧ Below w.heap.size w w' := by
  have HH := Shut.mk h
  have HS := Shut.mk specServerNew
  have HF := Shut.mk newX_fit
  have HPOS := Shut.mk newX_marks
  generalize newX = T at HH HS HF HPOS
  clear h
  unfold SvNew at HH HS
  obtain ⟨nx, hnx⟩ : ∃ nx, nx = T.next := ⟨_, rfl⟩
  rw [← hnx] at HH HS
  have HFV : Shut (SvFit ⟨true, T, 1, [], [], 0⟩) := ⟨⟨HF.out, by simp, by simp⟩⟩
  have HES := Shut.mk (fun (W : World) (c1 c2 d1 d2 l1 l2 : Option Addr) (m1 m2 e1 e2 k1 k2 n1 n2 x1 x2 y1 y2 : Nat) (k : TAns W (.agg #[.slice c1 m1 e1, .int .i64 nx]) T x1 y1) (j : TAns W (.agg #[.slice c2 m2 e2, .int .i64 nx]) T x2 y2) => eqServer_same (S := ⟨true, T, 1, [], [], 0⟩) (da := d1) (da' := d2) (la := l1) (la' := l2) (up := true) (gr := 1) (now := 0) (dn := 0) (ln := 0) (dc := k1) (dc' := k2) (lc := n1) (lc' := n2) ⟨k.see, fun h => by simp [fcs] at h, fun h => by simp [lsS] at h⟩ ⟨j.see, fun h => by simp [fcs] at h, fun h => by simp [lsS] at h⟩ HFV.out rfl rfl)
  clear hnx HFV
  have H := Shut.mk (SL.start w)
  go_enter Try.func4, Try.ntmps4
  go_wp2_with fail
  refine (HS.out _).mono ?_
  rintro e w1 ⟨c1, d1, l1, m1, e1, k1, n1, rfl, hA, hb⟩
  replace H := Shut.mk ((H.out.add (s := trS (.agg #[.slice c1 m1 e1, .int .i64 nx]) T w.heap.size w1.heap.size) hb hA (trS.loc _ _ _ _) (Nat.le_refl _) (Nat.le_refl _)).new #[.bool true, .slice c1 m1 e1, .int .i64 nx, .int .i64 1, .slice d1 0 k1, .slice l1 0 n1, .int .i64 0] 37)
  obtain ⟨p1, hp1⟩ : ∃ q, q = w.heap.size := ⟨_, rfl⟩
  obtain ⟨g1, hg1⟩ : ∃ q, q = w1.heap.size := ⟨_, rfl⟩
  rw [← hp1, ← hg1] at H
  clear hA hb hp1
  go_upto_region 2 with fail
  refine wp_shade (fun W => SL w W [bxS g1 [.bool true, .slice c1 m1 e1, .int .i64 nx, .int .i64 1, .slice d1 0 k1, .slice l1 0 n1, .int .i64 0], trS (.agg #[.slice c1 m1 e1, .int .i64 nx]) T p1 g1]) H.out ?_
  rw [← hg1]
  intro V1 hW
  replace H := Shut.mk hW
  clear hW hg1
  go_wp2_with fail
  refine (HH.out _).mono ?_
  rintro e w2 ⟨c2, d2, l2, m2, e2, k2, n2, rfl, hA, hb⟩
  replace H := Shut.mk ((H.out.add (s := trS (.agg #[.slice c2 m2 e2, .int .i64 nx]) T V1.heap.size w2.heap.size) hb hA (trS.loc _ _ _ _) (Nat.le_refl _) (Nat.le_refl _)).new #[.bool true, .slice c2 m2 e2, .int .i64 nx, .int .i64 1, .slice d2 0 k2, .slice l2 0 n2, .int .i64 0] 37)
  obtain ⟨p2, hp2⟩ : ∃ q, q = V1.heap.size := ⟨_, rfl⟩
  obtain ⟨g2, hg2⟩ : ∃ q, q = w2.heap.size := ⟨_, rfl⟩
  rw [← hp2, ← hg2] at H
  clear hA hb hp2
  go_upto_region 3 with fail
  refine wp_shade (fun W => SL w W [bxS g2 [.bool true, .slice c2 m2 e2, .int .i64 nx, .int .i64 1, .slice d2 0 k2, .slice l2 0 n2, .int .i64 0], trS (.agg #[.slice c2 m2 e2, .int .i64 nx]) T p2 g2, bxS g1 [.bool true, .slice c1 m1 e1, .int .i64 nx, .int .i64 1, .slice d1 0 k1, .slice l1 0 n1, .int .i64 0], trS (.agg #[.slice c1 m1 e1, .int .i64 nx]) T p1 g1]) H.out ?_
  rw [← hg2]
  intro V2 hW
  replace H := Shut.mk hW
  clear hW hg2
  have x0 := (H.out.bx 0 rfl 0 _ rfl).1
  have x1 := (H.out.bx 0 rfl 1 _ rfl).1
  have x2 := (H.out.bx 0 rfl 2 _ rfl).1
  have x3 := (H.out.bx 0 rfl 3 _ rfl).1
  have x4 := (H.out.bx 0 rfl 4 _ rfl).1
  have x5 := (H.out.bx 0 rfl 5 _ rfl).1
  have x6 := (H.out.bx 0 rfl 6 _ rfl).1
  have y0 := (H.out.bx 2 rfl 0 _ rfl).1
  have y1 := (H.out.bx 2 rfl 1 _ rfl).1
  have y2 := (H.out.bx 2 rfl 2 _ rfl).1
  have y3 := (H.out.bx 2 rfl 3 _ rfl).1
  have y4 := (H.out.bx 2 rfl 4 _ rfl).1
  have y5 := (H.out.bx 2 rfl 5 _ rfl).1
  have y6 := (H.out.bx 2 rfl 6 _ rfl).1
  go_wp2_with fail
  refine (HES.out _ _ _ _ _ _ _ _ _ _ _ _ _ _ _ _ _ _ _ (show TAns _ (.agg #[.slice c2 m2 e2, .int .i64 nx]) T _ _ from H.out.at 1 rfl) (show TAns _ (.agg #[.slice c1 m1 e1, .int .i64 nx]) T _ _ from H.out.at 3 rfl)).mono ?_
  rintro e we ⟨rfl, hb⟩
  replace H := Shut.mk (H.out.below hb)
  clear hb x0 x1 x2 x3 x4 x5 x6 y0 y1 y2 y3 y4 y5 y6
  have x0 := (H.out.bx 0 rfl 0 _ rfl).1
  have x1 := (H.out.bx 0 rfl 1 _ rfl).1
  have x2 := (H.out.bx 0 rfl 2 _ rfl).1
  have x3 := (H.out.bx 0 rfl 3 _ rfl).1
  have x4 := (H.out.bx 0 rfl 4 _ rfl).1
  have x5 := (H.out.bx 0 rfl 5 _ rfl).1
  have x6 := (H.out.bx 0 rfl 6 _ rfl).1
  go_wp2_with fail
  refine (markServer_new 1 (show TAns _ (.agg #[.slice c2 m2 e2, .int .i64 nx]) T p2 g2 from H.out.at 1 rfl) HF.out (by omega) (by omega) (H.out.is _ (List.mem_of_getElem? (show _[1]? = some (trS (.agg #[.slice c2 m2 e2, .int .i64 nx]) T p2 g2) from rfl))).2.2.2).mono ?_
  rintro e wm ⟨rfl, hH, ht⟩
  replace H := Shut.mk (H.out.turn 1 rfl ht (q := fun W => THeld W (.agg #[.slice c2 m2 e2, .int .i64 nx]) 1 T p2 g2) hH (thS.loc _ _ _ _))
  simp only [List.set_cons_zero, List.set_cons_succ] at H
  clear hH ht x0 x1 x2 x3 x4 x5 x6
  obtain ⟨K, hK⟩ : ∃ K, K = markK 1 T.nodes := ⟨_, rfl⟩
  rw [← hK]
  have HK := Shut.mk hK
  clear hK
  have hk0 : ¬ (K : Int) < 0 := by omega
  have hkk : ((K : Int) != (K : Int)) = false := by simp
  have x0 := (H.out.bx 0 rfl 0 _ rfl).1
  have x1 := (H.out.bx 0 rfl 1 _ rfl).1
  have x2 := (H.out.bx 0 rfl 2 _ rfl).1
  have x3 := (H.out.bx 0 rfl 3 _ rfl).1
  have x4 := (H.out.bx 0 rfl 4 _ rfl).1
  have x5 := (H.out.bx 0 rfl 5 _ rfl).1
  have x6 := (H.out.bx 0 rfl 6 _ rfl).1
  go_wp2_with fail
  refine (heldServer_new (show THeld _ (.agg #[.slice c2 m2 e2, .int .i64 nx]) 1 T p2 g2 from H.out.at 1 rfl) HF.out (by omega) (by omega) HPOS.out).mono ?_
  rintro e wh ⟨rfl, hb⟩
  rw [← HK.out]
  replace H := Shut.mk (H.out.below hb)
  clear hb x0 x1 x2 x3 x4 x5 x6
  go_wp2_with fail
  refine (HH.out _).mono ?_
  rintro e w3 ⟨c3, d3, l3, m3, e3, k3, n3, rfl, hA, hb⟩
  replace H := Shut.mk ((H.out.add (s := trS (.agg #[.slice c3 m3 e3, .int .i64 nx]) T wh.heap.size w3.heap.size) hb hA (trS.loc _ _ _ _) (Nat.le_refl _) (Nat.le_refl _)).new #[.bool true, .slice c3 m3 e3, .int .i64 nx, .int .i64 1, .slice d3 0 k3, .slice l3 0 n3, .int .i64 0] 37)
  obtain ⟨p3, hp3⟩ : ∃ q, q = wh.heap.size := ⟨_, rfl⟩
  obtain ⟨g3, hg3⟩ : ∃ q, q = w3.heap.size := ⟨_, rfl⟩
  rw [← hp3, ← hg3] at H
  clear hA hb hp3
  go_upto_region 14 with fail
  refine wp_shade (fun W => SL w W [bxS g3 [.bool true, .slice c3 m3 e3, .int .i64 nx, .int .i64 1, .slice d3 0 k3, .slice l3 0 n3, .int .i64 0], trS (.agg #[.slice c3 m3 e3, .int .i64 nx]) T p3 g3, bxS g2 [.bool true, .slice c2 m2 e2, .int .i64 nx, .int .i64 1, .slice d2 0 k2, .slice l2 0 n2, .int .i64 0], thS (.agg #[.slice c2 m2 e2, .int .i64 nx]) T p2 g2, bxS g1 [.bool true, .slice c1 m1 e1, .int .i64 nx, .int .i64 1, .slice d1 0 k1, .slice l1 0 n1, .int .i64 0], trS (.agg #[.slice c1 m1 e1, .int .i64 nx]) T p1 g1]) H.out ?_
  rw [← hg3]
  intro V3 hW
  replace H := Shut.mk hW
  clear hW hg3
  have x0 := (H.out.bx 0 rfl 0 _ rfl).1
  have x1 := (H.out.bx 0 rfl 1 _ rfl).1
  have x2 := (H.out.bx 0 rfl 2 _ rfl).1
  have x3 := (H.out.bx 0 rfl 3 _ rfl).1
  have x4 := (H.out.bx 0 rfl 4 _ rfl).1
  have x5 := (H.out.bx 0 rfl 5 _ rfl).1
  have x6 := (H.out.bx 0 rfl 6 _ rfl).1
  have y0 := (H.out.bx 4 rfl 0 _ rfl).1
  have y1 := (H.out.bx 4 rfl 1 _ rfl).1
  have y2 := (H.out.bx 4 rfl 2 _ rfl).1
  have y3 := (H.out.bx 4 rfl 3 _ rfl).1
  have y4 := (H.out.bx 4 rfl 4 _ rfl).1
  have y5 := (H.out.bx 4 rfl 5 _ rfl).1
  have y6 := (H.out.bx 4 rfl 6 _ rfl).1
  go_wp2_with fail
  refine (HES.out _ _ _ _ _ _ _ _ _ _ _ _ _ _ _ _ _ _ _ (show TAns _ (.agg #[.slice c3 m3 e3, .int .i64 nx]) T _ _ from H.out.at 1 rfl) (show TAns _ (.agg #[.slice c1 m1 e1, .int .i64 nx]) T _ _ from H.out.at 5 rfl)).mono ?_
  rintro e we ⟨rfl, hb⟩
  replace H := Shut.mk (H.out.below hb)
  clear hb x0 x1 x2 x3 x4 x5 x6 y0 y1 y2 y3 y4 y5 y6
  have x0 := (H.out.bx 2 rfl 0 _ rfl).1
  have x1 := (H.out.bx 2 rfl 1 _ rfl).1
  have x2 := (H.out.bx 2 rfl 2 _ rfl).1
  have x3 := (H.out.bx 2 rfl 3 _ rfl).1
  have x4 := (H.out.bx 2 rfl 4 _ rfl).1
  have x5 := (H.out.bx 2 rfl 5 _ rfl).1
  have x6 := (H.out.bx 2 rfl 6 _ rfl).1
  go_wp2_with fail
  refine (heldServer_new (show THeld _ (.agg #[.slice c2 m2 e2, .int .i64 nx]) 1 T p2 g2 from H.out.at 3 rfl) HF.out (by omega) (by omega) HPOS.out).mono ?_
  rintro e wh ⟨rfl, hb⟩
  rw [← HK.out]
  replace H := Shut.mk (H.out.below hb)
  clear hb x0 x1 x2 x3 x4 x5 x6
  go_wp2_with fail
  go_ret
  exact ⟨rfl, H.out.bel⟩
end Go.Proofs.Ytodgabdhgaglmaa
