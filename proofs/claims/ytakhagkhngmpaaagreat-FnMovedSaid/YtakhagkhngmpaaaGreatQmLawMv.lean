/- Texts of ours, laid one behind the other: LawMv. -/
import Derived.Test.YtakhagkhngmpaaaGreatQm10
import Derived.Test.YtakhagkhngmpaaaGreatQm6
import Derived.Test.YtakhagkhngmpaaaGreatQm13
import Derived.Test.YtakhagkhngmpaaaGreatQm7
import Derived.Test.YtakhagkhngmpaaaGreatQm8
import Derived.Test.YtakhagkhngmpaaaGreatQm2
import Derived.Test.YtakhagkhngmpaaaGreatQm3
import Derived.Test.YtakhagkhngmpaaaGreatQm1
/- LawMv: . -/
namespace Go.Proofs.YtakhagkhngmpaaaGreat
set_option maxRecDepth 100000
open Go.RowKit
attribute [local go_sem ↓] Go.wp_at_zero Go.wp_at_succ
def dg9 (k : Nat) : ByteArray := ⟨#[48 + k.toUInt8]⟩
theorem dec9 (k : Nat) (hk : k < 9) (w : World) : Calls Tryz.prog 33 #[.int .i64 (k : Int)] w fun e w' => e = .returned (.string (dg9 k)) ∧ Below w.heap.size w w' := by
 rcases Nat.eq_zero_or_pos k with rfl | h
 ·exact decimal_zero w
 ·have q := decimal_pos k w h (by omega)
  have e : (⟨(W.dg k).toArray⟩ : ByteArray) = dg9 k := by
   have : ∀ k : Fin 9, 0 < k.val → (⟨(W.dg k.val).toArray⟩ : ByteArray) = dg9 k.val := by decide
   exact this ⟨k, hk⟩ h
  rw [e] at q
  exact q
theorem dest_split : ∀ k : Fin 9, splitB (⟨#[47, 109]⟩ ++ dg9 k.val) = ([⟨#[109, 48 + k.val.toUInt8]⟩], true) := by decide
theorem dest_up {T : TM} (h : treeOk T = true) {k : Nat} (hk : k < 9) : upX T (⟨#[47, 109]⟩ ++ dg9 k) ≠ 0 := by
 have e := dest_split ⟨k, hk⟩
 have q := parent_yes (I := []) e
 unfold upX
 rw [q]
 show findX T ⟨#[47]⟩ ≠ 0
 rw [find_root h]
 decide
theorem dest_size {k : Nat} : (⟨#[47, 109]⟩ ++ dg9 k : ByteArray).size ≤ 2000 := by
 rw [ByteArray.size_append]
 show 2 + 1 ≤ 2000
 omega
theorem moved_code {T : TM} {fr de : ByteArray} (h : treeOk T = true) (he : editOk ⟨3, fr, de, 0, 0⟩ = true) (hu : upX T de ≠ 0) : ((applyX T ⟨3, fr, de, 0, 0⟩ 1).2 == 1) = (findX T fr == 0) := by
 have hm : mayX T ⟨3, fr, de, 0, 0⟩ 1 = true := by unfold mayX; rw [h, he]; decide
 unfold applyX
 rw [if_neg (by rw [hm]; decide), if_neg (by dsimp only; omega), if_neg (by dsimp only; omega), if_neg (by dsimp only; omega)]
 dsimp only
 by_cases c : findX T fr = 0
 ·rw [if_pos c, c]; rfl
 ·rw [if_neg c, if_pos rfl]
  have e : (findX T fr == 0) = false := by simpa using c
  rw [e]
  unfold moveX
  rw [if_neg hu]
  repeat' split
  all_goals rfl
theorem moved_facts {T : TM} {fr de : ByteArray} (h : (applyX T ⟨3, fr, de, 0, 0⟩ 1).2 = 0) : findX (applyX T ⟨3, fr, de, 0, 0⟩ 1).1 fr = 0 ∧ belowX (applyX T ⟨3, fr, de, 0, 0⟩ 1).1 (findX T fr) = belowX T (findX T fr) ∧ ∀ b ∈ belowX T (findX T fr), (∃ n ∈ T.nodes, n.id = b) ∧ fr.size ≤ (pathX T b).size ∧ findX (applyX T ⟨3, fr, de, 0, 0⟩ 1).1 (de ++ (pathX T b).extract fr.size (pathX T b).size) = b ∧ usedX (applyX T ⟨3, fr, de, 0, 0⟩ 1).1 b = usedX T b := by
 have hok := app_ok h
 obtain ⟨ht, he, hT⟩ := took h
 generalize (applyX T ⟨3, fr, de, 0, 0⟩ 1).1 = R at hT hok ⊢
 cases hT with
 | boot q => dsimp only at q; omega
 | add x q => dsimp only at q; omega
 | move q h0 h1 hu hd hb =>
  dsimp only at *
  obtain ⟨x, y, K, U, M, e1, s1, s2⟩ := moved ht hok h0 h1 hu hb
  have hT := TP.of ht
  generalize moveT T de (findX T fr) = R9 at M ⊢
  rw [← e1]
  have hsf : Way T.nodes x (K ++ []) := by rw [List.append_nil]; exact M.xin
  refine ⟨M.lost s1 s2 hd, M.below hsf, fun b hbm => ?_⟩
  obtain ⟨_, n, hn, en⟩ := belowX_mem hbm
  rw [← en] at hbm ⊢
  rw [below_mem ht hn M.xin.mem] at hbm
  obtain ⟨B, hB, lB⟩ := hT.way4 hn
  unfold blB at hbm
  rw [hT.below_way hB 15 (by omega) (hT.nz x M.xin.mem), Bool.or_eq_true, decide_eq_true_eq, List.any_eq_true] at hbm
  have hin : ∃ m ∈ B, m.id = x.id := by
   rcases hbm with q | ⟨m, hm, q⟩
   ·exact absurd q M.one
   ·exact ⟨m, hm, of_decide_eq_true q⟩
  obtain ⟨C, eB⟩ := M.xin.split hT.up hB hin
  rw [eB] at hB
  obtain ⟨p1, p2⟩ := M.path hB s1 s2
  exact ⟨⟨n, hn, rfl⟩, p1, p2, M.used hB⟩
 | drop q => dsimp only at q; omega
 | set x q => dsimp only at q; omega
 | more q => dsimp only at q; omega
attribute [local irreducible] treeOk applyX editOk findX belowX usedX pathX dg9
set_option maxHeartbeats 16000000 in
theorem moved_walk (a : Option Addr) (len cap : Nat) (w : World) (hcode : CodeAt w w.heap.size a len) :
  Calls Tryz.prog 5 #[.slice a len cap] w fun e w' => e = .returned (.bool true) ∧ Below w.heap.size w w' := by
 have hbig : decide ((1048576 : Int) < (len : Int)) = false := by have := hcode.1; simp; omega
 have HC : Hid (CodeAt w w.heap.size a len) := hcode
 clear hcode
 go_enter Tryz.func5, Tryz.ntmps5
 go_wp2_with fail
 refine (big_any a len cap _).mono ?_
 rintro e w1 ⟨rfl, hw1⟩
 obtain rfl : w = w1 := hw1.symm
 clear hw1
 rw [hbig]
 go_upto_region 4 with (go_at_call 12; refine (drawRightPair_any _ a len cap HC.out).mono ?_; rintro e w1 ⟨v, es, ⟨kind, path, dest, num, who⟩, rfl, hes, hpl, hbd, hta, hb1⟩; have HOK := Shut.mk (Rt.of (drawn_ok es)); obtain ⟨T, hT⟩ : ∃ T, T = (allX newX es 1).1 := ⟨_, rfl⟩; rw [← hT] at hta HOK; obtain ⟨tg, tf, tn, tc, rfl⟩ := tans_some hta HOK.out.l1; have htn := (see_node hta.see HOK.out.l1).1; obtain ⟨nx, hnx⟩ : ∃ n, n = T.next := ⟨_, rfl⟩; rw [← hnx] at hta ⊢; obtain ⟨lo, hi, h9⟩ := (TL.of (MB.nil w)).call hta hb1; have HT := Shut.mk h9; have HTN := Shut.mk (And.intro htn hnx); have HC1 : Hid (CodeAt w1 w1.heap.size a len) := ⟨HC.out.1, fun hp => by obtain ⟨b, off, e, hb, hx⟩ := (HC.out.below hb1 (Nat.le_refl _)).2 hp; exact ⟨b, off, e, Nat.lt_of_lt_of_le hb hb1.size, hx⟩⟩; clear hes hpl hta hb1 h9 hT htn hnx)
 have tn1 : 1 ≤ tn := by have := HOK.out.l1; have := HTN.out.1; omega
 have tn14 : tn ≤ 14 := by have := HOK.out.l14; have := HTN.out.1; omega
 obtain ⟨tb, htb⟩ : ∃ b, b = w1.heap.size := ⟨_, rfl⟩
 obtain ⟨eb, heb⟩ : ∃ b, b = w1.heap.size + 1 := ⟨_, rfl⟩
 rw [← heb, ← htb]
 refine wp_shade (fun W => TL w W [(eb, [.int .i64 kind, .string path, .string dest, .int .i64 num, .int .i64 who]), (tb, [.slice (some ⟨tg, tf, none⟩) tn tc, .int .i64 nx])] [(.agg #[.slice (some ⟨tg, tf, none⟩) tn tc, .int .i64 nx], T, lo, hi)] [] ∧ Below w1.heap.size w1 W) ⟨by rw [heb, htb]; exact HT.out.new2 #[.slice (some ⟨tg, tf, none⟩) tn tc, .int .i64 nx] #[.int .i64 kind, .string path, .string dest, .int .i64 num, .int .i64 who] 26 28, ((Below.refl _ _).alloc (Nat.le_refl _) _).alloc (by simp) _⟩ ?_
 rintro W2 ⟨hW9, hb2⟩
 replace HT := Shut.mk hW9
 have HC2 : Hid (CodeAt W2 W2.heap.size a len) := ⟨HC1.out.1, fun hp => by
  obtain ⟨b, off, e, hb, hx⟩ := (HC1.out.below hb2 (Nat.le_refl _)).2 hp
  exact ⟨b, off, e, Nat.lt_of_lt_of_le hb hb2.size, hx⟩⟩
 clear hW9 htb heb hb2 HC HC1 hbig
 go_upto_region 5 with (go_at_call 31; refine (drawPlaces_any _ a len cap HC2.out).mono ?_; rintro e w2 ⟨gp, pc, l, rfl, hg1, hg2, hl, hx, hcell, hb1⟩; have c0 := hcell 0 (by omega); have c1 := hcell 1 (by omega); have b0 := hx (l.getD 0 0) (by rw [List.getD_eq_getElem?_getD, List.getElem?_eq_getElem (by omega)]; exact List.getElem_mem _); have b1 := hx (l.getD 1 0) (by rw [List.getD_eq_getElem?_getD, List.getElem?_eq_getElem (by omega)]; exact List.getElem_mem _); replace HT := Shut.mk (HT.out.below hb1); clear hcell hx hl hb1)
 generalize l.getD 0 0 = p0 at c0 b0
 generalize l.getD 1 0 = p1 at c1 b1
 have HC3 : Shut (∀ W, Below w2.heap.size w2 W → W.cell? ⟨gp, 0, none⟩ = some (.int .i64 p0) ∧ W.cell? ⟨gp, 1, none⟩ = some (.int .i64 p1)) := ⟨fun W hb => ⟨(hb.cell (p := ⟨gp, 0, none⟩) hg2).trans c0, (hb.cell (p := ⟨gp, 1, none⟩) hg2).trans c1⟩⟩
 clear c0 c1 hg1 hg2 HC2
 have hp0 : p0.tmod (tn : Int) = p0 % (tn : Int) := Int.tmod_eq_emod_of_nonneg b0.1
 obtain ⟨j, hj⟩ : ∃ j : Nat, p0 % (tn : Int) = (j : Int) := ⟨(p0 % (tn : Int)).toNat, (Int.toNat_of_nonneg (Int.emod_nonneg _ (by omega))).symm⟩
 have hj1 : j < tn := by have := Int.emod_lt_of_pos p0 (show (0 : Int) < (tn : Int) by omega); omega
 have hjT : j < T.nodes.length := by have := HTN.out.1; omega
 have HMEM : Shut (T.nodes[j] ∈ T.nodes) := ⟨List.getElem_mem hjT⟩
 have HNJ : Shut (∀ W lo hi, TSee W (.agg #[.slice (some ⟨tg, tf, none⟩) tn tc, .int .i64 nx]) T lo hi → W.cell? ⟨tg, tf + j * 9, none⟩ = some (.int .i64 T.nodes[j].id)) := ⟨fun W lo hi q => by
  obtain ⟨r, e, hr⟩ := (see_node q HOK.out.l1).2.2.2 j hjT
  rw [← e]; exact hr.1⟩
 obtain ⟨id0, hid0⟩ : ∃ i, i = T.nodes[j].id := ⟨_, rfl⟩
 have HPZ : Shut ((pathX T id0).size ≤ 1000) := ⟨by rw [hid0]; exact path_small9 HOK.out.ok HMEM.out⟩
 rw [← hid0] at HNJ
 have tn0 : ¬ (tn : Int) = 0 := by omega
 have tn0n : ¬ tn = 0 := by omega
 have j0 : (0 : Int) ≤ (j : Int) := by omega
 have j1 : (j : Int) < (tn : Int) := by omega
 clear hjT hid0 HMEM
 have HPO := Shut.mk (fun (W : World) (u : Value) (lo hi : Nat) (q : TSee W u T lo hi) (i : Int) => specPathOf i q HOK.out.fit)
 go_cut [6] from 23 to 36 (fun u wq => ∃ p : ByteArray, u = .string p ∧ p.size ≤ 1000 ∧ Shut (TL w wq [(eb, [.int .i64 kind, .string path, .string dest, .int .i64 num, .int .i64 who]), (tb, [.slice (some ⟨tg, tf, none⟩) tn tc, .int .i64 nx])] [(.agg #[.slice (some ⟨tg, tf, none⟩) tn tc, .int .i64 nx], T, lo, hi)] []) ∧ Shut (Below w2.heap.size w2 wq))
 case first =>
  refine wp_region_R Later ⟨Later.refl, Later.trans⟩ (by kernel_rfl) ?_
  have HTX : Shut (∀ x, Later w2.drew x → TL w x [(eb, [.int .i64 kind, .string path, .string dest, .int .i64 num, .int .i64 who]), (tb, [.slice (some ⟨tg, tf, none⟩) tn tc, .int .i64 nx])] [(.agg #[.slice (some ⟨tg, tf, none⟩) tn tc, .int .i64 nx], T, lo, hi)] []) := ⟨fun x hx => HT.out.below (Below.trans (Below.drew (Below.refl _ _)) hx)⟩
  have HLE : Shut (∀ x, Later w2.drew x → x.cell? ⟨tb, 0, none⟩ = some (.slice (some ⟨tg, tf, none⟩) tn tc) ∧ x.cell? ⟨tb, 1, none⟩ = some (.int .i64 nx) ∧ x.cell? ⟨gp, 0, none⟩ = some (.int .i64 p0) ∧ x.cell? ⟨tg, tf + j * 9, none⟩ = some (.int .i64 id0)) := ⟨fun x hx => by
   have M := (HTX.out x hx).mb
   exact ⟨((M.at 1 rfl).1.2 0 _ rfl).1, ((M.at 1 rfl).1.2 1 _ rfl).1, (HC3.out x (Below.trans (Below.drew (Below.refl _ _)) hx)).1, HNJ.out x _ _ ((HTX.out x hx).at 0 rfl).see⟩⟩
  refine wpR_val ⟨Later.refl, Later.trans⟩ (i := 0) (v := ?vr1) rfl (by kernel_rfl) (by kernel_rfl) (by kernel_rfl) (fun _ _ _ h => h) (by rfl) ?hyr1 ?restr1
  case hyr1 => (intro x hx; obtain ⟨d0, d1, d2, d3⟩ := HLE.out x hx; go_simp; try with_reducible rfl)
  try simp only [Act.put, qA, qB, qC]
  refine wpR_val ⟨Later.refl, Later.trans⟩ (i := 1) (v := ?vr2) rfl (by kernel_rfl) (by kernel_rfl) (by kernel_rfl) (fun _ _ _ h => h) (by rfl) ?hyr2 ?restr2
  case hyr2 => (intro x hx; obtain ⟨d0, d1, d2, d3⟩ := HLE.out x hx; go_simp; try with_reducible rfl)
  try simp only [Act.put, qA, qB, qC]
  refine wpR_val ⟨Later.refl, Later.trans⟩ (i := 2) (v := ?vr3) rfl (by kernel_rfl) (by kernel_rfl) (by kernel_rfl) (fun _ _ _ h => h) (by rfl) ?hyr3 ?restr3
  case hyr3 => (intro x hx; obtain ⟨d0, d1, d2, d3⟩ := HLE.out x hx; go_simp; try with_reducible rfl)
  try simp only [Act.put, qA, qB, qC]
  refine wpR_val ⟨Later.refl, Later.trans⟩ (i := 3) (v := ?vr4) rfl (by kernel_rfl) (by kernel_rfl) (by kernel_rfl) (fun _ _ _ h => h) (by rfl) ?hyr4 ?restr4
  case hyr4 => (intro x hx; obtain ⟨d0, d1, d2, d3⟩ := HLE.out x hx; go_simp; try with_reducible rfl)
  try simp only [Act.put, qA, qB, qC]
  refine wpR_val ⟨Later.refl, Later.trans⟩ (i := 4) (v := ?vr5) rfl (by kernel_rfl) (by kernel_rfl) (by kernel_rfl) (fun _ _ _ h => h) (by rfl) ?hyr5 ?restr5
  case hyr5 => (intro x hx; obtain ⟨d0, d1, d2, d3⟩ := HLE.out x hx; go_simp; try with_reducible rfl)
  try simp only [Act.put, qA, qB, qC]
  refine wpR_val ⟨Later.refl, Later.trans⟩ (i := 5) (v := ?vr6) rfl (by kernel_rfl) (by kernel_rfl) (by kernel_rfl) (fun _ _ _ h => h) (by rfl) ?hyr6 ?restr6
  case hyr6 => (intro x hx; obtain ⟨d0, d1, d2, d3⟩ := HLE.out x hx; go_simp; try with_reducible rfl)
  try simp only [Act.put, qA, qB, qC]
  refine wpR_val ⟨Later.refl, Later.trans⟩ (i := 6) (v := ?vr7) rfl (by kernel_rfl) (by kernel_rfl) (by kernel_rfl) (fun _ _ _ h => h) (by rfl) ?hyr7 ?restr7
  case hyr7 => (intro x hx; obtain ⟨d0, d1, d2, d3⟩ := HLE.out x hx; go_simp; try with_reducible rfl)
  try simp only [Act.put, qA, qB, qC]
  refine wpR_val ⟨Later.refl, Later.trans⟩ (i := 7) (v := ?vr8) rfl (by kernel_rfl) (by kernel_rfl) (by kernel_rfl) (fun _ _ _ h => h) (by rfl) ?hyr8 ?restr8
  case hyr8 => (intro x hx; obtain ⟨d0, d1, d2, d3⟩ := HLE.out x hx; go_simp; try with_reducible rfl)
  try simp only [Act.put, qA, qB, qC]
  refine wpR_val ⟨Later.refl, Later.trans⟩ (i := 8) (v := ?vr9) rfl (by kernel_rfl) (by kernel_rfl) (by kernel_rfl) (fun _ _ _ h => h) (by rfl) ?hyr9 ?restr9
  case hyr9 => (intro x hx; obtain ⟨d0, d1, d2, d3⟩ := HLE.out x hx; go_simp; try with_reducible rfl)
  try simp only [Act.put, qA, qB, qC]
  refine wpR_val ⟨Later.refl, Later.trans⟩ (i := 9) (v := .int .i64 (j : Int)) rfl (by kernel_rfl) (by kernel_rfl) (by kernel_rfl) (fun _ _ _ h => h) (by rfl) ?hyr10 ?restr10
  case hyr10 => (intro x hx; obtain ⟨d0, d1, d2, d3⟩ := HLE.out x hx; go_simp; try with_reducible rfl)
  try simp only [Act.put, qA, qB, qC]
  refine wpR_val ⟨Later.refl, Later.trans⟩ (i := 10) (v := ?vr11) rfl (by kernel_rfl) (by kernel_rfl) (by kernel_rfl) (fun _ _ _ h => h) (by rfl) ?hyr11 ?restr11
  case hyr11 => (intro x hx; obtain ⟨d0, d1, d2, d3⟩ := HLE.out x hx; go_simp; try with_reducible rfl)
  try simp only [Act.put, qA, qB, qC]
  refine wpR_val ⟨Later.refl, Later.trans⟩ (i := 11) (v := ?vr12) rfl (by kernel_rfl) (by kernel_rfl) (by kernel_rfl) (fun _ _ _ h => h) (by rfl) ?hyr12 ?restr12
  case hyr12 => (intro x hx; obtain ⟨d0, d1, d2, d3⟩ := HLE.out x hx; go_simp; try with_reducible rfl)
  try simp only [Act.put, qA, qB, qC]
  refine wpR_val ⟨Later.refl, Later.trans⟩ (i := 12) (v := ?vr13) rfl (by kernel_rfl) (by kernel_rfl) (by kernel_rfl) (fun _ _ _ h => h) (by rfl) ?hyr13 ?restr13
  case hyr13 => (intro x hx; obtain ⟨d0, d1, d2, d3⟩ := HLE.out x hx; go_simp; try with_reducible rfl)
  try simp only [Act.put, qA, qB, qC]
  refine wpR_call ⟨Later.refl, Later.trans⟩ (i := 13) (v := .string (pathX T id0)) (f := 32) (args := #[.agg #[.slice (some ⟨tg, tf, none⟩) tn tc, .int .i64 nx], .int .i64 id0]) rfl (by kernel_rfl) (by kernel_rfl) (by kernel_rfl) (fun _ _ _ h => h) (by rfl) (fun x hx => by obtain ⟨d0, d1, d2, d3⟩ := HLE.out x hx; go_simp; try with_reducible rfl) (fun x hx => HPO.out x _ _ _ ((HTX.out x hx).at 0 rfl).see id0) ?_
  try simp only [Act.put, qA, qB, qC]
  refine wpR_val ⟨Later.refl, Later.trans⟩ (i := 14) (v := ?vr14) rfl (by kernel_rfl) (by kernel_rfl) (by kernel_rfl) (fun _ _ _ h => h) (by rfl) ?hyr14 ?restr14
  case hyr14 => (intro x hx; obtain ⟨d0, d1, d2, d3⟩ := HLE.out x hx; go_simp; try with_reducible rfl)
  try simp only [Act.put, qA, qB, qC]
  refine wpR_done (by kernel_rfl) ?_ _
  intro x9 hy9
  have T9 := Shut.mk (HTX.out x9 hy9)
  have B9 := Shut.mk (show Below w2.heap.size w2 x9 from Below.trans (Below.drew (Below.refl _ _)) hy9)
  clear hy9 HTX HLE HT
  go_wp2_with fail
  go_meet
  case rel => exact ⟨_, rfl, HPZ.out, T9, B9⟩
 case rest =>
 obtain ⟨p, rfl, hps, HQ, HB3⟩ := hcut
 clear HT
 have HT := HQ
 clear HQ
 obtain ⟨w3, rfl⟩ : ∃ w3, w3 = wc := ⟨_, rfl⟩
 go_upto_if 38 with fail
 obtain ⟨bq, hbq⟩ : ∃ b, b = (p.toList == [47]) := ⟨_, rfl⟩
 rw [← hbq]
 clear hbq
 go_cut [6] from 39 to 40 (fun u wq => ∃ fr : ByteArray, u = .string fr ∧ fr.size ≤ 2000 ∧ Shut (TL w wq [(eb, [.int .i64 kind, .string path, .string dest, .int .i64 num, .int .i64 who]), (tb, [.slice (some ⟨tg, tf, none⟩) tn tc, .int .i64 nx])] [(.agg #[.slice (some ⟨tg, tf, none⟩) tn tc, .int .i64 nx], T, lo, hi)] []) ∧ Shut (Below w2.heap.size w2 wq))
 case first =>
  have hpb : path.size ≤ 2000 := hbd.1
  have e1 := ((HT.out.mb.at 0 rfl).1.2 1 _ rfl).1
  cases bq with
  | true =>
   go_wp2_with fail
   go_meet
   case rel => exact ⟨path, rfl, hpb, HT, HB3⟩
  | false =>
   go_wp2_with fail
   go_meet
   case rel => exact ⟨p, rfl, by omega, HT, HB3⟩
 case rest =>
 obtain ⟨fr, rfl, hfr, HQ, HQB⟩ := hcut
 clear HT HB3
 have HT := HQ
 have HB3 := HQB
 clear HQ HQB
 obtain ⟨w4, rfl⟩ : ∃ w4, w4 = wc := ⟨_, rfl⟩
 have hp1 : p1.tmod 9 = p1 % 9 := Int.tmod_eq_emod_of_nonneg b1.1
 obtain ⟨k, hk⟩ : ∃ k : Nat, p1 % 9 = (k : Int) := ⟨(p1 % 9).toNat, (Int.toNat_of_nonneg (by omega)).symm⟩
 have hk9 : k < 9 := by omega
 have HDC := Shut.mk (fun W => dec9 k hk9 W)
 have HUP := Shut.mk (dest_up (k := k) HOK.out.ok hk9)
 have HDZ := Shut.mk (dest_size (k := k))
 have hd9 : (dg9 k).size ≤ 8 := by unfold dg9; show 1 ≤ 8; omega
 have c1 := (HC3.out w4 HB3.out).2
 go_upto_region 9 with (go_at_call 33; refine (HDC.out _).mono ?_; rintro e w5 ⟨rfl, hb⟩; replace HT := Shut.mk (HT.out.below hb); clear hb c1)
 generalize (⟨#[47, 109]⟩ ++ dg9 k : ByteArray) = de at HUP HDZ ⊢
 obtain ⟨mb, hmb⟩ : ∃ b, b = w5.heap.size := ⟨_, rfl⟩
 rw [← hmb]
 refine wp_shade (fun W => TL w W [(mb, [.int .i64 3, .string fr, .string de, .int .i64 0, .int .i64 0]), (eb, [.int .i64 kind, .string path, .string dest, .int .i64 num, .int .i64 who]), (tb, [.slice (some ⟨tg, tf, none⟩) tn tc, .int .i64 nx])] [(.agg #[.slice (some ⟨tg, tf, none⟩) tn tc, .int .i64 nx], T, lo, hi)] []) (by rw [hmb]; exact HT.out.new #[.int .i64 3, .string fr, .string de, .int .i64 0, .int .i64 0] 28) ?_
 intro W6 hW9
 replace HT := Shut.mk hW9
 clear hW9 hmb HDC
 have HEF : Shut (EFit ⟨3, fr, de, 0, 0⟩) := ⟨⟨by dsimp only; omega, by have := HDZ.out; dsimp only; omega⟩⟩
 have HFR := Shut.mk (show fr.size ≤ 1048576 by omega)
 have HDE := Shut.mk (show de.size ≤ 2000 from HDZ.out)
 have mb0 := ((HT.out.mb.at 0 rfl).1.2 0 _ rfl).1
 have mb1 := ((HT.out.mb.at 0 rfl).1.2 1 _ rfl).1
 have mb2 := ((HT.out.mb.at 0 rfl).1.2 2 _ rfl).1
 have mb3 := ((HT.out.mb.at 0 rfl).1.2 3 _ rfl).1
 have mb4 := ((HT.out.mb.at 0 rfl).1.2 4 _ rfl).1
 go_upto_if 51 with (go_at_call 34; refine (specEditOk ⟨3, fr, de, 0, 0⟩ _ HEF.out).mono ?_; rintro e w6 ⟨rfl, hb⟩; replace HT := Shut.mk (HT.out.below hb); clear hb mb0 mb1 mb2 mb3 mb4)
 obtain ⟨ok, hok⟩ : ∃ o, o = editOk ⟨3, fr, de, 0, 0⟩ := ⟨_, rfl⟩
 have HEO := Shut.mk hok
 rw [← hok]
 clear hok
 cases ok with
 | false =>
  have mb0 := ((HT.out.mb.at 0 rfl).1.2 0 _ rfl).1
  have mb1 := ((HT.out.mb.at 0 rfl).1.2 1 _ rfl).1
  have mb2 := ((HT.out.mb.at 0 rfl).1.2 2 _ rfl).1
  have mb3 := ((HT.out.mb.at 0 rfl).1.2 3 _ rfl).1
  have mb4 := ((HT.out.mb.at 0 rfl).1.2 4 _ rfl).1
  have tb0 := ((HT.out.mb.at 2 rfl).1.2 0 _ rfl).1
  have tb1 := ((HT.out.mb.at 2 rfl).1.2 1 _ rfl).1
  go_wp2_with (first
   | (go_at_call 17; refine (implTreeOk _ _ T _ _ (HT.out.at 0 rfl).see HOK.out.fit HOK.out.int).mono ?_; rintro e w7 ⟨rfl, hb⟩; rw [HOK.out.ok]; replace HT := Shut.mk (HT.out.below hb); clear hb mb0 mb1 mb2 mb3 mb4 tb0 tb1; have mb0 := ((HT.out.mb.at 0 rfl).1.2 0 _ rfl).1; have mb1 := ((HT.out.mb.at 0 rfl).1.2 1 _ rfl).1; have mb2 := ((HT.out.mb.at 0 rfl).1.2 2 _ rfl).1; have mb3 := ((HT.out.mb.at 0 rfl).1.2 3 _ rfl).1; have mb4 := ((HT.out.mb.at 0 rfl).1.2 4 _ rfl).1; have tb0 := ((HT.out.mb.at 2 rfl).1.2 0 _ rfl).1; have tb1 := ((HT.out.mb.at 2 rfl).1.2 1 _ rfl).1)
   | (go_at_call 35; refine (implEditOk ⟨3, fr, de, 0, 0⟩ _ HEF.out).mono ?_; rintro e w8 ⟨rfl, hb⟩; rw [← HEO.out]; replace HT := Shut.mk (HT.out.below hb); clear hb mb0 mb1 mb2 mb3 mb4 tb0 tb1))
  go_ret
  exact ⟨rfl, HT.out.bel⟩
 | true =>
 have HMC := Shut.mk (moved_code HOK.out.ok HEO.out.symm HUP.out)
 have HMF := Shut.mk (fun (h : (applyX T ⟨3, fr, de, 0, 0⟩ 1).2 = 0) => moved_facts h)
 have HNT := Shut.mk (fun (h : (applyX T ⟨3, fr, de, 0, 0⟩ 1).2 ≠ 0) => (not_took h).1)
 have HIM := Shut.mk (fun (W : World) (u : Value) (lo hi : Nat) (q : TSee W u T lo hi) => implApply ⟨3, fr, de, 0, 0⟩ 1 q HOK.out.fit HOK.out.int HEF.out)
 have HXOK := Shut.mk (Rt.of (applyX_ok (e := ⟨3, fr, de, 0, 0⟩) (g := 1) HOK.out.ok))
 have HFS := Shut.mk (fun (W : World) (u : Value) (lo hi : Nat) (q : TSee W u T lo hi) => specFindPath fr q HOK.out.fit HFR.out)
 obtain ⟨XT, rc, hXX⟩ : ∃ XT rc, applyX T ⟨3, fr, de, 0, 0⟩ 1 = (XT, rc) := ⟨_, _, rfl⟩
 rw [hXX] at HMC HMF HNT HIM HXOK
 unfold ApPost at HIM
 dsimp only at HMC HMF HNT HIM HXOK
 obtain ⟨id, hid⟩ : ∃ i, i = findX T fr := ⟨_, rfl⟩
 rw [← hid] at HMC HMF HFS
 obtain ⟨xn, hxn⟩ : ∃ n, n = XT.nodes.length := ⟨_, rfl⟩
 obtain ⟨tx, htx⟩ : ∃ n, n = XT.next := ⟨_, rfl⟩
 have HXN := Shut.mk (And.intro hxn htx)
 clear hXX hid hxn htx HEO
 have mb0 := ((HT.out.mb.at 0 rfl).1.2 0 _ rfl).1
 have mb1 := ((HT.out.mb.at 0 rfl).1.2 1 _ rfl).1
 have mb2 := ((HT.out.mb.at 0 rfl).1.2 2 _ rfl).1
 have mb3 := ((HT.out.mb.at 0 rfl).1.2 3 _ rfl).1
 have mb4 := ((HT.out.mb.at 0 rfl).1.2 4 _ rfl).1
 have tb0 := ((HT.out.mb.at 2 rfl).1.2 0 _ rfl).1
 have tb1 := ((HT.out.mb.at 2 rfl).1.2 1 _ rfl).1
 go_upto_region 12 with (go_at_call 13; refine (HIM.out _ _ _ _ (HT.out.at 0 rfl).see).mono ?_; rintro e w7 ⟨vv, rfl, hans, hb⟩; obtain ⟨c8, d8, rfl⟩ := tans_len hans; rw [← HXN.out.1, ← HXN.out.2] at hans ⊢; obtain ⟨lo8, hi8, h9⟩ := HT.out.call hans hb; replace HT := Shut.mk h9; clear hans hb h9 mb0 mb1 mb2 mb3 mb4 tb0 tb1)
 obtain ⟨b8, hb9⟩ : ∃ b, b = w7.heap.size := ⟨_, rfl⟩
 rw [← hb9]
 refine wp_shade (fun W => TL w W [(b8, [.slice c8 xn d8, .int .i64 tx]), (mb, [.int .i64 3, .string fr, .string de, .int .i64 0, .int .i64 0]), (eb, [.int .i64 kind, .string path, .string dest, .int .i64 num, .int .i64 who]), (tb, [.slice (some ⟨tg, tf, none⟩) tn tc, .int .i64 nx])] [(.agg #[.slice c8 xn d8, .int .i64 tx], XT, lo8, hi8), (.agg #[.slice (some ⟨tg, tf, none⟩) tn tc, .int .i64 nx], T, lo, hi)] []) (by rw [hb9]; exact HT.out.new #[.slice c8 xn d8, .int .i64 tx] 26) ?_
 intro W8 hW9
 replace HT := Shut.mk hW9
 clear hW9 hb9
 have tb0 := ((HT.out.mb.at 3 rfl).1.2 0 _ rfl).1
 have tb1 := ((HT.out.mb.at 3 rfl).1.2 1 _ rfl).1
 go_upto_region 13 with (go_at_call 20; refine (HFS.out _ _ _ _ (HT.out.at 1 rfl).see).mono ?_; rintro e w8 ⟨rfl, hb⟩; replace HT := Shut.mk (HT.out.below hb); clear hb tb0 tb1)
 have hmc := HMC.out
 have hmb2 : ((rc == 1) != (id == 0)) = false := by rw [hmc]; simp
 clear HFS HIM
 go_upto_region 15 with fail
 clear hmc hmb2
 by_cases h0 : rc = 0
 case neg =>
  obtain rfl := HNT.out h0
  have h0b : (rc != 0) = true := by simpa using h0
  have b80 := ((HT.out.mb.at 0 rfl).1.2 0 _ rfl).1
  have b81 := ((HT.out.mb.at 0 rfl).1.2 1 _ rfl).1
  have tb0 := ((HT.out.mb.at 3 rfl).1.2 0 _ rfl).1
  have tb1 := ((HT.out.mb.at 3 rfl).1.2 1 _ rfl).1
  go_wp2_with (go_at_call 16; refine (sameTree_val (HT.out.at 0 rfl).see (HT.out.at 1 rfl).see HOK.out.fit).mono ?_; rintro e w9 ⟨rfl, hb⟩; replace HT := Shut.mk (HT.out.below hb); clear hb b80 b81 tb0 tb1)
  go_ret
  exact ⟨rfl, HT.out.bel⟩
 subst h0
 obtain ⟨f1, f2, f3⟩ := HMF.out rfl
 have hbl := belowX_len T id
 have HBS := Shut.mk (fun (W : World) (u : Value) (lo hi : Nat) (q : TSee W u T lo hi) => specBelowOf id q HOK.out.fit)
 have HBI := Shut.mk (fun (W : World) (u : Value) (lo hi : Nat) (q : TSee W u XT lo hi) => implBelowOf W u XT lo hi id q HXOK.out.fit HXOK.out.int)
 rw [f2] at HBI
 obtain ⟨Bw, hBw⟩ : ∃ b, b = belowX T id := ⟨_, rfl⟩
 rw [← hBw] at f3 hbl HBS HBI
 have HF1 := Shut.mk f1
 have HF3 := Shut.mk f3
 unfold IPost at HBS HBI
 obtain ⟨bl, hbn⟩ : ∃ n, n = Bw.length := ⟨_, rfl⟩
 have HBN := Shut.mk hbn
 rw [← hbn] at hbl
 clear f1 f2 f3 hBw hbn HMF HNT HMC
 have tb0 := ((HT.out.mb.at 3 rfl).1.2 0 _ rfl).1
 have tb1 := ((HT.out.mb.at 3 rfl).1.2 1 _ rfl).1
 go_upto_region 18 with (go_at_call 21; refine (HBS.out _ _ _ _ (HT.out.at 1 rfl).see).mono ?_; rintro e w9 ⟨vv, rfl, hia, hb⟩; obtain ⟨ba, bc, rfl, hbr⟩ := hia.crow; rw [← HBN.out]; replace HT := Shut.mk (HT.out.below hb); have HBR := Shut.mk hbr; clear hia hb hbr tb0 tb1)
 go_wp2_with fail
 go_loopw [12] (fun iv wr => ∃ i : Nat, iv = .int .i64 i ∧ i ≤ bl ∧ Shut (TL w wr [(b8, [.slice c8 xn d8, .int .i64 tx]), (mb, [.int .i64 3, .string fr, .string de, .int .i64 0, .int .i64 0]), (eb, [.int .i64 kind, .string path, .string dest, .int .i64 num, .int .i64 who]), (tb, [.slice (some ⟨tg, tf, none⟩) tn tc, .int .i64 nx])] [(.agg #[.slice c8 xn d8, .int .i64 tx], XT, lo8, hi8), (.agg #[.slice (some ⟨tg, tf, none⟩) tn tc, .int .i64 nx], T, lo, hi)] []) ∧ Shut (Below w9.heap.size w9 wr)) (fun iv _ => bl - (intOf iv).toNat)
 case atStart => exact ⟨0, rfl, Nat.zero_le _, HT, ⟨Below.refl _ _⟩⟩
 case round =>
  clear HT
  obtain ⟨i, rfl, hil, HT, HB9⟩ := hrel
  by_cases hlt : i < bl
  case neg =>
   have i1 : ¬ (i : Int) < (bl : Int) := by omega
   have b80 := ((HT.out.mb.at 0 rfl).1.2 0 _ rfl).1
   have b81 := ((HT.out.mb.at 0 rfl).1.2 1 _ rfl).1
   go_wp2_with (first
    | (go_at_call 37; refine (HBI.out _ _ _ _ (HT.out.at 0 rfl).see).mono ?_; rintro e y1 ⟨vv, rfl, hia, hb⟩; obtain ⟨ba2, bc2, rfl, hbr2⟩ := hia.crow; rw [← HBN.out]; have HR2 := Shut.mk hbr2; replace HT := Shut.mk (HT.out.below hb); replace HB9 := Shut.mk (HB9.out.trans (hb.mono HB9.out.size)); clear hia hb hbr2 b80 b81)
    | (go_at_call 36; rw [HBN.out]; refine (sameInts_same ba2 ba Bw bc2 bc _ HR2.out (HBR.out.stays HB9.out) (by have := HBN.out; omega)).mono ?_; rintro e y2 ⟨rfl, hb⟩; replace HT := Shut.mk (HT.out.below hb); clear hb; have b80 := ((HT.out.mb.at 0 rfl).1.2 0 _ rfl).1; have b81 := ((HT.out.mb.at 0 rfl).1.2 1 _ rfl).1)
    | (go_at_call 19; refine (implFindPath _ _ XT _ _ fr (HT.out.at 0 rfl).see HXOK.out.fit HXOK.out.int HXOK.out.nz HFR.out).mono ?_; rintro e y3 ⟨rfl, hb⟩; rw [HF1.out]; replace HT := Shut.mk (HT.out.below hb); clear hb b80 b81))
   go_ret
   exact ⟨rfl, HT.out.bel⟩
  have i0 : (0 : Int) ≤ (i : Int) := by omega
  have i1 : (i : Int) < (bl : Int) := by omega
  have hib : i < Bw.length := by have := HBN.out; omega
  obtain ⟨⟨nd, hnd, hne⟩, g1, g2, g3⟩ := HF3.out Bw[i] (List.getElem_mem hib)
  obtain ⟨bg, bo, hba, lbg, hbc⟩ := HBR.out (by rw [ics_len]; omega)
  subst hba
  have hci : Shut (∀ W, Below w9.heap.size w9 W → W.cell? ⟨bg, bo + i, none⟩ = some (.int .i64 Bw[i])) := ⟨fun W hb => (hb.cell (p := ⟨bg, bo + i, none⟩) lbg).trans (hbc i _ (by simp [ics, hib]))⟩
  have hps2 : (pathX T Bw[i]).size ≤ 1000 := by rw [← hne]; exact path_small9 HOK.out.ok hnd
  generalize Bw[i] = bi at g1 g2 g3 hci hps2
  clear hnd hne hib hbc
  obtain ⟨qp, hqp⟩ : ∃ q, q = pathX T bi := ⟨_, rfl⟩
  rw [← hqp] at g1 g2 hps2
  have HQP := Shut.mk hqp
  have HG2 := Shut.mk g2
  have HG3 := Shut.mk g3
  clear hqp g2 g3
  go_upto_region 21 with fail
  go_cut [13] from 87 to 92 (fun u wq => u = .string qp ∧ Shut (TL w wq [(b8, [.slice c8 xn d8, .int .i64 tx]), (mb, [.int .i64 3, .string fr, .string de, .int .i64 0, .int .i64 0]), (eb, [.int .i64 kind, .string path, .string dest, .int .i64 num, .int .i64 who]), (tb, [.slice (some ⟨tg, tf, none⟩) tn tc, .int .i64 nx])] [(.agg #[.slice c8 xn d8, .int .i64 tx], XT, lo8, hi8), (.agg #[.slice (some ⟨tg, tf, none⟩) tn tc, .int .i64 nx], T, lo, hi)] []) ∧ Shut (Below w9.heap.size w9 wq))
  case first =>
   refine wp_region_R Later ⟨Later.refl, Later.trans⟩ (by kernel_rfl) ?_
   have HTX : Shut (∀ x, Later wr.drew x → TL w x [(b8, [.slice c8 xn d8, .int .i64 tx]), (mb, [.int .i64 3, .string fr, .string de, .int .i64 0, .int .i64 0]), (eb, [.int .i64 kind, .string path, .string dest, .int .i64 num, .int .i64 who]), (tb, [.slice (some ⟨tg, tf, none⟩) tn tc, .int .i64 nx])] [(.agg #[.slice c8 xn d8, .int .i64 tx], XT, lo8, hi8), (.agg #[.slice (some ⟨tg, tf, none⟩) tn tc, .int .i64 nx], T, lo, hi)] []) := ⟨fun x hx => HT.out.below (Below.trans (Below.drew (Below.refl _ _)) hx)⟩
   have HLE : Shut (∀ x, Later wr.drew x → x.cell? ⟨tb, 0, none⟩ = some (.slice (some ⟨tg, tf, none⟩) tn tc) ∧ x.cell? ⟨tb, 1, none⟩ = some (.int .i64 nx) ∧ x.cell? ⟨bg, bo + i, none⟩ = some (.int .i64 bi)) := ⟨fun x hx => by
    have M := (HTX.out x hx).mb
    exact ⟨((M.at 3 rfl).1.2 0 _ rfl).1, ((M.at 3 rfl).1.2 1 _ rfl).1, hci.out x (Below.trans HB9.out (Below.mono (Below.trans (Below.drew (Below.refl _ _)) hx) HB9.out.size))⟩⟩
   refine wpR_val ⟨Later.refl, Later.trans⟩ (i := 0) (v := ?vr15) rfl (by kernel_rfl) (by kernel_rfl) (by kernel_rfl) (fun _ _ _ h => h) (by rfl) ?hyr15 ?restr15
   case hyr15 => (intro x hx; obtain ⟨d0, d1, d2⟩ := HLE.out x hx; go_simp; try with_reducible rfl)
   try simp only [Act.put, qA, qB, qC]
   refine wpR_val ⟨Later.refl, Later.trans⟩ (i := 1) (v := ?vr16) rfl (by kernel_rfl) (by kernel_rfl) (by kernel_rfl) (fun _ _ _ h => h) (by rfl) ?hyr16 ?restr16
   case hyr16 => (intro x hx; obtain ⟨d0, d1, d2⟩ := HLE.out x hx; go_simp; try with_reducible rfl)
   try simp only [Act.put, qA, qB, qC]
   refine wpR_val ⟨Later.refl, Later.trans⟩ (i := 2) (v := ?vr17) rfl (by kernel_rfl) (by kernel_rfl) (by kernel_rfl) (fun _ _ _ h => h) (by rfl) ?hyr17 ?restr17
   case hyr17 => (intro x hx; obtain ⟨d0, d1, d2⟩ := HLE.out x hx; go_simp; try with_reducible rfl)
   try simp only [Act.put, qA, qB, qC]
   refine wpR_val ⟨Later.refl, Later.trans⟩ (i := 3) (v := ?vr18) rfl (by kernel_rfl) (by kernel_rfl) (by kernel_rfl) (fun _ _ _ h => h) (by rfl) ?hyr18 ?restr18
   case hyr18 => (intro x hx; obtain ⟨d0, d1, d2⟩ := HLE.out x hx; go_simp; try with_reducible rfl)
   try simp only [Act.put, qA, qB, qC]
   refine wpR_val ⟨Later.refl, Later.trans⟩ (i := 4) (v := ?vr19) rfl (by kernel_rfl) (by kernel_rfl) (by kernel_rfl) (fun _ _ _ h => h) (by rfl) ?hyr19 ?restr19
   case hyr19 => (intro x hx; obtain ⟨d0, d1, d2⟩ := HLE.out x hx; go_simp; try with_reducible rfl)
   try simp only [Act.put, qA, qB, qC]
   refine wpR_call ⟨Later.refl, Later.trans⟩ (i := 5) (v := .string qp) (f := 32) (args := #[.agg #[.slice (some ⟨tg, tf, none⟩) tn tc, .int .i64 nx], .int .i64 bi]) rfl (by kernel_rfl) (by kernel_rfl) (by kernel_rfl) (fun _ _ _ h => h) (by rfl) (fun x hx => by obtain ⟨d0, d1, d2⟩ := HLE.out x hx; go_simp; try with_reducible rfl) (fun x hx => (by have q := HPO.out x _ _ _ ((HTX.out x hx).at 1 rfl).see bi; rwa [← HQP.out] at q)) ?_
   try simp only [Act.put, qA, qB, qC]
   refine wpR_val ⟨Later.refl, Later.trans⟩ (i := 6) (v := ?vr20) rfl (by kernel_rfl) (by kernel_rfl) (by kernel_rfl) (fun _ _ _ h => h) (by rfl) ?hyr20 ?restr20
   case hyr20 => (intro x hx; obtain ⟨d0, d1, d2⟩ := HLE.out x hx; go_simp; try with_reducible rfl)
   try simp only [Act.put, qA, qB, qC]
   refine wpR_done (by kernel_rfl) ?_ _
   intro x9 hy9
   have T9 := Shut.mk (HTX.out x9 hy9)
   have B9 := Shut.mk (show Below w9.heap.size w9 x9 from Below.trans HB9.out (Below.mono (Below.trans (Below.drew (Below.refl _ _)) hy9) HB9.out.size))
   clear hy9 HTX HLE HT
   go_wp2_with fail
   go_meet
   case rel => exact ⟨rfl, T9, B9⟩
  case rest =>
  obtain ⟨rfl, HQ, HQB⟩ := hcut
  clear HT HB9
  have HT := HQ
  have HB9 := HQB
  clear HQ HQB
  go_upto_region 22 with fail
  have g1' : (fr.size : Int) ≤ (qp.size : Int) := by omega
  have g1'' : ¬ (qp.size : Int) < (fr.size : Int) := by omega
  obtain ⟨np, hnp⟩ : ∃ q, q = de ++ qp.extract fr.size qp.size := ⟨_, rfl⟩
  have HNP : Shut (np.size ≤ 1048576) := ⟨by rw [hnp, ByteArray.size_append, ByteArray.size_extract]; have := HDE.out; omega⟩
  rw [← hnp] at HG2
  obtain ⟨uu, huu⟩ : ∃ u, u = usedX T bi := ⟨_, rfl⟩
  have HUU := Shut.mk huu
  rw [← huu] at HG3
  have hsz9 : de.size + (qp.size - fr.size) ≤ 9223372036854775807 := by have := HDE.out; omega
  have hbb : (bi != bi) = false := by simp
  have huu2 : (uu != uu) = false := by simp
  clear huu
  refine wp_region_R Later ⟨Later.refl, Later.trans⟩ (by kernel_rfl) ?_
  have HTX : Shut (∀ x, Later wc.drew x → TL w x [(b8, [.slice c8 xn d8, .int .i64 tx]), (mb, [.int .i64 3, .string fr, .string de, .int .i64 0, .int .i64 0]), (eb, [.int .i64 kind, .string path, .string dest, .int .i64 num, .int .i64 who]), (tb, [.slice (some ⟨tg, tf, none⟩) tn tc, .int .i64 nx])] [(.agg #[.slice c8 xn d8, .int .i64 tx], XT, lo8, hi8), (.agg #[.slice (some ⟨tg, tf, none⟩) tn tc, .int .i64 nx], T, lo, hi)] []) := ⟨fun x hx => HT.out.below (Below.trans (Below.drew (Below.refl _ _)) hx)⟩
  have HLE : Shut (∀ x, Later wc.drew x → x.cell? ⟨b8, 0, none⟩ = some (.slice c8 xn d8) ∧ x.cell? ⟨b8, 1, none⟩ = some (.int .i64 tx) ∧ x.cell? ⟨mb, 0, none⟩ = some (.int .i64 3) ∧ x.cell? ⟨mb, 1, none⟩ = some (.string fr) ∧ x.cell? ⟨mb, 2, none⟩ = some (.string de) ∧ x.cell? ⟨mb, 3, none⟩ = some (.int .i64 0) ∧ x.cell? ⟨mb, 4, none⟩ = some (.int .i64 0) ∧ x.cell? ⟨tb, 0, none⟩ = some (.slice (some ⟨tg, tf, none⟩) tn tc) ∧ x.cell? ⟨tb, 1, none⟩ = some (.int .i64 nx) ∧ x.cell? ⟨bg, bo + i, none⟩ = some (.int .i64 bi)) := ⟨fun x hx => by
   have M := (HTX.out x hx).mb
   exact ⟨((M.at 0 rfl).1.2 0 _ rfl).1, ((M.at 0 rfl).1.2 1 _ rfl).1, ((M.at 1 rfl).1.2 0 _ rfl).1, ((M.at 1 rfl).1.2 1 _ rfl).1, ((M.at 1 rfl).1.2 2 _ rfl).1, ((M.at 1 rfl).1.2 3 _ rfl).1, ((M.at 1 rfl).1.2 4 _ rfl).1, ((M.at 3 rfl).1.2 0 _ rfl).1, ((M.at 3 rfl).1.2 1 _ rfl).1, hci.out x (Below.trans HB9.out (Below.mono (Below.trans (Below.drew (Below.refl _ _)) hx) HB9.out.size))⟩⟩
  refine wpR_val ⟨Later.refl, Later.trans⟩ (i := 0) (v := ?vr21) rfl (by kernel_rfl) (by kernel_rfl) (by kernel_rfl) (fun _ _ _ h => h) (by rfl) ?hyr21 ?restr21
  case hyr21 => (intro x hx; obtain ⟨d0, d1, d2, d3, d4, d5, d6, d7, d8, d9⟩ := HLE.out x hx; go_simp; try with_reducible rfl)
  try simp only [Act.put, qA, qB, qC]
  refine wpR_val ⟨Later.refl, Later.trans⟩ (i := 1) (v := ?vr22) rfl (by kernel_rfl) (by kernel_rfl) (by kernel_rfl) (fun _ _ _ h => h) (by rfl) ?hyr22 ?restr22
  case hyr22 => (intro x hx; obtain ⟨d0, d1, d2, d3, d4, d5, d6, d7, d8, d9⟩ := HLE.out x hx; go_simp; try with_reducible rfl)
  try simp only [Act.put, qA, qB, qC]
  refine wpR_val ⟨Later.refl, Later.trans⟩ (i := 2) (v := ?vr23) rfl (by kernel_rfl) (by kernel_rfl) (by kernel_rfl) (fun _ _ _ h => h) (by rfl) ?hyr23 ?restr23
  case hyr23 => (intro x hx; obtain ⟨d0, d1, d2, d3, d4, d5, d6, d7, d8, d9⟩ := HLE.out x hx; go_simp; try with_reducible rfl)
  try simp only [Act.put, qA, qB, qC]
  refine wpR_val ⟨Later.refl, Later.trans⟩ (i := 3) (v := ?vr24) rfl (by kernel_rfl) (by kernel_rfl) (by kernel_rfl) (fun _ _ _ h => h) (by rfl) ?hyr24 ?restr24
  case hyr24 => (intro x hx; obtain ⟨d0, d1, d2, d3, d4, d5, d6, d7, d8, d9⟩ := HLE.out x hx; go_simp; try with_reducible rfl)
  try simp only [Act.put, qA, qB, qC]
  refine wpR_val ⟨Later.refl, Later.trans⟩ (i := 4) (v := ?vr25) rfl (by kernel_rfl) (by kernel_rfl) (by kernel_rfl) (fun _ _ _ h => h) (by rfl) ?hyr25 ?restr25
  case hyr25 => (intro x hx; obtain ⟨d0, d1, d2, d3, d4, d5, d6, d7, d8, d9⟩ := HLE.out x hx; go_simp; try with_reducible rfl)
  try simp only [Act.put, qA, qB, qC]
  refine wpR_val ⟨Later.refl, Later.trans⟩ (i := 5) (v := ?vr26) rfl (by kernel_rfl) (by kernel_rfl) (by kernel_rfl) (fun _ _ _ h => h) (by rfl) ?hyr26 ?restr26
  case hyr26 => (intro x hx; obtain ⟨d0, d1, d2, d3, d4, d5, d6, d7, d8, d9⟩ := HLE.out x hx; go_simp; try with_reducible rfl)
  try simp only [Act.put, qA, qB, qC]
  refine wpR_val ⟨Later.refl, Later.trans⟩ (i := 6) (v := .string (qp.extract fr.size qp.size)) rfl (by kernel_rfl) (by kernel_rfl) (by kernel_rfl) (fun _ _ _ h => h) (by rfl) ?hyr27 ?restr27
  case hyr27 => (intro x hx; obtain ⟨d0, d1, d2, d3, d4, d5, d6, d7, d8, d9⟩ := HLE.out x hx; go_simp; try with_reducible rfl)
  try simp only [Act.put, qA, qB, qC]
  refine wpR_val ⟨Later.refl, Later.trans⟩ (i := 7) (v := .string np) rfl (by kernel_rfl) (by kernel_rfl) (by kernel_rfl) (fun _ _ _ h => h) (by rfl) ?hyr28 ?restr28
  case hyr28 => (intro x hx; obtain ⟨d0, d1, d2, d3, d4, d5, d6, d7, d8, d9⟩ := HLE.out x hx; go_simp; try with_reducible rfl)
  try simp only [Act.put, qA, qB, qC]
  refine wpR_call ⟨Later.refl, Later.trans⟩ (i := 8) (v := .int .i64 bi) (f := 19) (args := #[.agg #[.slice c8 xn d8, .int .i64 tx], .string np]) rfl (by kernel_rfl) (by kernel_rfl) (by kernel_rfl) (fun _ _ _ h => h) (by rfl) (fun x hx => by obtain ⟨d0, d1, d2, d3, d4, d5, d6, d7, d8, d9⟩ := HLE.out x hx; go_simp; try with_reducible rfl) (fun x hx => (by have q := implFindPath x _ XT _ _ np ((HTX.out x hx).at 0 rfl).see HXOK.out.fit HXOK.out.int HXOK.out.nz HNP.out; rwa [HG2.out] at q)) ?_
  try simp only [Act.put, qA, qB, qC]
  refine wpR_val ⟨Later.refl, Later.trans⟩ (i := 9) (v := ?vr29) rfl (by kernel_rfl) (by kernel_rfl) (by kernel_rfl) (fun _ _ _ h => h) (by rfl) ?hyr29 ?restr29
  case hyr29 => (intro x hx; obtain ⟨d0, d1, d2, d3, d4, d5, d6, d7, d8, d9⟩ := HLE.out x hx; go_simp; try with_reducible rfl)
  try simp only [Act.put, qA, qB, qC]
  refine wpR_val ⟨Later.refl, Later.trans⟩ (i := 10) (v := ?vr30) rfl (by kernel_rfl) (by kernel_rfl) (by kernel_rfl) (fun _ _ _ h => h) (by rfl) ?hyr30 ?restr30
  case hyr30 => (intro x hx; obtain ⟨d0, d1, d2, d3, d4, d5, d6, d7, d8, d9⟩ := HLE.out x hx; go_simp; try with_reducible rfl)
  try simp only [Act.put, qA, qB, qC]
  refine wpR_val ⟨Later.refl, Later.trans⟩ (i := 11) (v := ?vr31) rfl (by kernel_rfl) (by kernel_rfl) (by kernel_rfl) (fun _ _ _ h => h) (by rfl) ?hyr31 ?restr31
  case hyr31 => (intro x hx; obtain ⟨d0, d1, d2, d3, d4, d5, d6, d7, d8, d9⟩ := HLE.out x hx; go_simp; try with_reducible rfl)
  try simp only [Act.put, qA, qB, qC]
  refine wpR_val ⟨Later.refl, Later.trans⟩ (i := 12) (v := ?vr32) rfl (by kernel_rfl) (by kernel_rfl) (by kernel_rfl) (fun _ _ _ h => h) (by rfl) ?hyr32 ?restr32
  case hyr32 => (intro x hx; obtain ⟨d0, d1, d2, d3, d4, d5, d6, d7, d8, d9⟩ := HLE.out x hx; go_simp; try with_reducible rfl)
  try simp only [Act.put, qA, qB, qC]
  refine wpR_val ⟨Later.refl, Later.trans⟩ (i := 13) (v := .bool false) rfl (by kernel_rfl) (by kernel_rfl) (by kernel_rfl) (fun _ _ _ h => h) (by rfl) ?hyr33 ?restr33
  case hyr33 => (intro x hx; obtain ⟨d0, d1, d2, d3, d4, d5, d6, d7, d8, d9⟩ := HLE.out x hx; go_simp; try with_reducible rfl)
  try simp only [Act.put, qA, qB, qC]
  refine wpR_val ⟨Later.refl, Later.trans⟩ (i := 14) (v := .bool false) rfl (by kernel_rfl) (by kernel_rfl) (by kernel_rfl) (fun _ _ _ h => h) (by rfl) ?hyr34 ?restr34
  case hyr34 => (intro x hx; obtain ⟨d0, d1, d2, d3, d4, d5, d6, d7, d8, d9⟩ := HLE.out x hx; go_simp; try with_reducible rfl)
  try simp only [Act.put, qA, qB, qC]
  refine wpR_val ⟨Later.refl, Later.trans⟩ (i := 15) (v := ?vr35) rfl (by kernel_rfl) (by kernel_rfl) (by kernel_rfl) (fun _ _ _ h => h) (by rfl) ?hyr35 ?restr35
  case hyr35 => (intro x hx; obtain ⟨d0, d1, d2, d3, d4, d5, d6, d7, d8, d9⟩ := HLE.out x hx; go_simp; try with_reducible rfl)
  try simp only [Act.put, qA, qB, qC]
  refine wpR_val ⟨Later.refl, Later.trans⟩ (i := 16) (v := ?vr36) rfl (by kernel_rfl) (by kernel_rfl) (by kernel_rfl) (fun _ _ _ h => h) (by rfl) ?hyr36 ?restr36
  case hyr36 => (intro x hx; obtain ⟨d0, d1, d2, d3, d4, d5, d6, d7, d8, d9⟩ := HLE.out x hx; go_simp; try with_reducible rfl)
  try simp only [Act.put, qA, qB, qC]
  refine wpR_val ⟨Later.refl, Later.trans⟩ (i := 17) (v := ?vr37) rfl (by kernel_rfl) (by kernel_rfl) (by kernel_rfl) (fun _ _ _ h => h) (by rfl) ?hyr37 ?restr37
  case hyr37 => (intro x hx; obtain ⟨d0, d1, d2, d3, d4, d5, d6, d7, d8, d9⟩ := HLE.out x hx; go_simp; try with_reducible rfl)
  try simp only [Act.put, qA, qB, qC]
  refine wpR_val ⟨Later.refl, Later.trans⟩ (i := 18) (v := ?vr38) rfl (by kernel_rfl) (by kernel_rfl) (by kernel_rfl) (fun _ _ _ h => h) (by rfl) ?hyr38 ?restr38
  case hyr38 => (intro x hx; obtain ⟨d0, d1, d2, d3, d4, d5, d6, d7, d8, d9⟩ := HLE.out x hx; go_simp; try with_reducible rfl)
  try simp only [Act.put, qA, qB, qC]
  refine wpR_val ⟨Later.refl, Later.trans⟩ (i := 19) (v := ?vr39) rfl (by kernel_rfl) (by kernel_rfl) (by kernel_rfl) (fun _ _ _ h => h) (by rfl) ?hyr39 ?restr39
  case hyr39 => (intro x hx; obtain ⟨d0, d1, d2, d3, d4, d5, d6, d7, d8, d9⟩ := HLE.out x hx; go_simp; try with_reducible rfl)
  try simp only [Act.put, qA, qB, qC]
  refine wpR_call ⟨Later.refl, Later.trans⟩ (i := 20) (v := .int .i64 uu) (f := 22) (args := #[.agg #[.slice c8 xn d8, .int .i64 tx], .int .i64 bi]) rfl (by kernel_rfl) (by kernel_rfl) (by kernel_rfl) (fun _ _ _ h => h) (by rfl) (fun x hx => by obtain ⟨d0, d1, d2, d3, d4, d5, d6, d7, d8, d9⟩ := HLE.out x hx; go_simp; try with_reducible rfl) (fun x hx => (by have q := implUsedBelow x _ XT _ _ bi ((HTX.out x hx).at 0 rfl).see HXOK.out.fit HXOK.out.int; rwa [HG3.out] at q)) ?_
  try simp only [Act.put, qA, qB, qC]
  refine wpR_val ⟨Later.refl, Later.trans⟩ (i := 21) (v := ?vr40) rfl (by kernel_rfl) (by kernel_rfl) (by kernel_rfl) (fun _ _ _ h => h) (by rfl) ?hyr40 ?restr40
  case hyr40 => (intro x hx; obtain ⟨d0, d1, d2, d3, d4, d5, d6, d7, d8, d9⟩ := HLE.out x hx; go_simp; try with_reducible rfl)
  try simp only [Act.put, qA, qB, qC]
  refine wpR_val ⟨Later.refl, Later.trans⟩ (i := 22) (v := ?vr41) rfl (by kernel_rfl) (by kernel_rfl) (by kernel_rfl) (fun _ _ _ h => h) (by rfl) ?hyr41 ?restr41
  case hyr41 => (intro x hx; obtain ⟨d0, d1, d2, d3, d4, d5, d6, d7, d8, d9⟩ := HLE.out x hx; go_simp; try with_reducible rfl)
  try simp only [Act.put, qA, qB, qC]
  refine wpR_val ⟨Later.refl, Later.trans⟩ (i := 23) (v := ?vr42) rfl (by kernel_rfl) (by kernel_rfl) (by kernel_rfl) (fun _ _ _ h => h) (by rfl) ?hyr42 ?restr42
  case hyr42 => (intro x hx; obtain ⟨d0, d1, d2, d3, d4, d5, d6, d7, d8, d9⟩ := HLE.out x hx; go_simp; try with_reducible rfl)
  try simp only [Act.put, qA, qB, qC]
  refine wpR_val ⟨Later.refl, Later.trans⟩ (i := 24) (v := ?vr43) rfl (by kernel_rfl) (by kernel_rfl) (by kernel_rfl) (fun _ _ _ h => h) (by rfl) ?hyr43 ?restr43
  case hyr43 => (intro x hx; obtain ⟨d0, d1, d2, d3, d4, d5, d6, d7, d8, d9⟩ := HLE.out x hx; go_simp; try with_reducible rfl)
  try simp only [Act.put, qA, qB, qC]
  refine wpR_val ⟨Later.refl, Later.trans⟩ (i := 25) (v := ?vr44) rfl (by kernel_rfl) (by kernel_rfl) (by kernel_rfl) (fun _ _ _ h => h) (by rfl) ?hyr44 ?restr44
  case hyr44 => (intro x hx; obtain ⟨d0, d1, d2, d3, d4, d5, d6, d7, d8, d9⟩ := HLE.out x hx; go_simp; try with_reducible rfl)
  try simp only [Act.put, qA, qB, qC]
  refine wpR_call ⟨Later.refl, Later.trans⟩ (i := 26) (v := .int .i64 uu) (f := 23) (args := #[.agg #[.slice (some ⟨tg, tf, none⟩) tn tc, .int .i64 nx], .int .i64 bi]) rfl (by kernel_rfl) (by kernel_rfl) (by kernel_rfl) (fun _ _ _ h => h) (by rfl) (fun x hx => by obtain ⟨d0, d1, d2, d3, d4, d5, d6, d7, d8, d9⟩ := HLE.out x hx; go_simp; try with_reducible rfl) (fun x hx => (by have q := specUsedBelow bi ((HTX.out x hx).at 1 rfl).see HOK.out.fit; rwa [← HUU.out] at q)) ?_
  try simp only [Act.put, qA, qB, qC]
  refine wpR_val ⟨Later.refl, Later.trans⟩ (i := 27) (v := .bool false) rfl (by kernel_rfl) (by kernel_rfl) (by kernel_rfl) (fun _ _ _ h => h) (by rfl) ?hyr45 ?restr45
  case hyr45 => (intro x hx; obtain ⟨d0, d1, d2, d3, d4, d5, d6, d7, d8, d9⟩ := HLE.out x hx; go_simp; try with_reducible rfl)
  try simp only [Act.put, qA, qB, qC]
  refine wpR_val ⟨Later.refl, Later.trans⟩ (i := 28) (v := .bool false) rfl (by kernel_rfl) (by kernel_rfl) (by kernel_rfl) (fun _ _ _ h => h) (by rfl) ?hyr46 ?restr46
  case hyr46 => (intro x hx; obtain ⟨d0, d1, d2, d3, d4, d5, d6, d7, d8, d9⟩ := HLE.out x hx; go_simp; try with_reducible rfl)
  try simp only [Act.put, qA, qB, qC]
  refine wpR_done (by kernel_rfl) ?_ _
  intro x9 hy9
  have T9 := Shut.mk (HTX.out x9 hy9)
  have B9 := Shut.mk (show Below w9.heap.size w9 x9 from Below.trans HB9.out (Below.mono (Below.trans (Below.drew (Below.refl _ _)) hy9) HB9.out.size))
  clear hy9 HTX HLE HT
  go_wp2_with fail
  go_roundw
  case rel => exact ⟨i + 1, by go_num, by omega, T9, B9⟩
  case measure => simp [intOf]; omega
end Go.Proofs.YtakhagkhngmpaaaGreat
