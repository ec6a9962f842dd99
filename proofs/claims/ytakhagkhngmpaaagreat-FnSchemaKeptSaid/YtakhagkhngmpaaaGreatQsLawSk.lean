/- Texts of ours, laid one behind the other: LawSk. -/
import Derived.Test.YtakhagkhngmpaaaGreatQs5
import Derived.Test.YtakhagkhngmpaaaGreatQsSkM
import Derived.Test.YtakhagkhngmpaaaGreatQs10
import Derived.Test.YtakhagkhngmpaaaGreatQs6
import Derived.Test.YtakhagkhngmpaaaGreatQs3
import Derived.Test.YtakhagkhngmpaaaGreatQs8
/- LawSk: . -/
namespace Go.Proofs.YtakhagkhngmpaaaGreat
set_option maxRecDepth 100000
open Go.RowKit
attribute [local go_sem ↓] Go.wp_at_zero Go.wp_at_succ
theorem new_rt : Rt newX := Rt.of newX_ok9
theorem kept_facts (a b n : Int) (h : keptB a b n = true) : schemaAtX (allX newX (keptE a b n) 1).1 (findX (allX newX (keptE a b n) 1).1 ⟨#[47, 104]⟩) = a ∧ schemaAtX (allX newX (keptE a b n) 1).1 (findX (allX newX (keptE a b n) 1).1 ⟨#[47, 100, 47, 103]⟩) = b ∧ (allX newX (keptE a b n) 1).2 = 1 + ((spansX a n).length : Int) ∧ ((grpX (allX newX (keptE a b n) 1).1 (findX (allX newX (keptE a b n) 1).1 ⟨#[47, 104]⟩)).length : Int) = (allX newX (keptE a b n) 1).2 - 1 ∧ usedX (allX newX (keptE a b n) 1).1 (findX (allX newX (keptE a b n) 1).1 ⟨#[47, 104]⟩) = n := by
 unfold keptB at h
 simp only [Bool.and_eq_true, beq_iff_eq] at h
 exact ⟨h.1.1.1.1, h.1.1.1.2, h.1.1.2, h.1.2, h.2⟩
theorem kept_here (p0 p1 p2 : Int) : keptB (1 + p0 % 3) (1 + p1 % 3) (1 + p2 % 100) = true := by
 have q := kept_all ⟨(p0 % 3).toNat, by omega⟩ ⟨(p1 % 3).toNat, by omega⟩ ⟨(p2 % 100).toNat, by omega⟩
 dsimp only at q
 rw [Int.toNat_of_nonneg (by omega), Int.toNat_of_nonneg (by omega), Int.toNat_of_nonneg (by omega)] at q
 exact q
attribute [local irreducible] treeOk allX findX belowX usedX grpX schemaAtX spansX newX
set_option maxHeartbeats 16000000 in
theorem kept_walk (a : Option Addr) (len cap : Nat) (w : World) (hcode : CodeAt w w.heap.size a len) :
  Calls Tryz.prog 7 #[.slice a len cap] w fun e w' => e = .returned (.bool true) ∧ Below w.heap.size w w' := by
 have hbig : decide ((1048576 : Int) < (len : Int)) = false := by have := hcode.1; simp; omega
 have HC : Hid (CodeAt w w.heap.size a len) := hcode
 clear hcode
 go_enter Tryz.func7, Tryz.ntmps7
 go_wp2_with fail
 refine (big_any a len cap _).mono ?_
 rintro e w1 ⟨rfl, hw1⟩
 obtain rfl : w = w1 := hw1.symm
 clear hw1
 rw [hbig]
 go_upto_region 4 with (go_at_call 31; refine (drawPlaces_any _ a len cap HC.out).mono ?_; rintro e w1 ⟨gp, pc, l, rfl, hg1, hg2, hl, hx, hcell, hb1⟩; have c0 := hcell 0 (by omega); have c1 := hcell 1 (by omega); have c2 := hcell 2 (by omega); have b0 := hx (l.getD 0 0) (by rw [List.getD_eq_getElem?_getD, List.getElem?_eq_getElem (by omega)]; exact List.getElem_mem _); have b1 := hx (l.getD 1 0) (by rw [List.getD_eq_getElem?_getD, List.getElem?_eq_getElem (by omega)]; exact List.getElem_mem _); have b2 := hx (l.getD 2 0) (by rw [List.getD_eq_getElem?_getD, List.getElem?_eq_getElem (by omega)]; exact List.getElem_mem _); have HB1 := Shut.mk hb1; clear hcell hx hl hb1)
 generalize l.getD 0 0 = p0 at c0 b0
 generalize l.getD 1 0 = p1 at c1 b1
 generalize l.getD 2 0 = p2 at c2 b2
 have HC2 := Shut.mk (And.intro hg2 c2)
 have HKF := Shut.mk (kept_facts _ _ _ (kept_here p0 p1 p2))
 go_upto_region 7 with fail
 obtain ⟨eb, heb⟩ : ∃ b, b = w1.heap.size := ⟨_, rfl⟩
 rw [← heb]
 clear c0 c1 c2
 refine wp_shade (fun W => TL w1 W [(eb, [.int .i64 1, .string ⟨#[47, 100]⟩, .string ⟨#[]⟩, .int .i64 0, .int .i64 0, .int .i64 5, .string ⟨#[47, 100]⟩, .string ⟨#[]⟩, .int .i64 (1 + p0 % 3), .int .i64 0, .int .i64 2, .string ⟨#[47, 100, 47, 102]⟩, .string ⟨#[]⟩, .int .i64 0, .int .i64 1, .int .i64 5, .string ⟨#[47, 100]⟩, .string ⟨#[]⟩, .int .i64 (1 + p1 % 3), .int .i64 0, .int .i64 2, .string ⟨#[47, 100, 47, 103]⟩, .string ⟨#[]⟩, .int .i64 0, .int .i64 1, .int .i64 7, .string ⟨#[47, 100, 47, 102]⟩, .string ⟨#[]⟩, .int .i64 (1 + p2 % 100), .int .i64 0, .int .i64 3, .string ⟨#[47, 100, 47, 102]⟩, .string ⟨#[47, 104]⟩, .int .i64 0, .int .i64 0])] [] []) (by rw [heb]; exact TL.of ((MB.nil w1).new #[.int .i64 1, .string ⟨#[47, 100]⟩, .string ⟨#[]⟩, .int .i64 0, .int .i64 0, .int .i64 5, .string ⟨#[47, 100]⟩, .string ⟨#[]⟩, .int .i64 (1 + p0 % 3), .int .i64 0, .int .i64 2, .string ⟨#[47, 100, 47, 102]⟩, .string ⟨#[]⟩, .int .i64 0, .int .i64 1, .int .i64 5, .string ⟨#[47, 100]⟩, .string ⟨#[]⟩, .int .i64 (1 + p1 % 3), .int .i64 0, .int .i64 2, .string ⟨#[47, 100, 47, 103]⟩, .string ⟨#[]⟩, .int .i64 0, .int .i64 1, .int .i64 7, .string ⟨#[47, 100, 47, 102]⟩, .string ⟨#[]⟩, .int .i64 (1 + p2 % 100), .int .i64 0, .int .i64 3, .string ⟨#[47, 100, 47, 102]⟩, .string ⟨#[47, 104]⟩, .int .i64 0, .int .i64 0] 28)) ?_
 intro W2 hW9
 have HT := Shut.mk hW9
 clear hW9 heb hbig HC hg1 hg2
 have HEF : Shut (∀ e ∈ (keptE (1 + p0 % 3) (1 + p1 % 3) (1 + p2 % 100)), EFit e) := ⟨fun e he => by
  unfold keptE at he
  simp only [List.mem_cons, List.not_mem_nil, or_false] at he
  rcases he with rfl | rfl | rfl | rfl | rfl | rfl | rfl <;> exact ⟨by dsimp only; decide, by dsimp only; decide⟩⟩
 have HROW : Shut (∀ W, WCells W eb [.int .i64 1, .string ⟨#[47, 100]⟩, .string ⟨#[]⟩, .int .i64 0, .int .i64 0, .int .i64 5, .string ⟨#[47, 100]⟩, .string ⟨#[]⟩, .int .i64 (1 + p0 % 3), .int .i64 0, .int .i64 2, .string ⟨#[47, 100, 47, 102]⟩, .string ⟨#[]⟩, .int .i64 0, .int .i64 1, .int .i64 5, .string ⟨#[47, 100]⟩, .string ⟨#[]⟩, .int .i64 (1 + p1 % 3), .int .i64 0, .int .i64 2, .string ⟨#[47, 100, 47, 103]⟩, .string ⟨#[]⟩, .int .i64 0, .int .i64 1, .int .i64 7, .string ⟨#[47, 100, 47, 102]⟩, .string ⟨#[]⟩, .int .i64 (1 + p2 % 100), .int .i64 0, .int .i64 3, .string ⟨#[47, 100, 47, 102]⟩, .string ⟨#[47, 104]⟩, .int .i64 0, .int .i64 0] → RRow W (some ⟨eb, 0, none⟩) (ecs (keptE (1 + p0 % 3) (1 + p1 % 3) (1 + p2 % 100))) 0 W.heap.size) := ⟨fun W h => RRow.of_wcells (L := ecs (keptE (1 + p0 % 3) (1 + p1 % 3) (1 + p2 % 100))) h (Nat.zero_le _) h.1⟩
 have HOK := Shut.mk (Rt.of (allX_ok (keptE (1 + p0 % 3) (1 + p1 % 3) (1 + p2 % 100)) 1 newX_ok9))
 have HAP := Shut.mk (fun (W : World) (u : Value) (lo hi : Nat) (q : TSee W u newX lo hi) (h : WCells W eb [.int .i64 1, .string ⟨#[47, 100]⟩, .string ⟨#[]⟩, .int .i64 0, .int .i64 0, .int .i64 5, .string ⟨#[47, 100]⟩, .string ⟨#[]⟩, .int .i64 (1 + p0 % 3), .int .i64 0, .int .i64 2, .string ⟨#[47, 100, 47, 102]⟩, .string ⟨#[]⟩, .int .i64 0, .int .i64 1, .int .i64 5, .string ⟨#[47, 100]⟩, .string ⟨#[]⟩, .int .i64 (1 + p1 % 3), .int .i64 0, .int .i64 2, .string ⟨#[47, 100, 47, 103]⟩, .string ⟨#[]⟩, .int .i64 0, .int .i64 1, .int .i64 7, .string ⟨#[47, 100, 47, 102]⟩, .string ⟨#[]⟩, .int .i64 (1 + p2 % 100), .int .i64 0, .int .i64 3, .string ⟨#[47, 100, 47, 102]⟩, .string ⟨#[47, 104]⟩, .int .i64 0, .int .i64 0]) => implApplyAll (some ⟨eb, 0, none⟩) 7 (keptE (1 + p0 % 3) (1 + p1 % 3) (1 + p2 % 100)) 0 W.heap.size 1 q new_rt.fit new_rt.int (HROW.out W h) HEF.out (show 7 ≤ 1048576 by omega))
 have HSPN := Shut.mk (fun (W : World) => specSpans (1 + p0 % 3) (1 + p2 % 100) W)
 have hsl := spans_len (1 + p0 % 3) (1 + p2 % 100) (by omega)
 unfold ApPost at HAP
 unfold IPost at HSPN
 obtain ⟨XT, G, hXX⟩ : ∃ XT G, allX newX (keptE (1 + p0 % 3) (1 + p1 % 3) (1 + p2 % 100)) 1 = (XT, G) := ⟨_, _, rfl⟩
 rw [hXX] at HAP HOK HKF
 dsimp only at HAP HOK HKF
 obtain ⟨sl, hsn⟩ : ∃ n, n = (spansX (1 + p0 % 3) (1 + p2 % 100)).length := ⟨_, rfl⟩
 have HSN := Shut.mk hsn
 rw [← hsn] at HKF hsl
 obtain ⟨F, hF⟩ : ∃ f, f = findX XT ⟨#[47, 104]⟩ := ⟨_, rfl⟩
 obtain ⟨F2, hF2⟩ : ∃ f, f = findX XT ⟨#[47, 100, 47, 103]⟩ := ⟨_, rfl⟩
 have HF := Shut.mk (And.intro hF hF2)
 have hFs : (0 ≤ F ∧ F ≤ 1000000) ∧ (0 ≤ F2 ∧ F2 ≤ 1000000) := by rw [hF, hF2]; exact ⟨find_small HOK.out.ok _, find_small HOK.out.ok _⟩
 have HFS := Shut.mk (And.intro (wf_small hFs.1) (wf_small hFs.2))
 rw [← hF, ← hF2] at HKF
 obtain ⟨f1, f2, f3, f4, f5⟩ := HKF.out
 obtain ⟨gn, hgn⟩ : ∃ n, n = (grpX XT F).length := ⟨_, rfl⟩
 have HGN := Shut.mk hgn
 rw [← hgn] at f4
 have HK1 := Shut.mk (And.intro f1 f2)
 have HK5 := Shut.mk f5
 have hG : (G == 1 + (sl : Int)) = true := by simpa using f3
 have hg4 : ((gn : Int) == G - 1) = true := by simpa using f4
 have hwg : IntKind.i64.wrap (G - 1) = G - 1 := IntWalk.i64_in _ ⟨by omega, by omega⟩
 have hws : IntKind.i64.wrap (1 + (sl : Int)) = 1 + (sl : Int) := IntWalk.i64_in _ ⟨by omega, by omega⟩
 obtain ⟨xn, hxn⟩ : ∃ n, n = XT.nodes.length := ⟨_, rfl⟩
 obtain ⟨tx, htx⟩ : ∃ n, n = XT.next := ⟨_, rfl⟩
 have HXN := Shut.mk (And.intro hxn htx)
 clear hXX hsn hF hF2 f1 f2 f3 f4 f5 hgn hxn htx HKF hFs
 go_upto_region 8 with (first | (go_at_call 28; refine (implTreeNew _).mono ?_; rintro e w2 ⟨vv, rfl, hans, hb⟩; obtain ⟨c5, d5, rfl⟩ := tans_len hans; obtain ⟨zn, hzn⟩ : ∃ n, n = newX.nodes.length := ⟨_, rfl⟩; obtain ⟨zx, hzx⟩ : ∃ n, n = newX.next := ⟨_, rfl⟩; rw [← hzn, ← hzx] at hans ⊢; clear hzn hzx; obtain ⟨lo5, hi5, h9⟩ := HT.out.call hans hb; replace HT := Shut.mk h9; clear hans hb h9) | (go_at_call 27; refine (HAP.out _ _ _ _ (HT.out.at 0 rfl).see (HT.out.mb.at 0 rfl).1).mono ?_; rintro e w3 ⟨vv, rfl, hans, hb⟩; obtain ⟨c7, d7, rfl⟩ := tans_len hans; rw [← HXN.out.1, ← HXN.out.2] at hans ⊢; obtain ⟨lo7, hi7, h9⟩ := HT.out.call hans hb; replace HT := Shut.mk h9; clear hans hb h9))
 obtain ⟨b7, hb9⟩ : ∃ b, b = w3.heap.size := ⟨_, rfl⟩
 rw [← hb9]
 refine wp_shade (fun W => TL w1 W [(b7, [.slice c7 xn d7, .int .i64 tx]), (eb, [.int .i64 1, .string ⟨#[47, 100]⟩, .string ⟨#[]⟩, .int .i64 0, .int .i64 0, .int .i64 5, .string ⟨#[47, 100]⟩, .string ⟨#[]⟩, .int .i64 (1 + p0 % 3), .int .i64 0, .int .i64 2, .string ⟨#[47, 100, 47, 102]⟩, .string ⟨#[]⟩, .int .i64 0, .int .i64 1, .int .i64 5, .string ⟨#[47, 100]⟩, .string ⟨#[]⟩, .int .i64 (1 + p1 % 3), .int .i64 0, .int .i64 2, .string ⟨#[47, 100, 47, 103]⟩, .string ⟨#[]⟩, .int .i64 0, .int .i64 1, .int .i64 7, .string ⟨#[47, 100, 47, 102]⟩, .string ⟨#[]⟩, .int .i64 (1 + p2 % 100), .int .i64 0, .int .i64 3, .string ⟨#[47, 100, 47, 102]⟩, .string ⟨#[47, 104]⟩, .int .i64 0, .int .i64 0])] [(.agg #[.slice c7 xn d7, .int .i64 tx], XT, lo7, hi7), (.agg #[.slice c5 zn d5, .int .i64 zx], newX, lo5, hi5)] []) (by rw [hb9]; exact HT.out.new #[.slice c7 xn d7, .int .i64 tx] 26) ?_
 intro W4 hW9
 replace HT := Shut.mk hW9
 clear hW9 hb9
 have b70 := ((HT.out.mb.at 0 rfl).1.2 0 _ rfl).1
 have b71 := ((HT.out.mb.at 0 rfl).1.2 1 _ rfl).1
 go_upto_region 9 with (go_at_call 19; refine (implFindPath _ _ XT _ _ ⟨#[47, 104]⟩ (HT.out.at 0 rfl).see HOK.out.fit HOK.out.int HOK.out.nz (by decide)).mono ?_; rintro e w4 ⟨rfl, hb⟩; rw [← HF.out.1]; replace HT := Shut.mk (HT.out.below hb); clear hb b70 b71)
 have ht2 : p2.tmod 100 = p2 % 100 := Int.tmod_eq_emod_of_nonneg b2.1
 have hwn : IntKind.i64.wrap (1 + p2 % 100) = 1 + p2 % 100 := IntWalk.i64_in _ ⟨by omega, by omega⟩
 have haa : ((1 + p0 % 3) == (1 + p0 % 3)) = true := by simp
 have hbb : ((1 + p1 % 3) == (1 + p1 % 3)) = true := by simp
 have hnn : ((1 + p2 % 100) == (1 + p2 % 100)) = true := by simp
 refine wp_region_R Later ⟨Later.refl, Later.trans⟩ (by kernel_rfl) ?_
 have HTX : Shut (∀ x, Later w4.drew x → TL w1 x [(b7, [.slice c7 xn d7, .int .i64 tx]), (eb, [.int .i64 1, .string ⟨#[47, 100]⟩, .string ⟨#[]⟩, .int .i64 0, .int .i64 0, .int .i64 5, .string ⟨#[47, 100]⟩, .string ⟨#[]⟩, .int .i64 (1 + p0 % 3), .int .i64 0, .int .i64 2, .string ⟨#[47, 100, 47, 102]⟩, .string ⟨#[]⟩, .int .i64 0, .int .i64 1, .int .i64 5, .string ⟨#[47, 100]⟩, .string ⟨#[]⟩, .int .i64 (1 + p1 % 3), .int .i64 0, .int .i64 2, .string ⟨#[47, 100, 47, 103]⟩, .string ⟨#[]⟩, .int .i64 0, .int .i64 1, .int .i64 7, .string ⟨#[47, 100, 47, 102]⟩, .string ⟨#[]⟩, .int .i64 (1 + p2 % 100), .int .i64 0, .int .i64 3, .string ⟨#[47, 100, 47, 102]⟩, .string ⟨#[47, 104]⟩, .int .i64 0, .int .i64 0])] [(.agg #[.slice c7 xn d7, .int .i64 tx], XT, lo7, hi7), (.agg #[.slice c5 zn d5, .int .i64 zx], newX, lo5, hi5)] []) := ⟨fun x hx => HT.out.below (Below.trans (Below.drew (Below.refl _ _)) hx)⟩
 have HLE : Shut (∀ x, Later w4.drew x → x.cell? ⟨b7, 0, none⟩ = some (.slice c7 xn d7) ∧ x.cell? ⟨b7, 1, none⟩ = some (.int .i64 tx) ∧ x.cell? ⟨gp, 2, none⟩ = some (.int .i64 p2)) := ⟨fun x hx => by
  have M := (HTX.out x hx).mb
  exact ⟨((M.at 0 rfl).1.2 0 _ rfl).1, ((M.at 0 rfl).1.2 1 _ rfl).1, (M.bel.cell (p := ⟨gp, 2, none⟩) HC2.out.1).trans HC2.out.2⟩⟩
 refine wpR_val ⟨Later.refl, Later.trans⟩ (i := 0) (v := ?vr1) rfl (by kernel_rfl) (by kernel_rfl) (by kernel_rfl) (fun _ _ _ h => h) (by rfl) ?hyr1 ?restr1
 case hyr1 => (intro x hx; obtain ⟨d0, d1, d2⟩ := HLE.out x hx; go_simp; try with_reducible rfl)
 try simp only [Act.put, qA, qB, qC]
 refine wpR_val ⟨Later.refl, Later.trans⟩ (i := 1) (v := ?vr2) rfl (by kernel_rfl) (by kernel_rfl) (by kernel_rfl) (fun _ _ _ h => h) (by rfl) ?hyr2 ?restr2
 case hyr2 => (intro x hx; obtain ⟨d0, d1, d2⟩ := HLE.out x hx; go_simp; try with_reducible rfl)
 try simp only [Act.put, qA, qB, qC]
 refine wpR_call ⟨Later.refl, Later.trans⟩ (i := 2) (v := .int .i64 (1 + p0 % 3)) (f := 39) (args := #[.agg #[.slice c7 xn d7, .int .i64 tx], .int .i64 F]) rfl (by kernel_rfl) (by kernel_rfl) (by kernel_rfl) (fun _ _ _ h => h) (by rfl) (fun x hx => by obtain ⟨d0, d1, d2⟩ := HLE.out x hx; go_simp; try with_reducible rfl) (fun x hx => (by have q := implSchemaAt x _ XT _ _ F ((HTX.out x hx).at 0 rfl).see HOK.out.fit HOK.out.int HFS.out.1; rwa [HK1.out.1] at q)) ?_
 try simp only [Act.put, qA, qB, qC]
 refine wpR_val ⟨Later.refl, Later.trans⟩ (i := 3) (v := ?vr3) rfl (by kernel_rfl) (by kernel_rfl) (by kernel_rfl) (fun _ _ _ h => h) (by rfl) ?hyr3 ?restr3
 case hyr3 => (intro x hx; obtain ⟨d0, d1, d2⟩ := HLE.out x hx; go_simp; try with_reducible rfl)
 try simp only [Act.put, qA, qB, qC]
 refine wpR_val ⟨Later.refl, Later.trans⟩ (i := 4) (v := .bool true) rfl (by kernel_rfl) (by kernel_rfl) (by kernel_rfl) (fun _ _ _ h => h) (by rfl) ?hyr4 ?restr4
 case hyr4 => (intro x hx; obtain ⟨d0, d1, d2⟩ := HLE.out x hx; go_simp; try with_reducible rfl)
 try simp only [Act.put, qA, qB, qC]
 refine wpR_val ⟨Later.refl, Later.trans⟩ (i := 5) (v := .bool true) rfl (by kernel_rfl) (by kernel_rfl) (by kernel_rfl) (fun _ _ _ h => h) (by rfl) ?hyr5 ?restr5
 case hyr5 => (intro x hx; obtain ⟨d0, d1, d2⟩ := HLE.out x hx; go_simp; try with_reducible rfl)
 try simp only [Act.put, qA, qB, qC]
 refine wpR_val ⟨Later.refl, Later.trans⟩ (i := 6) (v := ?vr6) rfl (by kernel_rfl) (by kernel_rfl) (by kernel_rfl) (fun _ _ _ h => h) (by rfl) ?hyr6 ?restr6
 case hyr6 => (intro x hx; obtain ⟨d0, d1, d2⟩ := HLE.out x hx; go_simp; try with_reducible rfl)
 try simp only [Act.put, qA, qB, qC]
 refine wpR_val ⟨Later.refl, Later.trans⟩ (i := 7) (v := ?vr7) rfl (by kernel_rfl) (by kernel_rfl) (by kernel_rfl) (fun _ _ _ h => h) (by rfl) ?hyr7 ?restr7
 case hyr7 => (intro x hx; obtain ⟨d0, d1, d2⟩ := HLE.out x hx; go_simp; try with_reducible rfl)
 try simp only [Act.put, qA, qB, qC]
 refine wpR_call ⟨Later.refl, Later.trans⟩ (i := 8) (v := .int .i64 F2) (f := 19) (args := #[.agg #[.slice c7 xn d7, .int .i64 tx], .string ⟨#[47, 100, 47, 103]⟩]) rfl (by kernel_rfl) (by kernel_rfl) (by kernel_rfl) (fun _ _ _ h => h) (by rfl) (fun x hx => by obtain ⟨d0, d1, d2⟩ := HLE.out x hx; go_simp; try with_reducible rfl) (fun x hx => (by have q := implFindPath x _ XT _ _ ⟨#[47, 100, 47, 103]⟩ ((HTX.out x hx).at 0 rfl).see HOK.out.fit HOK.out.int HOK.out.nz (by decide); rwa [← HF.out.2] at q)) ?_
 try simp only [Act.put, qA, qB, qC]
 refine wpR_call ⟨Later.refl, Later.trans⟩ (i := 9) (v := .int .i64 (1 + p1 % 3)) (f := 39) (args := #[.agg #[.slice c7 xn d7, .int .i64 tx], .int .i64 F2]) rfl (by kernel_rfl) (by kernel_rfl) (by kernel_rfl) (fun _ _ _ h => h) (by rfl) (fun x hx => by obtain ⟨d0, d1, d2⟩ := HLE.out x hx; go_simp; try with_reducible rfl) (fun x hx => (by have q := implSchemaAt x _ XT _ _ F2 ((HTX.out x hx).at 0 rfl).see HOK.out.fit HOK.out.int HFS.out.2; rwa [HK1.out.2] at q)) ?_
 try simp only [Act.put, qA, qB, qC]
 refine wpR_val ⟨Later.refl, Later.trans⟩ (i := 10) (v := ?vr8) rfl (by kernel_rfl) (by kernel_rfl) (by kernel_rfl) (fun _ _ _ h => h) (by rfl) ?hyr8 ?restr8
 case hyr8 => (intro x hx; obtain ⟨d0, d1, d2⟩ := HLE.out x hx; go_simp; try with_reducible rfl)
 try simp only [Act.put, qA, qB, qC]
 refine wpR_val ⟨Later.refl, Later.trans⟩ (i := 11) (v := .bool true) rfl (by kernel_rfl) (by kernel_rfl) (by kernel_rfl) (fun _ _ _ h => h) (by rfl) ?hyr9 ?restr9
 case hyr9 => (intro x hx; obtain ⟨d0, d1, d2⟩ := HLE.out x hx; go_simp; try with_reducible rfl)
 try simp only [Act.put, qA, qB, qC]
 refine wpR_val ⟨Later.refl, Later.trans⟩ (i := 12) (v := .bool true) rfl (by kernel_rfl) (by kernel_rfl) (by kernel_rfl) (fun _ _ _ h => h) (by rfl) ?hyr10 ?restr10
 case hyr10 => (intro x hx; obtain ⟨d0, d1, d2⟩ := HLE.out x hx; go_simp; try with_reducible rfl)
 try simp only [Act.put, qA, qB, qC]
 refine wpR_val ⟨Later.refl, Later.trans⟩ (i := 13) (v := .bool true) rfl (by kernel_rfl) (by kernel_rfl) (by kernel_rfl) (fun _ _ _ h => h) (by rfl) ?hyr11 ?restr11
 case hyr11 => (intro x hx; obtain ⟨d0, d1, d2⟩ := HLE.out x hx; go_simp; try with_reducible rfl)
 try simp only [Act.put, qA, qB, qC]
 refine wpR_val ⟨Later.refl, Later.trans⟩ (i := 14) (v := ?vr12) rfl (by kernel_rfl) (by kernel_rfl) (by kernel_rfl) (fun _ _ _ h => h) (by rfl) ?hyr12 ?restr12
 case hyr12 => (intro x hx; obtain ⟨d0, d1, d2⟩ := HLE.out x hx; go_simp; try with_reducible rfl)
 try simp only [Act.put, qA, qB, qC]
 refine wpR_val ⟨Later.refl, Later.trans⟩ (i := 15) (v := ?vr13) rfl (by kernel_rfl) (by kernel_rfl) (by kernel_rfl) (fun _ _ _ h => h) (by rfl) ?hyr13 ?restr13
 case hyr13 => (intro x hx; obtain ⟨d0, d1, d2⟩ := HLE.out x hx; go_simp; try with_reducible rfl)
 try simp only [Act.put, qA, qB, qC]
 refine wpR_val ⟨Later.refl, Later.trans⟩ (i := 16) (v := ?vr14) rfl (by kernel_rfl) (by kernel_rfl) (by kernel_rfl) (fun _ _ _ h => h) (by rfl) ?hyr14 ?restr14
 case hyr14 => (intro x hx; obtain ⟨d0, d1, d2⟩ := HLE.out x hx; go_simp; try with_reducible rfl)
 try simp only [Act.put, qA, qB, qC]
 refine wpR_val ⟨Later.refl, Later.trans⟩ (i := 17) (v := ?vr15) rfl (by kernel_rfl) (by kernel_rfl) (by kernel_rfl) (fun _ _ _ h => h) (by rfl) ?hyr15 ?restr15
 case hyr15 => (intro x hx; obtain ⟨d0, d1, d2⟩ := HLE.out x hx; go_simp; try with_reducible rfl)
 try simp only [Act.put, qA, qB, qC]
 refine wpR_val ⟨Later.refl, Later.trans⟩ (i := 18) (v := ?vr16) rfl (by kernel_rfl) (by kernel_rfl) (by kernel_rfl) (fun _ _ _ h => h) (by rfl) ?hyr16 ?restr16
 case hyr16 => (intro x hx; obtain ⟨d0, d1, d2⟩ := HLE.out x hx; go_simp; try with_reducible rfl)
 try simp only [Act.put, qA, qB, qC]
 refine wpR_val ⟨Later.refl, Later.trans⟩ (i := 19) (v := ?vr17) rfl (by kernel_rfl) (by kernel_rfl) (by kernel_rfl) (fun _ _ _ h => h) (by rfl) ?hyr17 ?restr17
 case hyr17 => (intro x hx; obtain ⟨d0, d1, d2⟩ := HLE.out x hx; go_simp; try with_reducible rfl)
 try simp only [Act.put, qA, qB, qC]
 refine wpR_val ⟨Later.refl, Later.trans⟩ (i := 20) (v := ?vr18) rfl (by kernel_rfl) (by kernel_rfl) (by kernel_rfl) (fun _ _ _ h => h) (by rfl) ?hyr18 ?restr18
 case hyr18 => (intro x hx; obtain ⟨d0, d1, d2⟩ := HLE.out x hx; go_simp; try with_reducible rfl)
 try simp only [Act.put, qA, qB, qC]
 refine wpR_onecall (f := 40) (args := #[.int .i64 (1 + p0 % 3), .int .i64 (1 + p2 % 100)]) (i := 21) (by kernel_rfl) rfl (by rfl) (fun x hx => by obtain ⟨d0, d1, d2⟩ := HLE.out x hx; go_simp; try with_reducible rfl) (fun x hx => (HSPN.out x).mono ?_)
 rintro e w5 ⟨vv, rfl, hia, hb⟩
 refine ⟨_, rfl, hb, ?_⟩
 have T9 := Shut.mk ((HTX.out x hx).below hb)
 obtain ⟨ba, bc, rfl, -⟩ := hia.crow
 rw [← HSN.out]
 clear hia
 clear hb hx HTX HLE HT
 have HT := T9
 clear T9
 try simp only [Act.put, qA, qB, qC]
 have HTX : Shut (∀ x, Later w5 x → TL w1 x [(b7, [.slice c7 xn d7, .int .i64 tx]), (eb, [.int .i64 1, .string ⟨#[47, 100]⟩, .string ⟨#[]⟩, .int .i64 0, .int .i64 0, .int .i64 5, .string ⟨#[47, 100]⟩, .string ⟨#[]⟩, .int .i64 (1 + p0 % 3), .int .i64 0, .int .i64 2, .string ⟨#[47, 100, 47, 102]⟩, .string ⟨#[]⟩, .int .i64 0, .int .i64 1, .int .i64 5, .string ⟨#[47, 100]⟩, .string ⟨#[]⟩, .int .i64 (1 + p1 % 3), .int .i64 0, .int .i64 2, .string ⟨#[47, 100, 47, 103]⟩, .string ⟨#[]⟩, .int .i64 0, .int .i64 1, .int .i64 7, .string ⟨#[47, 100, 47, 102]⟩, .string ⟨#[]⟩, .int .i64 (1 + p2 % 100), .int .i64 0, .int .i64 3, .string ⟨#[47, 100, 47, 102]⟩, .string ⟨#[47, 104]⟩, .int .i64 0, .int .i64 0])] [(.agg #[.slice c7 xn d7, .int .i64 tx], XT, lo7, hi7), (.agg #[.slice c5 zn d5, .int .i64 zx], newX, lo5, hi5)] []) := ⟨fun x hx => HT.out.below hx⟩
 have HLE : Shut (∀ x, Later w5 x → x.cell? ⟨b7, 0, none⟩ = some (.slice c7 xn d7) ∧ x.cell? ⟨b7, 1, none⟩ = some (.int .i64 tx) ∧ x.cell? ⟨gp, 2, none⟩ = some (.int .i64 p2)) := ⟨fun x hx => by
  have M := (HTX.out x hx).mb
  exact ⟨((M.at 0 rfl).1.2 0 _ rfl).1, ((M.at 0 rfl).1.2 1 _ rfl).1, (M.bel.cell (p := ⟨gp, 2, none⟩) HC2.out.1).trans HC2.out.2⟩⟩
 refine wpR_val ⟨Later.refl, Later.trans⟩ (i := 22) (v := ?vr19) rfl (by kernel_rfl) (by kernel_rfl) (by kernel_rfl) (fun _ _ _ h => h) (by rfl) ?hyr19 ?restr19
 case hyr19 => (intro x hx; obtain ⟨d0, d1, d2⟩ := HLE.out x hx; go_simp; try with_reducible rfl)
 try simp only [Act.put, qA, qB, qC]
 refine wpR_val ⟨Later.refl, Later.trans⟩ (i := 23) (v := ?vr20) rfl (by kernel_rfl) (by kernel_rfl) (by kernel_rfl) (fun _ _ _ h => h) (by rfl) ?hyr20 ?restr20
 case hyr20 => (intro x hx; obtain ⟨d0, d1, d2⟩ := HLE.out x hx; go_simp; try with_reducible rfl)
 try simp only [Act.put, qA, qB, qC]
 refine wpR_val ⟨Later.refl, Later.trans⟩ (i := 24) (v := .bool true) rfl (by kernel_rfl) (by kernel_rfl) (by kernel_rfl) (fun _ _ _ h => h) (by rfl) ?hyr21 ?restr21
 case hyr21 => (intro x hx; obtain ⟨d0, d1, d2⟩ := HLE.out x hx; go_simp; try with_reducible rfl)
 try simp only [Act.put, qA, qB, qC]
 refine wpR_val ⟨Later.refl, Later.trans⟩ (i := 25) (v := .bool true) rfl (by kernel_rfl) (by kernel_rfl) (by kernel_rfl) (fun _ _ _ h => h) (by rfl) ?hyr22 ?restr22
 case hyr22 => (intro x hx; obtain ⟨d0, d1, d2⟩ := HLE.out x hx; go_simp; try with_reducible rfl)
 try simp only [Act.put, qA, qB, qC]
 refine wpR_val ⟨Later.refl, Later.trans⟩ (i := 26) (v := .bool true) rfl (by kernel_rfl) (by kernel_rfl) (by kernel_rfl) (fun _ _ _ h => h) (by rfl) ?hyr23 ?restr23
 case hyr23 => (intro x hx; obtain ⟨d0, d1, d2⟩ := HLE.out x hx; go_simp; try with_reducible rfl)
 try simp only [Act.put, qA, qB, qC]
 refine wpR_val ⟨Later.refl, Later.trans⟩ (i := 27) (v := ?vr24) rfl (by kernel_rfl) (by kernel_rfl) (by kernel_rfl) (fun _ _ _ h => h) (by rfl) ?hyr24 ?restr24
 case hyr24 => (intro x hx; obtain ⟨d0, d1, d2⟩ := HLE.out x hx; go_simp; try with_reducible rfl)
 try simp only [Act.put, qA, qB, qC]
 refine wpR_val ⟨Later.refl, Later.trans⟩ (i := 28) (v := ?vr25) rfl (by kernel_rfl) (by kernel_rfl) (by kernel_rfl) (fun _ _ _ h => h) (by rfl) ?hyr25 ?restr25
 case hyr25 => (intro x hx; obtain ⟨d0, d1, d2⟩ := HLE.out x hx; go_simp; try with_reducible rfl)
 try simp only [Act.put, qA, qB, qC]
 refine wpR_val ⟨Later.refl, Later.trans⟩ (i := 31) (v := ?vr26) rfl (by kernel_rfl) (by kernel_rfl) (by kernel_rfl) (fun _ _ _ h => h) (by rfl) ?hyr26 ?restr26
 case hyr26 => (intro x hx; obtain ⟨d0, d1, d2⟩ := HLE.out x hx; go_simp; try with_reducible rfl)
 try simp only [Act.put, qA, qB, qC]
 refine wpR_val ⟨Later.refl, Later.trans⟩ (i := 32) (v := ?vr27) rfl (by kernel_rfl) (by kernel_rfl) (by kernel_rfl) (fun _ _ _ h => h) (by rfl) ?hyr27 ?restr27
 case hyr27 => (intro x hx; obtain ⟨d0, d1, d2⟩ := HLE.out x hx; go_simp; try with_reducible rfl)
 try simp only [Act.put, qA, qB, qC]
 refine wpR_onecall (f := 24) (args := #[.agg #[.slice c7 xn d7, .int .i64 tx], .int .i64 F]) (i := 29) (by kernel_rfl) rfl (by rfl) (fun x hx => by obtain ⟨d0, d1, d2⟩ := HLE.out x hx; go_simp; try with_reducible rfl) (fun x hx => (implGroupsOf x _ XT _ _ F ((HTX.out x hx).at 0 rfl).see HOK.out.fit HOK.out.int).mono ?_)
 rintro e w6 ⟨vv, rfl, hia, hb⟩
 refine ⟨_, rfl, hb, ?_⟩
 have T9 := Shut.mk ((HTX.out x hx).below hb)
 obtain ⟨ba2, bc2, rfl, -⟩ := hia.crow
 rw [← HGN.out]
 clear hia
 clear hb hx HTX HLE HT
 have HT := T9
 clear T9
 try simp only [Act.put, qA, qB, qC]
 have HTX : Shut (∀ x, Later w6 x → TL w1 x [(b7, [.slice c7 xn d7, .int .i64 tx]), (eb, [.int .i64 1, .string ⟨#[47, 100]⟩, .string ⟨#[]⟩, .int .i64 0, .int .i64 0, .int .i64 5, .string ⟨#[47, 100]⟩, .string ⟨#[]⟩, .int .i64 (1 + p0 % 3), .int .i64 0, .int .i64 2, .string ⟨#[47, 100, 47, 102]⟩, .string ⟨#[]⟩, .int .i64 0, .int .i64 1, .int .i64 5, .string ⟨#[47, 100]⟩, .string ⟨#[]⟩, .int .i64 (1 + p1 % 3), .int .i64 0, .int .i64 2, .string ⟨#[47, 100, 47, 103]⟩, .string ⟨#[]⟩, .int .i64 0, .int .i64 1, .int .i64 7, .string ⟨#[47, 100, 47, 102]⟩, .string ⟨#[]⟩, .int .i64 (1 + p2 % 100), .int .i64 0, .int .i64 3, .string ⟨#[47, 100, 47, 102]⟩, .string ⟨#[47, 104]⟩, .int .i64 0, .int .i64 0])] [(.agg #[.slice c7 xn d7, .int .i64 tx], XT, lo7, hi7), (.agg #[.slice c5 zn d5, .int .i64 zx], newX, lo5, hi5)] []) := ⟨fun x hx => HT.out.below hx⟩
 have HLE : Shut (∀ x, Later w6 x → x.cell? ⟨b7, 0, none⟩ = some (.slice c7 xn d7) ∧ x.cell? ⟨b7, 1, none⟩ = some (.int .i64 tx) ∧ x.cell? ⟨gp, 2, none⟩ = some (.int .i64 p2)) := ⟨fun x hx => by
  have M := (HTX.out x hx).mb
  exact ⟨((M.at 0 rfl).1.2 0 _ rfl).1, ((M.at 0 rfl).1.2 1 _ rfl).1, (M.bel.cell (p := ⟨gp, 2, none⟩) HC2.out.1).trans HC2.out.2⟩⟩
 refine wpR_val ⟨Later.refl, Later.trans⟩ (i := 30) (v := ?vr28) rfl (by kernel_rfl) (by kernel_rfl) (by kernel_rfl) (fun _ _ _ h => h) (by rfl) ?hyr28 ?restr28
 case hyr28 => (intro x hx; obtain ⟨d0, d1, d2⟩ := HLE.out x hx; go_simp; try with_reducible rfl)
 try simp only [Act.put, qA, qB, qC]
 refine wpR_val ⟨Later.refl, Later.trans⟩ (i := 33) (v := .bool true) rfl (by kernel_rfl) (by kernel_rfl) (by kernel_rfl) (fun _ _ _ h => h) (by rfl) ?hyr29 ?restr29
 case hyr29 => (intro x hx; obtain ⟨d0, d1, d2⟩ := HLE.out x hx; go_simp; try with_reducible rfl)
 try simp only [Act.put, qA, qB, qC]
 refine wpR_val ⟨Later.refl, Later.trans⟩ (i := 34) (v := .bool true) rfl (by kernel_rfl) (by kernel_rfl) (by kernel_rfl) (fun _ _ _ h => h) (by rfl) ?hyr30 ?restr30
 case hyr30 => (intro x hx; obtain ⟨d0, d1, d2⟩ := HLE.out x hx; go_simp; try with_reducible rfl)
 try simp only [Act.put, qA, qB, qC]
 refine wpR_val ⟨Later.refl, Later.trans⟩ (i := 35) (v := .bool true) rfl (by kernel_rfl) (by kernel_rfl) (by kernel_rfl) (fun _ _ _ h => h) (by rfl) ?hyr31 ?restr31
 case hyr31 => (intro x hx; obtain ⟨d0, d1, d2⟩ := HLE.out x hx; go_simp; try with_reducible rfl)
 try simp only [Act.put, qA, qB, qC]
 refine wpR_val ⟨Later.refl, Later.trans⟩ (i := 36) (v := ?vr32) rfl (by kernel_rfl) (by kernel_rfl) (by kernel_rfl) (fun _ _ _ h => h) (by rfl) ?hyr32 ?restr32
 case hyr32 => (intro x hx; obtain ⟨d0, d1, d2⟩ := HLE.out x hx; go_simp; try with_reducible rfl)
 try simp only [Act.put, qA, qB, qC]
 refine wpR_val ⟨Later.refl, Later.trans⟩ (i := 37) (v := ?vr33) rfl (by kernel_rfl) (by kernel_rfl) (by kernel_rfl) (fun _ _ _ h => h) (by rfl) ?hyr33 ?restr33
 case hyr33 => (intro x hx; obtain ⟨d0, d1, d2⟩ := HLE.out x hx; go_simp; try with_reducible rfl)
 try simp only [Act.put, qA, qB, qC]
 refine wpR_call ⟨Later.refl, Later.trans⟩ (i := 38) (v := .int .i64 (1 + p2 % 100)) (f := 22) (args := #[.agg #[.slice c7 xn d7, .int .i64 tx], .int .i64 F]) rfl (by kernel_rfl) (by kernel_rfl) (by kernel_rfl) (fun _ _ _ h => h) (by rfl) (fun x hx => by obtain ⟨d0, d1, d2⟩ := HLE.out x hx; go_simp; try with_reducible rfl) (fun x hx => (by have q := implUsedBelow x _ XT _ _ F ((HTX.out x hx).at 0 rfl).see HOK.out.fit HOK.out.int; rwa [HK5.out] at q)) ?_
 try simp only [Act.put, qA, qB, qC]
 refine wpR_val ⟨Later.refl, Later.trans⟩ (i := 39) (v := ?vr34) rfl (by kernel_rfl) (by kernel_rfl) (by kernel_rfl) (fun _ _ _ h => h) (by rfl) ?hyr34 ?restr34
 case hyr34 => (intro x hx; obtain ⟨d0, d1, d2⟩ := HLE.out x hx; go_simp; try with_reducible rfl)
 try simp only [Act.put, qA, qB, qC]
 refine wpR_val ⟨Later.refl, Later.trans⟩ (i := 40) (v := ?vr35) rfl (by kernel_rfl) (by kernel_rfl) (by kernel_rfl) (fun _ _ _ h => h) (by rfl) ?hyr35 ?restr35
 case hyr35 => (intro x hx; obtain ⟨d0, d1, d2⟩ := HLE.out x hx; go_simp; try with_reducible rfl)
 try simp only [Act.put, qA, qB, qC]
 refine wpR_val ⟨Later.refl, Later.trans⟩ (i := 41) (v := ?vr36) rfl (by kernel_rfl) (by kernel_rfl) (by kernel_rfl) (fun _ _ _ h => h) (by rfl) ?hyr36 ?restr36
 case hyr36 => (intro x hx; obtain ⟨d0, d1, d2⟩ := HLE.out x hx; go_simp; try with_reducible rfl)
 try simp only [Act.put, qA, qB, qC]
 refine wpR_val ⟨Later.refl, Later.trans⟩ (i := 42) (v := ?vr37) rfl (by kernel_rfl) (by kernel_rfl) (by kernel_rfl) (fun _ _ _ h => h) (by rfl) ?hyr37 ?restr37
 case hyr37 => (intro x hx; obtain ⟨d0, d1, d2⟩ := HLE.out x hx; go_simp; try with_reducible rfl)
 try simp only [Act.put, qA, qB, qC]
 refine wpR_val ⟨Later.refl, Later.trans⟩ (i := 43) (v := ?vr38) rfl (by kernel_rfl) (by kernel_rfl) (by kernel_rfl) (fun _ _ _ h => h) (by rfl) ?hyr38 ?restr38
 case hyr38 => (intro x hx; obtain ⟨d0, d1, d2⟩ := HLE.out x hx; go_simp; try with_reducible rfl)
 try simp only [Act.put, qA, qB, qC]
 refine wpR_val ⟨Later.refl, Later.trans⟩ (i := 44) (v := .bool true) rfl (by kernel_rfl) (by kernel_rfl) (by kernel_rfl) (fun _ _ _ h => h) (by rfl) ?hyr39 ?restr39
 case hyr39 => (intro x hx; obtain ⟨d0, d1, d2⟩ := HLE.out x hx; go_simp; try with_reducible rfl)
 try simp only [Act.put, qA, qB, qC]
 refine wpR_val ⟨Later.refl, Later.trans⟩ (i := 45) (v := .bool true) rfl (by kernel_rfl) (by kernel_rfl) (by kernel_rfl) (fun _ _ _ h => h) (by rfl) ?hyr40 ?restr40
 case hyr40 => (intro x hx; obtain ⟨d0, d1, d2⟩ := HLE.out x hx; go_simp; try with_reducible rfl)
 try simp only [Act.put, qA, qB, qC]
 refine wpR_val ⟨Later.refl, Later.trans⟩ (i := 46) (v := ?vr41) rfl (by kernel_rfl) (by kernel_rfl) (by kernel_rfl) (fun _ _ _ h => h) (by rfl) ?hyr41 ?restr41
 case hyr41 => (intro x hx; obtain ⟨d0, d1, d2⟩ := HLE.out x hx; go_simp; try with_reducible rfl)
 try simp only [Act.put, qA, qB, qC]
 refine wpR_done (by kernel_rfl) ?_ _
 intro w7 hy9
 have T9 := Shut.mk (HTX.out w7 hy9)
 clear hy9 HTX HLE HT
 have HT := T9
 clear T9
 go_wp2_with fail
 go_ret
 exact ⟨rfl, HB1.out.trans (HT.out.bel.mono HB1.out.size)⟩
end Go.Proofs.YtakhagkhngmpaaaGreat
