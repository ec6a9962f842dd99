/- Texts of ours, laid one behind the other: LawGa. -/
import Derived.Test.YtakhagkhngmpaaaGreatQa9
/- LawGa: . -/
namespace Go.Proofs.YtakhagkhngmpaaaGreat
set_option maxRecDepth 100000
open Go.RowKit
attribute [local go_sem ↓] Go.wp_at_zero Go.wp_at_succ
attribute [local irreducible] treeOk applyX groupsX markK
set_option maxHeartbeats 16000000 in
theorem lawGroupsAfter {w : World} {v : Value} {T : TM} (e : EM) (gr : Int) (h : ∀ {w : World} {v : Value} {T : TM} {lo hi : Nat}, TSee w v T lo hi → NFit T → NInt T.nodes → EFit e → Calls Tryz.prog 15 #[v, ev e, .int .i64 gr] w fun r w' => r = .returned (.int .i64 (groupsX T e gr)) ∧ Below w.heap.size w w') (hv : TSee w v T 0 w.heap.size) (lT : NOk T.nodes) (hI : NInt T.nodes) (hf : EdFit e) :
  Calls Tryz.prog 9 #[v, ev e, .int .i64 gr] w fun r w' => r = .returned (.bool true) ∧ Below w.heap.size w w' := by
 have HSZ := Shut.mk (fun W left h0 h1 => szEdit_any e left W h0 h1 hf)
 have HTE := Shut.mk (fun W => toEdit_any e W)
 obtain ⟨a, cap, rs, rfl, hr, hm⟩ := id hv
 obtain ⟨n, hn⟩ : ∃ n, n = rs.length := ⟨_, rfl⟩
 obtain ⟨nx, hnx⟩ : ∃ nx, nx = T.next := ⟨_, rfl⟩
 rw [← hn, ← hnx] at hv ⊢
 have FV := Shut.mk hv
 have HNO := Shut.mk (And.intro lT hI)
 have HNX := Shut.mk hnx
 have HIM := Shut.mk (fun (W : World) (u : Value) (lo hi : Nat) (q : TSee W u T lo hi) (hf : NFit T) (he : EFit e) => h q hf hI he)
 have HSP := Shut.mk (fun (W : World) (u : Value) (lo hi : Nat) (q : TSee W u T lo hi) (hf : NFit T) (he : EFit e) => specGroupsAfter e gr q hf he)
 obtain ⟨X, hX⟩ : ∃ X, X = groupsX T e gr := ⟨_, rfl⟩
 rw [← hX] at HIM HSP
 clear hX
 clear h hm hr hn hv lT hI hnx hf
 obtain ⟨kind, path, dest, num, who⟩ := e
 dsimp only at *
 go_enter Tryz.func9, Tryz.ntmps9
 go_upto_region 1 with fail
 obtain ⟨tb, htb⟩ : ∃ tb, tb = w.heap.size := ⟨_, rfl⟩
 obtain ⟨eb, heb⟩ : ∃ eb, eb = w.heap.size + 1 := ⟨_, rfl⟩
 refine wp_shade (fun W => TL w W [(eb, [.int .i64 kind, .string path, .string dest, .int .i64 num, .int .i64 who]), (tb, [.slice a n cap, .int .i64 nx])] [] []) (by rw [heb, htb]; exact TL.of (MB.two w #[.slice a n cap, .int .i64 nx] #[.int .i64 kind, .string path, .string dest, .int .i64 num, .int .i64 who] 56 57)) ?_
 intro W1 hW1
 have HT := Shut.mk hW1
 rw [← heb, ← htb]
 clear hW1 htb heb
 have tb0 := ((HT.out.mb.at 1 rfl).1.2 0 _ rfl).1
 have tb1 := ((HT.out.mb.at 1 rfl).1.2 1 _ rfl).1
 go_upto_region 3 with (go_at_call 41; refine (szTree_val 1048576 (FV.out.below HT.out.bel) HNO.out.1 (by omega) (by omega)).mono ?_; rintro e w1 ⟨r0, rfl, r00, q1, hb⟩; replace HT := Shut.mk (HT.out.below hb); clear hb tb0 tb1)
 by_cases r0n : r0 < 0
 case pos =>
  clear q1 r00
  go_wp2_with fail
  go_ret
  exact ⟨rfl, HT.out.bel⟩
 have hq1 := q1 (by omega)
 have HF : Shut (NFit T) := ⟨by unfold NFit; omega⟩
 have r01 : r0 ≤ 1048576 := by omega
 clear q1 hq1 r00
 have eb0 := ((HT.out.mb.at 0 rfl).1.2 0 _ rfl).1
 have eb1 := ((HT.out.mb.at 0 rfl).1.2 1 _ rfl).1
 have eb2 := ((HT.out.mb.at 0 rfl).1.2 2 _ rfl).1
 have eb3 := ((HT.out.mb.at 0 rfl).1.2 3 _ rfl).1
 have eb4 := ((HT.out.mb.at 0 rfl).1.2 4 _ rfl).1
 go_upto_region 6 with (go_at_call 42; refine (HSZ.out _ r0 (by omega) r01).mono ?_; rintro e w2 ⟨⟨q0, rfl, q00, q1⟩, hb⟩; replace HT := Shut.mk (HT.out.below hb); clear hb eb0 eb1 eb2 eb3 eb4)
 by_cases q0n : q0 < 0
 case pos =>
  clear q1 q00
  go_wp2_with fail
  go_ret
  exact ⟨rfl, HT.out.bel⟩
 have hq1 := q1 (by omega)
 have HEF : Shut (EFit ⟨kind, path, dest, num, who⟩) := ⟨⟨by dsimp only at hq1 ⊢; omega, by dsimp only at hq1 ⊢; omega⟩⟩
 clear q1 hq1 q00 HSZ
 go_upto_region 8 with fail
 clear r0n q0n r01
 have HTX : Shut (∀ x, Later w2.drew x → TL w x [(eb, [.int .i64 kind, .string path, .string dest, .int .i64 num, .int .i64 who]), (tb, [.slice a n cap, .int .i64 nx])] [] []) := ⟨fun x hx => HT.out.below (Below.trans (Below.drew (Below.refl _ _)) hx)⟩
 have HLE : Shut (∀ x, Later w2.drew x → x.cell? ⟨eb, 0, none⟩ = some (.int .i64 kind) ∧ x.cell? ⟨eb, 1, none⟩ = some (.string path) ∧ x.cell? ⟨eb, 2, none⟩ = some (.string dest) ∧ x.cell? ⟨eb, 3, none⟩ = some (.int .i64 num) ∧ x.cell? ⟨eb, 4, none⟩ = some (.int .i64 who) ∧ x.cell? ⟨tb, 0, none⟩ = some (.slice a n cap) ∧ x.cell? ⟨tb, 1, none⟩ = some (.int .i64 nx)) := ⟨fun x hx => by
  have M := (HTX.out x hx).mb
  exact ⟨((M.at 0 rfl).1.2 0 _ rfl).1, ((M.at 0 rfl).1.2 1 _ rfl).1, ((M.at 0 rfl).1.2 2 _ rfl).1, ((M.at 0 rfl).1.2 3 _ rfl).1, ((M.at 0 rfl).1.2 4 _ rfl).1, ((M.at 1 rfl).1.2 0 _ rfl).1, ((M.at 1 rfl).1.2 1 _ rfl).1⟩⟩
 refine wp_region_tail 7 (by kernel_rfl) ?_
 refine wpK_val (i := 0) (v := ?va0) rfl (by kernel_rfl) (by kernel_rfl) (by kernel_rfl) (by kernel_rfl) (fun _ _ _ h => h) (by rfl) ?hya0 ?resta0
 case hya0 => (intro x hx; obtain ⟨d0, d1, d2, d3, d4, d5, d6⟩ := HLE.out x hx; go_simp; try with_reducible rfl)
 try simp only [Act.put, qA, qB, qC]
 refine wpK_val (i := 2) (v := ?va2) rfl (by kernel_rfl) (by kernel_rfl) (by kernel_rfl) (by kernel_rfl) (fun _ _ _ h => h) (by rfl) ?hya2 ?resta2
 case hya2 => (intro x hx; obtain ⟨d0, d1, d2, d3, d4, d5, d6⟩ := HLE.out x hx; go_simp; try with_reducible rfl)
 try simp only [Act.put, qA, qB, qC]
 refine wpK_val (i := 4) (v := ?va4) rfl (by kernel_rfl) (by kernel_rfl) (by kernel_rfl) (by kernel_rfl) (fun _ _ _ h => h) (by rfl) ?hya4 ?resta4
 case hya4 => (intro x hx; obtain ⟨d0, d1, d2, d3, d4, d5, d6⟩ := HLE.out x hx; go_simp; try with_reducible rfl)
 try simp only [Act.put, qA, qB, qC]
 refine wpK_onecall (f := 43) (args := #[.agg #[.slice a n cap, .int .i64 nx]]) (i := 1) (by kernel_rfl) rfl (by rfl) (fun x hx => by go_simp) (fun x hx => (toTree_val (FV.out.below (HTX.out x hx).bel) HF.out).mono ?_)
 rintro e y ⟨u1, rfl, hA, hby⟩
 refine ⟨_, rfl, hby, ?_⟩
 obtain ⟨c1, m1, d1, rfl⟩ := tans_is hA
 have T1 := Shut.mk ((HTX.out x hx).below hby)
 have SE1 := Shut.mk hA.see
 clear hA hby hx
 try simp only [Act.put, qA, qB, qC]
 refine wpK_call (i := 3) (v := .agg #[.int .i64 kind, .string path, .string dest, .int .i64 num, .int .i64 who]) (f := 44) (args := #[.agg #[.int .i64 kind, .string path, .string dest, .int .i64 num, .int .i64 who]]) rfl (by kernel_rfl) (by kernel_rfl) (by kernel_rfl) (by kernel_rfl) (fun _ _ _ h => h) (by rfl) (fun x hx => by go_simp; try with_reducible rfl) (fun x _ => HTE.out x) ?_
 try simp only [Act.put, qA, qB, qC]
 refine wpK_call (i := 5) (v := .int .i64 X) (f := 18) (args := #[.agg #[.slice c1 m1 d1, .int .i64 T.next], .agg #[.int .i64 kind, .string path, .string dest, .int .i64 num, .int .i64 who], .int .i64 gr]) rfl (by kernel_rfl) (by kernel_rfl) (by kernel_rfl) (by kernel_rfl) (fun _ _ _ h => h) (by rfl) (fun x hx => by go_simp; try with_reducible rfl) (fun x hx => HSP.out x _ _ _ (SE1.out.below hx) HF.out HEF.out) ?_
 try simp only [Act.put, qA, qB, qC]
 refine wpK_val (i := 6) (v := ?vk1) rfl (by kernel_rfl) (by kernel_rfl) (by kernel_rfl) (by kernel_rfl) (fun _ _ _ h => h) (by rfl) ?hyk1 ?restk1
 case hyk1 => (intro x hx; go_simp; try with_reducible rfl)
 try simp only [Act.put, qA, qB, qC]
 refine wpK_done (by kernel_rfl) ?_ _
 intro w3 hy9
 have T9 := Shut.mk (T1.out.below hy9)
 clear hy9 T1 SE1 HTX HLE HT
 have HT := T9
 clear T9
 have tb0 := ((HT.out.mb.at 1 rfl).1.2 0 _ rfl).1
 have tb1 := ((HT.out.mb.at 1 rfl).1.2 1 _ rfl).1
 go_upto_region 10 with (go_at_call 43; refine (toTree_val (FV.out.below HT.out.bel) HF.out).mono ?_; rintro e w4 ⟨u2, rfl, hA, hb⟩; obtain ⟨c, m, cc, rfl⟩ := tans_is hA; rw [← HNX.out] at hA ⊢; obtain ⟨lo1, hi1, h9⟩ := HT.out.call hA hb; replace HT := Shut.mk h9; clear hA hb h9 tb0 tb1)
 obtain ⟨xb, hxb⟩ : ∃ xb, xb = w4.heap.size := ⟨_, rfl⟩
 rw [← hxb]
 refine wp_shade (fun W => TL w W [(xb, [.slice c m cc, .int .i64 nx]), (eb, [.int .i64 kind, .string path, .string dest, .int .i64 num, .int .i64 who]), (tb, [.slice a n cap, .int .i64 nx])] [(.agg #[.slice c m cc, .int .i64 nx], T, lo1, hi1)] []) (by rw [hxb]; exact HT.out.new #[.slice c m cc, .int .i64 nx] 26) ?_
 intro w5 hW9
 replace HT := Shut.mk hW9
 clear hW9
 clear hxb
 have HTX : Shut (∀ x, Later w5.drew x → TL w x [(xb, [.slice c m cc, .int .i64 nx]), (eb, [.int .i64 kind, .string path, .string dest, .int .i64 num, .int .i64 who]), (tb, [.slice a n cap, .int .i64 nx])] [(.agg #[.slice c m cc, .int .i64 nx], T, lo1, hi1)] []) := ⟨fun x hx => HT.out.below (Below.trans (Below.drew (Below.refl _ _)) hx)⟩
 have HLE : Shut (∀ x, Later w5.drew x → x.cell? ⟨xb, 0, none⟩ = some (.slice c m cc) ∧ x.cell? ⟨xb, 1, none⟩ = some (.int .i64 nx) ∧ x.cell? ⟨eb, 0, none⟩ = some (.int .i64 kind) ∧ x.cell? ⟨eb, 1, none⟩ = some (.string path) ∧ x.cell? ⟨eb, 2, none⟩ = some (.string dest) ∧ x.cell? ⟨eb, 3, none⟩ = some (.int .i64 num) ∧ x.cell? ⟨eb, 4, none⟩ = some (.int .i64 who)) := ⟨fun x hx => by
  have M := (HTX.out x hx).mb
  exact ⟨((M.at 0 rfl).1.2 0 _ rfl).1, ((M.at 0 rfl).1.2 1 _ rfl).1, ((M.at 1 rfl).1.2 0 _ rfl).1, ((M.at 1 rfl).1.2 1 _ rfl).1, ((M.at 1 rfl).1.2 2 _ rfl).1, ((M.at 1 rfl).1.2 3 _ rfl).1, ((M.at 1 rfl).1.2 4 _ rfl).1⟩⟩
 refine wp_region_tail 6 (by kernel_rfl) ?_
 refine wpK_val (i := 0) (v := ?vb0) rfl (by kernel_rfl) (by kernel_rfl) (by kernel_rfl) (by kernel_rfl) (fun _ _ _ h => h) (by rfl) ?hyb0 ?restb0
 case hyb0 => (intro x hx; obtain ⟨d0, d1, d2, d3, d4, d5, d6⟩ := HLE.out x hx; go_simp; try with_reducible rfl)
 try simp only [Act.put, qA, qB, qC]
 refine wpK_val (i := 1) (v := ?vb1) rfl (by kernel_rfl) (by kernel_rfl) (by kernel_rfl) (by kernel_rfl) (fun _ _ _ h => h) (by rfl) ?hyb1 ?restb1
 case hyb1 => (intro x hx; obtain ⟨d0, d1, d2, d3, d4, d5, d6⟩ := HLE.out x hx; go_simp; try with_reducible rfl)
 try simp only [Act.put, qA, qB, qC]
 refine wpK_val (i := 3) (v := ?vb3) rfl (by kernel_rfl) (by kernel_rfl) (by kernel_rfl) (by kernel_rfl) (fun _ _ _ h => h) (by rfl) ?hyb3 ?restb3
 case hyb3 => (intro x hx; obtain ⟨d0, d1, d2, d3, d4, d5, d6⟩ := HLE.out x hx; go_simp; try with_reducible rfl)
 try simp only [Act.put, qA, qB, qC]
 refine wpK_call (i := 2) (v := .agg #[.int .i64 kind, .string path, .string dest, .int .i64 num, .int .i64 who]) (f := 44) (args := #[.agg #[.int .i64 kind, .string path, .string dest, .int .i64 num, .int .i64 who]]) rfl (by kernel_rfl) (by kernel_rfl) (by kernel_rfl) (by kernel_rfl) (fun _ _ _ h => h) (by rfl) (fun x hx => by go_simp; try with_reducible rfl) (fun x _ => HTE.out x) ?_
 try simp only [Act.put, qA, qB, qC]
 refine wpK_call (i := 4) (v := .int .i64 X) (f := 15) (args := #[.agg #[.slice c m cc, .int .i64 nx], .agg #[.int .i64 kind, .string path, .string dest, .int .i64 num, .int .i64 who], .int .i64 gr]) rfl (by kernel_rfl) (by kernel_rfl) (by kernel_rfl) (by kernel_rfl) (fun _ _ _ h => h) (by rfl) (fun x hx => by go_simp; try with_reducible rfl) (fun x hx => HIM.out x _ _ _ ((HTX.out x hx).at 0 rfl).see HF.out HEF.out) ?_
 try simp only [Act.put, qA, qB, qC]
 refine wpK_val (i := 5) (v := ?vk2) rfl (by kernel_rfl) (by kernel_rfl) (by kernel_rfl) (by kernel_rfl) (fun _ _ _ h => h) (by rfl) ?hyk2 ?restk2
 case hyk2 => (intro x hx; go_simp; try with_reducible rfl)
 try simp only [Act.put, qA, qB, qC]
 refine wpK_done (by kernel_rfl) ?_ _
 intro w6 hy9
 have T9 := Shut.mk (HTX.out _ hy9)
 clear hy9 HTX HLE HT
 have HT := T9
 clear T9
 have hxx : (X != X) = false := by simp
 go_upto_region 13 with fail
 have HTX : Shut (∀ x, Later w6.drew x → TL w x [(xb, [.slice c m cc, .int .i64 nx]), (eb, [.int .i64 kind, .string path, .string dest, .int .i64 num, .int .i64 who]), (tb, [.slice a n cap, .int .i64 nx])] [(.agg #[.slice c m cc, .int .i64 nx], T, lo1, hi1)] []) := ⟨fun x hx => HT.out.below (Below.trans (Below.drew (Below.refl _ _)) hx)⟩
 have HLE : Shut (∀ x, Later w6.drew x → x.cell? ⟨xb, 0, none⟩ = some (.slice c m cc) ∧ x.cell? ⟨xb, 1, none⟩ = some (.int .i64 nx) ∧ x.cell? ⟨tb, 0, none⟩ = some (.slice a n cap) ∧ x.cell? ⟨tb, 1, none⟩ = some (.int .i64 nx)) := ⟨fun x hx => by
  have M := (HTX.out x hx).mb
  exact ⟨((M.at 0 rfl).1.2 0 _ rfl).1, ((M.at 0 rfl).1.2 1 _ rfl).1, ((M.at 2 rfl).1.2 0 _ rfl).1, ((M.at 2 rfl).1.2 1 _ rfl).1⟩⟩
 refine wp_region_tail 5 (by kernel_rfl) ?_
 refine wpK_val (i := 0) (v := ?vc0) rfl (by kernel_rfl) (by kernel_rfl) (by kernel_rfl) (by kernel_rfl) (fun _ _ _ h => h) (by rfl) ?hyc0 ?restc0
 case hyc0 => (intro x hx; obtain ⟨d0, d1, d2, d3⟩ := HLE.out x hx; go_simp; try with_reducible rfl)
 try simp only [Act.put, qA, qB, qC]
 refine wpK_val (i := 1) (v := ?vc1) rfl (by kernel_rfl) (by kernel_rfl) (by kernel_rfl) (by kernel_rfl) (fun _ _ _ h => h) (by rfl) ?hyc1 ?restc1
 case hyc1 => (intro x hx; obtain ⟨d0, d1, d2, d3⟩ := HLE.out x hx; go_simp; try with_reducible rfl)
 try simp only [Act.put, qA, qB, qC]
 refine wpK_onecall (f := 43) (args := #[.agg #[.slice a n cap, .int .i64 nx]]) (i := 2) (by kernel_rfl) rfl (by rfl) (fun x hx => by go_simp) (fun x hx => (toTree_val (FV.out.below (HTX.out x hx).bel) HF.out).mono ?_)
 rintro e y ⟨u1, rfl, hA, hby⟩
 refine ⟨_, rfl, hby, ?_⟩
 obtain ⟨c1, m1, d1, rfl⟩ := tans_is hA
 have T1 := Shut.mk ((HTX.out x hx).below hby)
 have SE1 := Shut.mk hA.see
 clear hA hby hx
 try simp only [Act.put, qA, qB, qC]
 refine wpK_call (i := 3) (v := .bool true) (f := 45) (args := #[.agg #[.slice c m cc, .int .i64 nx], .agg #[.slice c1 m1 d1, .int .i64 T.next]]) rfl (by kernel_rfl) (by kernel_rfl) (by kernel_rfl) (by kernel_rfl) (fun _ _ _ h => h) (by rfl) (fun x hx => by go_simp; try with_reducible rfl) (fun x hx => eqTree_val ((T1.out.below hx).at 0 rfl).see (SE1.out.below hx) HF.out) ?_
 try simp only [Act.put, qA, qB, qC]
 refine wpK_val (i := 4) (v := ?vk3) rfl (by kernel_rfl) (by kernel_rfl) (by kernel_rfl) (by kernel_rfl) (fun _ _ _ h => h) (by rfl) ?hyk3 ?restk3
 case hyk3 => (intro x hx; go_simp; try with_reducible rfl)
 try simp only [Act.put, qA, qB, qC]
 refine wpK_done (by kernel_rfl) ?_ _
 intro w8 hy9
 have HB := Shut.mk (T1.out.below hy9).bel
 clear hy9 HTX HLE HT T1 SE1
 go_wp2_with fail
 go_ret
 exact ⟨rfl, HB.out⟩
end Go.Proofs.YtakhagkhngmpaaaGreat
