/- Texts of ours, laid one behind the other: LawApd. -/
import Derived.Test.YtakhagkhngmpaaaGreatQb10
import Derived.Test.YtakhagkhngmpaaaGreatQb13
import Derived.Test.YtakhagkhngmpaaaGreatQb7
import Derived.Test.YtakhagkhngmpaaaGreatQb8
import Derived.Test.YtakhagkhngmpaaaGreatQb3
/- LawApd: . -/
namespace Go.Proofs.YtakhagkhngmpaaaGreat
set_option maxRecDepth 100000
open Go.RowKit
attribute [local go_sem ↓] Go.wp_at_zero Go.wp_at_succ
attribute [local irreducible] treeOk applyX groupsX findX belowX usedX grpX
set_option maxHeartbeats 16000000 in
theorem applied_walk (a : Option Addr) (len cap : Nat) (w : World) (hcode : CodeAt w w.heap.size a len) :
  Calls Tryz.prog 3 #[.slice a len cap] w fun e w' => e = .returned (.bool true) ∧ Below w.heap.size w w' := by
 have hbig : decide ((1048576 : Int) < (len : Int)) = false := by have := hcode.1; simp; omega
 have HC : Hid (CodeAt w w.heap.size a len) := hcode
 clear hcode
 go_enter Tryz.func3, Tryz.ntmps3
 go_wp2_with fail
 refine (big_any a len cap _).mono ?_
 rintro e w1 ⟨rfl, hw1⟩
 obtain rfl : w = w1 := hw1.symm
 clear hw1
 rw [hbig]
 go_upto_region 4 with (go_at_call 12; refine (drawRightPair_any _ a len cap HC.out).mono ?_; rintro e w1 ⟨v, es, ⟨kind, path, dest, num, who⟩, rfl, hes, hpl, hbd, hta, hb1⟩; have HOK := Shut.mk (Rt.of (drawn_ok es)); have HGL := Shut.mk (drawn_groups es hes); obtain ⟨T, hT⟩ : ∃ T, T = (allX newX es 1).1 := ⟨_, rfl⟩; rw [← hT] at hta HOK HGL; obtain ⟨ta, tc, rfl⟩ := tans_len hta; obtain ⟨tn, htn⟩ : ∃ n, n = T.nodes.length := ⟨_, rfl⟩; obtain ⟨nx, hnx⟩ : ∃ n, n = T.next := ⟨_, rfl⟩; rw [← htn, ← hnx] at hta ⊢; obtain ⟨lo, hi, h9⟩ := (TL.of (MB.nil w)).call hta hb1; have HT := Shut.mk h9; have HTN := Shut.mk (And.intro htn hnx); have HEF : Shut (EFit ⟨kind, path, dest, num, who⟩) := ⟨⟨Nat.le_trans hbd.1 (by omega), Nat.le_trans hbd.2 (by omega)⟩⟩; clear hes hpl hbd hta hb1 h9 hT htn hnx)
 have tn1 : 1 ≤ tn := by have := HOK.out.l1; have := HTN.out.1; omega
 have tn14 : tn ≤ 14 := by have := HOK.out.l14; have := HTN.out.1; omega
 obtain ⟨tb, htb⟩ : ∃ b, b = w1.heap.size := ⟨_, rfl⟩
 obtain ⟨eb, heb⟩ : ∃ b, b = w1.heap.size + 1 := ⟨_, rfl⟩
 rw [← heb, ← htb]
 refine wp_shade (fun W => TL w W [(eb, [.int .i64 kind, .string path, .string dest, .int .i64 num, .int .i64 who]), (tb, [.slice ta tn tc, .int .i64 nx])] [(.agg #[.slice ta tn tc, .int .i64 nx], T, lo, hi)] []) (by rw [heb, htb]; exact HT.out.new2 #[.slice ta tn tc, .int .i64 nx] #[.int .i64 kind, .string path, .string dest, .int .i64 num, .int .i64 who] 26 28) ?_
 intro W2 hW9
 replace HT := Shut.mk hW9
 clear hW9
 clear htb heb hbig HC
 have HIM := Shut.mk (fun (W : World) (u : Value) (lo hi : Nat) (q : TSee W u T lo hi) => implApply ⟨kind, path, dest, num, who⟩ 900 q HOK.out.fit HOK.out.int HEF.out)
 have HSP := Shut.mk (fun (W : World) (u : Value) (lo hi : Nat) (q : TSee W u T lo hi) => specApply ⟨kind, path, dest, num, who⟩ 900 q HOK.out.fit HEF.out)
 have HGI := Shut.mk (fun (W : World) (u : Value) (lo hi : Nat) (q : TSee W u T lo hi) => implGroupsAfter ⟨kind, path, dest, num, who⟩ 900 (by omega) q HOK.out.fit HOK.out.int HEF.out)
 have HGS := Shut.mk (fun (W : World) (u : Value) (lo hi : Nat) (q : TSee W u T lo hi) => specGroupsAfter ⟨kind, path, dest, num, who⟩ 900 q HOK.out.fit HEF.out)
 have HXOK := Shut.mk (Rt.of (applyX_ok (e := ⟨kind, path, dest, num, who⟩) (g := 900) HOK.out.ok))
 have HNT := Shut.mk (fun (h : (applyX T ⟨kind, path, dest, num, who⟩ 900).2 ≠ 0) => not_took h)
 have HK1 := Shut.mk (fun (h : (applyX T ⟨kind, path, dest, num, who⟩ 900).2 = 0) (hk : kind = 1 ∨ kind = 2) => app_add h hk)
 have HK3 := Shut.mk (fun (h : (applyX T ⟨kind, path, dest, num, who⟩ 900).2 = 0) (hk : kind = 3) => app_move h hk)
 have HK4 := Shut.mk (fun (h : (applyX T ⟨kind, path, dest, num, who⟩ 900).2 = 0) (hk : kind = 4) => app_drop h hk)
 have HK7 := Shut.mk (fun (h : (applyX T ⟨kind, path, dest, num, who⟩ 900).2 = 0) (hk : kind = 7) => app_more h hk HGL.out)
 have HKZ := Shut.mk (fun (h : (applyX T ⟨kind, path, dest, num, who⟩ 900).2 = 0) (h1 : kind ≠ 1) (h2 : kind ≠ 2) (h3 : kind ≠ 3) (h4 : kind ≠ 4) (h7 : kind ≠ 7) => app_rest h h1 h2 h3 h4 h7)
 have HNUM := Shut.mk (fun (h : (applyX T ⟨kind, path, dest, num, who⟩ 900).2 = 0) (hk : kind = 7) => (edit_numz (took h).2.1 (by show kind ≠ 10; omega)).2.2.2.2.2.1 hk)
 have hGb := @groups_more T ⟨kind, path, dest, num, who⟩ 900
 dsimp only at HK1 HK3 HK4 HK7
 obtain ⟨XT, rc, hXX⟩ : ∃ XT rc, applyX T ⟨kind, path, dest, num, who⟩ 900 = (XT, rc) := ⟨_, _, rfl⟩
 obtain ⟨G, hG⟩ : ∃ G, G = groupsX T ⟨kind, path, dest, num, who⟩ 900 := ⟨_, rfl⟩
 rw [hXX] at HIM HSP HXOK HNT HK1 HK3 HK4 HK7 HKZ HNUM
 rw [← hG] at HGI HGS HNT HK7 hGb
 unfold ApPost at HIM HSP
 dsimp only at HXOK HNT HK1 HK3 HK4 HK7 HKZ HNUM HIM HSP
 obtain ⟨xn, hxn⟩ : ∃ n, n = XT.nodes.length := ⟨_, rfl⟩
 obtain ⟨tx, htx⟩ : ∃ n, n = XT.next := ⟨_, rfl⟩
 have HXN := Shut.mk (And.intro hxn htx)
 have xn14 : xn ≤ 14 := by have := HXOK.out.l14; omega
 clear hXX hG hxn htx
 have HPS := Shut.mk (show path.size ≤ 1048576 from HEF.out.1)
 have HDS := Shut.mk (show dest.size ≤ 1048576 from HEF.out.2)
 have hrr : (rc != rc) = false := by simp
 have hgg : (G != G) = false := by simp
 have hg9 : decide (G < 900) = false := by simp; omega
 have eb0 := ((HT.out.mb.at 0 rfl).1.2 0 _ rfl).1
 have eb1 := ((HT.out.mb.at 0 rfl).1.2 1 _ rfl).1
 have eb2 := ((HT.out.mb.at 0 rfl).1.2 2 _ rfl).1
 have eb3 := ((HT.out.mb.at 0 rfl).1.2 3 _ rfl).1
 have eb4 := ((HT.out.mb.at 0 rfl).1.2 4 _ rfl).1
 have tb0 := ((HT.out.mb.at 1 rfl).1.2 0 _ rfl).1
 have tb1 := ((HT.out.mb.at 1 rfl).1.2 1 _ rfl).1
 go_upto_region 5 with (go_at_call 13; refine (HIM.out _ _ _ _ (HT.out.at 0 rfl).see).mono ?_; rintro e w2 ⟨vv, rfl, hans, hb⟩; obtain ⟨c5, d5, rfl⟩ := tans_len hans; rw [← HXN.out.1, ← HXN.out.2] at hans ⊢; obtain ⟨lo5, hi5, h9⟩ := HT.out.call hans hb; replace HT := Shut.mk h9; clear hans hb h9 eb0 eb1 eb2 eb3 eb4 tb0 tb1)
 obtain ⟨b5, hb9⟩ : ∃ b, b = w2.heap.size := ⟨_, rfl⟩
 rw [← hb9]
 refine wp_shade (fun W => TL w W [(b5, [.slice c5 xn d5, .int .i64 tx]), (eb, [.int .i64 kind, .string path, .string dest, .int .i64 num, .int .i64 who]), (tb, [.slice ta tn tc, .int .i64 nx])] [(.agg #[.slice c5 xn d5, .int .i64 tx], XT, lo5, hi5), (.agg #[.slice ta tn tc, .int .i64 nx], T, lo, hi)] []) (by rw [hb9]; exact HT.out.new #[.slice c5 xn d5, .int .i64 tx] 26) ?_
 intro W3 hW9
 replace HT := Shut.mk hW9
 clear hW9
 clear hb9
 have eb0 := ((HT.out.mb.at 1 rfl).1.2 0 _ rfl).1
 have eb1 := ((HT.out.mb.at 1 rfl).1.2 1 _ rfl).1
 have eb2 := ((HT.out.mb.at 1 rfl).1.2 2 _ rfl).1
 have eb3 := ((HT.out.mb.at 1 rfl).1.2 3 _ rfl).1
 have eb4 := ((HT.out.mb.at 1 rfl).1.2 4 _ rfl).1
 have tb0 := ((HT.out.mb.at 2 rfl).1.2 0 _ rfl).1
 have tb1 := ((HT.out.mb.at 2 rfl).1.2 1 _ rfl).1
 go_upto_region 6 with (go_at_call 14; refine (HSP.out _ _ _ _ (HT.out.at 1 rfl).see).mono ?_; rintro e w3 ⟨vv, rfl, hans, hb⟩; obtain ⟨c7, d7, rfl⟩ := tans_len hans; rw [← HXN.out.1, ← HXN.out.2] at hans ⊢; obtain ⟨lo7, hi7, h9⟩ := HT.out.call hans hb; replace HT := Shut.mk h9; clear hans hb h9 eb0 eb1 eb2 eb3 eb4 tb0 tb1)
 obtain ⟨b7, hb9⟩ : ∃ b, b = w3.heap.size := ⟨_, rfl⟩
 rw [← hb9]
 refine wp_shade (fun W => TL w W [(b7, [.slice c7 xn d7, .int .i64 tx]), (b5, [.slice c5 xn d5, .int .i64 tx]), (eb, [.int .i64 kind, .string path, .string dest, .int .i64 num, .int .i64 who]), (tb, [.slice ta tn tc, .int .i64 nx])] [(.agg #[.slice c7 xn d7, .int .i64 tx], XT, lo7, hi7), (.agg #[.slice c5 xn d5, .int .i64 tx], XT, lo5, hi5), (.agg #[.slice ta tn tc, .int .i64 nx], T, lo, hi)] []) (by rw [hb9]; exact HT.out.new #[.slice c7 xn d7, .int .i64 tx] 26) ?_
 intro W4 hW9
 replace HT := Shut.mk hW9
 clear hW9
 clear hb9
 have eb0 := ((HT.out.mb.at 2 rfl).1.2 0 _ rfl).1
 have eb1 := ((HT.out.mb.at 2 rfl).1.2 1 _ rfl).1
 have eb2 := ((HT.out.mb.at 2 rfl).1.2 2 _ rfl).1
 have eb3 := ((HT.out.mb.at 2 rfl).1.2 3 _ rfl).1
 have eb4 := ((HT.out.mb.at 2 rfl).1.2 4 _ rfl).1
 have tb0 := ((HT.out.mb.at 3 rfl).1.2 0 _ rfl).1
 have tb1 := ((HT.out.mb.at 3 rfl).1.2 1 _ rfl).1
 go_upto_region 7 with (go_at_call 15; refine (HGI.out _ _ _ _ (HT.out.at 2 rfl).see).mono ?_; rintro e w4 ⟨rfl, hb⟩; replace HT := Shut.mk (HT.out.below hb); clear hb eb0 eb1 eb2 eb3 eb4 tb0 tb1)
 have b70 := ((HT.out.mb.at 0 rfl).1.2 0 _ rfl).1
 have b71 := ((HT.out.mb.at 0 rfl).1.2 1 _ rfl).1
 have b50 := ((HT.out.mb.at 1 rfl).1.2 0 _ rfl).1
 have b51 := ((HT.out.mb.at 1 rfl).1.2 1 _ rfl).1
 have eb0 := ((HT.out.mb.at 2 rfl).1.2 0 _ rfl).1
 have eb1 := ((HT.out.mb.at 2 rfl).1.2 1 _ rfl).1
 have eb2 := ((HT.out.mb.at 2 rfl).1.2 2 _ rfl).1
 have eb3 := ((HT.out.mb.at 2 rfl).1.2 3 _ rfl).1
 have eb4 := ((HT.out.mb.at 2 rfl).1.2 4 _ rfl).1
 have tb0 := ((HT.out.mb.at 3 rfl).1.2 0 _ rfl).1
 have tb1 := ((HT.out.mb.at 3 rfl).1.2 1 _ rfl).1
 go_upto_region 9 with (first | (go_at_call 16; refine (sameTree_val (HT.out.at 1 rfl).see (HT.out.at 0 rfl).see HXOK.out.fit).mono ?_; rintro e w5 ⟨rfl, hb⟩; replace HT := Shut.mk (HT.out.below hb); clear hb b70 b71 b50 b51 eb0 eb1 eb2 eb3 eb4 tb0 tb1; have b70 := ((HT.out.mb.at 0 rfl).1.2 0 _ rfl).1; have b71 := ((HT.out.mb.at 0 rfl).1.2 1 _ rfl).1; have b50 := ((HT.out.mb.at 1 rfl).1.2 0 _ rfl).1; have b51 := ((HT.out.mb.at 1 rfl).1.2 1 _ rfl).1; have eb0 := ((HT.out.mb.at 2 rfl).1.2 0 _ rfl).1; have eb1 := ((HT.out.mb.at 2 rfl).1.2 1 _ rfl).1; have eb2 := ((HT.out.mb.at 2 rfl).1.2 2 _ rfl).1; have eb3 := ((HT.out.mb.at 2 rfl).1.2 3 _ rfl).1; have eb4 := ((HT.out.mb.at 2 rfl).1.2 4 _ rfl).1; have tb0 := ((HT.out.mb.at 3 rfl).1.2 0 _ rfl).1; have tb1 := ((HT.out.mb.at 3 rfl).1.2 1 _ rfl).1) | (go_at_call 17; refine (implTreeOk _ _ XT _ _ (HT.out.at 1 rfl).see HXOK.out.fit HXOK.out.int).mono ?_; rintro e w6 ⟨rfl, hb⟩; rw [HXOK.out.ok]; replace HT := Shut.mk (HT.out.below hb); clear hb b70 b71 b50 b51 eb0 eb1 eb2 eb3 eb4 tb0 tb1; have b70 := ((HT.out.mb.at 0 rfl).1.2 0 _ rfl).1; have b71 := ((HT.out.mb.at 0 rfl).1.2 1 _ rfl).1; have b50 := ((HT.out.mb.at 1 rfl).1.2 0 _ rfl).1; have b51 := ((HT.out.mb.at 1 rfl).1.2 1 _ rfl).1; have eb0 := ((HT.out.mb.at 2 rfl).1.2 0 _ rfl).1; have eb1 := ((HT.out.mb.at 2 rfl).1.2 1 _ rfl).1; have eb2 := ((HT.out.mb.at 2 rfl).1.2 2 _ rfl).1; have eb3 := ((HT.out.mb.at 2 rfl).1.2 3 _ rfl).1; have eb4 := ((HT.out.mb.at 2 rfl).1.2 4 _ rfl).1; have tb0 := ((HT.out.mb.at 3 rfl).1.2 0 _ rfl).1; have tb1 := ((HT.out.mb.at 3 rfl).1.2 1 _ rfl).1) | (go_at_call 18; refine (HGS.out _ _ _ _ (HT.out.at 2 rfl).see).mono ?_; rintro e w7 ⟨rfl, hb⟩; replace HT := Shut.mk (HT.out.below hb); clear hb b70 b71 b50 b51 eb0 eb1 eb2 eb3 eb4 tb0 tb1; have b70 := ((HT.out.mb.at 0 rfl).1.2 0 _ rfl).1; have b71 := ((HT.out.mb.at 0 rfl).1.2 1 _ rfl).1; have b50 := ((HT.out.mb.at 1 rfl).1.2 0 _ rfl).1; have b51 := ((HT.out.mb.at 1 rfl).1.2 1 _ rfl).1; have eb0 := ((HT.out.mb.at 2 rfl).1.2 0 _ rfl).1; have eb1 := ((HT.out.mb.at 2 rfl).1.2 1 _ rfl).1; have eb2 := ((HT.out.mb.at 2 rfl).1.2 2 _ rfl).1; have eb3 := ((HT.out.mb.at 2 rfl).1.2 3 _ rfl).1; have eb4 := ((HT.out.mb.at 2 rfl).1.2 4 _ rfl).1; have tb0 := ((HT.out.mb.at 3 rfl).1.2 0 _ rfl).1; have tb1 := ((HT.out.mb.at 3 rfl).1.2 1 _ rfl).1))
 clear b70 b71 b50 b51 eb0 eb1 eb2 eb3 eb4 tb0 tb1
 by_cases h0 : rc = 0
 case neg =>
  obtain ⟨rfl, rfl⟩ := HNT.out h0
  have h0b : (rc != 0) = true := by simpa using h0
  have b50 := ((HT.out.mb.at 1 rfl).1.2 0 _ rfl).1
  have b51 := ((HT.out.mb.at 1 rfl).1.2 1 _ rfl).1
  have tb0 := ((HT.out.mb.at 3 rfl).1.2 0 _ rfl).1
  have tb1 := ((HT.out.mb.at 3 rfl).1.2 1 _ rfl).1
  go_wp2_with (go_at_call 16; refine (sameTree_val (HT.out.at 1 rfl).see (HT.out.at 2 rfl).see HOK.out.fit).mono ?_; rintro e w8 ⟨rfl, hb⟩; replace HT := Shut.mk (HT.out.below hb); clear hb b50 b51 tb0 tb1)
  go_ret
  exact ⟨rfl, HT.out.bel⟩
 subst h0
 clear HIM HSP HGI HGS HNT hrr
 by_cases k1 : kind = 1
 case pos =>
  obtain ⟨f1, f2⟩ := HK1.out rfl (.inl k1)
  subst k1
  rw [← HXN.out.1, ← HTN.out.1] at f2
  rw [← HTN.out.2] at f1
  have hl : ((xn : Int) == (tn : Int) + 1) = true := by rw [f2]; simp
  have hnn : (nx == nx) = true := by simp
  have HFF := Shut.mk f1
  clear f1 f2
  have b50 := ((HT.out.mb.at 1 rfl).1.2 0 _ rfl).1
  have b51 := ((HT.out.mb.at 1 rfl).1.2 1 _ rfl).1
  have eb0 := ((HT.out.mb.at 2 rfl).1.2 0 _ rfl).1
  have eb1 := ((HT.out.mb.at 2 rfl).1.2 1 _ rfl).1
  have eb2 := ((HT.out.mb.at 2 rfl).1.2 2 _ rfl).1
  have eb3 := ((HT.out.mb.at 2 rfl).1.2 3 _ rfl).1
  have eb4 := ((HT.out.mb.at 2 rfl).1.2 4 _ rfl).1
  go_upto_region 12 with (go_at_call 19; refine (implFindPath _ _ XT _ _ path (HT.out.at 1 rfl).see HXOK.out.fit HXOK.out.int HXOK.out.nz HPS.out).mono ?_; rintro e w8 ⟨rfl, hb⟩; rw [HFF.out]; replace HT := Shut.mk (HT.out.below hb); clear hb b50 b51 eb0 eb1 eb2 eb3 eb4)
  have b50 := ((HT.out.mb.at 1 rfl).1.2 0 _ rfl).1
  have b51 := ((HT.out.mb.at 1 rfl).1.2 1 _ rfl).1
  have eb0 := ((HT.out.mb.at 2 rfl).1.2 0 _ rfl).1
  have eb1 := ((HT.out.mb.at 2 rfl).1.2 1 _ rfl).1
  have eb2 := ((HT.out.mb.at 2 rfl).1.2 2 _ rfl).1
  have eb3 := ((HT.out.mb.at 2 rfl).1.2 3 _ rfl).1
  have eb4 := ((HT.out.mb.at 2 rfl).1.2 4 _ rfl).1
  have tb0 := ((HT.out.mb.at 3 rfl).1.2 0 _ rfl).1
  have tb1 := ((HT.out.mb.at 3 rfl).1.2 1 _ rfl).1
  go_wp2_with fail
  go_ret
  exact ⟨rfl, HT.out.bel⟩
 by_cases k2 : kind = 2
 case pos =>
  obtain ⟨f1, f2⟩ := HK1.out rfl (.inr k2)
  subst k2
  rw [← HXN.out.1, ← HTN.out.1] at f2
  rw [← HTN.out.2] at f1
  have hl : ((xn : Int) == (tn : Int) + 1) = true := by rw [f2]; simp
  have hnn : (nx == nx) = true := by simp
  have HFF := Shut.mk f1
  clear f1 f2
  have b50 := ((HT.out.mb.at 1 rfl).1.2 0 _ rfl).1
  have b51 := ((HT.out.mb.at 1 rfl).1.2 1 _ rfl).1
  have eb0 := ((HT.out.mb.at 2 rfl).1.2 0 _ rfl).1
  have eb1 := ((HT.out.mb.at 2 rfl).1.2 1 _ rfl).1
  have eb2 := ((HT.out.mb.at 2 rfl).1.2 2 _ rfl).1
  have eb3 := ((HT.out.mb.at 2 rfl).1.2 3 _ rfl).1
  have eb4 := ((HT.out.mb.at 2 rfl).1.2 4 _ rfl).1
  go_upto_region 12 with (go_at_call 19; refine (implFindPath _ _ XT _ _ path (HT.out.at 1 rfl).see HXOK.out.fit HXOK.out.int HXOK.out.nz HPS.out).mono ?_; rintro e w8 ⟨rfl, hb⟩; rw [HFF.out]; replace HT := Shut.mk (HT.out.below hb); clear hb b50 b51 eb0 eb1 eb2 eb3 eb4)
  have b50 := ((HT.out.mb.at 1 rfl).1.2 0 _ rfl).1
  have b51 := ((HT.out.mb.at 1 rfl).1.2 1 _ rfl).1
  have eb0 := ((HT.out.mb.at 2 rfl).1.2 0 _ rfl).1
  have eb1 := ((HT.out.mb.at 2 rfl).1.2 1 _ rfl).1
  have eb2 := ((HT.out.mb.at 2 rfl).1.2 2 _ rfl).1
  have eb3 := ((HT.out.mb.at 2 rfl).1.2 3 _ rfl).1
  have eb4 := ((HT.out.mb.at 2 rfl).1.2 4 _ rfl).1
  have tb0 := ((HT.out.mb.at 3 rfl).1.2 0 _ rfl).1
  have tb1 := ((HT.out.mb.at 3 rfl).1.2 1 _ rfl).1
  go_wp2_with fail
  go_ret
  exact ⟨rfl, HT.out.bel⟩
 by_cases k3 : kind = 3
 case pos =>
  obtain ⟨f1, f2, f3⟩ := HK3.out rfl k3
  subst k3
  rw [← HXN.out.1, ← HTN.out.1] at f3
  have hl : ((xn : Int) == (tn : Int)) = true := by simp [f3]
  have HFF := Shut.mk f1
  have HF2 := Shut.mk f2
  clear f1 f2 f3
  have b50 := ((HT.out.mb.at 1 rfl).1.2 0 _ rfl).1
  have b51 := ((HT.out.mb.at 1 rfl).1.2 1 _ rfl).1
  have eb0 := ((HT.out.mb.at 2 rfl).1.2 0 _ rfl).1
  have eb1 := ((HT.out.mb.at 2 rfl).1.2 1 _ rfl).1
  have eb2 := ((HT.out.mb.at 2 rfl).1.2 2 _ rfl).1
  have eb3 := ((HT.out.mb.at 2 rfl).1.2 3 _ rfl).1
  have eb4 := ((HT.out.mb.at 2 rfl).1.2 4 _ rfl).1
  go_upto_region 12 with (go_at_call 19; refine (implFindPath _ _ XT _ _ path (HT.out.at 1 rfl).see HXOK.out.fit HXOK.out.int HXOK.out.nz HPS.out).mono ?_; rintro e w8 ⟨rfl, hb⟩; rw [HFF.out]; replace HT := Shut.mk (HT.out.below hb); clear hb b50 b51 eb0 eb1 eb2 eb3 eb4)
  have eb0 := ((HT.out.mb.at 2 rfl).1.2 0 _ rfl).1
  have eb1 := ((HT.out.mb.at 2 rfl).1.2 1 _ rfl).1
  have eb2 := ((HT.out.mb.at 2 rfl).1.2 2 _ rfl).1
  have eb3 := ((HT.out.mb.at 2 rfl).1.2 3 _ rfl).1
  have eb4 := ((HT.out.mb.at 2 rfl).1.2 4 _ rfl).1
  go_upto_region 17 with fail
  clear eb0 eb1 eb2 eb3 eb4
  obtain ⟨fo, hfo⟩ : ∃ f, f = findX T path := ⟨_, rfl⟩
  have HFO := Shut.mk hfo
  rw [← hfo] at HF2
  have hff : (fo == fo) = true := by simp
  clear hfo
  refine wp_region_R Later ⟨Later.refl, Later.trans⟩ (by kernel_rfl) ?_
  have HTX : Shut (∀ x, Later w8.drew x → TL w x [(b7, [.slice c7 xn d7, .int .i64 tx]), (b5, [.slice c5 xn d5, .int .i64 tx]), (eb, [.int .i64 3, .string path, .string dest, .int .i64 num, .int .i64 who]), (tb, [.slice ta tn tc, .int .i64 nx])] [(.agg #[.slice c7 xn d7, .int .i64 tx], XT, lo7, hi7), (.agg #[.slice c5 xn d5, .int .i64 tx], XT, lo5, hi5), (.agg #[.slice ta tn tc, .int .i64 nx], T, lo, hi)] []) := ⟨fun x hx => HT.out.below (Below.trans (Below.drew (Below.refl _ _)) hx)⟩
  have HLE : Shut (∀ x, Later w8.drew x → x.cell? ⟨b5, 0, none⟩ = some (.slice c5 xn d5) ∧ x.cell? ⟨b5, 1, none⟩ = some (.int .i64 tx) ∧ x.cell? ⟨eb, 0, none⟩ = some (.int .i64 3) ∧ x.cell? ⟨eb, 1, none⟩ = some (.string path) ∧ x.cell? ⟨eb, 2, none⟩ = some (.string dest) ∧ x.cell? ⟨eb, 3, none⟩ = some (.int .i64 num) ∧ x.cell? ⟨eb, 4, none⟩ = some (.int .i64 who) ∧ x.cell? ⟨tb, 0, none⟩ = some (.slice ta tn tc) ∧ x.cell? ⟨tb, 1, none⟩ = some (.int .i64 nx)) := ⟨fun x hx => by
   have M := (HTX.out x hx).mb
   exact ⟨((M.at 1 rfl).1.2 0 _ rfl).1, ((M.at 1 rfl).1.2 1 _ rfl).1, ((M.at 2 rfl).1.2 0 _ rfl).1, ((M.at 2 rfl).1.2 1 _ rfl).1, ((M.at 2 rfl).1.2 2 _ rfl).1, ((M.at 2 rfl).1.2 3 _ rfl).1, ((M.at 2 rfl).1.2 4 _ rfl).1, ((M.at 3 rfl).1.2 0 _ rfl).1, ((M.at 3 rfl).1.2 1 _ rfl).1⟩⟩
  refine wpR_val ⟨Later.refl, Later.trans⟩ (i := 0) (v := ?vr1) rfl (by kernel_rfl) (by kernel_rfl) (by kernel_rfl) (fun _ _ _ h => h) (by rfl) ?hyr1 ?restr1
  case hyr1 => (intro x hx; obtain ⟨d0, d1, d2, d3, d4, d5, d6, d7, d8⟩ := HLE.out x hx; go_simp; try with_reducible rfl)
  try simp only [Act.put, qA, qB, qC]
  refine wpR_val ⟨Later.refl, Later.trans⟩ (i := 1) (v := ?vr2) rfl (by kernel_rfl) (by kernel_rfl) (by kernel_rfl) (fun _ _ _ h => h) (by rfl) ?hyr2 ?restr2
  case hyr2 => (intro x hx; obtain ⟨d0, d1, d2, d3, d4, d5, d6, d7, d8⟩ := HLE.out x hx; go_simp; try with_reducible rfl)
  try simp only [Act.put, qA, qB, qC]
  refine wpR_val ⟨Later.refl, Later.trans⟩ (i := 2) (v := ?vr3) rfl (by kernel_rfl) (by kernel_rfl) (by kernel_rfl) (fun _ _ _ h => h) (by rfl) ?hyr3 ?restr3
  case hyr3 => (intro x hx; obtain ⟨d0, d1, d2, d3, d4, d5, d6, d7, d8⟩ := HLE.out x hx; go_simp; try with_reducible rfl)
  try simp only [Act.put, qA, qB, qC]
  refine wpR_val ⟨Later.refl, Later.trans⟩ (i := 3) (v := ?vr4) rfl (by kernel_rfl) (by kernel_rfl) (by kernel_rfl) (fun _ _ _ h => h) (by rfl) ?hyr4 ?restr4
  case hyr4 => (intro x hx; obtain ⟨d0, d1, d2, d3, d4, d5, d6, d7, d8⟩ := HLE.out x hx; go_simp; try with_reducible rfl)
  try simp only [Act.put, qA, qB, qC]
  refine wpR_val ⟨Later.refl, Later.trans⟩ (i := 4) (v := ?vr5) rfl (by kernel_rfl) (by kernel_rfl) (by kernel_rfl) (fun _ _ _ h => h) (by rfl) ?hyr5 ?restr5
  case hyr5 => (intro x hx; obtain ⟨d0, d1, d2, d3, d4, d5, d6, d7, d8⟩ := HLE.out x hx; go_simp; try with_reducible rfl)
  try simp only [Act.put, qA, qB, qC]
  refine wpR_val ⟨Later.refl, Later.trans⟩ (i := 5) (v := ?vr6) rfl (by kernel_rfl) (by kernel_rfl) (by kernel_rfl) (fun _ _ _ h => h) (by rfl) ?hyr6 ?restr6
  case hyr6 => (intro x hx; obtain ⟨d0, d1, d2, d3, d4, d5, d6, d7, d8⟩ := HLE.out x hx; go_simp; try with_reducible rfl)
  try simp only [Act.put, qA, qB, qC]
  refine wpR_call ⟨Later.refl, Later.trans⟩ (i := 6) (v := .int .i64 fo) (f := 19) (args := #[.agg #[.slice c5 xn d5, .int .i64 tx], .string dest]) rfl (by kernel_rfl) (by kernel_rfl) (by kernel_rfl) (fun _ _ _ h => h) (by rfl) (fun x hx => by obtain ⟨d0, d1, d2, d3, d4, d5, d6, d7, d8⟩ := HLE.out x hx; go_simp; try with_reducible rfl) (fun x hx => (by have q := implFindPath x _ XT _ _ dest ((HTX.out x hx).at 1 rfl).see HXOK.out.fit HXOK.out.int HXOK.out.nz HDS.out; rwa [HF2.out] at q)) ?_
  try simp only [Act.put, qA, qB, qC]
  refine wpR_val ⟨Later.refl, Later.trans⟩ (i := 7) (v := ?vr7) rfl (by kernel_rfl) (by kernel_rfl) (by kernel_rfl) (fun _ _ _ h => h) (by rfl) ?hyr7 ?restr7
  case hyr7 => (intro x hx; obtain ⟨d0, d1, d2, d3, d4, d5, d6, d7, d8⟩ := HLE.out x hx; go_simp; try with_reducible rfl)
  try simp only [Act.put, qA, qB, qC]
  refine wpR_val ⟨Later.refl, Later.trans⟩ (i := 8) (v := ?vr8) rfl (by kernel_rfl) (by kernel_rfl) (by kernel_rfl) (fun _ _ _ h => h) (by rfl) ?hyr8 ?restr8
  case hyr8 => (intro x hx; obtain ⟨d0, d1, d2, d3, d4, d5, d6, d7, d8⟩ := HLE.out x hx; go_simp; try with_reducible rfl)
  try simp only [Act.put, qA, qB, qC]
  refine wpR_val ⟨Later.refl, Later.trans⟩ (i := 9) (v := ?vr9) rfl (by kernel_rfl) (by kernel_rfl) (by kernel_rfl) (fun _ _ _ h => h) (by rfl) ?hyr9 ?restr9
  case hyr9 => (intro x hx; obtain ⟨d0, d1, d2, d3, d4, d5, d6, d7, d8⟩ := HLE.out x hx; go_simp; try with_reducible rfl)
  try simp only [Act.put, qA, qB, qC]
  refine wpR_call ⟨Later.refl, Later.trans⟩ (i := 10) (v := .int .i64 fo) (f := 20) (args := #[.agg #[.slice ta tn tc, .int .i64 nx], .string path]) rfl (by kernel_rfl) (by kernel_rfl) (by kernel_rfl) (fun _ _ _ h => h) (by rfl) (fun x hx => by obtain ⟨d0, d1, d2, d3, d4, d5, d6, d7, d8⟩ := HLE.out x hx; go_simp; try with_reducible rfl) (fun x hx => (by have q := specFindPath path ((HTX.out x hx).at 2 rfl).see HOK.out.fit HPS.out; rwa [← HFO.out] at q)) ?_
  try simp only [Act.put, qA, qB, qC]
  refine wpR_val ⟨Later.refl, Later.trans⟩ (i := 11) (v := .bool true) rfl (by kernel_rfl) (by kernel_rfl) (by kernel_rfl) (fun _ _ _ h => h) (by rfl) ?hyr10 ?restr10
  case hyr10 => (intro x hx; obtain ⟨d0, d1, d2, d3, d4, d5, d6, d7, d8⟩ := HLE.out x hx; go_simp; try with_reducible rfl)
  try simp only [Act.put, qA, qB, qC]
  refine wpR_val ⟨Later.refl, Later.trans⟩ (i := 12) (v := ?vr11) rfl (by kernel_rfl) (by kernel_rfl) (by kernel_rfl) (fun _ _ _ h => h) (by rfl) ?hyr11 ?restr11
  case hyr11 => (intro x hx; obtain ⟨d0, d1, d2, d3, d4, d5, d6, d7, d8⟩ := HLE.out x hx; go_simp; try with_reducible rfl)
  try simp only [Act.put, qA, qB, qC]
  refine wpR_val ⟨Later.refl, Later.trans⟩ (i := 13) (v := ?vr12) rfl (by kernel_rfl) (by kernel_rfl) (by kernel_rfl) (fun _ _ _ h => h) (by rfl) ?hyr12 ?restr12
  case hyr12 => (intro x hx; obtain ⟨d0, d1, d2, d3, d4, d5, d6, d7, d8⟩ := HLE.out x hx; go_simp; try with_reducible rfl)
  try simp only [Act.put, qA, qB, qC]
  refine wpR_val ⟨Later.refl, Later.trans⟩ (i := 14) (v := ?vr13) rfl (by kernel_rfl) (by kernel_rfl) (by kernel_rfl) (fun _ _ _ h => h) (by rfl) ?hyr13 ?restr13
  case hyr13 => (intro x hx; obtain ⟨d0, d1, d2, d3, d4, d5, d6, d7, d8⟩ := HLE.out x hx; go_simp; try with_reducible rfl)
  try simp only [Act.put, qA, qB, qC]
  refine wpR_val ⟨Later.refl, Later.trans⟩ (i := 15) (v := ?vr14) rfl (by kernel_rfl) (by kernel_rfl) (by kernel_rfl) (fun _ _ _ h => h) (by rfl) ?hyr14 ?restr14
  case hyr14 => (intro x hx; obtain ⟨d0, d1, d2, d3, d4, d5, d6, d7, d8⟩ := HLE.out x hx; go_simp; try with_reducible rfl)
  try simp only [Act.put, qA, qB, qC]
  refine wpR_val ⟨Later.refl, Later.trans⟩ (i := 16) (v := ?vr15) rfl (by kernel_rfl) (by kernel_rfl) (by kernel_rfl) (fun _ _ _ h => h) (by rfl) ?hyr15 ?restr15
  case hyr15 => (intro x hx; obtain ⟨d0, d1, d2, d3, d4, d5, d6, d7, d8⟩ := HLE.out x hx; go_simp; try with_reducible rfl)
  try simp only [Act.put, qA, qB, qC]
  refine wpR_val ⟨Later.refl, Later.trans⟩ (i := 17) (v := ?vr16) rfl (by kernel_rfl) (by kernel_rfl) (by kernel_rfl) (fun _ _ _ h => h) (by rfl) ?hyr16 ?restr16
  case hyr16 => (intro x hx; obtain ⟨d0, d1, d2, d3, d4, d5, d6, d7, d8⟩ := HLE.out x hx; go_simp; try with_reducible rfl)
  try simp only [Act.put, qA, qB, qC]
  refine wpR_val ⟨Later.refl, Later.trans⟩ (i := 18) (v := ?vr17) rfl (by kernel_rfl) (by kernel_rfl) (by kernel_rfl) (fun _ _ _ h => h) (by rfl) ?hyr17 ?restr17
  case hyr17 => (intro x hx; obtain ⟨d0, d1, d2, d3, d4, d5, d6, d7, d8⟩ := HLE.out x hx; go_simp; try with_reducible rfl)
  try simp only [Act.put, qA, qB, qC]
  refine wpR_val ⟨Later.refl, Later.trans⟩ (i := 19) (v := ?vr18) rfl (by kernel_rfl) (by kernel_rfl) (by kernel_rfl) (fun _ _ _ h => h) (by rfl) ?hyr18 ?restr18
  case hyr18 => (intro x hx; obtain ⟨d0, d1, d2, d3, d4, d5, d6, d7, d8⟩ := HLE.out x hx; go_simp; try with_reducible rfl)
  try simp only [Act.put, qA, qB, qC]
  refine wpR_val ⟨Later.refl, Later.trans⟩ (i := 20) (v := .bool true) rfl (by kernel_rfl) (by kernel_rfl) (by kernel_rfl) (fun _ _ _ h => h) (by rfl) ?hyr19 ?restr19
  case hyr19 => (intro x hx; obtain ⟨d0, d1, d2, d3, d4, d5, d6, d7, d8⟩ := HLE.out x hx; go_simp; try with_reducible rfl)
  try simp only [Act.put, qA, qB, qC]
  refine wpR_val ⟨Later.refl, Later.trans⟩ (i := 21) (v := ?vr20) rfl (by kernel_rfl) (by kernel_rfl) (by kernel_rfl) (fun _ _ _ h => h) (by rfl) ?hyr20 ?restr20
  case hyr20 => (intro x hx; obtain ⟨d0, d1, d2, d3, d4, d5, d6, d7, d8⟩ := HLE.out x hx; go_simp; try with_reducible rfl)
  try simp only [Act.put, qA, qB, qC]
  refine wpR_val ⟨Later.refl, Later.trans⟩ (i := 22) (v := ?vr21) rfl (by kernel_rfl) (by kernel_rfl) (by kernel_rfl) (fun _ _ _ h => h) (by rfl) ?hyr21 ?restr21
  case hyr21 => (intro x hx; obtain ⟨d0, d1, d2, d3, d4, d5, d6, d7, d8⟩ := HLE.out x hx; go_simp; try with_reducible rfl)
  try simp only [Act.put, qA, qB, qC]
  refine wpR_done (by kernel_rfl) ?_ _
  intro w9 hy9
  have T9 := Shut.mk (HTX.out w9 hy9)
  clear hy9 HTX HLE HT
  have HT := T9
  clear T9
  go_wp2_with fail
  go_ret
  exact ⟨rfl, HT.out.bel⟩
 by_cases k4 : kind = 4
 case pos =>
  obtain ⟨f1, f2⟩ := HK4.out rfl k4
  subst k4
  rw [← HXN.out.1, ← HTN.out.1] at f2
  have HFF := Shut.mk f1
  have hbl := belowX_len T (findX T path)
  obtain ⟨fo, hfo⟩ : ∃ f, f = findX T path := ⟨_, rfl⟩
  have HFO := Shut.mk hfo
  rw [← hfo] at f2 hbl
  obtain ⟨Bw, hBw⟩ : ∃ b, b = belowX T fo := ⟨_, rfl⟩
  have HBW := Shut.mk hBw
  rw [← hBw] at f2 hbl
  obtain ⟨bl, hbn⟩ : ∃ n, n = Bw.length := ⟨_, rfl⟩
  have HBN := Shut.mk hbn
  rw [← hbn] at f2 hbl
  have hl : ((xn : Int) == (tn : Int) - (bl : Int)) = true := by simp; omega
  have hwr : IntKind.i64.wrap ((tn : Int) - (bl : Int)) = (tn : Int) - (bl : Int) := IntWalk.i64_in _ ⟨by omega, by omega⟩
  clear f1 f2 hfo hBw hbn
  have b50 := ((HT.out.mb.at 1 rfl).1.2 0 _ rfl).1
  have b51 := ((HT.out.mb.at 1 rfl).1.2 1 _ rfl).1
  have eb0 := ((HT.out.mb.at 2 rfl).1.2 0 _ rfl).1
  have eb1 := ((HT.out.mb.at 2 rfl).1.2 1 _ rfl).1
  have eb2 := ((HT.out.mb.at 2 rfl).1.2 2 _ rfl).1
  have eb3 := ((HT.out.mb.at 2 rfl).1.2 3 _ rfl).1
  have eb4 := ((HT.out.mb.at 2 rfl).1.2 4 _ rfl).1
  go_upto_region 12 with (go_at_call 19; refine (implFindPath _ _ XT _ _ path (HT.out.at 1 rfl).see HXOK.out.fit HXOK.out.int HXOK.out.nz HPS.out).mono ?_; rintro e w8 ⟨rfl, hb⟩; rw [HFF.out]; replace HT := Shut.mk (HT.out.below hb); clear hb b50 b51 eb0 eb1 eb2 eb3 eb4)
  have eb0 := ((HT.out.mb.at 2 rfl).1.2 0 _ rfl).1
  have eb1 := ((HT.out.mb.at 2 rfl).1.2 1 _ rfl).1
  have eb2 := ((HT.out.mb.at 2 rfl).1.2 2 _ rfl).1
  have eb3 := ((HT.out.mb.at 2 rfl).1.2 3 _ rfl).1
  have eb4 := ((HT.out.mb.at 2 rfl).1.2 4 _ rfl).1
  go_upto_region 19 with fail
  clear eb0 eb1 eb2 eb3 eb4
  refine wp_region_R Later ⟨Later.refl, Later.trans⟩ (by kernel_rfl) ?_
  have HTX : Shut (∀ x, Later w8.drew x → TL w x [(b7, [.slice c7 xn d7, .int .i64 tx]), (b5, [.slice c5 xn d5, .int .i64 tx]), (eb, [.int .i64 4, .string path, .string dest, .int .i64 num, .int .i64 who]), (tb, [.slice ta tn tc, .int .i64 nx])] [(.agg #[.slice c7 xn d7, .int .i64 tx], XT, lo7, hi7), (.agg #[.slice c5 xn d5, .int .i64 tx], XT, lo5, hi5), (.agg #[.slice ta tn tc, .int .i64 nx], T, lo, hi)] []) := ⟨fun x hx => HT.out.below (Below.trans (Below.drew (Below.refl _ _)) hx)⟩
  have HLE : Shut (∀ x, Later w8.drew x → x.cell? ⟨b5, 0, none⟩ = some (.slice c5 xn d5) ∧ x.cell? ⟨b5, 1, none⟩ = some (.int .i64 tx) ∧ x.cell? ⟨eb, 0, none⟩ = some (.int .i64 4) ∧ x.cell? ⟨eb, 1, none⟩ = some (.string path) ∧ x.cell? ⟨eb, 2, none⟩ = some (.string dest) ∧ x.cell? ⟨eb, 3, none⟩ = some (.int .i64 num) ∧ x.cell? ⟨eb, 4, none⟩ = some (.int .i64 who) ∧ x.cell? ⟨tb, 0, none⟩ = some (.slice ta tn tc) ∧ x.cell? ⟨tb, 1, none⟩ = some (.int .i64 nx)) := ⟨fun x hx => by
   have M := (HTX.out x hx).mb
   exact ⟨((M.at 1 rfl).1.2 0 _ rfl).1, ((M.at 1 rfl).1.2 1 _ rfl).1, ((M.at 2 rfl).1.2 0 _ rfl).1, ((M.at 2 rfl).1.2 1 _ rfl).1, ((M.at 2 rfl).1.2 2 _ rfl).1, ((M.at 2 rfl).1.2 3 _ rfl).1, ((M.at 2 rfl).1.2 4 _ rfl).1, ((M.at 3 rfl).1.2 0 _ rfl).1, ((M.at 3 rfl).1.2 1 _ rfl).1⟩⟩
  refine wpR_val ⟨Later.refl, Later.trans⟩ (i := 0) (v := ?vr22) rfl (by kernel_rfl) (by kernel_rfl) (by kernel_rfl) (fun _ _ _ h => h) (by rfl) ?hyr22 ?restr22
  case hyr22 => (intro x hx; obtain ⟨d0, d1, d2, d3, d4, d5, d6, d7, d8⟩ := HLE.out x hx; go_simp; try with_reducible rfl)
  try simp only [Act.put, qA, qB, qC]
  refine wpR_val ⟨Later.refl, Later.trans⟩ (i := 1) (v := ?vr23) rfl (by kernel_rfl) (by kernel_rfl) (by kernel_rfl) (fun _ _ _ h => h) (by rfl) ?hyr23 ?restr23
  case hyr23 => (intro x hx; obtain ⟨d0, d1, d2, d3, d4, d5, d6, d7, d8⟩ := HLE.out x hx; go_simp; try with_reducible rfl)
  try simp only [Act.put, qA, qB, qC]
  refine wpR_val ⟨Later.refl, Later.trans⟩ (i := 2) (v := ?vr24) rfl (by kernel_rfl) (by kernel_rfl) (by kernel_rfl) (fun _ _ _ h => h) (by rfl) ?hyr24 ?restr24
  case hyr24 => (intro x hx; obtain ⟨d0, d1, d2, d3, d4, d5, d6, d7, d8⟩ := HLE.out x hx; go_simp; try with_reducible rfl)
  try simp only [Act.put, qA, qB, qC]
  refine wpR_val ⟨Later.refl, Later.trans⟩ (i := 3) (v := ?vr25) rfl (by kernel_rfl) (by kernel_rfl) (by kernel_rfl) (fun _ _ _ h => h) (by rfl) ?hyr25 ?restr25
  case hyr25 => (intro x hx; obtain ⟨d0, d1, d2, d3, d4, d5, d6, d7, d8⟩ := HLE.out x hx; go_simp; try with_reducible rfl)
  try simp only [Act.put, qA, qB, qC]
  refine wpR_val ⟨Later.refl, Later.trans⟩ (i := 4) (v := ?vr26) rfl (by kernel_rfl) (by kernel_rfl) (by kernel_rfl) (fun _ _ _ h => h) (by rfl) ?hyr26 ?restr26
  case hyr26 => (intro x hx; obtain ⟨d0, d1, d2, d3, d4, d5, d6, d7, d8⟩ := HLE.out x hx; go_simp; try with_reducible rfl)
  try simp only [Act.put, qA, qB, qC]
  refine wpR_val ⟨Later.refl, Later.trans⟩ (i := 5) (v := ?vr27) rfl (by kernel_rfl) (by kernel_rfl) (by kernel_rfl) (fun _ _ _ h => h) (by rfl) ?hyr27 ?restr27
  case hyr27 => (intro x hx; obtain ⟨d0, d1, d2, d3, d4, d5, d6, d7, d8⟩ := HLE.out x hx; go_simp; try with_reducible rfl)
  try simp only [Act.put, qA, qB, qC]
  refine wpR_val ⟨Later.refl, Later.trans⟩ (i := 6) (v := ?vr28) rfl (by kernel_rfl) (by kernel_rfl) (by kernel_rfl) (fun _ _ _ h => h) (by rfl) ?hyr28 ?restr28
  case hyr28 => (intro x hx; obtain ⟨d0, d1, d2, d3, d4, d5, d6, d7, d8⟩ := HLE.out x hx; go_simp; try with_reducible rfl)
  try simp only [Act.put, qA, qB, qC]
  refine wpR_val ⟨Later.refl, Later.trans⟩ (i := 7) (v := ?vr29) rfl (by kernel_rfl) (by kernel_rfl) (by kernel_rfl) (fun _ _ _ h => h) (by rfl) ?hyr29 ?restr29
  case hyr29 => (intro x hx; obtain ⟨d0, d1, d2, d3, d4, d5, d6, d7, d8⟩ := HLE.out x hx; go_simp; try with_reducible rfl)
  try simp only [Act.put, qA, qB, qC]
  refine wpR_val ⟨Later.refl, Later.trans⟩ (i := 8) (v := ?vr30) rfl (by kernel_rfl) (by kernel_rfl) (by kernel_rfl) (fun _ _ _ h => h) (by rfl) ?hyr30 ?restr30
  case hyr30 => (intro x hx; obtain ⟨d0, d1, d2, d3, d4, d5, d6, d7, d8⟩ := HLE.out x hx; go_simp; try with_reducible rfl)
  try simp only [Act.put, qA, qB, qC]
  refine wpR_val ⟨Later.refl, Later.trans⟩ (i := 9) (v := ?vr31) rfl (by kernel_rfl) (by kernel_rfl) (by kernel_rfl) (fun _ _ _ h => h) (by rfl) ?hyr31 ?restr31
  case hyr31 => (intro x hx; obtain ⟨d0, d1, d2, d3, d4, d5, d6, d7, d8⟩ := HLE.out x hx; go_simp; try with_reducible rfl)
  try simp only [Act.put, qA, qB, qC]
  refine wpR_val ⟨Later.refl, Later.trans⟩ (i := 10) (v := ?vr32) rfl (by kernel_rfl) (by kernel_rfl) (by kernel_rfl) (fun _ _ _ h => h) (by rfl) ?hyr32 ?restr32
  case hyr32 => (intro x hx; obtain ⟨d0, d1, d2, d3, d4, d5, d6, d7, d8⟩ := HLE.out x hx; go_simp; try with_reducible rfl)
  try simp only [Act.put, qA, qB, qC]
  refine wpR_val ⟨Later.refl, Later.trans⟩ (i := 11) (v := ?vr33) rfl (by kernel_rfl) (by kernel_rfl) (by kernel_rfl) (fun _ _ _ h => h) (by rfl) ?hyr33 ?restr33
  case hyr33 => (intro x hx; obtain ⟨d0, d1, d2, d3, d4, d5, d6, d7, d8⟩ := HLE.out x hx; go_simp; try with_reducible rfl)
  try simp only [Act.put, qA, qB, qC]
  refine wpR_val ⟨Later.refl, Later.trans⟩ (i := 12) (v := ?vr34) rfl (by kernel_rfl) (by kernel_rfl) (by kernel_rfl) (fun _ _ _ h => h) (by rfl) ?hyr34 ?restr34
  case hyr34 => (intro x hx; obtain ⟨d0, d1, d2, d3, d4, d5, d6, d7, d8⟩ := HLE.out x hx; go_simp; try with_reducible rfl)
  try simp only [Act.put, qA, qB, qC]
  refine wpR_call ⟨Later.refl, Later.trans⟩ (i := 13) (v := .int .i64 fo) (f := 20) (args := #[.agg #[.slice ta tn tc, .int .i64 nx], .string path]) rfl (by kernel_rfl) (by kernel_rfl) (by kernel_rfl) (fun _ _ _ h => h) (by rfl) (fun x hx => by obtain ⟨d0, d1, d2, d3, d4, d5, d6, d7, d8⟩ := HLE.out x hx; go_simp; try with_reducible rfl) (fun x hx => (by have q := specFindPath path ((HTX.out x hx).at 2 rfl).see HOK.out.fit HPS.out; rwa [← HFO.out] at q)) ?_
  try simp only [Act.put, qA, qB, qC]
  refine wpR_onecall (f := 21) (args := #[.agg #[.slice ta tn tc, .int .i64 nx], .int .i64 fo]) (i := 14) (by kernel_rfl) rfl (by rfl) (fun x hx => by obtain ⟨d0, d1, d2, d3, d4, d5, d6, d7, d8⟩ := HLE.out x hx; go_simp; try with_reducible rfl) (fun x hx => (specBelowOf fo ((HTX.out x hx).at 2 rfl).see HOK.out.fit).mono ?_)
  rintro e w9 ⟨vv, rfl, hia, hb⟩
  refine ⟨_, rfl, hb, ?_⟩
  have T9 := Shut.mk ((HTX.out x hx).below hb)
  obtain ⟨ba, bc, rfl, -⟩ := hia.crow
  rw [← HBW.out, ← HBN.out]
  clear hia
  clear hb hx HTX HLE HT
  have HT := T9
  clear T9
  try simp only [Act.put, qA, qB, qC]
  have HTX : Shut (∀ x, Later w9 x → TL w x [(b7, [.slice c7 xn d7, .int .i64 tx]), (b5, [.slice c5 xn d5, .int .i64 tx]), (eb, [.int .i64 4, .string path, .string dest, .int .i64 num, .int .i64 who]), (tb, [.slice ta tn tc, .int .i64 nx])] [(.agg #[.slice c7 xn d7, .int .i64 tx], XT, lo7, hi7), (.agg #[.slice c5 xn d5, .int .i64 tx], XT, lo5, hi5), (.agg #[.slice ta tn tc, .int .i64 nx], T, lo, hi)] []) := ⟨fun x hx => HT.out.below hx⟩
  have HLE : Shut (∀ x, Later w9 x → x.cell? ⟨b5, 0, none⟩ = some (.slice c5 xn d5) ∧ x.cell? ⟨b5, 1, none⟩ = some (.int .i64 tx) ∧ x.cell? ⟨eb, 0, none⟩ = some (.int .i64 4) ∧ x.cell? ⟨eb, 1, none⟩ = some (.string path) ∧ x.cell? ⟨eb, 2, none⟩ = some (.string dest) ∧ x.cell? ⟨eb, 3, none⟩ = some (.int .i64 num) ∧ x.cell? ⟨eb, 4, none⟩ = some (.int .i64 who) ∧ x.cell? ⟨tb, 0, none⟩ = some (.slice ta tn tc) ∧ x.cell? ⟨tb, 1, none⟩ = some (.int .i64 nx)) := ⟨fun x hx => by
   have M := (HTX.out x hx).mb
   exact ⟨((M.at 1 rfl).1.2 0 _ rfl).1, ((M.at 1 rfl).1.2 1 _ rfl).1, ((M.at 2 rfl).1.2 0 _ rfl).1, ((M.at 2 rfl).1.2 1 _ rfl).1, ((M.at 2 rfl).1.2 2 _ rfl).1, ((M.at 2 rfl).1.2 3 _ rfl).1, ((M.at 2 rfl).1.2 4 _ rfl).1, ((M.at 3 rfl).1.2 0 _ rfl).1, ((M.at 3 rfl).1.2 1 _ rfl).1⟩⟩
  refine wpR_val ⟨Later.refl, Later.trans⟩ (i := 15) (v := ?vr35) rfl (by kernel_rfl) (by kernel_rfl) (by kernel_rfl) (fun _ _ _ h => h) (by rfl) ?hyr35 ?restr35
  case hyr35 => (intro x hx; obtain ⟨d0, d1, d2, d3, d4, d5, d6, d7, d8⟩ := HLE.out x hx; go_simp; try with_reducible rfl)
  try simp only [Act.put, qA, qB, qC]
  refine wpR_val ⟨Later.refl, Later.trans⟩ (i := 16) (v := ?vr36) rfl (by kernel_rfl) (by kernel_rfl) (by kernel_rfl) (fun _ _ _ h => h) (by rfl) ?hyr36 ?restr36
  case hyr36 => (intro x hx; obtain ⟨d0, d1, d2, d3, d4, d5, d6, d7, d8⟩ := HLE.out x hx; go_simp; try with_reducible rfl)
  try simp only [Act.put, qA, qB, qC]
  refine wpR_val ⟨Later.refl, Later.trans⟩ (i := 17) (v := .bool true) rfl (by kernel_rfl) (by kernel_rfl) (by kernel_rfl) (fun _ _ _ h => h) (by rfl) ?hyr37 ?restr37
  case hyr37 => (intro x hx; obtain ⟨d0, d1, d2, d3, d4, d5, d6, d7, d8⟩ := HLE.out x hx; go_simp; try with_reducible rfl)
  try simp only [Act.put, qA, qB, qC]
  refine wpR_val ⟨Later.refl, Later.trans⟩ (i := 18) (v := ?vr38) rfl (by kernel_rfl) (by kernel_rfl) (by kernel_rfl) (fun _ _ _ h => h) (by rfl) ?hyr38 ?restr38
  case hyr38 => (intro x hx; obtain ⟨d0, d1, d2, d3, d4, d5, d6, d7, d8⟩ := HLE.out x hx; go_simp; try with_reducible rfl)
  try simp only [Act.put, qA, qB, qC]
  refine wpR_val ⟨Later.refl, Later.trans⟩ (i := 19) (v := ?vr39) rfl (by kernel_rfl) (by kernel_rfl) (by kernel_rfl) (fun _ _ _ h => h) (by rfl) ?hyr39 ?restr39
  case hyr39 => (intro x hx; obtain ⟨d0, d1, d2, d3, d4, d5, d6, d7, d8⟩ := HLE.out x hx; go_simp; try with_reducible rfl)
  try simp only [Act.put, qA, qB, qC]
  refine wpR_done (by kernel_rfl) ?_ _
  intro w10 hy9
  have T9 := Shut.mk (HTX.out w10 hy9)
  clear hy9 HTX HLE HT
  have HT := T9
  clear T9
  go_wp2_with fail
  go_ret
  exact ⟨rfl, HT.out.bel⟩
 by_cases k7 : kind = 7
 case pos =>
  obtain ⟨f1, f2, f3⟩ := HK7.out rfl k7
  have hnm := HNUM.out rfl k7
  subst k7
  have hu := usedX_le T 1
  have hgl := grpX_len T (findX T path)
  have HFF := Shut.mk f2
  obtain ⟨fo, hfo⟩ : ∃ f, f = findX T path := ⟨_, rfl⟩
  have HFO := Shut.mk hfo
  rw [← hfo] at f3 hgl
  obtain ⟨ut, hut⟩ : ∃ u, u = usedX T 1 := ⟨_, rfl⟩
  have HUT := Shut.mk hut
  rw [← hut] at f1 hu
  have HUX := Shut.mk f1
  obtain ⟨gx, hgx⟩ : ∃ n, n = (grpX XT fo).length := ⟨_, rfl⟩
  obtain ⟨gt, hgt⟩ : ∃ n, n = (grpX T fo).length := ⟨_, rfl⟩
  have HGX := Shut.mk hgx
  have HGT := Shut.mk hgt
  rw [← hgx, ← hgt] at f3
  rw [← hgt] at hgl
  have hl : ((gx : Int) == (gt : Int) + G - 900) = true := by simpa using f3
  have huu : (ut + num == ut + num) = true := by simp
  have hwu : IntKind.i64.wrap (ut + num) = ut + num := IntWalk.i64_in _ ⟨by omega, by omega⟩
  have hw1 : IntKind.i64.wrap ((gt : Int) + G) = (gt : Int) + G := IntWalk.i64_in _ ⟨by omega, by omega⟩
  have hw2 : IntKind.i64.wrap ((gt : Int) + G - 900) = (gt : Int) + G - 900 := IntWalk.i64_in _ ⟨by omega, by omega⟩
  clear f1 f2 f3 hfo hut hgx hgt
  have b50 := ((HT.out.mb.at 1 rfl).1.2 0 _ rfl).1
  have b51 := ((HT.out.mb.at 1 rfl).1.2 1 _ rfl).1
  have eb0 := ((HT.out.mb.at 2 rfl).1.2 0 _ rfl).1
  have eb1 := ((HT.out.mb.at 2 rfl).1.2 1 _ rfl).1
  have eb2 := ((HT.out.mb.at 2 rfl).1.2 2 _ rfl).1
  have eb3 := ((HT.out.mb.at 2 rfl).1.2 3 _ rfl).1
  have eb4 := ((HT.out.mb.at 2 rfl).1.2 4 _ rfl).1
  go_upto_region 12 with (go_at_call 19; refine (implFindPath _ _ XT _ _ path (HT.out.at 1 rfl).see HXOK.out.fit HXOK.out.int HXOK.out.nz HPS.out).mono ?_; rintro e w8 ⟨rfl, hb⟩; rw [HFF.out, ← HFO.out]; replace HT := Shut.mk (HT.out.below hb); clear hb b50 b51 eb0 eb1 eb2 eb3 eb4)
  have eb0 := ((HT.out.mb.at 2 rfl).1.2 0 _ rfl).1
  have eb1 := ((HT.out.mb.at 2 rfl).1.2 1 _ rfl).1
  have eb2 := ((HT.out.mb.at 2 rfl).1.2 2 _ rfl).1
  have eb3 := ((HT.out.mb.at 2 rfl).1.2 3 _ rfl).1
  have eb4 := ((HT.out.mb.at 2 rfl).1.2 4 _ rfl).1
  go_upto_region 21 with fail
  clear eb0 eb1 eb2 eb3 eb4
  refine wp_region_R Later ⟨Later.refl, Later.trans⟩ (by kernel_rfl) ?_
  have HTX : Shut (∀ x, Later w8.drew x → TL w x [(b7, [.slice c7 xn d7, .int .i64 tx]), (b5, [.slice c5 xn d5, .int .i64 tx]), (eb, [.int .i64 7, .string path, .string dest, .int .i64 num, .int .i64 who]), (tb, [.slice ta tn tc, .int .i64 nx])] [(.agg #[.slice c7 xn d7, .int .i64 tx], XT, lo7, hi7), (.agg #[.slice c5 xn d5, .int .i64 tx], XT, lo5, hi5), (.agg #[.slice ta tn tc, .int .i64 nx], T, lo, hi)] []) := ⟨fun x hx => HT.out.below (Below.trans (Below.drew (Below.refl _ _)) hx)⟩
  have HLE : Shut (∀ x, Later w8.drew x → x.cell? ⟨b5, 0, none⟩ = some (.slice c5 xn d5) ∧ x.cell? ⟨b5, 1, none⟩ = some (.int .i64 tx) ∧ x.cell? ⟨eb, 0, none⟩ = some (.int .i64 7) ∧ x.cell? ⟨eb, 1, none⟩ = some (.string path) ∧ x.cell? ⟨eb, 2, none⟩ = some (.string dest) ∧ x.cell? ⟨eb, 3, none⟩ = some (.int .i64 num) ∧ x.cell? ⟨eb, 4, none⟩ = some (.int .i64 who) ∧ x.cell? ⟨tb, 0, none⟩ = some (.slice ta tn tc) ∧ x.cell? ⟨tb, 1, none⟩ = some (.int .i64 nx)) := ⟨fun x hx => by
   have M := (HTX.out x hx).mb
   exact ⟨((M.at 1 rfl).1.2 0 _ rfl).1, ((M.at 1 rfl).1.2 1 _ rfl).1, ((M.at 2 rfl).1.2 0 _ rfl).1, ((M.at 2 rfl).1.2 1 _ rfl).1, ((M.at 2 rfl).1.2 2 _ rfl).1, ((M.at 2 rfl).1.2 3 _ rfl).1, ((M.at 2 rfl).1.2 4 _ rfl).1, ((M.at 3 rfl).1.2 0 _ rfl).1, ((M.at 3 rfl).1.2 1 _ rfl).1⟩⟩
  refine wpR_val ⟨Later.refl, Later.trans⟩ (i := 0) (v := ?vr40) rfl (by kernel_rfl) (by kernel_rfl) (by kernel_rfl) (fun _ _ _ h => h) (by rfl) ?hyr40 ?restr40
  case hyr40 => (intro x hx; obtain ⟨d0, d1, d2, d3, d4, d5, d6, d7, d8⟩ := HLE.out x hx; go_simp; try with_reducible rfl)
  try simp only [Act.put, qA, qB, qC]
  refine wpR_call ⟨Later.refl, Later.trans⟩ (i := 1) (v := .int .i64 (ut + num)) (f := 22) (args := #[.agg #[.slice c5 xn d5, .int .i64 tx], .int .i64 1]) rfl (by kernel_rfl) (by kernel_rfl) (by kernel_rfl) (fun _ _ _ h => h) (by rfl) (fun x hx => by obtain ⟨d0, d1, d2, d3, d4, d5, d6, d7, d8⟩ := HLE.out x hx; go_simp; try with_reducible rfl) (fun x hx => (by have q := implUsedBelow x _ XT _ _ 1 ((HTX.out x hx).at 1 rfl).see HXOK.out.fit HXOK.out.int; rwa [HUX.out] at q)) ?_
  try simp only [Act.put, qA, qB, qC]
  refine wpR_val ⟨Later.refl, Later.trans⟩ (i := 2) (v := ?vr41) rfl (by kernel_rfl) (by kernel_rfl) (by kernel_rfl) (fun _ _ _ h => h) (by rfl) ?hyr41 ?restr41
  case hyr41 => (intro x hx; obtain ⟨d0, d1, d2, d3, d4, d5, d6, d7, d8⟩ := HLE.out x hx; go_simp; try with_reducible rfl)
  try simp only [Act.put, qA, qB, qC]
  refine wpR_call ⟨Later.refl, Later.trans⟩ (i := 3) (v := .int .i64 ut) (f := 23) (args := #[.agg #[.slice ta tn tc, .int .i64 nx], .int .i64 1]) rfl (by kernel_rfl) (by kernel_rfl) (by kernel_rfl) (fun _ _ _ h => h) (by rfl) (fun x hx => by obtain ⟨d0, d1, d2, d3, d4, d5, d6, d7, d8⟩ := HLE.out x hx; go_simp; try with_reducible rfl) (fun x hx => (by have q := specUsedBelow 1 ((HTX.out x hx).at 2 rfl).see HOK.out.fit; rwa [← HUT.out] at q)) ?_
  try simp only [Act.put, qA, qB, qC]
  refine wpR_val ⟨Later.refl, Later.trans⟩ (i := 4) (v := ?vr42) rfl (by kernel_rfl) (by kernel_rfl) (by kernel_rfl) (fun _ _ _ h => h) (by rfl) ?hyr42 ?restr42
  case hyr42 => (intro x hx; obtain ⟨d0, d1, d2, d3, d4, d5, d6, d7, d8⟩ := HLE.out x hx; go_simp; try with_reducible rfl)
  try simp only [Act.put, qA, qB, qC]
  refine wpR_val ⟨Later.refl, Later.trans⟩ (i := 5) (v := ?vr43) rfl (by kernel_rfl) (by kernel_rfl) (by kernel_rfl) (fun _ _ _ h => h) (by rfl) ?hyr43 ?restr43
  case hyr43 => (intro x hx; obtain ⟨d0, d1, d2, d3, d4, d5, d6, d7, d8⟩ := HLE.out x hx; go_simp; try with_reducible rfl)
  try simp only [Act.put, qA, qB, qC]
  refine wpR_val ⟨Later.refl, Later.trans⟩ (i := 6) (v := ?vr44) rfl (by kernel_rfl) (by kernel_rfl) (by kernel_rfl) (fun _ _ _ h => h) (by rfl) ?hyr44 ?restr44
  case hyr44 => (intro x hx; obtain ⟨d0, d1, d2, d3, d4, d5, d6, d7, d8⟩ := HLE.out x hx; go_simp; try with_reducible rfl)
  try simp only [Act.put, qA, qB, qC]
  refine wpR_val ⟨Later.refl, Later.trans⟩ (i := 7) (v := .bool true) rfl (by kernel_rfl) (by kernel_rfl) (by kernel_rfl) (fun _ _ _ h => h) (by rfl) ?hyr45 ?restr45
  case hyr45 => (intro x hx; obtain ⟨d0, d1, d2, d3, d4, d5, d6, d7, d8⟩ := HLE.out x hx; go_simp; try with_reducible rfl)
  try simp only [Act.put, qA, qB, qC]
  refine wpR_val ⟨Later.refl, Later.trans⟩ (i := 8) (v := .bool true) rfl (by kernel_rfl) (by kernel_rfl) (by kernel_rfl) (fun _ _ _ h => h) (by rfl) ?hyr46 ?restr46
  case hyr46 => (intro x hx; obtain ⟨d0, d1, d2, d3, d4, d5, d6, d7, d8⟩ := HLE.out x hx; go_simp; try with_reducible rfl)
  try simp only [Act.put, qA, qB, qC]
  refine wpR_val ⟨Later.refl, Later.trans⟩ (i := 9) (v := ?vr47) rfl (by kernel_rfl) (by kernel_rfl) (by kernel_rfl) (fun _ _ _ h => h) (by rfl) ?hyr47 ?restr47
  case hyr47 => (intro x hx; obtain ⟨d0, d1, d2, d3, d4, d5, d6, d7, d8⟩ := HLE.out x hx; go_simp; try with_reducible rfl)
  try simp only [Act.put, qA, qB, qC]
  refine wpR_val ⟨Later.refl, Later.trans⟩ (i := 10) (v := ?vr48) rfl (by kernel_rfl) (by kernel_rfl) (by kernel_rfl) (fun _ _ _ h => h) (by rfl) ?hyr48 ?restr48
  case hyr48 => (intro x hx; obtain ⟨d0, d1, d2, d3, d4, d5, d6, d7, d8⟩ := HLE.out x hx; go_simp; try with_reducible rfl)
  try simp only [Act.put, qA, qB, qC]
  refine wpR_val ⟨Later.refl, Later.trans⟩ (i := 13) (v := ?vr49) rfl (by kernel_rfl) (by kernel_rfl) (by kernel_rfl) (fun _ _ _ h => h) (by rfl) ?hyr49 ?restr49
  case hyr49 => (intro x hx; obtain ⟨d0, d1, d2, d3, d4, d5, d6, d7, d8⟩ := HLE.out x hx; go_simp; try with_reducible rfl)
  try simp only [Act.put, qA, qB, qC]
  refine wpR_val ⟨Later.refl, Later.trans⟩ (i := 14) (v := ?vr50) rfl (by kernel_rfl) (by kernel_rfl) (by kernel_rfl) (fun _ _ _ h => h) (by rfl) ?hyr50 ?restr50
  case hyr50 => (intro x hx; obtain ⟨d0, d1, d2, d3, d4, d5, d6, d7, d8⟩ := HLE.out x hx; go_simp; try with_reducible rfl)
  try simp only [Act.put, qA, qB, qC]
  refine wpR_val ⟨Later.refl, Later.trans⟩ (i := 17) (v := ?vr51) rfl (by kernel_rfl) (by kernel_rfl) (by kernel_rfl) (fun _ _ _ h => h) (by rfl) ?hyr51 ?restr51
  case hyr51 => (intro x hx; obtain ⟨d0, d1, d2, d3, d4, d5, d6, d7, d8⟩ := HLE.out x hx; go_simp; try with_reducible rfl)
  try simp only [Act.put, qA, qB, qC]
  refine wpR_onecall (f := 24) (args := #[.agg #[.slice c5 xn d5, .int .i64 tx], .int .i64 fo]) (i := 11) (by kernel_rfl) rfl (by rfl) (fun x hx => by obtain ⟨d0, d1, d2, d3, d4, d5, d6, d7, d8⟩ := HLE.out x hx; go_simp; try with_reducible rfl) (fun x hx => (implGroupsOf x _ XT _ _ fo ((HTX.out x hx).at 1 rfl).see HXOK.out.fit HXOK.out.int).mono ?_)
  rintro e w9 ⟨vv, rfl, hia, hb⟩
  refine ⟨_, rfl, hb, ?_⟩
  have T9 := Shut.mk ((HTX.out x hx).below hb)
  obtain ⟨ba, bc, rfl, -⟩ := hia.crow
  rw [← HGX.out]
  clear hia
  clear hb hx HTX HLE HT
  have HT := T9
  clear T9
  try simp only [Act.put, qA, qB, qC]
  have HTX : Shut (∀ x, Later w9 x → TL w x [(b7, [.slice c7 xn d7, .int .i64 tx]), (b5, [.slice c5 xn d5, .int .i64 tx]), (eb, [.int .i64 7, .string path, .string dest, .int .i64 num, .int .i64 who]), (tb, [.slice ta tn tc, .int .i64 nx])] [(.agg #[.slice c7 xn d7, .int .i64 tx], XT, lo7, hi7), (.agg #[.slice c5 xn d5, .int .i64 tx], XT, lo5, hi5), (.agg #[.slice ta tn tc, .int .i64 nx], T, lo, hi)] []) := ⟨fun x hx => HT.out.below hx⟩
  have HLE : Shut (∀ x, Later w9 x → x.cell? ⟨b5, 0, none⟩ = some (.slice c5 xn d5) ∧ x.cell? ⟨b5, 1, none⟩ = some (.int .i64 tx) ∧ x.cell? ⟨eb, 0, none⟩ = some (.int .i64 7) ∧ x.cell? ⟨eb, 1, none⟩ = some (.string path) ∧ x.cell? ⟨eb, 2, none⟩ = some (.string dest) ∧ x.cell? ⟨eb, 3, none⟩ = some (.int .i64 num) ∧ x.cell? ⟨eb, 4, none⟩ = some (.int .i64 who) ∧ x.cell? ⟨tb, 0, none⟩ = some (.slice ta tn tc) ∧ x.cell? ⟨tb, 1, none⟩ = some (.int .i64 nx)) := ⟨fun x hx => by
   have M := (HTX.out x hx).mb
   exact ⟨((M.at 1 rfl).1.2 0 _ rfl).1, ((M.at 1 rfl).1.2 1 _ rfl).1, ((M.at 2 rfl).1.2 0 _ rfl).1, ((M.at 2 rfl).1.2 1 _ rfl).1, ((M.at 2 rfl).1.2 2 _ rfl).1, ((M.at 2 rfl).1.2 3 _ rfl).1, ((M.at 2 rfl).1.2 4 _ rfl).1, ((M.at 3 rfl).1.2 0 _ rfl).1, ((M.at 3 rfl).1.2 1 _ rfl).1⟩⟩
  refine wpR_val ⟨Later.refl, Later.trans⟩ (i := 12) (v := ?vr52) rfl (by kernel_rfl) (by kernel_rfl) (by kernel_rfl) (fun _ _ _ h => h) (by rfl) ?hyr52 ?restr52
  case hyr52 => (intro x hx; obtain ⟨d0, d1, d2, d3, d4, d5, d6, d7, d8⟩ := HLE.out x hx; go_simp; try with_reducible rfl)
  try simp only [Act.put, qA, qB, qC]
  refine wpR_onecall (f := 25) (args := #[.agg #[.slice ta tn tc, .int .i64 nx], .int .i64 fo]) (i := 15) (by kernel_rfl) rfl (by rfl) (fun x hx => by obtain ⟨d0, d1, d2, d3, d4, d5, d6, d7, d8⟩ := HLE.out x hx; go_simp; try with_reducible rfl) (fun x hx => (specGroupsOf fo ((HTX.out x hx).at 2 rfl).see HOK.out.fit).mono ?_)
  rintro e w10 ⟨vv, rfl, hia, hb⟩
  refine ⟨_, rfl, hb, ?_⟩
  have T9 := Shut.mk ((HTX.out x hx).below hb)
  obtain ⟨ba2, bc2, rfl, -⟩ := hia.crow
  rw [← HGT.out]
  clear hia
  clear hb hx HTX HLE HT
  have HT := T9
  clear T9
  try simp only [Act.put, qA, qB, qC]
  have HTX : Shut (∀ x, Later w10 x → TL w x [(b7, [.slice c7 xn d7, .int .i64 tx]), (b5, [.slice c5 xn d5, .int .i64 tx]), (eb, [.int .i64 7, .string path, .string dest, .int .i64 num, .int .i64 who]), (tb, [.slice ta tn tc, .int .i64 nx])] [(.agg #[.slice c7 xn d7, .int .i64 tx], XT, lo7, hi7), (.agg #[.slice c5 xn d5, .int .i64 tx], XT, lo5, hi5), (.agg #[.slice ta tn tc, .int .i64 nx], T, lo, hi)] []) := ⟨fun x hx => HT.out.below hx⟩
  have HLE : Shut (∀ x, Later w10 x → x.cell? ⟨b5, 0, none⟩ = some (.slice c5 xn d5) ∧ x.cell? ⟨b5, 1, none⟩ = some (.int .i64 tx) ∧ x.cell? ⟨eb, 0, none⟩ = some (.int .i64 7) ∧ x.cell? ⟨eb, 1, none⟩ = some (.string path) ∧ x.cell? ⟨eb, 2, none⟩ = some (.string dest) ∧ x.cell? ⟨eb, 3, none⟩ = some (.int .i64 num) ∧ x.cell? ⟨eb, 4, none⟩ = some (.int .i64 who) ∧ x.cell? ⟨tb, 0, none⟩ = some (.slice ta tn tc) ∧ x.cell? ⟨tb, 1, none⟩ = some (.int .i64 nx)) := ⟨fun x hx => by
   have M := (HTX.out x hx).mb
   exact ⟨((M.at 1 rfl).1.2 0 _ rfl).1, ((M.at 1 rfl).1.2 1 _ rfl).1, ((M.at 2 rfl).1.2 0 _ rfl).1, ((M.at 2 rfl).1.2 1 _ rfl).1, ((M.at 2 rfl).1.2 2 _ rfl).1, ((M.at 2 rfl).1.2 3 _ rfl).1, ((M.at 2 rfl).1.2 4 _ rfl).1, ((M.at 3 rfl).1.2 0 _ rfl).1, ((M.at 3 rfl).1.2 1 _ rfl).1⟩⟩
  refine wpR_val ⟨Later.refl, Later.trans⟩ (i := 16) (v := ?vr53) rfl (by kernel_rfl) (by kernel_rfl) (by kernel_rfl) (fun _ _ _ h => h) (by rfl) ?hyr53 ?restr53
  case hyr53 => (intro x hx; obtain ⟨d0, d1, d2, d3, d4, d5, d6, d7, d8⟩ := HLE.out x hx; go_simp; try with_reducible rfl)
  try simp only [Act.put, qA, qB, qC]
  refine wpR_val ⟨Later.refl, Later.trans⟩ (i := 18) (v := ?vr54) rfl (by kernel_rfl) (by kernel_rfl) (by kernel_rfl) (fun _ _ _ h => h) (by rfl) ?hyr54 ?restr54
  case hyr54 => (intro x hx; obtain ⟨d0, d1, d2, d3, d4, d5, d6, d7, d8⟩ := HLE.out x hx; go_simp; try with_reducible rfl)
  try simp only [Act.put, qA, qB, qC]
  refine wpR_val ⟨Later.refl, Later.trans⟩ (i := 19) (v := ?vr55) rfl (by kernel_rfl) (by kernel_rfl) (by kernel_rfl) (fun _ _ _ h => h) (by rfl) ?hyr55 ?restr55
  case hyr55 => (intro x hx; obtain ⟨d0, d1, d2, d3, d4, d5, d6, d7, d8⟩ := HLE.out x hx; go_simp; try with_reducible rfl)
  try simp only [Act.put, qA, qB, qC]
  refine wpR_val ⟨Later.refl, Later.trans⟩ (i := 20) (v := .bool true) rfl (by kernel_rfl) (by kernel_rfl) (by kernel_rfl) (fun _ _ _ h => h) (by rfl) ?hyr56 ?restr56
  case hyr56 => (intro x hx; obtain ⟨d0, d1, d2, d3, d4, d5, d6, d7, d8⟩ := HLE.out x hx; go_simp; try with_reducible rfl)
  try simp only [Act.put, qA, qB, qC]
  refine wpR_val ⟨Later.refl, Later.trans⟩ (i := 21) (v := ?vr57) rfl (by kernel_rfl) (by kernel_rfl) (by kernel_rfl) (fun _ _ _ h => h) (by rfl) ?hyr57 ?restr57
  case hyr57 => (intro x hx; obtain ⟨d0, d1, d2, d3, d4, d5, d6, d7, d8⟩ := HLE.out x hx; go_simp; try with_reducible rfl)
  try simp only [Act.put, qA, qB, qC]
  refine wpR_val ⟨Later.refl, Later.trans⟩ (i := 22) (v := ?vr58) rfl (by kernel_rfl) (by kernel_rfl) (by kernel_rfl) (fun _ _ _ h => h) (by rfl) ?hyr58 ?restr58
  case hyr58 => (intro x hx; obtain ⟨d0, d1, d2, d3, d4, d5, d6, d7, d8⟩ := HLE.out x hx; go_simp; try with_reducible rfl)
  try simp only [Act.put, qA, qB, qC]
  refine wpR_done (by kernel_rfl) ?_ _
  intro w11 hy9
  have T9 := Shut.mk (HTX.out w11 hy9)
  clear hy9 HTX HLE HT
  have HT := T9
  clear T9
  go_wp2_with fail
  go_ret
  exact ⟨rfl, HT.out.bel⟩
 obtain ⟨f1, f2⟩ := HKZ.out rfl k1 k2 k3 k4 k7
 rw [← HXN.out.1, ← HTN.out.1] at f1
 have hl : ((xn : Int) == (tn : Int)) = true := by simp [f1]
 have kb1 : (kind == 1) = false := by simpa using k1
 have kb2 : (kind == 2) = false := by simpa using k2
 have kb3 : (kind == 3) = false := by simpa using k3
 have kb4 : (kind == 4) = false := by simpa using k4
 have kb7 : (kind == 7) = false := by simpa using k7
 obtain ⟨ut, hut⟩ : ∃ u, u = usedX T 1 := ⟨_, rfl⟩
 have HUT := Shut.mk hut
 rw [← hut] at f2
 have HUX := Shut.mk f2
 have huu : (ut == ut) = true := by simp
 clear hut f2 f1
 have b50 := ((HT.out.mb.at 1 rfl).1.2 0 _ rfl).1
 have b51 := ((HT.out.mb.at 1 rfl).1.2 1 _ rfl).1
 have eb0 := ((HT.out.mb.at 2 rfl).1.2 0 _ rfl).1
 have eb1 := ((HT.out.mb.at 2 rfl).1.2 1 _ rfl).1
 have eb2 := ((HT.out.mb.at 2 rfl).1.2 2 _ rfl).1
 have eb3 := ((HT.out.mb.at 2 rfl).1.2 3 _ rfl).1
 have eb4 := ((HT.out.mb.at 2 rfl).1.2 4 _ rfl).1
 go_upto_region 12 with (go_at_call 19; refine (implFindPath _ _ XT _ _ path (HT.out.at 1 rfl).see HXOK.out.fit HXOK.out.int HXOK.out.nz HPS.out).mono ?_; rintro e w8 ⟨rfl, hb⟩; replace HT := Shut.mk (HT.out.below hb); clear hb b50 b51 eb0 eb1 eb2 eb3 eb4)
 have eb0 := ((HT.out.mb.at 2 rfl).1.2 0 _ rfl).1
 have eb1 := ((HT.out.mb.at 2 rfl).1.2 1 _ rfl).1
 have eb2 := ((HT.out.mb.at 2 rfl).1.2 2 _ rfl).1
 have eb3 := ((HT.out.mb.at 2 rfl).1.2 3 _ rfl).1
 have eb4 := ((HT.out.mb.at 2 rfl).1.2 4 _ rfl).1
 go_upto_region 22 with fail
 clear eb0 eb1 eb2 eb3 eb4
 refine wp_region_R Later ⟨Later.refl, Later.trans⟩ (by kernel_rfl) ?_
 have HTX : Shut (∀ x, Later w8.drew x → TL w x [(b7, [.slice c7 xn d7, .int .i64 tx]), (b5, [.slice c5 xn d5, .int .i64 tx]), (eb, [.int .i64 kind, .string path, .string dest, .int .i64 num, .int .i64 who]), (tb, [.slice ta tn tc, .int .i64 nx])] [(.agg #[.slice c7 xn d7, .int .i64 tx], XT, lo7, hi7), (.agg #[.slice c5 xn d5, .int .i64 tx], XT, lo5, hi5), (.agg #[.slice ta tn tc, .int .i64 nx], T, lo, hi)] []) := ⟨fun x hx => HT.out.below (Below.trans (Below.drew (Below.refl _ _)) hx)⟩
 have HLE : Shut (∀ x, Later w8.drew x → x.cell? ⟨b5, 0, none⟩ = some (.slice c5 xn d5) ∧ x.cell? ⟨b5, 1, none⟩ = some (.int .i64 tx) ∧ x.cell? ⟨eb, 0, none⟩ = some (.int .i64 kind) ∧ x.cell? ⟨eb, 1, none⟩ = some (.string path) ∧ x.cell? ⟨eb, 2, none⟩ = some (.string dest) ∧ x.cell? ⟨eb, 3, none⟩ = some (.int .i64 num) ∧ x.cell? ⟨eb, 4, none⟩ = some (.int .i64 who) ∧ x.cell? ⟨tb, 0, none⟩ = some (.slice ta tn tc) ∧ x.cell? ⟨tb, 1, none⟩ = some (.int .i64 nx)) := ⟨fun x hx => by
  have M := (HTX.out x hx).mb
  exact ⟨((M.at 1 rfl).1.2 0 _ rfl).1, ((M.at 1 rfl).1.2 1 _ rfl).1, ((M.at 2 rfl).1.2 0 _ rfl).1, ((M.at 2 rfl).1.2 1 _ rfl).1, ((M.at 2 rfl).1.2 2 _ rfl).1, ((M.at 2 rfl).1.2 3 _ rfl).1, ((M.at 2 rfl).1.2 4 _ rfl).1, ((M.at 3 rfl).1.2 0 _ rfl).1, ((M.at 3 rfl).1.2 1 _ rfl).1⟩⟩
 refine wpR_val ⟨Later.refl, Later.trans⟩ (i := 0) (v := ?vr59) rfl (by kernel_rfl) (by kernel_rfl) (by kernel_rfl) (fun _ _ _ h => h) (by rfl) ?hyr59 ?restr59
 case hyr59 => (intro x hx; obtain ⟨d0, d1, d2, d3, d4, d5, d6, d7, d8⟩ := HLE.out x hx; go_simp; try with_reducible rfl)
 try simp only [Act.put, qA, qB, qC]
 refine wpR_val ⟨Later.refl, Later.trans⟩ (i := 1) (v := ?vr60) rfl (by kernel_rfl) (by kernel_rfl) (by kernel_rfl) (fun _ _ _ h => h) (by rfl) ?hyr60 ?restr60
 case hyr60 => (intro x hx; obtain ⟨d0, d1, d2, d3, d4, d5, d6, d7, d8⟩ := HLE.out x hx; go_simp; try with_reducible rfl)
 try simp only [Act.put, qA, qB, qC]
 refine wpR_val ⟨Later.refl, Later.trans⟩ (i := 2) (v := ?vr61) rfl (by kernel_rfl) (by kernel_rfl) (by kernel_rfl) (fun _ _ _ h => h) (by rfl) ?hyr61 ?restr61
 case hyr61 => (intro x hx; obtain ⟨d0, d1, d2, d3, d4, d5, d6, d7, d8⟩ := HLE.out x hx; go_simp; try with_reducible rfl)
 try simp only [Act.put, qA, qB, qC]
 refine wpR_val ⟨Later.refl, Later.trans⟩ (i := 3) (v := ?vr62) rfl (by kernel_rfl) (by kernel_rfl) (by kernel_rfl) (fun _ _ _ h => h) (by rfl) ?hyr62 ?restr62
 case hyr62 => (intro x hx; obtain ⟨d0, d1, d2, d3, d4, d5, d6, d7, d8⟩ := HLE.out x hx; go_simp; try with_reducible rfl)
 try simp only [Act.put, qA, qB, qC]
 refine wpR_val ⟨Later.refl, Later.trans⟩ (i := 4) (v := ?vr63) rfl (by kernel_rfl) (by kernel_rfl) (by kernel_rfl) (fun _ _ _ h => h) (by rfl) ?hyr63 ?restr63
 case hyr63 => (intro x hx; obtain ⟨d0, d1, d2, d3, d4, d5, d6, d7, d8⟩ := HLE.out x hx; go_simp; try with_reducible rfl)
 try simp only [Act.put, qA, qB, qC]
 refine wpR_val ⟨Later.refl, Later.trans⟩ (i := 5) (v := ?vr64) rfl (by kernel_rfl) (by kernel_rfl) (by kernel_rfl) (fun _ _ _ h => h) (by rfl) ?hyr64 ?restr64
 case hyr64 => (intro x hx; obtain ⟨d0, d1, d2, d3, d4, d5, d6, d7, d8⟩ := HLE.out x hx; go_simp; try with_reducible rfl)
 try simp only [Act.put, qA, qB, qC]
 refine wpR_val ⟨Later.refl, Later.trans⟩ (i := 6) (v := .bool true) rfl (by kernel_rfl) (by kernel_rfl) (by kernel_rfl) (fun _ _ _ h => h) (by rfl) ?hyr65 ?restr65
 case hyr65 => (intro x hx; obtain ⟨d0, d1, d2, d3, d4, d5, d6, d7, d8⟩ := HLE.out x hx; go_simp; try with_reducible rfl)
 try simp only [Act.put, qA, qB, qC]
 refine wpR_val ⟨Later.refl, Later.trans⟩ (i := 7) (v := .bool true) rfl (by kernel_rfl) (by kernel_rfl) (by kernel_rfl) (fun _ _ _ h => h) (by rfl) ?hyr66 ?restr66
 case hyr66 => (intro x hx; obtain ⟨d0, d1, d2, d3, d4, d5, d6, d7, d8⟩ := HLE.out x hx; go_simp; try with_reducible rfl)
 try simp only [Act.put, qA, qB, qC]
 refine wpR_val ⟨Later.refl, Later.trans⟩ (i := 8) (v := ?vr67) rfl (by kernel_rfl) (by kernel_rfl) (by kernel_rfl) (fun _ _ _ h => h) (by rfl) ?hyr67 ?restr67
 case hyr67 => (intro x hx; obtain ⟨d0, d1, d2, d3, d4, d5, d6, d7, d8⟩ := HLE.out x hx; go_simp; try with_reducible rfl)
 try simp only [Act.put, qA, qB, qC]
 refine wpR_call ⟨Later.refl, Later.trans⟩ (i := 9) (v := .int .i64 ut) (f := 23) (args := #[.agg #[.slice c5 xn d5, .int .i64 tx], .int .i64 1]) rfl (by kernel_rfl) (by kernel_rfl) (by kernel_rfl) (fun _ _ _ h => h) (by rfl) (fun x hx => by obtain ⟨d0, d1, d2, d3, d4, d5, d6, d7, d8⟩ := HLE.out x hx; go_simp; try with_reducible rfl) (fun x hx => (by have q := specUsedBelow 1 ((HTX.out x hx).at 1 rfl).see HXOK.out.fit; rwa [HUX.out] at q)) ?_
 try simp only [Act.put, qA, qB, qC]
 refine wpR_val ⟨Later.refl, Later.trans⟩ (i := 10) (v := ?vr68) rfl (by kernel_rfl) (by kernel_rfl) (by kernel_rfl) (fun _ _ _ h => h) (by rfl) ?hyr68 ?restr68
 case hyr68 => (intro x hx; obtain ⟨d0, d1, d2, d3, d4, d5, d6, d7, d8⟩ := HLE.out x hx; go_simp; try with_reducible rfl)
 try simp only [Act.put, qA, qB, qC]
 refine wpR_call ⟨Later.refl, Later.trans⟩ (i := 11) (v := .int .i64 ut) (f := 23) (args := #[.agg #[.slice ta tn tc, .int .i64 nx], .int .i64 1]) rfl (by kernel_rfl) (by kernel_rfl) (by kernel_rfl) (fun _ _ _ h => h) (by rfl) (fun x hx => by obtain ⟨d0, d1, d2, d3, d4, d5, d6, d7, d8⟩ := HLE.out x hx; go_simp; try with_reducible rfl) (fun x hx => (by have q := specUsedBelow 1 ((HTX.out x hx).at 2 rfl).see HOK.out.fit; rwa [← HUT.out] at q)) ?_
 try simp only [Act.put, qA, qB, qC]
 refine wpR_val ⟨Later.refl, Later.trans⟩ (i := 12) (v := .bool true) rfl (by kernel_rfl) (by kernel_rfl) (by kernel_rfl) (fun _ _ _ h => h) (by rfl) ?hyr69 ?restr69
 case hyr69 => (intro x hx; obtain ⟨d0, d1, d2, d3, d4, d5, d6, d7, d8⟩ := HLE.out x hx; go_simp; try with_reducible rfl)
 try simp only [Act.put, qA, qB, qC]
 refine wpR_val ⟨Later.refl, Later.trans⟩ (i := 13) (v := .bool true) rfl (by kernel_rfl) (by kernel_rfl) (by kernel_rfl) (fun _ _ _ h => h) (by rfl) ?hyr70 ?restr70
 case hyr70 => (intro x hx; obtain ⟨d0, d1, d2, d3, d4, d5, d6, d7, d8⟩ := HLE.out x hx; go_simp; try with_reducible rfl)
 try simp only [Act.put, qA, qB, qC]
 refine wpR_val ⟨Later.refl, Later.trans⟩ (i := 14) (v := ?vr71) rfl (by kernel_rfl) (by kernel_rfl) (by kernel_rfl) (fun _ _ _ h => h) (by rfl) ?hyr71 ?restr71
 case hyr71 => (intro x hx; obtain ⟨d0, d1, d2, d3, d4, d5, d6, d7, d8⟩ := HLE.out x hx; go_simp; try with_reducible rfl)
 try simp only [Act.put, qA, qB, qC]
 refine wpR_done (by kernel_rfl) ?_ _
 intro w9 hy9
 have T9 := Shut.mk (HTX.out w9 hy9)
 clear hy9 HTX HLE HT
 have HT := T9
 clear T9
 go_wp2_with fail
 go_ret
 exact ⟨rfl, HT.out.bel⟩
end Go.Proofs.YtakhagkhngmpaaaGreat
