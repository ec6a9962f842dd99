/- Marks that are laid into trees (written by gen/mktreh.py). -/
import Derived.Test.YtendbipfmgnjkaaTreG
import Derived.Deep.CutRange
namespace Go.Proofs.Ytendbipfmgnjkaa
set_option maxRecDepth 100000
open Go.RowKit
attribute [local go_sem ↓] Go.wp_at_zero Go.wp_at_succ

theorem markPieceS_none (a : Option Addr) (k ca : Nat) (w : World) : Calls Try.prog 97 #[.slice a 0 ca, .int .i64 k] w fun e w' => e = .returned (.int .i64 k) ∧ w' = w := by
  go_enter Try.func97, Try.ntmps97
  go_wp2_with fail
  go_rounds 1
  go_ret
  exact ⟨rfl, rfl⟩
theorem markPs_at (k n j : Nat) (h : j < n) : (markPs k n)[j]'(by rw [markPs_len]; exact h) = ⟨((k + 2 * j : Nat) : Int), ((k + 2 * j + 1 : Nat) : Int)⟩ := by simp [markPs]
set_option maxHeartbeats 1000000 in
theorem markPieceS_any (g : Nat) (ps : List PM) (k ca : Nat) (w : World) (ha : WCells w g (pcs ps)) (hn : k + 2 * ps.length ≤ 1000000000) :
    Calls Try.prog 97 #[.slice (some ⟨g, 0, none⟩) ps.length ca, .int .i64 k] w fun e w' => e = .returned (.int .i64 (k + 2 * ps.length : Nat)) ∧ WCells w' g (pcs (markPs k ps.length)) ∧ w.grownBy w' (some g) := by
  obtain ⟨n, hnx⟩ : ∃ n, n = ps.length := ⟨_, rfl⟩
  have HN := Shut.mk hnx
  rw [← hnx] at hn ⊢
  have HA := Shut.mk ha
  clear hnx ha
  go_enter Try.func97, Try.ntmps97
  go_wp2_with fail
  go_loopw [1, 5] (fun c i wr => ∃ (j cc : Nat) (gs : List PM), i = .int .i64 j ∧ c = .int .i64 cc ∧ cc ≤ 1000000000 ∧ j ≤ n ∧ Shut (cc = k + 2 * j ∧ gs.length = n ∧ gs.take j = (markPs k n).take j) ∧ Shut (WCells wr g (pcs gs)) ∧ Shut (w.grownBy wr (some g))) (fun _ i _ => n - (intOf i).toNat)
  case atStart => exact ⟨0, k, ps, rfl, rfl, by omega, Nat.zero_le _, ⟨rfl, HN.out.symm, rfl⟩, HA, ⟨⟨rfl, rfl, rfl, Nat.le_refl _, fun _ _ _ => rfl⟩⟩⟩
  case round =>
    clear HA
    obtain ⟨j, c, gs, rfl, rfl, hc9, hj, HG, hw, hgr⟩ := hrel
    by_cases hlt : j < n
    · have j0 : (0 : Int) ≤ (j : Int) := by omega
      have j1 : (j : Int) < (n : Int) := by omega
      have hgk : j < gs.length := by have := HG.out.2.1; omega
      obtain ⟨c1, e1⟩ : ∃ c1, c1 = c + 1 := ⟨_, rfl⟩
      obtain ⟨c2, e2⟩ : ∃ c2, c2 = c + 2 := ⟨_, rfl⟩
      have HC := Shut.mk (And.intro e1 e2)
      have i1 : (c : Int) + 1 = (c1 : Int) := by omega
      have i2 : (c1 : Int) + 1 = (c2 : Int) := by omega
      have hb1 : c1 ≤ 1000000001 := by omega
      have hb2 : c2 ≤ 1000000000 := by have := HG.out.1; omega
      obtain ⟨x0, z0⟩ := hw.out.2 (j * 2) _ (flat_get pcells_len gs j hgk 0 (by omega))
      obtain ⟨x1, z1⟩ := hw.out.2 (j * 2 + 1) _ (flat_get pcells_len gs j hgk 1 (by omega))
      have HS := Shut.mk (hw.out.setElem pcells_len j hgk ⟨(c : Int), (c1 : Int)⟩)
      have HGR := Shut.mk (gb_two' (gb_two' hgr.out (gb_set' wr g (j * 2) (.int .i64 (c : Int)))) (gb_set' _ g (j * 2 + 1) (.int .i64 (c1 : Int))))
      clear e1 e2 hw hgr
      go_wp2_with fail
      go_roundw
      case rel =>
        refine ⟨j + 1, c2, gs.set j ⟨(c : Int), (c1 : Int)⟩, by go_num, rfl, hb2, by omega, ⟨by have := HG.out.1; have := HC.out.2; omega, by rw [List.length_set]; exact HG.out.2.1, ?_⟩, HS, HGR⟩
        have hjm : j < (markPs k n).length := by rw [markPs_len]; exact hlt
        rw [List.take_succ_eq_append_getElem (by rw [List.length_set]; exact hgk), List.take_succ_eq_append_getElem hjm, List.take_set_of_le (Nat.le_refl _), HG.out.2.2, List.getElem_set_self, markPs_at k n j hlt]
        have h1 := HG.out.1
        have h2 := HC.out.1
        rw [h2, h1]
      case measure => simp [intOf]; omega
    · have e : gs = markPs k n := by
        have h := HG.out.2.2
        rw [List.take_of_length_le (by have := HG.out.2.1; omega), List.take_of_length_le (by rw [markPs_len]; omega)] at h; exact h
      have hjn : j = n := by omega
      have HF : Shut (WCells wr g (pcs (markPs k n))) := ⟨by rw [← e]; exact hw.out⟩
      have HE : Shut (c = k + 2 * n) := ⟨by have := HG.out.1; omega⟩
      have hlt' : ¬ (j : Int) < (n : Int) := by omega
      clear e hjn hw HG
      go_wp2_with fail
      go_ret
      exact ⟨congrArg (fun x : Int => Ending.returned (.int .i64 x)) (show (c : Int) = _ by have := HE.out; omega), HF.out, hgr.out⟩
/-- What the marks leave of a row of nodes. -/
def MarkNodes (g k : Nat) (rs : List NR) (lo hi : Nat) (w : World) (e : Ending) (w' : World) : Prop := e = .returned (.int .i64 (markK k (nds rs) : Nat)) ∧ TW w' g (markRs k rs) lo hi ∧ Turned w w' lo hi
theorem dir_is (c : Nat) : ((c : Int) % 3 == 0) = markDir c := by
  unfold markDir
  rw [Bool.eq_iff_iff]
  simp only [beq_iff_eq, decide_eq_true_eq]
  omega
theorem dir_is' (c : Nat) : ((c : Int).tmod 3 == 0) = markDir c := by rw [Int.tmod_eq_emod_of_nonneg (by omega)]; exact dir_is c
set_option maxRecDepth 100000 in
set_option maxHeartbeats 8000000 in
theorem markInodeS_any (g : Nat) (rs : List NR) (k ca : Nat) (w : World) (lo hi : Nat) (hm : TW w g rs lo hi) (hk : 1 ≤ k) (hn : markK k (nds rs) ≤ 50000000) :
    Calls Try.prog 82 #[.slice (some ⟨g, 0, none⟩) rs.length ca, .int .i64 k] w fun e w' => MarkNodes g k rs lo hi w e w' := by
  obtain ⟨n, hnx⟩ : ∃ n, n = rs.length := ⟨_, rfl⟩
  have HN := Shut.mk hnx
  have HK := Shut.mk hn
  have hn9 : n ≤ 50000000 := by
    have := markK_low k (nds rs)
    rw [nds_len] at this
    omega
  have hglo := hm.glo
  have hghi := hm.ghi
  rw [← hnx]
  have HA := Shut.mk hm
  clear hnx hm hn
  go_enter Try.func82, Try.ntmps82
  go_wp2_with fail
  go_loopw [1, 5] (fun cv iv wr => ∃ (i c : Nat) (ts : List NR), iv = .int .i64 i ∧ cv = .int .i64 c ∧ c ≤ 50000000 ∧ 1 ≤ c ∧ i ≤ n ∧ Shut (c = markK k (nds (rs.take i)) ∧ ts = markRs k (rs.take i) ++ rs.drop i) ∧ Shut (TW wr g ts lo hi ∧ Turned w wr lo hi)) (fun _ iv _ => n - (intOf iv).toNat)
  case atStart => exact ⟨0, k, rs, rfl, rfl, by have := HK.out; have := (markK_le k (nds rs)).1; omega, hk, Nat.zero_le _, ⟨rfl, by simp [markRs]⟩, ⟨HA.out, Turned.refl _ _ _⟩⟩
  case round =>
    clear HA
    obtain ⟨i, c, ts, rfl, rfl, hc9, hc1, hin, HG, HT⟩ := hrel
    by_cases hlt : i < n
    · have j0 : (0 : Int) ≤ (i : Int) := by omega
      have j1 : (i : Int) < (n : Int) := by omega
      have hlr : i < rs.length := by have := HN.out; omega
      have hml : (markRs k (rs.take i)).length = i := by rw [markRs_len, List.length_take]; omega
      have htl : ts.length = n := by rw [HG.out.2, List.length_append, hml, List.length_drop, HN.out]; omega
      have hits : i < ts.length := by omega
      have hat : ts[i] = rs[i] := by
        simp only [HG.out.2]
        rw [List.getElem_append_right (by omega)]
        simp only [hml, Nat.sub_self, List.getElem_drop, Nat.add_zero]
      have hset : ts = ts.set i rs[i] := by rw [← hat, List.set_getElem_self]
      have hnext : markRs k (rs.take (i + 1)) ++ rs.drop (i + 1) = ts.set i ⟨markN c rs[i].nd.pieces.length, rs[i].loc, rs[i].cap⟩ := by
        rw [List.take_succ_eq_append_getElem hlr, markRs_snoc, HG.out.2, ← HG.out.1, List.append_assoc, List.set_append, if_neg (by omega)]
        congr 1
        rw [hml, Nat.sub_self, List.drop_eq_getElem_cons hlr]
        rfl
      have hck : markK k (nds (rs.take (i + 1))) = c + 8 + 2 * rs[i].nd.pieces.length := by rw [List.take_succ_eq_append_getElem hlr, nds_snoc, markK_snoc, ← HG.out.1]
      have hcb : markK k (nds (rs.take (i + 1))) ≤ 50000000 := by
        have := markK_part k (nds rs) (i + 1)
        have e : (nds rs).take (i + 1) = nds (rs.take (i + 1)) := by unfold nds; rw [List.map_take]
        rw [e] at this
        have := HK.out
        omega
      rcases hr : rs[i] with ⟨⟨id, parent, name, dir, schema, quota, len, pieces, writer⟩, loc, cap⟩
      rw [hr] at hat hset hnext hck
      dsimp only at hnext hck
      obtain ⟨np, hnp⟩ : ∃ np, np = pieces.length := ⟨_, rfl⟩
      rw [← hnp] at hnext hck
      rw [hset] at HT
      obtain ⟨c1, e1⟩ : ∃ c1, c1 = c + 1 := ⟨_, rfl⟩
      obtain ⟨c2, e2⟩ : ∃ c2, c2 = c + 2 := ⟨_, rfl⟩
      obtain ⟨c3, e3⟩ : ∃ c3, c3 = c + 3 := ⟨_, rfl⟩
      obtain ⟨c4, e4⟩ : ∃ c4, c4 = c + 4 := ⟨_, rfl⟩
      obtain ⟨c5, e5⟩ : ∃ c5, c5 = c + 5 := ⟨_, rfl⟩
      obtain ⟨c6, e6⟩ : ∃ c6, c6 = c + 6 := ⟨_, rfl⟩
      obtain ⟨c7, e7'⟩ : ∃ c7, c7 = c + 7 := ⟨_, rfl⟩
      obtain ⟨e7, h7⟩ : ∃ e7, e7 = c + 7 + 2 * np := ⟨_, rfl⟩
      obtain ⟨e8, h8⟩ : ∃ e8, e8 = c + 8 + 2 * np := ⟨_, rfl⟩
      have i1 : (c : Int) + 1 = (c1 : Int) := by omega
      have i2 : (c1 : Int) + 1 = (c2 : Int) := by omega
      have i3 : (c2 : Int) + 1 = (c3 : Int) := by omega
      have i4 : (c3 : Int) + 1 = (c4 : Int) := by omega
      have i5 : (c4 : Int) + 1 = (c5 : Int) := by omega
      have i6 : (c5 : Int) + 1 = (c6 : Int) := by omega
      have i7 : (c6 : Int) + 1 = (c7 : Int) := by omega
      have i8 : (e7 : Int) + 1 = (e8 : Int) := by omega
      have q1 : c1 ≤ 60000000 := by omega
      have q2 : c2 ≤ 60000000 := by omega
      have q3 : c3 ≤ 60000000 := by omega
      have q4 : c4 ≤ 60000000 := by omega
      have q5 : c5 ≤ 60000000 := by omega
      have q6 : c6 ≤ 60000000 := by omega
      have q7 : c7 ≤ 60000000 := by omega
      have q8 : e7 ≤ 60000000 := by omega
      have q9 : e8 ≤ 50000000 := by omega
      have HMT := Shut.mk (fun W => markText_any c2 W (by omega) (by omega))
      have HNX : Shut (e8 = markK k (nds (rs.take (i + 1))) ∧ ts.set i ⟨⟨(c : Int), (c1 : Int), mt c2, markDir c3, (c4 : Int), (c5 : Int), (c6 : Int), markPs c7 np, (e7 : Int)⟩, loc, cap⟩ = markRs k (rs.take (i + 1)) ++ rs.drop (i + 1)) := ⟨by omega, by rw [hnext]; unfold markN; rw [e1, e2, e3, e4, e5, e6, e7', h7]⟩
      have hd1 := dir_is c3
      have hd2 := dir_is' c3
      have HE7 := Shut.mk (show e7 = c7 + 2 * np by omega)
      generalize mt c2 = T2 at *
      generalize markDir c3 = D3 at *
      have HNP := Shut.mk hnp
      clear hat hset hnext hck hcb hr htl hml e1 e2 e3 e4 e5 e6 e7' h7 h8 hnp HG
      obtain ⟨x0, z0⟩ := HT.out.1.out.2 (i * 9 + 0) _ (by rw [NKind.cells_get _ i (by rw [List.length_set]; exact hits) 0 (by decide), List.getElem_set_self]; rfl)
      rw [Nat.add_zero] at x0 z0
      go_upto_region 5 with fail
      refine wp_shade (fun W => TW W g (ts.set i (⟨⟨((c : Nat) : Int), parent, name, dir, schema, quota, len, pieces, writer⟩, loc, cap⟩ : NR)) lo hi ∧ Turned w W lo hi) ⟨by
        have q := HT.out.1.cell' i (by rw [List.length_set]; exact hits) (⟨⟨id, parent, name, dir, schema, quota, len, pieces, writer⟩, loc, cap⟩ : NR) (List.getElem_set_self _) 0 (by decide) (⟨⟨((c : Nat) : Int), parent, name, dir, schema, quota, len, pieces, writer⟩, loc, cap⟩ : NR) (.int .i64 (c : Int)) rfl (fun q hq hne => match q, hq, hne with | 0, _, h => absurd rfl h | 1, _, _ => rfl | 2, _, _ => rfl | 3, _, _ => rfl | 4, _, _ => rfl | 5, _, _ => rfl | 6, _, _ => rfl | 7, _, _ => rfl | 8, _, _ => rfl | x + 9, h, _ => absurd h (by omega)) rfl rfl
        rw [List.set_set] at q
        exact q, HT.out.2.trans (Turned.of_grown (gb_set' _ _ _ _) hglo hghi)⟩ ?_
      clear HT x0 z0
      rintro Wid ⟨ht, htu⟩
      have HT := Shut.mk (And.intro ht htu)
      clear ht htu
      obtain ⟨x1, z1⟩ := HT.out.1.out.2 (i * 9 + 1) _ (by rw [NKind.cells_get _ i (by rw [List.length_set]; exact hits) 1 (by decide), List.getElem_set_self]; rfl)
      go_upto_region 7 with fail
      refine wp_shade (fun W => TW W g (ts.set i (⟨⟨((c : Nat) : Int), ((c1 : Nat) : Int), name, dir, schema, quota, len, pieces, writer⟩, loc, cap⟩ : NR)) lo hi ∧ Turned w W lo hi) ⟨by
        have q := HT.out.1.cell' i (by rw [List.length_set]; exact hits) (⟨⟨((c : Nat) : Int), parent, name, dir, schema, quota, len, pieces, writer⟩, loc, cap⟩ : NR) (List.getElem_set_self _) 1 (by decide) (⟨⟨((c : Nat) : Int), ((c1 : Nat) : Int), name, dir, schema, quota, len, pieces, writer⟩, loc, cap⟩ : NR) (.int .i64 (c1 : Int)) rfl (fun q hq hne => match q, hq, hne with | 0, _, _ => rfl | 1, _, h => absurd rfl h | 2, _, _ => rfl | 3, _, _ => rfl | 4, _, _ => rfl | 5, _, _ => rfl | 6, _, _ => rfl | 7, _, _ => rfl | 8, _, _ => rfl | x + 9, h, _ => absurd h (by omega)) rfl rfl
        rw [List.set_set] at q
        exact q, HT.out.2.trans (Turned.of_grown (gb_set' _ _ _ _) hglo hghi)⟩ ?_
      clear HT x1 z1
      rintro Wparent ⟨ht, htu⟩
      have HT := Shut.mk (And.intro ht htu)
      clear ht htu
      go_wp2_with fail
      refine (HMT.out _).mono ?_
      rintro e wn ⟨rfl, hbn⟩
      replace HT := Shut.mk (show TW wn g (ts.set i (⟨⟨((c : Nat) : Int), ((c1 : Nat) : Int), name, dir, schema, quota, len, pieces, writer⟩, loc, cap⟩ : NR)) lo hi ∧ Turned w wn lo hi from ⟨HT.out.1.below hbn, HT.out.2.trans (Turned.of_below hbn lo hi)⟩)
      clear hbn
      obtain ⟨x2, z2⟩ := HT.out.1.out.2 (i * 9 + 2) _ (by rw [NKind.cells_get _ i (by rw [List.length_set]; exact hits) 2 (by decide), List.getElem_set_self]; rfl)
      go_upto_region 9 with fail
      refine wp_shade (fun W => TW W g (ts.set i (⟨⟨((c : Nat) : Int), ((c1 : Nat) : Int), T2, dir, schema, quota, len, pieces, writer⟩, loc, cap⟩ : NR)) lo hi ∧ Turned w W lo hi) ⟨by
        have q := HT.out.1.cell' i (by rw [List.length_set]; exact hits) (⟨⟨((c : Nat) : Int), ((c1 : Nat) : Int), name, dir, schema, quota, len, pieces, writer⟩, loc, cap⟩ : NR) (List.getElem_set_self _) 2 (by decide) (⟨⟨((c : Nat) : Int), ((c1 : Nat) : Int), T2, dir, schema, quota, len, pieces, writer⟩, loc, cap⟩ : NR) (.string T2) rfl (fun q hq hne => match q, hq, hne with | 0, _, _ => rfl | 1, _, _ => rfl | 2, _, h => absurd rfl h | 3, _, _ => rfl | 4, _, _ => rfl | 5, _, _ => rfl | 6, _, _ => rfl | 7, _, _ => rfl | 8, _, _ => rfl | x + 9, h, _ => absurd h (by omega)) rfl rfl
        rw [List.set_set] at q
        exact q, HT.out.2.trans (Turned.of_grown (gb_set' _ _ _ _) hglo hghi)⟩ ?_
      clear HT x2 z2
      rintro Wname ⟨ht, htu⟩
      have HT := Shut.mk (And.intro ht htu)
      clear ht htu
      obtain ⟨x3, z3⟩ := HT.out.1.out.2 (i * 9 + 3) _ (by rw [NKind.cells_get _ i (by rw [List.length_set]; exact hits) 3 (by decide), List.getElem_set_self]; rfl)
      go_upto_region 11 with fail
      refine wp_shade (fun W => TW W g (ts.set i (⟨⟨((c : Nat) : Int), ((c1 : Nat) : Int), T2, D3, schema, quota, len, pieces, writer⟩, loc, cap⟩ : NR)) lo hi ∧ Turned w W lo hi) ⟨by
        have q := HT.out.1.cell' i (by rw [List.length_set]; exact hits) (⟨⟨((c : Nat) : Int), ((c1 : Nat) : Int), T2, dir, schema, quota, len, pieces, writer⟩, loc, cap⟩ : NR) (List.getElem_set_self _) 3 (by decide) (⟨⟨((c : Nat) : Int), ((c1 : Nat) : Int), T2, D3, schema, quota, len, pieces, writer⟩, loc, cap⟩ : NR) (.bool D3) rfl (fun q hq hne => match q, hq, hne with | 0, _, _ => rfl | 1, _, _ => rfl | 2, _, _ => rfl | 3, _, h => absurd rfl h | 4, _, _ => rfl | 5, _, _ => rfl | 6, _, _ => rfl | 7, _, _ => rfl | 8, _, _ => rfl | x + 9, h, _ => absurd h (by omega)) rfl rfl
        rw [List.set_set] at q
        exact q, HT.out.2.trans (Turned.of_grown (gb_set' _ _ _ _) hglo hghi)⟩ ?_
      clear HT x3 z3
      rintro Wdir ⟨ht, htu⟩
      have HT := Shut.mk (And.intro ht htu)
      clear ht htu
      obtain ⟨x4, z4⟩ := HT.out.1.out.2 (i * 9 + 4) _ (by rw [NKind.cells_get _ i (by rw [List.length_set]; exact hits) 4 (by decide), List.getElem_set_self]; rfl)
      go_upto_region 13 with fail
      refine wp_shade (fun W => TW W g (ts.set i (⟨⟨((c : Nat) : Int), ((c1 : Nat) : Int), T2, D3, ((c4 : Nat) : Int), quota, len, pieces, writer⟩, loc, cap⟩ : NR)) lo hi ∧ Turned w W lo hi) ⟨by
        have q := HT.out.1.cell' i (by rw [List.length_set]; exact hits) (⟨⟨((c : Nat) : Int), ((c1 : Nat) : Int), T2, D3, schema, quota, len, pieces, writer⟩, loc, cap⟩ : NR) (List.getElem_set_self _) 4 (by decide) (⟨⟨((c : Nat) : Int), ((c1 : Nat) : Int), T2, D3, ((c4 : Nat) : Int), quota, len, pieces, writer⟩, loc, cap⟩ : NR) (.int .i64 (c4 : Int)) rfl (fun q hq hne => match q, hq, hne with | 0, _, _ => rfl | 1, _, _ => rfl | 2, _, _ => rfl | 3, _, _ => rfl | 4, _, h => absurd rfl h | 5, _, _ => rfl | 6, _, _ => rfl | 7, _, _ => rfl | 8, _, _ => rfl | x + 9, h, _ => absurd h (by omega)) rfl rfl
        rw [List.set_set] at q
        exact q, HT.out.2.trans (Turned.of_grown (gb_set' _ _ _ _) hglo hghi)⟩ ?_
      clear HT x4 z4
      rintro Wschema ⟨ht, htu⟩
      have HT := Shut.mk (And.intro ht htu)
      clear ht htu
      obtain ⟨x5, z5⟩ := HT.out.1.out.2 (i * 9 + 5) _ (by rw [NKind.cells_get _ i (by rw [List.length_set]; exact hits) 5 (by decide), List.getElem_set_self]; rfl)
      go_upto_region 15 with fail
      refine wp_shade (fun W => TW W g (ts.set i (⟨⟨((c : Nat) : Int), ((c1 : Nat) : Int), T2, D3, ((c4 : Nat) : Int), ((c5 : Nat) : Int), len, pieces, writer⟩, loc, cap⟩ : NR)) lo hi ∧ Turned w W lo hi) ⟨by
        have q := HT.out.1.cell' i (by rw [List.length_set]; exact hits) (⟨⟨((c : Nat) : Int), ((c1 : Nat) : Int), T2, D3, ((c4 : Nat) : Int), quota, len, pieces, writer⟩, loc, cap⟩ : NR) (List.getElem_set_self _) 5 (by decide) (⟨⟨((c : Nat) : Int), ((c1 : Nat) : Int), T2, D3, ((c4 : Nat) : Int), ((c5 : Nat) : Int), len, pieces, writer⟩, loc, cap⟩ : NR) (.int .i64 (c5 : Int)) rfl (fun q hq hne => match q, hq, hne with | 0, _, _ => rfl | 1, _, _ => rfl | 2, _, _ => rfl | 3, _, _ => rfl | 4, _, _ => rfl | 5, _, h => absurd rfl h | 6, _, _ => rfl | 7, _, _ => rfl | 8, _, _ => rfl | x + 9, h, _ => absurd h (by omega)) rfl rfl
        rw [List.set_set] at q
        exact q, HT.out.2.trans (Turned.of_grown (gb_set' _ _ _ _) hglo hghi)⟩ ?_
      clear HT x5 z5
      rintro Wquota ⟨ht, htu⟩
      have HT := Shut.mk (And.intro ht htu)
      clear ht htu
      obtain ⟨x6, z6⟩ := HT.out.1.out.2 (i * 9 + 6) _ (by rw [NKind.cells_get _ i (by rw [List.length_set]; exact hits) 6 (by decide), List.getElem_set_self]; rfl)
      go_upto_region 17 with fail
      refine wp_shade (fun W => TW W g (ts.set i (⟨⟨((c : Nat) : Int), ((c1 : Nat) : Int), T2, D3, ((c4 : Nat) : Int), ((c5 : Nat) : Int), ((c6 : Nat) : Int), pieces, writer⟩, loc, cap⟩ : NR)) lo hi ∧ Turned w W lo hi) ⟨by
        have q := HT.out.1.cell' i (by rw [List.length_set]; exact hits) (⟨⟨((c : Nat) : Int), ((c1 : Nat) : Int), T2, D3, ((c4 : Nat) : Int), ((c5 : Nat) : Int), len, pieces, writer⟩, loc, cap⟩ : NR) (List.getElem_set_self _) 6 (by decide) (⟨⟨((c : Nat) : Int), ((c1 : Nat) : Int), T2, D3, ((c4 : Nat) : Int), ((c5 : Nat) : Int), ((c6 : Nat) : Int), pieces, writer⟩, loc, cap⟩ : NR) (.int .i64 (c6 : Int)) rfl (fun q hq hne => match q, hq, hne with | 0, _, _ => rfl | 1, _, _ => rfl | 2, _, _ => rfl | 3, _, _ => rfl | 4, _, _ => rfl | 5, _, _ => rfl | 6, _, h => absurd rfl h | 7, _, _ => rfl | 8, _, _ => rfl | x + 9, h, _ => absurd h (by omega)) rfl rfl
        rw [List.set_set] at q
        exact q, HT.out.2.trans (Turned.of_grown (gb_set' _ _ _ _) hglo hghi)⟩ ?_
      clear HT x6 z6
      rintro Wlen ⟨ht, htu⟩
      have HT := Shut.mk (And.intro ht htu)
      clear ht htu
      have hrow := HT.out.1.rows (⟨⟨((c : Nat) : Int), ((c1 : Nat) : Int), T2, D3, ((c4 : Nat) : Int), ((c5 : Nat) : Int), ((c6 : Nat) : Int), pieces, writer⟩, loc, cap⟩ : NR) (List.mem_iff_getElem.2 ⟨i, by rw [List.length_set]; exact hits, List.getElem_set_self _⟩)
      obtain ⟨x7, z7⟩ := HT.out.1.out.2 (i * 9 + 7) _ (by rw [NKind.cells_get _ i (by rw [List.length_set]; exact hits) 7 (by decide), List.getElem_set_self]; rfl)
      have hcall : ∃ W8, True := ⟨w, trivial⟩
      clear hcall
      dsimp only at x7
      rw [← HNP.out] at x7
      have HCALL : Shut (Calls Try.prog 97 #[.slice loc np cap, .int .i64 c7] Wlen fun e w' => e = .returned (.int .i64 e7) ∧ TW w' g (ts.set i (⟨⟨((c : Nat) : Int), ((c1 : Nat) : Int), T2, D3, ((c4 : Nat) : Int), ((c5 : Nat) : Int), ((c6 : Nat) : Int), (markPs c7 np), writer⟩, loc, cap⟩ : NR)) lo hi ∧ Turned w w' lo hi) := by
        rcases hrow with hemp | ⟨b, hb, hb1, hb2, hb3, hb4⟩
        · have hp0 : pieces = [] := pcs_nil.1 hemp
          have hn0 : np = 0 := by rw [HNP.out, hp0]; rfl
          subst hn0
          refine ⟨(markPieceS_none loc c7 cap Wlen).mono ?_⟩
          rintro e w' ⟨rfl, rfl⟩
          refine ⟨by rw [HE7.out]; rfl, ?_, HT.out.2⟩
          have : markPs c7 0 = pieces := by rw [hp0]; rfl
          rw [this]
          exact HT.out.1
        · by_cases hp0 : pieces = []
          · have hn0 : np = 0 := by rw [HNP.out, hp0]; rfl
            subst hn0
            refine ⟨(markPieceS_none loc c7 cap Wlen).mono ?_⟩
            rintro e w' ⟨rfl, rfl⟩
            refine ⟨by rw [HE7.out]; rfl, ?_, HT.out.2⟩
            have : markPs c7 0 = pieces := by rw [hp0]; rfl
            rw [this]
            exact HT.out.1
          · have hlb : loc = some ⟨b, 0, none⟩ := hb
            have hcl := markPieceS_any b pieces c7 cap Wlen hb4 (by have := HNP.out; have := HE7.out; omega)
            rw [← HNP.out] at hcl
            rw [hlb]
            refine ⟨hcl.mono ?_⟩
            rintro e w' ⟨rfl, hw', hg'⟩
            refine ⟨by rw [← HE7.out], ?_, HT.out.2.trans (Turned.of_grown hg' hb1 hb2)⟩
            have q := HT.out.1.pieces i (by rw [List.length_set]; exact hits) b (by rw [List.getElem_set_self]; exact hlb) (by rw [List.getElem_set_self]; exact hp0) (⟨⟨((c : Nat) : Int), ((c1 : Nat) : Int), T2, D3, ((c4 : Nat) : Int), ((c5 : Nat) : Int), ((c6 : Nat) : Int), (markPs c7 np), writer⟩, loc, cap⟩ : NR) (by rw [List.getElem_set_self]; unfold ncells; dsimp only; rw [markPs_len, HNP.out]) (by rw [List.getElem_set_self]) hw' hg'
            rw [List.set_set, hlb] at q
            exact q
      clear hrow HT
      go_wp2_with fail
      refine HCALL.out.mono ?_
      rintro e Wp ⟨rfl, ht, htu⟩
      have HT := Shut.mk (And.intro ht htu)
      clear ht htu HCALL
      obtain ⟨x8, z8⟩ := HT.out.1.out.2 (i * 9 + 8) _ (by rw [NKind.cells_get _ i (by rw [List.length_set]; exact hits) 8 (by decide), List.getElem_set_self]; rfl)
      go_upto_region 20 with fail
      refine wp_shade (fun W => TW W g (ts.set i (⟨⟨((c : Nat) : Int), ((c1 : Nat) : Int), T2, D3, ((c4 : Nat) : Int), ((c5 : Nat) : Int), ((c6 : Nat) : Int), (markPs c7 np), ((e7 : Nat) : Int)⟩, loc, cap⟩ : NR)) lo hi ∧ Turned w W lo hi) ⟨by
        have q := HT.out.1.cell' i (by rw [List.length_set]; exact hits) (⟨⟨((c : Nat) : Int), ((c1 : Nat) : Int), T2, D3, ((c4 : Nat) : Int), ((c5 : Nat) : Int), ((c6 : Nat) : Int), (markPs c7 np), writer⟩, loc, cap⟩ : NR) (List.getElem_set_self _) 8 (by decide) (⟨⟨((c : Nat) : Int), ((c1 : Nat) : Int), T2, D3, ((c4 : Nat) : Int), ((c5 : Nat) : Int), ((c6 : Nat) : Int), (markPs c7 np), ((e7 : Nat) : Int)⟩, loc, cap⟩ : NR) (.int .i64 (e7 : Int)) rfl (fun q hq hne => match q, hq, hne with | 0, _, _ => rfl | 1, _, _ => rfl | 2, _, _ => rfl | 3, _, _ => rfl | 4, _, _ => rfl | 5, _, _ => rfl | 6, _, _ => rfl | 7, _, _ => rfl | 8, _, h => absurd rfl h | x + 9, h, _ => absurd h (by omega)) rfl rfl
        rw [List.set_set] at q
        exact q, HT.out.2.trans (Turned.of_grown (gb_set' _ _ _ _) hglo hghi)⟩ ?_
      clear HT x8 z8
      rintro Wwriter ⟨ht, htu⟩
      have HT := Shut.mk (And.intro ht htu)
      clear ht htu
      go_wp2_with fail
      go_roundw
      case rel => exact ⟨i + 1, e8, ts.set i (⟨⟨((c : Nat) : Int), ((c1 : Nat) : Int), T2, D3, ((c4 : Nat) : Int), ((c5 : Nat) : Int), ((c6 : Nat) : Int), (markPs c7 np), ((e7 : Nat) : Int)⟩, loc, cap⟩ : NR), by go_num, rfl, q9, by omega, by omega, ⟨HNX.out.1, HNX.out.2⟩, HT⟩
      case measure => simp [intOf]; omega
    · have e : i = n := by omega
      have hall : rs.take i = rs := List.take_of_length_le (by have := HN.out; omega)
      have hnil : rs.drop i = [] := List.drop_eq_nil_of_le (by have := HN.out; omega)
      have hlt' : ¬ (i : Int) < (n : Int) := by omega
      have HF : Shut (c = markK k (nds rs) ∧ ts = markRs k rs) := ⟨by have := HG.out.1; rwa [hall] at this, by have := HG.out.2; rwa [hall, hnil, List.append_nil] at this⟩
      clear hall hnil HG e
      go_wp2_with fail
      go_ret
      exact ⟨by rw [← HF.out.1]; rfl, by rw [← HF.out.2]; exact HT.out.1, HT.out.2⟩
end Go.Proofs.Ytendbipfmgnjkaa
