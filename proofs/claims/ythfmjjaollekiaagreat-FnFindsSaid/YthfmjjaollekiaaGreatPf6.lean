/- Texts of ours, laid one behind the other: TreH, TreI, LawTrn, SpnC, HexM, SpnD, NestC, SpnE, DrEdB, CpA. -/
import Derived.Test.YthfmjjaollekiaaGreatPf5
import Derived.Test.YthfmjjaollekiaaGreatPf2
import Derived.Test.YthfmjjaollekiaaGreatPf1
import Derived.Test.YthfmjjaollekiaaGreatPf4
import Derived.Deep.CutRange
import Derived.BigQuiet
import Derived.PlainAid
import Derived.Deep.Upon
import Derived.Deep.AppendLies
/- TreH: Marks that are laid into trees (written by gen/mktreh.py). -/
namespace Go.Proofs.YthfmjjaollekiaaGreat
set_option maxRecDepth 100000
open Go.RowKit
attribute [local go_sem ↓] Go.wp_at_zero Go.wp_at_succ

theorem markPieceS_none (a : Option Addr) (k ca : Nat) (w : World) : Calls Tryz.prog 142 #[.slice a 0 ca, .int .i64 k] w fun e w' => e = .returned (.int .i64 k) ∧ w' = w := by
  go_enter Tryz.func142, Tryz.ntmps142
  go_wp2_with fail
  go_rounds 1
  go_ret
  exact ⟨rfl, rfl⟩
theorem markPs_at (k n j : Nat) (h : j < n) : (markPs k n)[j]'(by rw [markPs_len]; exact h) = ⟨((k + 2 * j : Nat) : Int), ((k + 2 * j + 1 : Nat) : Int)⟩ := by simp [markPs]
set_option maxHeartbeats 1000000 in
theorem markPieceS_any (g : Nat) (ps : List PM) (k ca : Nat) (w : World) (ha : WCells w g (pcs ps)) (hn : k + 2 * ps.length ≤ 1000000000) :
    Calls Tryz.prog 142 #[.slice (some ⟨g, 0, none⟩) ps.length ca, .int .i64 k] w fun e w' => e = .returned (.int .i64 (k + 2 * ps.length : Nat)) ∧ WCells w' g (pcs (markPs k ps.length)) ∧ w.grownBy w' (some g) := by
  obtain ⟨n, hnx⟩ : ∃ n, n = ps.length := ⟨_, rfl⟩
  have HN := Shut.mk hnx
  rw [← hnx] at hn ⊢
  have HA := Shut.mk ha
  clear hnx ha
  go_enter Tryz.func142, Tryz.ntmps142
  go_wp2_with fail
  go_loopw [1, 5] (fun c i wr => ∃ (j cc : Nat) (gs : List PM), i = .int .i64 j ∧ c = .int .i64 cc ∧ cc ≤ 1000000000 ∧ j ≤ n ∧ Shut (cc = k + 2 * j ∧ gs.length = n ∧ gs.take j = (markPs k n).take j) ∧ Shut (WCells wr g (pcs gs)) ∧ Shut (w.grownBy wr (some g))) (fun _ i _ => n - (intOf i).toNat)
  case atStart => exact ⟨0, k, ps, rfl, rfl, by omega, Nat.zero_le _, ⟨rfl, HN.out.symm, rfl⟩, HA, ⟨⟨rfl, rfl, rfl, Nat.le_refl _, fun _ _ _ => rfl⟩⟩⟩
  case round =>
    clear HA
    obtain ⟨j, c, gs, rfl, rfl, hc9, hj, HG, hw, hgr⟩ := hrel
    by_cases hlt : j < n
    · have j0 : (0 : Int) ≤ (j : Int) := by omega
      have j1 : (j : Int) < (n : Int) := by omega
      have hgk : j < gs.length := by have := HG.out.2.1; omega
      obtain ⟨c1, e1⟩ : ∃ c1, c1 = c + 1 := ⟨_, rfl⟩
      obtain ⟨c2, e2⟩ : ∃ c2, c2 = c + 2 := ⟨_, rfl⟩
      have HC := Shut.mk (And.intro e1 e2)
      have i1 : (c : Int) + 1 = (c1 : Int) := by omega
      have i2 : (c1 : Int) + 1 = (c2 : Int) := by omega
      have hb1 : c1 ≤ 1000000001 := by omega
      have hb2 : c2 ≤ 1000000000 := by have := HG.out.1; omega
      obtain ⟨x0, z0⟩ := hw.out.2 (j * 2) _ (flat_get pcells_len gs j hgk 0 (by omega))
      obtain ⟨x1, z1⟩ := hw.out.2 (j * 2 + 1) _ (flat_get pcells_len gs j hgk 1 (by omega))
      have HS := Shut.mk (hw.out.setElem pcells_len j hgk ⟨(c : Int), (c1 : Int)⟩)
      have HGR := Shut.mk (gb_two' (gb_two' hgr.out (gb_set' wr g (j * 2) (.int .i64 (c : Int)))) (gb_set' _ g (j * 2 + 1) (.int .i64 (c1 : Int))))
      clear e1 e2 hw hgr
      go_wp2_with fail
      go_roundw
      case rel =>
        refine ⟨j + 1, c2, gs.set j ⟨(c : Int), (c1 : Int)⟩, by go_num, rfl, hb2, by omega, ⟨by have := HG.out.1; have := HC.out.2; omega, by rw [List.length_set]; exact HG.out.2.1, ?_⟩, HS, HGR⟩
        have hjm : j < (markPs k n).length := by rw [markPs_len]; exact hlt
        rw [List.take_succ_eq_append_getElem (by rw [List.length_set]; exact hgk), List.take_succ_eq_append_getElem hjm, List.take_set_of_le (Nat.le_refl _), HG.out.2.2, List.getElem_set_self, markPs_at k n j hlt]
        have h1 := HG.out.1
        have h2 := HC.out.1
        rw [h2, h1]
      case measure => simp [intOf]; omega
    · have e : gs = markPs k n := by
        have h := HG.out.2.2
        rw [List.take_of_length_le (by have := HG.out.2.1; omega), List.take_of_length_le (by rw [markPs_len]; omega)] at h; exact h
      have hjn : j = n := by omega
      have HF : Shut (WCells wr g (pcs (markPs k n))) := ⟨by rw [← e]; exact hw.out⟩
      have HE : Shut (c = k + 2 * n) := ⟨by have := HG.out.1; omega⟩
      have hlt' : ¬ (j : Int) < (n : Int) := by omega
      clear e hjn hw HG
      go_wp2_with fail
      go_ret
      exact ⟨congrArg (fun x : Int => Ending.returned (.int .i64 x)) (show (c : Int) = _ by have := HE.out; omega), HF.out, hgr.out⟩
/-- What the marks leave of a row of nodes. -/
def MarkNodes (g k : Nat) (rs : List NR) (lo hi : Nat) (w : World) (e : Ending) (w' : World) : Prop := e = .returned (.int .i64 (markK k (nds rs) : Nat)) ∧ TW w' g (markRs k rs) lo hi ∧ Turned w w' lo hi
theorem dir_is (c : Nat) : ((c : Int) % 3 == 0) = markDir c := by
  unfold markDir
  rw [Bool.eq_iff_iff]
  simp only [beq_iff_eq, decide_eq_true_eq]
  omega
theorem dir_is' (c : Nat) : ((c : Int).tmod 3 == 0) = markDir c := by rw [Int.tmod_eq_emod_of_nonneg (by omega)]; exact dir_is c
set_option maxRecDepth 100000 in
set_option maxHeartbeats 8000000 in
theorem markInodeS_any (g : Nat) (rs : List NR) (k ca : Nat) (w : World) (lo hi : Nat) (hm : TW w g rs lo hi) (hk : 1 ≤ k) (hn : markK k (nds rs) ≤ 50000000) :
    Calls Tryz.prog 106 #[.slice (some ⟨g, 0, none⟩) rs.length ca, .int .i64 k] w fun e w' => MarkNodes g k rs lo hi w e w' := by
  obtain ⟨n, hnx⟩ : ∃ n, n = rs.length := ⟨_, rfl⟩
  have HN := Shut.mk hnx
  have HK := Shut.mk hn
  have hn9 : n ≤ 50000000 := by
    have := markK_low k (nds rs)
    rw [nds_len] at this
    omega
  have hglo := hm.glo
  have hghi := hm.ghi
  rw [← hnx]
  have HA := Shut.mk hm
  clear hnx hm hn
  go_enter Tryz.func106, Tryz.ntmps106
  go_wp2_with fail
  go_loopw [1, 5] (fun cv iv wr => ∃ (i c : Nat) (ts : List NR), iv = .int .i64 i ∧ cv = .int .i64 c ∧ c ≤ 50000000 ∧ 1 ≤ c ∧ i ≤ n ∧ Shut (c = markK k (nds (rs.take i)) ∧ ts = markRs k (rs.take i) ++ rs.drop i) ∧ Shut (TW wr g ts lo hi ∧ Turned w wr lo hi)) (fun _ iv _ => n - (intOf iv).toNat)
  case atStart => exact ⟨0, k, rs, rfl, rfl, by have := HK.out; have := (markK_le k (nds rs)).1; omega, hk, Nat.zero_le _, ⟨rfl, by simp [markRs]⟩, ⟨HA.out, Turned.refl _ _ _⟩⟩
  case round =>
    clear HA
    obtain ⟨i, c, ts, rfl, rfl, hc9, hc1, hin, HG, HT⟩ := hrel
    by_cases hlt : i < n
    · have j0 : (0 : Int) ≤ (i : Int) := by omega
      have j1 : (i : Int) < (n : Int) := by omega
      have hlr : i < rs.length := by have := HN.out; omega
      have hml : (markRs k (rs.take i)).length = i := by rw [markRs_len, List.length_take]; omega
      have htl : ts.length = n := by rw [HG.out.2, List.length_append, hml, List.length_drop, HN.out]; omega
      have hits : i < ts.length := by omega
      have hat : ts[i] = rs[i] := by
        simp only [HG.out.2]
        rw [List.getElem_append_right (by omega)]
        simp only [hml, Nat.sub_self, List.getElem_drop, Nat.add_zero]
      have hset : ts = ts.set i rs[i] := by rw [← hat, List.set_getElem_self]
      have hnext : markRs k (rs.take (i + 1)) ++ rs.drop (i + 1) = ts.set i ⟨markN c rs[i].nd.pieces.length, rs[i].loc, rs[i].cap⟩ := by
        rw [List.take_succ_eq_append_getElem hlr, markRs_snoc, HG.out.2, ← HG.out.1, List.append_assoc, List.set_append, if_neg (by omega)]
        congr 1
        rw [hml, Nat.sub_self, List.drop_eq_getElem_cons hlr]
        rfl
      have hck : markK k (nds (rs.take (i + 1))) = c + 8 + 2 * rs[i].nd.pieces.length := by rw [List.take_succ_eq_append_getElem hlr, nds_snoc, markK_snoc, ← HG.out.1]
      have hcb : markK k (nds (rs.take (i + 1))) ≤ 50000000 := by
        have := markK_part k (nds rs) (i + 1)
        have e : (nds rs).take (i + 1) = nds (rs.take (i + 1)) := by unfold nds; rw [List.map_take]
        rw [e] at this
        have := HK.out
        omega
      rcases hr : rs[i] with ⟨⟨id, parent, name, dir, schema, quota, len, pieces, writer⟩, loc, cap⟩
      rw [hr] at hat hset hnext hck
      dsimp only at hnext hck
      obtain ⟨np, hnp⟩ : ∃ np, np = pieces.length := ⟨_, rfl⟩
      rw [← hnp] at hnext hck
      rw [hset] at HT
      obtain ⟨c1, e1⟩ : ∃ c1, c1 = c + 1 := ⟨_, rfl⟩
      obtain ⟨c2, e2⟩ : ∃ c2, c2 = c + 2 := ⟨_, rfl⟩
      obtain ⟨c3, e3⟩ : ∃ c3, c3 = c + 3 := ⟨_, rfl⟩
      obtain ⟨c4, e4⟩ : ∃ c4, c4 = c + 4 := ⟨_, rfl⟩
      obtain ⟨c5, e5⟩ : ∃ c5, c5 = c + 5 := ⟨_, rfl⟩
      obtain ⟨c6, e6⟩ : ∃ c6, c6 = c + 6 := ⟨_, rfl⟩
      obtain ⟨c7, e7'⟩ : ∃ c7, c7 = c + 7 := ⟨_, rfl⟩
      obtain ⟨e7, h7⟩ : ∃ e7, e7 = c + 7 + 2 * np := ⟨_, rfl⟩
      obtain ⟨e8, h8⟩ : ∃ e8, e8 = c + 8 + 2 * np := ⟨_, rfl⟩
      have i1 : (c : Int) + 1 = (c1 : Int) := by omega
      have i2 : (c1 : Int) + 1 = (c2 : Int) := by omega
      have i3 : (c2 : Int) + 1 = (c3 : Int) := by omega
      have i4 : (c3 : Int) + 1 = (c4 : Int) := by omega
      have i5 : (c4 : Int) + 1 = (c5 : Int) := by omega
      have i6 : (c5 : Int) + 1 = (c6 : Int) := by omega
      have i7 : (c6 : Int) + 1 = (c7 : Int) := by omega
      have i8 : (e7 : Int) + 1 = (e8 : Int) := by omega
      have q1 : c1 ≤ 60000000 := by omega
      have q2 : c2 ≤ 60000000 := by omega
      have q3 : c3 ≤ 60000000 := by omega
      have q4 : c4 ≤ 60000000 := by omega
      have q5 : c5 ≤ 60000000 := by omega
      have q6 : c6 ≤ 60000000 := by omega
      have q7 : c7 ≤ 60000000 := by omega
      have q8 : e7 ≤ 60000000 := by omega
      have q9 : e8 ≤ 50000000 := by omega
      have HMT := Shut.mk (fun W => markText_any c2 W (by omega) (by omega))
      have HNX : Shut (e8 = markK k (nds (rs.take (i + 1))) ∧ ts.set i ⟨⟨(c : Int), (c1 : Int), mt c2, markDir c3, (c4 : Int), (c5 : Int), (c6 : Int), markPs c7 np, (e7 : Int)⟩, loc, cap⟩ = markRs k (rs.take (i + 1)) ++ rs.drop (i + 1)) := ⟨by omega, by rw [hnext]; unfold markN; rw [e1, e2, e3, e4, e5, e6, e7', h7]⟩
      have hd1 := dir_is c3
      have hd2 := dir_is' c3
      have HE7 := Shut.mk (show e7 = c7 + 2 * np by omega)
      generalize mt c2 = T2 at *
      generalize markDir c3 = D3 at *
      have HNP := Shut.mk hnp
      clear hat hset hnext hck hcb hr htl hml e1 e2 e3 e4 e5 e6 e7' h7 h8 hnp HG
      obtain ⟨x0, z0⟩ := HT.out.1.out.2 (i * 9 + 0) _ (by rw [NKind.cells_get _ i (by rw [List.length_set]; exact hits) 0 (by decide), List.getElem_set_self]; rfl)
      rw [Nat.add_zero] at x0 z0
      go_upto_region 5 with fail
      refine wp_shade (fun W => TW W g (ts.set i (⟨⟨((c : Nat) : Int), parent, name, dir, schema, quota, len, pieces, writer⟩, loc, cap⟩ : NR)) lo hi ∧ Turned w W lo hi) ⟨by
        have q := HT.out.1.cell' i (by rw [List.length_set]; exact hits) (⟨⟨id, parent, name, dir, schema, quota, len, pieces, writer⟩, loc, cap⟩ : NR) (List.getElem_set_self _) 0 (by decide) (⟨⟨((c : Nat) : Int), parent, name, dir, schema, quota, len, pieces, writer⟩, loc, cap⟩ : NR) (.int .i64 (c : Int)) rfl (fun q hq hne => match q, hq, hne with | 0, _, h => absurd rfl h | 1, _, _ => rfl | 2, _, _ => rfl | 3, _, _ => rfl | 4, _, _ => rfl | 5, _, _ => rfl | 6, _, _ => rfl | 7, _, _ => rfl | 8, _, _ => rfl | x + 9, h, _ => absurd h (by omega)) rfl rfl
        rw [List.set_set] at q
        exact q, HT.out.2.trans (Turned.of_grown (gb_set' _ _ _ _) hglo hghi)⟩ ?_
      clear HT x0 z0
      rintro Wid ⟨ht, htu⟩
      have HT := Shut.mk (And.intro ht htu)
      clear ht htu
      obtain ⟨x1, z1⟩ := HT.out.1.out.2 (i * 9 + 1) _ (by rw [NKind.cells_get _ i (by rw [List.length_set]; exact hits) 1 (by decide), List.getElem_set_self]; rfl)
      go_upto_region 7 with fail
      refine wp_shade (fun W => TW W g (ts.set i (⟨⟨((c : Nat) : Int), ((c1 : Nat) : Int), name, dir, schema, quota, len, pieces, writer⟩, loc, cap⟩ : NR)) lo hi ∧ Turned w W lo hi) ⟨by
        have q := HT.out.1.cell' i (by rw [List.length_set]; exact hits) (⟨⟨((c : Nat) : Int), parent, name, dir, schema, quota, len, pieces, writer⟩, loc, cap⟩ : NR) (List.getElem_set_self _) 1 (by decide) (⟨⟨((c : Nat) : Int), ((c1 : Nat) : Int), name, dir, schema, quota, len, pieces, writer⟩, loc, cap⟩ : NR) (.int .i64 (c1 : Int)) rfl (fun q hq hne => match q, hq, hne with | 0, _, _ => rfl | 1, _, h => absurd rfl h | 2, _, _ => rfl | 3, _, _ => rfl | 4, _, _ => rfl | 5, _, _ => rfl | 6, _, _ => rfl | 7, _, _ => rfl | 8, _, _ => rfl | x + 9, h, _ => absurd h (by omega)) rfl rfl
        rw [List.set_set] at q
        exact q, HT.out.2.trans (Turned.of_grown (gb_set' _ _ _ _) hglo hghi)⟩ ?_
      clear HT x1 z1
      rintro Wparent ⟨ht, htu⟩
      have HT := Shut.mk (And.intro ht htu)
      clear ht htu
      go_wp2_with fail
      refine (HMT.out _).mono ?_
      rintro e wn ⟨rfl, hbn⟩
      replace HT := Shut.mk (show TW wn g (ts.set i (⟨⟨((c : Nat) : Int), ((c1 : Nat) : Int), name, dir, schema, quota, len, pieces, writer⟩, loc, cap⟩ : NR)) lo hi ∧ Turned w wn lo hi from ⟨HT.out.1.below hbn, HT.out.2.trans (Turned.of_below hbn lo hi)⟩)
      clear hbn
      obtain ⟨x2, z2⟩ := HT.out.1.out.2 (i * 9 + 2) _ (by rw [NKind.cells_get _ i (by rw [List.length_set]; exact hits) 2 (by decide), List.getElem_set_self]; rfl)
      go_upto_region 9 with fail
      refine wp_shade (fun W => TW W g (ts.set i (⟨⟨((c : Nat) : Int), ((c1 : Nat) : Int), T2, dir, schema, quota, len, pieces, writer⟩, loc, cap⟩ : NR)) lo hi ∧ Turned w W lo hi) ⟨by
        have q := HT.out.1.cell' i (by rw [List.length_set]; exact hits) (⟨⟨((c : Nat) : Int), ((c1 : Nat) : Int), name, dir, schema, quota, len, pieces, writer⟩, loc, cap⟩ : NR) (List.getElem_set_self _) 2 (by decide) (⟨⟨((c : Nat) : Int), ((c1 : Nat) : Int), T2, dir, schema, quota, len, pieces, writer⟩, loc, cap⟩ : NR) (.string T2) rfl (fun q hq hne => match q, hq, hne with | 0, _, _ => rfl | 1, _, _ => rfl | 2, _, h => absurd rfl h | 3, _, _ => rfl | 4, _, _ => rfl | 5, _, _ => rfl | 6, _, _ => rfl | 7, _, _ => rfl | 8, _, _ => rfl | x + 9, h, _ => absurd h (by omega)) rfl rfl
        rw [List.set_set] at q
        exact q, HT.out.2.trans (Turned.of_grown (gb_set' _ _ _ _) hglo hghi)⟩ ?_
      clear HT x2 z2
      rintro Wname ⟨ht, htu⟩
      have HT := Shut.mk (And.intro ht htu)
      clear ht htu
      obtain ⟨x3, z3⟩ := HT.out.1.out.2 (i * 9 + 3) _ (by rw [NKind.cells_get _ i (by rw [List.length_set]; exact hits) 3 (by decide), List.getElem_set_self]; rfl)
      go_upto_region 11 with fail
      refine wp_shade (fun W => TW W g (ts.set i (⟨⟨((c : Nat) : Int), ((c1 : Nat) : Int), T2, D3, schema, quota, len, pieces, writer⟩, loc, cap⟩ : NR)) lo hi ∧ Turned w W lo hi) ⟨by
        have q := HT.out.1.cell' i (by rw [List.length_set]; exact hits) (⟨⟨((c : Nat) : Int), ((c1 : Nat) : Int), T2, dir, schema, quota, len, pieces, writer⟩, loc, cap⟩ : NR) (List.getElem_set_self _) 3 (by decide) (⟨⟨((c : Nat) : Int), ((c1 : Nat) : Int), T2, D3, schema, quota, len, pieces, writer⟩, loc, cap⟩ : NR) (.bool D3) rfl (fun q hq hne => match q, hq, hne with | 0, _, _ => rfl | 1, _, _ => rfl | 2, _, _ => rfl | 3, _, h => absurd rfl h | 4, _, _ => rfl | 5, _, _ => rfl | 6, _, _ => rfl | 7, _, _ => rfl | 8, _, _ => rfl | x + 9, h, _ => absurd h (by omega)) rfl rfl
        rw [List.set_set] at q
        exact q, HT.out.2.trans (Turned.of_grown (gb_set' _ _ _ _) hglo hghi)⟩ ?_
      clear HT x3 z3
      rintro Wdir ⟨ht, htu⟩
      have HT := Shut.mk (And.intro ht htu)
      clear ht htu
      obtain ⟨x4, z4⟩ := HT.out.1.out.2 (i * 9 + 4) _ (by rw [NKind.cells_get _ i (by rw [List.length_set]; exact hits) 4 (by decide), List.getElem_set_self]; rfl)
      go_upto_region 13 with fail
      refine wp_shade (fun W => TW W g (ts.set i (⟨⟨((c : Nat) : Int), ((c1 : Nat) : Int), T2, D3, ((c4 : Nat) : Int), quota, len, pieces, writer⟩, loc, cap⟩ : NR)) lo hi ∧ Turned w W lo hi) ⟨by
        have q := HT.out.1.cell' i (by rw [List.length_set]; exact hits) (⟨⟨((c : Nat) : Int), ((c1 : Nat) : Int), T2, D3, schema, quota, len, pieces, writer⟩, loc, cap⟩ : NR) (List.getElem_set_self _) 4 (by decide) (⟨⟨((c : Nat) : Int), ((c1 : Nat) : Int), T2, D3, ((c4 : Nat) : Int), quota, len, pieces, writer⟩, loc, cap⟩ : NR) (.int .i64 (c4 : Int)) rfl (fun q hq hne => match q, hq, hne with | 0, _, _ => rfl | 1, _, _ => rfl | 2, _, _ => rfl | 3, _, _ => rfl | 4, _, h => absurd rfl h | 5, _, _ => rfl | 6, _, _ => rfl | 7, _, _ => rfl | 8, _, _ => rfl | x + 9, h, _ => absurd h (by omega)) rfl rfl
        rw [List.set_set] at q
        exact q, HT.out.2.trans (Turned.of_grown (gb_set' _ _ _ _) hglo hghi)⟩ ?_
      clear HT x4 z4
      rintro Wschema ⟨ht, htu⟩
      have HT := Shut.mk (And.intro ht htu)
      clear ht htu
      obtain ⟨x5, z5⟩ := HT.out.1.out.2 (i * 9 + 5) _ (by rw [NKind.cells_get _ i (by rw [List.length_set]; exact hits) 5 (by decide), List.getElem_set_self]; rfl)
      go_upto_region 15 with fail
      refine wp_shade (fun W => TW W g (ts.set i (⟨⟨((c : Nat) : Int), ((c1 : Nat) : Int), T2, D3, ((c4 : Nat) : Int), ((c5 : Nat) : Int), len, pieces, writer⟩, loc, cap⟩ : NR)) lo hi ∧ Turned w W lo hi) ⟨by
        have q := HT.out.1.cell' i (by rw [List.length_set]; exact hits) (⟨⟨((c : Nat) : Int), ((c1 : Nat) : Int), T2, D3, ((c4 : Nat) : Int), quota, len, pieces, writer⟩, loc, cap⟩ : NR) (List.getElem_set_self _) 5 (by decide) (⟨⟨((c : Nat) : Int), ((c1 : Nat) : Int), T2, D3, ((c4 : Nat) : Int), ((c5 : Nat) : Int), len, pieces, writer⟩, loc, cap⟩ : NR) (.int .i64 (c5 : Int)) rfl (fun q hq hne => match q, hq, hne with | 0, _, _ => rfl | 1, _, _ => rfl | 2, _, _ => rfl | 3, _, _ => rfl | 4, _, _ => rfl | 5, _, h => absurd rfl h | 6, _, _ => rfl | 7, _, _ => rfl | 8, _, _ => rfl | x + 9, h, _ => absurd h (by omega)) rfl rfl
        rw [List.set_set] at q
        exact q, HT.out.2.trans (Turned.of_grown (gb_set' _ _ _ _) hglo hghi)⟩ ?_
      clear HT x5 z5
      rintro Wquota ⟨ht, htu⟩
      have HT := Shut.mk (And.intro ht htu)
      clear ht htu
      obtain ⟨x6, z6⟩ := HT.out.1.out.2 (i * 9 + 6) _ (by rw [NKind.cells_get _ i (by rw [List.length_set]; exact hits) 6 (by decide), List.getElem_set_self]; rfl)
      go_upto_region 17 with fail
      refine wp_shade (fun W => TW W g (ts.set i (⟨⟨((c : Nat) : Int), ((c1 : Nat) : Int), T2, D3, ((c4 : Nat) : Int), ((c5 : Nat) : Int), ((c6 : Nat) : Int), pieces, writer⟩, loc, cap⟩ : NR)) lo hi ∧ Turned w W lo hi) ⟨by
        have q := HT.out.1.cell' i (by rw [List.length_set]; exact hits) (⟨⟨((c : Nat) : Int), ((c1 : Nat) : Int), T2, D3, ((c4 : Nat) : Int), ((c5 : Nat) : Int), len, pieces, writer⟩, loc, cap⟩ : NR) (List.getElem_set_self _) 6 (by decide) (⟨⟨((c : Nat) : Int), ((c1 : Nat) : Int), T2, D3, ((c4 : Nat) : Int), ((c5 : Nat) : Int), ((c6 : Nat) : Int), pieces, writer⟩, loc, cap⟩ : NR) (.int .i64 (c6 : Int)) rfl (fun q hq hne => match q, hq, hne with | 0, _, _ => rfl | 1, _, _ => rfl | 2, _, _ => rfl | 3, _, _ => rfl | 4, _, _ => rfl | 5, _, _ => rfl | 6, _, h => absurd rfl h | 7, _, _ => rfl | 8, _, _ => rfl | x + 9, h, _ => absurd h (by omega)) rfl rfl
        rw [List.set_set] at q
        exact q, HT.out.2.trans (Turned.of_grown (gb_set' _ _ _ _) hglo hghi)⟩ ?_
      clear HT x6 z6
      rintro Wlen ⟨ht, htu⟩
      have HT := Shut.mk (And.intro ht htu)
      clear ht htu
      have hrow := HT.out.1.rows (⟨⟨((c : Nat) : Int), ((c1 : Nat) : Int), T2, D3, ((c4 : Nat) : Int), ((c5 : Nat) : Int), ((c6 : Nat) : Int), pieces, writer⟩, loc, cap⟩ : NR) (List.mem_iff_getElem.2 ⟨i, by rw [List.length_set]; exact hits, List.getElem_set_self _⟩)
      obtain ⟨x7, z7⟩ := HT.out.1.out.2 (i * 9 + 7) _ (by rw [NKind.cells_get _ i (by rw [List.length_set]; exact hits) 7 (by decide), List.getElem_set_self]; rfl)
      have hcall : ∃ W8, True := ⟨w, trivial⟩
      clear hcall
      dsimp only at x7
      rw [← HNP.out] at x7
      have HCALL : Shut (Calls Tryz.prog 142 #[.slice loc np cap, .int .i64 c7] Wlen fun e w' => e = .returned (.int .i64 e7) ∧ TW w' g (ts.set i (⟨⟨((c : Nat) : Int), ((c1 : Nat) : Int), T2, D3, ((c4 : Nat) : Int), ((c5 : Nat) : Int), ((c6 : Nat) : Int), (markPs c7 np), writer⟩, loc, cap⟩ : NR)) lo hi ∧ Turned w w' lo hi) := by
        rcases hrow with hemp | ⟨b, hb, hb1, hb2, hb3, hb4⟩
        · have hp0 : pieces = [] := pcs_nil.1 hemp
          have hn0 : np = 0 := by rw [HNP.out, hp0]; rfl
          subst hn0
          refine ⟨(markPieceS_none loc c7 cap Wlen).mono ?_⟩
          rintro e w' ⟨rfl, rfl⟩
          refine ⟨by rw [HE7.out]; rfl, ?_, HT.out.2⟩
          have : markPs c7 0 = pieces := by rw [hp0]; rfl
          rw [this]
          exact HT.out.1
        · by_cases hp0 : pieces = []
          · have hn0 : np = 0 := by rw [HNP.out, hp0]; rfl
            subst hn0
            refine ⟨(markPieceS_none loc c7 cap Wlen).mono ?_⟩
            rintro e w' ⟨rfl, rfl⟩
            refine ⟨by rw [HE7.out]; rfl, ?_, HT.out.2⟩
            have : markPs c7 0 = pieces := by rw [hp0]; rfl
            rw [this]
            exact HT.out.1
          · have hlb : loc = some ⟨b, 0, none⟩ := hb
            have hcl := markPieceS_any b pieces c7 cap Wlen hb4 (by have := HNP.out; have := HE7.out; omega)
            rw [← HNP.out] at hcl
            rw [hlb]
            refine ⟨hcl.mono ?_⟩
            rintro e w' ⟨rfl, hw', hg'⟩
            refine ⟨by rw [← HE7.out], ?_, HT.out.2.trans (Turned.of_grown hg' hb1 hb2)⟩
            have q := HT.out.1.pieces i (by rw [List.length_set]; exact hits) b (by rw [List.getElem_set_self]; exact hlb) (by rw [List.getElem_set_self]; exact hp0) (⟨⟨((c : Nat) : Int), ((c1 : Nat) : Int), T2, D3, ((c4 : Nat) : Int), ((c5 : Nat) : Int), ((c6 : Nat) : Int), (markPs c7 np), writer⟩, loc, cap⟩ : NR) (by rw [List.getElem_set_self]; unfold ncells; dsimp only; rw [markPs_len, HNP.out]) (by rw [List.getElem_set_self]) hw' hg'
            rw [List.set_set, hlb] at q
            exact q
      clear hrow HT
      go_wp2_with fail
      refine HCALL.out.mono ?_
      rintro e Wp ⟨rfl, ht, htu⟩
      have HT := Shut.mk (And.intro ht htu)
      clear ht htu HCALL
      obtain ⟨x8, z8⟩ := HT.out.1.out.2 (i * 9 + 8) _ (by rw [NKind.cells_get _ i (by rw [List.length_set]; exact hits) 8 (by decide), List.getElem_set_self]; rfl)
      go_upto_region 20 with fail
      refine wp_shade (fun W => TW W g (ts.set i (⟨⟨((c : Nat) : Int), ((c1 : Nat) : Int), T2, D3, ((c4 : Nat) : Int), ((c5 : Nat) : Int), ((c6 : Nat) : Int), (markPs c7 np), ((e7 : Nat) : Int)⟩, loc, cap⟩ : NR)) lo hi ∧ Turned w W lo hi) ⟨by
        have q := HT.out.1.cell' i (by rw [List.length_set]; exact hits) (⟨⟨((c : Nat) : Int), ((c1 : Nat) : Int), T2, D3, ((c4 : Nat) : Int), ((c5 : Nat) : Int), ((c6 : Nat) : Int), (markPs c7 np), writer⟩, loc, cap⟩ : NR) (List.getElem_set_self _) 8 (by decide) (⟨⟨((c : Nat) : Int), ((c1 : Nat) : Int), T2, D3, ((c4 : Nat) : Int), ((c5 : Nat) : Int), ((c6 : Nat) : Int), (markPs c7 np), ((e7 : Nat) : Int)⟩, loc, cap⟩ : NR) (.int .i64 (e7 : Int)) rfl (fun q hq hne => match q, hq, hne with | 0, _, _ => rfl | 1, _, _ => rfl | 2, _, _ => rfl | 3, _, _ => rfl | 4, _, _ => rfl | 5, _, _ => rfl | 6, _, _ => rfl | 7, _, _ => rfl | 8, _, h => absurd rfl h | x + 9, h, _ => absurd h (by omega)) rfl rfl
        rw [List.set_set] at q
        exact q, HT.out.2.trans (Turned.of_grown (gb_set' _ _ _ _) hglo hghi)⟩ ?_
      clear HT x8 z8
      rintro Wwriter ⟨ht, htu⟩
      have HT := Shut.mk (And.intro ht htu)
      clear ht htu
      go_wp2_with fail
      go_roundw
      case rel => exact ⟨i + 1, e8, ts.set i (⟨⟨((c : Nat) : Int), ((c1 : Nat) : Int), T2, D3, ((c4 : Nat) : Int), ((c5 : Nat) : Int), ((c6 : Nat) : Int), (markPs c7 np), ((e7 : Nat) : Int)⟩, loc, cap⟩ : NR), by go_num, rfl, q9, by omega, by omega, ⟨HNX.out.1, HNX.out.2⟩, HT⟩
      case measure => simp [intOf]; omega
    · have e : i = n := by omega
      have hall : rs.take i = rs := List.take_of_length_le (by have := HN.out; omega)
      have hnil : rs.drop i = [] := List.drop_eq_nil_of_le (by have := HN.out; omega)
      have hlt' : ¬ (i : Int) < (n : Int) := by omega
      have HF : Shut (c = markK k (nds rs) ∧ ts = markRs k rs) := ⟨by have := HG.out.1; rwa [hall] at this, by have := HG.out.2; rwa [hall, hnil, List.append_nil] at this⟩
      clear hall hnil HG e
      go_wp2_with fail
      go_ret
      exact ⟨by rw [← HF.out.1]; rfl, by rw [← HF.out.2]; exact HT.out.1, HT.out.2⟩
end Go.Proofs.YthfmjjaollekiaaGreat
/- TreI: Marks that are found again in trees; marks over trees as values. -/
namespace Go.Proofs.YthfmjjaollekiaaGreat
set_option maxRecDepth 100000
open Go.RowKit
attribute [local go_sem ↓] Go.wp_at_zero Go.wp_at_succ

set_option maxHeartbeats 1000000 in
theorem heldPieceS_any (a : Option Addr) (k n ca : Nat) (w : World) (lo hi : Nat) (ha : RRow w a (pcs (markPs k n)) lo hi) (hn : k + 2 * n ≤ 1000000000) :
    Calls Tryz.prog 143 #[.slice a n ca, .int .i64 k] w fun e w' => e = .returned (.int .i64 (k + 2 * n : Nat)) ∧ Below w.heap.size w w' := by
  have HA := Shut.mk ha
  clear ha
  go_enter Tryz.func143, Tryz.ntmps143
  go_wp2_with fail
  go_loopw [1, 5] (fun c i wr => ∃ (j cc : Nat), i = .int .i64 j ∧ c = .int .i64 cc ∧ cc ≤ 1000000000 ∧ j ≤ n ∧ Shut (cc = k + 2 * j) ∧ Shut (Below w.heap.size w wr)) (fun _ i _ => n - (intOf i).toNat)
  case atStart => exact ⟨0, k, rfl, rfl, by omega, Nat.zero_le _, ⟨rfl⟩, ⟨Below.refl _ _⟩⟩
  case round =>
    obtain ⟨j, c, rfl, rfl, hc9, hj, HC, hb⟩ := hrel
    by_cases hlt : j < n
    · have j0 : (0 : Int) ≤ (j : Int) := by omega
      have j1 : (j : Int) < (n : Int) := by omega
      obtain ⟨b, off, rfl, lb, hcell⟩ := pcs_at (HA.out.below hb.out) (by rw [markPs_len]; omega)
      obtain ⟨d0, d1⟩ := hcell j (by rw [markPs_len]; exact hlt)
      rw [markPs_at k n j hlt] at d0 d1
      obtain ⟨c1, e1⟩ : ∃ c1, c1 = c + 1 := ⟨_, rfl⟩
      obtain ⟨c2, e2⟩ : ∃ c2, c2 = c + 2 := ⟨_, rfl⟩
      dsimp only at d0 d1
      rw [show k + 2 * j = c from HC.out.symm] at d0
      rw [show k + 2 * j + 1 = c1 by rw [e1, HC.out]] at d1
      have HCC : Shut (c2 = k + 2 * (j + 1)) := ⟨by have := HC.out; omega⟩
      have i1 : (c : Int) + 1 = (c1 : Int) := by omega
      have i2 : (c1 : Int) + 1 = (c2 : Int) := by omega
      have hb1 : c1 ≤ 1000000001 := by omega
      have hb2 : c2 ≤ 1000000000 := by have := HC.out; omega
      have h1 : ((c : Int) != (c : Int)) = false := by simp
      have h2 : ((c1 : Int) != (c1 : Int)) = false := by simp
      clear e1 e2 hcell
      go_wp2_with fail
      go_roundw
      case rel => exact ⟨j + 1, c2, by go_num, rfl, hb2, by omega, HCC, hb⟩
      case measure => simp [intOf]; omega
    · have HE : Shut (c = k + 2 * n) := ⟨by have := HC.out; omega⟩
      have hlt' : ¬ (j : Int) < (n : Int) := by omega
      go_wp2_with fail
      go_ret
      exact ⟨congrArg (fun x : Int => Ending.returned (.int .i64 x)) (show (c : Int) = _ by have := HE.out; omega), hb.out⟩
theorem markRs_at (k : Nat) (rs : List NR) (i : Nat) (h : i < rs.length) : (markRs k rs)[i]'(by rw [markRs_len]; exact h) = ⟨markN (markK k (nds (rs.take i))) rs[i].nd.pieces.length, rs[i].loc, rs[i].cap⟩ := by
  induction rs generalizing k i with
  | nil => simp at h
  | cons r rs ih =>
    cases i with
    | zero => rfl
    | succ i =>
      simp only [markRs, List.getElem_cons_succ, List.take_succ_cons, nds, List.map_cons, markK]
      exact ih _ i (by simpa using h)
set_option maxRecDepth 100000 in
set_option maxHeartbeats 8000000 in
theorem heldInodeS_any (a : Option Addr) (rs : List NR) (k ca : Nat) (w : World) (lo hi : Nat) (hm : TR w a (markRs k rs) lo hi) (hk : 1 ≤ k) (hn : markK k (nds rs) ≤ 50000000) :
    Calls Tryz.prog 107 #[.slice a rs.length ca, .int .i64 k] w fun e w' => e = .returned (.int .i64 (markK k (nds rs) : Nat)) ∧ Below w.heap.size w w' := by
  obtain ⟨n, hnx⟩ : ∃ n, n = rs.length := ⟨_, rfl⟩
  have HN := Shut.mk hnx
  have HK := Shut.mk hn
  have hn9 : n ≤ 50000000 := by
    have := markK_low k (nds rs)
    rw [nds_len] at this
    omega
  rw [← hnx]
  have HA := Shut.mk hm
  obtain ⟨K, hKe⟩ : ∃ K, K = markK k (nds rs) := ⟨_, rfl⟩
  rw [← hKe]
  have HKE := Shut.mk hKe
  clear hnx hm hn hKe
  go_enter Tryz.func107, Tryz.ntmps107
  go_wp2_with fail
  go_loopw [1, 5] (fun cv iv wr => ∃ (i c : Nat), iv = .int .i64 i ∧ cv = .int .i64 c ∧ c ≤ 50000000 ∧ 1 ≤ c ∧ i ≤ n ∧ Shut (c = markK k (nds (rs.take i))) ∧ Shut (Below w.heap.size w wr)) (fun _ iv _ => n - (intOf iv).toNat)
  case atStart => exact ⟨0, k, rfl, rfl, by have := HK.out; have := (markK_le k (nds rs)).1; omega, hk, Nat.zero_le _, ⟨rfl⟩, ⟨Below.refl _ _⟩⟩
  case round =>
    obtain ⟨i, c, rfl, rfl, hc9, hc1, hin, HC, hbl⟩ := hrel
    by_cases hlt : i < n
    · have j0 : (0 : Int) ≤ (i : Int) := by omega
      have j1 : (i : Int) < (n : Int) := by omega
      have hlr : i < rs.length := by have := HN.out; omega
      have hmr : i < (markRs k rs).length := by rw [markRs_len]; exact hlr
      obtain ⟨b, off, rfl, lb, hcell⟩ := TR.nat (HA.out.below hbl.out) (by omega)
      have hat := hcell i hmr
      have hprow := ((HA.out.below hbl.out).2 _ (List.getElem_mem hmr))
      rw [markRs_at k rs i hlr, ← HC.out] at hat hprow
      have hck : markK k (nds (rs.take (i + 1))) = c + 8 + 2 * rs[i].nd.pieces.length := by rw [List.take_succ_eq_append_getElem hlr, nds_snoc, markK_snoc, ← HC.out]
      have hcb : markK k (nds (rs.take (i + 1))) ≤ 50000000 := by
        have := markK_part k (nds rs) (i + 1)
        have e : (nds rs).take (i + 1) = nds (rs.take (i + 1)) := by unfold nds; rw [List.map_take]
        rw [e] at this
        have := HK.out
        omega
      generalize rs[i].nd.pieces.length = np at *
      generalize rs[i].loc = loc at *
      generalize rs[i].cap = cap at *
      unfold NAt markN at hat
      dsimp only at hat
      unfold markN at hprow
      dsimp only at hprow
      rw [markPs_len] at hat
      obtain ⟨c1, e1⟩ : ∃ c1, c1 = c + 1 := ⟨_, rfl⟩
      obtain ⟨c2, e2⟩ : ∃ c2, c2 = c + 2 := ⟨_, rfl⟩
      obtain ⟨c3, e3⟩ : ∃ c3, c3 = c + 3 := ⟨_, rfl⟩
      obtain ⟨c4, e4⟩ : ∃ c4, c4 = c + 4 := ⟨_, rfl⟩
      obtain ⟨c5, e5⟩ : ∃ c5, c5 = c + 5 := ⟨_, rfl⟩
      obtain ⟨c6, e6⟩ : ∃ c6, c6 = c + 6 := ⟨_, rfl⟩
      obtain ⟨c7, e7'⟩ : ∃ c7, c7 = c + 7 := ⟨_, rfl⟩
      obtain ⟨e7, h7⟩ : ∃ e7, e7 = c + 7 + 2 * np := ⟨_, rfl⟩
      obtain ⟨e8, h8⟩ : ∃ e8, e8 = c + 8 + 2 * np := ⟨_, rfl⟩
      rw [← e1, ← e2, ← e3, ← e4, ← e5, ← e6, ← h7] at hat
      rw [← e7'] at hprow
      have i1 : (c : Int) + 1 = (c1 : Int) := by omega
      have i2 : (c1 : Int) + 1 = (c2 : Int) := by omega
      have i3 : (c2 : Int) + 1 = (c3 : Int) := by omega
      have i4 : (c3 : Int) + 1 = (c4 : Int) := by omega
      have i5 : (c4 : Int) + 1 = (c5 : Int) := by omega
      have i6 : (c5 : Int) + 1 = (c6 : Int) := by omega
      have i7 : (c6 : Int) + 1 = (c7 : Int) := by omega
      have i8 : (e7 : Int) + 1 = (e8 : Int) := by omega
      have q1 : c1 ≤ 60000000 := by omega
      have q2 : c2 ≤ 60000000 := by omega
      have q3 : c3 ≤ 60000000 := by omega
      have q4 : c4 ≤ 60000000 := by omega
      have q5 : c5 ≤ 60000000 := by omega
      have q6 : c6 ≤ 60000000 := by omega
      have q7 : c7 ≤ 60000000 := by omega
      have q8 : e7 ≤ 60000000 := by omega
      have q9 : e8 ≤ 50000000 := by omega
      have q10 : ¬ (e7 : Int) < 0 := by omega
      have n0 : ((c : Int) != (c : Int)) = false := by simp
      have n1 : ((c1 : Int) != (c1 : Int)) = false := by simp
      have n4 : ((c4 : Int) != (c4 : Int)) = false := by simp
      have n5 : ((c5 : Int) != (c5 : Int)) = false := by simp
      have n6 : ((c6 : Int) != (c6 : Int)) = false := by simp
      have n7 : ((e7 : Int) != (e7 : Int)) = false := by simp
      have HMT := Shut.mk (fun W => markText_any c2 W (by omega) (by omega))
      have HPS := Shut.mk (fun W (hW : Below wr.heap.size wr W) => heldPieceS_any loc c7 np cap W lo hi (hprow.below hW) (by omega))
      rw [show c7 + 2 * np = e7 by omega] at HPS
      have HNX : Shut (e8 = markK k (nds (rs.take (i + 1)))) := ⟨by omega⟩
      have hd1 := dir_is c3
      have hd2 := dir_is' c3
      have n2 := same_text (mt c2)
      have n3 : (markDir c3 != markDir c3) = false := by cases markDir c3 <;> rfl
      generalize mt c2 = T2 at *
      generalize markDir c3 = D3 at *
      have HAT := Shut.mk hat
      obtain ⟨d0, d1, d2, _, _, _, _, _, _⟩ := hat
      clear hcell hprow hck hcb e1 e2 e3 e4 e5 e6 e7' h7 h8 HC
      go_wp2_with fail
      go_region_held3 (fun w' => w'.cell? ⟨b, off + i * 9 + 2, none⟩ = some (.string T2))
        (first | go_keep | assumption | (rw [hb1.cell (p := ⟨b, off + i * 9 + 2, none⟩) (by exact lb)]; assumption))
        ((go_at_call 109; refine (HMT.out _).mono ?_; rintro e w1 ⟨rfl, hb1⟩))
      all_goals
        have hb2 : Below wr.heap.size wr w1 := (Below.drew (Below.refl _ _)).trans hb1
        have HB2 := Shut.mk hb2
        have k3 := (hb2.cell (p := ⟨b, off + i * 9 + 3, none⟩) lb).trans HAT.out.2.2.2.1
        have k4 := (hb2.cell (p := ⟨b, off + i * 9 + 4, none⟩) lb).trans HAT.out.2.2.2.2.1
        have k5 := (hb2.cell (p := ⟨b, off + i * 9 + 5, none⟩) lb).trans HAT.out.2.2.2.2.2.1
        have k6 := (hb2.cell (p := ⟨b, off + i * 9 + 6, none⟩) lb).trans HAT.out.2.2.2.2.2.2.1
        have k7 := (hb2.cell (p := ⟨b, off + i * 9 + 7, none⟩) lb).trans HAT.out.2.2.2.2.2.2.2.1
        clear hb1 hb2 d0 d1 d2
        go_wp2_with fail
        refine (HPS.out _ HB2.out).mono ?_
        rintro e w2 ⟨rfl, hb3⟩
        have HB3 := Shut.mk (HB2.out.trans (hb3.mono HB2.out.size))
        have k8 := (HB3.out.cell (p := ⟨b, off + i * 9 + 8, none⟩) lb).trans HAT.out.2.2.2.2.2.2.2.2
        have HB4 := Shut.mk (hbl.out.trans (HB3.out.mono hbl.out.size))
        clear hb3 HB2 HB3 k3 k4 k5 k6 k7
        go_wp2_with fail
        go_roundw
        case rel => exact ⟨i + 1, e8, by go_num, rfl, q9, by omega, by omega, HNX, HB4⟩
        case measure => simp [intOf]; omega
    · have hall : rs.take i = rs := List.take_of_length_le (by have := HN.out; omega)
      have hlt' : ¬ (i : Int) < (n : Int) := by omega
      have HF : Shut (c = K) := ⟨by have := HC.out; rw [hall] at this; rw [this, HKE.out]⟩
      clear hall HC
      go_wp2_with fail
      go_ret
      exact ⟨congrArg (fun x : Nat => Ending.returned (.int .i64 (x : Int))) HF.out, hbl.out⟩
/-- A value that was marked from k on, where it was this tree. -/
def THeld (w : World) (v : Value) (k : Nat) (T : TM) (lo hi : Nat) : Prop := ∃ (a : Option Addr) (cap : Nat) (rs : List NR), v = .agg #[.slice a rs.length cap, .int .i64 T.next] ∧ nds rs = T.nodes ∧ TR w a (markRs k rs) lo hi
theorem THeld.turned {w w' : World} {v : Value} {k : Nat} {T : TM} {lo hi lo' hi' : Nat} (h : THeld w v k T lo hi) (t : Turned w w' lo' hi') (hd : hi ≤ lo' ∨ hi' ≤ lo) : THeld w' v k T lo hi := by
  obtain ⟨a, cap, rs, e, hr, h1⟩ := h
  exact ⟨a, cap, rs, e, hr, h1.turned t hd⟩
theorem THeld.below {w w' : World} {v : Value} {k : Nat} {T : TM} {lo hi : Nat} (h : THeld w v k T lo hi) (hb : Below w.heap.size w w') : THeld w' v k T lo hi := by
  obtain ⟨a, cap, rs, e, hr, h1⟩ := h
  exact ⟨a, cap, rs, e, hr, h1.below hb⟩
theorem markInodeS_nil (a : Option Addr) (k ca : Nat) (w : World) : Calls Tryz.prog 106 #[.slice a 0 ca, .int .i64 k] w fun e w' => e = .returned (.int .i64 k) ∧ w' = w := by
  go_enter Tryz.func106, Tryz.ntmps106
  go_wp2_with fail
  go_rounds 1
  go_ret
  exact ⟨rfl, rfl⟩
theorem mark_fit {T : TM} (hf : NFit T) (k : Nat) (hk : k ≤ 1000) : markK k T.nodes ≤ 50000000 := by
  have := (markK_le k T.nodes).2
  unfold NFit at hf
  omega
set_option maxHeartbeats 1000000 in
theorem markTree_val {w : World} {v : Value} {T : TM} {lo hi : Nat} (k : Nat) (h : TAns w v T lo hi) (hf : NFit T) (h1 : 1 ≤ k) (hk : k ≤ 1000) :
    Calls Tryz.prog 51 #[v, .int .i64 k] w fun e w' => e = .returned (.int .i64 (markK k T.nodes : Nat)) ∧ THeld w' v k T lo hi ∧ Turned w w' lo hi := by
  obtain ⟨a, cap, rs, rfl, hr, hc, h2⟩ := h
  have hmf := mark_fit hf k hk
  rw [← hr] at hmf
  have hsz : ∀ W, W = w.alloc (.cells #[.slice a rs.length cap, .int .i64 T.next] 26) → Below w.heap.size w W := fun W e => by rw [e]; exact (Below.refl _ _).alloc (Nat.le_refl _) _
  have HB := Shut.mk (hsz _ rfl)
  have HC : Shut (Calls Tryz.prog 106 #[.slice a rs.length cap, .int .i64 k] (w.alloc (.cells #[.slice a rs.length cap, .int .i64 T.next] 26)) fun e w' => e = .returned (.int .i64 (markK k T.nodes : Nat)) ∧ TR w' a (markRs k rs) lo hi ∧ Turned w w' lo hi) := by
    rcases h2 with rfl | ⟨g, rfl, hm⟩
    · refine ⟨(markInodeS_nil a k cap _).mono ?_⟩
      rintro e w' ⟨rfl, rfl⟩
      have hx : T.nodes = [] := by rw [← hr]; rfl
      exact ⟨by rw [hx]; rfl, GR.nil _ _ _ _ _, Turned.of_below HB.out lo hi⟩
    · refine ⟨(markInodeS_any g rs k cap _ lo hi (hm.below HB.out) h1 hmf).mono ?_⟩
      rintro e w' ⟨rfl, hw', ht⟩
      exact ⟨by rw [hr], hw'.gr, (Turned.of_below HB.out lo hi).trans ht⟩
  have HR := Shut.mk hr
  obtain ⟨m, hme⟩ : ∃ m, m = markK k T.nodes := ⟨_, rfl⟩
  have HME : m ≤ 50000000 := by rw [hme, ← hr]; exact hmf
  rw [← hme] at HC ⊢
  obtain ⟨nx, hnx⟩ : ∃ nx, nx = T.next := ⟨_, rfl⟩
  have HNX := Shut.mk hnx
  rw [← hnx] at HC HB ⊢
  obtain ⟨n, hnl⟩ : ∃ n, n = rs.length := ⟨_, rfl⟩
  have HNL := Shut.mk hnl
  rw [← hnl] at HC HB ⊢
  clear hmf hsz h2 hr hc hf hme hnx hnl
  go_enter Tryz.func51, Tryz.ntmps51
  go_wp2_with fail
  refine HC.out.mono ?_
  rintro e w2 ⟨rfl, ht, htu⟩
  have HT := Shut.mk (And.intro ht htu)
  clear ht htu HC
  go_wp2_with fail
  go_ret
  exact ⟨rfl, ⟨a, cap, rs, by rw [HNX.out, HNL.out], HR.out, HT.out.1⟩, HT.out.2⟩
set_option maxHeartbeats 1000000 in
theorem heldTree_val {w : World} {v : Value} {k : Nat} {T : TM} {lo hi : Nat} (h : THeld w v k T lo hi) (hf : NFit T) (h1 : 1 ≤ k) (hk : k ≤ 1000) :
    Calls Tryz.prog 52 #[v, .int .i64 k] w fun e w' => e = .returned (.int .i64 (markK k T.nodes : Nat)) ∧ Below w.heap.size w w' := by
  obtain ⟨a, cap, rs, rfl, hr, hm⟩ := h
  have hmf := mark_fit hf k hk
  rw [← hr] at hmf
  have HB := Shut.mk (show Below w.heap.size w (w.alloc (.cells #[.slice a rs.length cap, .int .i64 T.next] 26)) from (Below.refl _ _).alloc (Nat.le_refl _) _)
  have HC := Shut.mk (heldInodeS_any a rs k cap _ lo hi (hm.below HB.out) h1 hmf)
  rw [hr] at HC hmf
  obtain ⟨m, hme⟩ : ∃ m, m = markK k T.nodes := ⟨_, rfl⟩
  rw [← hme] at HC hmf ⊢
  generalize T.next = nx at *
  generalize rs.length = n at *
  have hm0 : ¬ (m : Int) < 0 := by omega
  clear hm hr hf hme
  go_enter Tryz.func52, Tryz.ntmps52
  go_wp2_with fail
  refine HC.out.mono ?_
  rintro e w2 ⟨rfl, hb⟩
  have HB2 := Shut.mk (HB.out.trans (hb.mono HB.out.size))
  clear hb HC
  go_wp2_with fail
  go_ret
  exact ⟨rfl, HB2.out⟩
end Go.Proofs.YthfmjjaollekiaaGreat
/- LawTrn: The walk of the exact law over TreeNew, over what is told of the program's own function. -/
namespace Go.Proofs.YthfmjjaollekiaaGreat
set_option maxRecDepth 100000
open Go.RowKit
attribute [local go_sem ↓] Go.wp_at_zero Go.wp_at_succ

/-- A tree that was answered, in a box of its own. -/
structure BZ (W : World) (g : Nat) (c : Option Addr) (m cc : Nat) (nx : Int) (T : TM) (lo : Nat) : Prop where
  kp : WCells W g [.slice c m cc, .int .i64 nx]
  cp : TAns W (.agg #[.slice c m cc, .int .i64 nx]) T lo g
theorem BZ.below {W W' : World} {c : Option Addr} {g m cc lo : Nat} {nx : Int} {T : TM} (h : BZ W g c m cc nx T lo) (hb : Below W.heap.size W W') : BZ W' g c m cc nx T lo := ⟨h.kp.grow hb, h.cp.below hb⟩
theorem BZ.turned {W W' : World} {c : Option Addr} {g m cc lo lo' hi' : Nat} {nx : Int} {T : TM} (h : BZ W g c m cc nx T lo) (t : Turned W W' lo' hi') (hd : g < lo') : BZ W' g c m cc nx T lo := ⟨h.kp.turned t (.inl hd), h.cp.turned t (.inl (Nat.le_of_lt hd))⟩
theorem BZ.new {W : World} {c : Option Addr} {m cc lo : Nat} {nx : Int} {T : TM} (h : TAns W (.agg #[.slice c m cc, .int .i64 nx]) T lo W.heap.size) (t : TypeId) : BZ (W.alloc (.cells #[.slice c m cc, .int .i64 nx] t)) W.heap.size c m cc nx T lo := ⟨wcells_new W #[.slice c m cc, .int .i64 nx] t, h.below ((Below.refl _ _).alloc (Nat.le_refl _) _)⟩
theorem tans_form {W : World} {u : Value} {T : TM} {lo hi : Nat} (h : TAns W u T lo hi) : ∃ c m cc, u = .agg #[.slice c m cc, .int .i64 T.next] := by
  obtain ⟨c, cc, ts, rfl, _⟩ := h
  exact ⟨c, _, cc, rfl⟩
theorem newX_fit : NFit newX := by unfold NFit; decide
attribute [local irreducible] newX markK
end Go.Proofs.YthfmjjaollekiaaGreat
/- SpnC: The walks of the models' CutUnits and JoinUnits. -/
namespace Go.Proofs.YthfmjjaollekiaaGreat
set_option maxRecDepth 100000
open Go.RowKit
attribute [local go_sem ↓] Go.wp_at_zero Go.wp_at_succ

/-- The bytes of a text that lie in a unit, in their order. -/
def unitB (k : Nat) (t : ByteArray) (n u : Nat) : ByteArray := ⟨(((List.range n).filter fun j => decide (unitAt k j = u)).map fun j => t.data.toList.getD j 0).toArray⟩
def cutL (k : Nat) (t : ByteArray) (n : Nat) : List ByteArray := (List.range k).map (unitB k t n)
def cutX (s : Int) (t : ByteArray) : List ByteArray × Bool := if schOk s = true ∧ t.size ≤ groupN s then (cutL (schK s) t t.size, true) else ([], false)
theorem cutL_len (k : Nat) (t : ByteArray) (n : Nat) : (cutL k t n).length = k := by simp [cutL]
theorem cutL_at {k : Nat} {t : ByteArray} {n u : Nat} (h : u < k) : (cutL k t n).getD u ⟨#[]⟩ = unitB k t n u := by
  unfold cutL
  rw [List.getD_eq_getElem?_getD, List.getElem?_map, List.getElem?_range h]; rfl
theorem unit_lt {k : Nat} (h : 0 < k) (i : Nat) : unitAt k i < k := Nat.mod_lt _ h
def byteB (c : UInt8) : ByteArray := ⟨#[c]⟩
theorem unitB_same {k : Nat} {t : ByteArray} {i u : Nat} (h : unitAt k i = u) : unitB k t (i + 1) u = ⟨(unitB k t i u).data ++ (byteB (t.data.toList.getD i 0)).data⟩ := by
  unfold unitB byteB
  rw [List.range_succ, List.filter_append]
  simp [h]
theorem unitB_other {k : Nat} {t : ByteArray} {i u : Nat} (h : unitAt k i ≠ u) : unitB k t (i + 1) u = unitB k t i u := by
  unfold unitB
  rw [List.range_succ, List.filter_append]
  simp [h]
theorem cutL_step {k : Nat} (hk : 0 < k) (t : ByteArray) (i : Nat) : (cutL k t i).set (unitAt k i) ⟨((cutL k t i).getD (unitAt k i) ⟨#[]⟩).data ++ (byteB (t.data.toList.getD i 0)).data⟩ = cutL k t (i + 1) := by
  rw [cutL_at (unit_lt hk i), ← unitB_same rfl]
  apply List.ext_getElem (by simp [cutL])
  intro u h1 h2
  rw [List.getElem_set]
  have hu : u < k := by simpa [cutL] using h2
  simp only [cutL, List.getElem_map, List.getElem_range]
  by_cases e : unitAt k i = u
  · rw [if_pos e, e]
  · rw [if_neg e, unitB_other e]
theorem cutL_0 (k : Nat) (t : ByteArray) : cutL k t 0 = List.replicate k ⟨#[]⟩ := by
  apply List.ext_getElem (by simp [cutL])
  intro u h1 h2
  simp [cutL, unitB]
theorem byte_is {t : ByteArray} {i : Nat} (h : i < t.size) : t.extract i (i + 1) = byteB (t.data.toList.getD i 0) := by
  apply ByteArray.ext
  have h' : i < t.data.size := h
  simp only [byteB, ByteArray.data_extract]
  apply Array.ext
  · simp; omega
  · intro j h1 h2
    have hj : j = 0 := by simp at h2; omega
    subst hj
    simp
    rw [Array.getElem?_eq_getElem h', Option.getD_some]
theorem byte_size {t : ByteArray} {i : Nat} (h : i < t.size) : (t.extract i (i + 1)).size = 1 := by rw [byte_is h]; rfl
theorem byte_cat {x : ByteArray} {t : ByteArray} {i : Nat} (h : i < t.size) : x ++ t.extract i (i + 1) = ⟨x.data ++ (byteB (t.data.toList.getD i 0)).data⟩ := by
  rw [byte_is h]
  apply ByteArray.ext
  simp
theorem unitB_size (k : Nat) (t : ByteArray) (n u : Nat) : (unitB k t n u).size ≤ n := by
  have h := List.length_filter_le (fun j => decide (unitAt k j = u)) (List.range n)
  simp only [List.length_range] at h
  show (List.map _ _).toArray.size ≤ n
  rw [List.size_toArray, List.length_map]
  exact h
theorem WCells.drawn {w : World} {g : Nat} {L : List Value} (h : WCells w g L) : WCells w.drew g L := h.below (Below.drew (Below.refl w.heap.size w)) h.1
/-- What such an answer is. -/
def TPost8 (R : List ByteArray × Bool) (w : World) (e : Ending) (w' : World) : Prop := ∃ v, e = .returned (.tuple #[v, .bool R.2]) ∧ SAns w' v R.1 w.heap.size w'.heap.size ∧ Below w.heap.size w w'
end Go.Proofs.YthfmjjaollekiaaGreat
/- HexM: Plain facts on hexadecimal figures. -/
namespace Go.Proofs.YthfmjjaollekiaaGreat.W
open Go.PlainAid (bt)

/-- The figure of a number below 16. -/
def hfI (x : Int) : Int := if x < 10 then 48 + x else 87 + x
theorem hfI_bd (x : Int) (h0 : 0 ≤ x) (h1 : x < 16) : 0 ≤ hfI x ∧ hfI x < 256 := by unfold hfI; split <;> omega
def hf (n : Nat) : UInt8 := UInt8.ofNat (hfI n).toNat
theorem hf_toNat (n : Nat) (h : n < 16) : ((hf n).toNat : Int) = hfI n := by
  have := hfI_bd n (by omega) (by omega)
  unfold hf; simp; omega
def hexL (l : List UInt8) : List UInt8 := l.flatMap fun b => [hf (b.toNat / 16), hf (b.toNat % 16)]
theorem hexL_len (l : List UInt8) : (hexL l).length = 2 * l.length := by
  induction l with
  | nil => rfl
  | cons b l ih => simp [hexL] at ih ⊢; omega
theorem hexL_snoc (l : List UInt8) (b : UInt8) : hexL (l ++ [b]) = hexL l ++ [hf (b.toNat / 16), hf (b.toNat % 16)] := by simp [hexL]

/-- The first k bytes of a text. -/
def firstK (s : ByteArray) (k : Nat) : List UInt8 := s.data.toList.take k
theorem firstK_len (s : ByteArray) (k : Nat) (h : k ≤ s.size) : (firstK s k).length = k := by
  have e : s.data.size = s.size := rfl
  simp [firstK]; omega
theorem firstK_all (s : ByteArray) (k : Nat) (h : s.size ≤ k) : firstK s k = s.data.toList := by
  have e : s.data.size = s.size := rfl
  unfold firstK; exact List.take_of_length_le (by simp; omega)
theorem firstK_step (s : ByteArray) (k : Nat) (h : k < s.size) : ∃ b : UInt8, firstK s (k + 1) = firstK s k ++ [b] ∧ bt s k = (b.toNat : Int) := by
  refine ⟨s[k], ?_, ?_⟩
  · unfold firstK; rw [List.take_succ_eq_append_getElem (by simpa using h)]; rfl
  · unfold bt; rw [dif_pos h]
end Go.Proofs.YthfmjjaollekiaaGreat.W
namespace Go.Proofs.YthfmjjaollekiaaGreat
set_option maxRecDepth 100000
open Go.RowKit
open Go.PlainAid (bt)
theorem bt_words (s : ByteArray) (k : Nat) : IntKind.i64.wrap (bt s k) = bt s k ∧ (bt s k).tdiv 16 = bt s k / 16 ∧ IntKind.i64.wrap (bt s k / 16) = bt s k / 16 ∧ (bt s k).tmod 16 = bt s k % 16 ∧ IntKind.i64.wrap (bt s k % 16) = bt s k % 16 := by
  have b0 := Go.PlainAid.bt_nonneg s k
  have b1 := Go.PlainAid.bt_le s k
  refine ⟨IntWalk.i64_in _ ⟨by omega, by omega⟩, Int.tdiv_eq_ediv_of_nonneg b0, IntWalk.i64_in _ ⟨by omega, by omega⟩, Int.tmod_eq_emod_of_nonneg b0, IntWalk.i64_in _ ⟨by omega, by omega⟩⟩
theorem bt_words8 (s : ByteArray) (k : Nat) : IntKind.u8.wrap (bt s k / 16) = bt s k / 16 ∧ IntKind.u8.wrap (bt s k % 16) = bt s k % 16 := by
  have b0 := Go.PlainAid.bt_nonneg s k
  have b1 := Go.PlainAid.bt_le s k
  exact ⟨IntWalk.u8_in _ ⟨by omega, by omega⟩, IntWalk.u8_in _ ⟨by omega, by omega⟩⟩
/-- A byte of a string. -/
theorem index_str (s : ByteArray) (k : Nat) (h : k < s.size) (w : World) :
    (Instr.index 9 (.string s) (.int .i64 (k : Int))).run Tryz.prog w = .ok (.int .u8 (bt s k)) w := by
  have hb := Go.PlainAid.get_bt s k h
  rw [run_index_string _ 9 s .i64 k Tryz.underlying9, dif_pos ⟨by omega, by omega⟩, ← hb]
  rfl
/-- Behind the two figures of byte k. -/
theorem hex_own {B k : Nat} {s : ByteArray} {w1 : World} {v' : Value} {x y : Int} (hk : k < s.size) (hx : x = W.hfI (bt s k / 16)) (hy : y = W.hfI (bt s k % 16))
    (h : w1.ownsRow B 5 1 v' (2 * k + 2) (bv (W.hexL (W.firstK s k)) ++ [.int .u8 x, .int .u8 y])) :
    w1.ownsRow B 5 1 v' (2 * (k + 1)) (bv (W.hexL (W.firstK s (k + 1)))) := by
  obtain ⟨b, hb, e⟩ := W.firstK_step s k hk
  have hlt := b.toNat_lt
  have e1 : Value.int .u8 x = .int .u8 ((W.hf (b.toNat / 16)).toNat : Int) := by
    rw [W.hf_toNat _ (by omega), hx, e]; congr 2
  have e2 : Value.int .u8 y = .int .u8 ((W.hf (b.toNat % 16)).toNat : Int) := by
    rw [W.hf_toNat _ (by omega), hy, e]; congr 2
  have e3 : bv (W.hexL (W.firstK s k)) ++ [.int .u8 x, .int .u8 y] = bv (W.hexL (W.firstK s (k + 1))) := by
    rw [hb, W.hexL_snoc, e1, e2]; simp [bv]
  rw [e3] at h
  exact h
end Go.Proofs.YthfmjjaollekiaaGreat
/- SpnD: The walk of the model's JoinUnits. -/
namespace Go.Proofs.YthfmjjaollekiaaGreat
set_option maxRecDepth 100000
open Go.RowKit
attribute [local go_sem ↓] Go.wp_at_zero Go.wp_at_succ

def joinAt (k : Nat) (U : List ByteArray) (i : Nat) : UInt8 := (U.getD (unitAt k i) ⟨#[]⟩).data.toList.getD (placeIn k i) 0
def joinL (k : Nat) (U : List ByteArray) (n : Nat) : List UInt8 := (List.range n).map (joinAt k U)
def joinX (s : Int) (U : List ByteArray) (n : Int) : ByteArray × Bool := if schOk s = true ∧ U.length = schK s ∧ 0 ≤ n ∧ n ≤ (groupN s : Int) then (⟨(joinL (schK s) U n.toNat).toArray⟩, true) else (⟨#[]⟩, false)
theorem joinX_no {s : Int} {U : List ByteArray} {n : Int} (h : ¬ (schOk s = true ∧ U.length = schK s ∧ 0 ≤ n ∧ n ≤ (groupN s : Int))) : joinX s U n = (⟨#[]⟩, false) := if_neg h
def JoinPost (R : ByteArray × Bool) (w : World) (e : Ending) (w' : World) : Prop := e = .returned (.tuple #[.string R.1, .bool R.2]) ∧ Below w.heap.size w w'
theorem joinL_len (k : Nat) (U : List ByteArray) (n : Nat) : (joinL k U n).length = n := by simp [joinL]
theorem joinL_succ (k : Nat) (U : List ByteArray) (n : Nat) : bv (joinL k U (n + 1)) = bv (joinL k U n) ++ [.int .u8 ((joinAt k U n).toNat : Int)] := by
  unfold joinL; rw [List.range_succ, List.map_append]; simp [bv]
theorem get_byte (s : ByteArray) (k : Nat) (h : k < s.size) : Go.PlainAid.bt s k = ((s.data.toList.getD k 0).toNat : Int) := by
  unfold Go.PlainAid.bt
  rw [dif_pos h]
  have : s.data.toList.getD k 0 = s[k] := by
    have hk : k < s.data.size := h
    rw [List.getD_eq_getElem?_getD, Array.getElem?_toList, Array.getElem?_eq_getElem hk]
    rfl
  rw [this]
theorem get_none (s : ByteArray) (k : Nat) (h : ¬ k < s.size) : s.data.toList.getD k 0 = 0 := by
  have hk : s.data.toList.length ≤ k := by simpa using h
  rw [List.getD_eq_getElem?_getD, List.getElem?_eq_none hk]; rfl
theorem units_cells {w : World} {a : Option Addr} {L : List ByteArray} {lo hi : Nat} (h : RRow w a (tv L) lo hi) (hp : 0 < L.length) : ∃ b off, a = some ⟨b, off, none⟩ ∧ b < w.heap.size ∧ ∀ j, j < L.length → w.cell? ⟨b, off + j, none⟩ = some (.string (L.getD j ⟨#[]⟩)) := by
  obtain ⟨b, off, e, _, _, hb, hc⟩ := h (by rw [tv_len]; exact hp)
  exact ⟨b, off, e, hb, fun j hj => hc j _ (tv_get L j hj)⟩
end Go.Proofs.YthfmjjaollekiaaGreat
/- NestC: Rows of rows of numbers: the laws' own comparisons, marks that are laid into one, and found again. -/
namespace Go.Proofs.YthfmjjaollekiaaGreat
set_option maxRecDepth 100000
open Go.RowKit
attribute [local go_sem ↓] Go.wp_at_zero Go.wp_at_succ

set_option maxHeartbeats 1000000 in
theorem sameInts_same (a b : Option Addr) (xs : List Int) (ca cb : Nat) (w : World) (ha : CRow w a (ics xs)) (hb : CRow w b (ics xs)) (hl : xs.length ≤ 1048576) :
    Calls Tryz.prog 43 #[.slice a xs.length ca, .slice b xs.length cb] w fun e w' => e = .returned (.bool true) ∧ Below w.heap.size w w' := by
  have HA : Hid (CRow w a (ics xs)) := ha
  have HB : Hid (CRow w b (ics xs)) := hb
  clear ha hb
  go_enter Tryz.func43, Tryz.ntmps43
  go_wp2_with fail
  go_loopw [5] (fun i wr => ∃ (k : Nat), i = .int .i64 k ∧ k ≤ xs.length ∧ Below w.heap.size w wr) (fun i _ => xs.length - (intOf i).toNat)
  case atStart => exact ⟨0, rfl, Nat.zero_le _, Below.refl _ _⟩
  case round =>
    obtain ⟨k, rfl, hk, hbl⟩ := hrel
    by_cases hlt : k < xs.length
    · obtain ⟨b1, o1, rfl, l1, hc1⟩ := crow_int (HA.out.stays hbl) (by omega)
      obtain ⟨b2, o2, rfl, l2, hc2⟩ := crow_int (HB.out.stays hbl) (by omega)
      have d0 := hc1 k hlt
      have e0 := hc2 k hlt
      have k0 : (0 : Int) ≤ (k : Int) := by omega
      have k1 : (k : Int) < (xs.length : Int) := by omega
      have hbn : ∀ q, Below w.heap.size w (wr.drewN q) := fun q => hbl.trans ⟨rfl, rfl, rfl, Nat.le_refl _, fun _ _ => rfl⟩
      generalize xs.getD k 0 = x at d0 e0
      clear hc1 hc2 hbl
      go_wp2_with fail
      go_quiet (fail)
      go_wp2_with fail
      go_roundw
      case rel => exact ⟨k + 1, by go_num, by omega, hbn _⟩
      case measure => simp [intOf]; omega
    · have e : k = xs.length := by omega
      subst e
      go_wp2_with fail
      go_ret
      exact ⟨rfl, hbl⟩
end Go.Proofs.YthfmjjaollekiaaGreat
/- SpnE: Rows of numbers as values: their comparison, marks that are laid and found again. -/
namespace Go.Proofs.YthfmjjaollekiaaGreat
set_option maxRecDepth 100000
open Go.RowKit

theorem spansX_len (s n : Int) : (spansX s n).length ≤ 1001 := by
  unfold spansX
  split
  · rename_i h
    unfold spanL
    rw [List.length_append, List.length_replicate, List.length_singleton]
    have := Nat.div_le_self (n.toNat - 1) (groupN s)
    omega
  · exact Nat.zero_le _
end Go.Proofs.YthfmjjaollekiaaGreat
/- DrEdB: The model's draws of a record. -/
namespace Go.Proofs.YthfmjjaollekiaaGreat
set_option maxRecDepth 100000
open Go.RowKit
attribute [local go_sem ↓] Go.wp_at_zero Go.wp_at_succ

theorem epl_ {k n o : Int} {p t : ByteArray} (h1 : p.size ≤ 16 ∧ noZ p = true) (h2 : t.size ≤ 16 ∧ noZ t = true) : EPl ⟨k, p, t, n, o⟩ := ⟨h1, h2⟩
theorem pl_none : (⟨#[]⟩ : ByteArray).size ≤ 16 ∧ noZ ⟨#[]⟩ = true := ⟨by decide, rfl⟩
theorem pl_root : (⟨#[47]⟩ : ByteArray).size ≤ 16 ∧ noZ ⟨#[47]⟩ = true := ⟨by decide, rfl⟩
theorem de_new {w0 w : World} {g B len cap A : Nat} {a : Option Addr} (X : EM) (T : TypeId) (hc : Cur w g B a len cap) (hA : WCells w A (ecells zeroE)) (hg : w0.grownBy w (some g)) (h1 : w0.heap.size ≤ A) (h2 : g < w0.heap.size) (hp : EPl X) :
    DE w0 (w.alloc (.cells #[.int .i64 X.kind, .string X.path, .string X.dest, .int .i64 X.num, .int .i64 X.who] T)) g B a len cap A w.heap.size X :=
  ⟨hc.below ((Below.refl _ _).alloc (Nat.le_refl _) _), hA.alloc _, wcells_new w #[.int .i64 X.kind, .string X.path, .string X.dest, .int .i64 X.num, .int .i64 X.who] T, gb_two hg (gb_below ((Below.refl _ _).alloc (Nat.le_refl _) _)), by have := hA.1; omega, h1, hg.size, h2, hp⟩
set_option maxRecDepth 100000 in
set_option maxHeartbeats 4000000 in
theorem l11Edit_any (w : World) (g B : Nat) (a : Option Addr) (len cap : Nat) (hc : Cur w g B a len cap) :
    Calls Tryz.prog 74 #[.pointer (some ⟨g, 0, none⟩)] w fun e w' => EdDrawn w g B a len cap e w' := by
  have HC := Shut.mk hc
  have hgw := Shut.mk hc.2.1
  have HA0 : Shut (WCells (w.alloc (.cells #[.int .i64 0, .string ⟨#[]⟩, .string ⟨#[]⟩, .int .i64 0, .int .i64 0] 42)) w.heap.size (ecells zeroE)) := ⟨wcells_new w #[.int .i64 0, .string ⟨#[]⟩, .string ⟨#[]⟩, .int .i64 0, .int .i64 0] 42⟩
  clear hc
  go_enter Tryz.func74, Tryz.ntmps74
  go_upto_region 1 with fail
  obtain ⟨w0, hw0⟩ : ∃ w0, w0 = w.alloc (.cells #[.int .i64 0, .string ⟨#[]⟩, .string ⟨#[]⟩, .int .i64 0, .int .i64 0] 42) := ⟨_, rfl⟩
  have HB0 : Shut (Below w.heap.size w w0) := ⟨by rw [hw0]; exact (Below.refl _ _).alloc (Nat.le_refl _) _⟩
  rw [← hw0] at HA0 ⊢
  clear hw0
  have HC0 := Shut.mk (HC.out.below HB0.out)
  have hlit : (#[.int .i64 1, .int .i64 1, .int .i64 1, .int .i64 2, .int .i64 2, .int .i64 2, .int .i64 3, .int .i64 4, .int .i64 5, .int .i64 6, .int .i64 7, .int .i64 7, .int .i64 7, .int .i64 8, .int .i64 9, .int .i64 10] : Array Value) = (List.map (Value.int .i64 ·) [1, 1, 1, 2, 2, 2, 3, 4, 5, 6, 7, 7, 7, 8, 9, 10]).toArray := rfl
  have HL := Shut.mk (new_ints w0 3 [1, 1, 1, 2, 2, 2, 3, 4, 5, 6, 7, 7, 7, 8, 9, 10])
  rw [← hlit] at HL
  clear hlit
  go_upto_region 2 with (first
    | (go_at_call 122; refine (l01PickInt_any _ g B a len cap w0.heap.size 16 (by decide) (by decide) (by have := HC0.out.2.1; omega) HL.out (HC0.out.below ((Below.refl _ _).alloc (Nat.le_refl _) _))).mono ?_; rintro e w1 ⟨kind, rfl, hc1, hg1⟩; have HC1 := Shut.mk hc1; have HG1 := Shut.mk (gb_two (gb_below (HB0.out.alloc HB0.out.size _)) hg1); have HA1 := Shut.mk ((HA0.out.alloc _).apart hg1 (by have := hgw.out; omega)); clear hc1 hg1)
    | (go_at_call 123; refine (l09Path_any _ g B a len cap HC1.out).mono ?_; rintro e w2 ⟨path, rfl, hp, hc2, hg2⟩; have HP := Shut.mk hp; have HC2 := Shut.mk hc2; have HG2 := Shut.mk (gb_two HG1.out hg2); have HA2 := Shut.mk (HA1.out.apart hg2 (by have := hgw.out; omega)); clear hp hc2 hg2))
  have H9 := Shut.mk (de_new ⟨kind, path, ⟨#[]⟩, 0, 0⟩ 42 HC2.out HA2.out HG2.out (Nat.le_refl _) hgw.out (epl_ HP.out pl_none))
  dsimp only at H9
  generalize w2.alloc (.cells #[.int .i64 kind, .string path, .string ⟨#[]⟩, .int .i64 0, .int .i64 0] 42) = W at H9 ⊢
  generalize w2.heap.size = E at H9 ⊢
  have hne1 : ¬ (w.heap.size = E) := H9.out.ne
  have hne2 : ¬ (E = w.heap.size) := fun h => H9.out.ne h.symm
  clear HC2 HA2 HG2 HC1 HA1 HG1 HC0 HA0 HB0 HL HC hgw
  obtain ⟨c0, c1, c2, c3, c4⟩ := H9.out.got
  obtain ⟨f0, f1, f2, f3, f4⟩ := H9.out.may
  dsimp only at c0 c1 c2 c3 c4
  by_cases q2 : kind = 2
  · have bt2 : (kind == 2) = true := by simp; omega
    have b5 : (kind == 5) = false := by simp; omega
    have b6 : (kind == 6) = false := by simp; omega
    clear q2
    go_upto_region 16 with (go_at_call 76; refine (l01Below_any W g B a len cap 3 (by omega) H9.out.cur).mono ?_; rintro e w4 ⟨x, rfl, x0, x1, hc4, hg4⟩; have x2 : x ≤ 3 := (by omega); replace H9 := Shut.mk (H9.out.turn hc4 hg4); clear hc4 hg4 c0 c1 c2 c3 c4 f0 f1 f2 f3 f4; obtain ⟨c0, c1, c2, c3, c4⟩ := H9.out.got; obtain ⟨f0, f1, f2, f3, f4⟩ := H9.out.may; dsimp only at c0 c1 c2 c3 c4)
    obtain ⟨W4, hW4⟩ : ∃ W4, W4 = World.setCell w4 ⟨E, 4, none⟩ (.int .i64 (1 + x)) := ⟨_, rfl⟩
    rw [← hW4]
    replace H9 : Shut (DE w W4 g B a len cap w.heap.size E ⟨kind, path, ⟨#[]⟩, 0, 1 + x⟩) := ⟨by rw [hW4]; exact H9.out.set 4 _ _ (by omega) rfl (epl_ HP.out pl_none)⟩
    clear hW4 c0 c1 c2 c3 c4 f0 f1 f2 f3 f4
    obtain ⟨c0, c1, c2, c3, c4⟩ := H9.out.got
    obtain ⟨f0, f1, f2, f3, f4⟩ := H9.out.may
    obtain ⟨⟨r0, s0⟩, ⟨r1, s1⟩, ⟨r2, s2⟩, ⟨r3, s3⟩, ⟨r4, s4⟩⟩ := H9.out.room
    dsimp only at c0 c1 c2 c3 c4
    go_wp2_with fail
    have HD := Shut.mk (H9.out.done)
    change bodyPost _ _ _ _ _ (put5 W4 w.heap.size ⟨kind, path, ⟨#[]⟩, 0, 1 + x⟩)
    generalize put5 W4 w.heap.size ⟨kind, path, ⟨#[]⟩, 0, 1 + x⟩ = w8 at HD ⊢
    obtain ⟨k0, -⟩ := HD.out.2.1.2 0 _ rfl
    obtain ⟨k1, -⟩ := HD.out.2.1.2 1 _ rfl
    obtain ⟨k2, -⟩ := HD.out.2.1.2 2 _ rfl
    obtain ⟨k3, -⟩ := HD.out.2.1.2 3 _ rfl
    obtain ⟨k4, -⟩ := HD.out.2.1.2 4 _ rfl
    dsimp only at k0 k1 k2 k3 k4
    refine bodyPost_ret (v := ev ⟨kind, path, ⟨#[]⟩, 0, 1 + x⟩) (by simp [results, Tryz.results74, go_sem, k0, k1, k2, k3, k4]) rfl ⟨_, rfl, HD.out.1, HD.out.2.2.1, HD.out.2.2.2⟩
  have b2 : (kind == 2) = false := by simp; omega
  by_cases q9 : kind = 9
  · have bt9 : (kind == 9) = true := by simp; omega
    have b5 : (kind == 5) = false := by simp; omega
    have b6 : (kind == 6) = false := by simp; omega
    clear q9
    go_upto_region 16 with (go_at_call 76; refine (l01Below_any W g B a len cap 3 (by omega) H9.out.cur).mono ?_; rintro e w4 ⟨x, rfl, x0, x1, hc4, hg4⟩; have x2 : x ≤ 3 := (by omega); replace H9 := Shut.mk (H9.out.turn hc4 hg4); clear hc4 hg4 c0 c1 c2 c3 c4 f0 f1 f2 f3 f4; obtain ⟨c0, c1, c2, c3, c4⟩ := H9.out.got; obtain ⟨f0, f1, f2, f3, f4⟩ := H9.out.may; dsimp only at c0 c1 c2 c3 c4)
    obtain ⟨W4, hW4⟩ : ∃ W4, W4 = World.setCell w4 ⟨E, 4, none⟩ (.int .i64 (1 + x)) := ⟨_, rfl⟩
    rw [← hW4]
    replace H9 : Shut (DE w W4 g B a len cap w.heap.size E ⟨kind, path, ⟨#[]⟩, 0, 1 + x⟩) := ⟨by rw [hW4]; exact H9.out.set 4 _ _ (by omega) rfl (epl_ HP.out pl_none)⟩
    clear hW4 c0 c1 c2 c3 c4 f0 f1 f2 f3 f4
    obtain ⟨c0, c1, c2, c3, c4⟩ := H9.out.got
    obtain ⟨f0, f1, f2, f3, f4⟩ := H9.out.may
    obtain ⟨⟨r0, s0⟩, ⟨r1, s1⟩, ⟨r2, s2⟩, ⟨r3, s3⟩, ⟨r4, s4⟩⟩ := H9.out.room
    dsimp only at c0 c1 c2 c3 c4
    go_wp2_with fail
    have HD := Shut.mk (H9.out.done)
    change bodyPost _ _ _ _ _ (put5 W4 w.heap.size ⟨kind, path, ⟨#[]⟩, 0, 1 + x⟩)
    generalize put5 W4 w.heap.size ⟨kind, path, ⟨#[]⟩, 0, 1 + x⟩ = w8 at HD ⊢
    obtain ⟨k0, -⟩ := HD.out.2.1.2 0 _ rfl
    obtain ⟨k1, -⟩ := HD.out.2.1.2 1 _ rfl
    obtain ⟨k2, -⟩ := HD.out.2.1.2 2 _ rfl
    obtain ⟨k3, -⟩ := HD.out.2.1.2 3 _ rfl
    obtain ⟨k4, -⟩ := HD.out.2.1.2 4 _ rfl
    dsimp only at k0 k1 k2 k3 k4
    refine bodyPost_ret (v := ev ⟨kind, path, ⟨#[]⟩, 0, 1 + x⟩) (by simp [results, Tryz.results74, go_sem, k0, k1, k2, k3, k4]) rfl ⟨_, rfl, HD.out.1, HD.out.2.2.1, HD.out.2.2.2⟩
  have b9 : (kind == 9) = false := by simp; omega
  by_cases q3 : kind = 3
  · have bt3 : (kind == 3) = true := by simp; omega
    have b5 : (kind == 5) = false := by simp; omega
    have b6 : (kind == 6) = false := by simp; omega
    clear q3
    go_upto_region 16 with (go_at_call 123; refine (l09Path_any W g B a len cap H9.out.cur).mono ?_; rintro e w4 ⟨t, rfl, ht, hc4, hg4⟩; have HT := Shut.mk ht; replace H9 := Shut.mk (H9.out.turn hc4 hg4); clear ht hc4 hg4 c0 c1 c2 c3 c4 f0 f1 f2 f3 f4; obtain ⟨c0, c1, c2, c3, c4⟩ := H9.out.got; obtain ⟨f0, f1, f2, f3, f4⟩ := H9.out.may; dsimp only at c0 c1 c2 c3 c4)
    obtain ⟨W4, hW4⟩ : ∃ W4, W4 = World.setCell w4 ⟨E, 2, none⟩ (.string t) := ⟨_, rfl⟩
    rw [← hW4]
    replace H9 : Shut (DE w W4 g B a len cap w.heap.size E ⟨kind, path, t, 0, 0⟩) := ⟨by rw [hW4]; exact H9.out.set 2 _ _ (by omega) rfl (epl_ HP.out HT.out)⟩
    clear hW4 c0 c1 c2 c3 c4 f0 f1 f2 f3 f4
    obtain ⟨c0, c1, c2, c3, c4⟩ := H9.out.got
    obtain ⟨f0, f1, f2, f3, f4⟩ := H9.out.may
    obtain ⟨⟨r0, s0⟩, ⟨r1, s1⟩, ⟨r2, s2⟩, ⟨r3, s3⟩, ⟨r4, s4⟩⟩ := H9.out.room
    dsimp only at c0 c1 c2 c3 c4
    go_wp2_with fail
    have HD := Shut.mk (H9.out.done)
    change bodyPost _ _ _ _ _ (put5 W4 w.heap.size ⟨kind, path, t, 0, 0⟩)
    generalize put5 W4 w.heap.size ⟨kind, path, t, 0, 0⟩ = w8 at HD ⊢
    obtain ⟨k0, -⟩ := HD.out.2.1.2 0 _ rfl
    obtain ⟨k1, -⟩ := HD.out.2.1.2 1 _ rfl
    obtain ⟨k2, -⟩ := HD.out.2.1.2 2 _ rfl
    obtain ⟨k3, -⟩ := HD.out.2.1.2 3 _ rfl
    obtain ⟨k4, -⟩ := HD.out.2.1.2 4 _ rfl
    dsimp only at k0 k1 k2 k3 k4
    refine bodyPost_ret (v := ev ⟨kind, path, t, 0, 0⟩) (by simp [results, Tryz.results74, go_sem, k0, k1, k2, k3, k4]) rfl ⟨_, rfl, HD.out.1, HD.out.2.2.1, HD.out.2.2.2⟩
  have b3 : (kind == 3) = false := by simp; omega
  by_cases q5 : kind = 5
  · have bt5 : (kind == 5) = true := by simp; omega
    have b6 : (kind == 6) = false := by simp; omega
    clear q5
    go_upto_region 16 with (go_at_call 76; refine (l01Below_any W g B a len cap 3 (by omega) H9.out.cur).mono ?_; rintro e w4 ⟨x, rfl, x0, x1, hc4, hg4⟩; have x2 : x ≤ 3 := (by omega); replace H9 := Shut.mk (H9.out.turn hc4 hg4); clear hc4 hg4 c0 c1 c2 c3 c4 f0 f1 f2 f3 f4; obtain ⟨c0, c1, c2, c3, c4⟩ := H9.out.got; obtain ⟨f0, f1, f2, f3, f4⟩ := H9.out.may; dsimp only at c0 c1 c2 c3 c4)
    obtain ⟨W4, hW4⟩ : ∃ W4, W4 = World.setCell w4 ⟨E, 3, none⟩ (.int .i64 (1 + x)) := ⟨_, rfl⟩
    rw [← hW4]
    replace H9 : Shut (DE w W4 g B a len cap w.heap.size E ⟨kind, path, ⟨#[]⟩, 1 + x, 0⟩) := ⟨by rw [hW4]; exact H9.out.set 3 _ _ (by omega) rfl (epl_ HP.out pl_none)⟩
    clear hW4 c0 c1 c2 c3 c4 f0 f1 f2 f3 f4
    obtain ⟨c0, c1, c2, c3, c4⟩ := H9.out.got
    obtain ⟨f0, f1, f2, f3, f4⟩ := H9.out.may
    obtain ⟨⟨r0, s0⟩, ⟨r1, s1⟩, ⟨r2, s2⟩, ⟨r3, s3⟩, ⟨r4, s4⟩⟩ := H9.out.room
    dsimp only at c0 c1 c2 c3 c4
    have HO := Shut.mk (l01Once_any W4 g B a len cap 3 (by omega) H9.out.cur)
    go_wp2_with (go_at_call 75; refine HO.out.mono ?_; rintro e w6 ⟨bb, rfl, hc6, hg6⟩; replace H9 := Shut.mk (H9.out.turn hc6 hg6); clear c0 c1 c2 c3 c4 f0 f1 f2 f3 f4 r0 r1 r2 r3 r4 s0 s1 s2 s3 s4 hc6 hg6; obtain ⟨c0, c1, c2, c3, c4⟩ := H9.out.got; obtain ⟨f0, f1, f2, f3, f4⟩ := H9.out.may; obtain ⟨⟨r0, s0⟩, ⟨r1, s1⟩, ⟨r2, s2⟩, ⟨r3, s3⟩, ⟨r4, s4⟩⟩ := H9.out.room; dsimp only at c0 c1 c2 c3 c4; cases bb)
    · have HD := Shut.mk (H9.out.done)
      change bodyPost _ _ _ _ _ (put5 w6 w.heap.size ⟨kind, path, ⟨#[]⟩, 1 + x, 0⟩)
      generalize put5 w6 w.heap.size ⟨kind, path, ⟨#[]⟩, 1 + x, 0⟩ = w8 at HD ⊢
      obtain ⟨k0, -⟩ := HD.out.2.1.2 0 _ rfl
      obtain ⟨k1, -⟩ := HD.out.2.1.2 1 _ rfl
      obtain ⟨k2, -⟩ := HD.out.2.1.2 2 _ rfl
      obtain ⟨k3, -⟩ := HD.out.2.1.2 3 _ rfl
      obtain ⟨k4, -⟩ := HD.out.2.1.2 4 _ rfl
      dsimp only at k0 k1 k2 k3 k4
      refine bodyPost_ret (v := ev ⟨kind, path, ⟨#[]⟩, 1 + x, 0⟩) (by simp [results, Tryz.results74, go_sem, k0, k1, k2, k3, k4]) rfl ⟨_, rfl, HD.out.1, HD.out.2.2.1, HD.out.2.2.2⟩
    · replace H9 := Shut.mk (H9.out.set 1 (.string ⟨#[47]⟩) ⟨kind, ⟨#[47]⟩, ⟨#[]⟩, 1 + x, 0⟩ (by omega) rfl (epl_ pl_root pl_none))
      have HD := Shut.mk (H9.out.done)
      change bodyPost _ _ _ _ _ (put5 (w6.setCell ⟨E, 1, none⟩ (.string ⟨#[47]⟩)) w.heap.size ⟨kind, ⟨#[47]⟩, ⟨#[]⟩, 1 + x, 0⟩)
      generalize put5 (w6.setCell ⟨E, 1, none⟩ (.string ⟨#[47]⟩)) w.heap.size ⟨kind, ⟨#[47]⟩, ⟨#[]⟩, 1 + x, 0⟩ = w8 at HD ⊢
      obtain ⟨k0, -⟩ := HD.out.2.1.2 0 _ rfl
      obtain ⟨k1, -⟩ := HD.out.2.1.2 1 _ rfl
      obtain ⟨k2, -⟩ := HD.out.2.1.2 2 _ rfl
      obtain ⟨k3, -⟩ := HD.out.2.1.2 3 _ rfl
      obtain ⟨k4, -⟩ := HD.out.2.1.2 4 _ rfl
      dsimp only at k0 k1 k2 k3 k4
      refine bodyPost_ret (v := ev ⟨kind, ⟨#[47]⟩, ⟨#[]⟩, 1 + x, 0⟩) (by simp [results, Tryz.results74, go_sem, k0, k1, k2, k3, k4]) rfl ⟨_, rfl, HD.out.1, HD.out.2.2.1, HD.out.2.2.2⟩
  have b5 : (kind == 5) = false := by simp; omega
  by_cases q6 : kind = 6
  · have bt6 : (kind == 6) = true := by simp; omega
    have hlit : (#[.int .i64 0, .int .i64 20, .int .i64 60, .int .i64 1000] : Array Value) = (List.map (Value.int .i64 ·) [0, 20, 60, 1000]).toArray := rfl
    have HL := Shut.mk (new_ints W 3 [0, 20, 60, 1000])
    rw [← hlit] at HL
    clear hlit
    clear q6
    go_upto_region 16 with (go_at_call 122; refine (l01PickInt_any _ g B a len cap W.heap.size 4 (by decide) (by decide) (by have := H9.out.cur.2.1; omega) HL.out (H9.out.cur.below ((Below.refl _ _).alloc (Nat.le_refl _) _))).mono ?_; rintro e w4 ⟨x, rfl, hc4, hg4⟩; replace H9 := Shut.mk (H9.out.turn hc4 (gb_two (gb_below ((Below.refl _ _).alloc (Nat.le_refl _) _)) hg4)); clear hc4 hg4 c0 c1 c2 c3 c4 f0 f1 f2 f3 f4; obtain ⟨c0, c1, c2, c3, c4⟩ := H9.out.got; obtain ⟨f0, f1, f2, f3, f4⟩ := H9.out.may; dsimp only at c0 c1 c2 c3 c4)
    obtain ⟨W4, hW4⟩ : ∃ W4, W4 = World.setCell w4 ⟨E, 3, none⟩ (.int .i64 x) := ⟨_, rfl⟩
    rw [← hW4]
    replace H9 : Shut (DE w W4 g B a len cap w.heap.size E ⟨kind, path, ⟨#[]⟩, x, 0⟩) := ⟨by rw [hW4]; exact H9.out.set 3 _ _ (by omega) rfl (epl_ HP.out pl_none)⟩
    clear hW4 c0 c1 c2 c3 c4 f0 f1 f2 f3 f4
    obtain ⟨c0, c1, c2, c3, c4⟩ := H9.out.got
    obtain ⟨f0, f1, f2, f3, f4⟩ := H9.out.may
    obtain ⟨⟨r0, s0⟩, ⟨r1, s1⟩, ⟨r2, s2⟩, ⟨r3, s3⟩, ⟨r4, s4⟩⟩ := H9.out.room
    dsimp only at c0 c1 c2 c3 c4
    have HO := Shut.mk (l01Once_any W4 g B a len cap 3 (by omega) H9.out.cur)
    go_wp2_with (go_at_call 75; refine HO.out.mono ?_; rintro e w6 ⟨bb, rfl, hc6, hg6⟩; replace H9 := Shut.mk (H9.out.turn hc6 hg6); clear c0 c1 c2 c3 c4 f0 f1 f2 f3 f4 r0 r1 r2 r3 r4 s0 s1 s2 s3 s4 hc6 hg6; obtain ⟨c0, c1, c2, c3, c4⟩ := H9.out.got; obtain ⟨f0, f1, f2, f3, f4⟩ := H9.out.may; obtain ⟨⟨r0, s0⟩, ⟨r1, s1⟩, ⟨r2, s2⟩, ⟨r3, s3⟩, ⟨r4, s4⟩⟩ := H9.out.room; dsimp only at c0 c1 c2 c3 c4; cases bb)
    · have HD := Shut.mk (H9.out.done)
      change bodyPost _ _ _ _ _ (put5 w6 w.heap.size ⟨kind, path, ⟨#[]⟩, x, 0⟩)
      generalize put5 w6 w.heap.size ⟨kind, path, ⟨#[]⟩, x, 0⟩ = w8 at HD ⊢
      obtain ⟨k0, -⟩ := HD.out.2.1.2 0 _ rfl
      obtain ⟨k1, -⟩ := HD.out.2.1.2 1 _ rfl
      obtain ⟨k2, -⟩ := HD.out.2.1.2 2 _ rfl
      obtain ⟨k3, -⟩ := HD.out.2.1.2 3 _ rfl
      obtain ⟨k4, -⟩ := HD.out.2.1.2 4 _ rfl
      dsimp only at k0 k1 k2 k3 k4
      refine bodyPost_ret (v := ev ⟨kind, path, ⟨#[]⟩, x, 0⟩) (by simp [results, Tryz.results74, go_sem, k0, k1, k2, k3, k4]) rfl ⟨_, rfl, HD.out.1, HD.out.2.2.1, HD.out.2.2.2⟩
    · replace H9 := Shut.mk (H9.out.set 1 (.string ⟨#[47]⟩) ⟨kind, ⟨#[47]⟩, ⟨#[]⟩, x, 0⟩ (by omega) rfl (epl_ pl_root pl_none))
      have HD := Shut.mk (H9.out.done)
      change bodyPost _ _ _ _ _ (put5 (w6.setCell ⟨E, 1, none⟩ (.string ⟨#[47]⟩)) w.heap.size ⟨kind, ⟨#[47]⟩, ⟨#[]⟩, x, 0⟩)
      generalize put5 (w6.setCell ⟨E, 1, none⟩ (.string ⟨#[47]⟩)) w.heap.size ⟨kind, ⟨#[47]⟩, ⟨#[]⟩, x, 0⟩ = w8 at HD ⊢
      obtain ⟨k0, -⟩ := HD.out.2.1.2 0 _ rfl
      obtain ⟨k1, -⟩ := HD.out.2.1.2 1 _ rfl
      obtain ⟨k2, -⟩ := HD.out.2.1.2 2 _ rfl
      obtain ⟨k3, -⟩ := HD.out.2.1.2 3 _ rfl
      obtain ⟨k4, -⟩ := HD.out.2.1.2 4 _ rfl
      dsimp only at k0 k1 k2 k3 k4
      refine bodyPost_ret (v := ev ⟨kind, ⟨#[47]⟩, ⟨#[]⟩, x, 0⟩) (by simp [results, Tryz.results74, go_sem, k0, k1, k2, k3, k4]) rfl ⟨_, rfl, HD.out.1, HD.out.2.2.1, HD.out.2.2.2⟩
  have b6 : (kind == 6) = false := by simp; omega
  by_cases q7 : kind = 7
  · have bt7 : (kind == 7) = true := by simp; omega
    
    clear q7
    go_upto_region 16 with (go_at_call 76; refine (l01Below_any W g B a len cap 60 (by omega) H9.out.cur).mono ?_; rintro e w4 ⟨x, rfl, x0, x1, hc4, hg4⟩; have x2 : x ≤ 60 := (by omega); replace H9 := Shut.mk (H9.out.turn hc4 hg4); clear hc4 hg4 c0 c1 c2 c3 c4 f0 f1 f2 f3 f4; obtain ⟨c0, c1, c2, c3, c4⟩ := H9.out.got; obtain ⟨f0, f1, f2, f3, f4⟩ := H9.out.may; dsimp only at c0 c1 c2 c3 c4)
    obtain ⟨W4, hW4⟩ : ∃ W4, W4 = World.setCell w4 ⟨E, 3, none⟩ (.int .i64 (1 + x)) := ⟨_, rfl⟩
    rw [← hW4]
    replace H9 : Shut (DE w W4 g B a len cap w.heap.size E ⟨kind, path, ⟨#[]⟩, 1 + x, 0⟩) := ⟨by rw [hW4]; exact H9.out.set 3 _ _ (by omega) rfl (epl_ HP.out pl_none)⟩
    clear hW4 c0 c1 c2 c3 c4 f0 f1 f2 f3 f4
    obtain ⟨c0, c1, c2, c3, c4⟩ := H9.out.got
    obtain ⟨f0, f1, f2, f3, f4⟩ := H9.out.may
    obtain ⟨⟨r0, s0⟩, ⟨r1, s1⟩, ⟨r2, s2⟩, ⟨r3, s3⟩, ⟨r4, s4⟩⟩ := H9.out.room
    dsimp only at c0 c1 c2 c3 c4
    go_wp2_with fail
    have HD := Shut.mk (H9.out.done)
    change bodyPost _ _ _ _ _ (put5 W4 w.heap.size ⟨kind, path, ⟨#[]⟩, 1 + x, 0⟩)
    generalize put5 W4 w.heap.size ⟨kind, path, ⟨#[]⟩, 1 + x, 0⟩ = w8 at HD ⊢
    obtain ⟨k0, -⟩ := HD.out.2.1.2 0 _ rfl
    obtain ⟨k1, -⟩ := HD.out.2.1.2 1 _ rfl
    obtain ⟨k2, -⟩ := HD.out.2.1.2 2 _ rfl
    obtain ⟨k3, -⟩ := HD.out.2.1.2 3 _ rfl
    obtain ⟨k4, -⟩ := HD.out.2.1.2 4 _ rfl
    dsimp only at k0 k1 k2 k3 k4
    refine bodyPost_ret (v := ev ⟨kind, path, ⟨#[]⟩, 1 + x, 0⟩) (by simp [results, Tryz.results74, go_sem, k0, k1, k2, k3, k4]) rfl ⟨_, rfl, HD.out.1, HD.out.2.2.1, HD.out.2.2.2⟩
  have b7 : (kind == 7) = false := by simp; omega
  by_cases q10 : kind = 10
  · have bt10 : (kind == 10) = true := by simp; omega
    
    clear q10
    go_upto_region 16 with (fail)
    obtain ⟨W4, hW4⟩ : ∃ W4, W4 = World.setCell W ⟨E, 1, none⟩ (.string ⟨#[47]⟩) := ⟨_, rfl⟩
    rw [← hW4]
    replace H9 : Shut (DE w W4 g B a len cap w.heap.size E ⟨kind, ⟨#[47]⟩, ⟨#[]⟩, 0, 0⟩) := ⟨by rw [hW4]; exact H9.out.set 1 _ _ (by omega) rfl (epl_ pl_root pl_none)⟩
    clear hW4 c0 c1 c2 c3 c4 f0 f1 f2 f3 f4
    obtain ⟨c0, c1, c2, c3, c4⟩ := H9.out.got
    obtain ⟨f0, f1, f2, f3, f4⟩ := H9.out.may
    obtain ⟨⟨r0, s0⟩, ⟨r1, s1⟩, ⟨r2, s2⟩, ⟨r3, s3⟩, ⟨r4, s4⟩⟩ := H9.out.room
    dsimp only at c0 c1 c2 c3 c4
    go_wp2_with fail
    have HD := Shut.mk (H9.out.done)
    change bodyPost _ _ _ _ _ (put5 W4 w.heap.size ⟨kind, ⟨#[47]⟩, ⟨#[]⟩, 0, 0⟩)
    generalize put5 W4 w.heap.size ⟨kind, ⟨#[47]⟩, ⟨#[]⟩, 0, 0⟩ = w8 at HD ⊢
    obtain ⟨k0, -⟩ := HD.out.2.1.2 0 _ rfl
    obtain ⟨k1, -⟩ := HD.out.2.1.2 1 _ rfl
    obtain ⟨k2, -⟩ := HD.out.2.1.2 2 _ rfl
    obtain ⟨k3, -⟩ := HD.out.2.1.2 3 _ rfl
    obtain ⟨k4, -⟩ := HD.out.2.1.2 4 _ rfl
    dsimp only at k0 k1 k2 k3 k4
    refine bodyPost_ret (v := ev ⟨kind, ⟨#[47]⟩, ⟨#[]⟩, 0, 0⟩) (by simp [results, Tryz.results74, go_sem, k0, k1, k2, k3, k4]) rfl ⟨_, rfl, HD.out.1, HD.out.2.2.1, HD.out.2.2.2⟩
  have b10 : (kind == 10) = false := by simp; omega
  · skip
    go_upto_region 16 with (fail)
    clear c0 c1 c2 c3 c4 f0 f1 f2 f3 f4
    obtain ⟨c0, c1, c2, c3, c4⟩ := H9.out.got
    obtain ⟨f0, f1, f2, f3, f4⟩ := H9.out.may
    obtain ⟨⟨r0, s0⟩, ⟨r1, s1⟩, ⟨r2, s2⟩, ⟨r3, s3⟩, ⟨r4, s4⟩⟩ := H9.out.room
    dsimp only at c0 c1 c2 c3 c4
    go_wp2_with fail
    have HD := Shut.mk (H9.out.done)
    change bodyPost _ _ _ _ _ (put5 W w.heap.size ⟨kind, path, ⟨#[]⟩, 0, 0⟩)
    generalize put5 W w.heap.size ⟨kind, path, ⟨#[]⟩, 0, 0⟩ = w8 at HD ⊢
    obtain ⟨k0, -⟩ := HD.out.2.1.2 0 _ rfl
    obtain ⟨k1, -⟩ := HD.out.2.1.2 1 _ rfl
    obtain ⟨k2, -⟩ := HD.out.2.1.2 2 _ rfl
    obtain ⟨k3, -⟩ := HD.out.2.1.2 3 _ rfl
    obtain ⟨k4, -⟩ := HD.out.2.1.2 4 _ rfl
    dsimp only at k0 k1 k2 k3 k4
    refine bodyPost_ret (v := ev ⟨kind, path, ⟨#[]⟩, 0, 0⟩) (by simp [results, Tryz.results74, go_sem, k0, k1, k2, k3, k4]) rfl ⟨_, rfl, HD.out.1, HD.out.2.2.1, HD.out.2.2.2⟩
end Go.Proofs.YthfmjjaollekiaaGreat
/- CpA: A row of nodes that is made node by node, by append, each with its pieces in a row of its own. -/
namespace Go.Proofs.YthfmjjaollekiaaGreat
set_option maxRecDepth 100000
open Go.RowKit

theorem wc_by {w w' : World} {g : Nat} {q : Option Nat} {L : List Value} (h : WCells w g L) (hg : w.grownBy w' q) (hq : q ≠ some g) : WCells w' g L := by
  have hk := hg.block g h.1 (fun e => hq e.symm)
  refine ⟨Nat.lt_of_lt_of_le h.1 hg.size, fun i v hv => ?_⟩
  have h1 := h.2 i v hv
  simp only [World.cell?, World.frozen?, hk] at h1 ⊢
  exact h1
/-- Where the making of a row of nodes stands. -/
structure NB (w : World) (B : Nat) (v : Value) (rs : List NR) : Prop where
  own : w.ownsRow B 31 9 v rs.length (ncs rs)
  rows : ∀ r ∈ rs, w.ownsRow B 107 2 (.slice r.loc r.nd.pieces.length r.cap) r.nd.pieces.length (pcs r.nd.pieces)
  apart : rs.Pairwise fun r s => r.loc ≠ none → s.loc ≠ none → r.loc ≠ s.loc
/-- A row of its own that is not empty: its block. -/
theorem own_blk {w : World} {B t sz n : Nat} {v : Value} {L : List Value} (h : w.ownsRow B t sz v n L) (hn : n ≠ 0) : ∃ g cap cur, v = .slice (some ⟨g, 0, none⟩) n cap ∧ B ≤ g ∧ g < w.heap.size ∧ w.heap[g]? = some (.cells cur t (0, 0)) := by
  rcases h.2 with ⟨_, h0⟩ | ⟨g, cap, cur, e, h1, h2, _⟩
  · exact absurd h0 hn
  · exact ⟨g, cap, cur, e, h1, (Array.getElem?_eq_some_iff.1 h2).1, h2⟩
theorem own_blk' {w : World} {B t sz n g : Nat} {v : Value} {L : List Value} (h : w.ownsRow B t sz v n L) (e : v.ownBlock = some g) : ∃ cur, w.heap[g]? = some (.cells cur t (0, 0)) := by
  rcases h.2 with ⟨rfl, _⟩ | ⟨g', cap, cur, rfl, _, h2, _⟩
  · cases e
  · cases e; exact ⟨cur, h2⟩
theorem own_slice {w : World} {B n sz : Nat} {t : TypeId} {v : Value} {L : List Value} (h : w.ownsRow B t sz v n L) : ∃ a c, v = .slice a n c := by
  rcases h.2 with ⟨rfl, h0⟩ | ⟨g, cap, cur, e, _⟩
  · exact ⟨none, 0, by rw [h0]⟩
  · exact ⟨_, _, e⟩
theorem own_lower {w : World} {B C n sz : Nat} {t : TypeId} {v : Value} {L : List Value} (h : w.ownsRow B t sz v n L) (hC : C ≤ B) : w.ownsRow C t sz v n L := by
  refine ⟨h.1, ?_⟩
  rcases h.2 with q | ⟨g, cap, cur, e, h1, h2⟩
  · exact .inl q
  · exact .inr ⟨g, cap, cur, e, Nat.le_trans hC h1, h2⟩
theorem NB.nil (w : World) (B : Nat) : NB w B (.slice none 0 0) [] := ⟨by simpa [ncs] using World.ownsRow_nil w B 31 9, by simp, List.Pairwise.nil⟩
theorem NB.grown {w w' : World} {B : Nat} {v : Value} {rs : List NR} {q : Option Nat} (h : NB w B v rs) (hg : w.grownBy w' q) (hq : ∀ k, q = some k → k < B) : NB w' B v rs := by
  refine ⟨h.own.kept hg ?_, fun r hr => (h.rows r hr).kept hg ?_, h.apart⟩
  · cases e : v.ownBlock with
    | none => exact .inl rfl
    | some k => exact .inr fun e2 => by have := hq k e2.symm; have := (h.own.lt k e).1; omega
  · cases e : (Value.slice r.loc r.nd.pieces.length r.cap).ownBlock with
    | none => exact .inl rfl
    | some k => exact .inr fun e2 => by have := hq k e2.symm; have := ((h.rows r hr).lt k e).1; omega
theorem NB.below {w w' : World} {B : Nat} {v : Value} {rs : List NR} (h : NB w B v rs) (hb : Below w.heap.size w w') : NB w' B v rs :=
  h.grown (q := none) ⟨hb.os, hb.tape, hb.output, hb.size, fun k hk _ => hb.block k hk⟩ (fun k e => by cases e)
theorem NB.setBox {w : World} {B : Nat} {v : Value} {rs : List NR} (h : NB w B v rs) (g i : Nat) (x : Value) (hg : g < B) : NB (w.setCell ⟨g, i, none⟩ x) B v rs :=
  h.grown (gb_set' w g i x) (fun k e => by cases e; exact hg)
/-- A box that lies beyond is written. -/
theorem NB.setOut {w : World} {B : Nat} {v : Value} {rs : List NR} {c : Array Value} {t : TypeId} {fr : Nat × Nat} (h : NB w B v rs) (g i : Nat) (x : Value) (hg : w.heap[g]? = some (.cells c t fr)) (ht : t ≠ 107) (hv : v.ownBlock ≠ some g) : NB (w.setCell ⟨g, i, none⟩ x) B v rs := by
  refine ⟨h.own.kept (gb_set' w g i x) (.inr hv), fun r hr => (h.rows r hr).kept (gb_set' w g i x) (.inr fun e => ?_), h.apart⟩
  obtain ⟨cur, h2⟩ := own_blk' (h.rows r hr) e
  rw [hg] at h2
  simp at h2
  exact ht h2.2.1
/-- A node more. -/
theorem NB.snoc {w w1 w2 : World} {B : Nat} {v v' : Value} {rs : List NR} {r : NR} (h : NB w B v rs) (hb : Below w.heap.size w w1) (hp : w1.ownsRow B 107 2 (.slice r.loc r.nd.pieces.length r.cap) r.nd.pieces.length (pcs r.nd.pieces))
    (hnew : r.loc ≠ none → ∀ s ∈ rs, s.loc ≠ none → s.loc ≠ r.loc) (ho : w2.ownsRow B 31 9 v' (rs.length + 1) (ncs rs ++ ncells r)) (hg : w1.grownBy w2 v.ownBlock) : NB w2 B v' (rs ++ [r]) := by
  have hN := h.below hb
  have keep : ∀ s : NR, w1.ownsRow B 107 2 (.slice s.loc s.nd.pieces.length s.cap) s.nd.pieces.length (pcs s.nd.pieces) → w2.ownsRow B 107 2 (.slice s.loc s.nd.pieces.length s.cap) s.nd.pieces.length (pcs s.nd.pieces) := fun s hr => by
    refine hr.kept hg ?_
    cases e : (Value.slice s.loc s.nd.pieces.length s.cap).ownBlock with
    | none => exact .inl rfl
    | some k =>
      refine .inr fun e2 => ?_
      obtain ⟨c1, h1⟩ := own_blk' hr e
      obtain ⟨c2, h2⟩ := own_blk' hN.own e2.symm
      rw [h1] at h2
      simp at h2
  refine ⟨?_, fun s hs => ?_, ?_⟩
  · have e : ncs (rs ++ [r]) = ncs rs ++ ncells r := by simp [ncs]
    rw [e, List.length_append, List.length_singleton]
    exact ho
  · rcases List.mem_append.1 hs with q | q
    · exact keep s (hN.rows s q)
    · rw [List.mem_singleton.1 q]
      exact keep r hp
  · refine List.pairwise_append.2 ⟨h.apart, List.pairwise_singleton _ _, fun s hs t ht h1 h2 => ?_⟩
    rw [List.mem_singleton.1 ht] at h2 ⊢
    exact hnew h2 s hs h1
theorem own_loc {w : World} {B t sz n c : Nat} {a : Option Addr} {L : List Value} (h : w.ownsRow B t sz (.slice a n c) n L) (hn : n ≠ 0) : a ≠ none := by
  obtain ⟨g, cap, cur, e, _⟩ := own_blk h hn
  simp at e
  rw [e.1]
  simp
theorem NB.fin {w : World} {B : Nat} {v : Value} {rs : List NR} {nx : Int} (h : NB w B v rs) : TAns w (.agg #[v, .int .i64 nx]) ⟨nds rs, nx⟩ B w.heap.size := by
  have hown := h.own
  rcases hown.2 with ⟨rfl, h0⟩ | ⟨g, cap, cur, rfl, hB, hcur, hn, _⟩
  · have : rs = [] := List.eq_nil_of_length_eq_zero h0
    subst this
    exact ⟨none, 0, [], rfl, rfl, Nat.le_refl _, .inl rfl⟩
  · refine ⟨_, cap, rs, rfl, rfl, hn, .inr ⟨g, rfl, ?_⟩⟩
    refine ⟨own_wcells h.own, hB, (Array.getElem?_eq_some_iff.1 hcur).1, fun r hr => ?_, ?_⟩
    · by_cases hp : r.nd.pieces = []
      · exact .inl (by show pcs r.nd.pieces = []; rw [hp]; rfl)
      · have hr' := h.rows r hr
        obtain ⟨b, cp, c2, e1, q1, q2, q3⟩ := own_blk hr' (by simpa using hp)
        have e2 : r.loc = some ⟨b, 0, none⟩ := (by simpa using e1 : r.loc = some ⟨b, 0, none⟩ ∧ r.cap = cp).1
        refine .inr ⟨b, e2, q1, q2, fun e => ?_, ?_⟩
        · rw [e, hcur] at q3
          simp at q3
        · rw [e2] at hr'
          exact own_wcells hr'
    · have ha := List.pairwise_iff_getElem.1 h.apart
      refine List.pairwise_iff_getElem.2 (fun i j hi hj hij h1 h2 => ha i j hi hj hij ?_ ?_)
      · exact own_loc (h.rows _ (List.getElem_mem hi)) (fun e => h1 (by show pcs rs[i].nd.pieces = []; rw [List.eq_nil_of_length_eq_zero e]; rfl))
      · exact own_loc (h.rows _ (List.getElem_mem hj)) (fun e => h2 (by show pcs rs[j].nd.pieces = []; rw [List.eq_nil_of_length_eq_zero e]; rfl))
end Go.Proofs.YthfmjjaollekiaaGreat
