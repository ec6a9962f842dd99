/- Texts of ours, laid one behind the other: TreE, TreP, TreQ, StrsA, DecM, Dec, StrsB, TvA, StrV, PathA, PathB, PathC, GrwA, EdA, SpnB, PathS, TreL. -/
import Derived.Test.YthfmjjaollekiaaGreatPf1
import Derived.BigQuiet
import Derived.Deep.RegionHeld3
import Derived.Deep.QuietTactic
import Derived.PlainAid
import Derived.Deep.LoopGhost
import Derived.Deep.DrawnRows
import Derived.Deep.CutRange
import Derived.Deep.AppendLies
/- TreE: Copies of trees. -/
namespace Go.Proofs.YthfmjjaollekiaaGreat
set_option maxRecDepth 100000
open Go.RowKit
attribute [local go_sem ↓] Go.wp_at_zero Go.wp_at_succ

set_option maxRecDepth 100000 in
set_option maxHeartbeats 2000000 in
theorem toTree_val {w : World} {v : Value} {T : TM} {lo hi : Nat} (h : TSee w v T lo hi) (hf : NFit T) : Calls Tryz.prog 48 #[v] w fun e w' => TrPost T w e w' := by
  obtain ⟨a, cap, rs, rfl, hr, hm⟩ := h
  have hrl : rs.length = T.nodes.length := by rw [← hr, nds_len]
  have hl : rs.length ≤ 1048576 := by unfold NFit at hf; omega
  have hp : ∀ r ∈ rs, r.nd.pieces.length ≤ 1048576 := fun r hx => by
    have := nsum_mem (ns := T.nodes) (n := r.nd) (by rw [← hr]; exact List.mem_map.2 ⟨r, hx, rfl⟩)
    unfold NFit at hf
    omega
  have HS := Shut.mk (fun W (hW : Below w.heap.size w W) => toInodeS_any a rs cap W lo hi (hm.below hW) hl hp)
  unfold ToNodes at HS
  obtain ⟨nds0, next⟩ := T
  dsimp only at *
  subst hr
  generalize rs.length = n at *
  clear hm hp hf hrl
  go_enter Tryz.func48, Tryz.ntmps48
  go_upto_region 2 with fail
  refine wp_shade (fun W => Tri w W [.slice a n cap, .int .i64 next] [.slice none 0 0, .int .i64 0] [.slice none 0 0, .int .i64 0]) (Tri.new w #[.slice a n cap, .int .i64 next] #[.slice none 0 0, .int .i64 0] #[.slice none 0 0, .int .i64 0] 60 26 26) ?_
  intro W4 ht
  have HT := Shut.mk ht
  have a0 := (ht.b1.2 0 _ rfl).1
  clear ht
  go_wp2_with fail
  refine (HS.out _ HT.out.bel).mono ?_
  rintro e w5 ⟨g, ts, rfl, hn, hw, hb⟩
  have ht5 := HT.out.below hb
  have hlo : w.heap.size + 3 ≤ W4.heap.size := by have := HT.out.b3.1; omega
  have hw0 : w.heap.size ≤ W4.heap.size := by omega
  obtain ⟨m, hm⟩ : ∃ m, m = ts.length := ⟨_, rfl⟩
  have HT5 := Shut.mk (And.intro ht5 (And.intro hw (show w5.heap.size = w5.heap.size from rfl)))
  have HTS := Shut.mk (And.intro hn hm)
  rw [← hm]
  obtain ⟨c0, z0⟩ := ht5.b3.2 0 _ rfl
  clear hn hw hb ht5 HT a0 HS hm
  have step : ∀ {W : World} (i : Nat) (v : Value) (b : Nat), b < W4.heap.size → w.heap.size ≤ b → TW W g ts W4.heap.size w5.heap.size → TW (W.setCell ⟨b, i, none⟩ v) g ts W4.heap.size w5.heap.size := fun {W} i v b h1 _ h => h.turned (lo' := b) (hi' := b + 1) (Turned.of_grown (gb_set' W b i v) (Nat.le_refl _) (Nat.lt_succ_self _)) (.inr h1)
  have HST := Shut.mk @step
  clear step
  go_upto_region 3 with fail
  refine wp_shade (fun W => Tri w W [.slice a n cap, .int .i64 next] [.slice none 0 0, .int .i64 0] [.slice (some ⟨g, 0, none⟩) m m, .int .i64 0] ∧ TW W g ts W4.heap.size w5.heap.size ∧ W.heap.size = w5.heap.size) ⟨HT5.out.1.set 0 _ (by simp), HST.out 0 _ (w.heap.size + 1 + 1) (by omega) (by omega) HT5.out.2.1, by simp [World.setCell]⟩ ?_
  clear HT5 c0 z0
  rintro W6 ⟨ht, hw, hs⟩
  have HT := Shut.mk (And.intro ht (And.intro hw hs))
  have a1 := (ht.b1.2 1 _ rfl).1
  obtain ⟨c1, z1⟩ := ht.b3.2 1 _ rfl
  clear ht hw hs
  go_upto_region 4 with fail
  refine wp_shade (fun W => Tri w W [.slice a n cap, .int .i64 next] [.slice none 0 0, .int .i64 0] [.slice (some ⟨g, 0, none⟩) m m, .int .i64 next] ∧ TW W g ts W4.heap.size w5.heap.size ∧ W.heap.size = w5.heap.size) ⟨HT.out.1.set 1 _ (by simp), HST.out 1 _ (w.heap.size + 1 + 1) (by omega) (by omega) HT.out.2.1, by have := HT.out.2.2; simp [World.setCell, this]⟩ ?_
  clear HT c1 z1 a1
  rintro W7 ⟨ht, hw, hs⟩
  have HT := Shut.mk (And.intro ht (And.intro hw hs))
  obtain ⟨c0, z0⟩ := ht.b3.2 0 _ rfl
  obtain ⟨c1, z1⟩ := ht.b3.2 1 _ rfl
  obtain ⟨x0, y0⟩ := ht.b2.2 0 _ rfl
  obtain ⟨x1, y1⟩ := ht.b2.2 1 _ rfl
  clear ht hw hs
  go_wp2_with fail
  refine body_shade (fun W => WCells W (w.heap.size + 1) [.slice (some ⟨g, 0, none⟩) m m, .int .i64 next] ∧ TW W g ts W4.heap.size w5.heap.size ∧ W.heap.size = w5.heap.size ∧ Below w.heap.size w W) ⟨HT.out.1.b2.setW 0 [.slice (some ⟨g, 0, none⟩) m m, .int .i64 next] (by simp), HST.out 1 _ (w.heap.size + 1) (by omega) (by omega) (HST.out 0 _ (w.heap.size + 1) (by omega) (by omega) HT.out.2.1), by have := HT.out.2.2; simp [World.setCell, this], below_setW HT.out.1.bel (by omega) 0 [.slice (some ⟨g, 0, none⟩) m m, .int .i64 next]⟩ ?_
  clear HT c0 z0 c1 z1 x0 y0 x1 y1
  rintro W8 ⟨h2, hw, hs, hb⟩
  have x0 := (h2.2 0 _ rfl).1
  have x1 := (h2.2 1 _ rfl).1
  refine bodyPost_ret (v := .agg #[.slice (some ⟨g, 0, none⟩) m m, .int .i64 next]) (by simp [results, Tryz.results48, go_sem, x0, x1]) rfl ⟨_, rfl, ⟨_, m, ts, by rw [← HTS.out.2], HTS.out.1, Nat.le_of_eq HTS.out.2.symm, .inr ⟨g, rfl, hw.wide hw0 (Nat.le_of_eq hs.symm)⟩⟩, hb⟩
end Go.Proofs.YthfmjjaollekiaaGreat
/- TreP: The walks of the models' TreeNew, l10At, l10File. -/
namespace Go.Proofs.YthfmjjaollekiaaGreat
set_option maxRecDepth 100000
open Go.RowKit
attribute [local go_sem ↓] Go.wp_at_zero Go.wp_at_succ

theorem nds_at (rs : List NR) (i : Nat) (h : i < rs.length) : (nds rs)[i]'(by rw [nds_len]; exact h) = rs[i].nd := by simp [nds]
set_option maxHeartbeats 1000000 in
theorem specAt {w : World} {v : Value} {T : TM} {lo hi : Nat} (id : Int) (h : TSee w v T lo hi) (hl : T.nodes.length ≤ 1048576) : Calls Tryz.prog 72 #[v, .int .i64 id] w fun e w' => e = .returned (.int .i64 (atI T.nodes id)) ∧ Below w.heap.size w w' := by
  obtain ⟨a, cap, rs, rfl, hr, hm⟩ := h
  obtain ⟨n, hn⟩ : ∃ n, n = rs.length := ⟨_, rfl⟩
  have hnl : n = T.nodes.length := by rw [hn, ← hr, nds_len]
  have HN := Shut.mk (And.intro hn hr)
  obtain ⟨R, hR⟩ : ∃ R, R = atI T.nodes id := ⟨_, rfl⟩
  have HRR := Shut.mk hR
  have hn9 : n ≤ 1048576 := by omega
  rw [← hR, ← hn]
  generalize T.next = nx at *
  obtain ⟨W, hW⟩ : ∃ W, W = w.alloc (.cells #[.slice a n cap, .int .i64 nx] 26) := ⟨_, rfl⟩
  have HB : Shut (Below w.heap.size w W) := ⟨by rw [hW]; exact (Below.refl _ _).alloc (Nat.le_refl _) _⟩
  have HM := Shut.mk (hm.below HB.out)
  have x0 : W.cell? ⟨w.heap.size, 0, none⟩ = some (.slice a n cap) := by rw [hW]; exact ((wcells_new w #[.slice a n cap, .int .i64 nx] 26).2 0 _ rfl).1
  clear hm hr hn hnl hR hl
  go_enter Tryz.func72, Tryz.ntmps72
  go_upto_region 1 with fail
  rw [← hW]
  clear hW
  go_wp2_with fail
  go_loopw [5] (fun i wr => ∃ (k : Nat), i = .int .i64 k ∧ k ≤ n ∧ Shut (∀ j, j < k → ∀ hj : j < T.nodes.length, T.nodes[j].id ≠ id) ∧ wr = W) (fun i _ => n - (intOf i).toNat)
  case atStart => exact ⟨0, rfl, Nat.zero_le _, ⟨fun j hj => by omega⟩, rfl⟩
  case round =>
    obtain ⟨k, rfl, hk, hall, rfl⟩ := hrel
    by_cases hlt : k < n
    · have hlr : k < rs.length := by have := HN.out.1; omega
      have htl : k < T.nodes.length := by rw [← HN.out.2, nds_len]; exact hlr
      obtain ⟨b, off, rfl, lb, hc⟩ := TR.nat HM.out (by omega)
      have d0 := (hc k hlr).1
      have hid : rs[k].nd = T.nodes[k] := by
        have := nds_at rs k hlr
        rw [← this]
        simp only [HN.out.2]
      rw [hid] at d0
      have k0 : (0 : Int) ≤ (k : Int) := by omega
      have k1 : (k : Int) < (n : Int) := by omega
      clear hc hid
      by_cases he : T.nodes[k].id = id
      · have HE : Shut (R = (k : Int)) := ⟨by rw [HRR.out]; exact atI_some htl he hall.out⟩
        have he' : (T.nodes[k].id == id) = true := by simpa using he
        generalize T.nodes[k].id = q at *
        go_wp2_with fail
        go_ret
        exact ⟨by rw [HE.out]; rfl, HB.out⟩
      · have he' : (T.nodes[k].id == id) = false := by simpa using he
        have HNX : Shut (∀ j, j < k + 1 → ∀ hj : j < T.nodes.length, T.nodes[j].id ≠ id) := ⟨fun j hj hj2 => by
          by_cases e : j = k
          · subst e; exact he
          · exact hall.out j (by omega) hj2⟩
        generalize T.nodes[k].id = q at *
        go_wp2_with fail
        go_roundw
        case rel => exact ⟨k + 1, by go_num, by omega, HNX, by first | rfl | trivial⟩
        case measure => simp [intOf]; omega
    · have hlt' : ¬ (k : Int) < (n : Int) := by omega
      have HE : Shut (R = -1) := ⟨by
        rw [HRR.out]
        refine atI_none (fun m hm => ?_)
        obtain ⟨j, hj, rfl⟩ := List.mem_iff_getElem.1 hm
        exact hall.out j (by rw [← HN.out.2, nds_len] at hj; have := HN.out.1; omega) hj⟩
      go_wp2_with fail
      go_ret
      exact ⟨by rw [HE.out]; rfl, HB.out⟩
end Go.Proofs.YthfmjjaollekiaaGreat
/- TreQ: The walk of the model's l10File. -/
namespace Go.Proofs.YthfmjjaollekiaaGreat
set_option maxRecDepth 100000
open Go.RowKit
attribute [local go_sem ↓] Go.wp_at_zero Go.wp_at_succ

theorem isInI (x a b : Int) (w : World) (r : Bool) (h : inI x a b = r) : Calls Tryz.prog 80 #[.int .i64 x, .int .i64 a, .int .i64 b] w fun e w' => e = .returned (.bool r) ∧ w' = w := isIn x a b w r h
theorem fileOk_no1 {n : NM} (h : inI n.schema 1 3 = false) : fileOk n = false := by unfold fileOk; rw [h]; rfl
theorem fileOk_no2 {n : NM} (h : n.quota ≠ 0) : fileOk n = false := by unfold fileOk; rw [show (n.quota == 0) = false by simpa using h]; simp
theorem fileOk_no3 {n : NM} (h : ¬ n.pieces.length ≤ 40) : fileOk n = false := by unfold fileOk; rw [decide_eq_false h]; simp
theorem fileOk_no4 {n : NM} (h : inI n.writer 0 9 = false) : fileOk n = false := by unfold fileOk; rw [h]; simp
theorem fileOk_no5 {n : NM} {p : PM} (hp : p ∈ n.pieces) (h : pieceOk n.schema p = false) : fileOk n = false := by
  have : n.pieces.all (pieceOk n.schema) = false := by
    cases e : n.pieces.all (pieceOk n.schema) with
    | false => rfl
    | true => rw [List.all_eq_true] at e; rw [e p hp] at h; cases h
  unfold fileOk; rw [this]; simp
theorem fileOk_yes {n : NM} (h1 : inI n.schema 1 3 = true) (h2 : n.quota = 0) (h3 : n.pieces.length ≤ 40) (h4 : inI n.writer 0 9 = true) (h5 : ∀ p ∈ n.pieces, pieceOk n.schema p = true) : fileOk n = ((sumP n.pieces == n.len) && decide (sumP n.pieces ≤ 1000)) := by
  unfold fileOk
  rw [h1, h2, decide_eq_true h3, h4, show n.pieces.all (pieceOk n.schema) = true from List.all_eq_true.2 h5]
  simp
set_option maxRecDepth 100000 in
set_option maxHeartbeats 4000000 in
theorem specFile (r : NR) (w : World) (lo hi : Nat) (hp : RRow w r.loc (pcs r.nd.pieces) lo hi) (hpl : r.nd.pieces.length ≤ 1048576) : Calls Tryz.prog 161 #[nv r] w fun e w' => e = .returned (.bool (fileOk r.nd)) ∧ Below w.heap.size w w' := by
  obtain ⟨⟨id, parent, name, dir, schema, quota, len, pieces, writer⟩, loc, cap⟩ := r
  obtain ⟨R, hR⟩ : ∃ R, R = fileOk ⟨id, parent, name, dir, schema, quota, len, pieces, writer⟩ := ⟨_, rfl⟩
  have HR := Shut.mk hR
  dsimp only [nv] at *
  rw [← hR]
  obtain ⟨np, hnp⟩ : ∃ np, np = pieces.length := ⟨_, rfl⟩
  rw [← hnp] at hpl ⊢
  have HNP := Shut.mk hnp
  obtain ⟨W, hW⟩ : ∃ W, W = w.alloc (.cells #[.int .i64 id, .int .i64 parent, .string name, .bool dir, .int .i64 schema, .int .i64 quota, .int .i64 len, .slice loc np cap, .int .i64 writer] 31) := ⟨_, rfl⟩
  have HB : Shut (Below w.heap.size w W) := ⟨by rw [hW]; exact (Below.refl _ _).alloc (Nat.le_refl _) _⟩
  have HC : Shut (WCells W w.heap.size [.int .i64 id, .int .i64 parent, .string name, .bool dir, .int .i64 schema, .int .i64 quota, .int .i64 len, .slice loc np cap, .int .i64 writer]) := ⟨by rw [hW]; exact wcells_new w #[.int .i64 id, .int .i64 parent, .string name, .bool dir, .int .i64 schema, .int .i64 quota, .int .i64 len, .slice loc np cap, .int .i64 writer] 31⟩
  have HP := Shut.mk (hp.below HB.out)
  have x4 := (HC.out.2 4 _ rfl).1
  have x5 := (HC.out.2 5 _ rfl).1
  have x7 := (HC.out.2 7 _ rfl).1
  have x8 := (HC.out.2 8 _ rfl).1
  clear hp hR hnp
  cases h1 : inI schema 1 3 with
  | false =>
    have HE := Shut.mk (HR.out.trans (fileOk_no1 h1))
    go_enter Tryz.func161, Tryz.ntmps161
    go_upto_region 1 with fail
    rw [← hW]
    clear hW
    go_wp2_with fail
    refine (isInI schema 1 3 _ false h1).mono ?_
    rintro e w1 ⟨rfl, hw1⟩
    obtain rfl : W = w1 := hw1.symm
    clear hw1
    go_wp2_with fail
    go_ret
    exact ⟨by rw [HE.out]; rfl, HB.out⟩
  | true =>
    by_cases h2 : quota = 0
    case neg =>
      have HE := Shut.mk (HR.out.trans (fileOk_no2 h2))
      have h2' : (quota != 0) = true := by simpa using h2
      go_enter Tryz.func161, Tryz.ntmps161
      go_upto_region 1 with fail
      rw [← hW]
      clear hW
      go_wp2_with fail
      refine (isInI schema 1 3 _ true h1).mono ?_
      rintro e w1 ⟨rfl, hw1⟩
      obtain rfl : W = w1 := hw1.symm
      clear hw1
      go_wp2_with fail
      go_ret
      exact ⟨by rw [HE.out]; rfl, HB.out⟩
    have h2' : (quota != 0) = false := by rw [h2]; rfl
    have H2 := Shut.mk h2
    clear h2
    by_cases h3 : np ≤ 40
    case neg =>
      have HE := Shut.mk (HR.out.trans (fileOk_no3 (by rw [← HNP.out]; exact h3)))
      have h3' : (40 : Int) < (np : Int) := by omega
      go_enter Tryz.func161, Tryz.ntmps161
      go_upto_region 1 with fail
      rw [← hW]
      clear hW
      go_wp2_with fail
      refine (isInI schema 1 3 _ true h1).mono ?_
      rintro e w1 ⟨rfl, hw1⟩
      obtain rfl : W = w1 := hw1.symm
      clear hw1
      go_wp2_with fail
      go_ret
      exact ⟨by rw [HE.out]; rfl, HB.out⟩
    have h3' : ¬ (40 : Int) < (np : Int) := by omega
    cases h4 : inI writer 0 9 with
    | false =>
      have HE := Shut.mk (HR.out.trans (fileOk_no4 h4))
      go_enter Tryz.func161, Tryz.ntmps161
      go_upto_region 1 with fail
      rw [← hW]
      clear hW
      go_wp2_with fail
      refine (isInI schema 1 3 _ true h1).mono ?_
      rintro e w1 ⟨rfl, hw1⟩
      obtain rfl : W = w1 := hw1.symm
      clear hw1
      go_wp2_with fail
      refine (isInI writer 0 9 _ false h4).mono ?_
      rintro e w1 ⟨rfl, hw1⟩
      obtain rfl : W = w1 := hw1.symm
      clear hw1
      go_wp2_with fail
      go_ret
      exact ⟨by rw [HE.out]; rfl, HB.out⟩
    | true =>
      have HY := Shut.mk (fun (q : ∀ p ∈ pieces, pieceOk schema p = true) => HR.out.trans (fileOk_yes (n := ⟨id, parent, name, dir, schema, quota, len, pieces, writer⟩) h1 H2.out (by rw [← HNP.out]; exact h3) h4 q))
      have HNO := Shut.mk (fun (p : PM) (hp : p ∈ pieces) (q : pieceOk schema p = false) => HR.out.trans (fileOk_no5 (n := ⟨id, parent, name, dir, schema, quota, len, pieces, writer⟩) hp q))
      have x6 := (HC.out.2 6 _ rfl).1
      have hg := groupN_bounds schema
      obtain ⟨G, hG⟩ : ∃ G, G = groupN schema := ⟨_, rfl⟩
      have HGS := Shut.mk (fun W => specGroupSize schema W)
      rw [← hG] at HGS hg
      have HG := Shut.mk hG
      clear hG
      go_enter Tryz.func161, Tryz.ntmps161
      go_upto_region 1 with fail
      rw [← hW]
      clear hW
      go_wp2_with fail
      refine (isInI schema 1 3 _ true h1).mono ?_
      rintro e w1 ⟨rfl, hw1⟩
      obtain rfl : W = w1 := hw1.symm
      clear hw1
      go_wp2_with fail
      refine (isInI writer 0 9 _ true h4).mono ?_
      rintro e w1 ⟨rfl, hw1⟩
      obtain rfl : W = w1 := hw1.symm
      clear hw1
      have HX := Shut.mk (And.intro x4 (And.intro x6 x7))
      clear h1 h4 x4 x5 x6 x8
      go_wp2_with fail
      go_loopw [3, 4] (fun s i wr => ∃ (k : Nat) (z : Int), i = .int .i64 k ∧ s = .int .i64 z ∧ k ≤ np ∧ 0 ≤ z ∧ z ≤ 32 * k ∧ Shut (z = sumP (pieces.take k) ∧ ∀ p ∈ pieces.take k, pieceOk schema p = true) ∧ Shut (Below W.heap.size W wr)) (fun _ i _ => np - (intOf i).toNat)
      case atStart => exact ⟨0, 0, rfl, rfl, Nat.zero_le _, by omega, by omega, ⟨rfl, by simp⟩, ⟨Below.refl _ _⟩⟩
      case round =>
        clear x7
        obtain ⟨k, z, rfl, rfl, hk, hz0, hz1, hall, hbl⟩ := hrel
        have hwl : w.heap.size < W.heap.size := HC.out.1
        have x4 := (hbl.out.cell (p := ⟨w.heap.size, 4, none⟩) hwl).trans HX.out.1
        have x6 := (hbl.out.cell (p := ⟨w.heap.size, 6, none⟩) hwl).trans HX.out.2.1
        have x7 := (hbl.out.cell (p := ⟨w.heap.size, 7, none⟩) hwl).trans HX.out.2.2
        by_cases hlt : k < np
        · have hlp : k < pieces.length := by have := HNP.out; omega
          have k0 : (0 : Int) ≤ (k : Int) := by omega
          have k1 : (k : Int) < (np : Int) := by omega
          obtain ⟨b, off, rfl, lb, hc⟩ := pcs_at (HP.out.below hbl.out) (by omega)
          obtain ⟨d0, d1⟩ := hc k hlp
          have hst := sumP_take pieces k hlp
          have hmem : pieces[k] ∈ pieces := List.getElem_mem hlp
          have HTK : Shut (pieces.take (k + 1) = pieces.take k ++ [pieces[k]]) := ⟨List.take_succ_eq_append_getElem hlp⟩
          have hbn : ∀ q, Below W.heap.size W (wr.drewN q) := fun q => hbl.out.trans ⟨rfl, rfl, rfl, Nat.le_refl _, fun _ _ => rfl⟩
          have HBN := Shut.mk hbn
          generalize pieces[k] = p at *
          have HST := Shut.mk hst
          clear hc hst hbn
          cases g1 : inI p.group 1 100000 with
          | false =>
            have HE := Shut.mk (HNO.out p hmem (by unfold pieceOk; rw [g1]; rfl))
            clear hbl
            go_wp2_with fail
            go_quiet ((go_at_call 80; exact Calls.quiet_of_same (isInI _ _ _ _ false g1)))
            go_wp2_with fail
            go_ret
            exact ⟨by rw [HE.out]; rfl, HB.out.trans ((HBN.out _).mono HB.out.size)⟩
          | true =>
            cases g2 : inI p.len 1 (G : Int) with
            | false =>
              have HE := Shut.mk (HNO.out p hmem (by unfold pieceOk; rw [← HG.out, g1, g2]; rfl))
              clear hbl
              go_wp2_with fail
              go_quiet (first | (go_at_call 102; exact Calls.quiet_of_same (HGS.out _)) | (go_at_call 80; exact Calls.quiet_of_same (isInI _ _ _ _ true g1)) | (go_at_call 80; exact Calls.quiet_of_same (isInI _ _ _ _ false g2)))
              go_wp2_with fail
              go_ret
              exact ⟨by rw [HE.out]; rfl, HB.out.trans ((HBN.out _).mono HB.out.size)⟩
            | true =>
              have hok : pieceOk schema p = true := by unfold pieceOk; rw [← HG.out, g1, g2]; rfl
              have hlen := inI_iff.1 g2
              have HAL : Shut (z + p.len = sumP (pieces.take (k + 1)) ∧ ∀ q ∈ pieces.take (k + 1), pieceOk schema q = true) := ⟨by rw [HST.out, hall.out.1], fun q hq => by
                rw [HTK.out] at hq
                rcases List.mem_append.1 hq with h | h
                · exact hall.out.2 q h
                · simp at h; subst h; exact hok⟩
              clear hbl hall hok
              go_wp2_with fail
              go_quiet (first | (go_at_call 102; exact Calls.quiet_of_same (HGS.out _)) | (go_at_call 80; exact Calls.quiet_of_same (isInI _ _ _ _ true g1)) | (go_at_call 80; exact Calls.quiet_of_same (isInI _ _ _ _ true g2)))
              go_wp2_with fail
              go_roundw
              case rel => exact ⟨k + 1, z + p.len, by go_num, rfl, by omega, by omega, by push_cast; omega, HAL, ⟨HBN.out _⟩⟩
              case measure => simp [intOf]; omega
        · have hlt' : ¬ (k : Int) < (np : Int) := by omega
          have hfull : pieces.take k = pieces := List.take_of_length_le (by have := HNP.out; omega)
          have hz := hall.out
          rw [hfull] at hz
          have HE := Shut.mk (HY.out hz.2)
          have HZ := Shut.mk hz.1
          clear hfull hz hall
          by_cases e1 : z = len
          · have e1' : (z == len) = true := by simpa using e1
            by_cases e2 : z ≤ 1000
            · have HF : Shut (R = true) := ⟨by rw [HE.out, ← HZ.out]; simp [e1, e1 ▸ e2]⟩
              clear HE e1
              go_wp2_with fail
              go_ret
              exact ⟨by rw [HF.out]; rfl, HB.out.trans (hbl.out.mono HB.out.size)⟩
            · have HF : Shut (R = false) := ⟨by rw [HE.out, ← HZ.out]; simp; omega⟩
              clear HE e1
              go_wp2_with fail
              go_ret
              exact ⟨by rw [HF.out]; rfl, HB.out.trans (hbl.out.mono HB.out.size)⟩
          · have e1' : (z == len) = false := by simpa using e1
            have HF : Shut (R = false) := ⟨by rw [HE.out, ← HZ.out]; simp [e1]⟩
            clear HE e1
            go_wp2_with fail
            go_ret
            exact ⟨by rw [HF.out]; rfl, HB.out.trans (hbl.out.mono HB.out.size)⟩
end Go.Proofs.YthfmjjaollekiaaGreat
/- StrsA: Slices of strings: how they are held against each other. -/
namespace Go.Proofs.YthfmjjaollekiaaGreat
set_option maxRecDepth 100000
open Go.RowKit

theorem drewN_two (w : World) (a b : Nat) : (w.drewN a).drewN b = w.drewN (a + b) := by simp [World.drewN, Nat.add_assoc]
/-- A slice of strings, as it reads. -/
def SRow (w : World) (a : Option Addr) (xs : List ByteArray) : Prop :=
  0 < xs.length → ∃ g, a = some ⟨g, 0, none⟩ ∧ g < w.heap.size ∧ ∀ j, j < xs.length → w.cell? ⟨g, j, none⟩ = some (.string (xs.getD j ⟨#[]⟩))

def eqS (xs ys : List ByteArray) : Bool := decide (xs = ys)
theorem eqS_len (xs ys : List ByteArray) (h : xs.length ≠ ys.length) : eqS xs ys = false := by
  unfold eqS; rw [decide_eq_false]; intro e; rw [e] at h; exact h rfl
/-- The first k are the same. -/
def sameTo (xs ys : List ByteArray) (k : Nat) : Prop := ∀ j, j < k → xs.getD j ⟨#[]⟩ = ys.getD j ⟨#[]⟩
theorem eqS_yes (xs ys : List ByteArray) (h : xs.length = ys.length) (hs : sameTo xs ys xs.length) : eqS xs ys = true := by
  unfold eqS; rw [decide_eq_true]
  apply List.ext_getElem h
  intro j h1 h2
  have := hs j h1
  simpa [List.getD, h1, h2] using this
theorem eqS_no (xs ys : List ByteArray) (k : Nat) (h : xs.getD k ⟨#[]⟩ ≠ ys.getD k ⟨#[]⟩) : eqS xs ys = false := by
  unfold eqS; rw [decide_eq_false]; intro e; rw [e] at h; exact h rfl
theorem sameTo_step (xs ys : List ByteArray) (k : Nat) (h : sameTo xs ys k) (hk : xs.getD k ⟨#[]⟩ = ys.getD k ⟨#[]⟩) : sameTo xs ys (k + 1) := by
  intro j hj
  by_cases e : j = k
  · subst e; exact hk
  · exact h j (by omega)

end Go.Proofs.YthfmjjaollekiaaGreat
/- DecM: Plain facts on figures: 'dg n' are the figures of n (none of 0), 'decS n' those that Decimal writes; the two ways of reading them back are one. -/
namespace Go.Proofs.YthfmjjaollekiaaGreat.W

def dgF : Nat → Nat → List UInt8
  | 0, _ => []
  | f + 1, n => if n = 0 then [] else dgF f (n / 10) ++ [UInt8.ofNat (48 + n % 10)]
def dg (n : Nat) : List UInt8 := dgF n n
theorem dgF_enough : ∀ (f g n : Nat), n ≤ f → n ≤ g → dgF f n = dgF g n
  | 0, 0, _, _, _ => rfl
  | 0, g + 1, n, h, _ => by have : n = 0 := by omega
                            subst this; simp [dgF]
  | f + 1, 0, n, _, h => by have : n = 0 := by omega
                            subst this; simp [dgF]
  | f + 1, g + 1, n, h1, h2 => by
    unfold dgF
    by_cases h : n = 0
    · rw [if_pos h, if_pos h]
    · rw [if_neg h, if_neg h, dgF_enough f g (n / 10) (by omega) (by omega)]
theorem dg_zero : dg 0 = [] := rfl
theorem dg_step (n : Nat) (h : 0 < n) : dg n = dg (n / 10) ++ [UInt8.ofNat (48 + n % 10)] := by
  unfold dg
  match n, h with
  | k + 1, _ => rw [dgF, if_neg (by omega), dgF_enough k ((k + 1) / 10) ((k + 1) / 10) (by omega) (by omega)]
def decS (n : Nat) : List UInt8 := if n = 0 then [48] else dg n
theorem dg_len : ∀ (k n : Nat), n < 10 ^ k → (dg n).length ≤ k
  | 0, n, h => by have : n = 0 := by simpa using h
                  subst this; simp [dg_zero]
  | k + 1, n, h => by
    by_cases hn : n = 0
    · subst hn; simp [dg_zero]
    · rw [dg_step n (by omega)]
      have := dg_len k (n / 10) (by rw [Nat.pow_succ] at h; omega)
      simp; omega
/-- No figures begin with a nought. -/
theorem dg_head : ∀ (f n : Nat), n ≤ f → (dg n).head? ≠ some 48
  | 0, n, h => by have : n = 0 := by omega
                  subst this; simp [dg_zero]
  | f + 1, n, h => by
    by_cases hn : n = 0
    · subst hn; simp [dg_zero]
    · rw [dg_step n (by omega)]
      by_cases h10 : n / 10 = 0
      · rw [h10, dg_zero]
        simp
        intro e
        have := congrArg UInt8.toNat e
        simp at this
        omega
      · have ih := dg_head f (n / 10) (by omega)
        have hne : dg (n / 10) ≠ [] := by rw [dg_step _ (by omega)]; simp
        cases hc : dg (n / 10) with
        | nil => exact absurd hc hne
        | cons a r => rw [hc] at ih; simpa using ih

abbrev isFig (c : UInt8) : Prop := 48 ≤ c.toNat ∧ c.toNat ≤ 57
def numV (l : List UInt8) : Nat := l.foldl (fun n c => 10 * n + (c.toNat - 48)) 0
theorem numV_snoc (l : List UInt8) (c : UInt8) : numV (l ++ [c]) = 10 * numV l + (c.toNat - 48) := by simp [numV]
theorem foldl_le (l : List UInt8) : ∀ n : Nat, n ≤ l.foldl (fun n c => 10 * n + (c.toNat - 48)) n := by
  induction l with
  | nil => intro n; simp
  | cons c l ih => intro n; simp only [List.foldl_cons]; have := ih (10 * n + (c.toNat - 48)); omega
theorem numV_app (l r : List UInt8) : numV l ≤ numV (l ++ r) := by
  unfold numV; rw [List.foldl_append]; exact foldl_le r _
theorem numV_bd : ∀ (l : List UInt8) (n : Nat), (∀ c ∈ l, isFig c) → l.foldl (fun n c => 10 * n + (c.toNat - 48)) n + 1 ≤ (n + 1) * 10 ^ l.length
  | [], n, _ => by simp
  | c :: l, n, h => by
    have hc := h c (by simp)
    have := numV_bd l (10 * n + (c.toNat - 48)) (fun x hx => h x (by simp [hx]))
    simp only [List.foldl_cons, List.length_cons, Nat.pow_succ]
    have h2 : (10 * n + (c.toNat - 48) + 1) * 10 ^ l.length ≤ ((n + 1) * 10) * 10 ^ l.length := Nat.mul_le_mul_right _ (by unfold isFig at hc; omega)
    have h3 : (n + 1) * 10 * 10 ^ l.length = (n + 1) * (10 ^ l.length * 10) := by rw [Nat.mul_assoc, Nat.mul_comm 10]
    omega
theorem numV_lt (l : List UInt8) (h : ∀ c ∈ l, isFig c) : numV l < 10 ^ l.length := by
  have := numV_bd l 0 h
  unfold numV; omega

/-- What ReadDecimal answers. -/
def rdS (l : List UInt8) : Option Nat :=
  if l.length ≤ 10 ∧ (∀ c ∈ l, isFig c) ∧ numV l ≤ 1000000000 ∧ decS (numV l) = l then some (numV l) else none

theorem rdS_no (l : List UInt8) (h : ¬ (l.length ≤ 10 ∧ (∀ c ∈ l, isFig c) ∧ numV l ≤ 1000000000 ∧ decS (numV l) = l)) : rdS l = none := by
  unfold rdS; rw [if_neg h]
theorem rdS_yes (l : List UInt8) (h1 : l.length ≤ 10) (h2 : ∀ c ∈ l, isFig c) (h3 : numV l ≤ 1000000000) (h4 : decS (numV l) = l) : rdS l = some (numV l) := by
  unfold rdS; rw [if_pos ⟨h1, h2, h3, h4⟩]
theorem rdS_nil : rdS [] = none := rdS_no _ (by rintro ⟨_, _, _, h⟩; simp [numV, decS] at h)
theorem rdS_bad (p r : List UInt8) (c : UInt8) (h : ¬ isFig c) : rdS (p ++ c :: r) = none := rdS_no _ (fun x => h (x.2.1 c (by simp)))
theorem rdS_great (p r : List UInt8) (h : 1000000000 < numV p) : rdS (p ++ r) = none := rdS_no _ (fun x => by have := numV_app p r; have := x.2.2.1; omega)
theorem rdS_nought (r : List UInt8) (h : r ≠ []) : rdS (48 :: r) = none := rdS_no _ (fun x => by
  have h4 := x.2.2.2
  unfold decS at h4
  split at h4
  · simp at h4; exact h h4
  · have := dg_head _ _ (Nat.le_refl (numV (48 :: r)))
    rw [h4] at this
    simp at this)

/-- Figures read so far, with no needless nought. -/
def good (p : List UInt8) : Prop := (∀ c ∈ p, isFig c) ∧ (p = [] ∨ p = [48] ∨ (0 < numV p ∧ dg (numV p) = p))
theorem good_nil : good [] := ⟨fun _ h => by simp at h, .inl rfl⟩
theorem fig_byte (c : UInt8) (h : isFig c) : UInt8.ofNat (48 + (c.toNat - 48)) = c := by
  unfold isFig at h
  have : 48 + (c.toNat - 48) = c.toNat := by omega
  rw [this]; simp
theorem good_step (p : List UInt8) (c : UInt8) (hp : good p) (hc : isFig c) (h0 : p = [] ∨ 0 < numV p) : good (p ++ [c]) := by
  have h0c : (∀ x ∈ p ++ [c], isFig x) := by
    intro x hx
    rcases List.mem_append.1 hx with h | h
    · exact hp.1 x h
    · simp at h; subst h; exact hc
  refine ⟨h0c, ?_⟩
  have hd : dg (numV p) = p := by
    rcases hp.2 with h | h | h
    · subst h; rfl
    · subst h; rcases h0 with h | h
      · simp at h
      · simp [numV] at h
    · exact h.2
  by_cases hz : numV (p ++ [c]) = 0
  · rw [numV_snoc] at hz
    have hp0 : p = [] := by rcases h0 with h | h
                            · exact h
                            · omega
    right; left
    subst hp0
    have : c.toNat = 48 := by unfold isFig at hc; omega
    have e : c = 48 := UInt8.toNat_inj.1 (by simpa using this)
    rw [e]; rfl
  · right; right
    refine ⟨by omega, ?_⟩
    have hlt : c.toNat - 48 < 10 := by unfold isFig at hc; omega
    rw [dg_step _ (by omega), numV_snoc]
    have e1 : (10 * numV p + (c.toNat - 48)) / 10 = numV p := by omega
    have e2 : (10 * numV p + (c.toNat - 48)) % 10 = c.toNat - 48 := by omega
    rw [e1, e2, hd, fig_byte c hc]
theorem good_yes (p : List UInt8) (hp : good p) (hne : p ≠ []) (h : numV p ≤ 1000000000) : rdS p = some (numV p) := by
  have h4 : decS (numV p) = p := by
    rcases hp.2 with e | e | e
    · exact absurd e hne
    · subst e; rfl
    · unfold decS; rw [if_neg (by omega)]; exact e.2
  refine rdS_yes p ?_ hp.1 h h4
  rcases hp.2 with e | e | e
  · subst e; simp
  · subst e; simp
  · rw [← e.2]; exact dg_len 10 _ (by omega)
theorem good_again (p r : List UInt8) (hp : good p) (hne : p ≠ []) (hr : r ≠ []) (h : numV p = 0) : rdS (p ++ r) = none := by
  rcases hp.2 with e | e | e
  · exact absurd e hne
  · subst e; exact rdS_nought r hr
  · omega
end Go.Proofs.YthfmjjaollekiaaGreat.W
/- Dec: The walks of the models' Decimal, and of the two ReadDecimal. -/
namespace Go.Proofs.YthfmjjaollekiaaGreat
set_option maxRecDepth 100000
open Go.RowKit
open Go.PlainAid (bt)

theorem fig_low (x : Int) (w : World) (h0 : 0 ≤ x) (h1 : x < 10) :
    Calls Tryz.prog 96 #[.int .i64 x] w fun e w' => e = .returned (.int .u8 (48 + x)) ∧ w' = w := by
  go_enter Tryz.func96, Tryz.ntmps96
  go_wp2
  go_ret
  exact ⟨rfl, rfl⟩

/-- The text of one byte. -/
def oneB (c : Int) : ByteArray := ⟨#[UInt8.ofNat c.toNat]⟩
theorem oneB_size (c : Int) : (oneB c).size = 1 := rfl
/-- 'string([]byte{c})'. -/
theorem one_byte (W : World) (c : Int) (h0 : 0 ≤ c) (h1 : c < 256) :
    (convert 22 9 (.slice (some ⟨W.heap.size, 0, none⟩) 1 1)).run Tryz.prog (W.alloc (.cells #[.int .u8 c] 5)) =
      .ok (.string (oneB c)) (W.alloc (.cells #[.int .u8 c] 5)) := by
  have := run_convert_bytes_back (P := Tryz.prog) (W.alloc (.cells #[.int .u8 c] 5)) 22 9 5 ⟨W.heap.size, 0, none⟩ 1 [UInt8.ofNat c.toNat] Tryz.underlying22 Tryz.underlying5 Tryz.underlying9
    (fun j hj => by
      have : j = 0 := by simp at hj; omega
      subst this
      have e := byte_of c h0 h1
      rw [e]
      exact cell_one_new W _ _ 0 _ rfl)
  simpa [oneB] using this

theorem dg_more {n m : Nat} {s : ByteArray} (hm : 0 < m) (h : W.dg m ++ s.data.toList = W.dg n) (c : Int) (hc : c = 48 + ((m % 10 : Nat) : Int)) :
    W.dg (m / 10) ++ (oneB c ++ s).data.toList = W.dg n := by
  rw [← h, W.dg_step m hm]
  have e : UInt8.ofNat c.toNat = UInt8.ofNat (48 + m % 10) := by rw [hc]; congr 1
  unfold oneB
  rw [e]
  simp

set_option maxHeartbeats 400000 in
theorem decimal_pos (n : Nat) (w : World) (hn : 0 < n) (hm : n ≤ 9223372036854775807) :
    Calls Tryz.prog 40 #[.int .i64 n] w fun e w' => e = .returned (.string ⟨(W.dg n).toArray⟩) ∧ Below w.heap.size w w' := by
  have h0 : ((n : Int) == 0) = false := by rw [beq_eq_false_iff_ne]; omega
  have h1 : decide ((n : Int) < 0) = false := by simp
  have hl := W.dg_len 20 n (by omega)
  go_enter Tryz.func40, Tryz.ntmps40
  go_wp2_with fail
  go_loopw [0, 4] (fun i v wr => ∃ (m : Nat) (s : ByteArray), i = .int .i64 m ∧ v = .string s ∧ m ≤ n ∧ W.dg m ++ s.data.toList = W.dg n ∧ Below w.heap.size w wr) (fun i _ _ => (intOf i).toNat)
  case atStart => exact ⟨n, ⟨#[]⟩, rfl, rfl, Nat.le_refl _, by simp, Below.refl _ _⟩
  case round =>
    obtain ⟨m, s, rfl, rfl, hmn, hs, hb⟩ := hrel
    have HS : Hid (W.dg m ++ s.data.toList = W.dg n) := hs
    have hsz : s.size ≤ 20 := by have := congrArg List.length hs; simp at this; have e : s.data.size = s.size := rfl; omega
    clear hs
    by_cases hz : m = 0
    · subst hz
      go_wp2_with fail
      go_ret
      refine ⟨?_, hb⟩
      rw [← HS.out, W.dg_zero]
      simp
    · have hz' : ((m : Int) != 0) = true := by rw [bne_iff_ne]; omega
      have hp : 0 < m := by omega
      have hB := hb.size
      have ho := oneB_size (48 + (m : Int) % 10)
      have hcv := one_byte wr (48 + (m : Int) % 10) (by omega) (by omega)
      go_wp2_with fail
      refine (fig_low _ _ (by omega) (by omega)).mono ?_
      rintro e w' ⟨rfl, rfl⟩
      go_wp2_with fail
      go_roundw
      case rel => exact ⟨m / 10, _, by go_num, rfl, by omega, dg_more hp HS.out _ (by omega), hb.alloc hB _⟩
      case measure => simp [intOf]; omega

theorem neg_words (m : Nat) (h : m ≤ 9223372036854775808) : (-(m : Int)).tmod 10 = -((m : Int) % 10) ∧ (-(m : Int)).tdiv 10 = -((m : Int) / 10) := by
  rw [Int.neg_tmod, Int.neg_tdiv, Int.tmod_eq_emod_of_nonneg (by omega), Int.tdiv_eq_ediv_of_nonneg (by omega)]
  exact ⟨rfl, rfl⟩

set_option maxHeartbeats 400000 in
theorem decimal_neg (n : Nat) (w : World) (hn : 0 < n) (hm : n ≤ 9223372036854775808) :
    Calls Tryz.prog 40 #[.int .i64 (-(n : Int))] w fun e w' => e = .returned (.string ((⟨#[45]⟩ : ByteArray) ++ ⟨(W.dg n).toArray⟩)) ∧ Below w.heap.size w w' := by
  have h0 : (-(n : Int) == 0) = false := by rw [beq_eq_false_iff_ne]; omega
  have h1 : decide (-(n : Int) < 0) = true := by simp; omega
  have hl := W.dg_len 20 n (by omega)
  go_enter Tryz.func40, Tryz.ntmps40
  go_wp2_with fail
  go_loopw [0, 4] (fun i v wr => ∃ (m : Nat) (s : ByteArray), i = .int .i64 (-(m : Int)) ∧ v = .string s ∧ m ≤ n ∧ W.dg m ++ s.data.toList = W.dg n ∧ Below w.heap.size w wr) (fun i _ _ => (intOf i).natAbs)
  case atStart => exact ⟨n, ⟨#[]⟩, rfl, rfl, Nat.le_refl _, by simp, Below.refl _ _⟩
  case round =>
    obtain ⟨m, s, rfl, rfl, hmn, hs, hb⟩ := hrel
    have HS : Hid (W.dg m ++ s.data.toList = W.dg n) := hs
    have hsz : s.size ≤ 20 := by have := congrArg List.length hs; simp at this; have e : s.data.size = s.size := rfl; omega
    clear hs
    by_cases hz : m = 0
    · subst hz
      have hst : s = ⟨(W.dg n).toArray⟩ := by
        have := HS.out
        rw [W.dg_zero, List.nil_append] at this
        rw [← this]
      have HT : Hid (s = ⟨(W.dg n).toArray⟩) := hst
      clear hst
      go_wp2_with fail
      go_ret
      refine ⟨?_, hb⟩
      rw [← HT.out]
      rfl
    · have hz' : (-(m : Int) != 0) = true := by rw [bne_iff_ne]; omega
      have hp : 0 < m := by omega
      have hB := hb.size
      have ho := oneB_size (48 + (m : Int) % 10)
      have hcv := one_byte wr (48 + (m : Int) % 10) (by omega) (by omega)
      obtain ⟨t1, t2⟩ := neg_words m (by omega)
      by_cases hd : (m : Int) % 10 = 0
      · have hdd : decide (-((m : Int) % 10) < 0) = false := by simp; omega
        have ho := oneB_size (48 + -((m : Int) % 10))
        have hcv := one_byte wr (48 + -((m : Int) % 10)) (by omega) (by omega)
        have HD : Hid ((m : Int) % 10 = 0) := hd
        have g0 : 0 ≤ -((m : Int) % 10) := by omega
        clear hd
        go_wp2_with fail
        refine (fig_low _ _ (by omega) (by omega)).mono ?_
        rintro e w' ⟨rfl, rfl⟩
        go_wp2_with fail
        go_roundw
        case rel => exact ⟨m / 10, _, by go_num, rfl, by omega, dg_more hp HS.out _ (by have := HD.out; omega), hb.alloc hB _⟩
        case measure => simp [intOf]; omega
      · have hdd : decide (-((m : Int) % 10) < 0) = true := by simp; omega
        go_wp2_with fail
        refine (fig_low _ _ (by omega) (by omega)).mono ?_
        rintro e w' ⟨rfl, rfl⟩
        go_wp2_with fail
        go_roundw
        case rel => exact ⟨m / 10, _, by go_num, rfl, by omega, dg_more hp HS.out _ (by omega), hb.alloc hB _⟩
        case measure => simp [intOf]; omega

theorem decimal_zero (w : World) :
    Calls Tryz.prog 40 #[.int .i64 0] w fun e w' => e = .returned (.string ⟨#[48]⟩) ∧ Below w.heap.size w w' := by
  go_enter Tryz.func40, Tryz.ntmps40
  go_wp2_with fail
  go_ret
  exact ⟨rfl, Below.refl _ _⟩
theorem decimal_nat (x : Int) (w : World) (h0 : 0 ≤ x) (h1 : x ≤ 9223372036854775807) :
    Calls Tryz.prog 40 #[.int .i64 x] w fun e w' => e = .returned (.string ⟨(W.decS x.toNat).toArray⟩) ∧ Below w.heap.size w w' := by
  obtain ⟨n, rfl⟩ := Int.eq_ofNat_of_zero_le h0
  rw [Int.toNat_natCast]
  by_cases h : n = 0
  · subst h; exact decimal_zero w
  · have e : W.decS n = W.dg n := by unfold W.decS; rw [if_neg h]
    rw [e]; exact decimal_pos n w (by omega) (by omega)
end Go.Proofs.YthfmjjaollekiaaGreat
/- StrsB: Slices of strings: marks that are laid into one, and found again. -/
namespace Go.Proofs.YthfmjjaollekiaaGreat
set_option maxRecDepth 100000
open Go.RowKit
attribute [local go_sem ↓] Go.wp_at_zero Go.wp_at_succ

/-- The text of a mark. -/
def mt (k : Nat) : ByteArray := (⟨#[109]⟩ : ByteArray) ++ ⟨(W.decS k).toArray⟩

set_option maxHeartbeats 400000 in
theorem markText_any (n : Nat) (w : World) (hn : 0 < n) (hm : n ≤ 1000000000) :
    Calls Tryz.prog 109 #[.int .i64 n] w fun e w' => e = .returned (.string (mt n)) ∧ Below w.heap.size w w' := by
  have h0 : decide ((n : Int) ≤ 0) = false := by simp; omega
  have hl := W.dg_len 20 n (by omega)
  go_enter Tryz.func109, Tryz.ntmps109
  go_wp2_with fail
  go_loopw [0, 3] (fun i v wr => ∃ (m : Nat) (s : ByteArray), i = .int .i64 m ∧ v = .string s ∧ m ≤ n ∧ W.dg m ++ s.data.toList = W.dg n ∧ Below w.heap.size w wr) (fun i _ _ => (intOf i).toNat)
  case atStart => exact ⟨n, ⟨#[]⟩, rfl, rfl, Nat.le_refl _, by simp, Below.refl _ _⟩
  case round =>
    obtain ⟨m, s, rfl, rfl, hmn, hs, hb⟩ := hrel
    have HS : Hid (W.dg m ++ s.data.toList = W.dg n) := hs
    have hsz : s.size ≤ 20 := by have := congrArg List.length hs; simp at this; have e : s.data.size = s.size := rfl; omega
    clear hs
    by_cases hz : m = 0
    · subst hz
      have hst : mt n = (⟨#[109]⟩ : ByteArray) ++ s := by
        have := HS.out
        rw [W.dg_zero, List.nil_append] at this
        unfold mt W.decS
        rw [if_neg (by omega), ← this]
      have HT : Hid _ := hst
      clear hst
      go_wp2_with fail
      go_ret
      refine ⟨?_, hb⟩
      rw [HT.out]
      rfl
    · have hp : 0 < m := by omega
      have hB := hb.size
      have ho := oneB_size (48 + (m : Int) % 10)
      have hcv := one_byte wr (48 + (m : Int) % 10) (by omega) (by omega)
      go_wp2_with fail
      go_roundw
      case rel => exact ⟨m / 10, _, by go_num, rfl, by omega, dg_more hp HS.out _ (by omega), hb.alloc hB _⟩
      case measure => simp [intOf]; omega
theorem markText_int (x : Int) (w : World) (h0 : 0 < x) (h1 : x ≤ 1000000000) :
    Calls Tryz.prog 109 #[.int .i64 x] w fun e w' => e = .returned (.string (mt x.toNat)) ∧ Below w.heap.size w w' := by
  obtain ⟨n, rfl⟩ := Int.eq_ofNat_of_zero_le (Int.le_of_lt h0)
  exact markText_any n w (by omega) (by omega)

/-- Marks from k on. -/
def marks (k n : Nat) : List ByteArray := (List.range n).map fun j => mt (k + j)
theorem marks_len (k n : Nat) : (marks k n).length = n := by simp [marks]
theorem marks_at (k n j : Nat) (h : j < n) : (marks k n).getD j ⟨#[]⟩ = mt (k + j) := by simp [marks, List.getD, h]

/-- A row of strings that may be written. -/
def WRow (w : World) (g : Nat) (xs : List ByteArray) : Prop :=
  g < w.heap.size ∧ ∀ j, j < xs.length → w.cell? ⟨g, j, none⟩ = some (.string (xs.getD j ⟨#[]⟩)) ∧ w.frozen? ⟨g, j, none⟩ = false
theorem WRow.srow {w : World} {g : Nat} {xs : List ByteArray} (h : WRow w g xs) : SRow w (some ⟨g, 0, none⟩) xs := fun _ => ⟨g, rfl, h.1, fun j hj => (h.2 j hj).1⟩
theorem WRow.below {w w' : World} {g B : Nat} {xs : List ByteArray} (h : WRow w g xs) (hb : Below B w w') (hg : g < B) : WRow w' g xs :=
  ⟨Nat.lt_of_lt_of_le h.1 hb.size, fun j hj => ⟨(hb.cell (p := ⟨g, j, none⟩) hg).trans (h.2 j hj).1, (hb.frozen (p := ⟨g, j, none⟩) hg).trans (h.2 j hj).2⟩⟩
theorem WRow.set {w : World} {g : Nat} {xs : List ByteArray} (h : WRow w g xs) (i : Nat) (x : ByteArray) (hi : i < xs.length) : WRow (w.setCell ⟨g, i, none⟩ (.string x)) g (xs.set i x) := by
  refine ⟨by have := h.1; simpa [World.setCell] using this, fun j hj => ?_⟩
  rw [List.length_set] at hj
  refine ⟨?_, (World.frozen?_setCell _ _ _ _).trans (h.2 j hj).2⟩
  by_cases e : j = i
  · subst e
    rw [World.cell?_setCell_same _ _ _ (h.2 j hj).1]
    simp [List.getD, hi]
  · rw [World.cell?_setCell_other _ _ _ _ (by first | (simp; done) | (simp; omega)), (h.2 j hj).1]
    simp [List.getD, Ne.symm e]
theorem grownBy_setCell (w : World) (g i : Nat) (v : Value) : w.grownBy (w.setCell ⟨g, i, none⟩ v) (some g) :=
  ⟨rfl, rfl, rfl, by simp [World.setCell], fun k _ hk => Below.heap_setCell _ _ _ _ (fun e => hk (by rw [e]))⟩
theorem grownBy_below {w w' : World} {g : Nat} (h : Below w.heap.size w w') : w.grownBy w' (some g) := ⟨h.os, h.tape, h.output, h.size, fun k hk _ => h.block k hk⟩
theorem grownBy_two {a b c : World} {g : Nat} (h : a.grownBy b (some g)) (k : b.grownBy c (some g)) : a.grownBy c (some g) :=
  ⟨k.os.trans h.os, k.tape.trans h.tape, k.output.trans h.output, Nat.le_trans h.size k.size, fun i hi hn => (k.block i (Nat.lt_of_lt_of_le hi h.size) hn).trans (h.block i hi hn)⟩

theorem set_marks {k j : Nat} {ys : List ByteArray} (h : ∀ t, t < j → ys.getD t ⟨#[]⟩ = mt (k + t)) (hj : j < ys.length) : ∀ t, t < j + 1 → (ys.set j (mt (k + j))).getD t ⟨#[]⟩ = mt (k + t) := by
  intro t ht
  by_cases e : t = j
  · subst e; simp [List.getD, hj]
  · have := h t (by omega)
    simpa [List.getD, List.getElem?_set, Ne.symm e] using this
theorem wrow_marks {w : World} {g k n : Nat} {ys : List ByteArray} (h : WRow w g ys) (hl : ys.length = n) (hy : ∀ t, t < n → ys.getD t ⟨#[]⟩ = mt (k + t)) : WRow w g (marks k n) := by
  refine ⟨h.1, fun j hj => ?_⟩
  rw [marks_len] at hj
  have := h.2 j (by omega)
  rw [marks_at k n j hj, ← hy j hj]
  exact this
end Go.Proofs.YthfmjjaollekiaaGreat
/- TvA: Rows of texts that a call has made. -/
namespace Go.Proofs.YthfmjjaollekiaaGreat
set_option maxRecDepth 100000
open Go.RowKit

/-- Texts as the cells of a row. -/
def tv (l : List ByteArray) : List Value := l.map Value.string
theorem tv_snoc (l : List ByteArray) (x : ByteArray) : tv l ++ [.string x] = tv (l ++ [x]) := by simp [tv]
theorem tv_len (l : List ByteArray) : (tv l).length = l.length := by simp [tv]
theorem Tryz.info9 : (Tryz.prog.info? 9).map (fun i => (i.zero, i.size, i.bytes)) = some (some (.string ⟨#[]⟩), 1, 16) := by kernel_rfl

/-- A row of texts that a call has made: nothing of it is older than B. -/
def RowAt (w : World) (B : Nat) (a : Option Addr) (xs : List ByteArray) (cap : Nat) : Prop := xs.length ≤ cap ∧ (xs = [] ∨ ∃ g, a = some ⟨g, 0, none⟩ ∧ B ≤ g ∧ WRow w g xs)
theorem own_rowAt {w : World} {B : Nat} {v : Value} {xs : List ByteArray} (h : w.ownsRow B 9 1 v xs.length (tv xs)) : ∃ a cap, v = .slice a xs.length cap ∧ RowAt w B a xs cap := by
  have hc : ∀ g, v.ownBlock = some g → ∀ j u, (tv xs)[j]? = some u → w.cell? ((⟨g, 0, none⟩ : Addr).add j) = some u := fun g hg => h.cells hg
  have hlt := h.lt
  obtain ⟨_, ⟨rfl, h0⟩ | ⟨g, cap, cur, rfl, hB, hcur, hn, _, hsz, _⟩⟩ := h
  · have : xs = [] := List.eq_nil_of_length_eq_zero h0
    subst this
    exact ⟨none, 0, rfl, by simp, .inl rfl⟩
  · refine ⟨_, cap, rfl, hn, .inr ⟨g, rfl, hB, (hlt g rfl).2, fun j hj => ⟨?_, ?_⟩⟩⟩
    · have := hc g rfl j _ (show (tv xs)[j]? = some _ by simp [tv, hj]; rfl)
      have e : (⟨g, 0, none⟩ : Addr).add j = ⟨g, j, none⟩ := by
        cases j <;> simp [Addr.add]
      rw [e] at this
      simpa [List.getD, hj] using this
    · unfold World.frozen?
      rw [hcur]; simp
end Go.Proofs.YthfmjjaollekiaaGreat
/- StrV: Rows of texts as values: what is seen of one, what an answer is, what is marked, and the laws' own functions over them. -/
namespace Go.Proofs.YthfmjjaollekiaaGreat
set_option maxRecDepth 100000
open Go.RowKit
attribute [local go_sem ↓] Go.wp_at_zero Go.wp_at_succ

theorem tv_get (L : List ByteArray) (j : Nat) (h : j < L.length) : (tv L)[j]? = some (.string (L.getD j ⟨#[]⟩)) := by simp [tv, List.getD, h]
theorem tv_set (L : List ByteArray) (j : Nat) (x : ByteArray) : (tv L).set j (.string x) = tv (L.set j x) := by simp [tv, List.map_set]
theorem wrow_cells {w : World} {g : Nat} {L : List ByteArray} : WRow w g L ↔ WCells w g (tv L) := by
  constructor
  · intro h
    refine ⟨h.1, fun i v hv => ?_⟩
    have hi : i < L.length := by have := (List.getElem?_eq_some_iff.1 hv).1; rw [tv_len] at this; exact this
    rw [tv_get L i hi] at hv
    cases hv
    exact h.2 i hi
  · intro h
    exact ⟨h.1, fun j hj => h.2 j _ (tv_get L j hj)⟩
/-- How many bytes there are. -/
def tsum : List ByteArray → Nat
  | [] => 0
  | x :: L => x.size + tsum L
theorem tsum_mem {L : List ByteArray} {x : ByteArray} (h : x ∈ L) : x.size ≤ tsum L := by
  induction L with
  | nil => simp at h
  | cons t L ih =>
    rcases List.mem_cons.1 h with rfl | h
    · simp only [tsum]; omega
    · have := ih h; simp only [tsum]; omega
theorem tsum_append (L M : List ByteArray) : tsum (L ++ M) = tsum L + tsum M := by
  induction L with
  | nil => simp [tsum]
  | cons t L ih => simp only [List.cons_append, tsum]; omega
theorem tsum_take (L : List ByteArray) (k : Nat) (h : k < L.length) : tsum (L.take (k + 1)) = tsum (L.take k) + (L.getD k ⟨#[]⟩).size := by
  rw [List.take_succ_eq_append_getElem h, tsum_append]
  have e : L.getD k ⟨#[]⟩ = L[k] := by simp [List.getD, h]
  rw [e]; simp [tsum]
theorem tsum_le (L : List ByteArray) (k : Nat) : tsum (L.take k) ≤ tsum L := by
  have := tsum_append (L.take k) (L.drop k)
  rw [List.take_append_drop] at this
  omega
/-- Texts that a machine can hold. -/
def TFit (L : List ByteArray) : Prop := L.length + tsum L ≤ 1048576
/-- A value that is these texts. -/
def SSee (w : World) (v : Value) (L : List ByteArray) (lo hi : Nat) : Prop := ∃ (a : Option Addr) (cap : Nat), v = .slice a L.length cap ∧ RRow w a (tv L) lo hi
/-- An answer of texts: nothing, or a row that may be written. -/
def SAns (w : World) (v : Value) (L : List ByteArray) (lo hi : Nat) : Prop := ∃ (a : Option Addr) (cap : Nat), v = .slice a L.length cap ∧ L.length ≤ cap ∧ (L = [] ∨ ∃ g, a = some ⟨g, 0, none⟩ ∧ lo ≤ g ∧ g < hi ∧ WCells w g (tv L))
theorem SAns.see {w : World} {v : Value} {L : List ByteArray} {lo hi : Nat} (h : SAns w v L lo hi) : SSee w v L lo hi := by
  obtain ⟨a, cap, e, _, h1⟩ := h
  refine ⟨a, cap, e, ?_⟩
  rcases h1 with rfl | ⟨g, rfl, q1, q2, hm⟩
  · intro h; simp [tv] at h
  · exact RRow.of_wcells hm q1 q2
theorem SSee.turned {w w' : World} {v : Value} {L : List ByteArray} {lo hi lo' hi' : Nat} (h : SSee w v L lo hi) (t : Turned w w' lo' hi') (hd : hi ≤ lo' ∨ hi' ≤ lo) : SSee w' v L lo hi := by
  obtain ⟨a, cap, e, h1⟩ := h
  exact ⟨a, cap, e, h1.turned t hd⟩
theorem SSee.below {w w' : World} {v : Value} {L : List ByteArray} {lo hi : Nat} (h : SSee w v L lo hi) (hb : Below w.heap.size w w') : SSee w' v L lo hi := by
  obtain ⟨a, cap, e, h1⟩ := h
  exact ⟨a, cap, e, h1.below hb⟩
theorem SAns.turned {w w' : World} {v : Value} {L : List ByteArray} {lo hi lo' hi' : Nat} (h : SAns w v L lo hi) (t : Turned w w' lo' hi') (hd : hi ≤ lo' ∨ hi' ≤ lo) : SAns w' v L lo hi := by
  obtain ⟨a, cap, e, hc, h1⟩ := h
  refine ⟨a, cap, e, hc, ?_⟩
  rcases h1 with rfl | ⟨g, rfl, q1, q2, hm⟩
  · exact .inl rfl
  · exact .inr ⟨g, rfl, q1, q2, hm.turned t (by omega)⟩
theorem SAns.below {w w' : World} {v : Value} {L : List ByteArray} {lo hi : Nat} (h : SAns w v L lo hi) (hb : Below w.heap.size w w') : SAns w' v L lo hi := by
  obtain ⟨a, cap, e, hc, h1⟩ := h
  refine ⟨a, cap, e, hc, ?_⟩
  rcases h1 with rfl | ⟨g, rfl, q1, q2, hm⟩
  · exact .inl rfl
  · exact .inr ⟨g, rfl, q1, q2, hm.grow hb⟩
theorem SAns.empty (w : World) (a : Option Addr) (cap lo hi : Nat) : SAns w (.slice a 0 cap) [] lo hi := ⟨a, cap, rfl, Nat.zero_le _, .inl rfl⟩
theorem SAns.srow {w : World} {v : Value} {L : List ByteArray} {lo hi : Nat} (h : SAns w v L lo hi) : ∃ a cap, v = .slice a L.length cap ∧ SRow w a L := by
  obtain ⟨a, cap, e, _, h1⟩ := h
  refine ⟨a, cap, e, ?_⟩
  rcases h1 with rfl | ⟨g, rfl, _, _, hm⟩
  · intro h; simp at h
  · exact (wrow_cells.2 hm).srow
/-- What an answer of texts is: new memory alone. -/
def SPost (L : List ByteArray) (w : World) (e : Ending) (w' : World) : Prop := ∃ v, e = .returned v ∧ SAns w' v L w.heap.size w'.heap.size ∧ Below w.heap.size w w'
theorem own_sans {w w' : World} {v : Value} {L : List ByteArray} {n : Nat} (hn : L.length = n) (h : w'.ownsRow w.heap.size 9 1 v n (tv L)) : SAns w' v L w.heap.size w'.heap.size := by
  have h' := h
  rw [← hn] at h'
  obtain ⟨a, cap, rfl, hc, h1⟩ := own_rowAt h'
  refine ⟨a, cap, rfl, hc, ?_⟩
  rcases h1 with rfl | ⟨g, rfl, q1, hm⟩
  · exact .inl rfl
  · exact .inr ⟨g, rfl, q1, hm.1, wrow_cells.1 hm⟩
theorem infoTextG : (Tryz.prog.info? 9).map (fun i => (i.zero, i.size, i.bytes)) = some (some (.string ⟨#[]⟩), 1, 16) := by kernel_rfl
end Go.Proofs.YthfmjjaollekiaaGreat
/- PathA: The walks of the models' NameOk, SplitPath, JoinPath, ParentPath. -/
namespace Go.Proofs.YthfmjjaollekiaaGreat
set_option maxRecDepth 100000
open Go.RowKit
open Go.PlainAid (bt)
attribute [local go_sem ↓] Go.wp_at_zero Go.wp_at_succ

theorem nameC_bt {s : ByteArray} {j : Nat} (h : j < s.size) : nameC ((lb s)[j]'h) = ((decide (97 ≤ bt s j) && decide (bt s j ≤ 122)) || (decide (48 ≤ bt s j) && decide (bt s j ≤ 57))) := by
  unfold nameC
  rw [bt_at h]
  generalize ((lb s)[j]'h).toNat = n
  simp only [show ((97 : Int) ≤ (n : Int)) = (97 ≤ n) from propext ⟨fun h => by omega, fun h => by omega⟩, show ((n : Int) ≤ 122) = (n ≤ 122) from propext ⟨fun h => by omega, fun h => by omega⟩, show ((48 : Int) ≤ (n : Int)) = (48 ≤ n) from propext ⟨fun h => by omega, fun h => by omega⟩, show ((n : Int) ≤ 57) = (n ≤ 57) from propext ⟨fun h => by omega, fun h => by omega⟩]
/-- Whether a byte may stand in a name. -/
def nameN (n : Int) : Prop := (97 ≤ n ∧ n ≤ 122) ∨ (48 ≤ n ∧ n ≤ 57)
theorem nameC_iff {s : ByteArray} {j : Nat} (h : j < s.size) : nameC ((lb s)[j]'h) = true ↔ nameN (bt s j) := by
  rw [nameC_bt h]
  unfold nameN
  simp only [Bool.or_eq_true, Bool.and_eq_true, decide_eq_true_eq]
theorem nameB_iff (s : ByteArray) : nameB s = true ↔ (∀ j, j < s.size → nameN (bt s j)) ∧ 1 ≤ s.size ∧ s.size ≤ 8 := by
  unfold nameB nameL
  have hl : (lb s).length = s.size := rfl
  simp only [Bool.and_eq_true, decide_eq_true_eq, List.all_eq_true, hl]
  constructor
  · rintro ⟨h1, h2⟩
    exact ⟨fun j hj => (nameC_iff hj).1 (h1 _ (List.getElem_mem hj)), h2⟩
  · rintro ⟨h1, h2⟩
    refine ⟨fun c hc => ?_, h2⟩
    obtain ⟨j, hj, rfl⟩ := List.mem_iff_getElem.1 hc
    exact (nameC_iff hj).2 (h1 j hj)
theorem nameB_no {s : ByteArray} {j : Nat} (h : j < s.size) (hn : ¬ nameN (bt s j)) : nameB s = false := by
  cases e : nameB s with
  | false => rfl
  | true => exact absurd ((nameB_iff s).1 e |>.1 j h) hn
theorem units_at {w : World} {a : Option Addr} {L : List ByteArray} {lo hi : Nat} (h : RRow w a (tv L) lo hi) (hp : 0 < L.length) : ∃ b off, a = some ⟨b, off, none⟩ ∧ b < w.heap.size ∧ ∀ j, j < L.length → w.cell? ⟨b, off + j, none⟩ = some (.string (L.getD j ⟨#[]⟩)) := by
  obtain ⟨b, off, e, _, _, hb, hc⟩ := h (by rw [tv_len]; exact hp)
  exact ⟨b, off, e, hb, fun j hj => hc j _ (tv_get L j hj)⟩
set_option maxHeartbeats 1000000 in
theorem specNameOk (s : ByteArray) (w : World) (hs : s.size ≤ 1048576) : Calls Tryz.prog 134 #[.string s] w fun e w' => e = .returned (.bool (nameB s)) ∧ Below w.heap.size w w' := by
  have hb := Go.PlainAid.get_bt s
  obtain ⟨r, hre⟩ : ∃ r, r = nameB s := ⟨_, rfl⟩
  have HRE := Shut.mk hre
  rw [← hre]
  clear hre
  go_enter Tryz.func134, Tryz.ntmps134
  go_wp2_with fail
  go_loopw [3] (fun i wr => ∃ (k : Nat), i = .int .i64 k ∧ k ≤ s.size ∧ Shut (∀ j, j < k → nameN (bt s j)) ∧ Shut (Below w.heap.size w wr)) (fun i _ => s.size - (intOf i).toNat)
  case atStart => exact ⟨0, rfl, Nat.zero_le _, ⟨fun j hj => by omega⟩, ⟨Below.refl _ _⟩⟩
  case round =>
    obtain ⟨k, rfl, hk, hall, hbl⟩ := hrel
    by_cases hlt : k < s.size
    · have b0 := Go.PlainAid.bt_nonneg s k
      have b1 := Go.PlainAid.bt_le s k
      have hlt' : (k : Int) < (s.size : Int) := by omega
      have k0 : (0 : Int) ≤ (k : Int) := by omega
      have HN := Shut.mk (fun (q : nameN (bt s k)) => show ∀ j, j < k + 1 → nameN (bt s j) from fun j hj => by
        by_cases e : j = k
        · subst e; exact q
        · exact hall.out j (by omega))
      have HF := Shut.mk (fun (q : ¬ nameN (bt s k)) => HRE.out.trans (nameB_no hlt q))
      by_cases c1 : bt s k < 97
      · by_cases c2 : bt s k < 48
        · have HE := Shut.mk (HF.out (fun q => by unfold nameN at q; omega))
          go_wp2_with fail
          go_ret
          exact ⟨by rw [HE.out]; rfl, hbl.out⟩
        · by_cases c3 : 57 < bt s k
          · have HE := Shut.mk (HF.out (fun q => by unfold nameN at q; omega))
            go_wp2_with fail
            go_ret
            exact ⟨by rw [HE.out]; rfl, hbl.out⟩
          · have HE := Shut.mk (HN.out (by unfold nameN; omega))
            go_wp2_with fail
            go_roundw
            case rel => exact ⟨k + 1, by go_num, by omega, HE, hbl⟩
            case measure => simp [intOf]; omega
      · by_cases c2 : 122 < bt s k
        · have HE := Shut.mk (HF.out (fun q => by unfold nameN at q; omega))
          have c3 : ¬ bt s k < 48 := by omega
          have c4 : 57 < bt s k := by omega
          go_wp2_with fail
          go_ret
          exact ⟨by rw [HE.out]; rfl, hbl.out⟩
        · have HE := Shut.mk (HN.out (by unfold nameN; omega))
          go_wp2_with fail
          go_roundw
          case rel => exact ⟨k + 1, by go_num, by omega, HE, hbl⟩
          case measure => simp [intOf]; omega
    · have hlt' : ¬ (k : Int) < (s.size : Int) := by omega
      have hin : (decide ((1 : Int) ≤ (s.size : Int)) && decide ((s.size : Int) ≤ 8)) = r := by
        rw [HRE.out, Bool.eq_iff_iff, nameB_iff]
        simp only [Bool.and_eq_true, decide_eq_true_eq]
        constructor
        · intro h; exact ⟨fun j hj => hall.out j (by omega), by omega, by omega⟩
        · intro h; omega
      have HI := Shut.mk (fun W => isIn (s.size : Int) 1 8 W _ hin)
      clear hin hall
      go_wp2_with fail
      refine (HI.out _).mono ?_
      rintro e w1 ⟨rfl, hw⟩
      subst hw
      go_wp2_with fail
      go_ret
      exact ⟨rfl, hbl.out⟩
end Go.Proofs.YthfmjjaollekiaaGreat
/- PathB: The walks of the models' SplitPath and JoinPath. -/
namespace Go.Proofs.YthfmjjaollekiaaGreat
set_option maxRecDepth 100000
open Go.RowKit
open Go.PlainAid (bt)
attribute [local go_sem ↓] Go.wp_at_zero Go.wp_at_succ

/-- What an answer of texts and a flag is, in a row that may be made longer. -/
def OPost (R : List ByteArray × Bool) (w : World) (e : Ending) (w' : World) : Prop := ∃ v, e = .returned (.tuple #[v, .bool R.2]) ∧ w'.ownsRow w.heap.size 9 1 v R.1.length (tv R.1) ∧ Below w.heap.size w w'
theorem OPost.none {R : List ByteArray × Bool} {b : Bool} {w w' : World} {v : Value} (h : R = ([], b)) (ho : w'.ownsRow w.heap.size 9 1 v 0 []) (hb : Below w.heap.size w w') : OPost R w (.returned (.tuple #[v, .bool b])) w' := by
  unfold OPost
  rw [h]
  exact ⟨v, rfl, ho, hb⟩
theorem OPost.some {R L : List ByteArray × Bool} {w w' : World} {v : Value} (h : R = L) (ho : w'.ownsRow w.heap.size 9 1 v L.1.length (tv L.1)) (hb : Below w.heap.size w w') : OPost R w (.returned (.tuple #[v, .bool L.2])) w' := by
  rw [h]
  exact ⟨v, rfl, ho, hb⟩
theorem own_made0 {w w' : World} (hb : Below w.heap.size w w') : (w'.alloc (.cells #[] 9)).ownsRow w.heap.size 9 1 (.slice (.some ⟨w'.heap.size, 0, none⟩) 0 0) 0 [] := World.ownsRow_made w' #[] 0 hb.size (by decide) rfl
theorem splitB_first {p : ByteArray} (h : p.size = 0 ∨ bt p 0 ≠ 47) : splitB p = ([], false) := by
  have hl : (lb p).length = p.size := rfl
  unfold splitB
  cases e : lb p with
  | nil => rfl
  | cons c r =>
    have hc : c ≠ 47 := fun q => by
      subst q
      rw [e] at hl
      simp at hl
      rcases h with h | h
      · omega
      · apply h
        have h1 : 0 < p.size := by omega
        rw [bt_at h1]
        simp only [e, List.getElem_cons_zero]
        decide
    have e2 : splitP (c :: r) = ([], false) := by unfold splitP; exact if_neg hc
    rw [e2]; rfl
theorem splitB_one {p : ByteArray} (h : p = ⟨#[47]⟩) : splitB p = ([], true) := by subst h; rfl
theorem one_slash {p : ByteArray} (h : p.size = 1) (h0 : bt p 0 = 47) : p = ⟨#[47]⟩ := by
  have hl : (lb p).length = p.size := rfl
  have e : lb p = [47] := by
    cases e : lb p with
    | nil => rw [e] at hl; simp at hl; omega
    | cons c r =>
      rw [e] at hl
      have hr : r = [] := List.eq_nil_of_length_eq_zero (by simp at hl; omega)
      subst hr
      congr 1
      have h2 := bt_at (s := p) (j := 0) (by omega)
      simp only [e, List.getElem_cons_zero] at h2
      rw [h0] at h2
      have h3 : c.toNat = 47 := by omega
      exact UInt8.toNat_inj.1 h3
  have := congrArg ba e
  rw [ba_lb] at this
  exact this
/-- What the way through a path knows. -/
structure PaWay (p : ByteArray) (k bg : Nat) (done : List ByteArray) : Prop where
  open' : k ≤ p.size → PaRel p k bg done
  fin : p.size < k → (segs ((lb p).drop 1)).map ba = done ∧ ∀ s ∈ done, nameB s = true
theorem PaWay.split {p : ByteArray} {k bg : Nat} {done : List ByteArray} (h : PaWay p k bg done) (hk : k ≤ p.size) (hc : k < p.size → bt p k = 47) : ∃ rest, (segs ((lb p).drop 1)).map ba = (done ++ [p.extract bg k]) ++ rest := by
  by_cases e : k < p.size
  · exact ⟨_, (h.open' hk).split e (hc e)⟩
  · exact ⟨[], by rw [List.append_nil]; exact (h.open' hk).fin (by omega)⟩
theorem PaWay.bad {p : ByteArray} {k bg : Nat} {done : List ByteArray} (h : PaWay p k bg done) (h1 : 1 < p.size) (h0 : bt p 0 = 47) (hk : k ≤ p.size) (hc : k < p.size → bt p k = 47) (hn : nameB (p.extract bg k) = false) : splitB p = ([], false) := by
  obtain ⟨rest, e⟩ := h.split hk hc
  rw [splitB_rest h1 h0, if_neg (fun q => by
    have := q.1 (p.extract bg k) (by rw [e]; simp)
    rw [hn] at this; cases this)]
theorem PaWay.next {p : ByteArray} {k bg : Nat} {done : List ByteArray} (h : PaWay p k bg done) (hk : k ≤ p.size) (hc : k < p.size → bt p k = 47) (hn : nameB (p.extract bg k) = true) : PaWay p (k + 1) (k + 1) (done ++ [p.extract bg k]) := by
  refine ⟨fun q => (h.open' hk).next (by omega) (hc (by omega)) hn, fun q => ⟨(h.open' hk).fin (by omega), fun s hs => ?_⟩⟩
  rcases List.mem_append.1 hs with q | q
  · exact (h.open' hk).names s q
  · simp at q; subst q; exact hn
theorem PaWay.step {p : ByteArray} {k bg : Nat} {done : List ByteArray} (h : PaWay p k bg done) (hk : k < p.size) (hc : bt p k ≠ 47) : PaWay p (k + 1) bg done := ⟨fun _ => (h.open' (by omega)).step hc, fun q => by omega⟩
theorem PaWay.done {p : ByteArray} {k bg : Nat} {done : List ByteArray} (h : PaWay p k bg done) (h1 : 1 < p.size) (h0 : bt p 0 = 47) (hk : p.size < k) : splitB p = if done.length ≤ 4 then (done, true) else ([], false) := by
  obtain ⟨e, hn⟩ := h.fin hk
  rw [splitB_rest h1 h0, e]
  by_cases q : done.length ≤ 4
  · rw [if_pos ⟨hn, q⟩, if_pos q]
  · rw [if_neg (fun k => q k.2), if_neg q]
set_option maxRecDepth 100000 in
set_option maxHeartbeats 2000000 in
theorem specSplitPath (p : ByteArray) (w : World) (hs : p.size ≤ 1048576) : Calls Tryz.prog 88 #[.string p] w fun e w' => OPost (splitB p) w e w' := by
  obtain ⟨i0, hi, hz0, hz1, hz2⟩ := info_parts infoTextG
  have hb := Go.PlainAid.get_bt p
  have hal : Below w.heap.size w (w.alloc (.cells #[] 9)) := (Below.refl _ _).alloc (Nat.le_refl _) _
  have HAL := Shut.mk hal
  have HOW := Shut.mk (own_made0 (Below.refl w.heap.size w))
  clear hal
  by_cases h0 : p.size = 0
  · have HE := Shut.mk (splitB_first (.inl h0))
    have h0' : ((p.size : Int) == 0) = true := by rw [h0]; rfl
    go_enter Tryz.func88, Tryz.ntmps88
    go_wp2_with fail
    go_ret2
    exact OPost.none HE.out HOW.out HAL.out
  have h0' : ((p.size : Int) == 0) = false := by rw [beq_eq_false_iff_ne]; omega
  have h0n : 0 < p.size := by omega
  have h0i : (0 : Int) < (p.size : Int) := by omega
  have b0 := Go.PlainAid.bt_nonneg p 0
  have b1 := Go.PlainAid.bt_le p 0
  by_cases hc : bt p 0 = 47
  case neg =>
    have HE := Shut.mk (splitB_first (.inr hc))
    have hc' : (bt p 0 != 47) = true := by rw [bne_iff_ne]; exact hc
    go_enter Tryz.func88, Tryz.ntmps88
    go_wp2_with fail
    go_ret2
    exact OPost.none HE.out HOW.out HAL.out
  have hc' : (bt p 0 != 47) = false := by rw [hc]; rfl
  have HC := Shut.mk hc
  clear hc
  by_cases h1 : p = ⟨#[47]⟩
  · have HE := Shut.mk (splitB_one h1)
    have h1' : (p.toList == [47]) = true := by rw [h1, Go.ByteArray.toList_eq]; rfl
    have HP := Shut.mk h1
    clear h1
    go_enter Tryz.func88, Tryz.ntmps88
    go_wp2_with fail
    go_ret2
    exact OPost.none HE.out HOW.out HAL.out
  have h1' : (p.toList == [47]) = false := by
    rw [beq_eq_false_iff_ne]
    intro e
    rw [Go.ByteArray.toList_eq] at e
    exact h1 (ByteArray.ext (Array.toList_inj.1 e))
  have hsz : 1 < p.size := by
    by_cases e : p.size = 1
    · exact absurd (one_slash e HC.out) h1
    · omega
  clear h1
  go_enter Tryz.func88, Tryz.ntmps88
  go_wp2_with fail
  go_loopw [4, 5, 6] (fun v bg i wr => ∃ (k g : Nat) (done : List ByteArray) (vv : Value), vv = v ∧ bg = .int .i64 g ∧ i = .int .i64 k ∧ k ≤ p.size + 1 ∧ g ≤ k ∧ done.length ≤ k ∧ Shut (PaWay p k g done) ∧ Shut (wr.ownsRow w.heap.size 9 1 vv done.length (tv done)) ∧ Shut (Below w.heap.size w wr)) (fun _ _ i _ => p.size + 1 - (intOf i).toNat)
  case atStart => exact ⟨1, 1, [], _, rfl, rfl, rfl, by omega, by omega, by simp, ⟨⟨fun _ => PaRel.start, fun h => by omega⟩⟩, HOW, HAL⟩
  case round =>
    clear HOW HAL
    obtain ⟨k, g, done, v, rfl, rfl, rfl, hk, hgk, hdk, hway, hown, hbl⟩ := hrel
    have hB := hbl.out.size
    by_cases hlt : k < p.size
    · have c0 := Go.PlainAid.bt_nonneg p k
      have c1 := Go.PlainAid.bt_le p k
      have k1 : (k : Int) ≤ (p.size : Int) := by omega
      have k2 : (k : Int) < (p.size : Int) := by omega
      have k3 : (0 : Int) ≤ (k : Int) := by omega
      by_cases hne : bt p k = 47
      · have hne' : (bt p k != 47) = false := by rw [hne]; rfl
        have hsl := slice_str p g k hgk (by omega)
        have hes : (p.extract g k).size ≤ 1048576 := by rw [ByteArray.size_extract]; omega
        have HN := Shut.mk (fun W => specNameOk (p.extract g k) W hes)
        have HNE := Shut.mk hne
        clear hne
        cases hn : nameB (p.extract g k) with
        | false =>
          have HE := Shut.mk (hway.out.bad hsz HC.out (by omega) (fun _ => HNE.out) hn)
          rw [hn] at HN
          clear hn
          go_wp2_with fail
          refine (HN.out _).mono ?_
          rintro e w2 ⟨rfl, hb2⟩
          have HB2 := Shut.mk (hbl.out.trans (hb2.mono hbl.out.size))
          clear hb2
          go_wp2_with fail
          go_ret2
          exact OPost.none HE.out (own_made0 HB2.out) (HB2.out.alloc HB2.out.size _)
        | true =>
          have HE := Shut.mk (hway.out.next (by omega) (fun _ => HNE.out) hn)
          rw [hn] at HN
          clear hn
          generalize p.extract g k = x at *
          go_wp2_with fail
          refine (HN.out _).mono ?_
          rintro e w2 ⟨rfl, hb2⟩
          have HB2 := Shut.mk (hbl.out.trans (hb2.mono hbl.out.size))
          have hB2 := HB2.out.size
          have hown2 := hown.out.kept (row := none) ⟨hb2.os, hb2.tape, hb2.output, hb2.size, fun k hk _ => hb2.block k hk⟩ (Classical.em _)
          clear hb2 HN hway hown
          go_wp2_with (at_builtin; refine wpList_append_own _ rfl _ _ 34 rfl w.heap.size 9 i0 (.string ⟨#[]⟩) 1 16 Tryz.underlying34 hi hz0 hz1 hz2 rfl (by decide) _ _ _ rfl (hown2.alloc _) ⟨w2.heap.size, 0, none⟩ 1 1 [.string x] rfl rfl (cell_one_new _ _ _) ?c2 ?c3 ?c4 ?c5 ?_)
          case c2 => first | rfl | (intro u hu; simp at hu; subst hu; rfl)
          case c3 => unfold maxLen; omega
          case c4 => omega
          case c5 => first | omega | (simp; omega)
          intro v' w4 hown' hgrow _
          rw [tv_snoc] at hown'
          have Q1 : Shut (w4.ownsRow w.heap.size 9 1 v' (done ++ [x]).length (tv (done ++ [x]))) := ⟨by rw [List.length_append, List.length_singleton]; exact hown'⟩
          have Q2 := Shut.mk ((HB2.out.alloc hB2 (.cells #[.string x] 9)).grown hgrow (by simp; omega) (fun j hj => (hown2.lt j hj).1))
          clear hown' hgrow hown2
          go_wp2_with fail
          go_roundw
          case rel => exact ⟨k + 1, k + 1, _, v', rfl, by go_num, by go_num, by omega, by omega, by rw [List.length_append, List.length_singleton]; omega, HE, Q1, Q2⟩
          case measure => simp [intOf]; omega
      · have hne' : (bt p k != 47) = true := by rw [bne_iff_ne]; exact hne
        have HE := Shut.mk (hway.out.step hlt hne)
        go_wp2_with fail
        go_roundw
        case rel => exact ⟨k + 1, g, done, v, rfl, rfl, by go_num, by omega, by omega, by omega, HE, hown, hbl⟩
        case measure => simp [intOf]; omega
    · by_cases hek : k = p.size
      · have k1 : (k : Int) ≤ (p.size : Int) := by omega
        have k2 : ¬ (k : Int) < (p.size : Int) := by omega
        have hsl := slice_str p g k hgk (by omega)
        have hes : (p.extract g k).size ≤ 1048576 := by rw [ByteArray.size_extract]; omega
        have HN := Shut.mk (fun W => specNameOk (p.extract g k) W hes)
        have HK : Hid (k = p.size) := hek
        clear hek
        cases hn : nameB (p.extract g k) with
        | false =>
          have HE := Shut.mk (hway.out.bad hsz HC.out (by omega) (fun q => by omega) hn)
          rw [hn] at HN
          clear hn
          go_wp2_with fail
          refine (HN.out _).mono ?_
          rintro e w2 ⟨rfl, hb2⟩
          have HB2 := Shut.mk (hbl.out.trans (hb2.mono hbl.out.size))
          clear hb2
          go_wp2_with fail
          go_ret2
          exact OPost.none HE.out (own_made0 HB2.out) (HB2.out.alloc HB2.out.size _)
        | true =>
          have HE := Shut.mk (hway.out.next (by omega) (fun q => by omega) hn)
          rw [hn] at HN
          clear hn
          generalize p.extract g k = x at *
          go_wp2_with fail
          refine (HN.out _).mono ?_
          rintro e w2 ⟨rfl, hb2⟩
          have HB2 := Shut.mk (hbl.out.trans (hb2.mono hbl.out.size))
          have hB2 := HB2.out.size
          have hown2 := hown.out.kept (row := none) ⟨hb2.os, hb2.tape, hb2.output, hb2.size, fun k hk _ => hb2.block k hk⟩ (Classical.em _)
          clear hb2 HN hway hown
          go_wp2_with (at_builtin; refine wpList_append_own _ rfl _ _ 34 rfl w.heap.size 9 i0 (.string ⟨#[]⟩) 1 16 Tryz.underlying34 hi hz0 hz1 hz2 rfl (by decide) _ _ _ rfl (hown2.alloc _) ⟨w2.heap.size, 0, none⟩ 1 1 [.string x] rfl rfl (cell_one_new _ _ _) ?c2 ?c3 ?c4 ?c5 ?_)
          case c2 => first | rfl | (intro u hu; simp at hu; subst hu; rfl)
          case c3 => unfold maxLen; omega
          case c4 => omega
          case c5 => first | omega | (simp; omega)
          intro v' w4 hown' hgrow _
          rw [tv_snoc] at hown'
          have Q1 : Shut (w4.ownsRow w.heap.size 9 1 v' (done ++ [x]).length (tv (done ++ [x]))) := ⟨by rw [List.length_append, List.length_singleton]; exact hown'⟩
          have Q2 := Shut.mk ((HB2.out.alloc hB2 (.cells #[.string x] 9)).grown hgrow (by simp; omega) (fun j hj => (hown2.lt j hj).1))
          clear hown' hgrow hown2
          go_wp2_with fail
          go_roundw
          case rel => exact ⟨k + 1, k + 1, _, v', rfl, by go_num, by go_num, by omega, by omega, by rw [List.length_append, List.length_singleton]; omega, HE, Q1, Q2⟩
          case measure => simp [intOf]; omega
      · have k1 : ¬ (k : Int) ≤ (p.size : Int) := by omega
        have hfin := hway.out.done hsz HC.out (by omega)
        have hown2 := hown.out
        obtain ⟨a, cap, rfl⟩ : ∃ a cap, v = .slice a done.length cap := by
          rcases hown2.2 with ⟨e, h0⟩ | ⟨g, cap, _, e, _⟩
          · exact ⟨none, 0, by rw [e, h0]⟩
          · exact ⟨_, cap, e⟩
        clear hown2
        by_cases h4 : done.length ≤ 4
        · have HE := Shut.mk (show splitB p = (done, true) by rw [hfin, if_pos h4])
          have h4' : ¬ (4 : Int) < (done.length : Int) := by omega
          clear hfin hway
          go_wp2_with fail
          go_ret2
          exact OPost.some HE.out hown.out hbl.out
        · have HE := Shut.mk (show splitB p = ([], false) by rw [hfin, if_neg h4])
          have h4' : (4 : Int) < (done.length : Int) := by omega
          clear hfin hway
          go_wp2_with fail
          go_ret2
          exact OPost.none HE.out (own_made0 hbl.out) (hbl.out.alloc hbl.out.size _)
/-- A path, name by name. -/
def joinA (L : List ByteArray) : ByteArray := ba ((L.map lb).map (47 :: ·)).flatten
theorem joinA_snoc (L : List ByteArray) (x : ByteArray) : joinA (L ++ [x]) = (joinA L ++ ⟨#[47]⟩) ++ x := by
  apply ByteArray.ext
  unfold joinA
  simp
theorem joinA_size (L : List ByteArray) : (joinA L).size = L.length + tsum L := by
  induction L with
  | nil => rfl
  | cons x L ih =>
    have e : joinA (x :: L) = (⟨#[47]⟩ : ByteArray) ++ x ++ joinA L := by
      apply ByteArray.ext
      unfold joinA
      simp
    rw [e, ByteArray.size_append, ByteArray.size_append, ih]
    simp only [tsum, List.length_cons]
    have : (⟨#[47]⟩ : ByteArray).size = 1 := rfl
    omega
theorem joinB_ne {L : List ByteArray} (h : L ≠ []) : joinB L = joinA L := by
  unfold joinB joinP joinA
  rw [if_neg (fun e => h (List.map_eq_nil_iff.1 e))]
set_option maxHeartbeats 1000000 in
theorem specJoinPath {w : World} {v : Value} {L : List ByteArray} {lo hi : Nat} (hv : SSee w v L lo hi) (hf : TFit L) : Calls Tryz.prog 73 #[v] w fun e w' => e = .returned (.string (joinB L)) ∧ Below w.heap.size w w' := by
  obtain ⟨a, cap, rfl, hr⟩ := hv
  have hn : L.length + tsum L ≤ 1048576 := hf
  by_cases h0 : L = []
  · subst h0
    clear hr hf hn
    go_enter Tryz.func73, Tryz.ntmps73
    go_wp2_with fail
    go_ret
    exact ⟨rfl, Below.refl _ _⟩
  · have HE := Shut.mk (joinB_ne h0)
    have h1 : 0 < L.length := List.length_pos_iff.2 h0
    have h1' : ((L.length : Int) == 0) = false := by rw [beq_eq_false_iff_ne]; omega
    have HR := Shut.mk hr
    clear hr h0 hf
    go_enter Tryz.func73, Tryz.ntmps73
    go_wp2_with fail
    go_loopw [3, 4] (fun s i wr => ∃ (k : Nat), i = .int .i64 k ∧ k ≤ L.length ∧ s = .string (joinA (L.take k)) ∧ Shut (Below w.heap.size w wr)) (fun _ i _ => L.length - (intOf i).toNat)
    case atStart => exact ⟨0, rfl, Nat.zero_le _, rfl, ⟨Below.refl _ _⟩⟩
    case round =>
      obtain ⟨k, rfl, hk, rfl, hbl⟩ := hrel
      by_cases hlt : k < L.length
      · obtain ⟨b, off, rfl, lb', hc⟩ := units_at HR.out (by omega)
        have d0 := (hbl.out.cell (p := ⟨b, off + k, none⟩) lb').trans (hc k hlt)
        have k0 : (0 : Int) ≤ (k : Int) := by omega
        have k1 : (k : Int) < (L.length : Int) := by omega
        have hst : joinA (L.take (k + 1)) = (joinA (L.take k) ++ ⟨#[47]⟩) ++ L.getD k ⟨#[]⟩ := by
          rw [List.take_succ_eq_append_getElem hlt, joinA_snoc]
          simp [List.getD, hlt]
        have hz1 := joinA_size (L.take k)
        have hz2 := tsum_le L k
        have hz3 : (L.take k).length ≤ L.length := by rw [List.length_take]; omega
        have hz4 := tsum_take L k hlt
        have hz5 := tsum_le L (k + 1)
        generalize L.getD k ⟨#[]⟩ = x at *
        have hja : (joinA (L.take k)).size + x.size + 1 ≤ 2097152 := by omega
        generalize joinA (L.take k) = J at *
        have HST := Shut.mk hst
        clear hst hc hz1 hz2 hz3 hz4 hz5
        go_wp2_with fail
        go_roundw
        case rel => exact ⟨k + 1, by go_num, by omega, by rw [HST.out], hbl⟩
        case measure => simp [intOf]; omega
      · have hlt' : ¬ (k : Int) < (L.length : Int) := by omega
        have HF : Shut (joinA (L.take k) = joinB L) := ⟨by rw [List.take_of_length_le (by omega), HE.out]⟩
        generalize joinA (L.take k) = J at *
        go_wp2_with fail
        go_ret
        exact ⟨congrArg (fun x => Ending.returned (.string x)) HF.out, hbl.out⟩
end Go.Proofs.YthfmjjaollekiaaGreat
/- PathC: The walk of the model's ParentPath; what is told of the program's own functions over paths. -/
namespace Go.Proofs.YthfmjjaollekiaaGreat
set_option maxRecDepth 100000
open Go.RowKit
open Go.PlainAid (bt)
attribute [local go_sem ↓] Go.wp_at_zero Go.wp_at_succ

def ParPost (p : ByteArray) (w : World) (e : Ending) (w' : World) : Prop := e = .returned (.tuple #[.string (parentB p).1, .string (parentB p).2.1, .bool (parentB p).2.2]) ∧ Below w.heap.size w w'
theorem parent_no {p : ByteArray} {L : List ByteArray} {ok : Bool} (h : splitB p = (L, ok)) (hn : ok = false ∨ L = []) : parentB p = (⟨#[]⟩, ⟨#[]⟩, false) := by
  unfold parentB
  rw [h]
  rw [if_neg (fun q => by
    rcases hn with e | e
    · rw [e] at q; cases q.1
    · exact q.2 e)]
theorem parent_yes {p : ByteArray} {I : List ByteArray} {x : ByteArray} (h : splitB p = (I ++ [x], true)) : parentB p = (joinB I, x, true) := by
  unfold parentB
  rw [h, if_pos ⟨rfl, by simp⟩]
  simp
theorem names_fit {L : List ByteArray} (h : ∀ s ∈ L, nameB s = true) (h4 : L.length ≤ 4) : TFit L := by
  have hs : ∀ s ∈ L, s.size ≤ 8 := fun s hs => ((nameB_iff s).1 (h s hs)).2.2
  have : tsum L ≤ L.length * 8 := by
    clear h h4
    induction L with
    | nil => simp [tsum]
    | cons x L ih =>
      simp only [tsum, List.length_cons, Nat.add_mul, Nat.one_mul]
      have h1 := hs x (by simp)
      have h2 := ih (fun s h => hs s (by simp [h]))
      omega
  unfold TFit
  omega
theorem own_form9 {w : World} {B n : Nat} {t : TypeId} {v : Value} {L : List Value} (h : w.ownsRow B t 1 v n L) : ∃ a cap, v = .slice a n cap := by
  rcases h.2 with ⟨e, h0⟩ | ⟨g, cap, _, e, _⟩
  · exact ⟨none, 0, by rw [e, h0]⟩
  · exact ⟨_, cap, e⟩
theorem own_some9 {w : World} {B n : Nat} {t : TypeId} {v : Value} {L : List Value} (h : w.ownsRow B t 1 v n L) (hp : 0 < n) : ∃ g cap, v = .slice (some ⟨g, 0, none⟩) n cap ∧ n ≤ cap := by
  rcases h.2 with ⟨_, h0⟩ | ⟨g, cap, _, e, _, _, hc, _⟩
  · omega
  · exact ⟨g, cap, e, hc⟩
theorem own_part9 {w : World} {g cap B n k : Nat} {L : List ByteArray} (hown : w.ownsRow B 9 1 (.slice (some ⟨g, 0, none⟩) n cap) n (tv L)) (hk : k ≤ L.length) : SSee w (.slice (some ⟨g, 0, none⟩) k cap) (L.take k) 0 w.heap.size := by
  have hw := own_wcells hown
  refine ⟨_, cap, by rw [List.length_take, Nat.min_eq_left hk], fun _ => ⟨g, 0, rfl, Nat.zero_le _, hw.1, hw.1, fun i v hv => ?_⟩⟩
  rw [Nat.zero_add]
  have hv' : (tv L)[i]? = some v := by
    unfold tv at hv ⊢
    rw [List.map_take] at hv
    rw [List.getElem?_take] at hv
    split at hv
    · exact hv
    · cases hv
  exact (hw.2 i v hv').1
set_option maxRecDepth 100000 in
set_option maxHeartbeats 2000000 in
theorem specParentPath (p : ByteArray) (w : World) (hs : p.size ≤ 1048576) : Calls Tryz.prog 131 #[.string p] w fun e w' => ParPost p w e w' := by
  have HS := Shut.mk (fun W => specSplitPath p W hs)
  have hnm := splitB_names p
  unfold OPost at HS
  unfold ParPost
  obtain ⟨L, ok, hre⟩ : ∃ L ok, splitB p = (L, ok) := ⟨_, _, rfl⟩
  rw [hre] at HS hnm
  have HN := Shut.mk hnm
  clear hnm
  cases ok with
  | false =>
    rw [parent_no hre (.inl rfl)]
    clear hre
    go_enter Tryz.func131, Tryz.ntmps131
    go_wp2_with fail
    refine (HS.out _).mono ?_
    rintro e w1 ⟨v, rfl, ho, hb⟩
    obtain ⟨a, cap, rfl⟩ := own_form9 ho
    have HB := Shut.mk hb
    clear ho hb
    go_wp2_with fail
    go_ret3
    exact ⟨rfl, HB.out⟩
  | true =>
    rcases List.eq_nil_or_concat L with rfl | ⟨I, x, rfl⟩
    · rw [parent_no hre (.inr rfl)]
      clear hre
      go_enter Tryz.func131, Tryz.ntmps131
      go_wp2_with fail
      refine (HS.out _).mono ?_
      rintro e w1 ⟨v, rfl, ho, hb⟩
      obtain ⟨a, cap, rfl⟩ := own_form9 ho
      have HB := Shut.mk hb
      clear ho hb
      go_wp2_with fail
      go_ret3
      exact ⟨rfl, HB.out⟩
    · rw [List.concat_eq_append] at *
      rw [parent_yes hre]
      obtain ⟨J, hJ⟩ : ∃ J, J = joinB I := ⟨_, rfl⟩
      have HJE := Shut.mk hJ
      rw [← hJ]
      clear hJ
      have h4 := HN.out.2
      have HF : Shut (TFit I) := ⟨names_fit (fun s h => HN.out.1 s (List.mem_append.2 (.inl h))) (by rw [List.length_append] at h4; omega)⟩
      obtain ⟨m, hm⟩ : ∃ m, m = I.length := ⟨_, rfl⟩
      have HM := Shut.mk hm
      have hm4 : m ≤ 4 := by rw [List.length_append] at h4; omega
      rw [show (I ++ [x], true).1.length = m + 1 by simp [hm]] at HS
      clear hre h4 hm
      go_enter Tryz.func131, Tryz.ntmps131
      go_wp2_with fail
      refine (HS.out _).mono ?_
      rintro e w1 ⟨v, rfl, ho, hb⟩
      obtain ⟨g, cap, rfl, hcap⟩ := own_some9 ho (by omega)
      have hw := own_wcells ho
      have d0 : w1.cell? ⟨g, m, none⟩ = some (.string x) := (hw.2 m (.string x) (by
        rw [tv_get _ m (by rw [List.length_append, HM.out]; simp)]
        simp [List.getD, HM.out])).1
      have hg := hw.1
      have hsee := own_part9 (k := m) ho (by rw [List.length_append, HM.out]; simp)
      rw [show (I ++ [x]).take m = I by rw [HM.out]; simp] at hsee
      have HJ := Shut.mk (fun W (hW : Below w1.heap.size w1 W) => specJoinPath (hsee.below hW) HF.out)
      have HB := Shut.mk hb
      have hm0 : (((m + 1 : Nat) : Int) == 0) = false := by rw [beq_eq_false_iff_ne]; omega
      obtain ⟨n, hn⟩ : ∃ n, n = m + 1 := ⟨_, rfl⟩
      rw [← hn] at hcap hm0 ⊢
      have hnm : (n : Int) - 1 = (m : Int) := by omega
      have hmn : (m : Int) < (n : Int) := by omega
      have hmc : (m : Int) ≤ (cap : Int) := by omega
      have hm9 : (0 : Int) ≤ (m : Int) := by omega
      have hwr : IntKind.i64.wrap ((n : Int) - 1) = (m : Int) := by rw [hnm]; exact IntWalk.i64_in _ ⟨by omega, by omega⟩
      rw [← HJE.out] at HJ
      clear ho hb hw hsee hn HN HM hnm
      go_wp2_with fail
      go_region_held3 (fun w' => w'.cell? ⟨g, m, none⟩ = some (.string x))
        (first | assumption | (exact (hb9.cell (p := ⟨g, m, none⟩) hg).trans (by assumption)) | go_keep)
        (first | (go_at_call 73; refine (HJ.out _ (by first | exact Below.refl _ _ | exact Below.drew (Below.refl _ _))).mono ?_; rintro e w9 ⟨rfl, hb9⟩))
      all_goals
        go_wp2_with fail
        go_ret3
        exact ⟨rfl, by first | exact HB.out.trans (hb9.mono HB.out.size) | exact HB.out.trans (((Below.drew (Below.refl w1.heap.size w1)).trans hb9).mono HB.out.size)⟩
end Go.Proofs.YthfmjjaollekiaaGreat
/- GrwA: A region that draws its order, whose operations only read and whose callees make new memory alone and answer one value wherever they are called: one walk, in the text's order. -/
namespace Go.Proofs.YthfmjjaollekiaaGreat
set_option maxRecDepth 100000
open Go.RowKit

/-- A world with more memory. -/
structure Grow (w : World) where
  val : World
  bel : Below w.heap.size w val
instance {w : World} : Nonempty (Grow w) := ⟨⟨w, Below.refl _ _⟩⟩
theorem wp_region_grow {P : Program} {id : Nat} {Q : Exit → Act → World → Prop} {a : Act} {w : World} {l : List Oper} (hm : P.follows .mixedOrders = true) (hB : Region.lexB .any l.toArray = true)
    (h : wpQuiet P l.toArray (fun W => ∃ X : Grow w, W = X.val) (fun a' => ∀ w', (∃ X : Grow w, w' = X.val) → Q .normal a' w') l a) : (Code.region id l.toArray true).wp P Q a w :=
  wp_region_quiet (C := fun W => ∃ X : Grow w, W = X.val) hm hB ⟨⟨w.drew, Below.drew (Below.refl _ _)⟩, rfl⟩ (by simpa using h)
theorem Grow.cell {w : World} (X : Grow w) {p : Addr} {v : Value} (h : w.cell? p = some v) (hl : p.block < w.heap.size) : X.val.cell? p = some v := (X.bel.cell hl).trans h
theorem calls_grow {P : Program} {f : FuncId} {args : Array Value} {w : World} {v : Value} (h : ∀ W, Below w.heap.size w W → Calls P f args W fun e w' => e = .returned v ∧ Below W.heap.size W w') (X : Grow w) :
    Calls P f args X.val fun e w'' => e = .returned v ∧ ∃ Y : Grow w, w'' = Y.val :=
  (h X.val X.bel).mono fun _ w'' ⟨he, hb⟩ => ⟨he, ⟨w'', X.bel.trans (hb.mono X.bel.size)⟩, rfl⟩
theorem calls_same {P : Program} {f : FuncId} {args : Array Value} {w : World} {v : Value} (h : ∀ W, Below w.heap.size w W → Calls P f args W fun e w' => e = .returned v ∧ w' = W) (X : Grow w) :
    Calls P f args X.val fun e w'' => e = .returned v ∧ ∃ Y : Grow w, w'' = Y.val :=
  (h X.val X.bel).mono fun _ _ ⟨he, hb⟩ => ⟨he, X, hb⟩
end Go.Proofs.YthfmjjaollekiaaGreat
/- EdA: Records, plain, and as values; the model's EditOk. -/
namespace Go.Proofs.YthfmjjaollekiaaGreat
set_option maxRecDepth 100000
open Go.RowKit BigFrame
attribute [local go_sem ↓] Go.wp_at_zero Go.wp_at_succ

/-- A record. -/
structure EM where
  kind : Int
  path : ByteArray
  dest : ByteArray
  num : Int
  who : Int
instance : Inhabited EM := ⟨⟨0, ⟨#[]⟩, ⟨#[]⟩, 0, 0⟩⟩
abbrev ev (e : EM) : Value := .agg #[.int .i64 e.kind, .string e.path, .string e.dest, .int .i64 e.num, .int .i64 e.who]
def ecells (e : EM) : List Value := [.int .i64 e.kind, .string e.path, .string e.dest, .int .i64 e.num, .int .i64 e.who]
theorem ecells_len (e : EM) : (ecells e).length = 5 := rfl
/-- A record whose texts a machine can hold. -/
def EFit (e : EM) : Prop := e.path.size ≤ 1048576 ∧ e.dest.size ≤ 1048576
/-- A path that is not the root's. -/
def named (p : ByteArray) : Bool := (parentB p).2.2
/-- What is wrong with a record's paths. -/
def pathBad (e : EM) : Bool := (!named e.path && !(((e.kind == 5) || (e.kind == 6)) && (e.path.toList == [47]))) || ((e.kind == 3) != named e.dest) || ((e.kind != 3) && (e.dest.toList != []))
/-- Its numbers, by its kind. -/
def numsOk (e : EM) : Bool := if e.kind = 5 then inI e.num 1 3 && (e.who == 0) else if e.kind = 6 then inI e.num 0 1000 && (e.who == 0) else if e.kind = 7 then inI e.num 1 200 && (e.who == 0) else if e.kind = 2 ∨ e.kind = 9 then (e.num == 0) && inI e.who 1 9 else (e.num == 0) && (e.who == 0)
/-- A right record. -/
def editOk (e : EM) : Bool := inI e.kind 1 10 && (if e.kind = 10 then (e.path.toList == [47]) && (e.dest.toList == []) && (e.num == 0) && (e.who == 0) else !pathBad e && numsOk e)
theorem specNamed (p : ByteArray) (w : World) (hs : p.size ≤ 1048576) : Calls Tryz.prog 97 #[.string p] w fun e w' => e = .returned (.bool (named p)) ∧ Below w.heap.size w w' := by
  have HC := Shut.mk (fun W => specParentPath p W hs)
  unfold ParPost at HC
  have e0 : named p = (parentB p).2.2 := rfl
  rw [e0]
  generalize (parentB p).2.2 = a at *
  generalize (parentB p).2.1 = b at *
  generalize (parentB p).1 = c at *
  clear hs e0
  go_enter Tryz.func97, Tryz.ntmps97
  go_wp2_with fail
  refine (HC.out _).mono ?_
  rintro e w1 ⟨rfl, hb⟩
  go_wp2_with fail
  go_ret
  exact ⟨rfl, hb⟩
end Go.Proofs.YthfmjjaollekiaaGreat
/- SpnB: Rows of numbers as values; the walk of the model's Spans. -/
namespace Go.Proofs.YthfmjjaollekiaaGreat
set_option maxRecDepth 100000
open Go.RowKit
attribute [local go_sem ↓] Go.wp_at_zero Go.wp_at_succ

/-- A value that is these numbers, in memory of its own. -/
def IAns (w : World) (v : Value) (xs : List Int) (lo hi : Nat) : Prop := ∃ (a : Option Addr) (cap : Nat), v = .slice a xs.length cap ∧ xs.length ≤ cap ∧ (xs = [] ∨ ∃ g, a = some ⟨g, 0, none⟩ ∧ lo ≤ g ∧ g < hi ∧ WCells w g (ics xs))
theorem IAns.empty (w : World) (a : Option Addr) (cap lo hi : Nat) : IAns w (.slice a 0 cap) [] lo hi := ⟨a, cap, rfl, Nat.zero_le _, .inl rfl⟩
theorem IAns.crow {w : World} {v : Value} {xs : List Int} {lo hi : Nat} (h : IAns w v xs lo hi) : ∃ a cap, v = .slice a xs.length cap ∧ CRow w a (ics xs) := by
  obtain ⟨a, cap, e, _, q⟩ := h
  refine ⟨a, cap, e, ?_⟩
  rcases q with rfl | ⟨g, rfl, _, _, q⟩
  · intro h; simp [ics] at h
  · exact q.crow
theorem IAns.turned {w w' : World} {v : Value} {xs : List Int} {lo hi lo' hi' : Nat} (h : IAns w v xs lo hi) (t : Turned w w' lo' hi') (hd : hi ≤ lo' ∨ hi' ≤ lo) : IAns w' v xs lo hi := by
  obtain ⟨a, cap, e, hc, q⟩ := h
  refine ⟨a, cap, e, hc, ?_⟩
  rcases q with rfl | ⟨g, rfl, h1, h2, h3⟩
  · exact .inl rfl
  · exact .inr ⟨g, rfl, h1, h2, h3.turned t (by omega)⟩
theorem IAns.below {w w' : World} {v : Value} {xs : List Int} {lo hi : Nat} (h : IAns w v xs lo hi) (hb : Below w.heap.size w w') : IAns w' v xs lo hi := by
  obtain ⟨a, cap, e, hc, q⟩ := h
  refine ⟨a, cap, e, hc, ?_⟩
  rcases q with rfl | ⟨g, rfl, h1, h2, h3⟩
  · exact .inl rfl
  · exact .inr ⟨g, rfl, h1, h2, h3.below hb h3.1⟩
def IPost (xs : List Int) (w : World) (e : Ending) (w' : World) : Prop := ∃ v, e = .returned v ∧ IAns w' v xs w.heap.size w'.heap.size ∧ Below w.heap.size w w'
theorem own_ians {w w' : World} {v : Value} {xs : List Int} {n : Nat} (hn : xs.length = n) (h : w'.ownsRow w.heap.size 3 1 v n (ics xs)) : IAns w' v xs w.heap.size w'.heap.size := by
  have hlt := h.lt
  have hown := h
  subst hn
  obtain ⟨_, ⟨rfl, h0⟩ | ⟨g, cap, cur, rfl, hB, hcur, hn, _⟩⟩ := h
  · have : xs = [] := List.eq_nil_of_length_eq_zero h0
    subst this
    exact IAns.empty _ _ _ _ _
  · exact ⟨_, cap, rfl, hn, .inr ⟨g, rfl, hB, (hlt g rfl).2, own_wcells hown⟩⟩
/-- The lengths of the groups of so many bytes. -/
def spanL (S n : Nat) : List Int := List.replicate ((n - 1) / S) (S : Int) ++ [((n - (n - 1) / S * S : Nat) : Int)]
def spansX (s n : Int) : List Int := if schOk s = true ∧ 1 ≤ n ∧ n ≤ 1000 then spanL (groupN s) n.toNat else []
theorem spansX_no {s n : Int} (h : ¬ (schOk s = true ∧ 1 ≤ n ∧ n ≤ 1000)) : spansX s n = [] := if_neg h
theorem group_pos {s : Int} (h : schOk s = true) : 16 ≤ groupN s := by have := (sch_bounds h).1; unfold groupN; omega
theorem group_zero {s : Int} (h : schOk s = false) : groupN s = 0 := by unfold groupN; rw [(sch_zero h).1]
theorem span_last {S n j : Nat} (hS : 0 < S) (h1 : j * S < n) (h2 : n ≤ j * S + S) : (n - 1) / S = j := by
  have e : n - 1 = (n - 1 - j * S) + j * S := by omega
  rw [e, Nat.add_mul_div_right _ _ hS, Nat.div_eq_of_lt (by omega), Nat.zero_add]
set_option maxRecDepth 100000 in
set_option maxHeartbeats 2000000 in
theorem specSpans (s n : Int) (w : World) : Calls Tryz.prog 45 #[.int .i64 s, .int .i64 n] w fun e w' => IPost (spansX s n) w e w' := by
  obtain ⟨i1, hi1, hy0, hy1, hy2⟩ := info_parts infoIntG
  have HG := Shut.mk (fun W => specGroupSize s W)
  obtain ⟨bn, hbn⟩ : ∃ r, (decide ((1 : Int) ≤ n) && decide (n ≤ 1000)) = r := ⟨_, rfl⟩
  have hin := in_bool hbn
  have HIN := Shut.mk (fun W => isIn n 1 1000 W bn hbn)
  have hg32 := groupN_bounds s
  have hal : Below w.heap.size w (w.alloc (.cells #[] 3)) := (Below.refl _ _).alloc (Nat.le_refl _) _
  have HAL := Shut.mk hal
  have HO : Shut ((w.alloc (.cells #[] 3)).ownsRow w.heap.size 3 1 (.slice (some ⟨w.heap.size, 0, none⟩) 0 0) 0 []) := ⟨World.ownsRow_made w #[] 0 (Nat.le_refl _) (by decide) rfl⟩
  clear hal hbn
  cases h : schOk s with
  | false =>
    rw [spansX_no (fun q => by rw [h] at q; cases q.1)]
    rw [group_zero h] at HG
    clear h hin hg32
    go_enter Tryz.func45, Tryz.ntmps45
    go_wp2_with fail
    refine (HG.out _).mono ?_
    rintro e w1 ⟨rfl, rfl⟩
    go_wp2_with fail
    go_ret
    exact ⟨_, rfl, IAns.empty _ _ _ _ _, HAL.out⟩
  | true =>
    have h16 := group_pos h
    cases bn with
    | false =>
      rw [spansX_no (fun q => by have := hin.2 q.2; cases this)]
      clear h hin
      generalize groupN s = S at *
      have hS0 : ((S : Int) == 0) = false := by rw [beq_eq_false_iff_ne]; omega
      go_enter Tryz.func45, Tryz.ntmps45
      go_wp2_with fail
      refine (HG.out _).mono ?_
      rintro e w1 ⟨rfl, rfl⟩
      go_wp2_with fail
      refine (HIN.out _).mono ?_
      rintro e w2 ⟨rfl, rfl⟩
      go_wp2_with fail
      go_ret
      exact ⟨_, rfl, IAns.empty _ _ _ _ _, HAL.out⟩
    | true =>
      obtain ⟨n1, n2⟩ := hin.1 rfl
      obtain ⟨N, rfl⟩ := Int.eq_ofNat_of_zero_le (show 0 ≤ n by omega)
      have e0 : spansX s (N : Int) = spanL (groupN s) N := by unfold spansX; rw [if_pos ⟨h, n1, n2⟩]; rfl
      rw [e0]
      clear h hin e0
      generalize groupN s = S at *
      have hS0 : ((S : Int) == 0) = false := by rw [beq_eq_false_iff_ne]; omega
      go_enter Tryz.func45, Tryz.ntmps45
      go_wp2_with fail
      refine (HG.out _).mono ?_
      rintro e w1 ⟨rfl, hw1⟩
      obtain rfl : w.alloc (.cells #[] 3) = w1 := hw1.symm
      clear hw1
      go_wp2_with fail
      refine (HIN.out _).mono ?_
      rintro e w2 ⟨rfl, hw2⟩
      obtain rfl : w.alloc (.cells #[] 3) = w2 := hw2.symm
      clear hw2
      go_wp2_with fail
      go_loopw [1, 5] (fun nn v wr => ∃ (j r : Nat) (vv : Value), vv = v ∧ nn = .int .i64 (r : Nat) ∧ 1 ≤ r ∧ r ≤ 1000 ∧ Shut (j * S + r = N) ∧ j ≤ 1000 ∧ Shut (wr.ownsRow w.heap.size 3 1 vv j (ics (List.replicate j (S : Int)))) ∧ Shut (Below w.heap.size w wr)) (fun nn _ _ => (intOf nn).toNat)
      case atStart => exact ⟨0, N, _, rfl, rfl, by omega, by omega, ⟨by omega⟩, by omega, HO, HAL⟩
      case round =>
        clear HO HAL
        obtain ⟨j, r, v, rfl, rfl, hr1, hr2, hjr, hj, hown, hb⟩ := hrel
        obtain ⟨wo, rfl⟩ : ∃ wo, wo = wr := ⟨_, rfl⟩
        have hso := hb.out.size
        have hown3 := hown.out
        by_cases hlt : S < r
        · have hlt' : (S : Int) < (r : Int) := by omega
          have hj2 : j + 1 ≤ 1000 := by
            have h1 := hjr.out
            have h2 : j ≤ j * S := Nat.le_mul_of_pos_right j (by omega)
            omega
          go_wp2_with (at_builtin; refine wpList_append_own _ rfl _ _ 36 rfl w.heap.size 3 i1 (.int .i64 0) 1 8 Tryz.underlying36 hi1 hy0 hy1 hy2 rfl (by decide) _ _ _ rfl (hown3.alloc _) ⟨wo.heap.size, 0, none⟩ 1 1 [.int .i64 (S : Int)] rfl rfl (cell_one_new _ _ _) ?c2 ?c3 ?c4 ?c5 ?_)
          case c2 => first | rfl | (intro u hu; simp at hu; subst hu; rfl)
          case c3 => unfold maxLen; omega
          case c4 => omega
          case c5 => first | omega | (simp; omega)
          intro v' w4 hown' hgrow _
          have Q1 : Shut (w4.ownsRow w.heap.size 3 1 v' (j + 1) (ics (List.replicate (j + 1) (S : Int)))) := ⟨by
            have e : ics (List.replicate (j + 1) (S : Int)) = ics (List.replicate j (S : Int)) ++ [.int .i64 (S : Int)] := by rw [List.replicate_succ']; simp [ics]
            rw [e]; exact hown'⟩
          have Q2 := Shut.mk ((hb.out.alloc hso (.cells #[.int .i64 (S : Int)] 3)).grown hgrow (by simp; omega) (fun j hj => (hown3.lt j hj).1))
          have Q3 : Shut ((j + 1) * S + (r - S) = N) := ⟨by rw [Nat.add_mul]; have := hjr.out; omega⟩
          have hsub : (r : Int) - (S : Int) = ((r - S : Nat) : Int) := by omega
          clear hown' hgrow hown3 hb hown hjr
          go_wp2_with fail
          exact ⟨⟨j + 1, r - S, v', rfl, by rw [← hsub], by omega, by omega, Q3, hj2, Q1, Q2⟩, by simp [intOf]; omega⟩
        · have hlt' : ¬ (S : Int) < (r : Int) := by omega
          have hle : (r : Int) ≤ (S : Int) := by omega
          have HSP : Shut (spanL S N = List.replicate j (S : Int) ++ [(r : Int)]) := ⟨by
            have h1 := hjr.out
            have e := span_last (S := S) (n := N) (j := j) (by omega) (by omega) (by omega)
            unfold spanL
            rw [e]
            congr 3
            omega⟩
          go_wp2_with (at_builtin; refine wpList_append_own _ rfl _ _ 36 rfl w.heap.size 3 i1 (.int .i64 0) 1 8 Tryz.underlying36 hi1 hy0 hy1 hy2 rfl (by decide) _ _ _ rfl (hown3.alloc _) ⟨wo.heap.size, 0, none⟩ 1 1 [.int .i64 (r : Int)] rfl rfl (cell_one_new _ _ _) ?c2 ?c3 ?c4 ?c5 ?_)
          case c2 => first | rfl | (intro u hu; simp at hu; subst hu; rfl)
          case c3 => unfold maxLen; omega
          case c4 => omega
          case c5 => first | omega | (simp; omega)
          intro v' w4 hown' hgrow _
          have Q1 : Shut (IAns w4 v' (spanL S N) w.heap.size w4.heap.size) := ⟨by
            rw [HSP.out]
            refine own_ians (n := j + 1) (by simp) ?_
            have e : ics (List.replicate j (S : Int) ++ [(r : Int)]) = ics (List.replicate j (S : Int)) ++ [.int .i64 (r : Int)] := by simp [ics]
            rw [e]; exact hown'⟩
          have Q2 := Shut.mk ((hb.out.alloc hso (.cells #[.int .i64 (r : Int)] 3)).grown hgrow (by simp; omega) (fun j hj => (hown3.lt j hj).1))
          clear hown' hgrow hown3 hb hown
          go_wp2_with fail
          go_ret
          exact ⟨v', rfl, Q1.out, Q2.out⟩
end Go.Proofs.YthfmjjaollekiaaGreat
/- PathS: Plain: paths are short. -/
namespace Go.Proofs.YthfmjjaollekiaaGreat
set_option maxRecDepth 100000

theorem flat_size (L : List (List UInt8)) (h : ∀ l ∈ L, nameL l = true) : ((L.map (47 :: ·)).flatten).length ≤ 9 * L.length := by
  induction L with
  | nil => simp
  | cons x L ih =>
    have h1 := (nameL_pos (h x (by simp))).2
    have h2 := ih fun l hl => h l (by simp [hl])
    simp only [List.map_cons, List.flatten_cons, List.length_append, List.length_cons]
    omega
theorem split_size {p : List UInt8} (h : (splitP p).2 = true) : p.length ≤ 36 := by
  have e := join_split h
  obtain ⟨h1, h2⟩ := split_names (p := p)
  rw [← e]
  unfold joinP
  split
  · simp
  · have := flat_size _ h1
    omega
theorem parent_small (p : ByteArray) : (parentB p).1.size ≤ 36 ∧ (parentB p).2.1.size ≤ 8 := by
  unfold parentB
  split
  · rename_i hc
    obtain ⟨h1, h2⟩ := split_names (p := lb p)
    have hl : ∀ l ∈ (splitP (lb p)).1.dropLast, nameL l = true := fun l hl => h1 l (List.dropLast_subset _ hl)
    have e : (splitB p).1 = (splitP (lb p)).1.map ba := rfl
    dsimp only
    refine ⟨?_, ?_⟩
    · have e2 : ((splitB p).1.dropLast.map lb) = (splitP (lb p)).1.dropLast := by
        rw [e, List.dropLast_eq_take, List.dropLast_eq_take, List.length_map, ← List.map_take, map_lb_ba]
      unfold joinB
      rw [e2]
      show (joinP _).toArray.size ≤ 36
      rw [List.size_toArray]
      unfold joinP
      split
      · simp
      · have h3 := flat_size _ hl
        rw [List.length_dropLast] at h3
        omega
    · have hne := hc.2
      rcases List.eq_nil_or_concat (splitB p).1 with h0 | ⟨I, x, h0⟩
      · exact absurd h0 hne
      · rw [h0]
        have hx : x ∈ (splitB p).1 := by rw [h0]; simp
        have hn := (splitB_names p).1 x hx
        have := (nameL_pos (l := lb x) hn).2
        have e3 : (I ++ [x]).getLastD ⟨#[]⟩ = x := by simp [List.getLastD_eq_getLast?]
        rw [List.concat_eq_append, e3]
        exact this
  · exact ⟨by decide, by decide⟩
end Go.Proofs.YthfmjjaollekiaaGreat
/- TreL: The walk of the model's TreeNew. -/
namespace Go.Proofs.YthfmjjaollekiaaGreat
set_option maxRecDepth 100000
open Go.RowKit
attribute [local go_sem ↓] Go.wp_at_zero Go.wp_at_succ

/-- A tree with nothing but its first node. -/
def newX : TM := ⟨[⟨1, 0, ⟨#[]⟩, true, 1, 0, 0, [], 0⟩], 2⟩
/-- Its node, in memory: with no pieces. -/
def newR : NR := ⟨⟨1, 0, ⟨#[]⟩, true, 1, 0, 0, [], 0⟩, none, 0⟩
set_option maxRecDepth 100000 in
set_option maxHeartbeats 2000000 in
theorem specTreeNew (w : World) : Calls Tryz.prog 38 #[] w fun e w' => TrPost newX w e w' := by
  go_enter Tryz.func38, Tryz.ntmps38
  go_wp2_with fail
  refine body_shade (fun W => WCells W w.heap.size [.slice (some ⟨w.heap.size + 1, 0, none⟩) 1 1, .int .i64 2] ∧ WCells W (w.heap.size + 1) (ncells newR) ∧ Below w.heap.size w W) ⟨(wcells_new w #[.slice (some ⟨w.heap.size + 1, 0, none⟩) 1 1, .int .i64 2] 26).alloc _, ?h2, ((Below.refl _ _).alloc (Nat.le_refl _) _).alloc (by simp) _⟩ ?_
  case h2 =>
    have := wcells_new (w.alloc (.cells #[.slice (some ⟨w.heap.size + 1, 0, none⟩) 1 1, .int .i64 2] 26)) (ncells newR).toArray 31
    rw [show (w.alloc (.cells #[.slice (some ⟨w.heap.size + 1, 0, none⟩) 1 1, .int .i64 2] 26)).heap.size = w.heap.size + 1 by simp] at this
    exact this
  rintro W ⟨h1, h2, hb⟩
  have x0 := (h1.2 0 _ rfl).1
  have x1 := (h1.2 1 _ rfl).1
  refine bodyPost_ret (v := .agg #[.slice (some ⟨w.heap.size + 1, 0, none⟩) 1 1, .int .i64 2]) (by simp [results, Tryz.results38, go_sem, x0, x1]) rfl ⟨_, rfl, ⟨_, 1, [newR], rfl, rfl, Nat.le_refl _, .inr ⟨_, rfl, ?_⟩⟩, hb⟩
  exact ⟨by simpa [NK.cells] using h2, by omega, h2.1, fun r hr => .inl (by rw [List.mem_singleton.1 hr]; rfl), by simp⟩
end Go.Proofs.YthfmjjaollekiaaGreat
