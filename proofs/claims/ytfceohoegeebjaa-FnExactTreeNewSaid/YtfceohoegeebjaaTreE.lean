/- Copies of trees. -/
import Derived.Test.YtfceohoegeebjaaTreD
namespace Go.Proofs.Ytfceohoegeebjaa
open Go.RowKit
attribute [local go_sem ↓] Go.wp_at_zero Go.wp_at_succ

set_option maxRecDepth 100000 in
set_option maxHeartbeats 2000000 in
theorem toTree_val {w : World} {v : Value} {T : TM} {lo hi : Nat} (h : TSee w v T lo hi) (hf : NFit T) : Calls Try.prog 27 #[v] w fun e w' => TrPost T w e w' := by
  obtain ⟨a, cap, rs, rfl, hr, hm⟩ := h
  have hrl : rs.length = T.nodes.length := by rw [← hr, nds_len]
  have hl : rs.length ≤ 1048576 := by unfold NFit at hf; omega
  have hp : ∀ r ∈ rs, r.nd.pieces.length ≤ 1048576 := fun r hx => by
    have := nsum_mem (ns := T.nodes) (n := r.nd) (by rw [← hr]; exact List.mem_map.2 ⟨r, hx, rfl⟩)
    unfold NFit at hf
    omega
  have HS := Shut.mk (fun W (hW : Below w.heap.size w W) => toInodeS_any a rs cap W lo hi (hm.below hW) hl hp)
  unfold ToNodes at HS
  obtain ⟨nds0, next⟩ := T
  dsimp only at *
  subst hr
  generalize rs.length = n at *
  clear hm hp hf hrl
  go_enter Try.func27, Try.ntmps27
  go_upto_region 2 with fail
  refine wp_shade (fun W => Tri w W [.slice a n cap, .int .i64 next] [.slice none 0 0, .int .i64 0] [.slice none 0 0, .int .i64 0]) (Tri.new w #[.slice a n cap, .int .i64 next] #[.slice none 0 0, .int .i64 0] #[.slice none 0 0, .int .i64 0] 40 26 26) ?_
  intro W4 ht
  have HT := Shut.mk ht
  have a0 := (ht.b1.2 0 _ rfl).1
  clear ht
  go_wp2_with fail
  refine (HS.out _ HT.out.bel).mono ?_
  rintro e w5 ⟨g, ts, rfl, hn, hw, hb⟩
  have ht5 := HT.out.below hb
  have hlo : w.heap.size + 3 ≤ W4.heap.size := by have := HT.out.b3.1; omega
  have hw0 : w.heap.size ≤ W4.heap.size := by omega
  obtain ⟨m, hm⟩ : ∃ m, m = ts.length := ⟨_, rfl⟩
  have HT5 := Shut.mk (And.intro ht5 (And.intro hw (show w5.heap.size = w5.heap.size from rfl)))
  have HTS := Shut.mk (And.intro hn hm)
  rw [← hm]
  obtain ⟨c0, z0⟩ := ht5.b3.2 0 _ rfl
  clear hn hw hb ht5 HT a0 HS hm
  have step : ∀ {W : World} (i : Nat) (v : Value) (b : Nat), b < W4.heap.size → w.heap.size ≤ b → TW W g ts W4.heap.size w5.heap.size → TW (W.setCell ⟨b, i, none⟩ v) g ts W4.heap.size w5.heap.size := fun {W} i v b h1 _ h => h.turned (lo' := b) (hi' := b + 1) (Turned.of_grown (gb_set' W b i v) (Nat.le_refl _) (Nat.lt_succ_self _)) (.inr h1)
  have HST := Shut.mk @step
  clear step
  go_upto_region 3 with fail
  refine wp_shade (fun W => Tri w W [.slice a n cap, .int .i64 next] [.slice none 0 0, .int .i64 0] [.slice (some ⟨g, 0, none⟩) m m, .int .i64 0] ∧ TW W g ts W4.heap.size w5.heap.size ∧ W.heap.size = w5.heap.size) ⟨HT5.out.1.set 0 _ (by simp), HST.out 0 _ (w.heap.size + 1 + 1) (by omega) (by omega) HT5.out.2.1, by simp [World.setCell]⟩ ?_
  clear HT5 c0 z0
  rintro W6 ⟨ht, hw, hs⟩
  have HT := Shut.mk (And.intro ht (And.intro hw hs))
  have a1 := (ht.b1.2 1 _ rfl).1
  obtain ⟨c1, z1⟩ := ht.b3.2 1 _ rfl
  clear ht hw hs
  go_upto_region 4 with fail
  refine wp_shade (fun W => Tri w W [.slice a n cap, .int .i64 next] [.slice none 0 0, .int .i64 0] [.slice (some ⟨g, 0, none⟩) m m, .int .i64 next] ∧ TW W g ts W4.heap.size w5.heap.size ∧ W.heap.size = w5.heap.size) ⟨HT.out.1.set 1 _ (by simp), HST.out 1 _ (w.heap.size + 1 + 1) (by omega) (by omega) HT.out.2.1, by have := HT.out.2.2; simp [World.setCell, this]⟩ ?_
  clear HT c1 z1 a1
  rintro W7 ⟨ht, hw, hs⟩
  have HT := Shut.mk (And.intro ht (And.intro hw hs))
  obtain ⟨c0, z0⟩ := ht.b3.2 0 _ rfl
  obtain ⟨c1, z1⟩ := ht.b3.2 1 _ rfl
  obtain ⟨x0, y0⟩ := ht.b2.2 0 _ rfl
  obtain ⟨x1, y1⟩ := ht.b2.2 1 _ rfl
  clear ht hw hs
  go_wp2_with fail
  refine body_shade (fun W => WCells W (w.heap.size + 1) [.slice (some ⟨g, 0, none⟩) m m, .int .i64 next] ∧ TW W g ts W4.heap.size w5.heap.size ∧ W.heap.size = w5.heap.size ∧ Below w.heap.size w W) ⟨HT.out.1.b2.setW 0 [.slice (some ⟨g, 0, none⟩) m m, .int .i64 next] (by simp), HST.out 1 _ (w.heap.size + 1) (by omega) (by omega) (HST.out 0 _ (w.heap.size + 1) (by omega) (by omega) HT.out.2.1), by have := HT.out.2.2; simp [World.setCell, this], below_setW HT.out.1.bel (by omega) 0 [.slice (some ⟨g, 0, none⟩) m m, .int .i64 next]⟩ ?_
  clear HT c0 z0 c1 z1 x0 y0 x1 y1
  rintro W8 ⟨h2, hw, hs, hb⟩
  have x0 := (h2.2 0 _ rfl).1
  have x1 := (h2.2 1 _ rfl).1
  refine bodyPost_ret (v := .agg #[.slice (some ⟨g, 0, none⟩) m m, .int .i64 next]) (by simp [results, Try.results27, go_sem, x0, x1]) rfl ⟨_, rfl, ⟨_, m, ts, by rw [← HTS.out.2], HTS.out.1, Nat.le_of_eq HTS.out.2.symm, .inr ⟨g, rfl, hw.wide hw0 (Nat.le_of_eq hs.symm)⟩⟩, hb⟩
end Go.Proofs.Ytfceohoegeebjaa
