/- The walk of the exact law over TreeNew, over what is told of the program's own function. -/
import Derived.Test.YtfceohoegeebjaaTreL
import Derived.Test.YtfceohoegeebjaaTreF
import Derived.Test.YtfceohoegeebjaaTreI
namespace Go.Proofs.Ytfceohoegeebjaa
open Go.RowKit
attribute [local go_sem ↓] Go.wp_at_zero Go.wp_at_succ

/-- A tree that was answered, in a box of its own. -/
structure BZ (W : World) (g : Nat) (c : Option Addr) (m cc : Nat) (nx : Int) (T : TM) (lo : Nat) : Prop where
  kp : WCells W g [.slice c m cc, .int .i64 nx]
  cp : TAns W (.agg #[.slice c m cc, .int .i64 nx]) T lo g
theorem BZ.below {W W' : World} {c : Option Addr} {g m cc lo : Nat} {nx : Int} {T : TM} (h : BZ W g c m cc nx T lo) (hb : Below W.heap.size W W') : BZ W' g c m cc nx T lo := ⟨h.kp.grow hb, h.cp.below hb⟩
theorem BZ.turned {W W' : World} {c : Option Addr} {g m cc lo lo' hi' : Nat} {nx : Int} {T : TM} (h : BZ W g c m cc nx T lo) (t : Turned W W' lo' hi') (hd : g < lo') : BZ W' g c m cc nx T lo := ⟨h.kp.turned t (.inl hd), h.cp.turned t (.inl (Nat.le_of_lt hd))⟩
theorem BZ.new {W : World} {c : Option Addr} {m cc lo : Nat} {nx : Int} {T : TM} (h : TAns W (.agg #[.slice c m cc, .int .i64 nx]) T lo W.heap.size) (t : TypeId) : BZ (W.alloc (.cells #[.slice c m cc, .int .i64 nx] t)) W.heap.size c m cc nx T lo := ⟨wcells_new W #[.slice c m cc, .int .i64 nx] t, h.below ((Below.refl _ _).alloc (Nat.le_refl _) _)⟩
theorem tans_form {W : World} {u : Value} {T : TM} {lo hi : Nat} (h : TAns W u T lo hi) : ∃ c m cc, u = .agg #[.slice c m cc, .int .i64 T.next] := by
  obtain ⟨c, cc, ts, rfl, _⟩ := h
  exact ⟨c, _, cc, rfl⟩
theorem newX_fit : NFit newX := by unfold NFit; decide
attribute [local irreducible] newX markK
set_option maxRecDepth 100000 in
set_option maxHeartbeats 4000000 in
theorem lawTreeNew (h : ∀ (w : World), Calls Try.prog 21 #[] w fun e w' => TrPost newX w e w') (w : World) :
    Calls Try.prog 4 #[] w fun e w' => e = .returned (.bool true) ∧ Below w.heap.size w w' := by
  have HH := Shut.mk h
  have HS := Shut.mk specTreeNew
  have HF := Shut.mk newX_fit
  generalize newX = T at HH HS HF
  clear h
  unfold TrPost at HH HS
  obtain ⟨nx, hnx⟩ : ∃ nx, nx = T.next := ⟨_, rfl⟩
  have HN := Shut.mk hnx
  clear hnx
  go_enter Try.func4, Try.ntmps4
  go_wp2_with fail
  refine (HS.out _).mono ?_
  rintro e w1 ⟨u1, rfl, hA, hb⟩
  obtain ⟨c1, m1, d1, rfl⟩ := tans_form hA
  rw [← HN.out] at hA ⊢
  have HY : Shut (BZ (w1.alloc (.cells #[.slice c1 m1 d1, .int .i64 nx] 26)) w1.heap.size c1 m1 d1 nx T w.heap.size ∧ Below w.heap.size w (w1.alloc (.cells #[.slice c1 m1 d1, .int .i64 nx] 26))) := ⟨BZ.new hA _, hb.alloc hb.size _⟩
  obtain ⟨g1, hg1⟩ : ∃ g, g = w1.heap.size := ⟨_, rfl⟩
  rw [← hg1] at HY
  clear hA hb
  go_upto_region 2 with fail
  rw [← hg1]
  refine wp_shade (fun W => BZ W g1 c1 m1 d1 nx T w.heap.size ∧ Below w.heap.size w W) HY.out ?_
  clear HY hg1
  rintro W1 ⟨hy, hb⟩
  have Y1 := Shut.mk hy
  have HB := Shut.mk hb
  clear hy hb
  go_wp2_with fail
  refine (HH.out _).mono ?_
  rintro e w2 ⟨u2, rfl, hA, hb⟩
  obtain ⟨c2, m2, d2, rfl⟩ := tans_form hA
  rw [← HN.out] at hA ⊢
  have l1 : g1 < W1.heap.size := Y1.out.kp.1
  have l2 : w.heap.size ≤ W1.heap.size := HB.out.size
  have l3 : W1.heap.size ≤ w2.heap.size := hb.size
  obtain ⟨lo, hlo⟩ : ∃ lo, lo = W1.heap.size := ⟨_, rfl⟩
  rw [← hlo] at hA
  have HA : Shut (BZ (w2.alloc (.cells #[.slice c2 m2 d2, .int .i64 nx] 26)) w2.heap.size c2 m2 d2 nx T lo ∧ BZ (w2.alloc (.cells #[.slice c2 m2 d2, .int .i64 nx] 26)) g1 c1 m1 d1 nx T w.heap.size ∧ Below w.heap.size w (w2.alloc (.cells #[.slice c2 m2 d2, .int .i64 nx] 26))) :=
    ⟨BZ.new hA _, (Y1.out.below hb).below ((Below.refl _ _).alloc (Nat.le_refl _) _), (HB.out.trans (hb.mono HB.out.size)).alloc (by omega) _⟩
  obtain ⟨g2, hg2⟩ : ∃ g, g = w2.heap.size := ⟨_, rfl⟩
  rw [← hg2] at HA
  have l4 : g1 < lo := by omega
  have l5 : w.heap.size ≤ lo := by omega
  have l6 : lo ≤ g2 := by omega
  clear hA hb Y1 HB l1 l2 l3 hlo
  go_upto_region 3 with fail
  rw [← hg2]
  refine wp_shade (fun W => BZ W g2 c2 m2 d2 nx T lo ∧ BZ W g1 c1 m1 d1 nx T w.heap.size ∧ Below w.heap.size w W) HA.out ?_
  clear HA hg2
  rintro W2 ⟨hy, hy1, hb⟩
  have Y2 := Shut.mk hy
  have Y1 := Shut.mk hy1
  have HB := Shut.mk hb
  clear hy hy1 hb
  have x0 := (Y1.out.kp.2 0 _ rfl).1
  have x1 := (Y1.out.kp.2 1 _ rfl).1
  have y0 := (Y2.out.kp.2 0 _ rfl).1
  have y1 := (Y2.out.kp.2 1 _ rfl).1
  go_wp2_with fail
  refine (eqTree_val Y2.out.cp.see Y1.out.cp.see HF.out).mono ?_
  rintro e W3 ⟨rfl, hb⟩
  replace Y1 := Shut.mk (Y1.out.below hb)
  replace Y2 := Shut.mk (Y2.out.below hb)
  replace HB := Shut.mk (HB.out.trans (hb.mono HB.out.size))
  clear hb x0 x1 y0 y1
  have y0 := (Y2.out.kp.2 0 _ rfl).1
  have y1 := (Y2.out.kp.2 1 _ rfl).1
  go_wp2_with fail
  refine (markTree_val 1 Y2.out.cp HF.out (by omega) (by omega)).mono ?_
  rintro e W4 ⟨rfl, hH, ht⟩
  have l7 : g2 < W3.heap.size := Y2.out.kp.1
  have HL : Shut (WCells W4 g2 [.slice c2 m2 d2, .int .i64 nx] ∧ THeld W4 (.agg #[.slice c2 m2 d2, .int .i64 nx]) 1 T lo g2) := ⟨Y2.out.kp.turned ht (.inr (Nat.le_refl _)), hH⟩
  replace Y1 := Shut.mk (Y1.out.turned ht l4)
  replace HB := Shut.mk (HB.out.trans (ht.below l5 HB.out.size))
  clear hH ht y0 y1 Y2 l7
  obtain ⟨K, hK⟩ : ∃ K, K = markK 1 T.nodes := ⟨_, rfl⟩
  rw [← hK]
  have HK := Shut.mk hK
  clear hK
  have hk0 : ¬ (K : Int) < 0 := by omega
  have hkk : ((K : Int) != (K : Int)) = false := by simp
  have y0 := (HL.out.1.2 0 _ rfl).1
  have y1 := (HL.out.1.2 1 _ rfl).1
  go_wp2_with fail
  refine (heldTree_val HL.out.2 HF.out (by omega) (by omega)).mono ?_
  rintro e W5 ⟨rfl, hb⟩
  rw [← HK.out]
  replace Y1 := Shut.mk (Y1.out.below hb)
  replace HL := Shut.mk (And.intro (HL.out.1.grow hb) (HL.out.2.below hb))
  replace HB := Shut.mk (HB.out.trans (hb.mono HB.out.size))
  clear hb y0 y1
  go_wp2_with fail
  refine (HH.out _).mono ?_
  rintro e w6 ⟨u3, rfl, hA, hb⟩
  obtain ⟨c3, m3, d3, rfl⟩ := tans_form hA
  rw [← HN.out] at hA ⊢
  have l9 : w.heap.size ≤ w6.heap.size := by have := HB.out.size; have := hb.size; omega
  have hbA : Below w6.heap.size w6 (w6.alloc (.cells #[.slice c3 m3 d3, .int .i64 nx] 26)) := (Below.refl _ _).alloc (Nat.le_refl _) _
  have HA : Shut (BZ (w6.alloc (.cells #[.slice c3 m3 d3, .int .i64 nx] 26)) w6.heap.size c3 m3 d3 nx T W5.heap.size ∧ BZ (w6.alloc (.cells #[.slice c3 m3 d3, .int .i64 nx] 26)) g1 c1 m1 d1 nx T w.heap.size ∧ (WCells (w6.alloc (.cells #[.slice c3 m3 d3, .int .i64 nx] 26)) g2 [.slice c2 m2 d2, .int .i64 nx] ∧ THeld (w6.alloc (.cells #[.slice c3 m3 d3, .int .i64 nx] 26)) (.agg #[.slice c2 m2 d2, .int .i64 nx]) 1 T lo g2) ∧ Below w.heap.size w (w6.alloc (.cells #[.slice c3 m3 d3, .int .i64 nx] 26))) :=
    ⟨BZ.new hA _, (Y1.out.below hb).below hbA, ⟨(HL.out.1.grow hb).grow hbA, (HL.out.2.below hb).below hbA⟩, (HB.out.trans (hb.mono HB.out.size)).trans (hbA.mono l9)⟩
  obtain ⟨g3, hg3⟩ : ∃ g, g = w6.heap.size := ⟨_, rfl⟩
  rw [← hg3] at HA
  clear hA hb hbA Y1 HB HL l9
  go_upto_region 14 with fail
  rw [← hg3]
  refine wp_shade (fun W => BZ W g3 c3 m3 d3 nx T W5.heap.size ∧ BZ W g1 c1 m1 d1 nx T w.heap.size ∧ (WCells W g2 [.slice c2 m2 d2, .int .i64 nx] ∧ THeld W (.agg #[.slice c2 m2 d2, .int .i64 nx]) 1 T lo g2) ∧ Below w.heap.size w W) HA.out ?_
  clear HA hg3
  rintro W6 ⟨hy, hy1, hh, hb⟩
  have Y3 := Shut.mk hy
  have Y1 := Shut.mk hy1
  have HL := Shut.mk hh
  have HB := Shut.mk hb
  clear hy hy1 hb hh
  have x0 := (Y1.out.kp.2 0 _ rfl).1
  have x1 := (Y1.out.kp.2 1 _ rfl).1
  have y0 := (Y3.out.kp.2 0 _ rfl).1
  have y1 := (Y3.out.kp.2 1 _ rfl).1
  go_wp2_with fail
  refine (eqTree_val Y3.out.cp.see Y1.out.cp.see HF.out).mono ?_
  rintro e W7 ⟨rfl, hb⟩
  replace HL := Shut.mk (And.intro (HL.out.1.grow hb) (HL.out.2.below hb))
  replace HB := Shut.mk (HB.out.trans (hb.mono HB.out.size))
  clear hb x0 x1 y0 y1 Y1 Y3
  have y0 := (HL.out.1.2 0 _ rfl).1
  have y1 := (HL.out.1.2 1 _ rfl).1
  go_wp2_with fail
  refine (heldTree_val HL.out.2 HF.out (by omega) (by omega)).mono ?_
  rintro e W8 ⟨rfl, hb⟩
  rw [← HK.out]
  replace HB := Shut.mk (HB.out.trans (hb.mono HB.out.size))
  clear hb y0 y1
  go_wp2_with fail
  go_ret
  exact ⟨rfl, HB.out⟩
end Go.Proofs.Ytfceohoegeebjaa
