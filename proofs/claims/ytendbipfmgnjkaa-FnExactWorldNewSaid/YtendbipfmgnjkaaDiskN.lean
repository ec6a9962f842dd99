/- Rows of files: marks that are laid into one, and found again. -/
import Derived.Test.YtendbipfmgnjkaaDiskB
import Derived.Test.YtendbipfmgnjkaaStrsB
namespace Go.Proofs.Ytendbipfmgnjkaa
set_option maxRecDepth 100000
open Go.RowKit
attribute [local go_sem ↓] Go.wp_at_zero Go.wp_at_succ

/-- The file that bears the marks from k on. -/
def markF (k : Nat) : FM := ⟨mt k, mt (k + 1), ((k + 2 : Nat) : Int)⟩
def marksF (k n : Nat) : List FM := (List.range n).map fun j => markF (k + 3 * j)
theorem marksF_len (k n : Nat) : (marksF k n).length = n := by simp [marksF]
theorem marksF_at (k n j : Nat) (h : j < (marksF k n).length) : (marksF k n)[j] = markF (k + 3 * j) := by simp [marksF]
theorem marked_all {k n : Nat} {ys : List FM} (hl : ys.length = n) (h : ∀ t, t < n → ys.getD t default = markF (k + 3 * t)) : ys = marksF k n := by
  apply List.ext_getElem
  · rw [hl, marksF_len]
  · intro i h1 h2
    rw [marksF_at]
    have := h i (by omega)
    simpa [List.getD, h1] using this
theorem fcs_three (ys : List FM) (j : Nat) (hj : j < ys.length) (f : FM) : (((fcs ys).set (j * 3) (.string f.name)).set (j * 3 + 1) (.string f.text)).set (j * 3 + 2) (.int .i64 f.kept) = fcs (ys.set j f) :=
  flat_setL fcells_len ys j hj f
theorem markFileS_none (a : Option Addr) (k ca : Nat) (w : World) :
    Calls Try.prog 83 #[.slice a 0 ca, .int .i64 k] w fun e w' => e = .returned (.int .i64 k) ∧ w' = w := by
  go_enter Try.func83, Try.ntmps83
  go_wp2_with fail
  go_rounds 1
  go_ret
  exact ⟨rfl, rfl⟩
def MarkPost (g k n : Nat) (w : World) (e : Ending) (w' : World) : Prop := e = .returned (.int .i64 (k + 3 * n : Nat)) ∧ WCells w' g (fcs (marksF k n)) ∧ w.grownBy w' (some g)
set_option maxHeartbeats 1000000 in
theorem markFileS_any (g : Nat) (xs : List FM) (k ca : Nat) (w : World) (ha : WCells w g (fcs xs)) (hk : 0 < k) (hn : k + 3 * xs.length ≤ 1000000000) (hca : xs.length ≤ ca) :
    Calls Try.prog 83 #[.slice (some ⟨g, 0, none⟩) xs.length ca, .int .i64 k] w fun e w' => MarkPost g k xs.length w e w' := by
  obtain ⟨n, hnx⟩ : ∃ n, n = xs.length := ⟨_, rfl⟩
  have HN : Hid (n = xs.length) := hnx
  rw [← hnx]
  rw [← hnx] at hn hca
  clear hnx
  have HA : Hid (WCells w g (fcs xs)) := ha
  clear ha
  go_enter Try.func83, Try.ntmps83
  go_wp2_with fail
  go_loopw [1, 5] (fun c i wr => ∃ (j : Nat) (ys : List FM), i = .int .i64 j ∧ c = .int .i64 (k + 3 * j : Nat) ∧ j ≤ n ∧ ys.length = n ∧ (∀ t, t < j → ys.getD t default = markF (k + 3 * t)) ∧ Shut (WCells wr g (fcs ys)) ∧ w.grownBy wr (some g)) (fun _ i _ => n - (intOf i).toNat)
  case atStart => exact ⟨0, xs, rfl, rfl, Nat.zero_le _, HN.out.symm, fun t ht => by omega, ⟨HA.out⟩, grownBy_below (Below.refl _ _)⟩
  case round =>
    obtain ⟨j, ys, rfl, rfl, hj, hyl, hys, hw, hgr⟩ := hrel
    have HL : Hid (ys.length = n) := hyl
    have HY : Hid (∀ t, t < j → ys.getD t default = markF (k + 3 * t)) := hys
    have HW : Hid (WCells wr g (fcs ys)) := hw.out
    have HGR : Hid (w.grownBy wr (some g)) := hgr
    clear hyl hys hw hgr
    by_cases hlt : j < n
    · have j0 : (0 : Int) ≤ (j : Int) := by omega
      have j1 : (j : Int) < (n : Int) := by omega
      have hly : (fcs ys).length = n * 3 := by rw [fcs_len, HL.out]
      go_wp2_with fail
      refine (markText_any (k + 3 * j) _ (by omega) (by omega)).mono ?_
      rintro e w1 ⟨rfl, hb1⟩
      have hw1 := HW.out.below hb1 HW.out.1
      obtain ⟨c0, z0⟩ := hw1.2 (j * 3) _ (List.getElem?_eq_getElem (by omega))
      have hs0 := hw1.set (j * 3) (.string (mt (k + 3 * j))) (by omega)
      have HS0 : Hid (WCells (w1.setCell ⟨g, j * 3, none⟩ (.string (mt (k + 3 * j)))) g ((fcs ys).set (j * 3) (.string (mt (k + 3 * j))))) := hs0
      have HG0 : Hid (w.grownBy (w1.setCell ⟨g, j * 3, none⟩ (.string (mt (k + 3 * j)))) (some g)) := grownBy_two HGR.out (grownBy_two (grownBy_below hb1) (grownBy_setCell w1 g _ _))
      clear hb1 hw1 hs0
      have q := markText_any (k + 3 * j + 1) (w1.setCell ⟨g, j * 3, none⟩ (.string (mt (k + 3 * j)))) (by omega) (by omega)
      rw [show ((k + 3 * j + 1 : Nat) : Int) = (k : Int) + 3 * (j : Int) + 1 by push_cast; rfl] at q
      have Q : Hid (Calls Try.prog 67 #[.int .i64 ((k : Int) + 3 * (j : Int) + 1)] (w1.setCell ⟨g, j * 3, none⟩ (.string (mt (k + 3 * j)))) fun e w' => e = .returned (.string (mt (k + 3 * j + 1))) ∧ Below (w1.setCell ⟨g, j * 3, none⟩ (.string (mt (k + 3 * j)))).heap.size (w1.setCell ⟨g, j * 3, none⟩ (.string (mt (k + 3 * j)))) w') := q
      clear q
      go_wp2_with fail
      refine Q.out.mono ?_
      rintro e w2 ⟨rfl, hb2⟩
      have hw2 := HS0.out.grow hb2
      obtain ⟨c1, z1⟩ := hw2.2 (j * 3 + 1) _ (List.getElem?_eq_getElem (by rw [List.length_set]; omega))
      have hs1 := hw2.set (j * 3 + 1) (.string (mt (k + 3 * j + 1))) (by rw [List.length_set]; omega)
      obtain ⟨c2, z2⟩ := hs1.2 (j * 3 + 2) _ (List.getElem?_eq_getElem (by rw [List.length_set, List.length_set]; omega))
      have hs2 := hs1.set (j * 3 + 2) (.int .i64 ((k + 3 * j + 2 : Nat) : Int)) (by rw [List.length_set, List.length_set]; omega)
      have hfin := fcs_three ys j (by have := HL.out; omega) (markF (k + 3 * j))
      rw [show (markF (k + 3 * j)).name = mt (k + 3 * j) from rfl, show (markF (k + 3 * j)).text = mt (k + 3 * j + 1) from rfl, show (markF (k + 3 * j)).kept = ((k + 3 * j + 2 : Nat) : Int) from rfl] at hfin
      rw [hfin, show ((k + 3 * j + 2 : Nat) : Int) = (k : Int) + 3 * (j : Int) + 1 + 1 by push_cast; omega] at hs2
      have HS2 : Hid (WCells (((w2.setCell ⟨g, j * 3 + 1, none⟩ (.string (mt (k + 3 * j + 1)))).setCell ⟨g, j * 3 + 2, none⟩ (.int .i64 ((k : Int) + 3 * (j : Int) + 1 + 1)))) g (fcs (ys.set j (markF (k + 3 * j))))) := hs2
      have HG2 : Hid (w.grownBy (((w2.setCell ⟨g, j * 3 + 1, none⟩ (.string (mt (k + 3 * j + 1)))).setCell ⟨g, j * 3 + 2, none⟩ (.int .i64 ((k : Int) + 3 * (j : Int) + 1 + 1)))) (some g)) := grownBy_two HG0.out (grownBy_two (grownBy_below hb2) (grownBy_two (grownBy_setCell w2 g _ _) (grownBy_setCell _ g _ _)))
      clear hb2 hw2 hs1 hs2 hfin Q HS0 HG0
      go_wp2_with fail
      go_roundw
      case rel =>
        refine ⟨j + 1, ys.set j (markF (k + 3 * j)), by go_num, congrArg (Value.int .i64) (by omega), by omega, by rw [List.length_set]; exact HL.out, fun t ht => ?_, ⟨HS2.out⟩, HG2.out⟩
        by_cases hjt : t = j
        · subst hjt
          simp [List.getD, show t < ys.length by have := HL.out; omega]
        · rw [List.getD_eq_getElem?_getD, List.getElem?_set_ne (Ne.symm hjt), ← List.getD_eq_getElem?_getD]
          exact HY.out t (by omega)
      case measure => simp [intOf]; omega
    · have e : j = n := by omega
      subst e
      have hfin := marked_all HL.out HY.out
      subst hfin
      go_wp2_with fail
      go_ret
      exact ⟨rfl, HW.out, HGR.out⟩

set_option maxHeartbeats 1000000 in
theorem heldFileS_any (a : Option Addr) (k n ca : Nat) (w : World) (ha : FRow w a (marksF k n)) (hk : 0 < k) (hn : k + 3 * n ≤ 1000000000) :
    Calls Try.prog 85 #[.slice a n ca, .int .i64 k] w fun e w' => e = .returned (.int .i64 (k + 3 * n : Nat)) ∧ Below w.heap.size w w' := by
  have HA : Hid (FRow w a (marksF k n)) := ha
  clear ha
  go_enter Try.func85, Try.ntmps85
  go_wp2_with fail
  go_loopw [1, 5] (fun c i wr => ∃ (j : Nat), i = .int .i64 j ∧ c = .int .i64 (k + 3 * j : Nat) ∧ j ≤ n ∧ Below w.heap.size w wr) (fun _ i _ => n - (intOf i).toNat)
  case atStart => exact ⟨0, rfl, rfl, Nat.zero_le _, Below.refl _ _⟩
  case round =>
    obtain ⟨j, rfl, rfl, hj, hb⟩ := hrel
    have HB : Hid (Below w.heap.size w wr) := hb
    by_cases hlt : j < n
    · obtain ⟨b, off, rfl, lb, hc⟩ := FRow.at (HA.out.stays hb) (by rw [marksF_len]; omega)
      obtain ⟨d0, d1, d2⟩ := hc j (by rw [marksF_len]; omega)
      rw [marksF_at] at d0 d1 d2
      rw [show (markF (k + 3 * j)).name = mt (k + 3 * j) from rfl] at d0
      rw [show (markF (k + 3 * j)).text = mt (k + 3 * j + 1) from rfl] at d1
      rw [show (markF (k + 3 * j)).kept = (k : Int) + 3 * (j : Int) + 1 + 1 by show ((k + 3 * j + 2 : Nat) : Int) = _; push_cast; omega] at d2
      have j0 : (0 : Int) ≤ (j : Int) := by omega
      have j1 : (j : Int) < (n : Int) := by omega
      have hself1 : ((mt (k + 3 * j)).toList == (mt (k + 3 * j)).toList) = true := by simp
      clear hc hb
      go_wp2_with fail
      go_region_held3 (fun w' => w'.cell? ⟨b, off + j * 3, none⟩ = some (.string (mt (k + 3 * j)))) (first | go_keep | (rw [hb1.cell (p := ⟨b, off + j * 3, none⟩) (by exact lb)]; assumption)) ((go_at_call 67; refine (markText_any (k + 3 * j) _ ?_ ?_).mono ?_; (omega); (omega); rintro e w1 ⟨rfl, hb1⟩))
      all_goals
        have lb1 : b < w1.heap.size := Nat.lt_of_lt_of_le lb hb1.size
        have d1' : w1.cell? ⟨b, off + j * 3 + 1, none⟩ = some (.string (mt (k + 3 * j + 1))) := (hb1.cell (p := ⟨b, off + j * 3 + 1, none⟩) lb).trans d1
        have d2' : w1.cell? ⟨b, off + j * 3 + 2, none⟩ = some (.int .i64 ((k : Int) + 3 * (j : Int) + 1 + 1)) := (hb1.cell (p := ⟨b, off + j * 3 + 2, none⟩) lb).trans d2
        have HB1 : Hid (Below w.heap.size w w1) := HB.out.trans ((Below.drew (Below.refl _ _)).trans (hb1.mono HB.out.size))
        have q : ∀ W : World, Calls Try.prog 67 #[.int .i64 ((k : Int) + 3 * (j : Int) + 1)] W fun e w' => e = .returned (.string (mt (k + 3 * j + 1))) ∧ Below W.heap.size W w' := fun W => by
          have q := markText_any (k + 3 * j + 1) W (by omega) (by omega)
          rwa [show ((k + 3 * j + 1 : Nat) : Int) = (k : Int) + 3 * (j : Int) + 1 by push_cast; rfl] at q
        have Q : Shut (∀ W : World, Calls Try.prog 67 #[.int .i64 ((k : Int) + 3 * (j : Int) + 1)] W fun e w' => e = .returned (.string (mt (k + 3 * j + 1))) ∧ Below W.heap.size W w') := ⟨q⟩
        clear d0 d1 d2 hb1 q
        go_wp2_with fail
        go_region_held3 (fun w' => w'.cell? ⟨b, off + j * 3 + 1, none⟩ = some (.string (mt (k + 3 * j + 1)))) (first | go_keep | (rw [hb2.cell (p := ⟨b, off + j * 3 + 1, none⟩) (by exact lb1)]; assumption)) ((go_at_call 67; refine (Q.out _).mono ?_; rintro e w2 ⟨rfl, hb2⟩))
        all_goals
          have d2'' : w2.cell? ⟨b, off + j * 3 + 2, none⟩ = some (.int .i64 ((k : Int) + 3 * (j : Int) + 1 + 1)) := (hb2.cell (p := ⟨b, off + j * 3 + 2, none⟩) lb1).trans d2'
          have HB2 : Hid (Below w.heap.size w w2) := HB1.out.trans ((Below.drew (Below.refl _ _)).trans (hb2.mono HB1.out.size))
          clear d1' d2' hb2
          go_wp2_with fail
          exact ⟨⟨j + 1, by go_num, congrArg (Value.int .i64) (by omega), by omega, HB2.out⟩, by simp [intOf]; omega⟩
    · have e : j = n := by omega
      subst e
      go_wp2_with fail
      go_ret
      exact ⟨rfl, hb⟩
end Go.Proofs.Ytendbipfmgnjkaa
