/- Rows of Sizes: marks that are laid into one, and found again (written by gen/mkflat.py). -/
import Derived.Test.YtendbipfmgnjkaaPzR
import Derived.Test.YtendbipfmgnjkaaStrsB
import Derived.Test.YtendbipfmgnjkaaMemA
import Derived.Deep.RegionHeld3
namespace Go.Proofs.Ytendbipfmgnjkaa
set_option maxRecDepth 100000
open Go.RowKit
attribute [local go_sem ↓] Go.wp_at_zero Go.wp_at_succ

def markS (k : Nat) : PzM := ⟨((k : Nat) : Int), mt (k + 1)⟩
def marksS (k n : Nat) : List PzM := (List.range n).map fun j => markS (k + 2 * j)
theorem marksS_len (k n : Nat) : (marksS k n).length = n := by simp [marksS]
theorem marksS_at (k n j : Nat) (h : j < (marksS k n).length) : (marksS k n)[j] = markS (k + 2 * j) := by simp [marksS]
theorem marksS_all {k n : Nat} {ys : List PzM} (hl : ys.length = n) (h : ∀ t, t < n → ys[t]? = some (markS (k + 2 * t))) : ys = marksS k n := by
  apply List.ext_getElem
  · rw [hl, marksS_len]
  · intro i h1 h2
    rw [marksS_at]
    have := h i (by omega)
    rw [List.getElem?_eq_getElem h1] at this
    exact Option.some.inj this
theorem markSizeS_zero (a : Option Addr) (k ca : Nat) (w : World) :
    Calls Try.prog 40 #[.slice a 0 ca, .int .i64 k] w fun e w' => e = .returned (.int .i64 k) ∧ w' = w := by
  go_enter Try.func40, Try.ntmps40
  go_wp2_with fail
  go_rounds 1
  go_ret
  exact ⟨rfl, rfl⟩
set_option maxHeartbeats 1000000 in
theorem markSizeS_all (g : Nat) (xs : List PzM) (k ca : Nat) (w : World) (ha : WCells w g (pzS xs)) (hk : 0 < k) (hn : k + 2 * xs.length ≤ 1000000000) (hca : xs.length ≤ ca) :
    Calls Try.prog 40 #[.slice (some ⟨g, 0, none⟩) xs.length ca, .int .i64 k] w fun e w' => e = .returned (.int .i64 (k + 2 * xs.length : Nat)) ∧ WCells w' g (pzS (marksS k xs.length)) ∧ w.grownBy w' (some g) := by
  obtain ⟨n, hnx⟩ : ∃ n, n = xs.length := ⟨_, rfl⟩
  have HN := Shut.mk hnx
  rw [← hnx]
  rw [← hnx] at hn hca
  clear hnx
  have HA := Shut.mk ha
  clear ha
  go_enter Try.func40, Try.ntmps40
  go_wp2_with fail
  go_loopw [1, 5] (fun c i wr => ∃ (j : Nat) (ys : List PzM), i = .int .i64 j ∧ c = .int .i64 (k + 2 * j : Nat) ∧ j ≤ n ∧ Shut (ys.length = n ∧ (∀ t, t < j → ys[t]? = some (markS (k + 2 * t))) ∧ WCells wr g (pzS ys) ∧ w.grownBy wr (some g))) (fun _ i _ => n - (intOf i).toNat)
  case atStart => exact ⟨0, xs, rfl, rfl, Nat.zero_le _, ⟨HN.out.symm, fun t ht => by omega, HA.out, grownBy_below (Below.refl _ _)⟩⟩
  case round =>
    obtain ⟨j, ys, rfl, rfl, hj, HH⟩ := hrel
    by_cases hlt : j < n
    · have j0 : (0 : Int) ≤ (j : Int) := by omega
      have j1 : (j : Int) < (n : Int) := by omega
      have hly : (pzS ys).length = n * 2 := by rw [pzS_len, HH.out.1]
      have hw0 := HH.out.2.2.1
      have Q1 : Shut (∀ W : World, Calls Try.prog 67 #[.int .i64 ((k : Int) + 2 * (j : Int) + 1)] W fun e w' => e = .returned (.string (mt (k + 2 * j + 1))) ∧ Below W.heap.size W w') := ⟨fun W => by
        have q := markText_any (k + 2 * j + 1) W (by omega) (by omega)
        rwa [show ((k + 2 * j + 1 : Nat) : Int) = (k : Int) + 2 * (j : Int) + 1 by push_cast; omega] at q⟩
      obtain ⟨c0, z0⟩ := hw0.2 (j * 2) _ (List.getElem?_eq_getElem (by first | omega | (simp only [List.length_set]; omega)))
      have HS0 : Shut (WCells (wr.setCell ⟨g, j * 2, none⟩ (.int .i64 ((k : Int) + 2 * (j : Int)))) g ((pzS ys).set (j * 2) (.int .i64 ((k : Int) + 2 * (j : Int))))) := ⟨hw0.set (j * 2) _ (by first | omega | (simp only [List.length_set]; omega))⟩
      have HG0 : Shut (w.grownBy (wr.setCell ⟨g, j * 2, none⟩ (.int .i64 ((k : Int) + 2 * (j : Int)))) (some g)) := ⟨(grownBy_two HH.out.2.2.2 (grownBy_setCell _ g _ _))⟩
      go_wp2_with fail
      refine (Q1.out _).mono ?_
      rintro e w1 ⟨rfl, hb1⟩
      have hv1 := HS0.out.grow hb1
      obtain ⟨c1, z1⟩ := hv1.2 (j * 2 + 1) _ (List.getElem?_eq_getElem (by first | omega | (simp only [List.length_set]; omega)))
      have HS1 : Shut (WCells (w1.setCell ⟨g, j * 2 + 1, none⟩ (.string (mt (k + 2 * j + 1)))) g (((pzS ys).set (j * 2) (.int .i64 ((k : Int) + 2 * (j : Int)))).set (j * 2 + 1) (.string (mt (k + 2 * j + 1))))) := ⟨hv1.set (j * 2 + 1) _ (by first | omega | (simp only [List.length_set]; omega))⟩
      have HG1 : Shut (w.grownBy (w1.setCell ⟨g, j * 2 + 1, none⟩ (.string (mt (k + 2 * j + 1)))) (some g)) := ⟨(grownBy_two (grownBy_two HG0.out (grownBy_below hb1)) (grownBy_setCell _ g _ _))⟩
      have hE : (⟨(k : Int) + 2 * (j : Int), mt (k + 2 * j + 1)⟩ : PzM) = markS (k + 2 * j) := by
        unfold markS
        congr 1 <;> (push_cast; omega)
      have HF : Shut (WCells (w1.setCell ⟨g, j * 2 + 1, none⟩ (.string (mt (k + 2 * j + 1)))) g (pzS (ys.set j ⟨(k : Int) + 2 * (j : Int), mt (k + 2 * j + 1)⟩))) := ⟨by
        have hfin : (((pzS ys).set (j * 2) (.int .i64 ((k : Int) + 2 * (j : Int)))).set (j * 2 + 1) (.string (mt (k + 2 * j + 1)))) = pzS (ys.set j ⟨(k : Int) + 2 * (j : Int), mt (k + 2 * j + 1)⟩) := flat_setL pzC_len ys j (by have := HH.out.1; omega) (⟨(k : Int) + 2 * (j : Int), mt (k + 2 * j + 1)⟩ : PzM)
        have q := HS1.out
        rw [hfin] at q
        exact q⟩
      rw [hE] at HF
      clear HS0 HS1 HG0 hw0 hb1 hv1 hE
      go_wp2_with fail
      go_roundw
      case rel =>
        refine ⟨j + 1, ys.set j (markS (k + 2 * j)), by go_num, congrArg (Value.int .i64) (by omega), by omega, ⟨by rw [List.length_set]; exact HH.out.1, fun t ht => ?_, ?_, ?_⟩⟩
        rotate_left
        · exact HF.out
        · exact HG1.out
        by_cases hjt : t = j
        · subst hjt
          rw [List.getElem?_set_self (by have := HH.out.1; omega)]
        · rw [List.getElem?_set_ne (Ne.symm hjt)]
          exact HH.out.2.1 t (by omega)
      case measure => simp [intOf]; omega
    · have e : j = n := by omega
      subst e
      have hfin := marksS_all HH.out.1 HH.out.2.1
      subst hfin
      go_wp2_with fail
      go_ret
      exact ⟨rfl, HH.out.2.2.1, HH.out.2.2.2⟩
/-- Marks in a row between two places, or in none. -/
theorem markSizeS_row (va : Option Addr) (xs : List PzM) (k ca lo hi : Nat) (w : World) (h : FRw w va (pzS xs) lo hi) (hk : 0 < k) (hn : k + 2 * xs.length ≤ 1000000000) (hca : xs.length ≤ ca) :
    Calls Try.prog 40 #[.slice va xs.length ca, .int .i64 k] w fun e w' => e = .returned (.int .i64 (k + 2 * xs.length : Nat)) ∧ FRw w' va (pzS (marksS k xs.length)) lo hi ∧ ∃ row, w.grownBy w' row ∧ ∀ g, row = some g → lo ≤ g ∧ g < hi := by
  rcases h with ⟨rfl, hX⟩ | ⟨g, rfl, h1, h2, h3⟩
  · have e : xs = [] := by
      have := congrArg List.length hX
      rw [pzS_len] at this
      exact List.eq_nil_of_length_eq_zero (by simp at this; omega)
    subst e
    refine (markSizeS_zero none k ca w).mono ?_
    rintro e w' ⟨rfl, rfl⟩
    exact ⟨by simp, .inl ⟨rfl, by simp [marksS, pzS]⟩, none, ⟨rfl, rfl, rfl, Nat.le_refl _, fun _ _ _ => rfl⟩, by simp⟩
  · refine (markSizeS_all g xs k ca w h3 hk hn hca).mono ?_
    rintro e w' ⟨rfl, h4, h5⟩
    exact ⟨rfl, .inr ⟨g, rfl, h1, h2, h4⟩, some g, h5, fun g' e => by simp at e; omega⟩
set_option maxHeartbeats 1000000 in
theorem heldSizeS_any (a : Option Addr) (k n ca : Nat) (w : World) (ha : PzRow w a (marksS k n)) (hk : 0 < k) (hn : k + 2 * n ≤ 1000000000) :
    Calls Try.prog 45 #[.slice a n ca, .int .i64 k] w fun e w' => e = .returned (.int .i64 (k + 2 * n : Nat)) ∧ Below w.heap.size w w' := by
  have HA := Shut.mk ha
  clear ha
  go_enter Try.func45, Try.ntmps45
  go_wp2_with fail
  go_loopw [1, 5] (fun c i wr => ∃ (j : Nat), i = .int .i64 j ∧ c = .int .i64 (k + 2 * j : Nat) ∧ j ≤ n ∧ Below w.heap.size w wr) (fun _ i _ => n - (intOf i).toNat)
  case atStart => exact ⟨0, rfl, rfl, Nat.zero_le _, Below.refl _ _⟩
  case round =>
    obtain ⟨j, rfl, rfl, hj, hb⟩ := hrel
    have HB := Shut.mk hb
    by_cases hlt : j < n
    · obtain ⟨b, off, rfl, lb, hc⟩ := PzRow.at (HA.out.stays hb) (by rw [marksS_len]; omega)
      obtain ⟨d0, d1⟩ := hc j (by rw [marksS_len]; omega)
      rw [marksS_at] at d0 d1
      rw [show (markS (k + 2 * j)).group = (k : Int) + 2 * (j : Int) by show ((k + 2 * j : Nat) : Int) = _; push_cast; omega] at d0
      rw [show (markS (k + 2 * j)).text = mt (k + 2 * j + 1) from rfl] at d1
      have j0 : (0 : Int) ≤ (j : Int) := by omega
      have j1 : (j : Int) < (n : Int) := by omega
      have Q1 : Shut (∀ W : World, Calls Try.prog 67 #[.int .i64 ((k : Int) + 2 * (j : Int) + 1)] W fun e w' => e = .returned (.string (mt (k + 2 * j + 1))) ∧ Below W.heap.size W w') := ⟨fun W => by
        have q := markText_any (k + 2 * j + 1) W (by omega) (by omega)
        rwa [show ((k + 2 * j + 1 : Nat) : Int) = (k : Int) + 2 * (j : Int) + 1 by push_cast; omega] at q⟩
      have hs1 : ((mt (k + 2 * j + 1)).toList == (mt (k + 2 * j + 1)).toList) = true := by simp
      clear hc hb
      go_wp2_with fail
      go_region_held3 (fun w' => w'.cell? ⟨b, off + j * 2 + 1, none⟩ = some (.string (mt (k + 2 * j + 1)))) (first | go_keep | (rw [hb1.cell (p := ⟨b, off + j * 2 + 1, none⟩) (by exact lb)]; assumption)) ((go_at_call 67; refine (Q1.out _).mono ?_; rintro e w1 ⟨rfl, hb1⟩))
      all_goals
        have lb1 : b < w1.heap.size := Nat.lt_of_lt_of_le lb hb1.size
        have HB1 : Shut (Below w.heap.size w w1) := ⟨HB.out.trans ((Below.drew (Below.refl _ _)).trans (hb1.mono HB.out.size))⟩
        clear hb1 d0 d1
        go_wp2_with fail
        exact ⟨⟨j + 1, by go_num, congrArg (Value.int .i64) (by omega), by omega, HB1.out⟩, by simp [intOf]; omega⟩
    · have e : j = n := by omega
      subst e
      go_wp2_with fail
      go_ret
      exact ⟨rfl, hb⟩
end Go.Proofs.Ytendbipfmgnjkaa
