/- Rows of Units: marks that are laid into one, and found again (written by gen/mkflat.py). -/
import Derived.Test.YtendbipfmgnjkaaUnR
import Derived.Test.YtendbipfmgnjkaaStrsB
import Derived.Test.YtendbipfmgnjkaaMemA
import Derived.Deep.RegionHeld3
namespace Go.Proofs.Ytendbipfmgnjkaa
set_option maxRecDepth 100000
open Go.RowKit
attribute [local go_sem ↓] Go.wp_at_zero Go.wp_at_succ

def markU (k : Nat) : UnM := ⟨((k : Nat) : Int), ((k + 1 : Nat) : Int), mt (k + 2), ((k + 3 : Nat) : Int)⟩
def marksU (k n : Nat) : List UnM := (List.range n).map fun j => markU (k + 4 * j)
theorem marksU_len (k n : Nat) : (marksU k n).length = n := by simp [marksU]
theorem marksU_at (k n j : Nat) (h : j < (marksU k n).length) : (marksU k n)[j] = markU (k + 4 * j) := by simp [marksU]
theorem marksU_all {k n : Nat} {ys : List UnM} (hl : ys.length = n) (h : ∀ t, t < n → ys[t]? = some (markU (k + 4 * t))) : ys = marksU k n := by
  apply List.ext_getElem
  · rw [hl, marksU_len]
  · intro i h1 h2
    rw [marksU_at]
    have := h i (by omega)
    rw [List.getElem?_eq_getElem h1] at this
    exact Option.some.inj this
theorem markUnitS_zero (a : Option Addr) (k ca : Nat) (w : World) :
    Calls Try.prog 66 #[.slice a 0 ca, .int .i64 k] w fun e w' => e = .returned (.int .i64 k) ∧ w' = w := by
  go_enter Try.func66, Try.ntmps66
  go_wp2_with fail
  go_rounds 1
  go_ret
  exact ⟨rfl, rfl⟩
set_option maxHeartbeats 1000000 in
theorem markUnitS_all (g : Nat) (xs : List UnM) (k ca : Nat) (w : World) (ha : WCells w g (unS xs)) (hk : 0 < k) (hn : k + 4 * xs.length ≤ 1000000000) (hca : xs.length ≤ ca) :
    Calls Try.prog 66 #[.slice (some ⟨g, 0, none⟩) xs.length ca, .int .i64 k] w fun e w' => e = .returned (.int .i64 (k + 4 * xs.length : Nat)) ∧ WCells w' g (unS (marksU k xs.length)) ∧ w.grownBy w' (some g) := by
  obtain ⟨n, hnx⟩ : ∃ n, n = xs.length := ⟨_, rfl⟩
  have HN := Shut.mk hnx
  rw [← hnx]
  rw [← hnx] at hn hca
  clear hnx
  have HA := Shut.mk ha
  clear ha
  go_enter Try.func66, Try.ntmps66
  go_wp2_with fail
  go_loopw [1, 5] (fun c i wr => ∃ (j : Nat) (ys : List UnM), i = .int .i64 j ∧ c = .int .i64 (k + 4 * j : Nat) ∧ j ≤ n ∧ Shut (ys.length = n ∧ (∀ t, t < j → ys[t]? = some (markU (k + 4 * t))) ∧ WCells wr g (unS ys) ∧ w.grownBy wr (some g))) (fun _ i _ => n - (intOf i).toNat)
  case atStart => exact ⟨0, xs, rfl, rfl, Nat.zero_le _, ⟨HN.out.symm, fun t ht => by omega, HA.out, grownBy_below (Below.refl _ _)⟩⟩
  case round =>
    obtain ⟨j, ys, rfl, rfl, hj, HH⟩ := hrel
    by_cases hlt : j < n
    · have j0 : (0 : Int) ≤ (j : Int) := by omega
      have j1 : (j : Int) < (n : Int) := by omega
      have hly : (unS ys).length = n * 4 := by rw [unS_len, HH.out.1]
      have hw0 := HH.out.2.2.1
      have Q2 : Shut (∀ W : World, Calls Try.prog 67 #[.int .i64 ((k : Int) + 4 * (j : Int) + 1 + 1)] W fun e w' => e = .returned (.string (mt (k + 4 * j + 2))) ∧ Below W.heap.size W w') := ⟨fun W => by
        have q := markText_any (k + 4 * j + 2) W (by omega) (by omega)
        rwa [show ((k + 4 * j + 2 : Nat) : Int) = (k : Int) + 4 * (j : Int) + 1 + 1 by push_cast; omega] at q⟩
      obtain ⟨c0, z0⟩ := hw0.2 (j * 4) _ (List.getElem?_eq_getElem (by first | omega | (simp only [List.length_set]; omega)))
      have HS0 : Shut (WCells (wr.setCell ⟨g, j * 4, none⟩ (.int .i64 ((k : Int) + 4 * (j : Int)))) g ((unS ys).set (j * 4) (.int .i64 ((k : Int) + 4 * (j : Int))))) := ⟨hw0.set (j * 4) _ (by first | omega | (simp only [List.length_set]; omega))⟩
      have HG0 : Shut (w.grownBy (wr.setCell ⟨g, j * 4, none⟩ (.int .i64 ((k : Int) + 4 * (j : Int)))) (some g)) := ⟨(grownBy_two HH.out.2.2.2 (grownBy_setCell _ g _ _))⟩
      obtain ⟨c1, z1⟩ := HS0.out.2 (j * 4 + 1) _ (List.getElem?_eq_getElem (by first | omega | (simp only [List.length_set]; omega)))
      have HS1 : Shut (WCells ((wr.setCell ⟨g, j * 4, none⟩ (.int .i64 ((k : Int) + 4 * (j : Int)))).setCell ⟨g, j * 4 + 1, none⟩ (.int .i64 ((k : Int) + 4 * (j : Int) + 1))) g (((unS ys).set (j * 4) (.int .i64 ((k : Int) + 4 * (j : Int)))).set (j * 4 + 1) (.int .i64 ((k : Int) + 4 * (j : Int) + 1)))) := ⟨HS0.out.set (j * 4 + 1) _ (by first | omega | (simp only [List.length_set]; omega))⟩
      have HG1 : Shut (w.grownBy ((wr.setCell ⟨g, j * 4, none⟩ (.int .i64 ((k : Int) + 4 * (j : Int)))).setCell ⟨g, j * 4 + 1, none⟩ (.int .i64 ((k : Int) + 4 * (j : Int) + 1))) (some g)) := ⟨(grownBy_two HG0.out (grownBy_setCell _ g _ _))⟩
      go_wp2_with fail
      refine (Q2.out _).mono ?_
      rintro e w2 ⟨rfl, hb2⟩
      have hv2 := HS1.out.grow hb2
      obtain ⟨c2, z2⟩ := hv2.2 (j * 4 + 2) _ (List.getElem?_eq_getElem (by first | omega | (simp only [List.length_set]; omega)))
      have HS2 : Shut (WCells (w2.setCell ⟨g, j * 4 + 2, none⟩ (.string (mt (k + 4 * j + 2)))) g ((((unS ys).set (j * 4) (.int .i64 ((k : Int) + 4 * (j : Int)))).set (j * 4 + 1) (.int .i64 ((k : Int) + 4 * (j : Int) + 1))).set (j * 4 + 2) (.string (mt (k + 4 * j + 2))))) := ⟨hv2.set (j * 4 + 2) _ (by first | omega | (simp only [List.length_set]; omega))⟩
      have HG2 : Shut (w.grownBy (w2.setCell ⟨g, j * 4 + 2, none⟩ (.string (mt (k + 4 * j + 2)))) (some g)) := ⟨(grownBy_two (grownBy_two HG1.out (grownBy_below hb2)) (grownBy_setCell _ g _ _))⟩
      obtain ⟨c3, z3⟩ := HS2.out.2 (j * 4 + 3) _ (List.getElem?_eq_getElem (by first | omega | (simp only [List.length_set]; omega)))
      have HS3 : Shut (WCells ((w2.setCell ⟨g, j * 4 + 2, none⟩ (.string (mt (k + 4 * j + 2)))).setCell ⟨g, j * 4 + 3, none⟩ (.int .i64 ((k : Int) + 4 * (j : Int) + 1 + 1 + 1))) g (((((unS ys).set (j * 4) (.int .i64 ((k : Int) + 4 * (j : Int)))).set (j * 4 + 1) (.int .i64 ((k : Int) + 4 * (j : Int) + 1))).set (j * 4 + 2) (.string (mt (k + 4 * j + 2)))).set (j * 4 + 3) (.int .i64 ((k : Int) + 4 * (j : Int) + 1 + 1 + 1)))) := ⟨HS2.out.set (j * 4 + 3) _ (by first | omega | (simp only [List.length_set]; omega))⟩
      have HG3 : Shut (w.grownBy ((w2.setCell ⟨g, j * 4 + 2, none⟩ (.string (mt (k + 4 * j + 2)))).setCell ⟨g, j * 4 + 3, none⟩ (.int .i64 ((k : Int) + 4 * (j : Int) + 1 + 1 + 1))) (some g)) := ⟨(grownBy_two HG2.out (grownBy_setCell _ g _ _))⟩
      have hE : (⟨(k : Int) + 4 * (j : Int), (k : Int) + 4 * (j : Int) + 1, mt (k + 4 * j + 2), (k : Int) + 4 * (j : Int) + 1 + 1 + 1⟩ : UnM) = markU (k + 4 * j) := by
        unfold markU
        congr 1 <;> (push_cast; omega)
      have HF : Shut (WCells ((w2.setCell ⟨g, j * 4 + 2, none⟩ (.string (mt (k + 4 * j + 2)))).setCell ⟨g, j * 4 + 3, none⟩ (.int .i64 ((k : Int) + 4 * (j : Int) + 1 + 1 + 1))) g (unS (ys.set j ⟨(k : Int) + 4 * (j : Int), (k : Int) + 4 * (j : Int) + 1, mt (k + 4 * j + 2), (k : Int) + 4 * (j : Int) + 1 + 1 + 1⟩))) := ⟨by
        have hfin : (((((unS ys).set (j * 4) (.int .i64 ((k : Int) + 4 * (j : Int)))).set (j * 4 + 1) (.int .i64 ((k : Int) + 4 * (j : Int) + 1))).set (j * 4 + 2) (.string (mt (k + 4 * j + 2)))).set (j * 4 + 3) (.int .i64 ((k : Int) + 4 * (j : Int) + 1 + 1 + 1))) = unS (ys.set j ⟨(k : Int) + 4 * (j : Int), (k : Int) + 4 * (j : Int) + 1, mt (k + 4 * j + 2), (k : Int) + 4 * (j : Int) + 1 + 1 + 1⟩) := flat_setL unC_len ys j (by have := HH.out.1; omega) (⟨(k : Int) + 4 * (j : Int), (k : Int) + 4 * (j : Int) + 1, mt (k + 4 * j + 2), (k : Int) + 4 * (j : Int) + 1 + 1 + 1⟩ : UnM)
        have q := HS3.out
        rw [hfin] at q
        exact q⟩
      rw [hE] at HF
      clear HS0 HS1 HS2 HS3 HG0 HG1 HG2 hw0 hb2 hv2 hE
      go_wp2_with fail
      go_roundw
      case rel =>
        refine ⟨j + 1, ys.set j (markU (k + 4 * j)), by go_num, congrArg (Value.int .i64) (by omega), by omega, ⟨by rw [List.length_set]; exact HH.out.1, fun t ht => ?_, ?_, ?_⟩⟩
        rotate_left
        · exact HF.out
        · exact HG3.out
        by_cases hjt : t = j
        · subst hjt
          rw [List.getElem?_set_self (by have := HH.out.1; omega)]
        · rw [List.getElem?_set_ne (Ne.symm hjt)]
          exact HH.out.2.1 t (by omega)
      case measure => simp [intOf]; omega
    · have e : j = n := by omega
      subst e
      have hfin := marksU_all HH.out.1 HH.out.2.1
      subst hfin
      go_wp2_with fail
      go_ret
      exact ⟨rfl, HH.out.2.2.1, HH.out.2.2.2⟩
/-- Marks in a row between two places, or in none. -/
theorem markUnitS_row (va : Option Addr) (xs : List UnM) (k ca lo hi : Nat) (w : World) (h : FRw w va (unS xs) lo hi) (hk : 0 < k) (hn : k + 4 * xs.length ≤ 1000000000) (hca : xs.length ≤ ca) :
    Calls Try.prog 66 #[.slice va xs.length ca, .int .i64 k] w fun e w' => e = .returned (.int .i64 (k + 4 * xs.length : Nat)) ∧ FRw w' va (unS (marksU k xs.length)) lo hi ∧ ∃ row, w.grownBy w' row ∧ ∀ g, row = some g → lo ≤ g ∧ g < hi := by
  rcases h with ⟨rfl, hX⟩ | ⟨g, rfl, h1, h2, h3⟩
  · have e : xs = [] := by
      have := congrArg List.length hX
      rw [unS_len] at this
      exact List.eq_nil_of_length_eq_zero (by simp at this; omega)
    subst e
    refine (markUnitS_zero none k ca w).mono ?_
    rintro e w' ⟨rfl, rfl⟩
    exact ⟨by simp, .inl ⟨rfl, by simp [marksU, unS]⟩, none, ⟨rfl, rfl, rfl, Nat.le_refl _, fun _ _ _ => rfl⟩, by simp⟩
  · refine (markUnitS_all g xs k ca w h3 hk hn hca).mono ?_
    rintro e w' ⟨rfl, h4, h5⟩
    exact ⟨rfl, .inr ⟨g, rfl, h1, h2, h4⟩, some g, h5, fun g' e => by simp at e; omega⟩
set_option maxHeartbeats 1000000 in
theorem heldUnitS_any (a : Option Addr) (k n ca : Nat) (w : World) (ha : UnRow w a (marksU k n)) (hk : 0 < k) (hn : k + 4 * n ≤ 1000000000) :
    Calls Try.prog 71 #[.slice a n ca, .int .i64 k] w fun e w' => e = .returned (.int .i64 (k + 4 * n : Nat)) ∧ Below w.heap.size w w' := by
  have HA := Shut.mk ha
  clear ha
  go_enter Try.func71, Try.ntmps71
  go_wp2_with fail
  go_loopw [1, 5] (fun c i wr => ∃ (j : Nat), i = .int .i64 j ∧ c = .int .i64 (k + 4 * j : Nat) ∧ j ≤ n ∧ Below w.heap.size w wr) (fun _ i _ => n - (intOf i).toNat)
  case atStart => exact ⟨0, rfl, rfl, Nat.zero_le _, Below.refl _ _⟩
  case round =>
    obtain ⟨j, rfl, rfl, hj, hb⟩ := hrel
    have HB := Shut.mk hb
    by_cases hlt : j < n
    · obtain ⟨b, off, rfl, lb, hc⟩ := UnRow.at (HA.out.stays hb) (by rw [marksU_len]; omega)
      obtain ⟨d0, d1, d2, d3⟩ := hc j (by rw [marksU_len]; omega)
      rw [marksU_at] at d0 d1 d2 d3
      rw [show (markU (k + 4 * j)).group = (k : Int) + 4 * (j : Int) by show ((k + 4 * j : Nat) : Int) = _; push_cast; omega] at d0
      rw [show (markU (k + 4 * j)).index = (k : Int) + 4 * (j : Int) + 1 by show ((k + 4 * j + 1 : Nat) : Int) = _; push_cast; omega] at d1
      rw [show (markU (k + 4 * j)).text = mt (k + 4 * j + 2) from rfl] at d2
      rw [show (markU (k + 4 * j)).sum = (k : Int) + 4 * (j : Int) + 1 + 1 + 1 by show ((k + 4 * j + 3 : Nat) : Int) = _; push_cast; omega] at d3
      have j0 : (0 : Int) ≤ (j : Int) := by omega
      have j1 : (j : Int) < (n : Int) := by omega
      have Q2 : Shut (∀ W : World, Calls Try.prog 67 #[.int .i64 ((k : Int) + 4 * (j : Int) + 1 + 1)] W fun e w' => e = .returned (.string (mt (k + 4 * j + 2))) ∧ Below W.heap.size W w') := ⟨fun W => by
        have q := markText_any (k + 4 * j + 2) W (by omega) (by omega)
        rwa [show ((k + 4 * j + 2 : Nat) : Int) = (k : Int) + 4 * (j : Int) + 1 + 1 by push_cast; omega] at q⟩
      have hs2 : ((mt (k + 4 * j + 2)).toList == (mt (k + 4 * j + 2)).toList) = true := by simp
      clear hc hb
      go_wp2_with fail
      go_region_held3 (fun w' => w'.cell? ⟨b, off + j * 4 + 2, none⟩ = some (.string (mt (k + 4 * j + 2)))) (first | go_keep | (rw [hb2.cell (p := ⟨b, off + j * 4 + 2, none⟩) (by exact lb)]; assumption)) ((go_at_call 67; refine (Q2.out _).mono ?_; rintro e w2 ⟨rfl, hb2⟩))
      all_goals
        have lb2 : b < w2.heap.size := Nat.lt_of_lt_of_le lb hb2.size
        replace d3 := (hb2.cell (p := ⟨b, off + j * 4 + 3, none⟩) lb).trans d3
        have HB2 : Shut (Below w.heap.size w w2) := ⟨HB.out.trans ((Below.drew (Below.refl _ _)).trans (hb2.mono HB.out.size))⟩
        clear hb2 d0 d1 d2
        go_wp2_with fail
        exact ⟨⟨j + 1, by go_num, congrArg (Value.int .i64) (by omega), by omega, HB2.out⟩, by simp [intOf]; omega⟩
    · have e : j = n := by omega
      subst e
      go_wp2_with fail
      go_ret
      exact ⟨rfl, hb⟩
end Go.Proofs.Ytendbipfmgnjkaa
