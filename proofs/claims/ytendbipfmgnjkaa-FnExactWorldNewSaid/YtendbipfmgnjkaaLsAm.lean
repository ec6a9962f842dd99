/- Rows of Leases: marks that are laid into one, and found again (written by gen/mkflat.py). -/
import Derived.Test.YtendbipfmgnjkaaLsA
import Derived.Test.YtendbipfmgnjkaaStrsB
import Derived.Test.YtendbipfmgnjkaaMemA
import Derived.Deep.RegionHeld3
namespace Go.Proofs.Ytendbipfmgnjkaa
set_option maxRecDepth 100000
open Go.RowKit
attribute [local go_sem ↓] Go.wp_at_zero Go.wp_at_succ

def markL (k : Nat) : LsM := ⟨mt (k), ((k + 1 : Nat) : Int), ((k + 2 : Nat) : Int)⟩
def marksL (k n : Nat) : List LsM := (List.range n).map fun j => markL (k + 3 * j)
theorem marksL_len (k n : Nat) : (marksL k n).length = n := by simp [marksL]
theorem marksL_at (k n j : Nat) (h : j < (marksL k n).length) : (marksL k n)[j] = markL (k + 3 * j) := by simp [marksL]
theorem marksL_all {k n : Nat} {ys : List LsM} (hl : ys.length = n) (h : ∀ t, t < n → ys[t]? = some (markL (k + 3 * t))) : ys = marksL k n := by
  apply List.ext_getElem
  · rw [hl, marksL_len]
  · intro i h1 h2
    rw [marksL_at]
    have := h i (by omega)
    rw [List.getElem?_eq_getElem h1] at this
    exact Option.some.inj this
theorem markLeaseS_zero (a : Option Addr) (k ca : Nat) (w : World) :
    Calls Try.prog 65 #[.slice a 0 ca, .int .i64 k] w fun e w' => e = .returned (.int .i64 k) ∧ w' = w := by
  go_enter Try.func65, Try.ntmps65
  go_wp2_with fail
  go_rounds 1
  go_ret
  exact ⟨rfl, rfl⟩
set_option maxHeartbeats 1000000 in
theorem markLeaseS_all (g : Nat) (xs : List LsM) (k ca : Nat) (w : World) (ha : WCells w g (lsS xs)) (hk : 0 < k) (hn : k + 3 * xs.length ≤ 1000000000) (hca : xs.length ≤ ca) :
    Calls Try.prog 65 #[.slice (some ⟨g, 0, none⟩) xs.length ca, .int .i64 k] w fun e w' => e = .returned (.int .i64 (k + 3 * xs.length : Nat)) ∧ WCells w' g (lsS (marksL k xs.length)) ∧ w.grownBy w' (some g) := by
  obtain ⟨n, hnx⟩ : ∃ n, n = xs.length := ⟨_, rfl⟩
  have HN := Shut.mk hnx
  rw [← hnx]
  rw [← hnx] at hn hca
  clear hnx
  have HA := Shut.mk ha
  clear ha
  go_enter Try.func65, Try.ntmps65
  go_wp2_with fail
  go_loopw [1, 5] (fun c i wr => ∃ (j : Nat) (ys : List LsM), i = .int .i64 j ∧ c = .int .i64 (k + 3 * j : Nat) ∧ j ≤ n ∧ Shut (ys.length = n ∧ (∀ t, t < j → ys[t]? = some (markL (k + 3 * t))) ∧ WCells wr g (lsS ys) ∧ w.grownBy wr (some g))) (fun _ i _ => n - (intOf i).toNat)
  case atStart => exact ⟨0, xs, rfl, rfl, Nat.zero_le _, ⟨HN.out.symm, fun t ht => by omega, HA.out, grownBy_below (Below.refl _ _)⟩⟩
  case round =>
    obtain ⟨j, ys, rfl, rfl, hj, HH⟩ := hrel
    by_cases hlt : j < n
    · have j0 : (0 : Int) ≤ (j : Int) := by omega
      have j1 : (j : Int) < (n : Int) := by omega
      have hly : (lsS ys).length = n * 3 := by rw [lsS_len, HH.out.1]
      have hw0 := HH.out.2.2.1
      have Q0 : Shut (∀ W : World, Calls Try.prog 67 #[.int .i64 ((k : Int) + 3 * (j : Int))] W fun e w' => e = .returned (.string (mt (k + 3 * j))) ∧ Below W.heap.size W w') := ⟨fun W => by
        have q := markText_any (k + 3 * j) W (by omega) (by omega)
        rwa [show ((k + 3 * j : Nat) : Int) = (k : Int) + 3 * (j : Int) by push_cast; omega] at q⟩
      go_wp2_with fail
      refine (Q0.out _).mono ?_
      rintro e w0 ⟨rfl, hb0⟩
      have hv0 := hw0.grow hb0
      obtain ⟨c0, z0⟩ := hv0.2 (j * 3) _ (List.getElem?_eq_getElem (by first | omega | (simp only [List.length_set]; omega)))
      have HS0 : Shut (WCells (w0.setCell ⟨g, j * 3, none⟩ (.string (mt (k + 3 * j)))) g ((lsS ys).set (j * 3) (.string (mt (k + 3 * j))))) := ⟨hv0.set (j * 3) _ (by first | omega | (simp only [List.length_set]; omega))⟩
      have HG0 : Shut (w.grownBy (w0.setCell ⟨g, j * 3, none⟩ (.string (mt (k + 3 * j)))) (some g)) := ⟨(grownBy_two (grownBy_two HH.out.2.2.2 (grownBy_below hb0)) (grownBy_setCell _ g _ _))⟩
      obtain ⟨c1, z1⟩ := HS0.out.2 (j * 3 + 1) _ (List.getElem?_eq_getElem (by first | omega | (simp only [List.length_set]; omega)))
      have HS1 : Shut (WCells ((w0.setCell ⟨g, j * 3, none⟩ (.string (mt (k + 3 * j)))).setCell ⟨g, j * 3 + 1, none⟩ (.int .i64 ((k : Int) + 3 * (j : Int) + 1))) g (((lsS ys).set (j * 3) (.string (mt (k + 3 * j)))).set (j * 3 + 1) (.int .i64 ((k : Int) + 3 * (j : Int) + 1)))) := ⟨HS0.out.set (j * 3 + 1) _ (by first | omega | (simp only [List.length_set]; omega))⟩
      have HG1 : Shut (w.grownBy ((w0.setCell ⟨g, j * 3, none⟩ (.string (mt (k + 3 * j)))).setCell ⟨g, j * 3 + 1, none⟩ (.int .i64 ((k : Int) + 3 * (j : Int) + 1))) (some g)) := ⟨(grownBy_two HG0.out (grownBy_setCell _ g _ _))⟩
      obtain ⟨c2, z2⟩ := HS1.out.2 (j * 3 + 2) _ (List.getElem?_eq_getElem (by first | omega | (simp only [List.length_set]; omega)))
      have HS2 : Shut (WCells (((w0.setCell ⟨g, j * 3, none⟩ (.string (mt (k + 3 * j)))).setCell ⟨g, j * 3 + 1, none⟩ (.int .i64 ((k : Int) + 3 * (j : Int) + 1))).setCell ⟨g, j * 3 + 2, none⟩ (.int .i64 ((k : Int) + 3 * (j : Int) + 1 + 1))) g ((((lsS ys).set (j * 3) (.string (mt (k + 3 * j)))).set (j * 3 + 1) (.int .i64 ((k : Int) + 3 * (j : Int) + 1))).set (j * 3 + 2) (.int .i64 ((k : Int) + 3 * (j : Int) + 1 + 1)))) := ⟨HS1.out.set (j * 3 + 2) _ (by first | omega | (simp only [List.length_set]; omega))⟩
      have HG2 : Shut (w.grownBy (((w0.setCell ⟨g, j * 3, none⟩ (.string (mt (k + 3 * j)))).setCell ⟨g, j * 3 + 1, none⟩ (.int .i64 ((k : Int) + 3 * (j : Int) + 1))).setCell ⟨g, j * 3 + 2, none⟩ (.int .i64 ((k : Int) + 3 * (j : Int) + 1 + 1))) (some g)) := ⟨(grownBy_two HG1.out (grownBy_setCell _ g _ _))⟩
      have hE : (⟨mt (k + 3 * j), (k : Int) + 3 * (j : Int) + 1, (k : Int) + 3 * (j : Int) + 1 + 1⟩ : LsM) = markL (k + 3 * j) := by
        unfold markL
        congr 1 <;> (push_cast; omega)
      have HF : Shut (WCells (((w0.setCell ⟨g, j * 3, none⟩ (.string (mt (k + 3 * j)))).setCell ⟨g, j * 3 + 1, none⟩ (.int .i64 ((k : Int) + 3 * (j : Int) + 1))).setCell ⟨g, j * 3 + 2, none⟩ (.int .i64 ((k : Int) + 3 * (j : Int) + 1 + 1))) g (lsS (ys.set j ⟨mt (k + 3 * j), (k : Int) + 3 * (j : Int) + 1, (k : Int) + 3 * (j : Int) + 1 + 1⟩))) := ⟨by
        have hfin : ((((lsS ys).set (j * 3) (.string (mt (k + 3 * j)))).set (j * 3 + 1) (.int .i64 ((k : Int) + 3 * (j : Int) + 1))).set (j * 3 + 2) (.int .i64 ((k : Int) + 3 * (j : Int) + 1 + 1))) = lsS (ys.set j ⟨mt (k + 3 * j), (k : Int) + 3 * (j : Int) + 1, (k : Int) + 3 * (j : Int) + 1 + 1⟩) := flat_setL lsC_len ys j (by have := HH.out.1; omega) (⟨mt (k + 3 * j), (k : Int) + 3 * (j : Int) + 1, (k : Int) + 3 * (j : Int) + 1 + 1⟩ : LsM)
        have q := HS2.out
        rw [hfin] at q
        exact q⟩
      rw [hE] at HF
      clear HS0 HS1 HS2 HG0 HG1 hw0 hb0 hv0 hE
      go_wp2_with fail
      go_roundw
      case rel =>
        refine ⟨j + 1, ys.set j (markL (k + 3 * j)), by go_num, congrArg (Value.int .i64) (by omega), by omega, ⟨by rw [List.length_set]; exact HH.out.1, fun t ht => ?_, ?_, ?_⟩⟩
        rotate_left
        · exact HF.out
        · exact HG2.out
        by_cases hjt : t = j
        · subst hjt
          rw [List.getElem?_set_self (by have := HH.out.1; omega)]
        · rw [List.getElem?_set_ne (Ne.symm hjt)]
          exact HH.out.2.1 t (by omega)
      case measure => simp [intOf]; omega
    · have e : j = n := by omega
      subst e
      have hfin := marksL_all HH.out.1 HH.out.2.1
      subst hfin
      go_wp2_with fail
      go_ret
      exact ⟨rfl, HH.out.2.2.1, HH.out.2.2.2⟩
/-- Marks in a row between two places, or in none. -/
theorem markLeaseS_row (va : Option Addr) (xs : List LsM) (k ca lo hi : Nat) (w : World) (h : FRw w va (lsS xs) lo hi) (hk : 0 < k) (hn : k + 3 * xs.length ≤ 1000000000) (hca : xs.length ≤ ca) :
    Calls Try.prog 65 #[.slice va xs.length ca, .int .i64 k] w fun e w' => e = .returned (.int .i64 (k + 3 * xs.length : Nat)) ∧ FRw w' va (lsS (marksL k xs.length)) lo hi ∧ ∃ row, w.grownBy w' row ∧ ∀ g, row = some g → lo ≤ g ∧ g < hi := by
  rcases h with ⟨rfl, hX⟩ | ⟨g, rfl, h1, h2, h3⟩
  · have e : xs = [] := by
      have := congrArg List.length hX
      rw [lsS_len] at this
      exact List.eq_nil_of_length_eq_zero (by simp at this; omega)
    subst e
    refine (markLeaseS_zero none k ca w).mono ?_
    rintro e w' ⟨rfl, rfl⟩
    exact ⟨by simp, .inl ⟨rfl, by simp [marksL, lsS]⟩, none, ⟨rfl, rfl, rfl, Nat.le_refl _, fun _ _ _ => rfl⟩, by simp⟩
  · refine (markLeaseS_all g xs k ca w h3 hk hn hca).mono ?_
    rintro e w' ⟨rfl, h4, h5⟩
    exact ⟨rfl, .inr ⟨g, rfl, h1, h2, h4⟩, some g, h5, fun g' e => by simp at e; omega⟩
set_option maxHeartbeats 1000000 in
theorem heldLeaseS_any (a : Option Addr) (k n ca : Nat) (w : World) (ha : LsRow w a (marksL k n)) (hk : 0 < k) (hn : k + 3 * n ≤ 1000000000) :
    Calls Try.prog 70 #[.slice a n ca, .int .i64 k] w fun e w' => e = .returned (.int .i64 (k + 3 * n : Nat)) ∧ Below w.heap.size w w' := by
  have HA := Shut.mk ha
  clear ha
  go_enter Try.func70, Try.ntmps70
  go_wp2_with fail
  go_loopw [1, 5] (fun c i wr => ∃ (j : Nat), i = .int .i64 j ∧ c = .int .i64 (k + 3 * j : Nat) ∧ j ≤ n ∧ Below w.heap.size w wr) (fun _ i _ => n - (intOf i).toNat)
  case atStart => exact ⟨0, rfl, rfl, Nat.zero_le _, Below.refl _ _⟩
  case round =>
    obtain ⟨j, rfl, rfl, hj, hb⟩ := hrel
    have HB := Shut.mk hb
    by_cases hlt : j < n
    · obtain ⟨b, off, rfl, lb, hc⟩ := LsRow.at (HA.out.stays hb) (by rw [marksL_len]; omega)
      obtain ⟨d0, d1, d2⟩ := hc j (by rw [marksL_len]; omega)
      rw [marksL_at] at d0 d1 d2
      rw [show (markL (k + 3 * j)).path = mt (k + 3 * j) from rfl] at d0
      rw [show (markL (k + 3 * j)).who = (k : Int) + 3 * (j : Int) + 1 by show ((k + 3 * j + 1 : Nat) : Int) = _; push_cast; omega] at d1
      rw [show (markL (k + 3 * j)).seen = (k : Int) + 3 * (j : Int) + 1 + 1 by show ((k + 3 * j + 2 : Nat) : Int) = _; push_cast; omega] at d2
      have j0 : (0 : Int) ≤ (j : Int) := by omega
      have j1 : (j : Int) < (n : Int) := by omega
      have Q0 : Shut (∀ W : World, Calls Try.prog 67 #[.int .i64 ((k : Int) + 3 * (j : Int))] W fun e w' => e = .returned (.string (mt (k + 3 * j))) ∧ Below W.heap.size W w') := ⟨fun W => by
        have q := markText_any (k + 3 * j) W (by omega) (by omega)
        rwa [show ((k + 3 * j : Nat) : Int) = (k : Int) + 3 * (j : Int) by push_cast; omega] at q⟩
      have hs0 : ((mt (k + 3 * j)).toList == (mt (k + 3 * j)).toList) = true := by simp
      clear hc hb
      go_wp2_with fail
      go_region_held3 (fun w' => w'.cell? ⟨b, off + j * 3, none⟩ = some (.string (mt (k + 3 * j)))) (first | go_keep | (rw [hb0.cell (p := ⟨b, off + j * 3, none⟩) (by exact lb)]; assumption)) ((go_at_call 67; refine (Q0.out _).mono ?_; rintro e w0 ⟨rfl, hb0⟩))
      all_goals
        have lb0 : b < w0.heap.size := Nat.lt_of_lt_of_le lb hb0.size
        replace d1 := (hb0.cell (p := ⟨b, off + j * 3 + 1, none⟩) lb).trans d1
        replace d2 := (hb0.cell (p := ⟨b, off + j * 3 + 2, none⟩) lb).trans d2
        have HB0 : Shut (Below w.heap.size w w0) := ⟨HB.out.trans ((Below.drew (Below.refl _ _)).trans (hb0.mono HB.out.size))⟩
        clear hb0 d0
        go_wp2_with fail
        exact ⟨⟨j + 1, by go_num, congrArg (Value.int .i64) (by omega), by omega, HB0.out⟩, by simp [intOf]; omega⟩
    · have e : j = n := by omega
      subst e
      go_wp2_with fail
      go_ret
      exact ⟨rfl, hb⟩
end Go.Proofs.Ytendbipfmgnjkaa
