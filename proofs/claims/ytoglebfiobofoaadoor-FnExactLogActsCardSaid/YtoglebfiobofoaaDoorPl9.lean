/- Texts of ours, laid one behind the other: AcM, LawLga. -/
import Derived.Test.YtoglebfiobofoaaDoorPl8
import Derived.Deep.RegionHeld3
/- AcM: Rows of Acts: marks that are laid into one, and found again (written by gen/mkflat.py). -/
namespace Go.Proofs.YtoglebfiobofoaaDoor
set_option maxRecDepth 100000
open Go.RowKit
attribute [local go_sem ↓] Go.wp_at_zero Go.wp_at_succ

def markA (k : Nat) : AM := ⟨((k : Nat) : Int), mt (k + 1), mt (k + 2), mt (k + 3)⟩
def marksA (k n : Nat) : List AM := (List.range n).map fun j => markA (k + 4 * j)
theorem marksA_len (k n : Nat) : (marksA k n).length = n := by simp [marksA]
theorem marksA_at (k n j : Nat) (h : j < (marksA k n).length) : (marksA k n)[j] = markA (k + 4 * j) := by simp [marksA]
theorem marksA_all {k n : Nat} {ys : List AM} (hl : ys.length = n) (h : ∀ t, t < n → ys[t]? = some (markA (k + 4 * t))) : ys = marksA k n := by
  apply List.ext_getElem
  · rw [hl, marksA_len]
  · intro i h1 h2
    rw [marksA_at]
    have := h i (by omega)
    rw [List.getElem?_eq_getElem h1] at this
    exact Option.some.inj this
theorem markActS_zero (a : Option Addr) (k ca : Nat) (w : World) :
    Calls Tryd.prog 10 #[.slice a 0 ca, .int .i64 k] w fun e w' => e = .returned (.int .i64 k) ∧ w' = w := by
  go_enter Tryd.func10, Tryd.ntmps10
  go_wp2_with fail
  go_rounds 1
  go_ret
  exact ⟨rfl, rfl⟩
set_option maxHeartbeats 1000000 in
theorem markActS_all (g : Nat) (xs : List AM) (k ca : Nat) (w : World) (ha : WCells w g (acs xs)) (hk : 0 < k) (hn : k + 4 * xs.length ≤ 1000000000) (hca : xs.length ≤ ca) :
    Calls Tryd.prog 10 #[.slice (some ⟨g, 0, none⟩) xs.length ca, .int .i64 k] w fun e w' => e = .returned (.int .i64 (k + 4 * xs.length : Nat)) ∧ WCells w' g (acs (marksA k xs.length)) ∧ w.grownBy w' (some g) := by
  obtain ⟨n, hnx⟩ : ∃ n, n = xs.length := ⟨_, rfl⟩
  have HN := Shut.mk hnx
  rw [← hnx]
  rw [← hnx] at hn hca
  clear hnx
  have HA := Shut.mk ha
  clear ha
  go_enter Tryd.func10, Tryd.ntmps10
  go_wp2_with fail
  go_loopw [1, 5] (fun c i wr => ∃ (j : Nat) (ys : List AM), i = .int .i64 j ∧ c = .int .i64 (k + 4 * j : Nat) ∧ j ≤ n ∧ Shut (ys.length = n ∧ (∀ t, t < j → ys[t]? = some (markA (k + 4 * t))) ∧ WCells wr g (acs ys) ∧ w.grownBy wr (some g))) (fun _ i _ => n - (intOf i).toNat)
  case atStart => exact ⟨0, xs, rfl, rfl, Nat.zero_le _, ⟨HN.out.symm, fun t ht => by omega, HA.out, grownBy_below (Below.refl _ _)⟩⟩
  case round =>
    obtain ⟨j, ys, rfl, rfl, hj, HH⟩ := hrel
    by_cases hlt : j < n
    · have j0 : (0 : Int) ≤ (j : Int) := by omega
      have j1 : (j : Int) < (n : Int) := by omega
      have hly : (acs ys).length = n * 4 := by rw [acs_len, HH.out.1]
      have hw0 := HH.out.2.2.1
      have Q1 : Shut (∀ W : World, Calls Tryd.prog 22 #[.int .i64 ((k : Int) + 4 * (j : Int) + 1)] W fun e w' => e = .returned (.string (mt (k + 4 * j + 1))) ∧ Below W.heap.size W w') := ⟨fun W => by
        have q := markText_any (k + 4 * j + 1) W (by omega) (by omega)
        rwa [show ((k + 4 * j + 1 : Nat) : Int) = (k : Int) + 4 * (j : Int) + 1 by push_cast; omega] at q⟩
      have Q2 : Shut (∀ W : World, Calls Tryd.prog 22 #[.int .i64 ((k : Int) + 4 * (j : Int) + 1 + 1)] W fun e w' => e = .returned (.string (mt (k + 4 * j + 2))) ∧ Below W.heap.size W w') := ⟨fun W => by
        have q := markText_any (k + 4 * j + 2) W (by omega) (by omega)
        rwa [show ((k + 4 * j + 2 : Nat) : Int) = (k : Int) + 4 * (j : Int) + 1 + 1 by push_cast; omega] at q⟩
      have Q3 : Shut (∀ W : World, Calls Tryd.prog 22 #[.int .i64 ((k : Int) + 4 * (j : Int) + 1 + 1 + 1)] W fun e w' => e = .returned (.string (mt (k + 4 * j + 3))) ∧ Below W.heap.size W w') := ⟨fun W => by
        have q := markText_any (k + 4 * j + 3) W (by omega) (by omega)
        rwa [show ((k + 4 * j + 3 : Nat) : Int) = (k : Int) + 4 * (j : Int) + 1 + 1 + 1 by push_cast; omega] at q⟩
      obtain ⟨c0, z0⟩ := hw0.2 (j * 4) _ (List.getElem?_eq_getElem (by first | omega | (simp only [List.length_set]; omega)))
      have HS0 : Shut (WCells (wr.setCell ⟨g, j * 4, none⟩ (.int .i64 ((k : Int) + 4 * (j : Int)))) g ((acs ys).set (j * 4) (.int .i64 ((k : Int) + 4 * (j : Int))))) := ⟨hw0.set (j * 4) _ (by first | omega | (simp only [List.length_set]; omega))⟩
      have HG0 : Shut (w.grownBy (wr.setCell ⟨g, j * 4, none⟩ (.int .i64 ((k : Int) + 4 * (j : Int)))) (some g)) := ⟨(grownBy_two HH.out.2.2.2 (grownBy_setCell _ g _ _))⟩
      go_wp2_with fail
      refine (Q1.out _).mono ?_
      rintro e w1 ⟨rfl, hb1⟩
      have hv1 := HS0.out.grow hb1
      obtain ⟨c1, z1⟩ := hv1.2 (j * 4 + 1) _ (List.getElem?_eq_getElem (by first | omega | (simp only [List.length_set]; omega)))
      have HS1 : Shut (WCells (w1.setCell ⟨g, j * 4 + 1, none⟩ (.string (mt (k + 4 * j + 1)))) g (((acs ys).set (j * 4) (.int .i64 ((k : Int) + 4 * (j : Int)))).set (j * 4 + 1) (.string (mt (k + 4 * j + 1))))) := ⟨hv1.set (j * 4 + 1) _ (by first | omega | (simp only [List.length_set]; omega))⟩
      have HG1 : Shut (w.grownBy (w1.setCell ⟨g, j * 4 + 1, none⟩ (.string (mt (k + 4 * j + 1)))) (some g)) := ⟨(grownBy_two (grownBy_two HG0.out (grownBy_below hb1)) (grownBy_setCell _ g _ _))⟩
      go_wp2_with fail
      refine (Q2.out _).mono ?_
      rintro e w2 ⟨rfl, hb2⟩
      have hv2 := HS1.out.grow hb2
      obtain ⟨c2, z2⟩ := hv2.2 (j * 4 + 2) _ (List.getElem?_eq_getElem (by first | omega | (simp only [List.length_set]; omega)))
      have HS2 : Shut (WCells (w2.setCell ⟨g, j * 4 + 2, none⟩ (.string (mt (k + 4 * j + 2)))) g ((((acs ys).set (j * 4) (.int .i64 ((k : Int) + 4 * (j : Int)))).set (j * 4 + 1) (.string (mt (k + 4 * j + 1)))).set (j * 4 + 2) (.string (mt (k + 4 * j + 2))))) := ⟨hv2.set (j * 4 + 2) _ (by first | omega | (simp only [List.length_set]; omega))⟩
      have HG2 : Shut (w.grownBy (w2.setCell ⟨g, j * 4 + 2, none⟩ (.string (mt (k + 4 * j + 2)))) (some g)) := ⟨(grownBy_two (grownBy_two HG1.out (grownBy_below hb2)) (grownBy_setCell _ g _ _))⟩
      go_wp2_with fail
      refine (Q3.out _).mono ?_
      rintro e w3 ⟨rfl, hb3⟩
      have hv3 := HS2.out.grow hb3
      obtain ⟨c3, z3⟩ := hv3.2 (j * 4 + 3) _ (List.getElem?_eq_getElem (by first | omega | (simp only [List.length_set]; omega)))
      have HS3 : Shut (WCells (w3.setCell ⟨g, j * 4 + 3, none⟩ (.string (mt (k + 4 * j + 3)))) g (((((acs ys).set (j * 4) (.int .i64 ((k : Int) + 4 * (j : Int)))).set (j * 4 + 1) (.string (mt (k + 4 * j + 1)))).set (j * 4 + 2) (.string (mt (k + 4 * j + 2)))).set (j * 4 + 3) (.string (mt (k + 4 * j + 3))))) := ⟨hv3.set (j * 4 + 3) _ (by first | omega | (simp only [List.length_set]; omega))⟩
      have HG3 : Shut (w.grownBy (w3.setCell ⟨g, j * 4 + 3, none⟩ (.string (mt (k + 4 * j + 3)))) (some g)) := ⟨(grownBy_two (grownBy_two HG2.out (grownBy_below hb3)) (grownBy_setCell _ g _ _))⟩
      have hE : (⟨(k : Int) + 4 * (j : Int), mt (k + 4 * j + 1), mt (k + 4 * j + 2), mt (k + 4 * j + 3)⟩ : AM) = markA (k + 4 * j) := by
        unfold markA
        congr 1 <;> (push_cast; omega)
      have HF : Shut (WCells (w3.setCell ⟨g, j * 4 + 3, none⟩ (.string (mt (k + 4 * j + 3)))) g (acs (ys.set j ⟨(k : Int) + 4 * (j : Int), mt (k + 4 * j + 1), mt (k + 4 * j + 2), mt (k + 4 * j + 3)⟩))) := ⟨by
        have hfin : (((((acs ys).set (j * 4) (.int .i64 ((k : Int) + 4 * (j : Int)))).set (j * 4 + 1) (.string (mt (k + 4 * j + 1)))).set (j * 4 + 2) (.string (mt (k + 4 * j + 2)))).set (j * 4 + 3) (.string (mt (k + 4 * j + 3)))) = acs (ys.set j ⟨(k : Int) + 4 * (j : Int), mt (k + 4 * j + 1), mt (k + 4 * j + 2), mt (k + 4 * j + 3)⟩) := flat_setL acells_len ys j (by have := HH.out.1; omega) (⟨(k : Int) + 4 * (j : Int), mt (k + 4 * j + 1), mt (k + 4 * j + 2), mt (k + 4 * j + 3)⟩ : AM)
        have q := HS3.out
        rw [hfin] at q
        exact q⟩
      rw [hE] at HF
      clear HS0 HS1 HS2 HS3 HG0 HG1 HG2 hw0 hb1 hv1 hb2 hv2 hb3 hv3 hE
      go_wp2_with fail
      go_roundw
      case rel =>
        refine ⟨j + 1, ys.set j (markA (k + 4 * j)), by go_num, congrArg (Value.int .i64) (by omega), by omega, ⟨by rw [List.length_set]; exact HH.out.1, fun t ht => ?_, ?_, ?_⟩⟩
        rotate_left
        · exact HF.out
        · exact HG3.out
        by_cases hjt : t = j
        · subst hjt
          rw [List.getElem?_set_self (by have := HH.out.1; omega)]
        · rw [List.getElem?_set_ne (Ne.symm hjt)]
          exact HH.out.2.1 t (by omega)
      case measure => simp [intOf]; omega
    · have e : j = n := by omega
      subst e
      have hfin := marksA_all HH.out.1 HH.out.2.1
      subst hfin
      go_wp2_with fail
      go_ret
      exact ⟨rfl, HH.out.2.2.1, HH.out.2.2.2⟩
/-- Marks in a row between two places, or in none. -/
theorem markActS_row (va : Option Addr) (xs : List AM) (k ca lo hi : Nat) (w : World) (h : FRw w va (acs xs) lo hi) (hk : 0 < k) (hn : k + 4 * xs.length ≤ 1000000000) (hca : xs.length ≤ ca) :
    Calls Tryd.prog 10 #[.slice va xs.length ca, .int .i64 k] w fun e w' => e = .returned (.int .i64 (k + 4 * xs.length : Nat)) ∧ FRw w' va (acs (marksA k xs.length)) lo hi ∧ ∃ row, w.grownBy w' row ∧ ∀ g, row = some g → lo ≤ g ∧ g < hi := by
  rcases h with ⟨rfl, hX⟩ | ⟨g, rfl, h1, h2, h3⟩
  · have e : xs = [] := by
      have := congrArg List.length hX
      rw [acs_len] at this
      exact List.eq_nil_of_length_eq_zero (by simp at this; omega)
    subst e
    refine (markActS_zero none k ca w).mono ?_
    rintro e w' ⟨rfl, rfl⟩
    exact ⟨by simp, .inl ⟨rfl, by simp [marksA, acs]⟩, none, ⟨rfl, rfl, rfl, Nat.le_refl _, fun _ _ _ => rfl⟩, by simp⟩
  · refine (markActS_all g xs k ca w h3 hk hn hca).mono ?_
    rintro e w' ⟨rfl, h4, h5⟩
    exact ⟨rfl, .inr ⟨g, rfl, h1, h2, h4⟩, some g, h5, fun g' e => by simp at e; omega⟩
set_option maxHeartbeats 1000000 in
theorem heldActS_any (a : Option Addr) (k n ca : Nat) (w : World) (ha : ARow w a (marksA k n)) (hk : 0 < k) (hn : k + 4 * n ≤ 1000000000) :
    Calls Tryd.prog 11 #[.slice a n ca, .int .i64 k] w fun e w' => e = .returned (.int .i64 (k + 4 * n : Nat)) ∧ Below w.heap.size w w' := by
  have HA := Shut.mk ha
  clear ha
  go_enter Tryd.func11, Tryd.ntmps11
  go_wp2_with fail
  go_loopw [1, 5] (fun c i wr => ∃ (j : Nat), i = .int .i64 j ∧ c = .int .i64 (k + 4 * j : Nat) ∧ j ≤ n ∧ Below w.heap.size w wr) (fun _ i _ => n - (intOf i).toNat)
  case atStart => exact ⟨0, rfl, rfl, Nat.zero_le _, Below.refl _ _⟩
  case round =>
    obtain ⟨j, rfl, rfl, hj, hb⟩ := hrel
    have HB := Shut.mk hb
    by_cases hlt : j < n
    · obtain ⟨b, off, rfl, lb, hc⟩ := ARow.at (HA.out.stays hb) (by rw [marksA_len]; omega)
      obtain ⟨d0, d1, d2, d3⟩ := hc j (by rw [marksA_len]; omega)
      rw [marksA_at] at d0 d1 d2 d3
      rw [show (markA (k + 4 * j)).kind = (k : Int) + 4 * (j : Int) by show ((k + 4 * j : Nat) : Int) = _; push_cast; omega] at d0
      rw [show (markA (k + 4 * j)).name = mt (k + 4 * j + 1) from rfl] at d1
      rw [show (markA (k + 4 * j)).text = mt (k + 4 * j + 2) from rfl] at d2
      rw [show (markA (k + 4 * j)).dst = mt (k + 4 * j + 3) from rfl] at d3
      have j0 : (0 : Int) ≤ (j : Int) := by omega
      have j1 : (j : Int) < (n : Int) := by omega
      have Q1 : Shut (∀ W : World, Calls Tryd.prog 22 #[.int .i64 ((k : Int) + 4 * (j : Int) + 1)] W fun e w' => e = .returned (.string (mt (k + 4 * j + 1))) ∧ Below W.heap.size W w') := ⟨fun W => by
        have q := markText_any (k + 4 * j + 1) W (by omega) (by omega)
        rwa [show ((k + 4 * j + 1 : Nat) : Int) = (k : Int) + 4 * (j : Int) + 1 by push_cast; omega] at q⟩
      have hs1 : ((mt (k + 4 * j + 1)).toList == (mt (k + 4 * j + 1)).toList) = true := by simp
      have Q2 : Shut (∀ W : World, Calls Tryd.prog 22 #[.int .i64 ((k : Int) + 4 * (j : Int) + 1 + 1)] W fun e w' => e = .returned (.string (mt (k + 4 * j + 2))) ∧ Below W.heap.size W w') := ⟨fun W => by
        have q := markText_any (k + 4 * j + 2) W (by omega) (by omega)
        rwa [show ((k + 4 * j + 2 : Nat) : Int) = (k : Int) + 4 * (j : Int) + 1 + 1 by push_cast; omega] at q⟩
      have hs2 : ((mt (k + 4 * j + 2)).toList == (mt (k + 4 * j + 2)).toList) = true := by simp
      have Q3 : Shut (∀ W : World, Calls Tryd.prog 22 #[.int .i64 ((k : Int) + 4 * (j : Int) + 1 + 1 + 1)] W fun e w' => e = .returned (.string (mt (k + 4 * j + 3))) ∧ Below W.heap.size W w') := ⟨fun W => by
        have q := markText_any (k + 4 * j + 3) W (by omega) (by omega)
        rwa [show ((k + 4 * j + 3 : Nat) : Int) = (k : Int) + 4 * (j : Int) + 1 + 1 + 1 by push_cast; omega] at q⟩
      have hs3 : ((mt (k + 4 * j + 3)).toList == (mt (k + 4 * j + 3)).toList) = true := by simp
      clear hc hb
      go_wp2_with fail
      go_region_held3 (fun w' => w'.cell? ⟨b, off + j * 4 + 1, none⟩ = some (.string (mt (k + 4 * j + 1)))) (first | go_keep | (rw [hb1.cell (p := ⟨b, off + j * 4 + 1, none⟩) (by exact lb)]; assumption)) ((go_at_call 22; refine (Q1.out _).mono ?_; rintro e w1 ⟨rfl, hb1⟩))
      all_goals
        have lb1 : b < w1.heap.size := Nat.lt_of_lt_of_le lb hb1.size
        replace d2 := (hb1.cell (p := ⟨b, off + j * 4 + 2, none⟩) lb).trans d2
        replace d3 := (hb1.cell (p := ⟨b, off + j * 4 + 3, none⟩) lb).trans d3
        have HB1 : Shut (Below w.heap.size w w1) := ⟨HB.out.trans ((Below.drew (Below.refl _ _)).trans (hb1.mono HB.out.size))⟩
        clear hb1 d0 d1
        go_wp2_with fail
        go_region_held3 (fun w' => w'.cell? ⟨b, off + j * 4 + 2, none⟩ = some (.string (mt (k + 4 * j + 2)))) (first | go_keep | (rw [hb2.cell (p := ⟨b, off + j * 4 + 2, none⟩) (by exact lb1)]; assumption)) ((go_at_call 22; refine (Q2.out _).mono ?_; rintro e w2 ⟨rfl, hb2⟩))
        all_goals
          have lb2 : b < w2.heap.size := Nat.lt_of_lt_of_le lb1 hb2.size
          replace d3 := (hb2.cell (p := ⟨b, off + j * 4 + 3, none⟩) lb1).trans d3
          have HB2 : Shut (Below w.heap.size w w2) := ⟨HB1.out.trans ((Below.drew (Below.refl _ _)).trans (hb2.mono HB1.out.size))⟩
          clear hb2 d2
          go_wp2_with fail
          go_region_held3 (fun w' => w'.cell? ⟨b, off + j * 4 + 3, none⟩ = some (.string (mt (k + 4 * j + 3)))) (first | go_keep | (rw [hb3.cell (p := ⟨b, off + j * 4 + 3, none⟩) (by exact lb2)]; assumption)) ((go_at_call 22; refine (Q3.out _).mono ?_; rintro e w3 ⟨rfl, hb3⟩))
          all_goals
            have lb3 : b < w3.heap.size := Nat.lt_of_lt_of_le lb2 hb3.size
            have HB3 : Shut (Below w.heap.size w w3) := ⟨HB2.out.trans ((Below.drew (Below.refl _ _)).trans (hb3.mono HB2.out.size))⟩
            clear hb3 d3
            go_wp2_with fail
            exact ⟨⟨j + 1, by go_num, congrArg (Value.int .i64) (by omega), by omega, HB3.out⟩, by simp [intOf]; omega⟩
    · have e : j = n := by omega
      subst e
      go_wp2_with fail
      go_ret
      exact ⟨rfl, hb⟩
end Go.Proofs.YtoglebfiobofoaaDoor
/- LawLga: The exact law of LogActs. -/
namespace Go.Proofs.YtoglebfiobofoaaDoor
set_option maxRecDepth 100000
open Go.RowKit
attribute [local go_sem ↓] Go.wp_at_zero Go.wp_at_succ

theorem logA_len (e : EM) : (logA e).length ≤ 2 := by unfold logA; split <;> simp
set_option maxHeartbeats 1000000 in
theorem lawLogActs (e : EM) (w : World) (ht : SumTab w) (hf : EdFit e) : Calls Tryd.prog 3 #[ev e] w fun r w' => r = .returned (.bool true) ∧ Below w.heap.size w w' := by
  have HSZ := Shut.mk (fun W => szEdit_any e 1048576 W (by omega) (by omega) hf)
  have HTO := Shut.mk (fun W => toEdit_any e W)
  have HSP := Shut.mk (fun (hh : EFit e) W0 => specLogActs e W0 hh)
  have HIM := Shut.mk (fun (hh : EFit e) (W0 : World) (hb : Below w.heap.size w W0) => implLogActs e W0 (ht.stays hb) hh)
  have HFT : Shut (∀ q : Int, 0 ≤ q → q + e.path.size + e.dest.size = 1048576 → EFit e) := ⟨fun q h0 h1 => ⟨by omega, by omega⟩⟩
  have hl := logA_len e
  unfold LgaPost at HSP HIM
  generalize logA e = L at *
  generalize editOk e = ok at *
  obtain ⟨n, hn⟩ : ∃ n, n = L.length := ⟨_, rfl⟩
  have HN := Shut.mk hn
  rw [← hn] at HSP HIM hl
  clear ht hn hf
  obtain ⟨kind, path, dest, num, who⟩ := e
  dsimp only [ev] at *
  have HM0 : Shut (Mem w (w.alloc (.cells #[.int .i64 kind, .string path, .string dest, .int .i64 num, .int .i64 who] 23)) [(w.heap.size, ecells ⟨kind, path, dest, num, who⟩)] []) := ⟨(⟨by simp, by simp, Below.refl _ _⟩ : Mem w w [] []).box _ _⟩
  go_enter Tryd.func3, Tryd.ntmps3
  go_upto_region 2 with fail
  refine wp_shade (fun W => Mem w W [(w.heap.size, ecells ⟨kind, path, dest, num, who⟩)] []) HM0.out ?_
  intro W0 hM0
  have M0 := Shut.mk hM0
  clear HM0 hM0
  have HBX : Shut (∀ (W : World) (R : List (Option Addr × List Value × Nat × Nat)), Mem w W [(w.heap.size, ecells ⟨kind, path, dest, num, who⟩)] R → W.cell? ⟨w.heap.size, 0, none⟩ = some (.int .i64 kind) ∧ W.cell? ⟨w.heap.size, 1, none⟩ = some (.string path) ∧ W.cell? ⟨w.heap.size, 2, none⟩ = some (.string dest) ∧ W.cell? ⟨w.heap.size, 3, none⟩ = some (.int .i64 num) ∧ W.cell? ⟨w.heap.size, 4, none⟩ = some (.int .i64 who)) := ⟨fun W R M => by
    have c := M.cells (w.heap.size, ecells ⟨kind, path, dest, num, who⟩) (by simp)
    exact ⟨(c.2 0 _ rfl).1, (c.2 1 _ rfl).1, (c.2 2 _ rfl).1, (c.2 3 _ rfl).1, (c.2 4 _ rfl).1⟩⟩
  obtain ⟨x0, x1, x2, x3, x4⟩ := HBX.out _ _ M0.out
  go_wp2_with fail
  refine (HSZ.out _).mono ?_
  rintro r w1 ⟨⟨q, rfl, q0, q1⟩, hb1⟩
  have M1 := Shut.mk (M0.out.below hb1)
  clear hb1 M0 x0 x1 x2 x3 x4
  by_cases hq : q < 0
  · clear q1
    go_wp2_with fail
    go_ret
    exact ⟨rfl, M1.out.low⟩
  · have hft := HFT.out q (by omega) (q1 (by omega))
    replace HSP := Shut.mk (HSP.out hft)
    replace HIM := Shut.mk (HIM.out hft)
    clear q1 hft
    obtain ⟨x0, x1, x2, x3, x4⟩ := HBX.out _ _ M1.out
    go_wp2_with fail
    refine (HTO.out _).mono ?_
    rintro r w2 ⟨rfl, hb2⟩
    have M2 := Shut.mk (M1.out.below hb2)
    clear hb2 M1 x0 x1 x2 x3 x4
    go_wp2_with fail
    refine (HSP.out _).mono ?_
    rintro r w3 ⟨v3, rfl, ho3, hb3⟩
    obtain ⟨a3, c3, rfl⟩ := own_form ho3
    have M3 : Shut (Mem w w3 [(w.heap.size, ecells ⟨kind, path, dest, num, who⟩)] [(a3, acs L, w2.heap.size, w3.heap.size)]) := ⟨(M2.out.below hb3).row (FRw.of_own ho3).1⟩
    have hz2 := M2.out.lt0
    have hz3 := hb3.size
    clear ho3 hb3 M2
    obtain ⟨x0, x1, x2, x3, x4⟩ := HBX.out _ _ M3.out
    go_wp2_with fail
    refine (HTO.out _).mono ?_
    rintro r w4 ⟨rfl, hb4⟩
    have M4 := Shut.mk (M3.out.below hb4)
    have hz4 := hb4.size
    clear hb4 M3 x0 x1 x2 x3 x4
    go_wp2_with fail
    refine (HIM.out _ M4.out.low).mono ?_
    rintro r w5 ⟨v5, rfl, ho5, hb5⟩
    obtain ⟨a5, c5, rfl⟩ := own_form ho5
    have M5 : Shut (Mem w w5 [(w.heap.size, ecells ⟨kind, path, dest, num, who⟩)] [(a5, acs L, w4.heap.size, w5.heap.size), (a3, acs L, w2.heap.size, w3.heap.size)]) := ⟨(M4.out.below hb5).row (FRw.of_own ho5).1⟩
    have hc5 := (FRw.of_own ho5).2
    clear ho5 hb5 M4
    have HEQ : Shut (∀ (a b : Option Addr) (ca cb : Nat) (W0 : World), ARow W0 a L → ARow W0 b L → Calls Tryd.prog 9 #[.slice a n ca, .slice b n cb] W0 fun e w' => e = .returned (.bool true) ∧ Below W0.heap.size W0 w') := ⟨fun a b ca cb W0 h1 h2 => by
      have := eqActS_same a b L ca cb W0 h1 h2 (by have := HN.out; omega)
      rw [← HN.out] at this
      exact this⟩
    go_wp2_with fail
    refine (HEQ.out a5 a3 c5 c3 _ M5.out.at0.crow M5.out.at1.crow).mono ?_
    rintro e w6 ⟨rfl, hb6⟩
    have M6 := Shut.mk (M5.out.below hb6)
    clear hb6 M5
    have HMK := Shut.mk (markActS_row a5 L 1 c5 w4.heap.size w5.heap.size w6 M6.out.at0 (by omega) (by have := HN.out; omega) (by have := HN.out; omega))
    rw [← HN.out] at HMK
    go_wp2_with fail
    refine HMK.out.mono ?_
    rintro e w7 ⟨rfl, hf7, row, hg7, hr7⟩
    have M7 : Shut (Mem w w7 [(w.heap.size, ecells ⟨kind, path, dest, num, who⟩)] [(a5, acs (marksA 1 n), w4.heap.size, w5.heap.size), (a3, acs L, w2.heap.size, w3.heap.size)]) := ⟨((M6.out.less (L' := [(w.heap.size, ecells ⟨kind, path, dest, num, who⟩)]) (R' := [(a3, acs L, w2.heap.size, w3.heap.size)]) (by simp) (by simp)).grown hg7 (fun p hp g e => by simp at hp; subst hp; have := hr7 g e; simp; omega) (fun r hr g e => by simp at hr; subst hr; have := hr7 g e; simp; omega) (fun g e => by have := hr7 g e; omega)).row hf7⟩
    clear hf7 hg7 hr7 HMK M6
    have HHD : Shut (∀ (W0 : World), ARow W0 a5 (marksA 1 n) → Calls Tryd.prog 11 #[.slice a5 n c5, .int .i64 1] W0 fun e w' => e = .returned (.int .i64 (1 + 4 * n : Nat)) ∧ Below W0.heap.size W0 w') := ⟨fun W0 h => heldActS_any a5 1 n c5 W0 h (by omega) (by omega)⟩
    go_wp2_with fail
    refine (HHD.out _ M7.out.at0.crow).mono ?_
    rintro e w8 ⟨rfl, hb8⟩
    have M8 := Shut.mk (M7.out.below hb8)
    clear hb8 M7
    obtain ⟨x0, x1, x2, x3, x4⟩ := HBX.out _ _ M8.out
    go_wp2_with fail
    refine (HTO.out _).mono ?_
    rintro r w9 ⟨rfl, hb9⟩
    have M9 := Shut.mk (M8.out.below hb9)
    clear hb9 M8 x0 x1 x2 x3 x4
    go_wp2_with fail
    refine (HIM.out _ M9.out.low).mono ?_
    rintro r w10 ⟨v10, rfl, ho10, hb10⟩
    obtain ⟨a10, c10, rfl⟩ := own_form ho10
    have M10 : Shut (Mem w w10 [(w.heap.size, ecells ⟨kind, path, dest, num, who⟩)] [(a10, acs L, w9.heap.size, w10.heap.size), (a5, acs (marksA 1 n), w4.heap.size, w5.heap.size), (a3, acs L, w2.heap.size, w3.heap.size)]) := ⟨(M9.out.below hb10).row (FRw.of_own ho10).1⟩
    clear ho10 hb10 M9
    go_wp2_with fail
    refine (HEQ.out a10 a3 c10 c3 _ M10.out.at0.crow M10.out.at2.crow).mono ?_
    rintro e w11 ⟨rfl, hb11⟩
    have M11 := Shut.mk (M10.out.below hb11)
    clear hb11 M10
    go_wp2_with fail
    refine (HHD.out _ M11.out.at1.crow).mono ?_
    rintro e w12 ⟨rfl, hb12⟩
    have M12 := Shut.mk (M11.out.below hb12)
    clear hb12 M11
    go_wp2_with fail
    go_ret
    exact ⟨rfl, M12.out.low⟩
end Go.Proofs.YtoglebfiobofoaaDoor
