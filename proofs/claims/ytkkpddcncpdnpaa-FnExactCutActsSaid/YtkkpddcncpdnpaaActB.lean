/- Rows of acts: two that are the same are told so; marks that are laid into one. -/
import Derived.Test.YtkkpddcncpdnpaaActA
import Derived.Test.YtkkpddcncpdnpaaStrsB
namespace Go.Proofs.Ytkkpddcncpdnpaa
open Go.RowKit
attribute [local go_sem ↓] Go.wp_at_zero Go.wp_at_succ

theorem eqAct_same (f : AM) (w : World) :
    Calls Try.prog 54 #[av f, av f] w fun e w' => e = .returned (.bool true) ∧ Below w.heap.size w w' := by
  go_enter Try.func54, Try.ntmps54
  go_wp2_with fail
  go_ret
  exact ⟨rfl, ((Below.refl _ _).alloc (Nat.le_refl _) _).alloc (by simp) _⟩
set_option maxHeartbeats 1000000 in
theorem eqActS_same (a b : Option Addr) (fs : List AM) (ca cb : Nat) (w : World) (ha : ARow w a fs) (hb : ARow w b fs) (hl : fs.length ≤ 1048576) :
    Calls Try.prog 27 #[.slice a fs.length ca, .slice b fs.length cb] w fun e w' => e = .returned (.bool true) ∧ Below w.heap.size w w' := by
  have HA : Hid (ARow w a fs) := ha
  have HB : Hid (ARow w b fs) := hb
  clear ha hb
  go_enter Try.func27, Try.ntmps27
  go_wp2_with fail
  go_loopw [5] (fun i wr => ∃ (k : Nat), i = .int .i64 k ∧ k ≤ fs.length ∧ Below w.heap.size w wr) (fun i _ => fs.length - (intOf i).toNat)
  case atStart => exact ⟨0, rfl, Nat.zero_le _, Below.refl _ _⟩
  case round =>
    obtain ⟨k, rfl, hk, hbl⟩ := hrel
    by_cases hlt : k < fs.length
    · obtain ⟨b1, o1, rfl, l1, hc1⟩ := ARow.at (HA.out.stays hbl) (by omega)
      obtain ⟨b2, o2, rfl, l2, hc2⟩ := ARow.at (HB.out.stays hbl) (by omega)
      obtain ⟨d0, d1, d2, d3⟩ := hc1 k hlt
      obtain ⟨e0, e1, e2, e3⟩ := hc2 k hlt
      obtain ⟨f, hfe⟩ : ∃ f, f = fs[k] := ⟨_, rfl⟩
      rw [← hfe] at d0 d1 d2 d3 e0 e1 e2 e3
      have HS : Hid (Below w.heap.size w wr) := hbl
      have k0 : (0 : Int) ≤ (k : Int) := by omega
      have k1 : (k : Int) < (fs.length : Int) := by omega
      clear hc1 hc2 hfe hbl
      go_wp2_with fail
      go_region_held3 (fun w' => w'.cell? ⟨b1, o1 + k * 4, none⟩ = some (.int .i64 f.kind) ∧ w'.cell? ⟨b1, o1 + k * 4 + 1, none⟩ = some (.string f.name) ∧ w'.cell? ⟨b1, o1 + k * 4 + 2, none⟩ = some (.string f.text) ∧ w'.cell? ⟨b1, o1 + k * 4 + 3, none⟩ = some (.string f.to) ∧ w'.cell? ⟨b2, o2 + k * 4, none⟩ = some (.int .i64 f.kind) ∧ w'.cell? ⟨b2, o2 + k * 4 + 1, none⟩ = some (.string f.name) ∧ w'.cell? ⟨b2, o2 + k * 4 + 2, none⟩ = some (.string f.text) ∧ w'.cell? ⟨b2, o2 + k * 4 + 3, none⟩ = some (.string f.to))
        (first | go_keep | (refine ⟨?_, ?_, ?_, ?_, ?_, ?_, ?_, ?_⟩ <;> first | (rw [hb2.cell (by exact l1)]; simp [*]) | (rw [hb2.cell (by exact l2)]; simp [*])))
        ((go_at_call 54; refine (eqAct_same f _).mono ?_; rintro e w2 ⟨rfl, hb2⟩))
      all_goals go_wp2_with fail
      all_goals
        have hb3 : Below w.heap.size w w2 := HS.out.trans ((Below.drew (Below.refl _ _)).trans (hb2.mono HS.out.size))
        exact ⟨⟨k + 1, by go_num, by omega, hb3⟩, by simp [intOf]; omega⟩
    · have e : k = fs.length := by omega
      subst e
      go_wp2_with fail
      go_ret
      exact ⟨rfl, hbl⟩
theorem markActS_none (a : Option Addr) (k ca : Nat) (w : World) :
    Calls Try.prog 28 #[.slice a 0 ca, .int .i64 k] w fun e w' => e = .returned (.int .i64 k) ∧ w' = w := by
  go_enter Try.func28, Try.ntmps28
  go_wp2_with fail
  go_rounds 1
  go_ret
  exact ⟨rfl, rfl⟩
def MarkActs (g k n : Nat) (w : World) (e : Ending) (w' : World) : Prop := e = .returned (.int .i64 (k + 4 * n : Nat)) ∧ (∃ ys : List AM, ys.length = n ∧ WCells w' g (acs ys)) ∧ w.grownBy w' (some g)
theorem acs_four (ys : List AM) (j : Nat) (hj : j < ys.length) (f : AM) : ((((acs ys).set (j * 4) (.int .i64 f.kind)).set (j * 4 + 1) (.string f.name)).set (j * 4 + 2) (.string f.text)).set (j * 4 + 3) (.string f.to) = acs (ys.set j f) :=
  flat_setL acells_len ys j hj f
set_option maxHeartbeats 1000000 in
theorem markActS_any (g : Nat) (xs : List AM) (k ca : Nat) (w : World) (ha : WCells w g (acs xs)) (hk : 0 < k) (hn : k + 4 * xs.length ≤ 1000000000) (hca : xs.length ≤ ca) :
    Calls Try.prog 28 #[.slice (some ⟨g, 0, none⟩) xs.length ca, .int .i64 k] w fun e w' => MarkActs g k xs.length w e w' := by
  obtain ⟨n, hnx⟩ : ∃ n, n = xs.length := ⟨_, rfl⟩
  have HN : Hid (n = xs.length) := hnx
  rw [← hnx]
  rw [← hnx] at hn hca
  clear hnx
  have HA : Shut (WCells w g (acs xs)) := ⟨ha⟩
  clear ha
  go_enter Try.func28, Try.ntmps28
  go_wp2_with fail
  go_loopw [1, 5] (fun c i wr => ∃ (j : Nat) (ys : List AM), i = .int .i64 j ∧ c = .int .i64 (k + 4 * j : Nat) ∧ j ≤ n ∧ ys.length = n ∧ Shut (WCells wr g (acs ys)) ∧ w.grownBy wr (some g)) (fun _ i _ => n - (intOf i).toNat)
  case atStart => exact ⟨0, xs, rfl, rfl, Nat.zero_le _, HN.out.symm, HA, grownBy_below (Below.refl _ _)⟩
  case round =>
    obtain ⟨j, ys, rfl, rfl, hj, hyl, hw, hgr⟩ := hrel
    have HL : Hid (ys.length = n) := hyl
    have HGR : Hid (w.grownBy wr (some g)) := hgr
    by_cases hlt : j < n
    · have j0 : (0 : Int) ≤ (j : Int) := by omega
      have j1 : (j : Int) < (n : Int) := by omega
      have hly : (acs ys).length = n * 4 := by rw [acs_len, hyl]
      have Q1 : Shut (∀ W : World, Calls Try.prog 55 #[.int .i64 ((k : Int) + 4 * (j : Int) + 1)] W fun e w' => e = .returned (.string (mt (k + 4 * j + 1))) ∧ Below W.heap.size W w') := ⟨fun W => by
        have q := markText_any (k + 4 * j + 1) W (by omega) (by omega)
        rwa [show ((k + 4 * j + 1 : Nat) : Int) = (k : Int) + 4 * (j : Int) + 1 by push_cast; omega] at q⟩
      have Q2 : Shut (∀ W : World, Calls Try.prog 55 #[.int .i64 ((k : Int) + 4 * (j : Int) + 1 + 1)] W fun e w' => e = .returned (.string (mt (k + 4 * j + 2))) ∧ Below W.heap.size W w') := ⟨fun W => by
        have q := markText_any (k + 4 * j + 2) W (by omega) (by omega)
        rwa [show ((k + 4 * j + 2 : Nat) : Int) = (k : Int) + 4 * (j : Int) + 1 + 1 by push_cast; omega] at q⟩
      have Q3 : Shut (∀ W : World, Calls Try.prog 55 #[.int .i64 ((k : Int) + 4 * (j : Int) + 1 + 1 + 1)] W fun e w' => e = .returned (.string (mt (k + 4 * j + 3))) ∧ Below W.heap.size W w') := ⟨fun W => by
        have q := markText_any (k + 4 * j + 3) W (by omega) (by omega)
        rwa [show ((k + 4 * j + 3 : Nat) : Int) = (k : Int) + 4 * (j : Int) + 1 + 1 + 1 by push_cast; omega] at q⟩
      obtain ⟨c0, z0⟩ := hw.out.2 (j * 4) _ (List.getElem?_eq_getElem (by omega))
      have hs0 := hw.out.set (j * 4) (.int .i64 ((k : Int) + 4 * (j : Int))) (by omega)
      have HS0 : Shut (WCells (wr.setCell ⟨g, j * 4, none⟩ (.int .i64 ((k : Int) + 4 * (j : Int)))) g ((acs ys).set (j * 4) (.int .i64 ((k : Int) + 4 * (j : Int))))) := ⟨hs0⟩
      have HG0 : Hid (w.grownBy (wr.setCell ⟨g, j * 4, none⟩ (.int .i64 ((k : Int) + 4 * (j : Int)))) (some g)) := grownBy_two hgr (grownBy_setCell wr g _ _)
      clear hs0 hgr hw
      go_wp2_with fail
      refine (Q1.out _).mono ?_
      rintro e w1 ⟨rfl, hb1⟩
      have hw1 := HS0.out.grow hb1
      obtain ⟨c1, z1⟩ := hw1.2 (j * 4 + 1) _ (List.getElem?_eq_getElem (by simp only [List.length_set]; omega))
      have hs1 := hw1.set (j * 4 + 1) (.string (mt (k + 4 * j + 1))) (by simp only [List.length_set]; omega)
      have HS1 : Shut (WCells (w1.setCell ⟨g, j * 4 + 1, none⟩ (.string (mt (k + 4 * j + 1)))) g (((acs ys).set (j * 4) (.int .i64 ((k : Int) + 4 * (j : Int)))).set (j * 4 + 1) (.string (mt (k + 4 * j + 1))))) := ⟨hs1⟩
      have HG1 : Hid (w.grownBy (w1.setCell ⟨g, j * 4 + 1, none⟩ (.string (mt (k + 4 * j + 1)))) (some g)) := grownBy_two HG0.out (grownBy_two (grownBy_below hb1) (grownBy_setCell w1 g _ _))
      clear hb1 hw1 hs1 HS0 HG0
      go_wp2_with fail
      refine (Q2.out _).mono ?_
      rintro e w2 ⟨rfl, hb2⟩
      have hw2 := HS1.out.grow hb2
      obtain ⟨c2, z2⟩ := hw2.2 (j * 4 + 2) _ (List.getElem?_eq_getElem (by simp only [List.length_set]; omega))
      have hs2 := hw2.set (j * 4 + 2) (.string (mt (k + 4 * j + 2))) (by simp only [List.length_set]; omega)
      have HS2 : Shut (WCells (w2.setCell ⟨g, j * 4 + 2, none⟩ (.string (mt (k + 4 * j + 2)))) g ((((acs ys).set (j * 4) (.int .i64 ((k : Int) + 4 * (j : Int)))).set (j * 4 + 1) (.string (mt (k + 4 * j + 1)))).set (j * 4 + 2) (.string (mt (k + 4 * j + 2))))) := ⟨hs2⟩
      have HG2 : Hid (w.grownBy (w2.setCell ⟨g, j * 4 + 2, none⟩ (.string (mt (k + 4 * j + 2)))) (some g)) := grownBy_two HG1.out (grownBy_two (grownBy_below hb2) (grownBy_setCell w2 g _ _))
      clear hb2 hw2 hs2 HS1 HG1
      go_wp2_with fail
      refine (Q3.out _).mono ?_
      rintro e w3 ⟨rfl, hb3⟩
      have hw3 := HS2.out.grow hb3
      obtain ⟨c3, z3⟩ := hw3.2 (j * 4 + 3) _ (List.getElem?_eq_getElem (by simp only [List.length_set]; omega))
      have hs3 := hw3.set (j * 4 + 3) (.string (mt (k + 4 * j + 3))) (by simp only [List.length_set]; omega)
      have hfin := acs_four ys j (by have := HL.out; omega) ⟨(k : Int) + 4 * (j : Int), mt (k + 4 * j + 1), mt (k + 4 * j + 2), mt (k + 4 * j + 3)⟩
      rw [hfin] at hs3
      have HS3 : Shut (WCells (w3.setCell ⟨g, j * 4 + 3, none⟩ (.string (mt (k + 4 * j + 3)))) g (acs (ys.set j ⟨(k : Int) + 4 * (j : Int), mt (k + 4 * j + 1), mt (k + 4 * j + 2), mt (k + 4 * j + 3)⟩))) := ⟨hs3⟩
      have HG3 : Hid (w.grownBy (w3.setCell ⟨g, j * 4 + 3, none⟩ (.string (mt (k + 4 * j + 3)))) (some g)) := grownBy_two HG2.out (grownBy_two (grownBy_below hb3) (grownBy_setCell w3 g _ _))
      clear hb3 hw3 hs3 HS2 HG2
      clear hfin
      go_wp2_with fail
      go_roundw
      case rel => exact ⟨j + 1, _, by go_num, congrArg (Value.int .i64) (by omega), by omega, by rw [List.length_set]; exact HL.out, HS3, HG3.out⟩
      case measure => simp [intOf]; omega
    · have e : j = n := by omega
      subst e
      go_wp2_with fail
      go_ret
      exact ⟨rfl, ⟨ys, hyl, hw.out⟩, hgr⟩
end Go.Proofs.Ytkkpddcncpdnpaa
