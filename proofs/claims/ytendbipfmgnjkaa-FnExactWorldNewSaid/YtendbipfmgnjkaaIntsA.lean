/- Rows of numbers: their copies, their comparison, marks that are laid into one and found again. -/
import Derived.Test.YtendbipfmgnjkaaRowsG
import Derived.Deep.RegionHeld3
import Derived.Deep.DrawnRows
import Derived.BigQuiet
namespace Go.Proofs.Ytendbipfmgnjkaa
set_option maxRecDepth 100000
open Go.RowKit
attribute [local go_sem ↓] Go.wp_at_zero Go.wp_at_succ

def ics (xs : List Int) : List Value := xs.map fun x => .int .i64 x
theorem ics_len (xs : List Int) : (ics xs).length = xs.length := by simp [ics]
theorem ics_get (xs : List Int) (j : Nat) (h : j < xs.length) : (ics xs)[j]? = some (.int .i64 (xs.getD j 0)) := by simp [ics, List.getD, h]
theorem ics_set (xs : List Int) (j : Nat) (x : Int) : (ics xs).set j (.int .i64 x) = ics (xs.set j x) := by simp [ics, List.map_set]
theorem crow_int {w : World} {a : Option Addr} {xs : List Int} (h : CRow w a (ics xs)) (hp : 0 < xs.length) : ∃ b off, a = some ⟨b, off, none⟩ ∧ b < w.heap.size ∧ ∀ j, j < xs.length → w.cell? ⟨b, off + j, none⟩ = some (.int .i64 (xs.getD j 0)) := by
  obtain ⟨b, off, e, hb, hc⟩ := h (by rw [ics_len]; exact hp)
  exact ⟨b, off, e, hb, fun j hj => hc j _ (ics_get xs j hj)⟩
theorem infoIntG : (Try.prog.info? 3).map (fun i => (i.zero, i.size, i.bytes)) = some (some (.int .i64 0), 1, 8) := by kernel_rfl
def ToInts (xs : List Int) (w : World) (e : Ending) (w' : World) : Prop := ∃ g, e = .returned (.slice (some ⟨g, 0, none⟩) xs.length xs.length) ∧ w.heap.size ≤ g ∧ WCells w' g (ics xs) ∧ Below w.heap.size w w'
set_option maxHeartbeats 1000000 in
theorem toIntS_any (a : Option Addr) (xs : List Int) (cap : Nat) (w : World) (hr : CRow w a (ics xs)) (hl : xs.length ≤ 1048576) :
    Calls Try.prog 27 #[.slice a xs.length cap] w fun e w' => ToInts xs w e w' := by
  obtain ⟨i0, hi, hz0, hz1, hz2⟩ := info_parts infoIntG
  have HR : Hid (CRow w a (ics xs)) := hr
  clear hr
  go_enter Try.func27, Try.ntmps27
  go_wp2_with (at_make; refine wpList_make_full _ rfl _ _ 24 rfl w.heap.size 3 i0 _ 1 Try.underlying24 hi hz0 hz1 .i64 .i64 _ _ xs.length rfl rfl (by omega) (by omega) ?b2 ?b3 ?b4 ?_)
  case b2 => rw [hz2]; omega
  case b3 => unfold maxLen; omega
  case b4 => omega
  intro wm hownm hgrm
  have hbm : Below w.heap.size w wm := (Below.refl _ _).grown hgrm (Nat.le_refl _) (fun j hj => by simp at hj)
  have hrow : WCells wm w.heap.size (ics (List.replicate xs.length 0)) := by
    have h := own_wcells hownm
    have e : (madeCells #[Value.int .i64 0] (xs.length * 1)).toList = ics (List.replicate xs.length 0) := by rw [toList_madeCells_one]; simp [ics]
    rw [Nat.mul_one] at e
    first | (rw [e] at h; exact h) | (rw [Nat.mul_one, e] at h; exact h)
  have HRW : Shut (WCells wm w.heap.size (ics (List.replicate xs.length 0))) := ⟨hrow⟩
  clear hownm hgrm hrow
  go_wp2_with fail
  go_loopw [4] (fun i wr => ∃ (k : Nat) (ys : List Int), i = .int .i64 k ∧ k ≤ xs.length ∧ ys.length = xs.length ∧ ys.take k = xs.take k ∧ Shut (WCells wr w.heap.size (ics ys)) ∧ Below w.heap.size w wr) (fun i _ => xs.length - (intOf i).toNat)
  case atStart => exact ⟨0, _, rfl, by omega, by simp, by simp, HRW, hbm⟩
  case round =>
    clear hbm
    obtain ⟨k, ys, rfl, hk, hyl, hyt, hw, hb⟩ := hrel
    have HY : Hid (ys.length = xs.length ∧ ys.take k = xs.take k) := ⟨hyl, hyt⟩
    have HB : Hid (Below w.heap.size w wr) := hb
    by_cases hlt : k < xs.length
    · obtain ⟨b, off, rfl, lb, hc⟩ := crow_int HR.out (by omega)
      have d0 := hc k hlt
      rw [← hb.cell (p := ⟨b, off + k, none⟩) lb] at d0
      obtain ⟨x, hx⟩ : ∃ x, x = xs.getD k 0 := ⟨_, rfl⟩
      rw [← hx] at d0
      have HXE : Hid (x = xs.getD k 0) := hx
      have k0 : (0 : Int) ≤ (k : Int) := by omega
      have k1 : (k : Int) < (xs.length : Int) := by omega
      obtain ⟨c0, z0⟩ := hw.out.2 k _ (ics_get ys k (by omega))
      have hset := hw.out.set k (.int .i64 x) (by rw [ics_len]; omega)
      rw [ics_set] at hset
      have HS : Shut (WCells (wr.setCell ⟨w.heap.size, k, none⟩ (.int .i64 x)) w.heap.size (ics (ys.set k x))) := ⟨hset⟩
      clear hc hx hset hb hyl hyt
      go_wp2_with fail
      all_goals
        refine ⟨⟨k + 1, ys.set k x, by go_num, by omega, by rw [List.length_set]; exact HY.out.1, ?_, ⟨HS.out⟩, HB.out.setCell (p := ⟨w.heap.size, k, none⟩) (Nat.le_refl _) _⟩, by simp [intOf]; omega⟩
        have hky : k < (ys.set k x).length := by rw [List.length_set]; have := HY.out.1; omega
        rw [List.take_succ_eq_append_getElem hky, List.take_succ_eq_append_getElem hlt, List.take_set_of_le (Nat.le_refl _), List.getElem_set_self]
        have e1 : x = xs[k] := by rw [HXE.out]; simp [List.getD, hlt]
        rw [e1]
        exact congrArg (· ++ [xs[k]]) HY.out.2
    · have e : ys = xs := by
        rw [List.take_of_length_le (by omega), List.take_of_length_le (by omega)] at hyt; exact hyt
      subst e
      go_wp2_with fail
      go_ret
      exact ⟨_, rfl, Nat.le_refl _, hw.out, hb⟩
set_option maxHeartbeats 1000000 in
theorem eqIntS_same (a b : Option Addr) (xs : List Int) (ca cb : Nat) (w : World) (ha : CRow w a (ics xs)) (hb : CRow w b (ics xs)) (hl : xs.length ≤ 1048576) :
    Calls Try.prog 30 #[.slice a xs.length ca, .slice b xs.length cb] w fun e w' => e = .returned (.bool true) ∧ Below w.heap.size w w' := by
  have HA : Hid (CRow w a (ics xs)) := ha
  have HB : Hid (CRow w b (ics xs)) := hb
  clear ha hb
  go_enter Try.func30, Try.ntmps30
  go_wp2_with fail
  go_loopw [5] (fun i wr => ∃ (k : Nat), i = .int .i64 k ∧ k ≤ xs.length ∧ Below w.heap.size w wr) (fun i _ => xs.length - (intOf i).toNat)
  case atStart => exact ⟨0, rfl, Nat.zero_le _, Below.refl _ _⟩
  case round =>
    obtain ⟨k, rfl, hk, hbl⟩ := hrel
    by_cases hlt : k < xs.length
    · obtain ⟨b1, o1, rfl, l1, hc1⟩ := crow_int (HA.out.stays hbl) (by omega)
      obtain ⟨b2, o2, rfl, l2, hc2⟩ := crow_int (HB.out.stays hbl) (by omega)
      have d0 := hc1 k hlt
      have e0 := hc2 k hlt
      have k0 : (0 : Int) ≤ (k : Int) := by omega
      have k1 : (k : Int) < (xs.length : Int) := by omega
      have hbn : ∀ q, Below w.heap.size w (wr.drewN q) := fun q => hbl.trans ⟨rfl, rfl, rfl, Nat.le_refl _, fun _ _ => rfl⟩
      generalize xs.getD k 0 = x at d0 e0
      clear hc1 hc2 hbl
      go_wp2_with fail
      go_quiet (fail)
      go_wp2_with fail
      go_roundw
      case rel => exact ⟨k + 1, by go_num, by omega, hbn _⟩
      case measure => simp [intOf]; omega
    · have e : k = xs.length := by omega
      subst e
      go_wp2_with fail
      go_ret
      exact ⟨rfl, hbl⟩
/-- Marks from k on. -/
def marksI (k n : Nat) : List Int := (List.range n).map fun j => ((k + j : Nat) : Int)
theorem marksI_len (k n : Nat) : (marksI k n).length = n := by simp [marksI]
theorem marksI_at (k n j : Nat) (h : j < n) : (marksI k n).getD j 0 = ((k + j : Nat) : Int) := by simp [marksI, List.getD, h]
theorem markIntS_none (a : Option Addr) (k ca : Nat) (w : World) :
    Calls Try.prog 38 #[.slice a 0 ca, .int .i64 k] w fun e w' => e = .returned (.int .i64 k) ∧ w' = w := by
  go_enter Try.func38, Try.ntmps38
  go_wp2_with fail
  go_rounds 1
  go_ret
  exact ⟨rfl, rfl⟩
def MarkInts (g k n : Nat) (w : World) (e : Ending) (w' : World) : Prop := e = .returned (.int .i64 (k + n : Nat)) ∧ (∃ ys : List Int, ys.length = n ∧ WCells w' g (ics ys)) ∧ w.grownBy w' (some g)
theorem gb_set' (w : World) (g i : Nat) (v : Value) : w.grownBy (w.setCell ⟨g, i, none⟩ v) (some g) :=
  ⟨rfl, rfl, rfl, by simp [World.setCell], fun k _ hk => Below.heap_setCell w ⟨g, i, none⟩ v k (fun e => hk (by rw [e]))⟩
theorem gb_two' {a b c : World} {g : Nat} (h : a.grownBy b (some g)) (k : b.grownBy c (some g)) : a.grownBy c (some g) :=
  ⟨k.os.trans h.os, k.tape.trans h.tape, k.output.trans h.output, Nat.le_trans h.size k.size, fun j hj hn => (k.block j (Nat.lt_of_lt_of_le hj h.size) hn).trans (h.block j hj hn)⟩
set_option maxHeartbeats 1000000 in
theorem markIntS_any (g : Nat) (xs : List Int) (k ca : Nat) (w : World) (ha : WCells w g (ics xs)) (hn : k + xs.length ≤ 1000000000) (hca : xs.length ≤ ca) :
    Calls Try.prog 38 #[.slice (some ⟨g, 0, none⟩) xs.length ca, .int .i64 k] w fun e w' => MarkInts g k xs.length w e w' := by
  obtain ⟨n, hnx⟩ : ∃ n, n = xs.length := ⟨_, rfl⟩
  have HN : Hid (n = xs.length) := hnx
  rw [← hnx]
  rw [← hnx] at hn hca
  clear hnx
  have HA : Shut (WCells w g (ics xs)) := ⟨ha⟩
  clear ha
  go_enter Try.func38, Try.ntmps38
  go_wp2_with fail
  go_loopw [1, 5] (fun c i wr => ∃ (j : Nat) (ys : List Int), i = .int .i64 j ∧ c = .int .i64 (k + j : Nat) ∧ j ≤ n ∧ ys.length = n ∧ Shut (WCells wr g (ics ys)) ∧ w.grownBy wr (some g)) (fun _ i _ => n - (intOf i).toNat)
  case atStart => exact ⟨0, xs, rfl, rfl, Nat.zero_le _, HN.out.symm, HA, ⟨rfl, rfl, rfl, Nat.le_refl _, fun _ _ _ => rfl⟩⟩
  case round =>
    obtain ⟨j, ys, rfl, rfl, hj, hyl, hw, hgr⟩ := hrel
    have HL : Hid (ys.length = n) := hyl
    by_cases hlt : j < n
    · have j0 : (0 : Int) ≤ (j : Int) := by omega
      have j1 : (j : Int) < (n : Int) := by omega
      obtain ⟨c0, z0⟩ := hw.out.2 j _ (ics_get ys j (by omega))
      have hset := hw.out.set j (.int .i64 ((k : Int) + (j : Int))) (by rw [ics_len]; omega)
      rw [ics_set] at hset
      have HS : Shut (WCells (wr.setCell ⟨g, j, none⟩ (.int .i64 ((k : Int) + (j : Int)))) g (ics (ys.set j ((k : Int) + (j : Int))))) := ⟨hset⟩
      have HG : Hid (w.grownBy (wr.setCell ⟨g, j, none⟩ (.int .i64 ((k : Int) + (j : Int)))) (some g)) := gb_two' hgr (gb_set' wr g j _)
      clear hset hyl hgr hw
      go_wp2_with fail
      go_roundw
      case rel => exact ⟨j + 1, _, by go_num, congrArg (Value.int .i64) (by omega), by omega, by rw [List.length_set]; exact HL.out, HS, HG.out⟩
      case measure => simp [intOf]; omega
    · have e : j = n := by omega
      subst e
      go_wp2_with fail
      go_ret
      exact ⟨rfl, ⟨ys, hyl, hw.out⟩, hgr⟩
end Go.Proofs.Ytendbipfmgnjkaa
