/- Rows of numbers: their copies, their comparison, marks that are laid into one and found again. -/
import Derived.Test.YtodgabdhgaglmaaRowsG
import Derived.Deep.RegionHeld3
import Derived.Deep.DrawnRows
import Derived.BigQuiet
namespace Go.Proofs.Ytodgabdhgaglmaa
set_option maxRecDepth 100000
open Go.RowKit
attribute [local go_sem ↓] Go.wp_at_zero Go.wp_at_succ

def ics (xs : List Int) : List Value := xs.map fun x => .int .i64 x
theorem ics_len (xs : List Int) : (ics xs).length = xs.length := by simp [ics]
theorem ics_get (xs : List Int) (j : Nat) (h : j < xs.length) : (ics xs)[j]? = some (.int .i64 (xs.getD j 0)) := by simp [ics, List.getD, h]
theorem ics_set (xs : List Int) (j : Nat) (x : Int) : (ics xs).set j (.int .i64 x) = ics (xs.set j x) := by simp [ics, List.map_set]
theorem crow_int {w : World} {a : Option Addr} {xs : List Int} (h : CRow w a (ics xs)) (hp : 0 < xs.length) : ∃ b off, a = some ⟨b, off, none⟩ ∧ b < w.heap.size ∧ ∀ j, j < xs.length → w.cell? ⟨b, off + j, none⟩ = some (.int .i64 (xs.getD j 0)) := by
  obtain ⟨b, off, e, hb, hc⟩ := h (by rw [ics_len]; exact hp)
  exact ⟨b, off, e, hb, fun j hj => hc j _ (ics_get xs j hj)⟩
theorem infoIntG : (Try.prog.info? 3).map (fun i => (i.zero, i.size, i.bytes)) = some (some (.int .i64 0), 1, 8) := by kernel_rfl
def ToInts (xs : List Int) (w : World) (e : Ending) (w' : World) : Prop := ∃ g, e = .returned (.slice (some ⟨g, 0, none⟩) xs.length xs.length) ∧ w.heap.size ≤ g ∧ WCells w' g (ics xs) ∧ Below w.heap.size w w'
/-- Marks from k on. -/
def marksI (k n : Nat) : List Int := (List.range n).map fun j => ((k + j : Nat) : Int)
theorem marksI_len (k n : Nat) : (marksI k n).length = n := by simp [marksI]
theorem marksI_at (k n j : Nat) (h : j < n) : (marksI k n).getD j 0 = ((k + j : Nat) : Int) := by simp [marksI, List.getD, h]
def MarkInts (g k n : Nat) (w : World) (e : Ending) (w' : World) : Prop := e = .returned (.int .i64 (k + n : Nat)) ∧ (∃ ys : List Int, ys.length = n ∧ WCells w' g (ics ys)) ∧ w.grownBy w' (some g)
theorem gb_set' (w : World) (g i : Nat) (v : Value) : w.grownBy (w.setCell ⟨g, i, none⟩ v) (some g) :=
  ⟨rfl, rfl, rfl, by simp [World.setCell], fun k _ hk => Below.heap_setCell w ⟨g, i, none⟩ v k (fun e => hk (by rw [e]))⟩
theorem gb_two' {a b c : World} {g : Nat} (h : a.grownBy b (some g)) (k : b.grownBy c (some g)) : a.grownBy c (some g) :=
  ⟨k.os.trans h.os, k.tape.trans h.tape, k.output.trans h.output, Nat.le_trans h.size k.size, fun j hj hn => (k.block j (Nat.lt_of_lt_of_le hj h.size) hn).trans (h.block j hj hn)⟩
end Go.Proofs.Ytodgabdhgaglmaa
