/- Texts of ours, laid one behind the other: TShelf, TTwB. -/
import Derived.Test.YtbkimmbfepjodaaDoorPfT11
import Derived.Test.YtbkimmbfepjodaaDoorPfM14
import Derived.Shelf.LaysM
import Derived.Shelf.Strconv.Clone
set_option linter.unusedVariables false
set_option linter.unusedSimpArgs false
/- The library's functions that this seat's code calls: their contracts, as the guide's shelf lays them. -/
namespace Go.Proofs
open Go.Shelf
def Tw.laysM316_ren : Go.Shelf.Ren := ⟨fun | 316 => 83 | n => n, fun | 9 => 9 | 3 => 3 | 4 => 4 | 37 => 58 | 0 => 0 | 127 => 118 | 5 => 5 | n => n, fun | n => n⟩
theorem Tw.laysM316 : Go.Proofs.LaysM.n316 Tw.prog Tw.laysM316_ren := {
  mixed := by kernel_rfl
  f316 := Tw.func83.trans (congrArg some (by kernel_rfl))
  t0 := Tw.underlying0
  a0 := Tw.isAgg0
  z0 := Tw.sizeOf0
  v0 := Tw.zeroValue0
  t3 := Tw.underlying3
  a3 := Tw.isAgg3
  z3 := Tw.sizeOf3
  v3 := Tw.zeroValue3
  t4 := Tw.underlying4
  a4 := Tw.isAgg4
  z4 := Tw.sizeOf4
  v4 := Tw.zeroValue4
  t9 := Tw.underlying9
  a9 := Tw.isAgg9
  z9 := Tw.sizeOf9
  v9 := Tw.zeroValue9
  t37 := Tw.underlying58
  a37 := Tw.isAgg58
  z37 := Tw.sizeOf58
  v37 := Tw.zeroValue58
  t127 := Tw.underlying118
  a127 := Tw.isAgg118
  z127 := Tw.sizeOf118
  v127 := Tw.zeroValue118
  t5 := Tw.underlying5
  a5 := Tw.isAgg5
  z5 := Tw.sizeOf5
  v5 := Tw.zeroValue5
  i0 := by kernel_rfl
  i3 := by kernel_rfl
  i4 := by kernel_rfl
  i5 := by kernel_rfl
  i9 := by kernel_rfl
  i37 := by kernel_rfl
  i127 := by kernel_rfl }
open Go.RowKit in
theorem Tw.stringslite_Clone (s : ByteArray) (w : World) (hlim : s.size ≤ 281474976710656) :
    Calls Tw.prog 83 #[.string s] w fun e w' => e = .returned (.string s) ∧ Below w.heap.size w w' := Any.stringslite_Clone Tw.laysM316 s w hlim
end Go.Proofs
/- Over the twin: the cells as they come out of the channel; what the twin's cells tells. -/
namespace Go.Proofs.YtbkimmbfepjodaaDoorT
set_option maxRecDepth 100000
open Go.RowKit
open Go.Proofs.YtbkimmbfepjodaaDoor (cellV cellsF Rn Tend twin_good tw tw24 cellsT RcReg wp_take wp_shut)

/-- The cells of the first n bytes from byte i on, plain. -/
def cellsK (k n : Nat) : Nat → Nat → List Value
  | 0, _ => []
  | f + 1, i => if i < n then cellV (i : Nat) (min (i + 4) n : Nat) (unitAt k i : Nat) (placeIn k i : Nat) :: cellsK k n f (i + 4) else []
theorem cells_is {s : Int} (hs : schOk s = true) {n : Nat} (hn : n ≤ 32) : ∀ (f i : Nat), i + 4 * f ≤ 60 → cellsF s n f i = cellsK (schK s) n f i
  | 0, _, _ => rfl
  | f + 1, i, h => by
    rw [cellsF, cellsK]
    by_cases e : i < n
    · rw [if_pos e, if_pos e, cells_is hs hn f (i + 4) (by omega)]
      obtain ⟨p1, p2⟩ := Go.Proofs.YtbkimmbfepjodaaDoor.placeX_is (s := s) (i := i) hs (by omega)
      rw [p1, p2]
      rfl
    · rw [if_neg e, if_neg e]
theorem unit_same {k i d : Nat} (hk : k = 2 ∨ k = 3 ∨ k = 4) (h4 : i % 4 = 0) (hd : d < 4) : unitAt k (i + d) = unitAt k i := by
  unfold unitAt
  rcases hk with rfl | rfl | rfl <;> omega
theorem place_same {k i d : Nat} (hk : k = 2 ∨ k = 3 ∨ k = 4) (h4 : i % 4 = 0) (hd : d < 4) : placeIn k (i + d) = placeIn k i + d := by
  unfold placeIn
  rcases hk with rfl | rfl | rfl <;> omega
theorem twRc {ops : Array Oper} {slot pair flag : Nat} (hsz : ops.size = 2) (h0 : (ops[0]?).map (fun o => (o.guard, o.dst, o.op)) = some (none, some pair, .recv 66 (.tmp slot) true)) (h1 : (ops[1]?).map (fun o => (o.guard, o.dst, o.op)) = some (none, some flag, .extract (.tmp pair) 1)) : RcReg Tw.prog ops slot pair flag Go.Proofs.YtbkimmbfepjodaaDoor.z48 := by
  obtain ⟨o, a1, a2, a3, a4⟩ := Go.Proofs.YtbkimmbfepjodaaDoor.of_map h0
  obtain ⟨p, b1, b2, b3, b4⟩ := Go.Proofs.YtbkimmbfepjodaaDoor.of_map h1
  exact ⟨hsz, ⟨o, _, _, _, a1, a2, a3, a4, Go.Proofs.YtbkimmbfepjodaaDoor.run_under Tw.underlying66, Go.Proofs.YtbkimmbfepjodaaDoor.run_zero (P := Tw.prog) Go.Proofs.YtbkimmbfepjodaaDoor.info48z⟩, ⟨p, b1, b2, b3, b4⟩⟩
/-- The twin's cells. -/
theorem twCells (s : Int) (n : Nat) (hn : n ≤ 32) (hs : schOk s = true) (w : World) : Calls Tw.prog 37 #[.int .i64 s, .int .i64 (n : Int)] w fun e w' => e = .returned (.chan (some w.heap.size)) ∧ ∃ m, w' = w.alloc (.chan 32 (cellsK (schK s) n 9 0).toArray true m 0 false) := by
  intro cs
  obtain ⟨fr', w', ⟨q1, q2, q3, q4, q5, m, q6⟩, hr⟩ := twin_good s n hn hs w
  obtain ⟨k, e⟩ := hr cs w.tape
  refine ⟨.returned (.chan (some w.heap.size)), w', fr', ⟨rfl, m, by rw [q6, cells_is hs hn 9 0 (by omega)]⟩, ⟨k, ?_⟩, q1, q2, q3, q4, cellsT, ?_, ?_⟩
  · have e2 : (Go.Proofs.YtbkimmbfepjodaaDoor.Rt w' w.tape) = w' := by rw [q6]; rfl
    rw [e2] at e
    exact e
  · rw [q1]; exact tw24
  · have hr2 : (results cellsT fr'.tmps) = pure (.chan (some w.heap.size)) := by
      rw [← q5]
      simp [-Array.getD_eq_getD_getElem?, results, cellsT]
    rw [hr2]
    rfl
end Go.Proofs.YtbkimmbfepjodaaDoorT
