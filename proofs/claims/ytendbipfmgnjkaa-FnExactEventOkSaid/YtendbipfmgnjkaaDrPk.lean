/- A text that is picked out of a row is one of it. -/
import Derived.Test.YtendbipfmgnjkaaDrawP
namespace Go.Proofs.Ytendbipfmgnjkaa
set_option maxRecDepth 100000
open Go.RowKit
attribute [local go_sem ↓] Go.wp_at_zero Go.wp_at_succ

/-- No byte of it is a z. -/
def noZ (t : ByteArray) : Bool := t.data.toList.all (· != 122)
theorem noZ_app (a b : ByteArray) : noZ (a ++ b) = (noZ a && noZ b) := by unfold noZ; rw [ByteArray.toList_data_append, List.all_append]
def PickPostS (P : ByteArray → Prop) (w : World) (g B : Nat) (a : Option Addr) (len cap : Nat) (e : Ending) (w' : World) : Prop :=
  ∃ x : ByteArray, e = .returned (.string x) ∧ P x ∧ Cur w' g B a len cap ∧ w.grownBy w' (some g)
/-- Texts that were laid into a new row. -/
theorem new_texts (w : World) (t : TypeId) (P : ByteArray → Prop) (L : List ByteArray) (h : ∀ y ∈ L, P y) (j : Nat) (hj : j < L.length) :
    ∃ y : ByteArray, (w.alloc (.cells (L.map Value.string).toArray t)).cell? ⟨w.heap.size, j, none⟩ = some (.string y) ∧ P y := by
  rw [World.cell?_alloc_mark]
  exact ⟨L[j], by simp [hj], h _ (List.getElem_mem hj)⟩
end Go.Proofs.Ytendbipfmgnjkaa
