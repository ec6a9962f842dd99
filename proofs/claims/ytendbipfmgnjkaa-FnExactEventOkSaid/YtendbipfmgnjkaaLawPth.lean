/- The walks of the exact laws over paths, over what is told of the program's own functions at every argument (first written by gen/mklawpath.py). -/
import Derived.Test.YtendbipfmgnjkaaPathC
import Derived.Test.YtendbipfmgnjkaaOffB
namespace Go.Proofs.Ytendbipfmgnjkaa
set_option maxRecDepth 100000
open Go.RowKit
attribute [local irreducible] nameB splitB joinB parentB tsum

/-- What an answer of texts and a flag is. -/
def TPost9 (R : List ByteArray × Bool) (w : World) (e : Ending) (w' : World) : Prop := ∃ v, e = .returned (.tuple #[v, .bool R.2]) ∧ OAns w' v R.1 w.heap.size w'.heap.size ∧ Below w.heap.size w w'
theorem OPost.tp {R : List ByteArray × Bool} {w w' : World} {e : Ending} (h : OPost R w e w') : TPost9 R w e w' := by
  obtain ⟨v, he, ho, hb⟩ := h
  exact ⟨v, he, (own_sans rfl ho).oans, hb⟩
theorem QPost.tp {R : List ByteArray × Bool} {w w' : World} {e : Ending} (h : QPost R w e w') : TPost9 R w e w' := by
  obtain ⟨v, he, ho, hb⟩ := h
  exact ⟨v, he, ho.oans, hb⟩
theorem same_toList (x : ByteArray) : (x.toList != x.toList) = false := by simp
end Go.Proofs.Ytendbipfmgnjkaa
