/- Trees that came in: how much there is in one. -/
import Derived.Test.YtendbipfmgnjkaaTreA
namespace Go.Proofs.Ytendbipfmgnjkaa
set_option maxRecDepth 100000
open Go.RowKit
attribute [local go_sem ↓] Go.wp_at_zero Go.wp_at_succ

/-- What a measure answers. -/
def SzT (left : Int) (n : Nat) (w : World) (e : Ending) (w' : World) : Prop := ∃ r : Int, e = .returned (.int .i64 r) ∧ -1 ≤ r ∧ (0 ≤ r → r + n = left) ∧ Below w.heap.size w w'
/-- Numbers of nodes are numbers of the machine. -/
def NInt (ns : List NM) : Prop := ∀ n ∈ ns, (Lit.int .i64 n.id).wf = true ∧ (Lit.int .i64 n.parent).wf = true
/-- Nodes whose texts and rows a machine can count. -/
def NOk (ns : List NM) : Prop := ns.length ≤ 9223372036854775807 ∧ ∀ n ∈ ns, n.name.size ≤ 9223372036854775807 ∧ n.pieces.length ≤ 9223372036854775807
end Go.Proofs.Ytendbipfmgnjkaa
