/- Records that came in, and what the laws do with them: their size, a copy, a comparison. -/
import Derived.Test.YtendbipfmgnjkaaEdA
import Derived.Test.YtendbipfmgnjkaaOpenM
namespace Go.Proofs.Ytendbipfmgnjkaa
set_option maxRecDepth 100000
open Go.RowKit Go.Deep Go.ChangeShapes Go.WideShapes
attribute [local go_sem ↓] Go.wp_at_zero Go.wp_at_succ

/-- A record whose numbers are the machine's, and whose texts it can count. -/
def EdFit (e : EM) : Prop := e.path.size ≤ 9223372036854775807 ∧ e.dest.size ≤ 9223372036854775807 ∧ (Lit.int .i64 e.kind).wf = true ∧ (Lit.int .i64 e.num).wf = true ∧ (Lit.int .i64 e.who).wf = true
theorem cells_intE : Try.prog.cellsOf 3 = 1 := by kernel_rfl
theorem cells_strE : Try.prog.cellsOf 9 = 1 := by kernel_rfl
end Go.Proofs.Ytendbipfmgnjkaa
