/- Copies of trees. -/
import Derived.Test.YtendbipfmgnjkaaTreD
namespace Go.Proofs.Ytendbipfmgnjkaa
set_option maxRecDepth 100000
open Go.RowKit
attribute [local go_sem ↓] Go.wp_at_zero Go.wp_at_succ

end Go.Proofs.Ytendbipfmgnjkaa
