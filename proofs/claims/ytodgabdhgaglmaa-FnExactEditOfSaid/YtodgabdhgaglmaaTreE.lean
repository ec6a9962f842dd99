/- Copies of trees. -/
import Derived.Test.YtodgabdhgaglmaaTreD
namespace Go.Proofs.Ytodgabdhgaglmaa
set_option maxRecDepth 100000
open Go.RowKit
attribute [local go_sem ↓] Go.wp_at_zero Go.wp_at_succ

end Go.Proofs.Ytodgabdhgaglmaa
