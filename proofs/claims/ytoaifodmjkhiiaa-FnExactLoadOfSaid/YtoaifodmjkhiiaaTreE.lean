/- Copies of trees. -/
import Derived.Test.YtoaifodmjkhiiaaTreD
namespace Go.Proofs.Ytoaifodmjkhiiaa
set_option maxRecDepth 100000
open Go.RowKit
attribute [local go_sem ↓] Go.wp_at_zero Go.wp_at_succ

end Go.Proofs.Ytoaifodmjkhiiaa
