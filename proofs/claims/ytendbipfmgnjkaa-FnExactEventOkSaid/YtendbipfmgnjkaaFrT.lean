/- The laws' own comparison of two rows of texts. -/
import Derived.Test.YtendbipfmgnjkaaStrsA
namespace Go.Proofs.Ytendbipfmgnjkaa
set_option maxRecDepth 100000
open Go.RowKit

end Go.Proofs.Ytendbipfmgnjkaa
