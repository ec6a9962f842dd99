/- The walks of the sums over bytes. -/
import Derived.Test.YtendbipfmgnjkaaSumM
import Derived.Test.YtendbipfmgnjkaaHexM
import Derived.Deep.RegionHeld3
import Derived.Deep.DrawnRows
import Derived.Deep.AppendLies
import Derived.OwnWalk
import Derived.Lib.LaidTab
import Derived.Lib.SmallJoins
namespace Go.Proofs.Ytendbipfmgnjkaa
set_option maxRecDepth 100000
open Go.RowKit
open W (B32)
open Go.PlainAid (bt)
attribute [local go_sem ↓] Go.wp_at_zero Go.wp_at_succ

def sumTab : List Int := [0, 1166650509, 2333301018, 3466261911, 3189058079, 4221339282, 889615109, 1888477064, 3558460437, 2442158232, 1594529039, 444807554, 1779230218, 797264519, 3776954128, 2761298845]
/-- The table of the sums holds what the program's text lays. -/
abbrev SumTab (w : World) : Prop := Lib.TabIs Try.prog w "loop.example/g00197/impl.sumSteps" .u32 sumTab
/-- The sum of a text. -/
def _root_.Go.Proofs.Ytendbipfmgnjkaa.W.sumOf (s : ByteArray) : B32 := W.crc 4294967295#32 s.data.toList
end Go.Proofs.Ytendbipfmgnjkaa
