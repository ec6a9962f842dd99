/- Texts of ours, laid one behind the other: TGrwB, TGrwC, TGrwD, TGrwE, TSpM, TUnP, THpA, THpB. -/
import Derived.Test.YtbkimmbfepjodaaDoorPfT15
import Derived.BigQuiet
import Derived.OrdersHeld
import Derived.Handy
import Derived.Laws.MakeOwn
import Derived.Deep.AppendLies
set_option linter.unusedVariables false
set_option linter.unusedSimpArgs false
/- A region that draws its order, some of whose operations make memory: what answers one value in every later world is taken first, calls that only make memory too. The way of the proof is that of the library's Derived.OrdersHeld, which is imported; the class of worlds is ours. -/
namespace Go.Proofs.YtbkimmbfepjodaaDoorT
set_option maxRecDepth 100000
open Go.RowKit

/-- A later world: more memory, what was there untouched. -/
def Later (w w' : World) : Prop := Below w.heap.size w w'
theorem Later.refl (w : World) : Later w w := Below.refl _ _
section
variable {P : Program} {ops : Array Oper} {Q : Exit → Act → World → Prop} {md : Region.Mode}
end
section
variable {P : Program} {Q : Exit → Act → World → Prop} {md : Region.Mode}
end
section
variable {P : Program} {Q : Exit → Act → World → Prop} {md : Region.Mode}
end
end Go.Proofs.YtbkimmbfepjodaaDoorT
/- A region that draws its order and ends in stores: all that comes ahead of its last operations is taken as in a region that only makes memory; then the last ones, in whatever order. -/
namespace Go.Proofs.YtbkimmbfepjodaaDoorT
set_option maxRecDepth 100000
open Go.RowKit
section
variable {P : Program} {ops : Array Oper} {Q : Exit → Act → World → Prop} {md : Region.Mode} {m : Nat}
end
section
variable {P : Program} {Q : Exit → Act → World → Prop} {md : Region.Mode} {m : Nat}
end
end Go.Proofs.YtbkimmbfepjodaaDoorT
/- As GrwC, with any set of last operations; pure values among them are taken ahead (written by gen/mkgrwd.py). -/
namespace Go.Proofs.YtbkimmbfepjodaaDoorT
set_option maxRecDepth 100000
open Go.RowKit
section
variable {P : Program} {ops : Array Oper} {Q : Exit → Act → World → Prop} {md : Region.Mode} {tl : Nat → Bool}
end
section
variable {P : Program} {Q : Exit → Act → World → Prop} {md : Region.Mode} {tl : Nat → Bool}
end
end Go.Proofs.YtbkimmbfepjodaaDoorT
/- A region that draws its order, behind its last free operation: one alone may come up at a time: a call, or a value of the memory as it is. -/
namespace Go.Proofs.YtbkimmbfepjodaaDoorT
set_option maxRecDepth 100000
open Go.RowKit
section
variable {P : Program} {Q : Exit → Act → World → Prop} {md : Region.Mode}
end
end Go.Proofs.YtbkimmbfepjodaaDoorT
/- The model's DropUnit (written by gen/mkdrop.py). -/
namespace Go.Proofs.YtbkimmbfepjodaaDoorT
set_option maxRecDepth 100000
open Go.RowKit BigFrame
attribute [local go_sem ↓] Go.wp_at_zero Go.wp_at_succ

end Go.Proofs.YtbkimmbfepjodaaDoorT
/- Units that go up by their keys, plain: what is put lies in its place; what is put is got, until it is spoilt or gone; all others stay. -/
namespace Go.Proofs.YtbkimmbfepjodaaDoorT
set_option maxRecDepth 100000
open Go.RowKit

def keyIs (g i : Int) (u : UnM) : Bool := u.group == g && u.index == i
end Go.Proofs.YtbkimmbfepjodaaDoorT
/- The program's own: one unit held against another; units and hosts that are right (written by gen/mkhpa.py). -/
namespace Go.Proofs.YtbkimmbfepjodaaDoorT
set_option maxRecDepth 100000
open Go.RowKit BigFrame
attribute [local go_sem ↓] Go.wp_at_zero Go.wp_at_succ

end Go.Proofs.YtbkimmbfepjodaaDoorT
/- The program's own copyHost (written by gen/mkhpb.py). -/
namespace Go.Proofs.YtbkimmbfepjodaaDoorT
set_option maxRecDepth 100000
open Go.RowKit BigFrame
attribute [local go_sem ↓] Go.wp_at_zero Go.wp_at_succ

end Go.Proofs.YtbkimmbfepjodaaDoorT
