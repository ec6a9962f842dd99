/- Texts of ours, laid one behind the other: PathM, TreM, UnR, SumM, HexM, SumS, UnM. -/
import Derived.Test.YtbkimmbfepjodaaDoorPfM14
import Derived.PlainAid
import Derived.OwnWalk
import Derived.Deep.RegionHeld3
import Derived.Deep.DrawnRows
import Derived.Deep.AppendLies
import Derived.Lib.LaidTab
import Derived.Lib.SmallJoins
set_option linter.unusedVariables false
set_option linter.unusedSimpArgs false
/- Paths, plain: names, what lies between slashes, paths and their names. Nothing of the program is read here. -/
namespace Go.Proofs.YtbkimmbfepjodaaDoor
set_option maxRecDepth 100000
open Go.PlainAid (bt)

end Go.Proofs.YtbkimmbfepjodaaDoor
/- Trees, plain: where a node is, right files, right directories, right trees. Nothing of the program is read here. -/
namespace Go.Proofs.YtbkimmbfepjodaaDoor
set_option maxRecDepth 100000

end Go.Proofs.YtbkimmbfepjodaaDoor
/- Rows of Units in the laws: their sizes, their copies, two that are the same (written by gen/mkrow.py). -/
namespace Go.Proofs.YtbkimmbfepjodaaDoor
set_option maxRecDepth 100000
open Go.RowKit
attribute [local go_sem ↓] Go.wp_at_zero Go.wp_at_succ

structure UnM where
  group : Int
  index : Int
  text : ByteArray
  sum : Int
instance : Inhabited UnM := ⟨⟨0, 0, ⟨#[]⟩, 0⟩⟩
def unC (f : UnM) : List Value := [.int .i64 f.group, .int .i64 f.index, .string f.text, .int .i64 f.sum]
theorem unC_len (f : UnM) : (unC f).length = 4 := rfl
def unS (fs : List UnM) : List Value := fs.flatMap unC
/-- A row in memory. -/
abbrev UnRow (w : World) (a : Option Addr) (fs : List UnM) : Prop := CRow w a (unS fs)
def UnFit (f : UnM) : Prop := f.text.size ≤ 9223372036854775807 ∧ (-9223372036854775808 ≤ f.group ∧ f.group ≤ 9223372036854775807) ∧ (-9223372036854775808 ≤ f.index ∧ f.index ≤ 9223372036854775807) ∧ (-9223372036854775808 ≤ f.sum ∧ f.sum ≤ 9223372036854775807)
def UnFits (fs : List UnM) : Prop := fs.length ≤ 9223372036854775807 ∧ ∀ f ∈ fs, UnFit f
end Go.Proofs.YtbkimmbfepjodaaDoor
/- Plain facts on check sums of 32 bits: one step of the sum is told by 'st', a sum over bytes by 'crc', its four bytes by 'four'; nothing of the program is read here. -/
namespace Go.Proofs.YtbkimmbfepjodaaDoor.W
abbrev B32 := BitVec 32
def poly : B32 := 3558460437#32
/-- One step: half of it, and the number when it was odd. -/
def st (x : B32) : B32 := (x >>> 1) ^^^ (if x.getLsbD 0 then poly else 0#32)
/-- The four bytes of a sum, the highest first. -/
def four (x : B32) : List UInt8 := [UInt8.ofNat (x.toNat / 16777216), UInt8.ofNat (x.toNat / 65536), UInt8.ofNat (x.toNat / 256), UInt8.ofNat x.toNat]
end Go.Proofs.YtbkimmbfepjodaaDoor.W
namespace Go.Proofs.YtbkimmbfepjodaaDoor
set_option maxRecDepth 100000
open Go.RowKit
open W (B32)
/-- A sum as the model holds it. -/
abbrev u32 (x : B32) : Value := .int .u32 (x.toNat : Int)
end Go.Proofs.YtbkimmbfepjodaaDoor
/- Plain facts on hexadecimal figures. -/
namespace Go.Proofs.YtbkimmbfepjodaaDoor.W
open Go.PlainAid (bt)

/-- The figure of a number below 16. -/
def hfI (x : Int) : Int := if x < 10 then 48 + x else 87 + x
def hf (n : Nat) : UInt8 := UInt8.ofNat (hfI n).toNat
end Go.Proofs.YtbkimmbfepjodaaDoor.W
namespace Go.Proofs.YtbkimmbfepjodaaDoor
set_option maxRecDepth 100000
open Go.RowKit
open Go.PlainAid (bt)
end Go.Proofs.YtbkimmbfepjodaaDoor
/- The walks of the sums over bytes. -/
namespace Go.Proofs.YtbkimmbfepjodaaDoor
set_option maxRecDepth 100000
open Go.RowKit
open W (B32)
open Go.PlainAid (bt)
attribute [local go_sem ↓] Go.wp_at_zero Go.wp_at_succ

def sumTab : List Int := [0, 1166650509, 2333301018, 3466261911, 3189058079, 4221339282, 889615109, 1888477064, 3558460437, 2442158232, 1594529039, 444807554, 1779230218, 797264519, 3776954128, 2761298845]
/-- The table of the sums holds what the program's text lays. -/
abbrev SumTab (w : World) : Prop := Lib.TabIs Tryd.prog w "loop.example/g00197/impl.sumSteps" .u32 sumTab
theorem gSum : Tryd.prog.globalNamed "loop.example/g00197/impl.sumSteps" = some 0 := by kernel_rfl
end Go.Proofs.YtbkimmbfepjodaaDoor
/- Hosts and units, plain: what each function of the chapter answers. -/
namespace Go.Proofs.YtbkimmbfepjodaaDoor
set_option maxRecDepth 100000
open Go.RowKit

/-- A host. -/
structure HM where
  id : Int
  up : Bool
  us : List UnM
instance : Inhabited HM := ⟨⟨0, false, []⟩⟩
end Go.Proofs.YtbkimmbfepjodaaDoor
