/- Texts of ours, laid one behind the other: PathM, TreM, UnR, SumM, HexM, SumS, UnM, StrsA, DecM. -/
import Derived.Test.YteaieagkjepgiaaGreatDoorPfM14
import Derived.PlainAid
import Derived.OwnWalk
import Derived.Deep.RegionHeld3
import Derived.Deep.DrawnRows
import Derived.Deep.AppendLies
import Derived.Lib.LaidTab
import Derived.Lib.SmallJoins
import Derived.Deep.QuietTactic
import Derived.BigQuiet
set_option linter.unusedVariables false
set_option linter.unusedSimpArgs false
/- . -/
namespace Go.Proofs.YteaieagkjepgiaaGreatDoor
set_option maxRecDepth 100000
open Go.PlainAid (bt)
end Go.Proofs.YteaieagkjepgiaaGreatDoor
/- . -/
namespace Go.Proofs.YteaieagkjepgiaaGreatDoor
set_option maxRecDepth 100000
end Go.Proofs.YteaieagkjepgiaaGreatDoor
/- . -/
namespace Go.Proofs.YteaieagkjepgiaaGreatDoor
set_option maxRecDepth 100000
open Go.RowKit
attribute [local go_sem ↓] Go.wp_at_zero Go.wp_at_succ
structure UnM where
  group:Int
  index:Int
  text:ByteArray
  sum:Int
instance:Inhabited UnM:=⟨⟨0,0,⟨#[]⟩,0⟩⟩
def unC (f:UnM):List Value:=[.int .i64 f.group,.int .i64 f.index,.string f.text,.int .i64 f.sum]
theorem unC_len (f:UnM):(unC f).length=4:=rfl
def unS (fs:List UnM):List Value:=fs.flatMap unC
abbrev UnRow (w:World) (a:Option Addr) (fs:List UnM):Prop:=CRow w a (unS fs)
def UnFit (f:UnM):Prop:=f.text.size<=9223372036854775807/\(-9223372036854775808<=f.group/\f.group<=9223372036854775807)/\(-9223372036854775808<=f.index/\f.index<=9223372036854775807)/\(-9223372036854775808<=f.sum/\f.sum<=9223372036854775807)
def UnFits (fs:List UnM):Prop:=fs.length<=9223372036854775807/\∀ f ∈ fs,UnFit f
end Go.Proofs.YteaieagkjepgiaaGreatDoor
/- . -/
namespace Go.Proofs.YteaieagkjepgiaaGreatDoor.W
abbrev B32:=BitVec 32
def poly:B32:=3558460437#32
def st (x:B32):B32:=(x >>> 1) ^^^ (if x.getLsbD 0 then poly else 0#32)
def four (x:B32):List UInt8:=[UInt8.ofNat (x.toNat / 16777216),UInt8.ofNat (x.toNat / 65536),UInt8.ofNat (x.toNat / 256),UInt8.ofNat x.toNat]
end Go.Proofs.YteaieagkjepgiaaGreatDoor.W
namespace Go.Proofs.YteaieagkjepgiaaGreatDoor
set_option maxRecDepth 100000
open Go.RowKit
open W (B32)
abbrev u32 (x:B32):Value:=.int .u32 (x.toNat:Int)
end Go.Proofs.YteaieagkjepgiaaGreatDoor
/- . -/
namespace Go.Proofs.YteaieagkjepgiaaGreatDoor.W
open Go.PlainAid (bt)
def hfI (x:Int):Int:=if x<10 then 48+x else 87+x
def hf (n:Nat):UInt8:=UInt8.ofNat (hfI n).toNat
end Go.Proofs.YteaieagkjepgiaaGreatDoor.W
namespace Go.Proofs.YteaieagkjepgiaaGreatDoor
set_option maxRecDepth 100000
open Go.RowKit
open Go.PlainAid (bt)
end Go.Proofs.YteaieagkjepgiaaGreatDoor
/- . -/
namespace Go.Proofs.YteaieagkjepgiaaGreatDoor
set_option maxRecDepth 100000
open Go.RowKit
open W (B32)
open Go.PlainAid (bt)
attribute [local go_sem ↓] Go.wp_at_zero Go.wp_at_succ
def sumTab:List Int:=[0,1166650509,2333301018,3466261911,3189058079,4221339282,889615109,1888477064,3558460437,2442158232,1594529039,444807554,1779230218,797264519,3776954128,2761298845]
abbrev SumTab (w:World):Prop:=Lib.TabIs Tryz.prog w "loop.example/g00197/impl.sumSteps" .u32 sumTab
theorem gSum:Tryz.prog.globalNamed "loop.example/g00197/impl.sumSteps" = some 0:=by kernel_rfl
end Go.Proofs.YteaieagkjepgiaaGreatDoor
/- . -/
namespace Go.Proofs.YteaieagkjepgiaaGreatDoor
set_option maxRecDepth 100000
open Go.RowKit
structure HM where
  id:Int
  up:Bool
  us:List UnM
instance:Inhabited HM:=⟨⟨0,false,[]⟩⟩
end Go.Proofs.YteaieagkjepgiaaGreatDoor
/- . -/
namespace Go.Proofs.YteaieagkjepgiaaGreatDoor
set_option maxRecDepth 100000
open Go.RowKit
end Go.Proofs.YteaieagkjepgiaaGreatDoor
/- . -/
namespace Go.Proofs.YteaieagkjepgiaaGreatDoor.W
def dgF:Nat->Nat->List UInt8
  | 0,_=>[]
  | f+1,n=>if n=0 then [] else dgF f (n / 10)++[UInt8.ofNat (48+n % 10)]
def dg (n:Nat):List UInt8:=dgF n n
def decS (n:Nat):List UInt8:=if n=0 then [48] else dg n
abbrev isFig (c:UInt8):Prop:=48<=c.toNat/\c.toNat<=57
def numV (l:List UInt8):Nat:=l.foldl (fun n c=>10*n+(c.toNat - 48)) 0
def good (p:List UInt8):Prop:=(∀ c ∈ p,isFig c)/\(p=[]\/p=[48]\/(0<numV p/\dg (numV p)=p))
end Go.Proofs.YteaieagkjepgiaaGreatDoor.W
