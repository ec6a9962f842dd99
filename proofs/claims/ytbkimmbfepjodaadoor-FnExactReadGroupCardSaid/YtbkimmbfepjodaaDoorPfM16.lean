/- Texts of ours, laid one behind the other: StrsA, DecM, Dec, StrsB, MemA, UnRm, SlG, HoA, HsM. -/
import Derived.Test.YtbkimmbfepjodaaDoorPfM15
import Derived.Deep.QuietTactic
import Derived.BigQuiet
import Derived.PlainAid
import Derived.Deep.LoopGhost
import Derived.Deep.RegionHeld3
import Derived.Deep.DrawnRows
import Derived.Deep.CutRange
set_option linter.unusedVariables false
set_option linter.unusedSimpArgs false
/- Slices of strings: how they are held against each other. -/
namespace Go.Proofs.YtbkimmbfepjodaaDoor
set_option maxRecDepth 100000
open Go.RowKit

end Go.Proofs.YtbkimmbfepjodaaDoor
/- Plain facts on figures: 'dg n' are the figures of n (none of 0), 'decS n' those that Decimal writes; the two ways of reading them back are one. -/
namespace Go.Proofs.YtbkimmbfepjodaaDoor.W

def dgF : Nat → Nat → List UInt8
  | 0, _ => []
  | f + 1, n => if n = 0 then [] else dgF f (n / 10) ++ [UInt8.ofNat (48 + n % 10)]
def dg (n : Nat) : List UInt8 := dgF n n
def decS (n : Nat) : List UInt8 := if n = 0 then [48] else dg n
abbrev isFig (c : UInt8) : Prop := 48 ≤ c.toNat ∧ c.toNat ≤ 57
def numV (l : List UInt8) : Nat := l.foldl (fun n c => 10 * n + (c.toNat - 48)) 0
/-- Figures read so far, with no needless nought. -/
def good (p : List UInt8) : Prop := (∀ c ∈ p, isFig c) ∧ (p = [] ∨ p = [48] ∨ (0 < numV p ∧ dg (numV p) = p))
end Go.Proofs.YtbkimmbfepjodaaDoor.W
/- The walks of the models' Decimal, and of the two ReadDecimal. -/
namespace Go.Proofs.YtbkimmbfepjodaaDoor
set_option maxRecDepth 100000
open Go.RowKit
open Go.PlainAid (bt)

end Go.Proofs.YtbkimmbfepjodaaDoor
/- Slices of strings: marks that are laid into one, and found again. -/
namespace Go.Proofs.YtbkimmbfepjodaaDoor
set_option maxRecDepth 100000
open Go.RowKit
attribute [local go_sem ↓] Go.wp_at_zero Go.wp_at_succ

/-- The text of a mark. -/
def mt (k : Nat) : ByteArray := (⟨#[109]⟩ : ByteArray) ++ ⟨(W.decS k).toArray⟩

/-- Marks from k on. -/
def marks (k n : Nat) : List ByteArray := (List.range n).map fun j => mt (k + j)
end Go.Proofs.YtbkimmbfepjodaaDoor
/- What lies in memory through a law: boxes, and rows of their own. -/
namespace Go.Proofs.YtbkimmbfepjodaaDoor
set_option maxRecDepth 100000
open Go.RowKit

end Go.Proofs.YtbkimmbfepjodaaDoor
/- Rows of Units: marks that are laid into one, and found again (written by gen/mkflat.py). -/
namespace Go.Proofs.YtbkimmbfepjodaaDoor
set_option maxRecDepth 100000
open Go.RowKit
attribute [local go_sem ↓] Go.wp_at_zero Go.wp_at_succ

end Go.Proofs.YtbkimmbfepjodaaDoor
/- Stretches of memory: what lies in each, all apart; what is put into one leaves the others as they are. -/
namespace Go.Proofs.YtbkimmbfepjodaaDoor
set_option maxRecDepth 100000
open Go.RowKit

/-- Something that lies in the blocks from lo to hi. -/
structure Str where
  p : World → Prop
  lo : Nat
  hi : Nat
section
variable {w0 W W' : World} {S : List Str} {s t : Str}
end
end Go.Proofs.YtbkimmbfepjodaaDoor
/- Hosts in memory, and in the laws: sizes, copies, two that are the same, marks. -/
namespace Go.Proofs.YtbkimmbfepjodaaDoor
set_option maxRecDepth 100000
open Go.RowKit
attribute [local go_sem ↓] Go.wp_at_zero Go.wp_at_succ

/-- A host's value: its units in a row. -/
abbrev hov (H : HM) (a : Option Addr) (cap : Nat) : Value := .agg #[.int .i64 H.id, .bool H.up, .slice a H.us.length cap]
end Go.Proofs.YtbkimmbfepjodaaDoor
/- Rows of hosts in memory: one that is read, one that may be written. -/
namespace Go.Proofs.YtbkimmbfepjodaaDoor
set_option maxRecDepth 100000
open Go.RowKit

/-- A host, and where its units lie. -/
structure HoR where
  h : HM
  loc : Option Addr
  cap : Nat
instance : Inhabited HoR := ⟨⟨default, none, 0⟩⟩
def hC (r : HoR) : List Value := [.int .i64 r.h.id, .bool r.h.up, .slice r.loc r.h.us.length r.cap]
theorem hC_len (r : HoR) : (hC r).length = 3 := rfl
def HK : NK HoR := ⟨hC, 3, hC_len, HoR.loc, fun r => unS r.h.us⟩
def hS (rs : List HoR) : List Value := HK.cells rs
theorem hS_len (rs : List HoR) : (hS rs).length = rs.length * 3 := HK.cells_len rs
def hms (rs : List HoR) : List HM := rs.map HoR.h
theorem hms_len (rs : List HoR) : (hms rs).length = rs.length := by simp [hms]
/-- A row of hosts, as it is read. -/
def HsRow (w : World) (a : Option Addr) (rs : List HoR) : Prop := CRow w a (hS rs) ∧ ∀ r ∈ rs, UnRow w r.loc r.h.us
def HsFits (hs : List HM) : Prop := hs.length ≤ 9223372036854775807 ∧ ∀ h ∈ hs, UnFits h.us ∧ -9223372036854775808 ≤ h.id ∧ h.id ≤ 9223372036854775807
end Go.Proofs.YtbkimmbfepjodaaDoor
