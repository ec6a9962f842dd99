/-
  DERIVED. GIVEN WITH THE SEED: THE CARDS: each row of YteaieagkjepgiaaGreatDoorRows.lean that lists a variable, with what it lists TIED to the program's text (the seventh form; the later family's looks); each row that meets fmt, with fmt's text TOLD by the authors' own Lean function (tested against real Go, not proved from fmt's source: count such statements apart). THE CARD IS WHAT COUNTS. Prove the row's statement (the work); the ties are given (YteaieagkjepgiaaGreatDoorTie.lean); close each card by the builder's one call (the guide's Derived/Test/ToyasCard.lean, 'card_holds'). Laid BY PROGRAM, IN A SANDBOX (cutbox-door.mjs). By AI agents, Wed Nov 11 2026. No macro, syntax, notation, axiom, sorry.
-/
import Derived.Test.YteaieagkjepgiaaGreatDoorRows
import GoSem.ClaimSeven
namespace Go.Proofs.YteaieagkjepgiaaGreatDoor
namespace Rows

/-- THE TIED CARD OF 'laws.FnExactWriteGroup'. -/
def fnExactWriteGroupCard : Claim7 := { stood := { row := fnExactWriteGroupRow, standIns := [], harness := (true, "c4d533a30f670bf7ebfc027892ba723f822120aa6cf3c10652a85e94e71b5f7c"), looks := true }, kinds := [], alts := [], goes := true, laidByText := true, laidKinds := [.data], laidTests := true, laidLooks := .later }
def FnExactWriteGroupCardSaid : Prop := Claim7.holds Tryz.pinned (.plain (OpenSpec.ofChange fnExactWriteGroupSpec)) fnExactWriteGroupCard

/-- THE SECOND FORM's CARD OF 'laws.FnExactWriteGroup'. -/
def fnExactWriteGroupUptoCard : Claim7 := { stood := { row := fnExactWriteGroupUptoRow, standIns := [], harness := (true, "c4d533a30f670bf7ebfc027892ba723f822120aa6cf3c10652a85e94e71b5f7c"), looks := true }, kinds := [], alts := [], goes := true, laidByText := true, laidKinds := [.data], laidTests := true, laidLooks := .later }
def FnExactWriteGroupUptoCardSaid : Prop := Claim7.holds Tryz.pinned (.plain (OpenSpec.upto fnExactWriteGroupSpec)) fnExactWriteGroupUptoCard
end Rows
end Go.Proofs.YteaieagkjepgiaaGreatDoor
