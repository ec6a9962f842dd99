/-
  DERIVED. GIVEN WITH THE SEED: THE CARDS: each row of YtbanfccnmbmcfaaDoorRows.lean that lists a variable, with what it lists TIED to the program's text (the seventh form; the later family's looks); each row that meets fmt, with fmt's text TOLD by the authors' own Lean function (tested against real Go, not proved from fmt's source: count such statements apart). THE CARD IS WHAT COUNTS. Prove the row's statement (the work); the ties are given (YtbanfccnmbmcfaaDoorTie.lean); close each card by the builder's one call (the guide's Derived/Test/ToyasCard.lean, 'card_holds'). Laid BY PROGRAM, IN A SANDBOX (cutbox-door.mjs). By AI agents, Wed Nov 11 2026. No macro, syntax, notation, axiom, sorry.
-/
import Derived.Test.YtbanfccnmbmcfaaDoorRows
import GoSem.ClaimSeven
namespace Go.Proofs.YtbanfccnmbmcfaaDoor
namespace Rows

/-- THE TIED CARD OF 'laws.FnUnits'. -/
def fnUnitsCard : Claim7 := { stood := { row := fnUnitsRow, standIns := [], harness := (true, "5d6036803fa233903991d16497769aefa3bba174fda099f71489aeb1073f40c2"), looks := false }, kinds := [], alts := [], laidByText := true, laidKinds := [.data], laidTests := true, laidLooks := .later }
def FnUnitsCardSaid : Prop := Claim7.holds Tryd.pinned (.plain (OpenSpec.ofChange fnUnitsSpec)) fnUnitsCard

/-- THE TIED CARD OF 'laws.FnExactSumText'. -/
def fnExactSumTextCard : Claim7 := { stood := { row := fnExactSumTextRow, standIns := [], harness := (true, "5d6036803fa233903991d16497769aefa3bba174fda099f71489aeb1073f40c2"), looks := false }, kinds := [], alts := [], laidByText := true, laidKinds := [.data], laidTests := true, laidLooks := .later }
def FnExactSumTextCardSaid : Prop := Claim7.holds Tryd.pinned (.plain (OpenSpec.ofChange fnExactSumTextSpec)) fnExactSumTextCard

/-- THE TIED CARD OF 'laws.FnExactPutUnit'. -/
def fnExactPutUnitCard : Claim7 := { stood := { row := fnExactPutUnitRow, standIns := [], harness := (true, "5d6036803fa233903991d16497769aefa3bba174fda099f71489aeb1073f40c2"), looks := false }, kinds := [], alts := [], laidByText := true, laidKinds := [.data], laidTests := true, laidLooks := .later }
def FnExactPutUnitCardSaid : Prop := Claim7.holds Tryd.pinned (.plain (OpenSpec.ofChange fnExactPutUnitSpec)) fnExactPutUnitCard

/-- THE TIED CARD OF 'laws.FnExactGetUnit'. -/
def fnExactGetUnitCard : Claim7 := { stood := { row := fnExactGetUnitRow, standIns := [], harness := (true, "5d6036803fa233903991d16497769aefa3bba174fda099f71489aeb1073f40c2"), looks := false }, kinds := [], alts := [], laidByText := true, laidKinds := [.data], laidTests := true, laidLooks := .later }
def FnExactGetUnitCardSaid : Prop := Claim7.holds Tryd.pinned (.plain (OpenSpec.ofChange fnExactGetUnitSpec)) fnExactGetUnitCard

/-- THE TIED CARD OF 'laws.FnExactSpoil'. -/
def fnExactSpoilCard : Claim7 := { stood := { row := fnExactSpoilRow, standIns := [], harness := (true, "5d6036803fa233903991d16497769aefa3bba174fda099f71489aeb1073f40c2"), looks := false }, kinds := [], alts := [], laidByText := true, laidKinds := [.data], laidTests := true, laidLooks := .later }
def FnExactSpoilCardSaid : Prop := Claim7.holds Tryd.pinned (.plain (OpenSpec.ofChange fnExactSpoilSpec)) fnExactSpoilCard

/-- THE SECOND FORM's CARD OF 'laws.FnUnits'. -/
def fnUnitsUptoCard : Claim7 := { stood := { row := fnUnitsUptoRow, standIns := [], harness := (true, "5d6036803fa233903991d16497769aefa3bba174fda099f71489aeb1073f40c2"), looks := false }, kinds := [], alts := [], laidByText := true, laidKinds := [.data], laidTests := true, laidLooks := .later }
def FnUnitsUptoCardSaid : Prop := Claim7.holds Tryd.pinned (.plain (OpenSpec.upto fnUnitsSpec)) fnUnitsUptoCard

/-- THE SECOND FORM's CARD OF 'laws.FnExactSumText'. -/
def fnExactSumTextUptoCard : Claim7 := { stood := { row := fnExactSumTextUptoRow, standIns := [], harness := (true, "5d6036803fa233903991d16497769aefa3bba174fda099f71489aeb1073f40c2"), looks := false }, kinds := [], alts := [], laidByText := true, laidKinds := [.data], laidTests := true, laidLooks := .later }
def FnExactSumTextUptoCardSaid : Prop := Claim7.holds Tryd.pinned (.plain (OpenSpec.upto fnExactSumTextSpec)) fnExactSumTextUptoCard

/-- THE SECOND FORM's CARD OF 'laws.FnExactPutUnit'. -/
def fnExactPutUnitUptoCard : Claim7 := { stood := { row := fnExactPutUnitUptoRow, standIns := [], harness := (true, "5d6036803fa233903991d16497769aefa3bba174fda099f71489aeb1073f40c2"), looks := false }, kinds := [], alts := [], laidByText := true, laidKinds := [.data], laidTests := true, laidLooks := .later }
def FnExactPutUnitUptoCardSaid : Prop := Claim7.holds Tryd.pinned (.plain (OpenSpec.upto fnExactPutUnitSpec)) fnExactPutUnitUptoCard

/-- THE SECOND FORM's CARD OF 'laws.FnExactGetUnit'. -/
def fnExactGetUnitUptoCard : Claim7 := { stood := { row := fnExactGetUnitUptoRow, standIns := [], harness := (true, "5d6036803fa233903991d16497769aefa3bba174fda099f71489aeb1073f40c2"), looks := false }, kinds := [], alts := [], laidByText := true, laidKinds := [.data], laidTests := true, laidLooks := .later }
def FnExactGetUnitUptoCardSaid : Prop := Claim7.holds Tryd.pinned (.plain (OpenSpec.upto fnExactGetUnitSpec)) fnExactGetUnitUptoCard

/-- THE SECOND FORM's CARD OF 'laws.FnExactSpoil'. -/
def fnExactSpoilUptoCard : Claim7 := { stood := { row := fnExactSpoilUptoRow, standIns := [], harness := (true, "5d6036803fa233903991d16497769aefa3bba174fda099f71489aeb1073f40c2"), looks := false }, kinds := [], alts := [], laidByText := true, laidKinds := [.data], laidTests := true, laidLooks := .later }
def FnExactSpoilUptoCardSaid : Prop := Claim7.holds Tryd.pinned (.plain (OpenSpec.upto fnExactSpoilSpec)) fnExactSpoilUptoCard
end Rows
end Go.Proofs.YtbanfccnmbmcfaaDoor
