/-
  DERIVED. GIVEN WITH THE SEED: THE CARDS: each row of YtoaifodmjkhiiaaDoorRows.lean that lists a variable, with what it lists TIED to the program's text (the seventh form; the later family's looks); each row that meets fmt, with fmt's text TOLD by the authors' own Lean function (tested against real Go, not proved from fmt's source: count such statements apart). THE CARD IS WHAT COUNTS. Prove the row's statement (the work); the ties are given (YtoaifodmjkhiiaaDoorTie.lean); close each card by the builder's one call (the guide's Derived/Test/ToyasCard.lean, 'card_holds'). Laid BY PROGRAM, IN A SANDBOX (cutbox-door.mjs). By AI agents, Wed Nov 11 2026. No macro, syntax, notation, axiom, sorry.
-/
import Derived.Test.YtoaifodmjkhiiaaDoorRows
import GoSem.ClaimSeven
namespace Go.Proofs.YtoaifodmjkhiiaaDoor
namespace Rows

/-- THE TIED CARD OF 'laws.FnExactUnitsOf'. -/
def fnExactUnitsOfCard : Claim7 := { stood := { row := fnExactUnitsOfRow, standIns := [], harness := (true, "e646b627ba71aa29dc2860d374ca34a1158253ce917390eb203f2f46025d7310"), looks := false }, kinds := [], alts := [], laidByText := true, laidKinds := [.data], laidTests := true, laidLooks := .later }
def FnExactUnitsOfCardSaid : Prop := Claim7.holds Tryd.pinned (.plain (OpenSpec.ofChange fnExactUnitsOfSpec)) fnExactUnitsOfCard

/-- THE TIED CARD OF 'laws.FnExactLeftOf'. -/
def fnExactLeftOfCard : Claim7 := { stood := { row := fnExactLeftOfRow, standIns := [], harness := (true, "e646b627ba71aa29dc2860d374ca34a1158253ce917390eb203f2f46025d7310"), looks := false }, kinds := [], alts := [], laidByText := true, laidKinds := [.data], laidTests := true, laidLooks := .later }
def FnExactLeftOfCardSaid : Prop := Claim7.holds Tryd.pinned (.plain (OpenSpec.ofChange fnExactLeftOfSpec)) fnExactLeftOfCard

/-- THE TIED CARD OF 'laws.FnUnitsOf'. -/
def fnUnitsOfCard : Claim7 := { stood := { row := fnUnitsOfRow, standIns := [], harness := (true, "e646b627ba71aa29dc2860d374ca34a1158253ce917390eb203f2f46025d7310"), looks := false }, kinds := [], alts := [], laidByText := true, laidKinds := [.data], laidTests := true, laidLooks := .later }
def FnUnitsOfCardSaid : Prop := Claim7.holds Tryd.pinned (.plain (OpenSpec.ofChange fnUnitsOfSpec)) fnUnitsOfCard

/-- THE SECOND FORM's CARD OF 'laws.FnExactUnitsOf'. -/
def fnExactUnitsOfUptoCard : Claim7 := { stood := { row := fnExactUnitsOfUptoRow, standIns := [], harness := (true, "e646b627ba71aa29dc2860d374ca34a1158253ce917390eb203f2f46025d7310"), looks := false }, kinds := [], alts := [], laidByText := true, laidKinds := [.data], laidTests := true, laidLooks := .later }
def FnExactUnitsOfUptoCardSaid : Prop := Claim7.holds Tryd.pinned (.plain (OpenSpec.upto fnExactUnitsOfSpec)) fnExactUnitsOfUptoCard

/-- THE SECOND FORM's CARD OF 'laws.FnExactLeftOf'. -/
def fnExactLeftOfUptoCard : Claim7 := { stood := { row := fnExactLeftOfUptoRow, standIns := [], harness := (true, "e646b627ba71aa29dc2860d374ca34a1158253ce917390eb203f2f46025d7310"), looks := false }, kinds := [], alts := [], laidByText := true, laidKinds := [.data], laidTests := true, laidLooks := .later }
def FnExactLeftOfUptoCardSaid : Prop := Claim7.holds Tryd.pinned (.plain (OpenSpec.upto fnExactLeftOfSpec)) fnExactLeftOfUptoCard

/-- THE SECOND FORM's CARD OF 'laws.FnUnitsOf'. -/
def fnUnitsOfUptoCard : Claim7 := { stood := { row := fnUnitsOfUptoRow, standIns := [], harness := (true, "e646b627ba71aa29dc2860d374ca34a1158253ce917390eb203f2f46025d7310"), looks := false }, kinds := [], alts := [], laidByText := true, laidKinds := [.data], laidTests := true, laidLooks := .later }
def FnUnitsOfUptoCardSaid : Prop := Claim7.holds Tryd.pinned (.plain (OpenSpec.upto fnUnitsOfSpec)) fnUnitsOfUptoCard
end Rows
end Go.Proofs.YtoaifodmjkhiiaaDoor
