/-
  DERIVED. GIVEN WITH THE SEED: THE CARDS: each row of YtbkimmbfepjodaaDoorRows.lean that lists a variable, with what it lists TIED to the program's text (the seventh form; the later family's looks); each row that meets fmt, with fmt's text TOLD by the authors' own Lean function (tested against real Go, not proved from fmt's source: count such statements apart). THE CARD IS WHAT COUNTS. Prove the row's statement (the work); the ties are given (YtbkimmbfepjodaaDoorTie.lean); close each card by the builder's one call (the guide's Derived/Test/ToyasCard.lean, 'card_holds'). Laid BY PROGRAM, IN A SANDBOX (cutbox-door.mjs). By AI agents, Wed Nov 11 2026. No macro, syntax, notation, axiom, sorry.
-/
import Derived.Test.YtbkimmbfepjodaaDoorRows
import GoSem.ClaimSeven
namespace Go.Proofs.YtbkimmbfepjodaaDoor
namespace Rows

/-- THE TIED CARD OF 'laws.FnExactReadGroup'. -/
def fnExactReadGroupCard : Claim7 := { stood := { row := fnExactReadGroupRow, standIns := [], harness := (true, "2505381f93f7e74070694ae8223253a5b6f33d2030334fe782730337137be939"), looks := false }, kinds := [], alts := [], goes := true, laidByText := true, laidKinds := [.data], laidTests := true, laidLooks := .later }
def FnExactReadGroupCardSaid : Prop := Claim7.holds Tryd.pinned (.plain (OpenSpec.ofChange fnExactReadGroupSpec)) fnExactReadGroupCard

/-- THE SECOND FORM's CARD OF 'laws.FnExactReadGroup'. -/
def fnExactReadGroupUptoCard : Claim7 := { stood := { row := fnExactReadGroupUptoRow, standIns := [], harness := (true, "2505381f93f7e74070694ae8223253a5b6f33d2030334fe782730337137be939"), looks := false }, kinds := [], alts := [], goes := true, laidByText := true, laidKinds := [.data], laidTests := true, laidLooks := .later }
def FnExactReadGroupUptoCardSaid : Prop := Claim7.holds Tryd.pinned (.plain (OpenSpec.upto fnExactReadGroupSpec)) fnExactReadGroupUptoCard
end Rows
end Go.Proofs.YtbkimmbfepjodaaDoor
