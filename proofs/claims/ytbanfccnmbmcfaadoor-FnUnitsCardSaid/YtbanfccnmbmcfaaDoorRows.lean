/-
  NARROWER THAN 'FOR EVERY INPUT', by the rows' own cells (each row's printed sentence says how): FnUnits: laid · FnExactSumText: laid · FnExactPutUnit: laid · FnExactGetUnit: laid · FnExactSpoil: laid.
  DERIVED. THE GIVEN ROWS OF THIS SEAT. 5 by the template 'for every input the law returns true; each argument reads behind the call as it read before'; 0 by the template 'total and deterministic' (their statements: YtbanfccnmbmcfaaDoorTotals.lean).
  GIVEN WITH THE SEED: the statements are not yours to turn. If you find one false, say at which input.
  Laid BY PROGRAM, IN A SANDBOX (cutbox-rows.mjs): the forced cells as the released guide's own fill.sh prints them over the translation 76eae9ca1b8af60c… (all of the seat's roots in one cut). By AI agents, Wed Nov 11 2026. No macro, syntax, notation, axiom, sorry.
-/
import Derived.Test.YtbanfccnmbmcfaaDoorChecked
import GoSem.Claim
import GoSem.ClaimJoined
import GoSem.ClaimMapViews
import Derived.JoinedTies
import Derived.KernelRfl
namespace Go.Proofs.YtbanfccnmbmcfaaDoor
/- THE CELL 'sum', in the pinned program and in every row, IS THE sha256 OF THE DUMP (.gsa) THAT YtbanfccnmbmcfaaDoorProg.lean LOADS. Nothing in Lean hashes anything: it is a label: what it is worth is what the hold of that sum in a sandbox is worth. -/
noncomputable def Tryd.pinned : Pinned := { name := "ytbanfccnmbmcfaadoor", sum := "76eae9ca1b8af60c6f0a4839e2b1b522438ecd7ffc56014680a6bb94be05d3d8", checked := Tryd.checked }
namespace Rows
def none {H : Type} : Left H := { results := [], args := [] }

/- WHAT THE LISTED PACKAGE-LEVEL VARIABLES READ AS WHEN THE CALL BEGINS. Each datum BY PROGRAM (the guide's laid-datum.mjs) off the statement by which the dump's own 'gosem.cut.vars' lays the variable. In a bare row this is a premise. The card (YtbanfccnmbmcfaaDoorCards.lean) ties it to the program's text. -/
def laid_loop_example_g00197_impl_sumSteps {H : Type} : DataW H := .agg [.lit (.int .u32 0), .lit (.int .u32 1166650509), .lit (.int .u32 2333301018), .lit (.int .u32 3466261911), .lit (.int .u32 3189058079), .lit (.int .u32 4221339282), .lit (.int .u32 889615109), .lit (.int .u32 1888477064), .lit (.int .u32 3558460437), .lit (.int .u32 2442158232), .lit (.int .u32 1594529039), .lit (.int .u32 444807554), .lit (.int .u32 1779230218), .lit (.int .u32 797264519), .lit (.int .u32 3776954128), .lit (.int .u32 2761298845)]

/-- 'laws.FnUnits': WHATEVER THE INPUT: true; the input reads as it did. -/
def fnUnitsSpec : ChangeSpec := { name := "fnUnits", vars := ["loop.example/g00197/impl.sumSteps"], fn := fun _ => fun
  | [d, g1] => { results := [.lit (.bool true)], args := [d], vars := [g1] }
  | _ => none }
def fnUnitsRow : OpenClaim := { program := "ytbanfccnmbmcfaadoor", sum := "76eae9ca1b8af60c6f0a4839e2b1b522438ecd7ffc56014680a6bb94be05d3d8", func := "loop.example/g00197/laws.FnUnits", spec := "fnUnits", unfollowed := true, recurses := true, named := ["loop.example/g00197/impl.sumSteps"], apart := false, laid := [("loop.example/g00197/impl.sumSteps", laid_loop_example_g00197_impl_sumSteps)] }
def FnUnitsSaid : Prop := fnUnitsRow.holds Tryd.pinned (OpenSpec.ofChange fnUnitsSpec)

/-- ITS FALSE NEIGHBOUR: 'it returns false'. Refute it at one input. -/
def fnUnitsWrong : ChangeSpec := { name := "fnUnits", vars := ["loop.example/g00197/impl.sumSteps"], fn := fun _ => fun
  | [d, g1] => { results := [.lit (.bool false)], args := [d], vars := [g1] }
  | _ => none }
def FnUnitsWrongFalsely : Prop := fnUnitsRow.holds Tryd.pinned (OpenSpec.ofChange fnUnitsWrong)

/-- 'laws.FnExactSumText': WHATEVER THE INPUT: true; the input reads as it did. -/
def fnExactSumTextSpec : ChangeSpec := { name := "fnExactSumText", vars := ["loop.example/g00197/impl.sumSteps"], fn := fun _ => fun
  | [d, g1] => { results := [.lit (.bool true)], args := [d], vars := [g1] }
  | _ => none }
def fnExactSumTextRow : OpenClaim := { program := "ytbanfccnmbmcfaadoor", sum := "76eae9ca1b8af60c6f0a4839e2b1b522438ecd7ffc56014680a6bb94be05d3d8", func := "loop.example/g00197/laws.FnExactSumText", spec := "fnExactSumText", named := ["loop.example/g00197/impl.sumSteps"], apart := false, laid := [("loop.example/g00197/impl.sumSteps", laid_loop_example_g00197_impl_sumSteps)] }
def FnExactSumTextSaid : Prop := fnExactSumTextRow.holds Tryd.pinned (OpenSpec.ofChange fnExactSumTextSpec)

/-- ITS FALSE NEIGHBOUR: 'it returns false'. Refute it at one input. -/
def fnExactSumTextWrong : ChangeSpec := { name := "fnExactSumText", vars := ["loop.example/g00197/impl.sumSteps"], fn := fun _ => fun
  | [d, g1] => { results := [.lit (.bool false)], args := [d], vars := [g1] }
  | _ => none }
def FnExactSumTextWrongFalsely : Prop := fnExactSumTextRow.holds Tryd.pinned (OpenSpec.ofChange fnExactSumTextWrong)

/-- 'laws.FnExactPutUnit': WHATEVER THE INPUT: true; the input reads as it did. -/
def fnExactPutUnitSpec : ChangeSpec := { name := "fnExactPutUnit", vars := ["loop.example/g00197/impl.sumSteps"], fn := fun _ => fun
  | [d1, d2, g1] => { results := [.lit (.bool true)], args := [d1, d2], vars := [g1] }
  | _ => none }
def fnExactPutUnitRow : OpenClaim := { program := "ytbanfccnmbmcfaadoor", sum := "76eae9ca1b8af60c6f0a4839e2b1b522438ecd7ffc56014680a6bb94be05d3d8", func := "loop.example/g00197/laws.FnExactPutUnit", spec := "fnExactPutUnit", unfollowed := true, recurses := true, named := ["loop.example/g00197/impl.sumSteps"], apart := false, laid := [("loop.example/g00197/impl.sumSteps", laid_loop_example_g00197_impl_sumSteps)] }
def FnExactPutUnitSaid : Prop := fnExactPutUnitRow.holds Tryd.pinned (OpenSpec.ofChange fnExactPutUnitSpec)

/-- ITS FALSE NEIGHBOUR: 'it returns false'. Refute it at one input. -/
def fnExactPutUnitWrong : ChangeSpec := { name := "fnExactPutUnit", vars := ["loop.example/g00197/impl.sumSteps"], fn := fun _ => fun
  | [d1, d2, g1] => { results := [.lit (.bool false)], args := [d1, d2], vars := [g1] }
  | _ => none }
def FnExactPutUnitWrongFalsely : Prop := fnExactPutUnitRow.holds Tryd.pinned (OpenSpec.ofChange fnExactPutUnitWrong)

/-- 'laws.FnExactGetUnit': WHATEVER THE INPUT: true; the input reads as it did. -/
def fnExactGetUnitSpec : ChangeSpec := { name := "fnExactGetUnit", vars := ["loop.example/g00197/impl.sumSteps"], fn := fun _ => fun
  | [d1, d2, d3, g1] => { results := [.lit (.bool true)], args := [d1, d2, d3], vars := [g1] }
  | _ => none }
def fnExactGetUnitRow : OpenClaim := { program := "ytbanfccnmbmcfaadoor", sum := "76eae9ca1b8af60c6f0a4839e2b1b522438ecd7ffc56014680a6bb94be05d3d8", func := "loop.example/g00197/laws.FnExactGetUnit", spec := "fnExactGetUnit", unfollowed := true, recurses := true, named := ["loop.example/g00197/impl.sumSteps"], apart := false, laid := [("loop.example/g00197/impl.sumSteps", laid_loop_example_g00197_impl_sumSteps)] }
def FnExactGetUnitSaid : Prop := fnExactGetUnitRow.holds Tryd.pinned (OpenSpec.ofChange fnExactGetUnitSpec)

/-- ITS FALSE NEIGHBOUR: 'it returns false'. Refute it at one input. -/
def fnExactGetUnitWrong : ChangeSpec := { name := "fnExactGetUnit", vars := ["loop.example/g00197/impl.sumSteps"], fn := fun _ => fun
  | [d1, d2, d3, g1] => { results := [.lit (.bool false)], args := [d1, d2, d3], vars := [g1] }
  | _ => none }
def FnExactGetUnitWrongFalsely : Prop := fnExactGetUnitRow.holds Tryd.pinned (OpenSpec.ofChange fnExactGetUnitWrong)

/-- 'laws.FnExactSpoil': WHATEVER THE INPUT: true; the input reads as it did. -/
def fnExactSpoilSpec : ChangeSpec := { name := "fnExactSpoil", vars := ["loop.example/g00197/impl.sumSteps"], fn := fun _ => fun
  | [d1, d2, d3, d4, g1] => { results := [.lit (.bool true)], args := [d1, d2, d3, d4], vars := [g1] }
  | _ => none }
def fnExactSpoilRow : OpenClaim := { program := "ytbanfccnmbmcfaadoor", sum := "76eae9ca1b8af60c6f0a4839e2b1b522438ecd7ffc56014680a6bb94be05d3d8", func := "loop.example/g00197/laws.FnExactSpoil", spec := "fnExactSpoil", unfollowed := true, recurses := true, named := ["loop.example/g00197/impl.sumSteps"], apart := false, laid := [("loop.example/g00197/impl.sumSteps", laid_loop_example_g00197_impl_sumSteps)] }
def FnExactSpoilSaid : Prop := fnExactSpoilRow.holds Tryd.pinned (OpenSpec.ofChange fnExactSpoilSpec)

/-- ITS FALSE NEIGHBOUR: 'it returns false'. Refute it at one input. -/
def fnExactSpoilWrong : ChangeSpec := { name := "fnExactSpoil", vars := ["loop.example/g00197/impl.sumSteps"], fn := fun _ => fun
  | [d1, d2, d3, d4, g1] => { results := [.lit (.bool false)], args := [d1, d2, d3, d4], vars := [g1] }
  | _ => none }
def FnExactSpoilWrongFalsely : Prop := fnExactSpoilRow.holds Tryd.pinned (OpenSpec.ofChange fnExactSpoilWrong)

/- THE SECOND FORM. 'bulk': how many values and letters a reading holds, each counted each time it is reached (what is shared counts as often as it is met; a slice's spare places count too). A statement '..UptoSaid' is the law's where the arguments, and the package variables that the reading takes, are together of bulk at most 1048576: NARROWER than '..Said'. Prove '..Said' where nothing that the law and all that it calls make is longer than what came in: it says more and counts as full. Else prove '..UptoSaid'. A law counts once. -/
mutual
def uptoBulk {H : Type} : DataW H → Nat
  | .lit (.string bytes) => bytes.length + 1
  | .lit _ => 1
  | .nil => 1
  | .ptr d => uptoBulk d + 1
  | .slice elems spare => uptoBulkAll elems + uptoBulkAll spare + 1
  | .agg parts => uptoBulkAll parts + 1
  | .iface _ d => uptoBulk d + 1
  | .map entries => uptoBulkEntries entries + 1
  | .held _ => 1
def uptoBulkAll {H : Type} : List (DataW H) → Nat
  | [] => 0
  | d :: r => uptoBulk d + uptoBulkAll r
def uptoBulkEntries {H : Type} : List (Lit × DataW H) → Nat
  | [] => 0
  | x :: r => uptoBulkEntry x + uptoBulkEntries r
def uptoBulkEntry {H : Type} : Lit × DataW H → Nat
  | (.string bytes, d) => bytes.length + uptoBulk d + 1
  | (_, d) => uptoBulk d + 1
 end
def uptoSmall : (H : Type) → List (DataW H) → Bool := fun _ ds => decide (uptoBulkAll ds ≤ 1048576)
def OpenSpec.upto (s : _root_.Go.ChangeSpec) : _root_.Go.OpenSpec := { _root_.Go.OpenSpec.ofChange s with cond := some uptoSmall }

/-- 'laws.FnUnits', WHERE WHAT IT READS IS OF BULK AT MOST 1048576: true; the input reads as it did. -/
def fnUnitsUptoRow : OpenClaim := { program := "ytbanfccnmbmcfaadoor", sum := "76eae9ca1b8af60c6f0a4839e2b1b522438ecd7ffc56014680a6bb94be05d3d8", func := "loop.example/g00197/laws.FnUnits", spec := "fnUnits", unfollowed := true, recurses := true, named := ["loop.example/g00197/impl.sumSteps"], apart := false, laid := [("loop.example/g00197/impl.sumSteps", laid_loop_example_g00197_impl_sumSteps)], narrowed := true }
def FnUnitsUptoSaid : Prop := fnUnitsUptoRow.holds Tryd.pinned (OpenSpec.upto fnUnitsSpec)

/-- 'laws.FnExactSumText', WHERE WHAT IT READS IS OF BULK AT MOST 1048576: true; the input reads as it did. -/
def fnExactSumTextUptoRow : OpenClaim := { program := "ytbanfccnmbmcfaadoor", sum := "76eae9ca1b8af60c6f0a4839e2b1b522438ecd7ffc56014680a6bb94be05d3d8", func := "loop.example/g00197/laws.FnExactSumText", spec := "fnExactSumText", named := ["loop.example/g00197/impl.sumSteps"], apart := false, laid := [("loop.example/g00197/impl.sumSteps", laid_loop_example_g00197_impl_sumSteps)], narrowed := true }
def FnExactSumTextUptoSaid : Prop := fnExactSumTextUptoRow.holds Tryd.pinned (OpenSpec.upto fnExactSumTextSpec)

/-- 'laws.FnExactPutUnit', WHERE WHAT IT READS IS OF BULK AT MOST 1048576: true; the input reads as it did. -/
def fnExactPutUnitUptoRow : OpenClaim := { program := "ytbanfccnmbmcfaadoor", sum := "76eae9ca1b8af60c6f0a4839e2b1b522438ecd7ffc56014680a6bb94be05d3d8", func := "loop.example/g00197/laws.FnExactPutUnit", spec := "fnExactPutUnit", unfollowed := true, recurses := true, named := ["loop.example/g00197/impl.sumSteps"], apart := false, laid := [("loop.example/g00197/impl.sumSteps", laid_loop_example_g00197_impl_sumSteps)], narrowed := true }
def FnExactPutUnitUptoSaid : Prop := fnExactPutUnitUptoRow.holds Tryd.pinned (OpenSpec.upto fnExactPutUnitSpec)

/-- 'laws.FnExactGetUnit', WHERE WHAT IT READS IS OF BULK AT MOST 1048576: true; the input reads as it did. -/
def fnExactGetUnitUptoRow : OpenClaim := { program := "ytbanfccnmbmcfaadoor", sum := "76eae9ca1b8af60c6f0a4839e2b1b522438ecd7ffc56014680a6bb94be05d3d8", func := "loop.example/g00197/laws.FnExactGetUnit", spec := "fnExactGetUnit", unfollowed := true, recurses := true, named := ["loop.example/g00197/impl.sumSteps"], apart := false, laid := [("loop.example/g00197/impl.sumSteps", laid_loop_example_g00197_impl_sumSteps)], narrowed := true }
def FnExactGetUnitUptoSaid : Prop := fnExactGetUnitUptoRow.holds Tryd.pinned (OpenSpec.upto fnExactGetUnitSpec)

/-- 'laws.FnExactSpoil', WHERE WHAT IT READS IS OF BULK AT MOST 1048576: true; the input reads as it did. -/
def fnExactSpoilUptoRow : OpenClaim := { program := "ytbanfccnmbmcfaadoor", sum := "76eae9ca1b8af60c6f0a4839e2b1b522438ecd7ffc56014680a6bb94be05d3d8", func := "loop.example/g00197/laws.FnExactSpoil", spec := "fnExactSpoil", unfollowed := true, recurses := true, named := ["loop.example/g00197/impl.sumSteps"], apart := false, laid := [("loop.example/g00197/impl.sumSteps", laid_loop_example_g00197_impl_sumSteps)], narrowed := true }
def FnExactSpoilUptoSaid : Prop := fnExactSpoilUptoRow.holds Tryd.pinned (OpenSpec.upto fnExactSpoilSpec)

end Rows
end Go.Proofs.YtbanfccnmbmcfaaDoor
