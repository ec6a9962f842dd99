/-
  No cell of these rows narrows 'for every input' (looked for: loops, veiled, ifaces, maps, wideKeys, modest, calm, conditions, laid).
  DERIVED. THE GIVEN ROWS OF THIS SEAT. 7 by the template 'for every input the law returns true; each argument reads behind the call as it read before'; 0 by the template 'total and deterministic' (their statements: YthhhohcemickeaaTotals.lean).
  GIVEN WITH THE SEED: the statements are not yours to turn. If you find one false, say at which input.
  Laid BY PROGRAM, IN A SANDBOX (cutbox-rows.mjs): the forced cells as the released guide's own fill.sh prints them over the translation 31a73c5b683daae7… (all of the seat's roots in one cut). By AI agents, Wed Nov 11 2026. No macro, syntax, notation, axiom, sorry.
-/
import Derived.Test.YthhhohcemickeaaChecked
import GoSem.Claim
import GoSem.ClaimJoined
import GoSem.ClaimMapViews
import Derived.JoinedTies
import Derived.KernelRfl
namespace Go.Proofs.Ythhhohcemickeaa
/- THE CELL 'sum', in the pinned program and in every row, IS THE sha256 OF THE DUMP (.gsa) THAT YthhhohcemickeaaProg.lean LOADS. Nothing in Lean hashes anything: it is a label: what it is worth is what the hold of that sum in a sandbox is worth. -/
noncomputable def Try.pinned : Pinned := { name := "ythhhohcemickeaa", sum := "31a73c5b683daae7830ac91ad06f8c5d853c59e44fd4092a3a676e4b275cd0c8", checked := Try.checked }
namespace Rows
def none {H : Type} : Left H := { results := [], args := [] }

/-- 'laws.FnField': WHATEVER THE INPUT: true; the input reads as it did. -/
def fnFieldSpec : ChangeSpec := { name := "fnField", fn := fun _ => fun
  | [d] => { results := [.lit (.bool true)], args := [d] }
  | _ => none }
def fnFieldRow : OpenClaim := { program := "ythhhohcemickeaa", sum := "31a73c5b683daae7830ac91ad06f8c5d853c59e44fd4092a3a676e4b275cd0c8", func := "loop.example/g00197/laws.FnField", spec := "fnField", apart := false }
def FnFieldSaid : Prop := fnFieldRow.holds Try.pinned (OpenSpec.ofChange fnFieldSpec)

/-- ITS FALSE NEIGHBOUR: 'it returns false'. Refute it at one input. -/
def fnFieldWrong : ChangeSpec := { name := "fnField", fn := fun _ => fun
  | [d] => { results := [.lit (.bool false)], args := [d] }
  | _ => none }
def FnFieldWrongFalsely : Prop := fnFieldRow.holds Try.pinned (OpenSpec.ofChange fnFieldWrong)

/-- 'laws.FnTexts': WHATEVER THE INPUT: true; the input reads as it did. -/
def fnTextsSpec : ChangeSpec := { name := "fnTexts", fn := fun _ => fun
  | [d] => { results := [.lit (.bool true)], args := [d] }
  | _ => none }
def fnTextsRow : OpenClaim := { program := "ythhhohcemickeaa", sum := "31a73c5b683daae7830ac91ad06f8c5d853c59e44fd4092a3a676e4b275cd0c8", func := "loop.example/g00197/laws.FnTexts", spec := "fnTexts", apart := false }
def FnTextsSaid : Prop := fnTextsRow.holds Try.pinned (OpenSpec.ofChange fnTextsSpec)

/-- ITS FALSE NEIGHBOUR: 'it returns false'. Refute it at one input. -/
def fnTextsWrong : ChangeSpec := { name := "fnTexts", fn := fun _ => fun
  | [d] => { results := [.lit (.bool false)], args := [d] }
  | _ => none }
def FnTextsWrongFalsely : Prop := fnTextsRow.holds Try.pinned (OpenSpec.ofChange fnTextsWrong)

/-- 'laws.FnExactMulG': WHATEVER THE INPUT: true; the input reads as it did. -/
def fnExactMulGSpec : ChangeSpec := { name := "fnExactMulG", fn := fun _ => fun
  | [d1, d2] => { results := [.lit (.bool true)], args := [d1, d2] }
  | _ => none }
def fnExactMulGRow : OpenClaim := { program := "ythhhohcemickeaa", sum := "31a73c5b683daae7830ac91ad06f8c5d853c59e44fd4092a3a676e4b275cd0c8", func := "loop.example/g00197/laws.FnExactMulG", spec := "fnExactMulG", apart := false }
def FnExactMulGSaid : Prop := fnExactMulGRow.holds Try.pinned (OpenSpec.ofChange fnExactMulGSpec)

/-- ITS FALSE NEIGHBOUR: 'it returns false'. Refute it at one input. -/
def fnExactMulGWrong : ChangeSpec := { name := "fnExactMulG", fn := fun _ => fun
  | [d1, d2] => { results := [.lit (.bool false)], args := [d1, d2] }
  | _ => none }
def FnExactMulGWrongFalsely : Prop := fnExactMulGRow.holds Try.pinned (OpenSpec.ofChange fnExactMulGWrong)

/-- 'laws.FnExactPowG': WHATEVER THE INPUT: true; the input reads as it did. -/
def fnExactPowGSpec : ChangeSpec := { name := "fnExactPowG", fn := fun _ => fun
  | [d1, d2] => { results := [.lit (.bool true)], args := [d1, d2] }
  | _ => none }
def fnExactPowGRow : OpenClaim := { program := "ythhhohcemickeaa", sum := "31a73c5b683daae7830ac91ad06f8c5d853c59e44fd4092a3a676e4b275cd0c8", func := "loop.example/g00197/laws.FnExactPowG", spec := "fnExactPowG", apart := false }
def FnExactPowGSaid : Prop := fnExactPowGRow.holds Try.pinned (OpenSpec.ofChange fnExactPowGSpec)

/-- ITS FALSE NEIGHBOUR: 'it returns false'. Refute it at one input. -/
def fnExactPowGWrong : ChangeSpec := { name := "fnExactPowG", fn := fun _ => fun
  | [d1, d2] => { results := [.lit (.bool false)], args := [d1, d2] }
  | _ => none }
def FnExactPowGWrongFalsely : Prop := fnExactPowGRow.holds Try.pinned (OpenSpec.ofChange fnExactPowGWrong)

/-- 'laws.FnExactInvG': WHATEVER THE INPUT: true; the input reads as it did. -/
def fnExactInvGSpec : ChangeSpec := { name := "fnExactInvG", fn := fun _ => fun
  | [d] => { results := [.lit (.bool true)], args := [d] }
  | _ => none }
def fnExactInvGRow : OpenClaim := { program := "ythhhohcemickeaa", sum := "31a73c5b683daae7830ac91ad06f8c5d853c59e44fd4092a3a676e4b275cd0c8", func := "loop.example/g00197/laws.FnExactInvG", spec := "fnExactInvG", apart := false }
def FnExactInvGSaid : Prop := fnExactInvGRow.holds Try.pinned (OpenSpec.ofChange fnExactInvGSpec)

/-- ITS FALSE NEIGHBOUR: 'it returns false'. Refute it at one input. -/
def fnExactInvGWrong : ChangeSpec := { name := "fnExactInvG", fn := fun _ => fun
  | [d] => { results := [.lit (.bool false)], args := [d] }
  | _ => none }
def FnExactInvGWrongFalsely : Prop := fnExactInvGRow.holds Try.pinned (OpenSpec.ofChange fnExactInvGWrong)

/-- 'laws.FnExactAddText': WHATEVER THE INPUT: true; the input reads as it did. -/
def fnExactAddTextSpec : ChangeSpec := { name := "fnExactAddText", fn := fun _ => fun
  | [d1, d2] => { results := [.lit (.bool true)], args := [d1, d2] }
  | _ => none }
def fnExactAddTextRow : OpenClaim := { program := "ythhhohcemickeaa", sum := "31a73c5b683daae7830ac91ad06f8c5d853c59e44fd4092a3a676e4b275cd0c8", func := "loop.example/g00197/laws.FnExactAddText", spec := "fnExactAddText", apart := false }
def FnExactAddTextSaid : Prop := fnExactAddTextRow.holds Try.pinned (OpenSpec.ofChange fnExactAddTextSpec)

/-- ITS FALSE NEIGHBOUR: 'it returns false'. Refute it at one input. -/
def fnExactAddTextWrong : ChangeSpec := { name := "fnExactAddText", fn := fun _ => fun
  | [d1, d2] => { results := [.lit (.bool false)], args := [d1, d2] }
  | _ => none }
def FnExactAddTextWrongFalsely : Prop := fnExactAddTextRow.holds Try.pinned (OpenSpec.ofChange fnExactAddTextWrong)

/-- 'laws.FnExactMulText': WHATEVER THE INPUT: true; the input reads as it did. -/
def fnExactMulTextSpec : ChangeSpec := { name := "fnExactMulText", fn := fun _ => fun
  | [d1, d2] => { results := [.lit (.bool true)], args := [d1, d2] }
  | _ => none }
def fnExactMulTextRow : OpenClaim := { program := "ythhhohcemickeaa", sum := "31a73c5b683daae7830ac91ad06f8c5d853c59e44fd4092a3a676e4b275cd0c8", func := "loop.example/g00197/laws.FnExactMulText", spec := "fnExactMulText", apart := false }
def FnExactMulTextSaid : Prop := fnExactMulTextRow.holds Try.pinned (OpenSpec.ofChange fnExactMulTextSpec)

/-- ITS FALSE NEIGHBOUR: 'it returns false'. Refute it at one input. -/
def fnExactMulTextWrong : ChangeSpec := { name := "fnExactMulText", fn := fun _ => fun
  | [d1, d2] => { results := [.lit (.bool false)], args := [d1, d2] }
  | _ => none }
def FnExactMulTextWrongFalsely : Prop := fnExactMulTextRow.holds Try.pinned (OpenSpec.ofChange fnExactMulTextWrong)

/- THE SECOND FORM. 'bulk': how many values and letters a reading holds, each counted each time it is reached (what is shared counts as often as it is met; a slice's spare places count too). A statement '..UptoSaid' is the law's where the arguments, and the package variables that the reading takes, are together of bulk at most 1048576: NARROWER than '..Said'. Prove '..Said' where nothing that the law and all that it calls make is longer than what came in: it says more and counts as full. Else prove '..UptoSaid'. A law counts once. -/
mutual
def uptoBulk {H : Type} : DataW H → Nat
  | .lit (.string bytes) => bytes.length + 1
  | .lit _ => 1
  | .nil => 1
  | .ptr d => uptoBulk d + 1
  | .slice elems spare => uptoBulkAll elems + uptoBulkAll spare + 1
  | .agg parts => uptoBulkAll parts + 1
  | .iface _ d => uptoBulk d + 1
  | .map entries => uptoBulkEntries entries + 1
  | .held _ => 1
def uptoBulkAll {H : Type} : List (DataW H) → Nat
  | [] => 0
  | d :: r => uptoBulk d + uptoBulkAll r
def uptoBulkEntries {H : Type} : List (Lit × DataW H) → Nat
  | [] => 0
  | x :: r => uptoBulkEntry x + uptoBulkEntries r
def uptoBulkEntry {H : Type} : Lit × DataW H → Nat
  | (.string bytes, d) => bytes.length + uptoBulk d + 1
  | (_, d) => uptoBulk d + 1
 end
def uptoSmall : (H : Type) → List (DataW H) → Bool := fun _ ds => decide (uptoBulkAll ds ≤ 1048576)
def OpenSpec.upto (s : _root_.Go.ChangeSpec) : _root_.Go.OpenSpec := { _root_.Go.OpenSpec.ofChange s with cond := some uptoSmall }

/-- 'laws.FnField', WHERE WHAT IT READS IS OF BULK AT MOST 1048576: true; the input reads as it did. -/
def fnFieldUptoRow : OpenClaim := { program := "ythhhohcemickeaa", sum := "31a73c5b683daae7830ac91ad06f8c5d853c59e44fd4092a3a676e4b275cd0c8", func := "loop.example/g00197/laws.FnField", spec := "fnField", apart := false, narrowed := true }
def FnFieldUptoSaid : Prop := fnFieldUptoRow.holds Try.pinned (OpenSpec.upto fnFieldSpec)

/-- 'laws.FnTexts', WHERE WHAT IT READS IS OF BULK AT MOST 1048576: true; the input reads as it did. -/
def fnTextsUptoRow : OpenClaim := { program := "ythhhohcemickeaa", sum := "31a73c5b683daae7830ac91ad06f8c5d853c59e44fd4092a3a676e4b275cd0c8", func := "loop.example/g00197/laws.FnTexts", spec := "fnTexts", apart := false, narrowed := true }
def FnTextsUptoSaid : Prop := fnTextsUptoRow.holds Try.pinned (OpenSpec.upto fnTextsSpec)

/-- 'laws.FnExactMulG', WHERE WHAT IT READS IS OF BULK AT MOST 1048576: true; the input reads as it did. -/
def fnExactMulGUptoRow : OpenClaim := { program := "ythhhohcemickeaa", sum := "31a73c5b683daae7830ac91ad06f8c5d853c59e44fd4092a3a676e4b275cd0c8", func := "loop.example/g00197/laws.FnExactMulG", spec := "fnExactMulG", apart := false, narrowed := true }
def FnExactMulGUptoSaid : Prop := fnExactMulGUptoRow.holds Try.pinned (OpenSpec.upto fnExactMulGSpec)

/-- 'laws.FnExactPowG', WHERE WHAT IT READS IS OF BULK AT MOST 1048576: true; the input reads as it did. -/
def fnExactPowGUptoRow : OpenClaim := { program := "ythhhohcemickeaa", sum := "31a73c5b683daae7830ac91ad06f8c5d853c59e44fd4092a3a676e4b275cd0c8", func := "loop.example/g00197/laws.FnExactPowG", spec := "fnExactPowG", apart := false, narrowed := true }
def FnExactPowGUptoSaid : Prop := fnExactPowGUptoRow.holds Try.pinned (OpenSpec.upto fnExactPowGSpec)

/-- 'laws.FnExactInvG', WHERE WHAT IT READS IS OF BULK AT MOST 1048576: true; the input reads as it did. -/
def fnExactInvGUptoRow : OpenClaim := { program := "ythhhohcemickeaa", sum := "31a73c5b683daae7830ac91ad06f8c5d853c59e44fd4092a3a676e4b275cd0c8", func := "loop.example/g00197/laws.FnExactInvG", spec := "fnExactInvG", apart := false, narrowed := true }
def FnExactInvGUptoSaid : Prop := fnExactInvGUptoRow.holds Try.pinned (OpenSpec.upto fnExactInvGSpec)

/-- 'laws.FnExactAddText', WHERE WHAT IT READS IS OF BULK AT MOST 1048576: true; the input reads as it did. -/
def fnExactAddTextUptoRow : OpenClaim := { program := "ythhhohcemickeaa", sum := "31a73c5b683daae7830ac91ad06f8c5d853c59e44fd4092a3a676e4b275cd0c8", func := "loop.example/g00197/laws.FnExactAddText", spec := "fnExactAddText", apart := false, narrowed := true }
def FnExactAddTextUptoSaid : Prop := fnExactAddTextUptoRow.holds Try.pinned (OpenSpec.upto fnExactAddTextSpec)

/-- 'laws.FnExactMulText', WHERE WHAT IT READS IS OF BULK AT MOST 1048576: true; the input reads as it did. -/
def fnExactMulTextUptoRow : OpenClaim := { program := "ythhhohcemickeaa", sum := "31a73c5b683daae7830ac91ad06f8c5d853c59e44fd4092a3a676e4b275cd0c8", func := "loop.example/g00197/laws.FnExactMulText", spec := "fnExactMulText", apart := false, narrowed := true }
def FnExactMulTextUptoSaid : Prop := fnExactMulTextUptoRow.holds Try.pinned (OpenSpec.upto fnExactMulTextSpec)

end Rows
end Go.Proofs.Ythhhohcemickeaa
