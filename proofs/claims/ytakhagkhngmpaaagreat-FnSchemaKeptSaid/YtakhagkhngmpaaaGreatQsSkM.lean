/- Texts of ours, laid one behind the other: SkM. -/
import Derived.Test.YtakhagkhngmpaaaGreatQs5
/- SkM: . -/
namespace Go.Proofs.YtakhagkhngmpaaaGreat
set_option maxRecDepth 100000
def keptE (a b n : Int) : List EM := [⟨1, ⟨#[47, 100]⟩, ⟨#[]⟩, 0, 0⟩, ⟨5, ⟨#[47, 100]⟩, ⟨#[]⟩, a, 0⟩, ⟨2, ⟨#[47, 100, 47, 102]⟩, ⟨#[]⟩, 0, 1⟩, ⟨5, ⟨#[47, 100]⟩, ⟨#[]⟩, b, 0⟩, ⟨2, ⟨#[47, 100, 47, 103]⟩, ⟨#[]⟩, 0, 1⟩, ⟨7, ⟨#[47, 100, 47, 102]⟩, ⟨#[]⟩, n, 0⟩, ⟨3, ⟨#[47, 100, 47, 102]⟩, ⟨#[47, 104]⟩, 0, 0⟩]
def keptB (a b n : Int) : Bool :=
 let s := allX newX (keptE a b n) 1
 let f := findX s.1 ⟨#[47, 104]⟩
 (schemaAtX s.1 f == a) && (schemaAtX s.1 (findX s.1 ⟨#[47, 100, 47, 103]⟩) == b) && (s.2 == 1 + ((spansX a n).length : Int)) && (((grpX s.1 f).length : Int) == s.2 - 1) && (usedX s.1 f == n)
set_option maxRecDepth 1000000 in
theorem kept_all : ∀ a : Fin 3, ∀ b : Fin 3, ∀ n : Fin 100, keptB (1 + (a.val : Int)) (1 + (b.val : Int)) (1 + (n.val : Int)) = true := by decide +kernel
end Go.Proofs.YtakhagkhngmpaaaGreat
