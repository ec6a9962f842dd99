/- A region that draws its order, whose operations only read and whose callees make new memory alone and answer one value wherever they are called: one walk, in the text's order. -/
import Derived.Test.YtendbipfmgnjkaaRowsG
import Derived.BigQuiet
namespace Go.Proofs.Ytendbipfmgnjkaa
set_option maxRecDepth 100000
open Go.RowKit

/-- A world with more memory. -/
structure Grow (w : World) where
  val : World
  bel : Below w.heap.size w val
instance {w : World} : Nonempty (Grow w) := ⟨⟨w, Below.refl _ _⟩⟩
theorem wp_region_grow {P : Program} {id : Nat} {Q : Exit → Act → World → Prop} {a : Act} {w : World} {l : List Oper} (hm : P.follows .mixedOrders = true) (hB : Region.lexB .any l.toArray = true)
    (h : wpQuiet P l.toArray (fun W => ∃ X : Grow w, W = X.val) (fun a' => ∀ w', (∃ X : Grow w, w' = X.val) → Q .normal a' w') l a) : (Code.region id l.toArray true).wp P Q a w :=
  wp_region_quiet (C := fun W => ∃ X : Grow w, W = X.val) hm hB ⟨⟨w.drew, Below.drew (Below.refl _ _)⟩, rfl⟩ (by simpa using h)
theorem Grow.cell {w : World} (X : Grow w) {p : Addr} {v : Value} (h : w.cell? p = some v) (hl : p.block < w.heap.size) : X.val.cell? p = some v := (X.bel.cell hl).trans h
theorem calls_grow {P : Program} {f : FuncId} {args : Array Value} {w : World} {v : Value} (h : ∀ W, Below w.heap.size w W → Calls P f args W fun e w' => e = .returned v ∧ Below W.heap.size W w') (X : Grow w) :
    Calls P f args X.val fun e w'' => e = .returned v ∧ ∃ Y : Grow w, w'' = Y.val :=
  (h X.val X.bel).mono fun _ w'' ⟨he, hb⟩ => ⟨he, ⟨w'', X.bel.trans (hb.mono X.bel.size)⟩, rfl⟩
theorem calls_same {P : Program} {f : FuncId} {args : Array Value} {w : World} {v : Value} (h : ∀ W, Below w.heap.size w W → Calls P f args W fun e w' => e = .returned v ∧ w' = W) (X : Grow w) :
    Calls P f args X.val fun e w'' => e = .returned v ∧ ∃ Y : Grow w, w'' = Y.val :=
  (h X.val X.bel).mono fun _ _ ⟨he, hb⟩ => ⟨he, X, hb⟩
end Go.Proofs.Ytendbipfmgnjkaa
