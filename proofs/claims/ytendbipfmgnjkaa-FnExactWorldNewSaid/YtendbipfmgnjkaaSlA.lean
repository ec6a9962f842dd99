/- Stretches of memory that hold trees. -/
import Derived.Test.YtendbipfmgnjkaaSlG
import Derived.Test.YtendbipfmgnjkaaTreI
namespace Go.Proofs.Ytendbipfmgnjkaa
set_option maxRecDepth 100000
open Go.RowKit

/-- A tree that was answered; one that was marked. -/
abbrev trS (v : Value) (T : TM) (lo hi : Nat) : Str := ⟨fun W => TAns W v T lo hi, lo, hi⟩
abbrev thS (v : Value) (T : TM) (lo hi : Nat) : Str := ⟨fun W => THeld W v 1 T lo hi, lo, hi⟩
theorem trS.loc (v : Value) (T : TM) (lo hi : Nat) : (trS v T lo hi).Loc := fun _ _ _ _ h t hd => TAns.turned h t hd
theorem thS.loc (v : Value) (T : TM) (lo hi : Nat) : (thS v T lo hi).Loc := fun _ _ _ _ h t hd => THeld.turned h t hd
end Go.Proofs.Ytendbipfmgnjkaa
