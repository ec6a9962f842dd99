/- Texts of ours, laid one behind the other: LawActs, CutA. -/
import Derived.Test.YtackbhpgdohimaaGreatDoorQk3
import Derived.Test.YtackbhpgdohimaaGreatDoorQk7
import Derived.Test.YtackbhpgdohimaaGreatDoorQkSpF
/- LawActs: . -/
namespace Go.Proofs.YtackbhpgdohimaaGreatDoor
set_option maxRecDepth 100000
set_option maxHeartbeats 16000000
open Go.RowKit
attribute [local go_sem ↓] Go.wp_at_zero Go.wp_at_succ
theorem doAs_or (fs:List FM) (xs:List AM):(doAs fs xs).1=fs\/DOk (doAs fs xs).1:=by
 induction xs generalizing fs with
 | nil=>exact .inl rfl
 | cons x xs ih =>
  cases h:doA fs x with
  | none=>left;simp [doAs,h]
  | some o =>
   right
   simp only [doAs,h];rcases ih o with e | e
   ·rw [e];exact qre h
   ·exact e
end Go.Proofs.YtackbhpgdohimaaGreatDoor
