/- Texts of ours, laid one behind the other: StY. -/
import Derived.Test.YtackbhpgdohimaaGreatDoorQkStX
/- StY: . -/
namespace Go.Proofs.YtackbhpgdohimaaGreatDoor
set_option maxRecDepth 100000
set_option maxHeartbeats 16000000
open Go.RowKit
attribute [local go_sem ↓] Go.wp_at_zero Go.wp_at_succ
section
theorem stp_zero {T:TM} {e:EM} {g:Int} (h:(stpX T e g).2.2=0):qae (stpX T e g).1=true/\1<=g/\g<=99000/\0<=(stpX T e g).2.1/\(stpX T e g).2.1<=1000:=by
 unfold stpX at h ⊢
 by_cases h1:mayX T e g=false
 ·rw [if_pos h1] at h
  exact absurd h (by decide)
 rw [if_neg h1] at h ⊢;obtain ⟨-,hE,g1,g2⟩:=qkv (by simpa using h1:mayX T e g=true)
 by_cases h2:findX T (mustP e)=0
 ·rw [if_pos h2] at h
  exact absurd h (by decide)
 rw [if_neg h2] at h ⊢
 by_cases h3:refX T e (ndAt T (plc T (findX T (mustP e)))) ≠ 0
 ·rw [if_pos h3] at h
  exact absurd h h3
 rw [if_neg h3] at h ⊢
 by_cases h4:qae (chT T e (plc T (findX T (mustP e))) g)=false
 ·rw [if_pos h4] at h
  exact absurd h (by decide)
 rw [if_neg h4];refine ⟨by simpa using h4,g1,g2,?_⟩;dsimp only;unfold takX;split
 ·rename_i k7
  have hn7:=(qfq hE (by omega)).2.2.2.2.2.1 k7;have:=qkx (ndAt T (plc T (findX T (mustP e)))).schema e.num (by omega);omega
 split <;> omega
attribute [local irreducible] qae stpX qak qay
end
end Go.Proofs.YtackbhpgdohimaaGreatDoor
