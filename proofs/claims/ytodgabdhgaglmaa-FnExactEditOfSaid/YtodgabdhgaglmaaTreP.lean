/- The walks of the models' TreeNew, l10At, l10File. -/
import Derived.Test.YtodgabdhgaglmaaTreM
import Derived.Test.YtodgabdhgaglmaaTreE
import Derived.BigQuiet
import Derived.Deep.RegionHeld3
namespace Go.Proofs.Ytodgabdhgaglmaa
set_option maxRecDepth 100000
open Go.RowKit
attribute [local go_sem ↓] Go.wp_at_zero Go.wp_at_succ

theorem nds_at (rs : List NR) (i : Nat) (h : i < rs.length) : (nds rs)[i]'(by rw [nds_len]; exact h) = rs[i].nd := by simp [nds]
end Go.Proofs.Ytodgabdhgaglmaa
