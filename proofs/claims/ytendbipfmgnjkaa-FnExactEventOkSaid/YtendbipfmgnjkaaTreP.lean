/- The walks of the models' TreeNew, l10At, l10File. -/
import Derived.Test.YtendbipfmgnjkaaTreM
import Derived.Test.YtendbipfmgnjkaaTreE
import Derived.BigQuiet
import Derived.Deep.RegionHeld3
namespace Go.Proofs.Ytendbipfmgnjkaa
set_option maxRecDepth 100000
open Go.RowKit
attribute [local go_sem ↓] Go.wp_at_zero Go.wp_at_succ

theorem nds_at (rs : List NR) (i : Nat) (h : i < rs.length) : (nds rs)[i]'(by rw [nds_len]; exact h) = rs[i].nd := by simp [nds]
end Go.Proofs.Ytendbipfmgnjkaa
