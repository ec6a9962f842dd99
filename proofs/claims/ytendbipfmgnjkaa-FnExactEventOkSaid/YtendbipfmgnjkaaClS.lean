/- The library's strings.Clone. -/
import Derived.Test.YtendbipfmgnjkaaShelf
import Derived.Test.YtendbipfmgnjkaaRowsG
import Derived.Handy
namespace Go.Proofs.Ytendbipfmgnjkaa
set_option maxRecDepth 100000
open Go.RowKit BigFrame
attribute [local go_sem ↓] Go.wp_at_zero Go.wp_at_succ

set_option maxRecDepth 100000 in
theorem implClone (s : ByteArray) (w : World) (hs : s.size ≤ 281474976710656) : Calls Try.prog 49 #[.string s] w fun e w' => e = .returned (.string s) ∧ Below w.heap.size w w' := by
  have HC := Shut.mk (fun W => Try.stringslite_Clone s W hs)
  go_enter Try.func49, Try.ntmps49
  go_wp2_with fail
  refine (HC.out _).mono ?_
  rintro e w1 ⟨rfl, hb⟩
  go_wp2_with fail
  go_ret
  exact ⟨rfl, hb⟩
end Go.Proofs.Ytendbipfmgnjkaa
