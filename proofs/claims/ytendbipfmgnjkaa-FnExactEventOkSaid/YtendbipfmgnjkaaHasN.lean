/- The program's own: a path that has a name. -/
import Derived.Test.YtendbipfmgnjkaaEdA
import Derived.Test.YtendbipfmgnjkaaPaL
namespace Go.Proofs.Ytendbipfmgnjkaa
set_option maxRecDepth 100000
open Go.RowKit BigFrame
attribute [local go_sem ↓] Go.wp_at_zero Go.wp_at_succ

theorem implHasName (p : ByteArray) (w : World) (hs : p.size ≤ 1048576) : Calls Try.prog 75 #[.string p] w fun e w' => e = .returned (.bool (named p)) ∧ Below w.heap.size w w' := by
  have HC := Shut.mk (fun W => implParentPath p W hs)
  unfold ParPost at HC
  have e0 : named p = (parentB p).2.2 := rfl
  rw [e0]
  generalize (parentB p).2.2 = a at *
  generalize (parentB p).2.1 = b at *
  generalize (parentB p).1 = c at *
  clear hs e0
  go_enter Try.func75, Try.ntmps75
  go_wp2_with fail
  refine (HC.out _).mono ?_
  rintro e w1 ⟨rfl, hb⟩
  go_wp2_with fail
  go_ret
  exact ⟨rfl, hb⟩
end Go.Proofs.Ytendbipfmgnjkaa
