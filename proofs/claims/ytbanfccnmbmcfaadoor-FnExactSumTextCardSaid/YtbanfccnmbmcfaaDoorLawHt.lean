/- The exact law of SumText. -/
import Derived.Test.YtbanfccnmbmcfaaDoorSpH
namespace Go.Proofs.YtbanfccnmbmcfaaDoor
set_option maxRecDepth 100000
open Go.RowKit BigFrame
attribute [local go_sem ↓] Go.wp_at_zero Go.wp_at_succ

theorem lawSumText (t : ByteArray) (w : World) (him : t.size ≤ 1048576 → ∀ W, Below w.heap.size w W → Calls Tryd.prog 18 #[.string t] W fun e w' => e = .returned (.int .i64 (sumN t)) ∧ Below W.heap.size W w') :
    Calls Tryd.prog 4 #[.string t] w fun e w' => e = .returned (.bool true) ∧ Below w.heap.size w w' := by
  by_cases hs : 1048576 < t.size
  · clear him
    go_enter Tryd.func4, Tryd.ntmps4
    go_wp2_with fail
    go_ret
    exact ⟨rfl, Below.refl _ _⟩
  · have HSP := Shut.mk (fun W => specSumText t W (by omega))
    have HIM := Shut.mk (him (by omega))
    clear him
    generalize sumN t = q at *
    have hqq : (q != q) = false := by simp
    go_enter Tryd.func4, Tryd.ntmps4
    go_wp2_with fail
    refine (HSP.out _).mono ?_
    rintro e w1 ⟨rfl, rfl⟩
    go_wp2_with fail
    refine (HIM.out _ (Below.refl _ _)).mono ?_
    rintro e w2 ⟨rfl, hb⟩
    have HB := Shut.mk hb
    clear hb
    go_wp2_with fail
    go_ret
    exact ⟨rfl, HB.out⟩
end Go.Proofs.YtbanfccnmbmcfaaDoor
