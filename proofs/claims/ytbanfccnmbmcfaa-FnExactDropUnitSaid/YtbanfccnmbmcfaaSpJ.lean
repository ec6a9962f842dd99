/- The model's GetUnit. -/
import Derived.Test.YtbanfccnmbmcfaaSpI
namespace Go.Proofs.Ytbanfccnmbmcfaa
set_option maxRecDepth 100000
open Go.RowKit BigFrame
attribute [local go_sem ↓] Go.wp_at_zero Go.wp_at_succ

theorem idx_lt {us : List UnM} {g i : Int} (h : unIdx us g i < us.length) : atN us g i = (unIdx us g i : Int) := by unfold atN; rw [if_pos h]
theorem idx_no {us : List UnM} {g i : Int} (h : ¬ unIdx us g i < us.length) : atN us g i = -1 := by unfold atN; rw [if_neg h]
/-- The unit at a place, in every later world. -/
theorem un_at {w W : World} {a : Option Addr} {us : List UnM} (hr : UnRow w a us) (hb : Below w.heap.size w W) {k : Nat} (hk : k < us.length) : ∃ b off u, a = some ⟨b, off, none⟩ ∧ u = us[k] ∧ b < w.heap.size ∧ ∀ X, Below W.heap.size W X → X.cell? ⟨b, off + k * 4, none⟩ = some (.int .i64 u.group) ∧ X.cell? ⟨b, off + k * 4 + 1, none⟩ = some (.int .i64 u.index) ∧ X.cell? ⟨b, off + k * 4 + 2, none⟩ = some (.string u.text) ∧ X.cell? ⟨b, off + k * 4 + 3, none⟩ = some (.int .i64 u.sum) := by
  obtain ⟨b, off, e, lb, _⟩ := UnRow.at hr (by omega)
  refine ⟨b, off, us[k], e, rfl, lb, fun X hX => ?_⟩
  obtain ⟨b', off', e', _, hc⟩ := UnRow.at (hr.stays (hb.trans (hX.mono hb.size))) (by omega)
  rw [e] at e'
  simp only [Option.some.injEq, Addr.mk.injEq, and_true] at e'
  obtain ⟨rfl, rfl⟩ := e'
  exact hc k hk
end Go.Proofs.Ytbanfccnmbmcfaa
