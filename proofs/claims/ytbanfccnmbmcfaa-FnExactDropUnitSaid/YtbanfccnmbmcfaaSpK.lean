/- The model's PutUnit (written by gen/mkput.py). -/
import Derived.Test.YtbanfccnmbmcfaaSpJ
namespace Go.Proofs.Ytbanfccnmbmcfaa
set_option maxRecDepth 100000
open Go.RowKit BigFrame
attribute [local go_sem ↓] Go.wp_at_zero Go.wp_at_succ

theorem uns_snoc (us : List UnM) (u : UnM) : unS (us ++ [u]) = unS us ++ unC u := by simp [unS]
theorem filter_tk {α : Type} (f : α → Bool) (L : List α) (k : Nat) (h : k < L.length) : (L.take (k + 1)).filter f = (L.take k).filter f ++ if f L[k] = true then [L[k]] else [] := by
  rw [List.take_succ_eq_append_getElem h, List.filter_append]
  congr 1
  split <;> simp [*]
/-- A host and a flag: a host whose row is its own. -/
def HbPost (r : HM × Bool) (w : World) (e : Ending) (w' : World) : Prop := ∃ a cap, e = .returned (.tuple #[hov r.1 a cap, .bool r.2]) ∧ FRw w' a (unS r.1.us) w.heap.size w'.heap.size ∧ r.1.us.length ≤ cap ∧ Below w.heap.size w w'
theorem put_fits {us : List UnM} {u : UnM} (h : UnFits us) (hu : UnFit u) (hl : us.length ≤ 1048576) : UnFits (putL us u) := by
  unfold putL
  have l1 := List.length_filter_le (unLt · u) us
  have l2 := List.length_filter_le (unLt u ·) us
  refine ⟨by simp only [List.length_append, List.length_singleton]; omega, fun x hx => ?_⟩
  simp only [List.mem_append, List.mem_filter, List.mem_singleton] at hx
  rcases hx with (hx | rfl) | hx
  · exact h.2 x hx.1
  · exact hu
  · exact h.2 x hx.1
theorem frw_wide {W : World} {va : Option Addr} {X : List Value} {lo hi lo' hi' : Nat} (h : FRw W va X lo hi) (h1 : lo' ≤ lo) (h2 : hi ≤ hi') : FRw W va X lo' hi' := by
  rcases h with e | ⟨g, e, q1, q2, q3⟩
  · exact .inl e
  · exact .inr ⟨g, e, by omega, by omega, q3⟩
end Go.Proofs.Ytbanfccnmbmcfaa
