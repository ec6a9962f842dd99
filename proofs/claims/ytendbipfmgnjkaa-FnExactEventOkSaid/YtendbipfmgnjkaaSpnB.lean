/- Rows of numbers as values; the walk of the model's Spans. -/
import Derived.Test.YtendbipfmgnjkaaSpnA
import Derived.Test.YtendbipfmgnjkaaNestA
import Derived.Deep.AppendLies
namespace Go.Proofs.Ytendbipfmgnjkaa
set_option maxRecDepth 100000
open Go.RowKit
attribute [local go_sem ↓] Go.wp_at_zero Go.wp_at_succ

/-- A value that is these numbers, in memory of its own. -/
def IAns (w : World) (v : Value) (xs : List Int) (lo hi : Nat) : Prop := ∃ (a : Option Addr) (cap : Nat), v = .slice a xs.length cap ∧ xs.length ≤ cap ∧ (xs = [] ∨ ∃ g, a = some ⟨g, 0, none⟩ ∧ lo ≤ g ∧ g < hi ∧ WCells w g (ics xs))
theorem IAns.empty (w : World) (a : Option Addr) (cap lo hi : Nat) : IAns w (.slice a 0 cap) [] lo hi := ⟨a, cap, rfl, Nat.zero_le _, .inl rfl⟩
theorem IAns.crow {w : World} {v : Value} {xs : List Int} {lo hi : Nat} (h : IAns w v xs lo hi) : ∃ a cap, v = .slice a xs.length cap ∧ CRow w a (ics xs) := by
  obtain ⟨a, cap, e, _, q⟩ := h
  refine ⟨a, cap, e, ?_⟩
  rcases q with rfl | ⟨g, rfl, _, _, q⟩
  · intro h; simp [ics] at h
  · exact q.crow
theorem IAns.turned {w w' : World} {v : Value} {xs : List Int} {lo hi lo' hi' : Nat} (h : IAns w v xs lo hi) (t : Turned w w' lo' hi') (hd : hi ≤ lo' ∨ hi' ≤ lo) : IAns w' v xs lo hi := by
  obtain ⟨a, cap, e, hc, q⟩ := h
  refine ⟨a, cap, e, hc, ?_⟩
  rcases q with rfl | ⟨g, rfl, h1, h2, h3⟩
  · exact .inl rfl
  · exact .inr ⟨g, rfl, h1, h2, h3.turned t (by omega)⟩
theorem IAns.below {w w' : World} {v : Value} {xs : List Int} {lo hi : Nat} (h : IAns w v xs lo hi) (hb : Below w.heap.size w w') : IAns w' v xs lo hi := by
  obtain ⟨a, cap, e, hc, q⟩ := h
  refine ⟨a, cap, e, hc, ?_⟩
  rcases q with rfl | ⟨g, rfl, h1, h2, h3⟩
  · exact .inl rfl
  · exact .inr ⟨g, rfl, h1, h2, h3.below hb h3.1⟩
def IPost (xs : List Int) (w : World) (e : Ending) (w' : World) : Prop := ∃ v, e = .returned v ∧ IAns w' v xs w.heap.size w'.heap.size ∧ Below w.heap.size w w'
theorem own_ians {w w' : World} {v : Value} {xs : List Int} {n : Nat} (hn : xs.length = n) (h : w'.ownsRow w.heap.size 3 1 v n (ics xs)) : IAns w' v xs w.heap.size w'.heap.size := by
  have hlt := h.lt
  have hown := h
  subst hn
  obtain ⟨_, ⟨rfl, h0⟩ | ⟨g, cap, cur, rfl, hB, hcur, hn, _⟩⟩ := h
  · have : xs = [] := List.eq_nil_of_length_eq_zero h0
    subst this
    exact IAns.empty _ _ _ _ _
  · exact ⟨_, cap, rfl, hn, .inr ⟨g, rfl, hB, (hlt g rfl).2, own_wcells hown⟩⟩
/-- The lengths of the groups of so many bytes. -/
def spanL (S n : Nat) : List Int := List.replicate ((n - 1) / S) (S : Int) ++ [((n - (n - 1) / S * S : Nat) : Int)]
def spansX (s n : Int) : List Int := if schOk s = true ∧ 1 ≤ n ∧ n ≤ 1000 then spanL (groupN s) n.toNat else []
theorem spansX_no {s n : Int} (h : ¬ (schOk s = true ∧ 1 ≤ n ∧ n ≤ 1000)) : spansX s n = [] := if_neg h
theorem group_pos {s : Int} (h : schOk s = true) : 16 ≤ groupN s := by have := (sch_bounds h).1; unfold groupN; omega
theorem group_zero {s : Int} (h : schOk s = false) : groupN s = 0 := by unfold groupN; rw [(sch_zero h).1]
theorem span_last {S n j : Nat} (hS : 0 < S) (h1 : j * S < n) (h2 : n ≤ j * S + S) : (n - 1) / S = j := by
  have e : n - 1 = (n - 1 - j * S) + j * S := by omega
  rw [e, Nat.add_mul_div_right _ _ hS, Nat.div_eq_of_lt (by omega), Nat.zero_add]
end Go.Proofs.Ytendbipfmgnjkaa
