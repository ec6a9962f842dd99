/- Rows of numbers as values: their comparison, marks that are laid and found again. -/
import Derived.Test.YtpcedackanfnjaaSpnD
import Derived.Test.YtpcedackanfnjaaNestC
namespace Go.Proofs.Ytpcedackanfnjaa
open Go.RowKit

theorem eqIntS_val {w : World} {v u : Value} {xs : List Int} {lo hi lo' hi' : Nat} (h : IAns w v xs lo hi) (k : IAns w u xs lo' hi') (hf : xs.length ≤ 1048576) : Calls Try.prog 31 #[v, u] w fun e w' => e = .returned (.bool true) ∧ Below w.heap.size w w' := by
  obtain ⟨a, cap, rfl, h1⟩ := h.crow
  obtain ⟨b, cap', rfl, h2⟩ := k.crow
  exact eqIntS_same a b xs cap cap' w h1 h2 hf
theorem markIntS_val {w : World} {v : Value} {xs : List Int} {lo hi : Nat} (k : Nat) (h : IAns w v xs lo hi) (hk : k + xs.length ≤ 100000000) :
    Calls Try.prog 32 #[v, .int .i64 k] w fun e w' => e = .returned (.int .i64 (k + xs.length : Nat)) ∧ IAns w' v (marksI k xs.length) lo hi ∧ Turned w w' lo hi := by
  obtain ⟨a, cap, rfl, hc, h1⟩ := h
  rcases h1 with rfl | ⟨g, rfl, q1, q2, hm⟩
  · refine (markIntS_none a k cap w).mono ?_
    rintro e w' ⟨rfl, rfl⟩
    exact ⟨rfl, ⟨a, cap, by rw [marksI_len], by rw [marksI_len]; exact Nat.zero_le _, .inl rfl⟩, Turned.refl _ _ _⟩
  · refine (markIntS_marks g xs k cap w hm (by omega) hc).mono ?_
    rintro e w' ⟨rfl, hw, hg⟩
    exact ⟨rfl, ⟨_, cap, by rw [marksI_len], by rw [marksI_len]; exact hc, .inr ⟨g, rfl, q1, q2, hw⟩⟩, Turned.of_grown hg q1 q2⟩
theorem heldIntS_val {w : World} {v : Value} {k n lo hi : Nat} (h : IAns w v (marksI k n) lo hi) (hk : k + n ≤ 100000000) :
    Calls Try.prog 33 #[v, .int .i64 k] w fun e w' => e = .returned (.int .i64 (k + n : Nat)) ∧ Below w.heap.size w w' := by
  obtain ⟨a, cap, rfl, h1⟩ := h.crow
  rw [marksI_len]
  exact heldIntS_marks a k n cap w h1 (by omega)
theorem spansX_len (s n : Int) : (spansX s n).length ≤ 1001 := by
  unfold spansX
  split
  · rename_i h
    unfold spanL
    rw [List.length_append, List.length_replicate, List.length_singleton]
    have := Nat.div_le_self (n.toNat - 1) (groupN s)
    omega
  · exact Nat.zero_le _
end Go.Proofs.Ytpcedackanfnjaa
