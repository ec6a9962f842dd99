/- The walk of the exact law over MatrixOk, over what is told of the program. -/
import Derived.Test.YtdlgailodhlbmaaMatA
namespace Go.Proofs.Ytdlgailodhlbmaa
open Go.RowKit
attribute [local irreducible] matOk xsum

theorem rws_big {ss : List SR} {n m : Nat} (h : ss.length ≤ n ∧ ∀ s ∈ ss, s.row.length ≤ m) : (rws ss).length ≤ n ∧ ∀ x ∈ rws ss, x.length ≤ m :=
  ⟨by rw [rws_len]; exact h.1, fun x hx => by obtain ⟨s, hs, rfl⟩ := List.mem_map.1 hx; exact h.2 s hs⟩
theorem fit_square {n m : Nat} {X : List (List Int)} (hn : X.length ≤ n) (hm : ∀ x ∈ X, x.length ≤ m) (h : n + n * m ≤ 1048576) : MFit X := by
  have hx : xsum X ≤ X.length * m := by
    clear hn h
    induction X with
    | nil => simp [xsum]
    | cons x X ih =>
      have h1 := hm x (by simp)
      have h2 := ih (fun y hy => hm y (by simp [hy]))
      simp only [xsum, List.length_cons]
      rw [Nat.add_mul]; omega
  unfold MFit
  have := Nat.mul_le_mul_right m hn
  omega
end Go.Proofs.Ytdlgailodhlbmaa
