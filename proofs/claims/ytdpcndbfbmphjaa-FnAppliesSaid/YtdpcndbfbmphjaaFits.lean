/- Rows that are answered are rows that a machine can hold. -/
import Derived.Test.YtdpcndbfbmphjaaLawMa
import Derived.Test.YtdpcndbfbmphjaaMatI
namespace Go.Proofs.Ytdpcndbfbmphjaa
open Go.RowKit
open W (B8 Mx)
attribute [local irreducible] W.gm W.xs W.mm W.gi mx mulX invX oneX matOk xsum

theorem fit_one (x : Int) : MFit (oneX x) := by
  unfold oneX
  split
  · refine fit_square (n := 8) (m := 8) (by simp; omega) (fun y hy => ?_) (by omega)
    obtain ⟨i, _, rfl⟩ := List.mem_map.1 hy
    rw [oneRow_len]; omega
  · unfold MFit; simp [xsum]
theorem fit_mul (X Y : List (List Int)) : MFit (mulX X Y) := by
  by_cases h : matOk X = true ∧ matOk Y = true ∧ colsOf X = Y.length
  · unfold mulX
    rw [if_pos h]
    obtain ⟨⟨_, h1⟩, _, _⟩ := matOk_iff h.1
    obtain ⟨_, ⟨_, h2⟩, _⟩ := matOk_iff h.2.1
    refine fit_square (n := 8) (m := 8) (by simp [rowsX]; exact h1) (fun y hy => ?_) (by omega)
    obtain ⟨i, _, rfl⟩ := List.mem_map.1 hy
    simpa using h2
  · rw [mulX_no h]; unfold MFit; simp [xsum]
theorem fit_inv (X : List (List Int)) : MFit (invX X).1 := by
  by_cases h : ∃ Y, IsInv X Y
  · obtain ⟨Y, h⟩ := h
    rw [invX_yes h]
    obtain ⟨⟨_, h1⟩, _, _⟩ := matOk_iff h.1
    exact fit_square (n := 8) (m := 8) (by rw [h.2.2.1.len]; exact h1) (fun y hy => by rw [(h.2.2.1.row y hy).1]; exact h1) (by omega)
  · rw [invX_no h]; unfold MFit; simp [xsum]
end Go.Proofs.Ytdpcndbfbmphjaa
