/- The walk of the model's l10File. -/
import Derived.Test.YtendbipfmgnjkaaTreP
namespace Go.Proofs.Ytendbipfmgnjkaa
set_option maxRecDepth 100000
open Go.RowKit
attribute [local go_sem ↓] Go.wp_at_zero Go.wp_at_succ

theorem isInI (x a b : Int) (w : World) (r : Bool) (h : inI x a b = r) : Calls Try.prog 24 #[.int .i64 x, .int .i64 a, .int .i64 b] w fun e w' => e = .returned (.bool r) ∧ w' = w := isIn x a b w r h
theorem fileOk_no1 {n : NM} (h : inI n.schema 1 3 = false) : fileOk n = false := by unfold fileOk; rw [h]; rfl
theorem fileOk_no2 {n : NM} (h : n.quota ≠ 0) : fileOk n = false := by unfold fileOk; rw [show (n.quota == 0) = false by simpa using h]; simp
theorem fileOk_no3 {n : NM} (h : ¬ n.pieces.length ≤ 40) : fileOk n = false := by unfold fileOk; rw [decide_eq_false h]; simp
theorem fileOk_no4 {n : NM} (h : inI n.writer 0 9 = false) : fileOk n = false := by unfold fileOk; rw [h]; simp
theorem fileOk_no5 {n : NM} {p : PM} (hp : p ∈ n.pieces) (h : pieceOk n.schema p = false) : fileOk n = false := by
  have : n.pieces.all (pieceOk n.schema) = false := by
    cases e : n.pieces.all (pieceOk n.schema) with
    | false => rfl
    | true => rw [List.all_eq_true] at e; rw [e p hp] at h; cases h
  unfold fileOk; rw [this]; simp
theorem fileOk_yes {n : NM} (h1 : inI n.schema 1 3 = true) (h2 : n.quota = 0) (h3 : n.pieces.length ≤ 40) (h4 : inI n.writer 0 9 = true) (h5 : ∀ p ∈ n.pieces, pieceOk n.schema p = true) : fileOk n = ((sumP n.pieces == n.len) && decide (sumP n.pieces ≤ 1000)) := by
  unfold fileOk
  rw [h1, h2, decide_eq_true h3, h4, show n.pieces.all (pieceOk n.schema) = true from List.all_eq_true.2 h5]
  simp
end Go.Proofs.Ytendbipfmgnjkaa
