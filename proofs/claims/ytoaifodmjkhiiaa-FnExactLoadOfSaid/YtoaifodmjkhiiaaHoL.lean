/- How many units a host has behind a call; plain. -/
import Derived.Test.YtoaifodmjkhiiaaUnM
namespace Go.Proofs.Ytoaifodmjkhiiaa
set_option maxRecDepth 100000
open Go.RowKit

theorem spoilX_len (H : HM) (g i at9 : Int) : (spoilX H g i at9).1.us.length = H.us.length := by
  unfold spoilX
  split
  · exact List.length_set
  · rfl
theorem dropU_len (H : HM) (g i : Int) : (dropU H g i).1.us.length ≤ H.us.length := by
  unfold dropU
  split
  · simp only [List.length_append, List.length_take, List.length_drop]; omega
  · exact Nat.le_refl _
theorem putL_len (L : List UnM) (u : UnM) : (putL L u).length ≤ 2 * L.length + 1 := by
  unfold putL
  have l1 := List.length_filter_le (unLt · u) L
  have l2 := List.length_filter_le (unLt u ·) L
  simp only [List.length_append, List.length_singleton]
  omega
theorem putX_len (H : HM) (u : UnM) : (putX H u).1.us.length ≤ 2 * H.us.length + 1 := by
  unfold putX
  split
  · exact putL_len _ _
  · show H.us.length ≤ _; omega
theorem len_or {m n k : Nat} (h : m ≤ 2 * n + 1) (hk : 2 * 1048576 + 1 ≤ k) : m ≤ k ∨ 1048576 < n := by omega
end Go.Proofs.Ytoaifodmjkhiiaa
