/- The walk of the exact law over ApplyM, over what is told of the program's own function at every argument (written by gen/mklawmat.py). -/
import Derived.Test.YtdlgailodhlbmaaLawMa
import Derived.Test.YtdlgailodhlbmaaMatK
import Derived.Test.YtdlgailodhlbmaaStrW
namespace Go.Proofs.Ytdlgailodhlbmaa
open Go.RowKit
open W (B8 Mx)
attribute [local irreducible] W.gm W.xs W.mm W.gi mx mulX invX oneX matOk xsum appX tsum

theorem appX_len (X : List (List Int)) (L : List ByteArray) : (appX X L).length ≤ 8 := by
  by_cases h : matOk X = true ∧ colsOf X = L.length
  · unfold appX; rw [if_pos h, List.length_map]; exact (matOk_iff h.1).1.2
  · rw [appX_no h]; exact Nat.zero_le _

end Go.Proofs.Ytdlgailodhlbmaa
