/- The walks of the two ShortText. -/
import Derived.Test.YtphhiomiiapcpaaDoorVar
namespace Go.Proofs.YtphhiomiiapcpaaDoor
open Go.RowKit

/-- What ShortText writes. -/
def shortB (s : ByteArray) : ByteArray := ⟨(W.vt s.size).toArray⟩ ++ s

theorem implShortText_no (s : ByteArray) (w : World) (h : 20000 < s.size) :
    Calls Tryd.prog 11 #[.string s] w fun e w' => e = .returned (.tuple #[.string ⟨#[]⟩, .bool false]) ∧ Below w.heap.size w w' := by
  go_enter Tryd.func11, Tryd.ntmps11
  go_wp2_with fail
  go_ret2
  exact ⟨rfl, Below.refl _ _⟩
theorem implShortText_yes (s : ByteArray) (w : World) (h : s.size ≤ 20000) :
    Calls Tryd.prog 11 #[.string s] w fun e w' => e = .returned (.tuple #[.string (shortB s), .bool true]) ∧ Below w.heap.size w w' := by
  have hl := W.vt_len s.size
  go_enter Tryd.func11, Tryd.ntmps11
  go_wp2_with fail
  refine (implVarText_yes s.size _ (by omega)).mono ?_
  rintro e w1 ⟨rfl, hb⟩
  go_wp2_with fail
  go_ret2
  exact ⟨rfl, hb⟩
end Go.Proofs.YtphhiomiiapcpaaDoor
