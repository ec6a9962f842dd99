/- The walk of the law on numbers: what is drawn is written and read back. -/
import Derived.Test.YtphhiomiiapcpaaDoorDrawC
import Derived.Test.YtphhiomiiapcpaaDoorVar
import Derived.Test.YtphhiomiiapcpaaDoorReadVar
import Derived.Test.YtphhiomiiapcpaaDoorShortText
import Derived.Test.YtphhiomiiapcpaaDoorReadShort
import Derived.Test.YtphhiomiiapcpaaDoorHex
import Derived.Test.YtphhiomiiapcpaaDoorUnhex
import Derived.Test.YtphhiomiiapcpaaDoorReadDec
import Derived.Test.YtphhiomiiapcpaaDoorDecI
import Derived.Test.YtphhiomiiapcpaaDoorRoundM
namespace Go.Proofs.YtphhiomiiapcpaaDoor.fnNumbers
open Go.RowKit

theorem big_any (a : Option Addr) (len cap : Nat) (w : World) :
    Calls Tryd.prog 4 #[.slice a len cap] w fun e w' => e = .returned (.bool (decide ((1048576 : Int) < len))) ∧ w' = w := by
  go_enter Tryd.func4, Tryd.ntmps4
  go_wp2_with fail
  go_ret
  exact ⟨rfl, rfl⟩

/-- "x", the bytes of n, "y". -/
def framed (n : Nat) : ByteArray := ((⟨#[120]⟩ : ByteArray) ++ ⟨(W.vt n).toArray⟩) ++ ⟨#[121]⟩
theorem framed_size (n : Nat) : (framed n).size = (W.vt n).length + 2 := by
  unfold framed; simp [ByteArray.size]
theorem framed_back (n : Nat) (hn : n ≤ 1000000000) : readVarI (framed n) 1 = some (n, 1 + (W.vt n).length) := by
  have hs := framed_size n
  unfold readVarI
  rw [if_pos (by omega)]
  exact W.readVar_back (framed n) 1 n [121] hn (by unfold framed; simp)
theorem short_size (t : ByteArray) : (shortB t).size = (W.vt t.size).length + t.size := by
  unfold shortB; rw [ByteArray.size_append]; rfl
theorem short_back (t : ByteArray) (ht : t.size ≤ 20000) : readShortI (shortB t) 0 = some (t, (shortB t).size) := by
  have hs := short_size t
  have hr : readVarI (shortB t) 0 = some (t.size, (W.vt t.size).length) := by
    unfold readVarI
    rw [if_pos (by omega)]
    have := W.readVar_back (shortB t) 0 t.size t.data.toList (by omega) (by unfold shortB; simp)
    simpa using this
  unfold readShortI
  rw [hr]
  have e : (shortB t).extract (W.vt t.size).length ((W.vt t.size).length + t.size) = t := by
    apply Go.WideShapes.bytes_inj
    have e2 : (shortB t).data.toList = W.vt t.size ++ t.data.toList := by unfold shortB; simp
    have e4 : ((shortB t).extract (W.vt t.size).length ((W.vt t.size).length + t.size)).data.toList = ((shortB t).data.toList.drop (W.vt t.size).length).take ((W.vt t.size).length + t.size - (W.vt t.size).length) := by simp [ByteArray.data_extract]
    rw [e4, e2, List.drop_left' rfl, Nat.add_sub_cancel_left]
    exact List.take_of_length_le (Nat.le_refl _)
  show (if _ then some (_, _) else none) = _
  rw [if_pos ⟨ht, by omega⟩, e, hs]

theorem vt_len5 (n : Nat) (h : n ≤ 1000000000) : (W.vt n).length ≤ 1048000 := by
  have key : ∀ f m, m < 128 ^ f → (W.vt m).length ≤ f + 1 := by
    intro f
    induction f with
    | zero => intro m hm; have : m = 0 := by simpa using hm
              subst this; simp [W.vt, W.vtF]
    | succ f ih =>
      intro m hm
      by_cases hb : 127 < m
      · rw [W.vt_big m hb]
        have := ih (m / 128) (by rw [Nat.pow_succ] at hm; omega)
        simp; omega
      · rw [W.vt_small m (by omega)]; simp
  have := key 5 n (by omega)
  omega
end Go.Proofs.YtphhiomiiapcpaaDoor.fnNumbers
