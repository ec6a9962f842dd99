/- Hosts and units, plain: what each function of the chapter answers. -/
import Derived.Test.YtendbipfmgnjkaaTreM
import Derived.Test.YtendbipfmgnjkaaUnR
import Derived.Test.YtendbipfmgnjkaaSumS
namespace Go.Proofs.Ytendbipfmgnjkaa
set_option maxRecDepth 100000
open Go.RowKit

/-- A host. -/
structure HM where
  id : Int
  up : Bool
  us : List UnM
instance : Inhabited HM := ⟨⟨0, false, []⟩⟩
/-- The sum of a text, as a number. -/
def sumN (t : ByteArray) : Int := ((W.sumOf t).toNat : Int)
/-- One unit ahead of another. -/
def unLt (a b : UnM) : Bool := decide (a.group < b.group) || (a.group == b.group && decide (a.index < b.index))
def unOne (u : UnM) : Bool := inI u.group 1 100000 && inI u.index 0 5 && decide (u.text.size ≤ 200) && inI u.sum 0 4294967295
def unAt (L : List UnM) (k : Nat) : Bool := unOne (L.getD k default) && (decide (k = 0) || unLt (L.getD (k - 1) default) (L.getD k default))
def unitsOk (L : List UnM) : Bool := (List.range L.length).all (unAt L)
def hostOk (h : HM) : Bool := unitsOk h.us && inI h.id 1 7
def unIdx (L : List UnM) (g i : Int) : Nat := L.findIdx fun u => u.group == g && u.index == i
def putL (L : List UnM) (u : UnM) : List UnM := L.filter (unLt · u) ++ [u] ++ L.filter (unLt u ·)
def summed (u : UnM) : UnM := ⟨u.group, u.index, u.text, sumN u.text⟩
def putX (h : HM) (u : UnM) : HM × Bool :=
  if hostOk h && h.up && hostOk ⟨h.id, h.up, putL h.us (summed u)⟩ then (⟨h.id, h.up, putL h.us (summed u)⟩, true) else (h, false)
def unSound (u : UnM) : Bool := u.sum == sumN u.text
def getX (h : HM) (g i : Int) : ByteArray × Bool :=
  if h.up && decide (unIdx h.us g i < h.us.length) && unSound (h.us.getD (unIdx h.us g i) default) then ((h.us.getD (unIdx h.us g i) default).text, true) else (⟨#[]⟩, false)
def dropU (h : HM) (g i : Int) : HM × Bool :=
  if unIdx h.us g i < h.us.length then (⟨h.id, h.up, h.us.take (unIdx h.us g i) ++ h.us.drop (unIdx h.us g i + 1)⟩, true) else (h, false)
/-- A text with one byte turned. -/
def turnAt (t : ByteArray) (i : Nat) : ByteArray := ⟨(t.data.toList.set i ((t.data.toList.getD i 0) ^^^ 1)).toArray⟩
def spoilX (h : HM) (g i at9 : Int) : HM × Bool :=
  if decide (unIdx h.us g i < h.us.length) && decide (0 ≤ at9) && !((h.us.getD (unIdx h.us g i) default).text.toList == []) && unSound (h.us.getD (unIdx h.us g i) default) then
    (⟨h.id, h.up, h.us.set (unIdx h.us g i) ⟨(h.us.getD (unIdx h.us g i) default).group, (h.us.getD (unIdx h.us g i) default).index, turnAt (h.us.getD (unIdx h.us g i) default).text (at9.toNat % (h.us.getD (unIdx h.us g i) default).text.size), (h.us.getD (unIdx h.us g i) default).sum⟩⟩, true)
  else (h, false)
end Go.Proofs.Ytendbipfmgnjkaa
