/- Asks: what their records are, and which are right: plain. -/
import Derived.Test.YtendbipfmgnjkaaAkR
import Derived.Test.YtendbipfmgnjkaaEdA
import Derived.Test.YtendbipfmgnjkaaLeM
namespace Go.Proofs.Ytendbipfmgnjkaa
set_option maxRecDepth 100000
open Go.RowKit

/-- The record of an ask. -/
def edOf (q : AkM) : EM :=
  if q.kind = 1 then ⟨1, q.path, ⟨#[]⟩, 0, 0⟩
  else if q.kind = 2 then ⟨2, q.path, ⟨#[]⟩, 0, q.who⟩
  else if q.kind = 3 then ⟨7, q.path, ⟨#[]⟩, (q.text.size : Int), 0⟩
  else if q.kind = 4 then ⟨8, q.path, ⟨#[]⟩, 0, 0⟩
  else if q.kind = 5 then ⟨3, q.path, q.dest, 0, 0⟩
  else if q.kind = 6 then ⟨4, q.path, ⟨#[]⟩, 0, 0⟩
  else if q.kind = 8 then ⟨5, q.path, ⟨#[]⟩, q.num, 0⟩
  else if q.kind = 9 then ⟨6, q.path, ⟨#[]⟩, q.num, 0⟩
  else if q.kind = 10 then ⟨9, q.path, ⟨#[]⟩, 0, q.who⟩
  else ⟨0, ⟨#[]⟩, ⟨#[]⟩, 0, 0⟩
/-- A right ask. -/
def askOk (q : AkM) : Bool :=
  inI q.kind 1 10 && inI q.who 1 9 && !(q.kind != 5 && (q.dest.toList != [])) && !(q.kind != 8 && q.kind != 9 && (q.num != 0)) && (if q.kind = 3 then inI (q.text.size : Int) 1 60 else (q.text.toList == [])) && (if q.kind = 7 then named q.path else editOk (edOf q))
/-- Is a path one, or below it? -/
def underX (p top : ByteArray) : Bool := (p.toList == top.toList) || (decide (top.size < p.size) && ((p.extract 0 (top.size + 1)).toList == (top ++ ⟨#[47]⟩).toList))
/-- What keeps who asks from writing. -/
def mayX (L : List LsM) (q : AkM) : Int :=
  if q.kind = 3 then (if holderX L q.path = q.who then 0 else 6)
  else if q.kind = 4 ∨ q.kind = 10 then (if holderX L q.path = 0 ∨ holderX L q.path = q.who then 0 else 6)
  else if q.kind = 5 ∨ q.kind = 6 then (if L.any (fun l => (l.who != q.who) && underX l.path q.path) then 6 else 0)
  else 0
/-- Does a lease of another one lie at a path, or below it? -/
def barX (who : Int) (p : ByteArray) (l : LsM) : Bool := (l.who != who) && underX l.path p
theorem mayX_bar {L : List LsM} {q : AkM} (h : q.kind = 5 ∨ q.kind = 6) : mayX L q = if L.any (barX q.who q.path) then 6 else 0 := by
  unfold mayX
  rw [if_neg (by omega), if_neg (by omega), if_pos h]
  rfl
theorem bar_yes {L : List LsM} {who : Int} {p : ByteArray} {k : Nat} (hk : k < L.length) (h : barX who p L[k] = true) : L.any (barX who p) = true := List.any_eq_true.2 ⟨_, List.getElem_mem hk, h⟩
theorem bar_no {L : List LsM} {who : Int} {p : ByteArray} (h : ∀ j (hj : j < L.length), barX who p L[j] = false) : L.any (barX who p) = false := by
  cases e : L.any (barX who p) with
  | false => rfl
  | true =>
    obtain ⟨x, hx, hb⟩ := List.any_eq_true.1 e
    obtain ⟨j, hj, rfl⟩ := List.getElem_of_mem hx
    rw [h j hj] at hb
    cases hb
theorem edOf_fit {q : AkM} (h : q.path.size ≤ 1048576) (k : q.dest.size ≤ 1048576) : EFit (edOf q) := by
  unfold edOf
  repeat' split
  all_goals exact ⟨by first | exact h | exact Nat.zero_le _, by first | exact k | exact Nat.zero_le _⟩
end Go.Proofs.Ytendbipfmgnjkaa
