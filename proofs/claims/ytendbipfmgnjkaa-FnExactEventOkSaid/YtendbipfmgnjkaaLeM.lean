/- Leases, plain: what each function of the chapter answers, as lists. -/
import Derived.Test.YtendbipfmgnjkaaEdA
import Derived.Test.YtendbipfmgnjkaaLsA
namespace Go.Proofs.Ytendbipfmgnjkaa
set_option maxRecDepth 100000
open Go.RowKit

/-- Two texts in order. -/
abbrev lt9 (a b : ByteArray) : Bool := Op.bytesLess a.toList b.toList
/-- A lease that is right by itself. -/
def lsOne (f : LsM) : Bool := named f.path && inI f.who 1 9 && inI f.seen 0 1000000000
/-- .. and at its place. -/
def lsAt (L : List LsM) (k : Nat) : Bool := lsOne (L.getD k default) && (decide (k = 0) || lt9 (L.getD (k - 1) default).path (L.getD k default).path)
def leasesOk (L : List LsM) : Bool := ((List.range L.length).all (lsAt L)) && decide (L.length ≤ 8)
/-- The first lease of a path. -/
def lsIdx (L : List LsM) (p : ByteArray) : Nat := L.findIdx fun f => f.path.toList == p.toList
def takeOk (L : List LsM) (p : ByteArray) (who now : Int) : Bool := leasesOk L && named p && inI who 1 9 && inI now 0 1000000000
/-- Those ahead of a path, and those behind it. -/
def lsLow (L : List LsM) (p : ByteArray) : List LsM := L.filter fun f => lt9 f.path p
def lsHigh (L : List LsM) (p : ByteArray) : List LsM := L.filter fun f => !(lt9 f.path p) && !(f.path.toList == p.toList)
def takeX (L : List LsM) (p : ByteArray) (who now : Int) : List LsM × Bool :=
  if takeOk L p who now then
    if lsIdx L p < L.length then
      if (L.getD (lsIdx L p) default).who ≠ who ∧ now - (L.getD (lsIdx L p) default).seen < 5 then (L, false)
      else (L.set (lsIdx L p) ⟨(L.getD (lsIdx L p) default).path, who, now⟩, true)
    else if L.length = 8 then (L, false) else (lsLow L p ++ [⟨p, who, now⟩] ++ lsHigh L p, true)
  else (L, false)
def renewX (L : List LsM) (who now : Int) : List LsM := L.map fun f => if f.who = who then ⟨f.path, f.who, now⟩ else f
def dropX9 (L : List LsM) (p : ByteArray) : List LsM := L.filter fun f => !(f.path.toList == p.toList)
def isOld (f : LsM) (now : Int) : Bool := inI f.seen 0 1000000000 && inI now 0 1000000000 && decide (12 ≤ now - f.seen)
def expiredX (L : List LsM) (now : Int) : List ByteArray := (L.filter fun f => isOld f now).map (·.path)
def holderX (L : List LsM) (p : ByteArray) : Int := if lsIdx L p < L.length then (L.getD (lsIdx L p) default).who else 0
/-- What is in a list of leases: few, and their paths short. -/
def LsSmall (L : List LsM) : Prop := L.length ≤ 1048576 ∧ (∀ f ∈ L, f.path.size ≤ 1048576) ∧ LsFits L
theorem leasesOk_len {L : List LsM} (h : leasesOk L = true) : L.length ≤ 8 := by
  unfold leasesOk at h
  rw [Bool.and_eq_true, decide_eq_true_eq] at h
  exact h.2
theorem leasesOk_at {L : List LsM} (h : leasesOk L = true) (k : Nat) (hk : k < L.length) : lsAt L k = true := by
  unfold leasesOk at h
  rw [Bool.and_eq_true] at h
  exact List.all_eq_true.1 h.1 k (by simpa using hk)
theorem leasesOk_mk {L : List LsM} (h : ∀ k, k < L.length → lsAt L k = true) (hl : L.length ≤ 8) : leasesOk L = true := by
  unfold leasesOk
  rw [Bool.and_eq_true, decide_eq_true_eq]
  exact ⟨List.all_eq_true.2 fun k hk => h k (by simpa using hk), hl⟩
theorem getD_ls (L : List LsM) (k : Nat) (h : k < L.length) : L.getD k default = L[k] := by simp [List.getD, h]
theorem lsIdx_found {L : List LsM} {p : ByteArray} {k : Nat} (hk : k < L.length) (h : (L[k].path.toList == p.toList) = true) (hb : ∀ j (hj : j < L.length), j < k → (L[j].path.toList == p.toList) = false) : lsIdx L p = k := by
  unfold lsIdx
  rw [List.findIdx_eq hk]
  exact ⟨h, fun j hj => hb j (by omega) hj⟩
theorem lsIdx_none {L : List LsM} {p : ByteArray} (hb : ∀ j (hj : j < L.length), (L[j].path.toList == p.toList) = false) : lsIdx L p = L.length := by
  unfold lsIdx
  rw [List.findIdx_eq_length]
  intro x hx
  obtain ⟨j, hj, rfl⟩ := List.getElem_of_mem hx
  exact hb j hj
theorem filter_take {α : Type} (f : α → Bool) (L : List α) (k : Nat) (h : k < L.length) : (L.take (k + 1)).filter f = (L.take k).filter f ++ if f L[k] = true then [L[k]] else [] := by
  rw [List.take_succ_eq_append_getElem h, List.filter_append]
  congr 1
  split <;> simp [*]
end Go.Proofs.Ytendbipfmgnjkaa
