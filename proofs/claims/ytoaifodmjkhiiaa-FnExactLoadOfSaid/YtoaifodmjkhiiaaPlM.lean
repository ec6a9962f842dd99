/- Where units go, plain: loads, the order of hosts, the hosts of a group. -/
import Derived.Test.YtoaifodmjkhiiaaUnM
namespace Go.Proofs.Ytoaifodmjkhiiaa
set_option maxRecDepth 100000
open Go.RowKit

/-- A host's load, and its number. -/
def keyP (h : HM) : Nat × Int := (h.us.length, h.id)
def plLe (a b : Nat × Int) : Bool := decide (a.1 < b.1) || (a.1 == b.1 && decide (a.2 ≤ b.2))
theorem plLe_iff (a b : Nat × Int) : plLe a b = true ↔ a.1 < b.1 ∨ (a.1 = b.1 ∧ a.2 ≤ b.2) := by
  unfold plLe
  simp
def upPairs (hs : List HM) : List (Nat × Int) := (hs.filter fun h => h.up).map keyP
def ordP (hs : List HM) : List (Nat × Int) := (upPairs hs).mergeSort plLe
theorem ordP_up (hs : List HM) : (ordP hs).Pairwise fun a b => plLe a b = true :=
  List.pairwise_mergeSort (fun a b c h k => by rw [plLe_iff] at *; omega) (fun a b => by rw [Bool.or_eq_true, plLe_iff, plLe_iff]; omega) _
theorem ordP_perm (hs : List HM) : (ordP hs).Perm (upPairs hs) := List.mergeSort_perm _ _
theorem ordP_len (hs : List HM) : (ordP hs).length = (hs.filter fun h => h.up).length := by rw [(ordP_perm hs).length_eq]; simp [upPairs]
/-- Whoever puts them in order puts them so. -/
theorem ordP_of {hs : List HM} {L : List (Nat × Int)} (hp : L.Perm (upPairs hs)) (hu : L.Pairwise fun a b => plLe a b = true) : L = ordP hs :=
  List.Perm.eq_of_pairwise (le := fun a b => plLe a b = true) (fun a b _ _ h k => by
    rw [plLe_iff] at h k
    exact Prod.ext (by omega) (by omega)) hu (ordP_up hs) (hp.trans (ordP_perm hs).symm)
/-- The hosts of a group. -/
def plcX (hs : List HM) (n : Int) : List Int × Bool :=
  if 0 ≤ n ∧ n ≤ ((ordP hs).length : Int) then (((ordP hs).take n.toNat).map Prod.snd, true) else ([], false)
theorem plc_len (hs : List HM) (n : Int) : (plcX hs n).1.length ≤ hs.length := by
  unfold plcX
  split
  · have h1 := ordP_len hs
    have h2 := List.length_filter_le (fun h : HM => h.up) hs
    simp only [List.length_map, List.length_take]
    omega
  · exact Nat.zero_le _
end Go.Proofs.Ytoaifodmjkhiiaa
