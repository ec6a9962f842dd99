/- A text that is cut to units and joined of them again (plain). Nothing of the program is read here. -/
import Derived.Test.YtpcedackanfnjaaSpnD
namespace Go.Proofs.Ytpcedackanfnjaa
open Go.RowKit

def inUnit (k n u : Nat) : List Nat := (List.range n).filter fun j => decide (unitAt k j = u)
def chkPlace (k : Nat) : Bool := (List.range (k * 8 + 1)).all fun n => (List.range n).all fun i => (inUnit k n (unitAt k i))[placeIn k i]? == some i
def chkSize (k : Nat) : Bool := (List.range (k * 8 + 1)).all fun n => (List.range k).all fun u => decide ((inUnit k n u).length ≤ 8)
def chkSum (k : Nat) : Bool := (List.range (k * 8 + 1)).all fun n => decide (((List.range k).map fun u => (inUnit k n u).length).sum = n)
theorem place_2 : chkPlace 2 = true := by decide +kernel
theorem place_3 : chkPlace 3 = true := by decide +kernel
theorem place_4 : chkPlace 4 = true := by decide +kernel
theorem size_2 : chkSize 2 = true := by decide +kernel
theorem size_3 : chkSize 3 = true := by decide +kernel
theorem size_4 : chkSize 4 = true := by decide +kernel
theorem sum_2 : chkSum 2 = true := by decide +kernel
theorem sum_3 : chkSum 3 = true := by decide +kernel
theorem sum_4 : chkSum 4 = true := by decide +kernel
theorem sch_k {s : Int} (h : schOk s = true) : schK s = 2 ∨ schK s = 3 ∨ schK s = 4 := by
  have := sch_bounds h; omega
theorem place_all {k n i : Nat} (hk : k = 2 ∨ k = 3 ∨ k = 4) (hn : n ≤ k * 8) (hi : i < n) : (inUnit k n (unitAt k i))[placeIn k i]? = some i := by
  have h : chkPlace k = true := by
    rcases hk with rfl | rfl | rfl
    · exact place_2
    · exact place_3
    · exact place_4
  unfold chkPlace at h
  simp only [List.all_eq_true, List.mem_range, beq_iff_eq] at h
  exact h n (by omega) i hi
theorem size_all {k n u : Nat} (hk : k = 2 ∨ k = 3 ∨ k = 4) (hn : n ≤ k * 8) (hu : u < k) : (inUnit k n u).length ≤ 8 := by
  have h : chkSize k = true := by
    rcases hk with rfl | rfl | rfl
    · exact size_2
    · exact size_3
    · exact size_4
  unfold chkSize at h
  simp only [List.all_eq_true, List.mem_range, decide_eq_true_eq] at h
  exact h n (by omega) u hu
theorem sum_all {k n : Nat} (hk : k = 2 ∨ k = 3 ∨ k = 4) (hn : n ≤ k * 8) : ((List.range k).map fun u => (inUnit k n u).length).sum = n := by
  have h : chkSum k = true := by
    rcases hk with rfl | rfl | rfl
    · exact sum_2
    · exact sum_3
    · exact sum_4
  unfold chkSum at h
  simp only [List.all_eq_true, List.mem_range, decide_eq_true_eq] at h
  exact h n (by omega)
theorem unitB_list (k : Nat) (t : ByteArray) (n u : Nat) : (unitB k t n u).data.toList = (inUnit k n u).map fun j => t.data.toList.getD j 0 := rfl
theorem unitB_len (k : Nat) (t : ByteArray) (n u : Nat) : (unitB k t n u).size = (inUnit k n u).length := by
  show (List.map _ _).toArray.size = _
  rw [List.size_toArray, List.length_map]; rfl
theorem joinAt_cut {k n i : Nat} {t : ByteArray} (hk : k = 2 ∨ k = 3 ∨ k = 4) (hn : n ≤ k * 8) (hi : i < n) : joinAt k (cutL k t n) i = t.data.toList.getD i 0 := by
  unfold joinAt
  rw [cutL_at (unit_lt (by omega) i), unitB_list, List.getD_eq_getElem?_getD, List.getElem?_map, place_all hk hn hi]
  rfl
theorem joinL_cut {k n m : Nat} {t : ByteArray} (hk : k = 2 ∨ k = 3 ∨ k = 4) (hn : n ≤ k * 8) (hm : m ≤ n) (ht : n = t.size) : (⟨(joinL k (cutL k t n) m).toArray⟩ : ByteArray) = t.extract 0 m := by
  apply ByteArray.ext
  simp only [ByteArray.data_extract]
  have hts : t.data.size = n := ht.symm
  apply Array.ext
  · simp [joinL]; omega
  · intro j h1 h2
    have hj : j < m := by simpa [joinL] using h1
    simp only [joinL, List.getElem_toArray, List.getElem_map, List.getElem_range]
    rw [joinAt_cut hk hn (by omega), Array.getElem_extract, List.getD_eq_getElem?_getD, Array.getElem?_toList, Array.getElem?_eq_getElem (by omega : j < t.data.size), Option.getD_some]
    congr 1
    omega
theorem cut_ok {s : Int} {t : ByteArray} (h : schOk s = true) (ht : t.size ≤ groupN s) : cutX s t = (cutL (schK s) t t.size, true) := if_pos ⟨h, ht⟩
/-- A text that was cut, or any beginning of it, is joined of its units again. -/
theorem join_cut {s : Int} {t : ByteArray} (h : schOk s = true) (ht : t.size ≤ groupN s) {m : Nat} (hm : m ≤ t.size) : joinX s (cutX s t).1 (m : Int) = (t.extract 0 m, true) := by
  rw [cut_ok h ht]
  unfold joinX
  rw [if_pos ⟨h, cutL_len _ _ _, by omega, by omega⟩]
  rw [Int.toNat_natCast, joinL_cut (sch_k h) ht hm rfl]
theorem cut_sizes {s : Int} {t : ByteArray} (h : schOk s = true) (ht : t.size ≤ groupN s) : ∀ x ∈ (cutX s t).1, x.size ≤ 8 := by
  rw [cut_ok h ht]
  intro x hx
  obtain ⟨u, hu, rfl⟩ := List.mem_map.1 hx
  rw [unitB_len]
  exact size_all (sch_k h) ht (List.mem_range.1 hu)
theorem cut_sum {s : Int} {t : ByteArray} (h : schOk s = true) (ht : t.size ≤ groupN s) : ((cutX s t).1.map ByteArray.size).sum = t.size := by
  rw [cut_ok h ht]
  show ((List.map _ _).map _).sum = _
  rw [List.map_map]
  have : (ByteArray.size ∘ unitB (schK s) t t.size) = fun u => (inUnit (schK s) t.size u).length := by
    funext u
    exact unitB_len _ _ _ _
  rw [this]
  exact sum_all (sch_k h) ht
end Go.Proofs.Ytpcedackanfnjaa
