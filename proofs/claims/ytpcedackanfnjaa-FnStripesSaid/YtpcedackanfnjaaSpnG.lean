/- Places and spans, plain. Nothing of the program is read here. -/
import Derived.Test.YtpcedackanfnjaaSpnF
namespace Go.Proofs.Ytpcedackanfnjaa
open Go.RowKit

theorem place_ok {s : Int} (h : schOk s = true) {o : Nat} (ho : o ≤ 100000) : placeX s (o : Int) = (o / (schK s * 8), unitAt (schK s) o, placeIn (schK s) o) := by
  unfold placeX
  rw [if_pos ⟨h, by omega, by omega⟩, Int.toNat_natCast]
theorem placeIn_lt {k o : Nat} (hk : k = 2 ∨ k = 3 ∨ k = 4) : placeIn k o < 8 := by
  unfold placeIn
  rcases hk with rfl | rfl | rfl <;> omega
theorem place_off {k o : Nat} (hk : k = 2 ∨ k = 3 ∨ k = 4) : o / (k * 8) * (k * 8) + (placeIn k o / 4 * k + unitAt k o) * 4 + placeIn k o % 4 = o := by
  unfold placeIn unitAt
  rcases hk with rfl | rfl | rfl <;> omega
theorem place_next {k o : Nat} (hk : k = 2 ∨ k = 3 ∨ k = 4) (h : (o + 1) % 4 ≠ 0) : (o + 1) / (k * 8) = o / (k * 8) ∧ unitAt k (o + 1) = unitAt k o ∧ placeIn k (o + 1) = placeIn k o + 1 := by
  unfold placeIn unitAt
  rcases hk with rfl | rfl | rfl <;> (refine ⟨?_, ?_, ?_⟩ <;> omega)
theorem off_place {s : Int} (h : schOk s = true) {o : Nat} (ho : o ≤ 100000) : offX s ((o / (schK s * 8) : Nat) : Int) ((unitAt (schK s) o : Nat) : Int) ((placeIn (schK s) o : Nat) : Int) = (o : Int) := by
  have hk := sch_k h
  have h1 := placeIn_lt (o := o) hk
  have h2 := unit_lt (k := schK s) (by omega) o
  have h3 := place_off (o := o) hk
  have h4 : o / (schK s * 8) ≤ o := Nat.div_le_self _ _
  have e : ((o / (schK s * 8) : Nat) : Int) * ((schK s * 8 : Nat) : Int) + (((placeIn (schK s) o : Nat) : Int) / 4 * (schK s : Int) + ((unitAt (schK s) o : Nat) : Int)) * 4 + ((placeIn (schK s) o : Nat) : Int) % 4 = (o : Int) := by
    have q := congrArg (fun n : Nat => (n : Int)) h3
    simpa using q
  generalize o / (schK s * 8) = G at *
  unfold offX
  rw [if_pos ⟨h, ⟨by omega, by omega⟩, ⟨by omega, by omega⟩, by omega, by omega⟩, e, if_neg (by omega)]
theorem off_neg (s : Int) : offX s (-1) 0 0 = -1 := offX_no (fun h => by have := h.2.1.1; omega)
theorem span_len (S n : Nat) : (spanL S n).length = (n - 1) / S + 1 := by simp [spanL]
theorem span_full {S n i : Nat} (h : i < (n - 1) / S) : (spanL S n).getD i 0 = (S : Int) := by
  unfold spanL
  rw [List.getD_eq_getElem?_getD, List.getElem?_append_left (by simpa using h), List.getElem?_replicate, if_pos h]; rfl
theorem span_end {S n : Nat} : (spanL S n).getD ((n - 1) / S) 0 = ((n - (n - 1) / S * S : Nat) : Int) := by
  unfold spanL
  rw [List.getD_eq_getElem?_getD, List.getElem?_append_right (by simp)]
  simp
theorem span_rest {S n : Nat} (hn : 1 ≤ n) : (n - 1) / S * S + 1 ≤ n := by
  have := Nat.div_mul_le_self (n - 1) S
  omega
theorem spans_ok {s : Int} (h : schOk s = true) {n : Nat} (h1 : 1 ≤ n) (h2 : n ≤ 1000) : spansX s (n : Int) = spanL (groupN s) n := by
  unfold spansX
  rw [if_pos ⟨h, by omega, by omega⟩, Int.toNat_natCast]
end Go.Proofs.Ytpcedackanfnjaa
