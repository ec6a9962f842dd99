/- A text that is picked out of a row is one of it. -/
import Derived.Test.YteckimgacmobdaaDrawP
namespace Go.Proofs.Yteckimgacmobdaa
open Go.RowKit
attribute [local go_sem ↓] Go.wp_at_zero Go.wp_at_succ

def PickPostS (P : ByteArray → Prop) (w : World) (g B : Nat) (a : Option Addr) (len cap : Nat) (e : Ending) (w' : World) : Prop :=
  ∃ x : ByteArray, e = .returned (.string x) ∧ P x ∧ Cur w' g B a len cap ∧ w.grownBy w' (some g)
set_option maxHeartbeats 400000 in
theorem l01Pick_in (P : ByteArray → Prop) (w : World) (g B : Nat) (a : Option Addr) (len cap : Nat) (gl m : Nat) (hm : 0 < m) (hm2 : m ≤ 1000) (hne : gl ≠ g) (hl : ∀ j, j < m → ∃ y : ByteArray, w.cell? ⟨gl, j, none⟩ = some (.string y) ∧ P y) (hc : Cur w g B a len cap) :
    Calls Try.prog 33 #[.pointer (some ⟨g, 0, none⟩), .slice (some ⟨gl, 0, none⟩) m m] w fun e w' => PickPostS P w g B a len cap e w' := by
  have HC : Hid (Cur w g B a len cap) := hc
  have HL : Hid (∀ j, j < m → ∃ y : ByteArray, w.cell? ⟨gl, j, none⟩ = some (.string y) ∧ P y) := hl
  clear hc hl
  go_enter Try.func33, Try.ntmps33
  go_wp2_with fail
  refine (l01Below_any _ g B a len cap m (by omega) HC.out).mono ?_
  rintro e w1 ⟨x, rfl, x0, x1, hc1, hg1⟩
  have HC1 : Hid (Cur w1 g B a len cap) := hc1
  have HG : Hid (w.grownBy w1 (some g)) := hg1
  obtain ⟨j, rfl⟩ := Int.eq_ofNat_of_zero_le x0
  obtain ⟨y, hy, hp⟩ := HL.out j (by omega)
  have c1 := hg1.cell hy (by simp; omega)
  have j1 : (j : Int) < (m : Int) := by omega
  have HP : Hid (P y) := hp
  clear hc1 hg1 hy hp
  go_wp2_with fail
  go_ret
  exact ⟨y, rfl, HP.out, HC1.out, HG.out⟩
/-- Texts that were laid into a new row. -/
theorem new_texts (w : World) (t : TypeId) (P : ByteArray → Prop) (L : List ByteArray) (h : ∀ y ∈ L, P y) (j : Nat) (hj : j < L.length) :
    ∃ y : ByteArray, (w.alloc (.cells (L.map Value.string).toArray t)).cell? ⟨w.heap.size, j, none⟩ = some (.string y) ∧ P y := by
  rw [World.cell?_alloc_mark]
  exact ⟨L[j], by simp [hj], h _ (List.getElem_mem hj)⟩
end Go.Proofs.Yteckimgacmobdaa
