/- Small functions of the laws on files: a drawn name, beginnings, numbers of what is left, disks that are the same. -/
import Derived.Test.YtonffkdlnhjjfaaDrawP
import Derived.Test.YtonffkdlnhjjfaaDiskQ
namespace Go.Proofs.Ytonffkdlnhjjfaa
open Go.RowKit
attribute [local go_sem ↓] Go.wp_at_zero Go.wp_at_succ

/-- A drawn name. -/
def NamePost (w : World) (g B : Nat) (a : Option Addr) (len cap : Nat) (e : Ending) (w' : World) : Prop :=
  ∃ t : ByteArray, e = .returned (.string t) ∧ 1 ≤ t.size ∧ t.size ≤ 8 ∧ Cur w' g B a len cap ∧ w.grownBy w' (some g)
set_option maxHeartbeats 400000 in
theorem l01Pick_any (w : World) (g B : Nat) (a : Option Addr) (len cap : Nat) (gl m : Nat) (hm : 0 < m) (hm2 : m ≤ 1000) (hne : gl ≠ g) (hl : ∀ j, j < m → ∃ y : ByteArray, w.cell? ⟨gl, j, none⟩ = some (.string y) ∧ 1 ≤ y.size ∧ y.size ≤ 8) (hc : Cur w g B a len cap) :
    Calls Try.prog 42 #[.pointer (some ⟨g, 0, none⟩), .slice (some ⟨gl, 0, none⟩) m m] w fun e w' => NamePost w g B a len cap e w' := by
  have HC : Hid (Cur w g B a len cap) := hc
  have HL : Hid (∀ j, j < m → ∃ y : ByteArray, w.cell? ⟨gl, j, none⟩ = some (.string y) ∧ 1 ≤ y.size ∧ y.size ≤ 8) := hl
  clear hc hl
  go_enter Try.func42, Try.ntmps42
  go_wp2_with fail
  refine (l01Below_any _ g B a len cap m (by omega) HC.out).mono ?_
  rintro e w1 ⟨x, rfl, x0, x1, hc1, hg1⟩
  have HC1 : Hid (Cur w1 g B a len cap) := hc1
  have HG : Hid (w.grownBy w1 (some g)) := hg1
  obtain ⟨j, rfl⟩ := Int.eq_ofNat_of_zero_le x0
  obtain ⟨y, hy, y1, y2⟩ := HL.out j (by omega)
  have c1 := hg1.cell hy (by simp; omega)
  have j1 : (j : Int) < (m : Int) := by omega
  clear hc1 hg1 hy
  go_wp2_with fail
  go_ret
  exact ⟨y, rfl, y1, y2, HC1.out, HG.out⟩
theorem eight_names (w : World) (t : TypeId) (y0 y1 y2 y3 y4 y5 y6 y7 : ByteArray) (h : ∀ y ∈ [y0, y1, y2, y3, y4, y5, y6, y7], 1 ≤ y.size ∧ y.size ≤ 8) (j : Nat) (hj : j < 8) :
    ∃ y : ByteArray, (w.alloc (.cells #[.string y0, .string y1, .string y2, .string y3, .string y4, .string y5, .string y6, .string y7] t)).cell? ⟨w.heap.size, j, none⟩ = some (.string y) ∧ 1 ≤ y.size ∧ y.size ≤ 8 := by
  rw [World.cell?_alloc_mark]
  match j, hj with
  | 0, _ => exact ⟨y0, rfl, h _ (by simp)⟩
  | 1, _ => exact ⟨y1, rfl, h _ (by simp)⟩
  | 2, _ => exact ⟨y2, rfl, h _ (by simp)⟩
  | 3, _ => exact ⟨y3, rfl, h _ (by simp)⟩
  | 4, _ => exact ⟨y4, rfl, h _ (by simp)⟩
  | 5, _ => exact ⟨y5, rfl, h _ (by simp)⟩
  | 6, _ => exact ⟨y6, rfl, h _ (by simp)⟩
  | 7, _ => exact ⟨y7, rfl, h _ (by simp)⟩
theorem l03Named_any (w : World) (g B : Nat) (a : Option Addr) (len cap : Nat) (hc : Cur w g B a len cap) :
    Calls Try.prog 25 #[.pointer (some ⟨g, 0, none⟩)] w fun e w' => NamePost w g B a len cap e w' := by
  have HC : Hid (Cur w g B a len cap) := hc
  have hgl := hc.2.1
  clear hc
  go_enter Try.func25, Try.ntmps25
  go_wp2_with fail
  refine (l01Pick_any _ g B a len cap w.heap.size 8 (by decide) (by decide) (by omega) (eight_names w _ _ _ _ _ _ _ _ _ (by decide)) (HC.out.below ((Below.refl _ _).alloc (Nat.le_refl _) _))).mono ?_
  rintro e w1 ⟨t, rfl, t1, t2, hc1, hg1⟩
  have HC1 : Hid (Cur w1 g B a len cap) := hc1
  have HG : Hid (w.grownBy w1 (some g)) := gb_two (gb_below ((Below.refl _ _).alloc (Nat.le_refl _) _)) hg1
  clear hc1 hg1
  go_wp2_with fail
  go_ret
  exact ⟨t, rfl, t1, t2, HC1.out, HG.out⟩
/-- A beginning of a text begins it. -/
theorem begins_yes (s : ByteArray) (n : Nat) (w : World) (hn : n ≤ s.size) (hs : s.size ≤ 9223372036854775807) :
    Calls Try.prog 13 #[.string (s.extract 0 n), .string s] w fun e w' => e = .returned (.bool true) ∧ w' = w := by
  obtain ⟨t, ht⟩ : ∃ t, t = s.extract 0 n := ⟨_, rfl⟩
  have hts : t.size = n := by rw [ht, ByteArray.size_extract]; omega
  have hle : (t.size : Int) ≤ (s.size : Int) := by omega
  have hsl : ∀ W : World, (Instr.slice 9 (.string s) none (some (.int .i64 (t.size : Int))) none).run Try.prog W = .ok (.string t) W := fun W => by
    rw [run_slice_string_h (ht := Try.underlying9) (kh := .i64) (h0 := by omega) (h2 := hle), Int.toNat_natCast, hts, ht]
  rw [← ht]
  clear ht hts hn
  go_enter Try.func13, Try.ntmps13
  go_wp2_with fail
  go_ret
  exact ⟨rfl, rfl⟩
end Go.Proofs.Ytonffkdlnhjjfaa
