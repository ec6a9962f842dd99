/- Disks: marks that are laid into one, and found again; what the power leaves of one. -/
import Derived.Test.YtendbipfmgnjkaaDiskN
import Derived.Test.YtendbipfmgnjkaaDiskC
namespace Go.Proofs.Ytendbipfmgnjkaa
set_option maxRecDepth 100000
open Go.RowKit
attribute [local go_sem ↓] Go.wp_at_zero Go.wp_at_succ

theorem markDisk_none (a : Option Addr) (k ca : Nat) (w : World) :
    Calls Try.prog 64 #[.agg #[.slice a 0 ca], .int .i64 k] w fun e w' => e = .returned (.int .i64 k) ∧ Below w.heap.size w w' := by
  go_enter Try.func64, Try.ntmps64
  go_wp2_with fail
  refine (markFileS_none a k ca _).mono ?_
  rintro e w1 ⟨rfl, rfl⟩
  go_wp2_with fail
  go_ret
  exact ⟨rfl, (Below.refl _ _).alloc (Nat.le_refl _) _⟩
theorem markDisk_any (g : Nat) (xs : List FM) (k ca : Nat) (w : World) (ha : WCells w g (fcs xs)) (hk : 0 < k) (hn : k + 3 * xs.length ≤ 1000000000) (hca : xs.length ≤ ca) :
    Calls Try.prog 64 #[.agg #[.slice (some ⟨g, 0, none⟩) xs.length ca], .int .i64 k] w fun e w' => MarkPost g k xs.length w e w' := by
  have HA : Hid (WCells (w.alloc (.cells #[.slice (some ⟨g, 0, none⟩) xs.length ca] 40)) g (fcs xs)) := ha.alloc _
  have HG0 : Hid (w.grownBy (w.alloc (.cells #[.slice (some ⟨g, 0, none⟩) xs.length ca] 40)) (some g)) := grownBy_below ((Below.refl _ _).alloc (Nat.le_refl _) _)
  clear ha
  go_enter Try.func64, Try.ntmps64
  go_wp2_with fail
  refine (markFileS_any g xs k ca _ HA.out hk hn hca).mono ?_
  rintro e w1 ⟨rfl, hw1, hg1⟩
  have HW1 : Hid (WCells w1 g (fcs (marksF k xs.length))) := hw1
  have HG1 : Hid (w.grownBy w1 (some g)) := grownBy_two HG0.out hg1
  clear hw1 hg1
  go_wp2_with fail
  go_ret
  exact ⟨rfl, HW1.out, HG1.out⟩
theorem heldDisk_any (a : Option Addr) (k n ca : Nat) (w : World) (ha : FRow w a (marksF k n)) (hk : 0 < k) (hn : k + 3 * n ≤ 1000000000) :
    Calls Try.prog 69 #[.agg #[.slice a n ca], .int .i64 k] w fun e w' => e = .returned (.int .i64 (k + 3 * n : Nat)) ∧ Below w.heap.size w w' := by
  have hb0 : Below w.heap.size w (w.alloc (.cells #[.slice a n ca] 40)) := (Below.refl _ _).alloc (Nat.le_refl _) _
  have HA : Hid (FRow (w.alloc (.cells #[.slice a n ca] 40)) a (marksF k n)) := ha.stays hb0
  have HB0 : Hid (Below w.heap.size w (w.alloc (.cells #[.slice a n ca] 40))) := hb0
  clear ha hb0
  have hneg : ¬ ((k : Int) + 3 * (n : Int)) < 0 := by omega
  go_enter Try.func69, Try.ntmps69
  go_wp2_with fail
  refine (heldFileS_any a k n ca _ HA.out hk hn).mono ?_
  rintro e w1 ⟨rfl, hb1⟩
  have HB1 : Hid (Below w.heap.size w w1) := HB0.out.trans (hb1.mono HB0.out.size)
  clear hb1
  go_wp2_with fail
  go_ret
  exact ⟨by first | rfl | (refine congrArg (fun x => Ending.returned (.int .i64 x)) ?_; push_cast; rfl), HB1.out⟩
end Go.Proofs.Ytendbipfmgnjkaa
