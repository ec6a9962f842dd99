/- Hosts in memory, and in the laws: sizes, copies, two that are the same, marks. -/
import Derived.Test.YtendbipfmgnjkaaUnM
import Derived.Test.YtendbipfmgnjkaaUnRm
import Derived.Test.YtendbipfmgnjkaaSlG
import Derived.Test.YtendbipfmgnjkaaGenA
import Derived.Deep.CutRange
namespace Go.Proofs.Ytendbipfmgnjkaa
set_option maxRecDepth 100000
open Go.RowKit
attribute [local go_sem ↓] Go.wp_at_zero Go.wp_at_succ

/-- A host's value: its units in a row. -/
abbrev hov (H : HM) (a : Option Addr) (cap : Nat) : Value := .agg #[.int .i64 H.id, .bool H.up, .slice a H.us.length cap]
/-- A host whose row is its own, in a stretch. -/
def HAns (w : World) (v : Value) (H : HM) (lo hi : Nat) : Prop := ∃ a cap, v = hov H a cap ∧ FRw w a (unS H.us) lo hi ∧ H.us.length ≤ cap
def HoPost (H : HM) (w : World) (e : Ending) (w' : World) : Prop := ∃ a cap, e = .returned (hov H a cap) ∧ FRw w' a (unS H.us) w.heap.size w'.heap.size ∧ H.us.length ≤ cap ∧ Below w.heap.size w w'
theorem turned_rw {W W' : World} {lo hi : Nat} {row : Option Nat} (hg : W.grownBy W' row) (hr : ∀ g, row = some g → lo ≤ g ∧ g < hi) : Turned W W' lo hi := by
  cases row with
  | none => exact Turned.of_below ⟨hg.os, hg.tape, hg.output, hg.size, fun k hk => hg.block k hk (by simp)⟩ _ _
  | some g => exact Turned.of_grown hg (hr g rfl).1 (hr g rfl).2
theorem eqHost_same (H : HM) (a b : Option Addr) (ca cb : Nat) (w : World) (ha : UnRow w a H.us) (hb : UnRow w b H.us) (hl : H.us.length ≤ 9000000) :
    Calls Try.prog 62 #[hov H a ca, hov H b cb] w fun e w' => e = .returned (.bool true) ∧ Below w.heap.size w w' := by
  have hb0 : Below w.heap.size w ((w.alloc (.cells #[.int .i64 H.id, .bool H.up, .slice a H.us.length ca] 73)).alloc (.cells #[.int .i64 H.id, .bool H.up, .slice b H.us.length cb] 73)) := ((Below.refl _ _).alloc (Nat.le_refl _) _).alloc (by simp) _
  have HA := Shut.mk (ha.stays hb0)
  have HB := Shut.mk (hb.stays hb0)
  have HB0 := Shut.mk hb0
  have hu : (H.up != H.up) = false := by simp
  clear ha hb hb0
  go_enter Try.func62, Try.ntmps62
  go_wp2_with fail
  refine (eqUnitS_same a b H.us ca cb _ HA.out HB.out hl).mono ?_
  rintro e w2 ⟨rfl, hb2⟩
  have HB2 := Shut.mk (HB0.out.trans (hb2.mono HB0.out.size))
  clear hb2
  go_wp2_with fail
  go_ret
  exact ⟨rfl, HB2.out⟩
/-- The host whose units are marks. -/
def markH (H : HM) (k : Nat) : HM := ⟨H.id, H.up, marksU k H.us.length⟩
end Go.Proofs.Ytendbipfmgnjkaa
