/- The walk of the exact law over TreeNew, over what is told of the program's own function. -/
import Derived.Test.YtendbipfmgnjkaaTreL
import Derived.Test.YtendbipfmgnjkaaTreF
import Derived.Test.YtendbipfmgnjkaaTreI
namespace Go.Proofs.Ytendbipfmgnjkaa
set_option maxRecDepth 100000
open Go.RowKit
attribute [local go_sem ↓] Go.wp_at_zero Go.wp_at_succ

/-- A tree that was answered, in a box of its own. -/
structure BZ (W : World) (g : Nat) (c : Option Addr) (m cc : Nat) (nx : Int) (T : TM) (lo : Nat) : Prop where
  kp : WCells W g [.slice c m cc, .int .i64 nx]
  cp : TAns W (.agg #[.slice c m cc, .int .i64 nx]) T lo g
theorem BZ.below {W W' : World} {c : Option Addr} {g m cc lo : Nat} {nx : Int} {T : TM} (h : BZ W g c m cc nx T lo) (hb : Below W.heap.size W W') : BZ W' g c m cc nx T lo := ⟨h.kp.grow hb, h.cp.below hb⟩
theorem BZ.turned {W W' : World} {c : Option Addr} {g m cc lo lo' hi' : Nat} {nx : Int} {T : TM} (h : BZ W g c m cc nx T lo) (t : Turned W W' lo' hi') (hd : g < lo') : BZ W' g c m cc nx T lo := ⟨h.kp.turned t (.inl hd), h.cp.turned t (.inl (Nat.le_of_lt hd))⟩
theorem BZ.new {W : World} {c : Option Addr} {m cc lo : Nat} {nx : Int} {T : TM} (h : TAns W (.agg #[.slice c m cc, .int .i64 nx]) T lo W.heap.size) (t : TypeId) : BZ (W.alloc (.cells #[.slice c m cc, .int .i64 nx] t)) W.heap.size c m cc nx T lo := ⟨wcells_new W #[.slice c m cc, .int .i64 nx] t, h.below ((Below.refl _ _).alloc (Nat.le_refl _) _)⟩
theorem tans_form {W : World} {u : Value} {T : TM} {lo hi : Nat} (h : TAns W u T lo hi) : ∃ c m cc, u = .agg #[.slice c m cc, .int .i64 T.next] := by
  obtain ⟨c, cc, ts, rfl, _⟩ := h
  exact ⟨c, _, cc, rfl⟩
theorem newX_fit : NFit newX := by unfold NFit; decide
attribute [local irreducible] newX markK
end Go.Proofs.Ytendbipfmgnjkaa
