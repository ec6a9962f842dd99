/- Texts of ours, laid one behind the other: CpB. -/
import Derived.Test.YtakhagkhngmpaaaGreatQs2
import Derived.Deep.CutRange
/- CpB: . -/
namespace Go.Proofs.YtakhagkhngmpaaaGreat
set_option maxRecDepth 100000
open Go.RowKit
attribute [local go_sem ↓] Go.wp_at_zero Go.wp_at_succ
theorem infoPieceG : (Tryz.prog.info? 99).map (fun i => (i.zero, i.size, i.bytes)) = some (some (.agg #[.int .i64 0, .int .i64 0]), 2, 16) := by kernel_rfl
theorem wpList_append_nothing {P : Program} (w : World) {ops : Array Oper} {rest : List Oper} {o : Oper} {a : Act} {Q : Exit → Act → World → Prop} (hg : o.guard = none) (s x : Operand) (t : TypeId) (hop : o.op = .call { callee := .builtin .append, args := #[s, x], argTypes := #[t, t] })
  (sv xv : Value) (hs : a.eval s = sv) (hx : a.eval x = xv) (hrun : ∀ ty, (Builtin.append_ #[t, t] ty #[sv, xv]).run P w = .ok sv w) (hK : wpList P ops Q rest (a.put o.dst sv) w) : wpList P ops Q (o :: rest) a w := by
 refine wpList_plain hg fun K' hK' => ?_
 unfold Oper.wp
 simp [execOp, hop, resolve, invoke, builtin, hs, hx, hrun, Result.andThen]
 exact hK' _ _ hK
structure CP (w W : World) (a : Option Addr) (n cap : Nat) (nx : Int) (v : Value) (gs : List NR) : Prop where
 bel : Below w.heap.size w W
 b1 : WCells W w.heap.size [.slice a n cap, .int .i64 nx]
 b2 : WCells W (w.heap.size + 1) [.slice none 0 0, .int .i64 0]
 b3 : WCells W (w.heap.size + 1 + 1) [v, .int .i64 nx]
 nb : NB W (w.heap.size + 3) v gs
theorem CP.below {w W W' : World} {a : Option Addr} {n cap : Nat} {nx : Int} {v : Value} {gs : List NR} (h : CP w W a n cap nx v gs) (hb : Below W.heap.size W W') : CP w W' a n cap nx v gs :=
 ⟨h.bel.trans (hb.mono h.bel.size), h.b1.grow hb, h.b2.grow hb, h.b3.grow hb, h.nb.below hb⟩
def CpPost (T : TM) (w : World) (e : Ending) (w' : World) : Prop := ∃ (a : Option Addr) (cap : Nat) (rs : List NR), e = .returned (.agg #[.slice a rs.length cap, .int .i64 T.next]) ∧ nds rs = T.nodes ∧ NB w' w.heap.size (.slice a rs.length cap) rs ∧ Below w.heap.size w w'
theorem CpPost.tr {T : TM} {w : World} {e : Ending} {w' : World} (h : CpPost T w e w') : TrPost T w e w' := by
 obtain ⟨a, cap, rs, rfl, hr, hn, hb⟩ := h
 obtain ⟨nodes, next⟩ := T
 dsimp only at hr ⊢
 subst hr
 exact ⟨_, rfl, hn.fin, hb⟩
theorem NB.low {w : World} {B C : Nat} {v : Value} {rs : List NR} (h : NB w B v rs) (hC : C ≤ B) : NB w C v rs := ⟨own_lower h.own hC, fun r hr => own_lower (h.rows r hr) hC, h.apart⟩
end Go.Proofs.YtakhagkhngmpaaaGreat
