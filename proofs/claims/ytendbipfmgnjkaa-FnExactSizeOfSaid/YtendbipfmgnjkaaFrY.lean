/- A region that draws its order, in a round of a range over a function: walked as anywhere, where it ends normally. -/
import Derived.Test.YtendbipfmgnjkaaGrwH
import Derived.OrdersIn
import Derived.RangeFuncCalls
namespace Go.Proofs.Ytendbipfmgnjkaa
set_option maxRecDepth 100000
open Go.RowKit

section
variable {P : Program} {ops : Array Oper} {K K1 K2 : Act → World → Prop} {Q : Exit → Act → World → Prop} {md : Region.Mode} {l n : Nat}
/-- It ends normally. -/
def Qn (K : Act → World → Prop) : Exit → Act → World → Prop := fun e a w => e = .normal ∧ K a w
theorem op_in {i : Nat} {a : Act} {w : World} (hd : ∀ (i : Nat) (o : Oper) c, ops[i]? = some o → o.op ≠ .defer c) (hk : ∀ a w, K1 a w → K2 a w) (h : wpOp P ops (Qn K) i K1 a w) : wpOpIn (Fence.wide.inRound l) n P ops Q i K2 a w := by
  unfold wpOp at h
  unfold wpOpIn
  cases ho : ops[i]? with
  | none => rw [ho] at h; exact hk _ _ h
  | some o =>
    rw [ho] at h
    dsimp only at h ⊢
    by_cases hw : Region.wanted o (yielded ops a.tmps) = true
    · rw [if_pos hw] at h ⊢
      rcases h with h | ⟨-, a', w', hl, -⟩
      · unfold Oper.wpIn
        refine ⟨fun _ _ => trivial, ?_⟩
        rw [Oper.semAt_eq _ _ _ (fun c => hd i o c ho)]
        unfold Oper.wp at h
        revert h
        cases (execOp a.eval o).run P w with
        | halt r y =>
          cases r with
          | panic v => rintro ⟨h, -⟩; cases h
          | _ => exact False.elim
        | ok r y =>
          cases r with
          | value v => exact hk _ _
          | skip => exact hk _ _
          | defer d => exact hk _ _
          | enter f args =>
            intro h
            refine ⟨fun e => (by cases e), CallsIn.inRound l (callsIn_wide.2 (Calls.mono h ?_))⟩
            rintro e z hz
            cases e with
            | returned v => exact hk _ _ hz
            | panicked c => cases hz.1
            | outgrown => obtain ⟨_, _, hz, -⟩ := hz; cases hz
          | row r args =>
            intro h
            refine ⟨fun e => (by cases e), fun c cs _ => ?_⟩
            obtain ⟨v, w', hr, hs⟩ := h c cs
            exact ⟨v, w', hk _ _ hr, stepsIn_wide.2 hs⟩
          | _ => exact False.elim
      · cases hl
    · rw [if_neg hw] at h ⊢
      exact ⟨fun _ _ => trivial, hk _ _ h⟩
theorem any_in (hd : ∀ (i : Nat) (o : Oper) c, ops[i]? = some o → o.op ≠ .defer c) (hK : ∀ a w, K a w → Q .normal a w) : ∀ (m : Nat) (L : Array Bool) (a : Act) (w : World), wpAny P md ops (Qn K) m L a w → wpAnyIn (Fence.wide.inRound l) n P md ops Q m L a w
  | 0, _, _, _, h => ⟨h.1, hK _ _ h.2.2⟩
  | m + 1, _, _, _, h => ⟨fun e => hK _ _ (h.1 e).2, fun i hi => op_in hd (fun a w hh => any_in hd hK m _ a w hh) (h.2 i hi)⟩
def noDefer (ops : Array Oper) : Bool := ops.toList.all fun o => match o.op with | .defer _ => false | _ => true
theorem noDefer_spec (h : noDefer ops = true) (i : Nat) (o : Oper) (c : Call) (ho : ops[i]? = some o) : o.op ≠ .defer c := by
  intro e
  have := List.all_eq_true.1 h o (Array.mem_toList_iff.2 (Array.mem_of_getElem? ho))
  rw [e] at this
  cases this
/-- A drawn region in a round. -/
theorem wpIn_region_set {id : Nat} {a : Act} {w : World} (tl : Nat → Bool) (hm : P.follows .mixedOrders = true) (hd : noDefer ops = true) (hK : ∀ a w, K a w → Q .normal a w) (h : wpD P .any ops (Qn K) tl ops.size (Array.replicate ops.size false) a w.drew) : (Code.region id ops true).wpIn (Fence.wide.inRound l) n P Q a w :=
  wpIn_region_any hm (any_in (fun i o c => noDefer_spec hd i o c) hK _ _ _ _ (wpAny_of_D _ _ _ _ h))
end
end Go.Proofs.Ytendbipfmgnjkaa
