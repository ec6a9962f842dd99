/- A region that draws its order, behind its last free operation: one alone may come up at a time: a call, or a value of the memory as it is. -/
import Derived.Test.YtbanfccnmbmcfaaGrwC
namespace Go.Proofs.Ytbanfccnmbmcfaa
set_option maxRecDepth 100000
open Go.RowKit
section
variable {P : Program} {Q : Exit → Act → World → Prop} {md : Region.Mode}
/-- One alone may come up: a call; the rest behind it. -/
theorem wpA_mid {L r : List Oper} {i : Nat} {oi : Oper} {f : FuncId} {args : Array Value} {n : Nat} {l : Array Bool} {a : Act} {w : World} (hr : Region.ready md L.toArray l = [i]) (hi : L.drop i = oi :: r) (hw : Region.wanted oi (yielded L.toArray a.tmps) = true) (hy : (execOp a.eval oi).run P w = .ok (.enter f args) w)
    (h : Calls P f args w fun e y => ∃ v, e = .returned v ∧ wpAny P md L.toArray Q n (l.setIfInBounds i true) (a.put oi.dst v) y) : wpAny P md L.toArray Q (n + 1) l a w := by
  refine ⟨fun h => (by rw [hr] at h; cases h), fun j hj => ?_⟩
  rw [hr, List.mem_singleton] at hj
  subst hj
  unfold wpOp
  rw [at_drop hi]
  dsimp only
  rw [if_pos hw]
  refine Or.inl ?_
  unfold Oper.wp
  rw [hy]
  refine h.mono ?_
  rintro e y ⟨v, rfl, hq⟩
  exact hq
/-- One alone may come up: a value; the rest behind it. -/
theorem wpA_here {L r : List Oper} {i : Nat} {oi : Oper} {v : Value} {n : Nat} {l : Array Bool} {a : Act} {w y : World} (hr : Region.ready md L.toArray l = [i]) (hi : L.drop i = oi :: r) (hw : Region.wanted oi (yielded L.toArray a.tmps) = true) (hy : (execOp a.eval oi).run P w = .ok (.value v) y)
    (h : wpAny P md L.toArray Q n (l.setIfInBounds i true) (a.put oi.dst v) y) : wpAny P md L.toArray Q (n + 1) l a w := by
  refine ⟨fun h => (by rw [hr] at h; cases h), fun j hj => ?_⟩
  rw [hr, List.mem_singleton] at hj
  subst hj
  unfold wpOp
  rw [at_drop hi]
  dsimp only
  rw [if_pos hw]
  refine Or.inl ?_
  unfold Oper.wp
  rw [hy]
  exact h
/-- Two may come up, each a store: in either order. -/
theorem wpA_two {L r r' : List Oper} {i j : Nat} {oi oj : Oper} {n : Nat} {l : Array Bool} {a : Act} {w y z : World} (hr : Region.ready md L.toArray l = [i, j]) (hi : L.drop i = oi :: r) (hj : L.drop j = oj :: r') (hw : Region.wanted oi (yielded L.toArray a.tmps) = true) (hw' : Region.wanted oj (yielded L.toArray a.tmps) = true)
    (hy : (execOp a.eval oi).run P w = .ok .skip y) (hz : (execOp a.eval oj).run P w = .ok .skip z)
    (h : wpAny P md L.toArray Q n (l.setIfInBounds i true) (a.put oi.dst undef) y) (h' : wpAny P md L.toArray Q n (l.setIfInBounds j true) (a.put oj.dst undef) z) : wpAny P md L.toArray Q (n + 1) l a w := by
  refine ⟨fun h => (by rw [hr] at h; cases h), fun k hk => ?_⟩
  rw [hr] at hk
  rcases List.mem_cons.1 hk with rfl | hk
  · unfold wpOp
    rw [at_drop hi]
    dsimp only
    rw [if_pos hw]
    refine Or.inl ?_
    unfold Oper.wp
    rw [hy]
    exact h
  · rw [List.mem_singleton] at hk
    subst hk
    unfold wpOp
    rw [at_drop hj]
    dsimp only
    rw [if_pos hw']
    refine Or.inl ?_
    unfold Oper.wp
    rw [hz]
    exact h'
end
end Go.Proofs.Ytbanfccnmbmcfaa
