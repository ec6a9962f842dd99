/- Steps of drawn regions in few words: what they ask besides is looked for by itself; stretches through a drawn region. -/
import Derived.Test.YtendbipfmgnjkaaGrwD
import Derived.Test.YtendbipfmgnjkaaSlG
import Derived.KernelRfl
namespace Go.Proofs.Ytendbipfmgnjkaa
set_option maxRecDepth 100000
open Go.RowKit

theorem wpD_v {P : Program} {Q : Exit → Act → World → Prop} {md : Region.Mode} {tl : Nat → Bool} (i : Nat) {L r : List Oper} {oi : Oper} {v : Value} {n : Nat} {l : Array Bool} {a : Act} {w : World} (hi : L.drop i = oi :: r) (hy : ∀ x, Later w x → (execOp a.eval oi).run P x = .ok (.value v) x) (h : wpD P md L.toArray Q tl n (l.setIfInBounds i true) (a.put oi.dst v) w)
    (hs : Region.noSelect L.toArray = true := by kernel_rfl) (hf : Region.free md L.toArray l i = true := by kernel_rfl) (hr : (Region.ready md L.toArray l).contains i = true := by kernel_rfl) (ht : waitsD md tl L.toArray l i (clo md L.toArray l i) = true := by kernel_rfl)
    (hQ : ∀ c a w, Q (.panic c) (a.put oi.dst v) w → Q (.panic c) a w := by exact fun _ _ _ h => h) (hw : Region.wanted oi (yielded L.toArray a.tmps) = true := by rfl) : wpD P md L.toArray Q tl (n + 1) l a w := wpD_val hi hs hf hr ht hQ hw hy h
theorem wpD_p {P : Program} {Q : Exit → Act → World → Prop} {md : Region.Mode} {tl : Nat → Bool} (i : Nat) {L r : List Oper} {oi : Oper} {v : Value} {n : Nat} {l : Array Bool} {a : Act} {w : World} (hi : L.drop i = oi :: r) (hy : ∀ x, (execOp a.eval oi).run P x = .ok (.value v) x) (h : wpD P md L.toArray Q tl n (l.setIfInBounds i true) (a.put oi.dst v) w)
    (hti : tl i = true := by kernel_rfl) (hs : Region.noSelect L.toArray = true := by kernel_rfl) (hf : Region.free md L.toArray l i = true := by kernel_rfl) (hr : (Region.ready md L.toArray l).contains i = true := by kernel_rfl)
    (hQ : ∀ c a w, Q (.panic c) (a.put oi.dst v) w → Q (.panic c) a w := by exact fun _ _ _ h => h) (hw : Region.wanted oi (yielded L.toArray a.tmps) = true := by rfl) : wpD P md L.toArray Q tl (n + 1) l a w := wpD_pure hi hti hs hf hr hQ hw hy h
theorem wpD_c {P : Program} {Q : Exit → Act → World → Prop} {md : Region.Mode} {tl : Nat → Bool} (i : Nat) {L r : List Oper} {oi : Oper} {v : Value} {f : FuncId} {args : Array Value} {n : Nat} {l : Array Bool} {a : Act} {w : World} (hi : L.drop i = oi :: r) (hc : ∀ x, Later w x → Calls P f args x fun e y => e = .returned v ∧ Below x.heap.size x y) (hy : ∀ x, Later w x → (execOp a.eval oi).run P x = .ok (.enter f args) x) (h : wpD P md L.toArray Q tl n (l.setIfInBounds i true) (a.put oi.dst v) w)
    (hs : Region.noSelect L.toArray = true := by kernel_rfl) (hf : Region.free md L.toArray l i = true := by kernel_rfl) (hr : (Region.ready md L.toArray l).contains i = true := by kernel_rfl) (ht : waitsD md tl L.toArray l i (clo md L.toArray l i) = true := by kernel_rfl)
    (hQ : ∀ c a w, Q (.panic c) (a.put oi.dst v) w → Q (.panic c) a w := by exact fun _ _ _ h => h) (hw : Region.wanted oi (yielded L.toArray a.tmps) = true := by rfl) : wpD P md L.toArray Q tl (n + 1) l a w := wpD_call hi hs hf hr ht hQ hw hy hc h
theorem wpA_v {P : Program} {Q : Exit → Act → World → Prop} {md : Region.Mode} (i : Nat) {L r : List Oper} {oi : Oper} {v : Value} {n : Nat} {l : Array Bool} {a : Act} {w : World} (hi : L.drop i = oi :: r) (hy : ∀ x, (execOp a.eval oi).run P x = .ok (.value v) x) (h : wpAny P md L.toArray Q n (l.setIfInBounds i true) (a.put oi.dst v) w)
    (hs : Region.noSelect L.toArray = true := by kernel_rfl) (hf : Region.free md L.toArray l i = true := by kernel_rfl) (hr : (Region.ready md L.toArray l).contains i = true := by kernel_rfl)
    (hQ : ∀ c a w, Q (.panic c) (a.put oi.dst v) w → Q (.panic c) a w := by exact fun _ _ _ h => h) (hw : Region.wanted oi (yielded L.toArray a.tmps) = true := by rfl) : wpAny P md L.toArray Q (n + 1) l a w := wpA_val hi hs hf hr hQ hw hy h
/-- Stretches, in a world behind a draw; as a fact on worlds; a list of them under a name. -/
theorem SL.later {w0 W x : World} {S : List Str} (h : SL w0 W S) (hx : Later W.drew x) : SL w0 x S := h.below (Below.trans (Below.drew (Below.refl _ _)) hx)
theorem SL.nm {w0 W : World} {S : List Str} (h : SL w0 W S) : ∃ B, B = S ∧ SL w0 W B := ⟨S, rfl, h⟩
theorem SL.hi {w0 W : World} {S : List Str} {s : Str} (h : SL w0 W S) (i : Nat) (hs : S[i]? = some s) : s.hi ≤ W.heap.size := (h.is _ (List.mem_of_getElem? hs)).2.2.2
end Go.Proofs.Ytendbipfmgnjkaa
