/- Texts of ours, laid one behind the other: GrwC, GrwD, OpenM, EdC, TreB, TreF, TreG, TreH, TreI, GrwF, LkP, PaI, PaJ, StrW, OffA, GuardA, OffB, PaK, LawPth, FrT, OpenC, LawPts, PaL. -/
import Derived.Test.YtakhagkhngmpaaaGreatQq2
import Derived.Test.YtakhagkhngmpaaaGreatQq1
import Derived.Deep.Slices
import Derived.Deep.Strs
import Derived.ChangeArms
import Derived.ChangeSame
import Derived.WideShapes
import Derived.OpenShut
import Derived.Deep.CutRange
import Derived.BigQuiet
import Derived.WalkSmall
import Derived.Laws.RangeAny
import Derived.Test.YtakhagkhngmpaaaGreatRows
import Derived.Maps.AppendAt
import Derived.ArgAppend
import Derived.Test.YtakhagkhngmpaaaGreatQqShf
/- GrwC: . -/
namespace Go.Proofs.YtakhagkhngmpaaaGreat
set_option maxRecDepth 100000
open Go.RowKit
section
variable {P : Program} {ops : Array Oper} {Q : Exit → Act → World → Prop} {md : Region.Mode} {m : Nat}
def tailed (m : Nat) (ops : Array Oper) (l : Array Bool) : Bool := (List.range m).all fun j => l.getD j true || decide (ops.size ≤ j)
theorem tailed_spec {l : Array Bool} (h : tailed m ops l = true) {j : Nat} (hj : l.getD j true = false) (hs : j < ops.size) : m ≤ j := by
 refine Nat.le_of_not_lt fun hlt => ?_
 have := List.all_eq_true.1 h j (by simpa using hlt)
 rw [hj, Bool.false_or, decide_eq_true_eq] at this
 omega
def wpK (P : Program) (md : Region.Mode) (ops : Array Oper) (Q : Exit → Act → World → Prop) (m : Nat) : Nat → Array Bool → Act → World → Prop
 | 0, l, a, w => ∀ x, Later w x → wpAny P md ops Q 0 l a x
 | n + 1, l, a, w => (tailed m ops l = true ∧ ∀ x, Later w x → wpAny P md ops Q (n + 1) l a x) ∨ (∀ x, Later w x → (Region.ready md ops l = [] → Q .normal a x) ∧
   ∀ i ∈ Region.ready md ops l, wpOp P ops Q i (fun a' y => Later x y ∧ wpK P md ops Q m n (l.setIfInBounds i true) a' y) a x)
theorem wpK_later : ∀ (n : Nat) (l : Array Bool) (a : Act) (w y : World), Later w y → wpK P md ops Q m n l a w → wpK P md ops Q m n l a y
 | 0, _, _, _, _, hy, h => fun x hx => h x (hy.trans hx)
 | _ + 1, _, _, _, _, hy, h => h.imp (fun q => ⟨q.1, fun x hx => q.2 x (hy.trans hx)⟩) (fun q x hx => q x (hy.trans hx))
theorem wpAny_of_K : ∀ (n : Nat) (l : Array Bool) (a : Act) (w : World), wpK P md ops Q m n l a w → wpAny P md ops Q n l a w
 | 0, _, _, w, h => h w (Later.refl w)
 | n + 1, _, _, w, h => by
  rcases h with h | h
  ·exact h.2 w (Later.refl w)
  ·exact ⟨(h w (Later.refl w)).1, fun i hi => wpOp_mono (fun a' y hh => wpAny_of_K n _ a' y hh.2) ((h w (Later.refl w)).2 i hi)⟩
def clo (md : Region.Mode) (ops : Array Oper) (l : Array Bool) (i : Nat) : List Nat := (List.range ops.size).foldl (fun acc f => if !(l.getD f true) && (((ops[f]?).map fun o => o.after.any fun e => Region.binds md e && ((e.on == i) || acc.contains e.on)) == some true) then f :: acc else acc) []
def waits (md : Region.Mode) (m : Nat) (ops : Array Oper) (l : Array Bool) (i : Nat) (C : List Nat) : Bool :=
 (C.all fun c => !(l.getD c true) && (((ops[c]?).map fun o => o.after.any fun e => Region.binds md e && ((e.on == i) || C.contains e.on)) == some true)) && ((List.range ops.size).all fun f => decide (f < m) || l.getD f true || C.contains f)
theorem getD_clash {l : Array Bool} {k : Nat} (h1 : l.getD k true = false) (h2 : l.getD k false = true) : False := by
 unfold Array.getD at h1 h2
 split at h1
 ·rename_i h
  rw [dif_pos h] at h2
  rw [h1] at h2
  cases h2
 ·cases h1
theorem waits_spec {l : Array Bool} {i : Nat} {C : List Nat} (h : waits md m ops l i C = true) (hi : l.getD i true = false) : ∀ c ∈ C, c ∉ Region.ready md ops l := by
 unfold waits at h
 rw [Bool.and_eq_true] at h
 intro c hc hr
 have h1 := List.all_eq_true.1 h.1 c hc
 rw [Bool.and_eq_true] at h1
 obtain ⟨-, o, ho, hall⟩ := mem_ready.1 hr
 rw [ho] at h1
 simp only [Option.map_some, beq_iff_eq, Option.some.injEq] at h1
 have h2 := h1.2
 rw [Array.any_eq_true'] at h2
 obtain ⟨e, he, q⟩ := h2
 rw [Bool.and_eq_true, Bool.or_eq_true] at q
 have hd := hall e he q.1
 rcases q.2 with q2 | q2
 ·rw [beq_iff_eq] at q2
  rw [q2] at hd
  exact getD_clash hi hd
 ·have hm : e.on ∈ C := by simpa using q2
  have h3 := List.all_eq_true.1 h.1 _ hm
  rw [Bool.and_eq_true, Bool.not_eq_true'] at h3
  exact getD_clash h3.1 hd
theorem waits_last {l : Array Bool} {i f : Nat} {C : List Nat} (h : waits md m ops l i C = true) (hf : m ≤ f) (hu : l.getD f true = false) (hs : f < ops.size) : f ∈ C := by
 unfold waits at h
 rw [Bool.and_eq_true] at h
 have := List.all_eq_true.1 h.2 f (by simpa using hs)
 rw [hu, Bool.or_false, Bool.or_eq_true, decide_eq_true_eq] at this
 rcases this with q | q
 ·omega
 ·simpa using q
theorem waits_step {l : Array Bool} {i j : Nat} {C : List Nat} (h : waits md m ops l i C = true) (hj : j ∉ C) : waits md m ops (l.setIfInBounds j true) i C = true := by
 unfold waits at h ⊢
 rw [Bool.and_eq_true] at h ⊢
 refine ⟨List.all_eq_true.2 fun c hc => ?_, List.all_eq_true.2 fun f hf => ?_⟩
 ·have h1 := List.all_eq_true.1 h.1 c hc
  have hcj : j ≠ c := fun e => hj (e ▸ hc)
  rw [getD_set_ne true hcj]
  exact h1
 ·have h1 := List.all_eq_true.1 h.2 f hf
  by_cases e : j = f
  ·subst e
   have : (l.setIfInBounds j true).getD j true = true := by
    simp only [Array.getD]
    split
    ·simp
    ·rfl
   rw [this]
   simp
  ·rw [getD_set_ne true e]
   exact h1
theorem wpK_first {i : Nat} {oi : Oper} {v : Value} {C : List Nat} (hi : ops[i]? = some oi) (hsel : ∀ (j : Nat) (o : Oper) cs b, ops[j]? = some o → o.op ≠ .select cs b) (hQ : ∀ c a w, Q (.panic c) (a.put oi.dst v) w → Q (.panic c) a w) :
  ∀ (n : Nat) (l : Array Bool) (a : Act) (w : World), waits md m ops l i C = true → (∀ j oj, ops[j]? = some oj → j ≠ i → l.getD j true = false → (∀ e ∈ oj.after, Region.binds md e = true → e.on ≠ i) → oi.apart ops oj = true) →
   i ∈ Region.ready md ops l → YL P ops oi v a w → wpK P md ops Q m n (l.setIfInBounds i true) (a.put oi.dst v) w → wpK P md ops Q m (n + 1) l a w := by
 intro n
 induction n with
 | zero =>
  intro l a w _ _ hr hy H
  refine .inr fun x hx => ⟨fun h => (by rw [h] at hr; cases hr), fun j hj => ?_⟩
  by_cases hji : j = i
  ·subst hji
   exact hy.op hi hx fun y hxy => ⟨hxy, wpK_later 0 _ _ _ _ (hx.trans hxy) H⟩
  ·have q := ready_mono hj hji
   rw [(H w (Later.refl w)).1] at q
   cases q
 | succ n ih =>
  intro l a w hwt hfree hr hy H
  refine .inr fun x hx => ⟨fun h => (by rw [h] at hr; cases hr), fun j hj => ?_⟩
  by_cases hji : j = i
  ·subst hji
   exact hy.op hi hx fun y hxy => ⟨hxy, wpK_later (n + 1) _ _ _ _ (hx.trans hxy) H⟩
  ·obtain ⟨hun, oj, hoj, -⟩ := mem_ready.1 hj
   have hjC : j ∉ C := fun hc => waits_spec hwt (mem_ready.1 hr).1 j hc hj
   rcases H with H | H
   ·have hju : (l.setIfInBounds i true).getD j true = false := by rw [getD_set_ne true (Ne.symm hji)]; exact hun
    have hjs := (Array.getElem?_eq_some_iff.1 hoj).1
    have hjm := tailed_spec H.1 hju hjs
    exact absurd (waits_last hwt hjm hun hjs) hjC
   ·have q := op_beside hoj (hfree j oj hoj hji hun (ready_free hr hj hoj)) (fun cs b => hsel i oi cs b hi) (fun cs b => hsel j oj cs b hoj) hQ hy ((H x hx).2 j (ready_mono hj hji))
    refine wpOp_mono (fun b y hb => ⟨hb.2.1, ih (l.setIfInBounds j true) b y (waits_step hwt hjC) (fun k ok hk hki hku hno => hfree k ok hk hki ?_ hno) (ready_mono hr (Ne.symm hji)) (hb.1.later (hx.trans hb.2.1)) ?_⟩) q
    ·by_cases hjk : j = k
     ·subst hjk; exact hun
     ·rw [getD_set_ne true hjk] at hku; exact hku
    ·rw [Array.setIfInBounds_comm _ _ hji]
     exact hb.2.2
theorem wpK_tail {l : Array Bool} {a : Act} {w : World} (ht : tailed m ops l = true) : ∀ {n : Nat}, (∀ x, Later w x → wpAny P md ops Q n l a x) → wpK P md ops Q m n l a w
 | 0, h => h
 | _ + 1, h => .inl ⟨ht, h⟩
theorem wpK_done {l : Array Bool} {a : Act} {w : World} (hr : Region.ready md ops l = []) (h : ∀ x, Later w x → Q .normal a x) : ∀ n, wpK P md ops Q m n l a w
 | 0 => fun x hx => ⟨hr, h x hx⟩
 | _ + 1 => .inr fun x hx => ⟨fun _ => h x hx, by rw [hr]; simp⟩
theorem wp_region_tail {id : Nat} {a : Act} {w : World} (m : Nat) (hm : P.follows .mixedOrders = true) (h : wpK P .any ops Q m ops.size (Array.replicate ops.size false) a w.drew) : (Code.region id ops true).wp P Q a w :=
 wp_region_any hm (wpAny_of_K _ _ _ _ h)
end
section
variable {P : Program} {Q : Exit → Act → World → Prop} {md : Region.Mode} {m : Nat}
theorem wpK_val {L r : List Oper} {i : Nat} {oi : Oper} {v : Value} {n : Nat} {l : Array Bool} {a : Act} {w : World} (hi : L.drop i = oi :: r) (hs : Region.noSelect L.toArray = true) (hf : Region.free md L.toArray l i = true) (hr : (Region.ready md L.toArray l).contains i = true) (ht : waits md m L.toArray l i (clo md L.toArray l i) = true)
  (hQ : ∀ c a w, Q (.panic c) (a.put oi.dst v) w → Q (.panic c) a w) (hw : Region.wanted oi (yielded L.toArray a.tmps) = true) (hy : ∀ x, Later w x → (execOp a.eval oi).run P x = .ok (.value v) x)
  (h : wpK P md L.toArray Q m n (l.setIfInBounds i true) (a.put oi.dst v) w) : wpK P md L.toArray Q m (n + 1) l a w :=
 wpK_first (at_drop hi) (Region.noSelect_spec hs) hQ n l a w ht (Region.free_spec (at_drop hi) hf) (by simpa using hr) (Or.inl ⟨hw, fun x hx => by unfold Oper.quietAt; rw [hy x hx]; exact ⟨rfl, rfl⟩⟩) h
theorem wpK_call {L r : List Oper} {i : Nat} {oi : Oper} {v : Value} {f : FuncId} {args : Array Value} {n : Nat} {l : Array Bool} {a : Act} {w : World} (hi : L.drop i = oi :: r) (hs : Region.noSelect L.toArray = true) (hf : Region.free md L.toArray l i = true) (hr : (Region.ready md L.toArray l).contains i = true) (ht : waits md m L.toArray l i (clo md L.toArray l i) = true)
  (hQ : ∀ c a w, Q (.panic c) (a.put oi.dst v) w → Q (.panic c) a w) (hw : Region.wanted oi (yielded L.toArray a.tmps) = true) (hy : ∀ x, Later w x → (execOp a.eval oi).run P x = .ok (.enter f args) x)
  (hc : ∀ x, Later w x → Calls P f args x fun e y => e = .returned v ∧ Below x.heap.size x y)
  (h : wpK P md L.toArray Q m n (l.setIfInBounds i true) (a.put oi.dst v) w) : wpK P md L.toArray Q m (n + 1) l a w :=
 wpK_first (at_drop hi) (Region.noSelect_spec hs) hQ n l a w ht (Region.free_spec (at_drop hi) hf) (by simpa using hr) (Or.inl ⟨hw, fun x hx => by unfold Oper.quietAt; rw [hy x hx]; exact ⟨rfl, hc x hx⟩⟩) h
theorem wpK_one {L r : List Oper} {i : Nat} {oi : Oper} {n : Nat} {l : Array Bool} {a : Act} {w : World} (hr : Region.ready md L.toArray l = [i]) (hi : L.drop i = oi :: r) (hw : Region.wanted oi (yielded L.toArray a.tmps) = true)
  (h : ∀ x, Later w x → ∃ (v : Value) (y : World), (execOp a.eval oi).run P x = .ok (.value v) y ∧ Later x y ∧ wpK P md L.toArray Q m n (l.setIfInBounds i true) (a.put oi.dst v) y) : wpK P md L.toArray Q m (n + 1) l a w := by
 refine .inr fun x hx => ?_
 rw [hr]
 refine ⟨fun h => (by cases h), fun j hj => ?_⟩
 rw [List.mem_singleton] at hj
 subst hj
 obtain ⟨v, y, h1, h2, h3⟩ := h x hx
 unfold wpOp
 rw [at_drop hi]
 dsimp only
 rw [if_pos hw]
 refine Or.inl ?_
 unfold Oper.wp
 rw [h1]
 exact ⟨h2, h3⟩
theorem wpK_onecall {L r : List Oper} {i : Nat} {oi : Oper} {f : FuncId} {args : Array Value} {n : Nat} {l : Array Bool} {a : Act} {w : World} (hr : Region.ready md L.toArray l = [i]) (hi : L.drop i = oi :: r) (hw : Region.wanted oi (yielded L.toArray a.tmps) = true)
  (hy : ∀ x, Later w x → (execOp a.eval oi).run P x = .ok (.enter f args) x)
  (h : ∀ x, Later w x → Calls P f args x fun e y => ∃ v, e = .returned v ∧ Below x.heap.size x y ∧ wpK P md L.toArray Q m n (l.setIfInBounds i true) (a.put oi.dst v) y) : wpK P md L.toArray Q m (n + 1) l a w := by
 refine .inr fun x hx => ?_
 rw [hr]
 refine ⟨fun h => (by cases h), fun j hj => ?_⟩
 rw [List.mem_singleton] at hj
 subst hj
 unfold wpOp
 rw [at_drop hi]
 dsimp only
 rw [if_pos hw]
 refine Or.inl ?_
 unfold Oper.wp
 rw [hy x hx]
 exact (h x hx).mono (by rintro e y ⟨v, rfl, h1, h2⟩; exact ⟨h1, h2⟩)
theorem wpK_callbox {L r r' : List Oper} {i j : Nat} {oi oj : Oper} {f : FuncId} {args : Array Value} {n : Nat} {l : Array Bool} {a : Act} {w : World} {C : Array Value} {t : TypeId}
  (hr : Region.ready md L.toArray l = [i, j]) (hi : L.drop i = oi :: r) (hj : L.drop j = oj :: r') (hw : Region.wanted oi (yielded L.toArray a.tmps) = true) (hwj : Region.wanted oj (yielded L.toArray a.tmps) = true)
  (hy : ∀ x, Later w x → (execOp a.eval oi).run P x = .ok (.enter f args) x) (hz : ∀ x, Later w x → (execOp a.eval oj).run P x = .ok (.value (.pointer (some ⟨x.heap.size, 0, none⟩))) (x.alloc (.cells C t)))
  (h1 : ∀ x, Later w x → Calls P f args x fun e y => ∃ v, e = .returned v ∧ Below x.heap.size x y ∧ wpK P md L.toArray Q m n (l.setIfInBounds i true) (a.put oi.dst v) y)
  (h2 : ∀ x, Later w x → wpK P md L.toArray Q m n (l.setIfInBounds j true) (a.put oj.dst (.pointer (some ⟨x.heap.size, 0, none⟩))) (x.alloc (.cells C t))) : wpK P md L.toArray Q m (n + 1) l a w := by
 refine .inr fun x hx => ?_
 rw [hr]
 refine ⟨fun h => (by cases h), fun k hk => ?_⟩
 rw [List.mem_cons, List.mem_singleton] at hk
 unfold wpOp
 rcases hk with rfl | rfl
 ·rw [at_drop hi]
  dsimp only
  rw [if_pos hw]
  refine Or.inl ?_
  unfold Oper.wp
  rw [hy x hx]
  exact (h1 x hx).mono (by rintro e y ⟨v, rfl, q1, q2⟩; exact ⟨q1, q2⟩)
 ·rw [at_drop hj]
  dsimp only
  rw [if_pos hwj]
  refine Or.inl ?_
  unfold Oper.wp
  rw [hz x hx]
  exact ⟨(Below.refl _ _).alloc (Nat.le_refl _) _, h2 x hx⟩
theorem wpA_first {ops : Array Oper} {i : Nat} {oi : Oper} {v : Value} (hi : ops[i]? = some oi) (hsel : ∀ (j : Nat) (o : Oper) cs b, ops[j]? = some o → o.op ≠ .select cs b) (hQ : ∀ c a w, Q (.panic c) (a.put oi.dst v) w → Q (.panic c) a w) :
  ∀ (n : Nat) (l : Array Bool) (a : Act) (w : World), (∀ j oj, ops[j]? = some oj → j ≠ i → l.getD j true = false → (∀ e ∈ oj.after, Region.binds md e = true → e.on ≠ i) → oi.apart ops oj = true) →
   i ∈ Region.ready md ops l → Region.wanted oi (yielded ops a.tmps) = true → (∀ x, (execOp a.eval oi).run P x = .ok (.value v) x) → wpAny P md ops Q n (l.setIfInBounds i true) (a.put oi.dst v) w → wpAny P md ops Q (n + 1) l a w := by
 intro n
 induction n with
 | zero =>
  intro l a w _ hr hw hy H
  refine ⟨fun h => (by rw [h] at hr; cases hr), fun j hj => ?_⟩
  by_cases hji : j = i
  ·subst hji
   unfold wpOp
   rw [hi]
   dsimp only
   rw [if_pos hw]
   refine Or.inl ?_
   unfold Oper.wp
   rw [hy w]
   exact H
  ·have q := ready_mono hj hji
   rw [H.1] at q
   cases q
 | succ n ih =>
  intro l a w hfree hr hw hy H
  refine ⟨fun h => (by rw [h] at hr; cases hr), fun j hj => ?_⟩
  by_cases hji : j = i
  ·subst hji
   unfold wpOp
   rw [hi]
   dsimp only
   rw [if_pos hw]
   refine Or.inl ?_
   unfold Oper.wp
   rw [hy w]
   exact H
  ·obtain ⟨hun, oj, hoj, -⟩ := mem_ready.1 hj
   have hap := hfree j oj hoj hji hun (ready_free hr hj hoj)
   have h3 := (Oper.apart_spec hap).2.2
   have q := op_frame hoj (wpOp_putIf (S := fun _ => False) hoj hap (fun cs b => hsel i oi cs b hi) (fun cs b => hsel j oj cs b hoj) hQ (Or.inl ⟨hw, fun _ hf => hf.elim⟩) (H.2 j (ready_mono hj hji)))
   refine wpOp_mono ?_ q
   have step : ∀ (b : Act) (y : World), execOp b.eval oi = execOp a.eval oi → Region.wanted oi (yielded ops b.tmps) = Region.wanted oi (yielded ops a.tmps) → wpAny P md ops Q n ((l.setIfInBounds i true).setIfInBounds j true) (b.put oi.dst v) y → wpAny P md ops Q (n + 1) (l.setIfInBounds j true) b y := fun b y e1 e2 hk => by
    refine ih (l.setIfInBounds j true) b y (fun k ok hk hki hku hno => hfree k ok hk hki ?_ hno) (ready_mono hr (Ne.symm hji)) (by rw [e2]; exact hw) (fun x => by rw [e1]; exact hy x) ?_
    ·by_cases hjk : j = k
     ·subst hjk; exact hun
     ·rw [getD_set_ne true hjk] at hku; exact hku
    ·rw [Array.setIfInBounds_comm _ _ hji]
     exact hk
   rintro b y ⟨⟨u, rfl | ⟨f, rfl⟩⟩, -, hk⟩
   ·exact step _ _ (execOp_put oi (fun cs b => hsel i oi cs b hi) a oj.dst u h3) (wanted_put oi a oj.dst u h3) hk
   ·exact step _ _ (execOp_put oi (fun cs b => hsel i oi cs b hi) { a with defers := f :: a.defers } oj.dst u h3) (wanted_put oi { a with defers := f :: a.defers } oj.dst u h3) hk
theorem wpA_val {L r : List Oper} {i : Nat} {oi : Oper} {v : Value} {n : Nat} {l : Array Bool} {a : Act} {w : World} (hi : L.drop i = oi :: r) (hs : Region.noSelect L.toArray = true) (hf : Region.free md L.toArray l i = true) (hr : (Region.ready md L.toArray l).contains i = true)
  (hQ : ∀ c a w, Q (.panic c) (a.put oi.dst v) w → Q (.panic c) a w) (hw : Region.wanted oi (yielded L.toArray a.tmps) = true) (hy : ∀ x, (execOp a.eval oi).run P x = .ok (.value v) x)
  (h : wpAny P md L.toArray Q n (l.setIfInBounds i true) (a.put oi.dst v) w) : wpAny P md L.toArray Q (n + 1) l a w :=
 wpA_first (at_drop hi) (Region.noSelect_spec hs) hQ n l a w (Region.free_spec (at_drop hi) hf) (by simpa using hr) hw hy h
theorem wpA_call {L r : List Oper} {i : Nat} {oi : Oper} {f : FuncId} {args : Array Value} {n : Nat} {l : Array Bool} {a : Act} {w : World} (hr : Region.ready md L.toArray l = [i]) (hi : L.drop i = oi :: r) (hw : Region.wanted oi (yielded L.toArray a.tmps) = true) (hy : (execOp a.eval oi).run P w = .ok (.enter f args) w)
  (hd : Region.ready md L.toArray (l.setIfInBounds i true) = []) (h : Calls P f args w fun e y => ∃ v, e = .returned v ∧ Q .normal (a.put oi.dst v) y) : wpAny P md L.toArray Q (n + 1) l a w := by
 refine ⟨fun h => (by rw [hr] at h; cases h), fun j hj => ?_⟩
 rw [hr, List.mem_singleton] at hj
 subst hj
 unfold wpOp
 rw [at_drop hi]
 dsimp only
 rw [if_pos hw]
 refine Or.inl ?_
 unfold Oper.wp
 rw [hy]
 refine h.mono ?_
 rintro e y ⟨v, rfl, hq⟩
 cases n with
 | zero => exact ⟨hd, hq⟩
 | succ n => exact ⟨fun _ => hq, by rw [hd]; simp⟩
theorem wpA_step {L r : List Oper} {i : Nat} {oi : Oper} {n : Nat} {l : Array Bool} {a : Act} {w y : World} (hr : Region.ready md L.toArray l = [i]) (hi : L.drop i = oi :: r) (hw : Region.wanted oi (yielded L.toArray a.tmps) = true) (hy : (execOp a.eval oi).run P w = .ok .skip y)
  (h : wpAny P md L.toArray Q n (l.setIfInBounds i true) (a.put oi.dst undef) y) : wpAny P md L.toArray Q (n + 1) l a w := by
 refine ⟨fun h => (by rw [hr] at h; cases h), fun j hj => ?_⟩
 rw [hr, List.mem_singleton] at hj
 subst hj
 unfold wpOp
 rw [at_drop hi]
 dsimp only
 rw [if_pos hw]
 refine Or.inl ?_
 unfold Oper.wp
 rw [hy]
 exact h
theorem wpA_done {ops : Array Oper} {l : Array Bool} {a : Act} {w : World} (hr : Region.ready md ops l = []) (h : Q .normal a w) : ∀ n, wpAny P md ops Q n l a w
 | 0 => ⟨hr, h⟩
 | _ + 1 => ⟨fun _ => h, by rw [hr]; simp⟩
theorem wpA_store {L r : List Oper} {i : Nat} {oi : Oper} {n : Nat} {l : Array Bool} {a : Act} {w y : World} (hr : Region.ready md L.toArray l = [i]) (hi : L.drop i = oi :: r) (hw : Region.wanted oi (yielded L.toArray a.tmps) = true) (hy : (execOp a.eval oi).run P w = .ok .skip y)
  (hd : Region.ready md L.toArray (l.setIfInBounds i true) = []) (h : Q .normal (a.put oi.dst undef) y) : wpAny P md L.toArray Q (n + 1) l a w := by
 refine ⟨fun h => (by rw [hr] at h; cases h), fun j hj => ?_⟩
 rw [hr, List.mem_singleton] at hj
 subst hj
 unfold wpOp
 rw [at_drop hi]
 dsimp only
 rw [if_pos hw]
 refine Or.inl ?_
 unfold Oper.wp
 rw [hy]
 cases n with
 | zero => exact ⟨hd, h⟩
 | succ n => exact ⟨fun _ => h, by rw [hd]; simp⟩
end
section
variable {P : Program} {ops : Array Oper} {Q : Exit → Act → World → Prop} {md : Region.Mode} {tl : Nat → Bool}
def tailedD (tl : Nat → Bool) (ops : Array Oper) (l : Array Bool) : Bool := (List.range ops.size).all fun j => l.getD j true || tl j
theorem tailedD_spec {l : Array Bool} (h : tailedD tl ops l = true) {j : Nat} (hj : l.getD j true = false) (hs : j < ops.size) : tl j = true := by
 have := List.all_eq_true.1 h j (by simpa using hs)
 rw [hj, Bool.false_or] at this
 exact this
def wpD (P : Program) (md : Region.Mode) (ops : Array Oper) (Q : Exit → Act → World → Prop) (tl : Nat → Bool) : Nat → Array Bool → Act → World → Prop
 | 0, l, a, w => ∀ x, Later w x → wpAny P md ops Q 0 l a x
 | n + 1, l, a, w => (tailedD tl ops l = true ∧ ∀ x, Later w x → wpAny P md ops Q (n + 1) l a x) ∨ (∀ x, Later w x → (Region.ready md ops l = [] → Q .normal a x) ∧
   ∀ i ∈ Region.ready md ops l, wpOp P ops Q i (fun a' y => Later x y ∧ wpD P md ops Q tl n (l.setIfInBounds i true) a' y) a x)
theorem wpD_later : ∀ (n : Nat) (l : Array Bool) (a : Act) (w y : World), Later w y → wpD P md ops Q tl n l a w → wpD P md ops Q tl n l a y
 | 0, _, _, _, _, hy, h => fun x hx => h x (hy.trans hx)
 | _ + 1, _, _, _, _, hy, h => h.imp (fun q => ⟨q.1, fun x hx => q.2 x (hy.trans hx)⟩) (fun q x hx => q x (hy.trans hx))
theorem wpAny_of_D : ∀ (n : Nat) (l : Array Bool) (a : Act) (w : World), wpD P md ops Q tl n l a w → wpAny P md ops Q n l a w
 | 0, _, _, w, h => h w (Later.refl w)
 | n + 1, _, _, w, h => by
  rcases h with h | h
  ·exact h.2 w (Later.refl w)
  ·exact ⟨(h w (Later.refl w)).1, fun i hi => wpOp_mono (fun a' y hh => wpAny_of_D n _ a' y hh.2) ((h w (Later.refl w)).2 i hi)⟩
def waitsD (md : Region.Mode) (tl : Nat → Bool) (ops : Array Oper) (l : Array Bool) (i : Nat) (C : List Nat) : Bool :=
 (C.all fun c => !(l.getD c true) && (((ops[c]?).map fun o => o.after.any fun e => Region.binds md e && ((e.on == i) || C.contains e.on)) == some true)) && ((List.range ops.size).all fun f => !(tl f) || l.getD f true || C.contains f)
theorem waitsD_spec {l : Array Bool} {i : Nat} {C : List Nat} (h : waitsD md tl ops l i C = true) (hi : l.getD i true = false) : ∀ c ∈ C, c ∉ Region.ready md ops l := by
 unfold waitsD at h
 rw [Bool.and_eq_true] at h
 intro c hc hr
 have h1 := List.all_eq_true.1 h.1 c hc
 rw [Bool.and_eq_true] at h1
 obtain ⟨-, o, ho, hall⟩ := mem_ready.1 hr
 rw [ho] at h1
 simp only [Option.map_some, beq_iff_eq, Option.some.injEq] at h1
 have h2 := h1.2
 rw [Array.any_eq_true'] at h2
 obtain ⟨e, he, q⟩ := h2
 rw [Bool.and_eq_true, Bool.or_eq_true] at q
 have hd := hall e he q.1
 rcases q.2 with q2 | q2
 ·rw [beq_iff_eq] at q2
  rw [q2] at hd
  exact getD_clash hi hd
 ·have hm : e.on ∈ C := by simpa using q2
  have h3 := List.all_eq_true.1 h.1 _ hm
  rw [Bool.and_eq_true, Bool.not_eq_true'] at h3
  exact getD_clash h3.1 hd
theorem waitsD_last {l : Array Bool} {i f : Nat} {C : List Nat} (h : waitsD md tl ops l i C = true) (hf : tl f = true) (hu : l.getD f true = false) (hs : f < ops.size) : f ∈ C := by
 unfold waitsD at h
 rw [Bool.and_eq_true] at h
 have := List.all_eq_true.1 h.2 f (by simpa using hs)
 rw [hu, Bool.or_false, hf] at this
 simpa using this
theorem waitsD_step {l : Array Bool} {i j : Nat} {C : List Nat} (h : waitsD md tl ops l i C = true) (hj : j ∉ C) : waitsD md tl ops (l.setIfInBounds j true) i C = true := by
 unfold waitsD at h ⊢
 rw [Bool.and_eq_true] at h ⊢
 refine ⟨List.all_eq_true.2 fun c hc => ?_, List.all_eq_true.2 fun f hf => ?_⟩
 ·have h1 := List.all_eq_true.1 h.1 c hc
  have hcj : j ≠ c := fun e => hj (e ▸ hc)
  rw [getD_set_ne true hcj]
  exact h1
 ·have h1 := List.all_eq_true.1 h.2 f hf
  by_cases e : j = f
  ·subst e
   have : (l.setIfInBounds j true).getD j true = true := by
    simp only [Array.getD]
    split
    ·simp
    ·rfl
   rw [this]
   simp
  ·rw [getD_set_ne true e]
   exact h1
theorem wpD_first {i : Nat} {oi : Oper} {v : Value} {C : List Nat} (hi : ops[i]? = some oi) (hsel : ∀ (j : Nat) (o : Oper) cs b, ops[j]? = some o → o.op ≠ .select cs b) (hQ : ∀ c a w, Q (.panic c) (a.put oi.dst v) w → Q (.panic c) a w) :
  ∀ (n : Nat) (l : Array Bool) (a : Act) (w : World), waitsD md tl ops l i C = true → (∀ j oj, ops[j]? = some oj → j ≠ i → l.getD j true = false → (∀ e ∈ oj.after, Region.binds md e = true → e.on ≠ i) → oi.apart ops oj = true) →
   i ∈ Region.ready md ops l → YL P ops oi v a w → wpD P md ops Q tl n (l.setIfInBounds i true) (a.put oi.dst v) w → wpD P md ops Q tl (n + 1) l a w := by
 intro n
 induction n with
 | zero =>
  intro l a w _ _ hr hy H
  refine .inr fun x hx => ⟨fun h => (by rw [h] at hr; cases hr), fun j hj => ?_⟩
  by_cases hji : j = i
  ·subst hji
   exact hy.op hi hx fun y hxy => ⟨hxy, wpD_later 0 _ _ _ _ (hx.trans hxy) H⟩
  ·have q := ready_mono hj hji
   rw [(H w (Later.refl w)).1] at q
   cases q
 | succ n ih =>
  intro l a w hwt hfree hr hy H
  refine .inr fun x hx => ⟨fun h => (by rw [h] at hr; cases hr), fun j hj => ?_⟩
  by_cases hji : j = i
  ·subst hji
   exact hy.op hi hx fun y hxy => ⟨hxy, wpD_later (n + 1) _ _ _ _ (hx.trans hxy) H⟩
  ·obtain ⟨hun, oj, hoj, -⟩ := mem_ready.1 hj
   have hjC : j ∉ C := fun hc => waitsD_spec hwt (mem_ready.1 hr).1 j hc hj
   rcases H with H | H
   ·have hju : (l.setIfInBounds i true).getD j true = false := by rw [getD_set_ne true (Ne.symm hji)]; exact hun
    have hjs := (Array.getElem?_eq_some_iff.1 hoj).1
    have hjm := tailedD_spec H.1 hju hjs
    exact absurd (waitsD_last hwt hjm hun hjs) hjC
   ·have q := op_beside hoj (hfree j oj hoj hji hun (ready_free hr hj hoj)) (fun cs b => hsel i oi cs b hi) (fun cs b => hsel j oj cs b hoj) hQ hy ((H x hx).2 j (ready_mono hj hji))
    refine wpOp_mono (fun b y hb => ⟨hb.2.1, ih (l.setIfInBounds j true) b y (waitsD_step hwt hjC) (fun k ok hk hki hku hno => hfree k ok hk hki ?_ hno) (ready_mono hr (Ne.symm hji)) (hb.1.later (hx.trans hb.2.1)) ?_⟩) q
    ·by_cases hjk : j = k
     ·subst hjk; exact hun
     ·rw [getD_set_ne true hjk] at hku; exact hku
    ·rw [Array.setIfInBounds_comm _ _ hji]
     exact hb.2.2
theorem wpD_tail {l : Array Bool} {a : Act} {w : World} (ht : tailedD tl ops l = true) : ∀ {n : Nat}, (∀ x, Later w x → wpAny P md ops Q n l a x) → wpD P md ops Q tl n l a w
 | 0, h => h
 | _ + 1, h => .inl ⟨ht, h⟩
theorem wp_region_set {id : Nat} {a : Act} {w : World} (tl : Nat → Bool) (hm : P.follows .mixedOrders = true) (h : wpD P .any ops Q tl ops.size (Array.replicate ops.size false) a w.drew) : (Code.region id ops true).wp P Q a w :=
 wp_region_any hm (wpAny_of_D _ _ _ _ h)
end
section
variable {P : Program} {Q : Exit → Act → World → Prop} {md : Region.Mode} {tl : Nat → Bool}
theorem wpD_val {L r : List Oper} {i : Nat} {oi : Oper} {v : Value} {n : Nat} {l : Array Bool} {a : Act} {w : World} (hi : L.drop i = oi :: r) (hs : Region.noSelect L.toArray = true) (hf : Region.free md L.toArray l i = true) (hr : (Region.ready md L.toArray l).contains i = true) (ht : waitsD md tl L.toArray l i (clo md L.toArray l i) = true)
  (hQ : ∀ c a w, Q (.panic c) (a.put oi.dst v) w → Q (.panic c) a w) (hw : Region.wanted oi (yielded L.toArray a.tmps) = true) (hy : ∀ x, Later w x → (execOp a.eval oi).run P x = .ok (.value v) x)
  (h : wpD P md L.toArray Q tl n (l.setIfInBounds i true) (a.put oi.dst v) w) : wpD P md L.toArray Q tl (n + 1) l a w :=
 wpD_first (at_drop hi) (Region.noSelect_spec hs) hQ n l a w ht (Region.free_spec (at_drop hi) hf) (by simpa using hr) (Or.inl ⟨hw, fun x hx => by unfold Oper.quietAt; rw [hy x hx]; exact ⟨rfl, rfl⟩⟩) h
theorem wpD_one {L r : List Oper} {i : Nat} {oi : Oper} {n : Nat} {l : Array Bool} {a : Act} {w : World} (hr : Region.ready md L.toArray l = [i]) (hi : L.drop i = oi :: r) (hw : Region.wanted oi (yielded L.toArray a.tmps) = true)
  (h : ∀ x, Later w x → ∃ (v : Value) (y : World), (execOp a.eval oi).run P x = .ok (.value v) y ∧ Later x y ∧ wpD P md L.toArray Q tl n (l.setIfInBounds i true) (a.put oi.dst v) y) : wpD P md L.toArray Q tl (n + 1) l a w := by
 refine .inr fun x hx => ?_
 rw [hr]
 refine ⟨fun h => (by cases h), fun j hj => ?_⟩
 rw [List.mem_singleton] at hj
 subst hj
 obtain ⟨v, y, h1, h2, h3⟩ := h x hx
 unfold wpOp
 rw [at_drop hi]
 dsimp only
 rw [if_pos hw]
 refine Or.inl ?_
 unfold Oper.wp
 rw [h1]
 exact ⟨h2, h3⟩
theorem wpD_onecall {L r : List Oper} {i : Nat} {oi : Oper} {f : FuncId} {args : Array Value} {n : Nat} {l : Array Bool} {a : Act} {w : World} (hr : Region.ready md L.toArray l = [i]) (hi : L.drop i = oi :: r) (hw : Region.wanted oi (yielded L.toArray a.tmps) = true)
  (hy : ∀ x, Later w x → (execOp a.eval oi).run P x = .ok (.enter f args) x)
  (h : ∀ x, Later w x → Calls P f args x fun e y => ∃ v, e = .returned v ∧ Below x.heap.size x y ∧ wpD P md L.toArray Q tl n (l.setIfInBounds i true) (a.put oi.dst v) y) : wpD P md L.toArray Q tl (n + 1) l a w := by
 refine .inr fun x hx => ?_
 rw [hr]
 refine ⟨fun h => (by cases h), fun j hj => ?_⟩
 rw [List.mem_singleton] at hj
 subst hj
 unfold wpOp
 rw [at_drop hi]
 dsimp only
 rw [if_pos hw]
 refine Or.inl ?_
 unfold Oper.wp
 rw [hy x hx]
 exact (h x hx).mono (by rintro e y ⟨v, rfl, h1, h2⟩; exact ⟨h1, h2⟩)
theorem wpD_callbox {L r r' : List Oper} {i j : Nat} {oi oj : Oper} {f : FuncId} {args : Array Value} {n : Nat} {l : Array Bool} {a : Act} {w : World} {C : Array Value} {t : TypeId}
  (hr : Region.ready md L.toArray l = [i, j]) (hi : L.drop i = oi :: r) (hj : L.drop j = oj :: r') (hw : Region.wanted oi (yielded L.toArray a.tmps) = true) (hwj : Region.wanted oj (yielded L.toArray a.tmps) = true)
  (hy : ∀ x, Later w x → (execOp a.eval oi).run P x = .ok (.enter f args) x) (hz : ∀ x, Later w x → (execOp a.eval oj).run P x = .ok (.value (.pointer (some ⟨x.heap.size, 0, none⟩))) (x.alloc (.cells C t)))
  (h1 : ∀ x, Later w x → Calls P f args x fun e y => ∃ v, e = .returned v ∧ Below x.heap.size x y ∧ wpD P md L.toArray Q tl n (l.setIfInBounds i true) (a.put oi.dst v) y)
  (h2 : ∀ x, Later w x → wpD P md L.toArray Q tl n (l.setIfInBounds j true) (a.put oj.dst (.pointer (some ⟨x.heap.size, 0, none⟩))) (x.alloc (.cells C t))) : wpD P md L.toArray Q tl (n + 1) l a w := by
 refine .inr fun x hx => ?_
 rw [hr]
 refine ⟨fun h => (by cases h), fun k hk => ?_⟩
 rw [List.mem_cons, List.mem_singleton] at hk
 unfold wpOp
 rcases hk with rfl | rfl
 ·rw [at_drop hi]
  dsimp only
  rw [if_pos hw]
  refine Or.inl ?_
  unfold Oper.wp
  rw [hy x hx]
  exact (h1 x hx).mono (by rintro e y ⟨v, rfl, q1, q2⟩; exact ⟨q1, q2⟩)
 ·rw [at_drop hj]
  dsimp only
  rw [if_pos hwj]
  refine Or.inl ?_
  unfold Oper.wp
  rw [hz x hx]
  exact ⟨(Below.refl _ _).alloc (Nat.le_refl _) _, h2 x hx⟩
theorem wpD_purely {ops : Array Oper} {i : Nat} {oi : Oper} {v : Value} (hi : ops[i]? = some oi) (hti : tl i = true) (hsel : ∀ (j : Nat) (o : Oper) cs b, ops[j]? = some o → o.op ≠ .select cs b) (hQ : ∀ c a w, Q (.panic c) (a.put oi.dst v) w → Q (.panic c) a w) :
  ∀ (n : Nat) (l : Array Bool) (a : Act) (w : World), (∀ j oj, ops[j]? = some oj → j ≠ i → l.getD j true = false → (∀ e ∈ oj.after, Region.binds md e = true → e.on ≠ i) → oi.apart ops oj = true) →
   i ∈ Region.ready md ops l → Region.wanted oi (yielded ops a.tmps) = true → (∀ x, (execOp a.eval oi).run P x = .ok (.value v) x) → wpD P md ops Q tl n (l.setIfInBounds i true) (a.put oi.dst v) w → wpD P md ops Q tl (n + 1) l a w := by
 have htail : ∀ {l : Array Bool}, tailedD tl ops (l.setIfInBounds i true) = true → tailedD tl ops l = true := fun {l} h => by
  unfold tailedD at h ⊢
  refine List.all_eq_true.2 fun j hj => ?_
  by_cases e : i = j
  ·subst e
   rw [hti, Bool.or_true]
  ·have := List.all_eq_true.1 h j hj
   rw [getD_set_ne true e] at this
   exact this
 intro n
 induction n with
 | zero =>
  intro l a w _ hr hw hy H
  refine .inr fun x hx => ⟨fun h => (by rw [h] at hr; cases hr), fun j hj => ?_⟩
  by_cases hji : j = i
  ·subst hji
   have hyl : YL P ops oi v a w := Or.inl ⟨hw, fun x _ => by unfold Oper.quietAt; rw [hy x]; exact ⟨rfl, rfl⟩⟩
   exact hyl.op hi hx fun y hxy => ⟨hxy, wpD_later 0 _ _ _ _ (hx.trans hxy) H⟩
  ·have q := ready_mono hj hji
   rw [(H w (Later.refl w)).1] at q
   cases q
 | succ n ih =>
  intro l a w hfree hr hw hy H
  rcases H with H | H
  ·exact .inl ⟨htail H.1, fun x hx => wpA_first hi hsel hQ _ l a x hfree hr hw hy (H.2 x hx)⟩
  ·have hyl : YL P ops oi v a w := Or.inl ⟨hw, fun x _ => by unfold Oper.quietAt; rw [hy x]; exact ⟨rfl, rfl⟩⟩
   refine .inr fun x hx => ⟨fun h => (by rw [h] at hr; cases hr), fun j hj => ?_⟩
   by_cases hji : j = i
   ·subst hji
    exact hyl.op hi hx fun y hxy => ⟨hxy, wpD_later (n + 1) _ _ _ _ (hx.trans hxy) (.inr H)⟩
   ·obtain ⟨hun, oj, hoj, -⟩ := mem_ready.1 hj
    have hap := hfree j oj hoj hji hun (ready_free hr hj hoj)
    have h3 := (Oper.apart_spec hap).2.2
    have q := op_frame hoj (wpOp_putIf (S := fun _ => False) hoj hap (fun cs b => hsel i oi cs b hi) (fun cs b => hsel j oj cs b hoj) hQ (Or.inl ⟨hw, fun _ hf => hf.elim⟩) ((H x hx).2 j (ready_mono hj hji)))
    refine wpOp_mono ?_ q
    have step : ∀ (b : Act) (y : World), Later x y → execOp b.eval oi = execOp a.eval oi → Region.wanted oi (yielded ops b.tmps) = Region.wanted oi (yielded ops a.tmps) → wpD P md ops Q tl n ((l.setIfInBounds i true).setIfInBounds j true) (b.put oi.dst v) y → Later x y ∧ wpD P md ops Q tl (n + 1) (l.setIfInBounds j true) b y := fun b y hl e1 e2 hk => by
     refine ⟨hl, ih (l.setIfInBounds j true) b y (fun k ok hk hki hku hno => hfree k ok hk hki ?_ hno) (ready_mono hr (Ne.symm hji)) (by rw [e2]; exact hw) (fun x => by rw [e1]; exact hy x) ?_⟩
     ·by_cases hjk : j = k
      ·subst hjk; exact hun
      ·rw [getD_set_ne true hjk] at hku; exact hku
     ·rw [Array.setIfInBounds_comm _ _ hji]
      exact hk
    rintro b y ⟨⟨u, rfl | ⟨f, rfl⟩⟩, -, hl, hk⟩
    ·exact step _ _ hl (execOp_put oi (fun cs b => hsel i oi cs b hi) a oj.dst u h3) (wanted_put oi a oj.dst u h3) hk
    ·exact step _ _ hl (execOp_put oi (fun cs b => hsel i oi cs b hi) { a with defers := f :: a.defers } oj.dst u h3) (wanted_put oi { a with defers := f :: a.defers } oj.dst u h3) hk
theorem wpD_pure {L r : List Oper} {i : Nat} {oi : Oper} {v : Value} {n : Nat} {l : Array Bool} {a : Act} {w : World} (hi : L.drop i = oi :: r) (hti : tl i = true) (hs : Region.noSelect L.toArray = true) (hf : Region.free md L.toArray l i = true) (hr : (Region.ready md L.toArray l).contains i = true)
  (hQ : ∀ c a w, Q (.panic c) (a.put oi.dst v) w → Q (.panic c) a w) (hw : Region.wanted oi (yielded L.toArray a.tmps) = true) (hy : ∀ x, (execOp a.eval oi).run P x = .ok (.value v) x)
  (h : wpD P md L.toArray Q tl n (l.setIfInBounds i true) (a.put oi.dst v) w) : wpD P md L.toArray Q tl (n + 1) l a w :=
 wpD_purely (at_drop hi) hti (Region.noSelect_spec hs) hQ n l a w (Region.free_spec (at_drop hi) hf) (by simpa using hr) hw hy h
end
end Go.Proofs.YtakhagkhngmpaaaGreat
/- OpenM: . -/
namespace Go.Proofs.YtakhagkhngmpaaaGreat
set_option maxRecDepth 100000
open Go.RowKit Go.Deep Go.ChangeShapes Go.WideShapes
end Go.Proofs.YtakhagkhngmpaaaGreat
/- EdC: . -/
namespace Go.Proofs.YtakhagkhngmpaaaGreat
set_option maxRecDepth 100000
open Go.RowKit Go.Deep Go.ChangeShapes Go.WideShapes
attribute [local go_sem ↓] Go.wp_at_zero Go.wp_at_succ
end Go.Proofs.YtakhagkhngmpaaaGreat
/- TreB: . -/
namespace Go.Proofs.YtakhagkhngmpaaaGreat
set_option maxRecDepth 100000
open Go.RowKit
attribute [local go_sem ↓] Go.wp_at_zero Go.wp_at_succ
def NInt (ns : List NM) : Prop := ∀ n ∈ ns, (Lit.int .i64 n.id).wf = true ∧ (Lit.int .i64 n.parent).wf = true
theorem same_text (x : ByteArray) : (x.toList != x.toList) = false := by simp
end Go.Proofs.YtakhagkhngmpaaaGreat
/- TreG: . -/
namespace Go.Proofs.YtakhagkhngmpaaaGreat
set_option maxRecDepth 100000
open Go.RowKit
def markPs (k n : Nat) : List PM := (List.range n).map fun i => ⟨((k + 2 * i : Nat) : Int), ((k + 2 * i + 1 : Nat) : Int)⟩
def markDir (k : Nat) : Bool := decide (k % 3 = 0)
def markN (k np : Nat) : NM := ⟨(k : Int), ((k + 1 : Nat) : Int), mt (k + 2), markDir (k + 3), ((k + 4 : Nat) : Int), ((k + 5 : Nat) : Int), ((k + 6 : Nat) : Int), markPs (k + 7) np, ((k + 7 + 2 * np : Nat) : Int)⟩
def markRs (k : Nat) : List NR → List NR
 | [] => []
 | r :: rs => ⟨markN k r.nd.pieces.length, r.loc, r.cap⟩ :: markRs (k + 8 + 2 * r.nd.pieces.length) rs
theorem ncs_get (ts : List NR) (j : Nat) (h : j < ts.length) (i : Nat) (hi : i < 9) : (ncs ts)[j * 9 + i]? = (ncells ts[j])[i]? := flat_get ncells_len ts j h i hi
theorem ncs_set1 (ts : List NR) (i : Nat) (hi : i < ts.length) (f : Nat) (hf : f < 9) (r : NR) (v : Value) (h1 : (ncells r)[f]? = some v) (h2 : ∀ q, q < 9 → q ≠ f → (ncells r)[q]? = (ncells ts[i])[q]?) : (ncs ts).set (i * 9 + f) v = ncs (ts.set i r) := by
 have hlen : (ncs ts).length = ts.length * 9 := ncs_len ts
 apply List.ext_getElem?
 intro n
 by_cases hn : n < ts.length * 9
 ·have hs := flat_set ncells_len ts i hi r n hn
  show _ = ((ts.set i r).flatMap ncells)[n]?
  rw [hs]
  have hm := Nat.mod_lt n (show 0 < 9 by decide)
  have he : n = n / 9 * 9 + n % 9 := by omega
  by_cases e : n = i * 9 + f
  ·have e1 : n / 9 = i := by omega
   have e2 : n % 9 = f := by omega
   rw [if_pos e1, e2, h1, ← e, List.getElem?_set_self (by rw [hlen]; exact hn)]
  ·rw [List.getElem?_set_ne (by omega)]
   by_cases e1 : n / 9 = i
   ·rw [if_pos e1, h2 _ hm (by omega)]
    have := ncs_get ts i hi (n % 9) hm
    rw [← this]
    congr 1
    omega
   ·rw [if_neg e1]; rfl
 ·rw [List.getElem?_eq_none (by rw [List.length_set, hlen]; omega), List.getElem?_eq_none (by rw [ncs_len, List.length_set]; omega)]
theorem apart_set {rs : List NR} (h : rs.Pairwise fun r s => NKind.inn r ≠ [] → NKind.inn s ≠ [] → NKind.loc r ≠ NKind.loc s) (j : Nat) (hj : j < rs.length) (r : NR) (hi : pcs r.nd.pieces ≠ [] → pcs rs[j].nd.pieces ≠ []) (hl : r.loc = rs[j].loc) : (rs.set j r).Pairwise fun r s => NKind.inn r ≠ [] → NKind.inn s ≠ [] → NKind.loc r ≠ NKind.loc s := by
 have ha := List.pairwise_iff_getElem.1 h
 refine List.pairwise_iff_getElem.2 (fun a b ha' hb' hab h1 h2 => ?_)
 rw [List.length_set] at ha' hb'
 rw [List.getElem_set] at h1 ⊢
 rw [List.getElem_set] at h2 ⊢
 by_cases ea : j = a
 ·subst ea
  rw [if_pos rfl] at h1 ⊢
  rw [if_neg (by omega)] at h2 ⊢
  show r.loc ≠ _
  rw [hl]
  exact ha j b ha' hb' hab (hi h1) h2
 ·rw [if_neg ea] at h1 ⊢
  by_cases eb : j = b
  ·subst eb
   rw [if_pos rfl] at h2 ⊢
   show _ ≠ r.loc
   rw [hl]
   exact ha a j ha' hb' hab h1 (hi h2)
  ·rw [if_neg eb] at h2 ⊢
   exact ha a b ha' hb' hab h1 h2
theorem TW.cell {w : World} {g : Nat} {ts : List NR} {lo hi : Nat} (h : TW w g ts lo hi) (i : Nat) (hi' : i < ts.length) (f : Nat) (hf : f < 9) (r : NR) (v : Value) (h1 : (ncells r)[f]? = some v) (h2 : ∀ q, q < 9 → q ≠ f → (ncells r)[q]? = (ncells ts[i])[q]?)
  (hin : r.nd.pieces = ts[i].nd.pieces) (hloc : r.loc = ts[i].loc) : TW (w.setCell ⟨g, i * 9 + f, none⟩ v) g (ts.set i r) lo hi := by
 have hout := h.out.set (i * 9 + f) v (by rw [NKind.cells_len]; show i * 9 + f < ts.length * 9; omega)
 have e : (NKind.cells ts).set (i * 9 + f) v = NKind.cells (ts.set i r) := ncs_set1 ts i hi' f hf r v h1 h2
 rw [e] at hout
 refine ⟨hout, h.glo, h.ghi, fun s hs => ?_, apart_set h.apart i hi' r (fun q => by rw [← hin]; exact q) hloc⟩
 have key : ∀ s ∈ ts, NKind.inn s = [] ∨ ∃ b, NKind.loc s = some ⟨b, 0, none⟩ ∧ lo ≤ b ∧ b < hi ∧ b ≠ g ∧ WCells (w.setCell ⟨g, i * 9 + f, none⟩ v) b (NKind.inn s) := fun s hs => by
  rcases h.rows s hs with q | ⟨b, e, q1, q2, q3, q4⟩
  ·exact .inl q
  ·exact .inr ⟨b, e, q1, q2, q3, q4.other _ _ q3⟩
 rcases List.mem_or_eq_of_mem_set hs with q | q
 ·exact key s q
 ·subst q
  have := key ts[i] (List.getElem_mem hi')
  show pcs s.nd.pieces = [] ∨ ∃ b, s.loc = _ ∧ _ ∧ _ ∧ _ ∧ WCells _ b (pcs s.nd.pieces)
  rw [hin, hloc]
  exact this
theorem TW.pieces {w w2 : World} {g : Nat} {ts : List NR} {lo hi : Nat} (h : TW w g ts lo hi) (i : Nat) (hi' : i < ts.length) (b : Nat) (hb : ts[i].loc = some ⟨b, 0, none⟩) (hne : ts[i].nd.pieces ≠ []) (r : NR) (hc : ncells r = ncells ts[i]) (hloc : r.loc = ts[i].loc)
  (hw : WCells w2 b (pcs r.nd.pieces)) (hg : w.grownBy w2 (some b)) : TW w2 g (ts.set i r) lo hi := by
 obtain ⟨b', e', p1, p2, p3, p4⟩ : ∃ b, ts[i].loc = some ⟨b, 0, none⟩ ∧ lo ≤ b ∧ b < hi ∧ b ≠ g ∧ WCells w b (pcs ts[i].nd.pieces) := by
  rcases h.rows ts[i] (List.getElem_mem hi') with q | q
  ·exact absurd q (pcs_ne hne)
  ·exact q
 have eb : b' = b := congrArg Addr.block (Option.some.inj (e'.symm.trans hb))
 subst eb
 have hcs : NKind.cells (ts.set i r) = NKind.cells ts := by
  show (ts.set i r).flatMap ncells = ts.flatMap ncells
  apply List.ext_getElem?
  intro n
  by_cases hn : n < ts.length * 9
  ·rw [flat_set ncells_len ts i hi' r n hn]
   split
   ·rename_i e
    rw [hc]
    have := ncs_get ts i hi' (n % 9) (Nat.mod_lt n (by decide))
    rw [← this]
    show (ncs ts)[_]? = (ncs ts)[_]?
    congr 1
    omega
   ·rfl
  ·rw [List.getElem?_eq_none (by have := flat_len ncells_len (ts.set i r); rw [List.length_set] at this; omega), List.getElem?_eq_none (by have := flat_len ncells_len ts; omega)]
 refine ⟨by rw [hcs]; exact h.out.apart hg (Ne.symm p3), h.glo, h.ghi, fun s hs => ?_, apart_set h.apart i hi' r (fun _ => pcs_ne hne) hloc⟩
 obtain ⟨j, hj, rfl⟩ := List.mem_iff_getElem.1 hs
 rw [List.length_set] at hj
 rw [List.getElem_set]
 by_cases e : i = j
 ·rw [if_pos e]
  exact .inr ⟨b', by show r.loc = _; rw [hloc, hb], p1, p2, p3, hw⟩
 ·rw [if_neg e]
  rcases h.rows ts[j] (List.getElem_mem hj) with q | ⟨c, e2, q1, q2, q3, q4⟩
  ·exact .inl q
  ·by_cases hq : NKind.inn ts[j] = []
   ·exact .inl hq
   ·have hap : ts[i].loc ≠ ts[j].loc := by
     have ha := List.pairwise_iff_getElem.1 h.apart
     by_cases hij : i < j
     ·exact ha i j hi' hj hij (pcs_ne hne) hq
     ·exact (ha j i hj hi' (by omega) hq (pcs_ne hne)).symm
    have hcb : c ≠ b' := fun q => hap (by rw [hb, ← q]; exact e2.symm)
    exact .inr ⟨c, e2, q1, q2, q3, q4.apart hg hcb⟩
end Go.Proofs.YtakhagkhngmpaaaGreat
/- TreH: . -/
namespace Go.Proofs.YtakhagkhngmpaaaGreat
set_option maxRecDepth 100000
open Go.RowKit
attribute [local go_sem ↓] Go.wp_at_zero Go.wp_at_succ
def THeld (w : World) (v : Value) (k : Nat) (T : TM) (lo hi : Nat) : Prop := ∃ (a : Option Addr) (cap : Nat) (rs : List NR), v = .agg #[.slice a rs.length cap, .int .i64 T.next] ∧ nds rs = T.nodes ∧ TR w a (markRs k rs) lo hi
theorem THeld.turned {w w' : World} {v : Value} {k : Nat} {T : TM} {lo hi lo' hi' : Nat} (h : THeld w v k T lo hi) (t : Turned w w' lo' hi') (hd : hi ≤ lo' ∨ hi' ≤ lo) : THeld w' v k T lo hi := by
 obtain ⟨a, cap, rs, e, hr, h1⟩ := h
 exact ⟨a, cap, rs, e, hr, h1.turned t hd⟩
theorem THeld.below {w w' : World} {v : Value} {k : Nat} {T : TM} {lo hi : Nat} (h : THeld w v k T lo hi) (hb : Below w.heap.size w w') : THeld w' v k T lo hi := by
 obtain ⟨a, cap, rs, e, hr, h1⟩ := h
 exact ⟨a, cap, rs, e, hr, h1.below hb⟩
end Go.Proofs.YtakhagkhngmpaaaGreat
/- GrwF: . -/
namespace Go.Proofs.YtakhagkhngmpaaaGreat
set_option maxRecDepth 100000
open Go.RowKit
def Pre9 (R : World → World → Prop) : Prop := (∀ w, R w w) ∧ ∀ {a b c : World}, R a b → R b c → R a c
section
variable {R : World → World → Prop} {P : Program} {ops : Array Oper} {Q : Exit → Act → World → Prop} {md : Region.Mode}
def wpR (R : World → World → Prop) (P : Program) (md : Region.Mode) (ops : Array Oper) (Q : Exit → Act → World → Prop) : Nat → Array Bool → Act → World → Prop
 | 0, l, a, w => Region.ready md ops l = [] ∧ ∀ x, R w x → Q .normal a x
 | n + 1, l, a, w => ∀ x, R w x → (Region.ready md ops l = [] → Q .normal a x) ∧
   ∀ i ∈ Region.ready md ops l, wpOp P ops Q i (fun a' y => R x y ∧ wpR R P md ops Q n (l.setIfInBounds i true) a' y) a x
theorem wpR_later (HR : Pre9 R) : ∀ (n : Nat) (l : Array Bool) (a : Act) (w y : World), R w y → wpR R P md ops Q n l a w → wpR R P md ops Q n l a y
 | 0, _, _, _, _, hy, h => ⟨h.1, fun x hx => h.2 x (HR.2 hy hx)⟩
 | _ + 1, _, _, _, _, hy, h => fun x hx => h x (HR.2 hy hx)
theorem wpAny_of_R (HR : Pre9 R) : ∀ (n : Nat) (l : Array Bool) (a : Act) (w : World), wpR R P md ops Q n l a w → wpAny P md ops Q n l a w
 | 0, _, _, w, h => ⟨h.1, h.2 w (HR.1 w)⟩
 | n + 1, _, _, w, h => ⟨(h w (HR.1 w)).1, fun i hi => wpOp_mono (fun a' y hh => wpAny_of_R HR n _ a' y hh.2) ((h w (HR.1 w)).2 i hi)⟩
def YR (R : World → World → Prop) (P : Program) (ops : Array Oper) (o : Oper) (v : Value) (a : Act) (w : World) : Prop :=
 (Region.wanted o (yielded ops a.tmps) = true ∧ ∀ x, R w x → o.quietAt P a (R x) x v) ∨ (Region.wanted o (yielded ops a.tmps) = false ∧ v = undef)
theorem YR.later (HR : Pre9 R) {o : Oper} {v : Value} {a : Act} {w y : World} (h : YR R P ops o v a w) (hy : R w y) : YR R P ops o v a y :=
 h.imp (fun q => ⟨q.1, fun x hx => q.2 x (HR.2 hy hx)⟩) id
theorem YR.same {o : Oper} {v : Value} {a b : Act} {w : World} (h : YR R P ops o v a w) (he : execOp b.eval o = execOp a.eval o) (hw : Region.wanted o (yielded ops b.tmps) = Region.wanted o (yielded ops a.tmps)) : YR R P ops o v b w := by
 unfold YR Oper.quietAt at *
 rw [he, hw]
 exact h
theorem YR.op (HR : Pre9 R) {i : Nat} {o : Oper} {v : Value} {a : Act} {w x : World} {K : Act → World → Prop} (hi : ops[i]? = some o) (h : YR R P ops o v a w) (hx : R w x) (hk : ∀ y, R x y → K (a.put o.dst v) y) : wpOp P ops Q i K a x := by
 unfold wpOp
 rw [hi]
 dsimp only
 rcases h with ⟨hw, hq⟩ | ⟨hw, hv⟩
 ·rw [if_pos hw]
  refine Or.inl ?_
  have q := hq x hx
  unfold Oper.quietAt at q
  unfold Oper.wp
  revert q
  cases (execOp a.eval o).run P x with
  | halt _ _ => exact False.elim
  | ok r y =>
   cases r with
   | value u => rintro ⟨rfl, rfl⟩; exact hk _ (HR.1 _)
   | skip => rintro ⟨rfl, rfl⟩; exact hk _ (HR.1 _)
   | enter f args => rintro ⟨rfl, hc⟩; exact hc.mono (by rintro _ z ⟨rfl, hz⟩; exact hk _ hz)
   | _ => exact False.elim
 ·rw [if_neg (by rw [hw]; exact Bool.false_ne_true), ← hv]
  exact hk _ (HR.1 _)
theorem op_besideR {j : Nat} {oi oj : Oper} {v : Value} {w : World} (hj : ops[j]? = some oj) (hap : oi.apart ops oj = true) (hsi : ∀ cs b, oi.op ≠ .select cs b) (hsj : ∀ cs b, oj.op ≠ .select cs b)
  (hQ : ∀ c a w, Q (.panic c) (a.put oi.dst v) w → Q (.panic c) a w) {K : Act → World → Prop} {a : Act} {x : World} (hy : YR R P ops oi v a w) (h : wpOp P ops Q j K (a.put oi.dst v) x) :
  wpOp P ops Q j (fun a' y => YR R P ops oi v a' w ∧ K (a'.put oi.dst v) y) a x := by
 have h3 := (Oper.apart_spec hap).2.2
 refine wpOp_mono ?_ (op_frame hj (wpOp_putIf (S := fun _ => False) hj hap hsi hsj hQ (hy.imp (fun q => ⟨q.1, fun _ hf => hf.elim⟩) id) h))
 rintro b y ⟨⟨u, rfl | ⟨f, rfl⟩⟩, -, hk⟩
 ·exact ⟨hy.same (execOp_put oi hsi a oj.dst u h3) (wanted_put oi a oj.dst u h3), hk⟩
 ·have q : YR R P ops oi v { a with defers := f :: a.defers } w := hy.same rfl rfl
  exact ⟨q.same (execOp_put oi hsi _ oj.dst u h3) (wanted_put oi _ oj.dst u h3), hk⟩
theorem wpR_first (HR : Pre9 R) {i : Nat} {oi : Oper} {v : Value} (hi : ops[i]? = some oi) (hsel : ∀ (j : Nat) (o : Oper) cs b, ops[j]? = some o → o.op ≠ .select cs b) (hQ : ∀ c a w, Q (.panic c) (a.put oi.dst v) w → Q (.panic c) a w) :
  ∀ (n : Nat) (l : Array Bool) (a : Act) (w : World), (∀ j oj, ops[j]? = some oj → j ≠ i → l.getD j true = false → (∀ e ∈ oj.after, Region.binds md e = true → e.on ≠ i) → oi.apart ops oj = true) →
   i ∈ Region.ready md ops l → YR R P ops oi v a w → wpR R P md ops Q n (l.setIfInBounds i true) (a.put oi.dst v) w → wpR R P md ops Q (n + 1) l a w := by
 intro n
 induction n with
 | zero =>
  intro l a w _ hr hy H x hx
  refine ⟨fun h => (by rw [h] at hr; cases hr), fun j hj => ?_⟩
  by_cases hji : j = i
  ·subst hji
   exact hy.op HR hi hx fun y hxy => ⟨hxy, wpR_later HR 0 _ _ _ _ (HR.2 hx hxy) H⟩
  ·have q := ready_mono hj hji
   rw [H.1] at q
   cases q
 | succ n ih =>
  intro l a w hfree hr hy H x hx
  refine ⟨fun h => (by rw [h] at hr; cases hr), fun j hj => ?_⟩
  by_cases hji : j = i
  ·subst hji
   exact hy.op HR hi hx fun y hxy => ⟨hxy, wpR_later HR (n + 1) _ _ _ _ (HR.2 hx hxy) H⟩
  ·obtain ⟨hun, oj, hoj, -⟩ := mem_ready.1 hj
   have q := op_besideR hoj (hfree j oj hoj hji hun (ready_free hr hj hoj)) (fun cs b => hsel i oi cs b hi) (fun cs b => hsel j oj cs b hoj) hQ hy ((H x hx).2 j (ready_mono hj hji))
   refine wpOp_mono (fun b y hb => ⟨hb.2.1, ih (l.setIfInBounds j true) b y (fun k ok hk hki hku hno => hfree k ok hk hki ?_ hno) (ready_mono hr (Ne.symm hji)) (hb.1.later HR (HR.2 hx hb.2.1)) ?_⟩) q
   ·by_cases hjk : j = k
    ·subst hjk; exact hun
    ·rw [getD_set_ne true hjk] at hku; exact hku
   ·rw [Array.setIfInBounds_comm _ _ hji]
    exact hb.2.2
theorem wpR_val (HR : Pre9 R) {L r : List Oper} {i : Nat} {oi : Oper} {v : Value} {n : Nat} {l : Array Bool} {a : Act} {w : World} (hi : L.drop i = oi :: r) (hs : Region.noSelect L.toArray = true) (hf : Region.free md L.toArray l i = true) (hr : (Region.ready md L.toArray l).contains i = true)
  (hQ : ∀ c a w, Q (.panic c) (a.put oi.dst v) w → Q (.panic c) a w) (hw : Region.wanted oi (yielded L.toArray a.tmps) = true) (hy : ∀ x, R w x → (execOp a.eval oi).run P x = .ok (.value v) x)
  (h : wpR R P md L.toArray Q n (l.setIfInBounds i true) (a.put oi.dst v) w) : wpR R P md L.toArray Q (n + 1) l a w :=
 wpR_first HR (at_drop hi) (Region.noSelect_spec hs) hQ n l a w (Region.free_spec (at_drop hi) hf) (by simpa using hr) (Or.inl ⟨hw, fun x hx => by unfold Oper.quietAt; rw [hy x hx]; exact ⟨rfl, rfl⟩⟩) h
theorem wpR_call (HR : Pre9 R) {L r : List Oper} {i : Nat} {oi : Oper} {v : Value} {f : FuncId} {args : Array Value} {n : Nat} {l : Array Bool} {a : Act} {w : World} (hi : L.drop i = oi :: r) (hs : Region.noSelect L.toArray = true) (hf : Region.free md L.toArray l i = true) (hr : (Region.ready md L.toArray l).contains i = true)
  (hQ : ∀ c a w, Q (.panic c) (a.put oi.dst v) w → Q (.panic c) a w) (hw : Region.wanted oi (yielded L.toArray a.tmps) = true) (hy : ∀ x, R w x → (execOp a.eval oi).run P x = .ok (.enter f args) x)
  (hc : ∀ x, R w x → Calls P f args x fun e y => e = .returned v ∧ R x y)
  (h : wpR R P md L.toArray Q n (l.setIfInBounds i true) (a.put oi.dst v) w) : wpR R P md L.toArray Q (n + 1) l a w :=
 wpR_first HR (at_drop hi) (Region.noSelect_spec hs) hQ n l a w (Region.free_spec (at_drop hi) hf) (by simpa using hr) (Or.inl ⟨hw, fun x hx => by unfold Oper.quietAt; rw [hy x hx]; exact ⟨rfl, hc x hx⟩⟩) h
theorem wpR_skip (HR : Pre9 R) {L r : List Oper} {i : Nat} {oi : Oper} {n : Nat} {l : Array Bool} {a : Act} {w : World} (hi : L.drop i = oi :: r) (hs : Region.noSelect L.toArray = true) (hf : Region.free md L.toArray l i = true) (hr : (Region.ready md L.toArray l).contains i = true)
  (hQ : ∀ c a w, Q (.panic c) (a.put oi.dst undef) w → Q (.panic c) a w) (hw : Region.wanted oi (yielded L.toArray a.tmps) = false) (h : wpR R P md L.toArray Q n (l.setIfInBounds i true) (a.put oi.dst undef) w) : wpR R P md L.toArray Q (n + 1) l a w :=
 wpR_first HR (at_drop hi) (Region.noSelect_spec hs) hQ n l a w (Region.free_spec (at_drop hi) hf) (by simpa using hr) (Or.inr ⟨hw, rfl⟩) h
theorem wpR_onecall {L r : List Oper} {i : Nat} {oi : Oper} {f : FuncId} {args : Array Value} {n : Nat} {l : Array Bool} {a : Act} {w : World} (hr : Region.ready md L.toArray l = [i]) (hi : L.drop i = oi :: r) (hw : Region.wanted oi (yielded L.toArray a.tmps) = true)
  (hy : ∀ x, R w x → (execOp a.eval oi).run P x = .ok (.enter f args) x)
  (h : ∀ x, R w x → Calls P f args x fun e y => ∃ v, e = .returned v ∧ R x y ∧ wpR R P md L.toArray Q n (l.setIfInBounds i true) (a.put oi.dst v) y) : wpR R P md L.toArray Q (n + 1) l a w := by
 intro x hx
 rw [hr]
 refine ⟨fun h => (by cases h), fun j hj => ?_⟩
 rw [List.mem_singleton] at hj
 subst hj
 unfold wpOp
 rw [at_drop hi]
 dsimp only
 rw [if_pos hw]
 refine Or.inl ?_
 unfold Oper.wp
 rw [hy x hx]
 refine (h x hx).mono ?_
 rintro e y ⟨v, rfl, hq⟩
 exact hq
theorem wpR_done {l : Array Bool} {a : Act} {w : World} (hr : Region.ready md ops l = []) (h : ∀ x, R w x → Q .normal a x) : ∀ n, wpR R P md ops Q n l a w
 | 0 => ⟨hr, h⟩
 | _ + 1 => fun x hx => ⟨fun _ => h x hx, by rw [hr]; simp⟩
theorem wp_region_R (R : World → World → Prop) (HR : Pre9 R) {id : Nat} {a : Act} {w : World} (hm : P.follows .mixedOrders = true) (h : wpR R P .any ops Q ops.size (Array.replicate ops.size false) a w.drew) : (Code.region id ops true).wp P Q a w :=
 wp_region_any hm (wpAny_of_R HR _ _ _ _ h)
end
end Go.Proofs.YtakhagkhngmpaaaGreat
/- LkP: . -/
namespace Go.Proofs.YtakhagkhngmpaaaGreat
set_option maxRecDepth 100000
def fid (ns : List NM) (id : Int) : Option Nat := ns.findIdx? (fun n => n.id == id)
def fnm (ns : List NM) (p : Int) (s : ByteArray) : Option Nat := ns.findIdx? (fun n => n.parent == p && decide (n.name = s))
theorem find_take {α : Type} (P : α → Bool) (xs : List α) (k : Nat) (h : k < xs.length) : (xs.take (k + 1)).findIdx? P = match (xs.take k).findIdx? P with
  | some i => some i
  | none => if P xs[k] = true then some k else none := by
 rw [List.take_succ_eq_append_getElem h, List.findIdx?_append]
 cases hf : (xs.take k).findIdx? P with
 | some i => simp
 | none =>
  simp only [List.findIdx?_cons, List.findIdx?_nil, Option.none_or]
  have : (xs.take k).length = k := by simp; omega
  by_cases hp : P xs[k] = true
  ·simp [hp, this]
  ·simp [hp]
theorem fid_lt {ns : List NM} {id : Int} {i : Nat} (h : fid ns id = some i) : ∃ hi : i < ns.length, ns[i].id = id := by
 obtain ⟨hi, h1, _⟩ := List.findIdx?_eq_some_iff_getElem.1 h
 exact ⟨hi, by simpa using h1⟩
theorem fid_none {ns : List NM} {id : Int} (h : fid ns id = none) : ∀ n ∈ ns, n.id ≠ id := fun n hn => by simpa using List.findIdx?_eq_none_iff.1 h n hn
theorem fid_of {ns : List NM} {i : Nat} (hi : i < ns.length) (h : ∀ j, j < i → ∀ hj : j < ns.length, ns[j].id ≠ ns[i].id) : fid ns ns[i].id = some i :=
 List.findIdx?_eq_some_iff_getElem.2 ⟨hi, by simp, fun j hj => by simpa using h j hj (by omega)⟩
theorem fnm_lt {ns : List NM} {p : Int} {s : ByteArray} {i : Nat} (h : fnm ns p s = some i) : ∃ hi : i < ns.length, ns[i].parent = p ∧ ns[i].name = s := by
 obtain ⟨hi, h1, _⟩ := List.findIdx?_eq_some_iff_getElem.1 h
 exact ⟨hi, by simpa using h1⟩
theorem fnm_none {ns : List NM} {p : Int} {s : ByteArray} (h : fnm ns p s = none) : ∀ n ∈ ns, n.parent = p → n.name ≠ s := fun n hn => by simpa using List.findIdx?_eq_none_iff.1 h n hn
theorem fnm_first {ns : List NM} {p : Int} {s : ByteArray} {i : Nat} (h : fnm ns p s = some i) : ∀ j, j < i → ∀ hj : j < ns.length, ns[j].parent = p → ns[j].name ≠ s := by
 obtain ⟨hi, h1, h2⟩ := List.findIdx?_eq_some_iff_getElem.1 h
 exact fun j hj hjl => by simpa using h2 j hj
theorem at_fid (ns : List NM) (id : Int) : atI ns id = match fid ns id with
  | some i => (i : Int)
  | none => -1 := rfl
inductive Ups (ns : List NM) : Nat → Nat → Prop
 | root : Ups ns 0 0
 | step {i k d : Nat} : i < ns.length → i ≠ 0 → fid ns (ns.getD i default).parent = some k → Ups ns k d → Ups ns i (d + 1)
def Asc (ns : List NM) : Prop := (∀ i (hi : i < ns.length), 0 < i → (ns.getD (i - 1) default).id < ns[i].id) ∧ 0 < ns.length ∧ (ns.getD 0 default).id = 1 ∧ (ns.getD 0 default).parent = 0
theorem Asc.lt {ns : List NM} (h : Asc ns) : ∀ j (hj : j < ns.length) i, i < j → (ns.getD i default).id < ns[j].id := by
 intro j
 induction j with
 | zero => intro _ i hi; omega
 | succ j ih =>
  intro hj i hi
  have h1 := h.1 (j + 1) hj (by omega)
  simp only [Nat.add_sub_cancel] at h1
  rcases Nat.lt_or_ge i j with hl | hg
  ·have h2 := ih (by omega) i hl
   have e : (ns.getD j default) = ns[j] := by simp [List.getD, (by omega : j < ns.length)]
   rw [e] at h1
   omega
  ·obtain rfl : i = j := by omega
   exact h1
theorem getD_in {ns : List NM} {i : Nat} (hi : i < ns.length) : ns.getD i default = ns[i] := by simp [List.getD, hi]
theorem Asc.fid {ns : List NM} (h : Asc ns) {i : Nat} (hi : i < ns.length) : fid ns ns[i].id = some i :=
 fid_of hi fun j hj hjl => by have := h.lt i hi j hj; rw [getD_in hjl] at this; omega
theorem Asc.pos {ns : List NM} (h : Asc ns) {i : Nat} (hi : i < ns.length) : 1 ≤ ns[i].id := by
 rcases Nat.eq_zero_or_pos i with rfl | hp
 ·have := h.2.2.1
  rw [getD_in hi] at this
  omega
 ·have := h.lt i hi 0 hp
  rw [h.2.2.1] at this
  omega
theorem Asc.zero {ns : List NM} (h : Asc ns) : Go.Proofs.YtakhagkhngmpaaaGreat.fid ns 0 = none := by
 cases hf : Go.Proofs.YtakhagkhngmpaaaGreat.fid ns 0 with
 | none => rfl
 | some i =>
  obtain ⟨hi, e⟩ := fid_lt hf
  have := h.pos hi
  omega
theorem Asc.one {ns : List NM} (h : Asc ns) : Go.Proofs.YtakhagkhngmpaaaGreat.fid ns 1 = some 0 := by
 have := h.fid h.2.1
 rw [← getD_in h.2.1, h.2.2.1] at this
 exact this
theorem climbs_ups {ns : List NM} (h : Asc ns) : ∀ (f : Nat) (id : Int) (i : Nat), climbs ns f id = true → Go.Proofs.YtakhagkhngmpaaaGreat.fid ns id = some i → i ≠ 0 → ∃ d, d ≤ f ∧ Ups ns i d := by
 intro f
 induction f with
 | zero => intro id i hc; simp [climbs] at hc
 | succ f ih =>
  intro id i hc hi h0
  unfold climbs at hc
  unfold Go.Proofs.YtakhagkhngmpaaaGreat.fid at hi
  rw [hi] at hc
  dsimp only at hc
  obtain ⟨hil, _⟩ := fid_lt (ns := ns) hi
  by_cases h1 : (ns.getD i default).parent = 1
  ·exact ⟨1, by omega, Ups.step hil h0 (by rw [h1]; exact h.one) Ups.root⟩
  ·rw [if_neg h1] at hc
   cases hk : Go.Proofs.YtakhagkhngmpaaaGreat.fid ns (ns.getD i default).parent with
   | none =>
    cases f with
    | zero => simp [climbs] at hc
    | succ f =>
     unfold climbs at hc
     unfold Go.Proofs.YtakhagkhngmpaaaGreat.fid at hk
     rw [hk] at hc
     cases hc
   | some k =>
    by_cases hk0 : k = 0
    ·subst hk0
     have := fid_lt hk
     obtain ⟨hl, e⟩ := this
     rw [← getD_in hl, h.2.2.1] at e
     exact absurd e.symm h1
    ·obtain ⟨d, hd, hu⟩ := ih _ k hc hk hk0
     exact ⟨d + 1, by omega, Ups.step hil h0 hk hu⟩
theorem ups_climbs {ns : List NM} (h : Asc ns) : ∀ (f i d : Nat), Ups ns i d → i ≠ 0 → d ≤ f → climbs ns f (ns.getD i default).id = true := by
 intro f
 induction f with
 | zero =>
  intro i d hu h0 hd
  cases hu with
  | root => exact absurd rfl h0
  | step => omega
 | succ f ih =>
  intro i d hu h0 hd
  cases hu with
  | root => exact absurd rfl h0
  | @step _ k d' hil _ hk hu' =>
   unfold climbs
   have e := h.fid hil
   rw [← getD_in hil] at e
   unfold Go.Proofs.YtakhagkhngmpaaaGreat.fid at e
   rw [e]
   dsimp only
   split
   ·rfl
   ·rename_i hne
    obtain ⟨hkl, ek⟩ := fid_lt hk
    rw [← ek, ← getD_in hkl]
    refine ih k d' hu' (fun e0 => hne ?_) (by omega)
    subst e0
    rw [← ek, ← getD_in hkl]
    exact h.2.2.1
theorem Ups.lt {ns : List NM} (h : Asc ns) {i d : Nat} (hu : Ups ns i d) : i < ns.length := by
 cases hu with
 | root => exact h.2.1
 | step hl => exact hl
theorem Ups.det {ns : List NM} {i d e : Nat} (h : Ups ns i d) (h' : Ups ns i e) : d = e := by
 induction h generalizing e with
 | root =>
  cases h' with
  | root => rfl
  | step _ h0 => exact absurd rfl h0
 | step _ h0 hk _ ih =>
  cases h' with
  | root => exact absurd rfl h0
  | step _ _ hk' hu' =>
   rw [hk] at hk'
   cases hk'
   rw [ih hu']
end Go.Proofs.YtakhagkhngmpaaaGreat
/- PaI: . -/
namespace Go.Proofs.YtakhagkhngmpaaaGreat
set_option maxRecDepth 100000
open Go.RowKit
open Go.PlainAid (bt)
attribute [local go_sem ↓] Go.wp_at_zero Go.wp_at_succ
theorem get_bt9 (s : ByteArray) (j : Nat) (h : j < s.size) : bt s j = ((s.get! j).toNat : Int) := by
 unfold bt
 rw [dif_pos h]
 simp [ByteArray.get!, getElem!_pos, h]
 rfl
theorem decode_far (s : ByteArray) (pos : Nat) (h : pos < s.size) (ha : 128 ≤ bt s pos) : pos + (Utf8.decode s pos).2 ≤ s.size ∧ (Utf8.decode s pos).2 ≤ 4 ∧ ∀ d, d < (Utf8.decode s pos).2 → 128 ≤ bt s (pos + d) := by
 have hg := fun d (q : pos + d < s.size) => get_bt9 s (pos + d) q
 have g0 := hg 0 (by omega)
 simp only [Nat.add_zero] at g0
 have g1 := hg 1
 have g2 := hg 2
 have g3 := hg 3
 clear hg
 have hn : ¬ (s.get! (pos + 0)).toNat < 128 := by simp only [Nat.add_zero]; omega
 simp only [Utf8.decode, hn, if_false]
 have hone : pos + 1 ≤ s.size ∧ 1 ≤ 4 ∧ ∀ d, d < 1 → 128 ≤ bt s (pos + d) := ⟨by omega, by omega, fun d hd => by
  have : d = 0 := by omega
  subst this; exact ha⟩
 split
 ·rename_i q
  simp only [Bool.and_eq_true, decide_eq_true_eq, beq_iff_eq] at q
  split
  ·refine ⟨by simp only; omega, by simp only; omega, fun d hd => ?_⟩
   have h1 := g1 q.2.1
   rcases (show d = 0 ∨ d = 1 from by simp only at hd; omega) with rfl | rfl
   ·exact ha
   ·rw [h1]; omega
  ·exact hone
 ·split
  ·rename_i q
   simp only [Bool.and_eq_true, decide_eq_true_eq, beq_iff_eq] at q
   split
   ·refine ⟨by simp only; omega, by simp only; omega, fun d hd => ?_⟩
    have h1 := g1 q.1.2.1
    have h2 := g2 q.2.1
    rcases (show d = 0 ∨ d = 1 ∨ d = 2 from by simp only at hd; omega) with rfl | rfl | rfl
    ·exact ha
    ·rw [h1]; omega
    ·rw [h2]; omega
   ·exact hone
  ·split
   ·rename_i q
    simp only [Bool.and_eq_true, decide_eq_true_eq, beq_iff_eq] at q
    split
    ·refine ⟨by simp only; omega, by simp only; omega, fun d hd => ?_⟩
     have h1 := g1 q.1.1.2.1
     have h2 := g2 q.1.2.1
     have h3 := g3 q.2.1
     rcases (show d = 0 ∨ d = 1 ∨ d = 2 ∨ d = 3 from by simp only at hd; omega) with rfl | rfl | rfl | rfl
     ·exact ha
     ·rw [h1]; omega
     ·rw [h2]; omega
     ·rw [h3]; omega
    ·exact hone
   ·exact hone
theorem rune_low (s : ByteArray) (pos : Nat) (h : pos < s.size) (ha : bt s pos < 128) : ((Utf8.decode s pos).1 : Int) = bt s pos ∧ (Utf8.decode s pos).2 = 1 := by
 have e : bt s pos = ((s[pos]'h).toNat : Int) := by unfold bt; rw [dif_pos h]
 rw [decode_ascii s pos h (by omega), e]
 exact ⟨rfl, rfl⟩
theorem rune_high (s : ByteArray) (pos : Nat) (h : pos < s.size) (ha : 128 ≤ bt s pos) : (128 : Int) ≤ ((Utf8.decode s pos).1 : Int) ∧ 1 ≤ (Utf8.decode s pos).2 := by
 have e : bt s pos = ((s[pos]'h).toNat : Int) := by unfold bt; rw [dif_pos h]
 have := decode_high s pos h (by omega)
 omega
theorem implNameRune (r : Int) (b : Bool) (hb : b = true ↔ nameN r) (w : World) : Calls Tryz.prog 145 #[.int .i32 r] w fun e w' => e = .returned (.bool b) ∧ w' = w := by
 have HB := Shut.mk hb
 clear hb
 unfold nameN at HB
 by_cases c1 : 97 ≤ r
 ·by_cases c2 : r ≤ 122
  ·have hb : b = true := HB.out.2 (by omega)
   subst hb
   go_enter Tryz.func145, Tryz.ntmps145
   go_wp2_with fail
   go_ret
   exact ⟨rfl, rfl⟩
  ·have c3 : 48 ≤ r := by omega
   have c4 : ¬ r ≤ 57 := by omega
   have hb : b = false := by cases b with | false => rfl | true => exact absurd (HB.out.1 rfl) (by omega)
   subst hb
   go_enter Tryz.func145, Tryz.ntmps145
   go_wp2_with fail
   go_ret
   exact ⟨rfl, rfl⟩
 ·by_cases c3 : 48 ≤ r
  ·by_cases c4 : r ≤ 57
   ·have hb : b = true := HB.out.2 (by omega)
    subst hb
    go_enter Tryz.func145, Tryz.ntmps145
    go_wp2_with fail
    go_ret
    exact ⟨rfl, rfl⟩
   ·have hb : b = false := by cases b with | false => rfl | true => exact absurd (HB.out.1 rfl) (by omega)
    subst hb
    go_enter Tryz.func145, Tryz.ntmps145
    go_wp2_with fail
    go_ret
    exact ⟨rfl, rfl⟩
  ·have hb : b = false := by cases b with | false => rfl | true => exact absurd (HB.out.1 rfl) (by omega)
   subst hb
   go_enter Tryz.func145, Tryz.ntmps145
   go_wp2_with fail
   go_ret
   exact ⟨rfl, rfl⟩
theorem iter_below (w : World) (s : ByteArray) (pos : Nat) : Below w.heap.size w (w.iter s pos) := (Below.refl _ _).alloc (Nat.le_refl _) _
set_option maxHeartbeats 1000000 in
theorem implNameOk (s : ByteArray) (w : World) (hs : s.size ≤ 1048576) : Calls Tryz.prog 119 #[.string s] w fun e w' => e = .returned (.bool (nameB s)) ∧ Below w.heap.size w w' := by
 obtain ⟨r, hre⟩ : ∃ r, r = nameB s := ⟨_, rfl⟩
 have HRE := Shut.mk hre
 rw [← hre]
 clear hre
 have hnot (q : ¬ (1 ≤ s.size ∧ s.size ≤ 8)) : r = false := by
  rw [HRE.out]
  cases e : nameB s with
  | false => rfl
  | true => exact absurd ((nameB_iff s).1 e).2 q
 by_cases h1 : s.size < 1
 ·have hr := hnot (by omega)
  subst hr
  have h1' : (s.size : Int) < 1 := by omega
  go_enter Tryz.func119, Tryz.ntmps119
  go_wp2_with fail
  go_ret
  exact ⟨rfl, Below.refl _ _⟩
 have h1' : ¬ (s.size : Int) < 1 := by omega
 by_cases h8 : 8 < s.size
 ·have hr := hnot (by omega)
  subst hr
  have h8' : (8 : Int) < (s.size : Int) := by omega
  go_enter Tryz.func119, Tryz.ntmps119
  go_wp2_with fail
  go_ret
  exact ⟨rfl, Below.refl _ _⟩
 have h8' : ¬ (8 : Int) < (s.size : Int) := by omega
 clear hnot
 go_enter Tryz.func119, Tryz.ntmps119
 go_wp2_with fail
 go_loopw [2] (fun v wr => ∃ (pos : Nat), v = .bool false ∧ wr = w.iter s pos ∧ pos ≤ s.size ∧ Shut (∀ j, j < pos → nameN (bt s j))) (fun _ wr => s.size - wr.iterPos w.heap.size)
 case atStart => exact ⟨0, rfl, rfl, Nat.zero_le _, ⟨fun j hj => by omega⟩⟩
 case round =>
  obtain ⟨pos, rfl, rfl, hp, hall⟩ := hrel
  by_cases hlt : pos < s.size
  ·have hnx : ∀ ty, (Instr.next (.pointer (some ⟨w.heap.size, 0, none⟩)) true ty).run Tryz.prog (w.iter s pos) = _ := fun ty => run_next_any w s pos ty hlt
   have hlow := rune_low s pos hlt
   have hhigh := rune_high s pos hlt
   generalize Utf8.decode s pos = D at *
   obtain ⟨rn, wd⟩ := D
   simp only at hlow hhigh hnx
   by_cases hn : nameN (bt s pos)
   ·have hl : bt s pos < 128 := by unfold nameN at hn; omega
    obtain ⟨e1, rfl⟩ := hlow hl
    have HN := Shut.mk (fun W => implNameRune (rn : Int) true (by rw [e1]; exact ⟨fun _ => hn, fun _ => rfl⟩) W)
    have HA : Shut (∀ j, j < pos + 1 → nameN (bt s j)) := ⟨fun j hj => by
     by_cases e : j = pos
     ·subst e; exact hn
     ·exact hall.out j (by omega)⟩
    clear hn hlow hhigh e1 hl hall
    go_wp2_with fail
    refine (HN.out _).mono ?_
    rintro e w1 ⟨rfl, hw⟩
    subst hw
    go_wp2_with fail
    go_roundw
    case rel => exact ⟨pos + 1, rfl, rfl, by omega, HA⟩
    case measure => simp; omega
   ·have hr : r = false := HRE.out.trans (nameB_no hlt hn)
    have HN := Shut.mk (fun W => implNameRune (rn : Int) false (by
     refine ⟨fun q => (Bool.noConfusion q), fun q => ?_⟩
     exfalso
     by_cases hl : bt s pos < 128
     ·rw [(hlow hl).1] at q; exact hn q
     ·have := (hhigh (by omega)).1
      unfold nameN at q
      omega) W)
    subst hr
    clear hn hlow hhigh hall
    go_wp2_with fail
    refine (HN.out _).mono ?_
    rintro e w1 ⟨rfl, hw⟩
    subst hw
    go_wp2_with fail
    go_ret
    exact ⟨rfl, iter_below _ _ _⟩
  ·have hnx : ∀ ty, (Instr.next (.pointer (some ⟨w.heap.size, 0, none⟩)) true ty).run Tryz.prog (w.iter s pos) = _ := fun ty => run_next_end w s pos ty hlt
   have hr : r = true := HRE.out.trans ((nameB_iff s).2 ⟨fun j hj => hall.out j (by omega), by omega, by omega⟩)
   subst hr
   go_wp2_with fail
   go_ret
   exact ⟨rfl, iter_below _ _ _⟩
structure BwRel (p : ByteArray) (i bg : Nat) (done : List ByteArray) : Prop where
 le : bg ≤ i
 clean : ∀ j, bg ≤ j → j < i → bt p j ≠ 47
 sofar : (segs (lb p)).map ba = done ++ (segs ((lb p).drop bg)).map ba
theorem BwRel.start {p : ByteArray} : BwRel p 0 0 [] := ⟨Nat.le_refl _, fun j h1 h2 => by omega, rfl⟩
theorem BwRel.step {p : ByteArray} {i bg wd : Nat} {done : List ByteArray} (h : BwRel p i bg done) (hc : ∀ d, d < wd → bt p (i + d) ≠ 47) : BwRel p (i + wd) bg done :=
 ⟨by have := h.le; omega, fun j h1 h2 => by
  by_cases e : j < i
  ·exact h.clean j h1 e
  ·have := hc (j - i) (by omega)
   rwa [show i + (j - i) = j from by omega] at this, h.sofar⟩
theorem BwRel.cut {p : ByteArray} {i bg : Nat} {done : List ByteArray} (h : BwRel p i bg done) (hi : i < p.size) (hc : bt p i = 47) : BwRel p (i + 1) (i + 1) (done ++ [p.extract bg i]) := by
 refine ⟨Nat.le_refl _, fun j h1 h2 => by omega, ?_⟩
 have hl : (lb p).length = p.size := rfl
 have e : (lb p).drop bg = ((lb p).drop bg).take (i - bg) ++ 47 :: (lb p).drop (i + 1) := by
  have h1 : ((lb p).drop bg).drop (i - bg) = 47 :: (lb p).drop (i + 1) := by
   rw [List.drop_drop, show bg + (i - bg) = i from by have := h.le; omega, List.drop_eq_getElem_cons (by omega)]
   congr 1
   have := bt_at hi
   rw [hc] at this
   have h2 : ((lb p)[i]'(by omega)).toNat = 47 := by omega
   exact UInt8.toNat_inj.1 h2
  rw [← h1, List.take_append_drop]
 rw [h.sofar, e, segs_cut _ _ (clean_list (by omega) h.clean), List.map_cons, List.append_assoc]
 congr 1
 rw [← ext_list, ba_lb]; rfl
theorem BwRel.fin {p : ByteArray} {i bg : Nat} {done : List ByteArray} (h : BwRel p i bg done) (hi : i = p.size) : (segs (lb p)).map ba = done ++ [p.extract bg p.size] := by
 have hl : (lb p).length = p.size := rfl
 subst hi
 have e : (lb p).drop bg = ((lb p).drop bg).take (p.size - bg) := by rw [List.take_of_length_le (by rw [List.length_drop]; omega)]
 rw [h.sofar, e, segs_none _ (clean_list (by omega) h.clean), List.map_cons, List.map_nil, ← ext_list, ba_lb]
theorem slice_from (s : ByteArray) (a : Nat) (h : a ≤ s.size) (w : World) : (Instr.slice 9 (.string s) (some (.int .i64 a)) none none).run Tryz.prog w = .ok (.string (s.extract a s.size)) w := by
 rw [run_slice_string_from_if w 9 s .i64 a Tryz.underlying9, if_pos ⟨by omega, by omega⟩]
 rfl
theorem own_iter9 {w : World} {B e size n : Nat} {v : Value} {xs : List Value} {k : Nat} {s : ByteArray} {pos : Nat} (h : w.ownsRow B e size v n xs) (hk : w.heap[k]? = some (.stringIter s pos)) (pos' : Nat) : (w.iterAt k s pos').ownsRow B e size v n xs := by
 refine ⟨h.1, h.2.imp id fun ⟨g, cap, cur, hv, hb, hg, rest⟩ => ⟨g, cap, cur, hv, hb, ?_, rest⟩⟩
 rw [Lib.iterAt_other _ _ _ _ _ (fun e => by subst e; rw [hk] at hg; cases hg)]
 exact hg
theorem own_ne9 {w : World} {B e size n : Nat} {v : Value} {xs : List Value} {k : Nat} {s : ByteArray} {pos : Nat} (h : w.ownsRow B e size v n xs) (hk : w.heap[k]? = some (.stringIter s pos)) : some k ≠ v.ownBlock := by
 rcases h.2 with ⟨rfl, _⟩ | ⟨g, cap, cur, rfl, hb, hg, rest⟩
 ·exact fun e => nomatch e
 ·intro e
  cases e
  rw [hk] at hg
  cases hg
set_option maxHeartbeats 2000000 in
theorem implBetween (p : ByteArray) (w : World) (hs : p.size ≤ 1048576) : Calls Tryz.prog 121 #[.string p] w fun e w' => ∃ v, e = .returned v ∧ w'.ownsRow w.heap.size 9 1 v (segs (lb p)).length (tv ((segs (lb p)).map ba)) ∧ Below w.heap.size w w' := by
 obtain ⟨i0, hi, hz0, hz1, hz2⟩ := info_parts infoTextG
 have hb := Go.PlainAid.get_bt p
 go_enter Tryz.func121, Tryz.ntmps121
 go_wp2_with fail
 go_loopw [3, 4] (fun v bg wr => ∃ (pos g : Nat) (done : List ByteArray) (vv : Value), vv = v ∧ bg = .int .i64 g ∧ wr.heap[w.heap.size]? = some (.stringIter p pos) ∧ pos ≤ p.size ∧ g ≤ pos ∧ done.length ≤ pos ∧ Shut (BwRel p pos g done) ∧ Shut (wr.ownsRow w.heap.size 9 1 vv done.length (tv done)) ∧ Shut (Below w.heap.size w wr)) (fun _ _ wr => p.size - wr.iterPos w.heap.size)
 case atStart => exact ⟨0, 0, [], _, rfl, rfl, World.iter_heap _ _ _, Nat.zero_le _, Nat.le_refl _, by simp, ⟨BwRel.start⟩, ⟨⟨rfl, .inl ⟨rfl, rfl⟩⟩⟩, ⟨iter_below _ _ _⟩⟩
 case round =>
  obtain ⟨pos, g, done, v, rfl, rfl, hit, hp, hg, hd, hrl, hown, hbl⟩ := hrel
  have hB := hbl.out.size
  have hB1 : w.heap.size < wr.heap.size := (Array.getElem?_eq_some_iff.1 hit).1
  by_cases hlt : pos < p.size
  ·have hlow := rune_low p pos hlt
   have hhigh := rune_high p pos hlt
   have hfar := decode_far p pos hlt
   obtain ⟨rn, wd, hD⟩ : ∃ rn wd, Utf8.decode p pos = (rn, wd) := ⟨_, _, rfl⟩
   have hnx : ∀ ty, (Instr.next (.pointer (some ⟨w.heap.size, 0, none⟩)) true ty).run Tryz.prog wr = _ := fun ty => Lib.run_next_any_at wr w.heap.size p pos ty hit hlt
   rw [hD] at hlow hhigh hfar hnx
   simp only at hlow hhigh hfar hnx
   generalize (rn : Int) = R at hlow hhigh hnx
   have hitp := iterPos_of hit
   have hit1 := Lib.iterAt_heap wr w.heap.size p pos (pos + wd) hit
   have hown1 := own_iter9 hown.out hit (pos + wd)
   have hbl1 := Lib.below_iterAt hbl.out (Nat.le_refl _) p (pos + wd)
   have hsz1 : w.heap.size < (wr.iterAt w.heap.size p (pos + wd)).heap.size := by rw [Lib.iterAt_size]; exact hB1
   generalize wr.iterAt w.heap.size p (pos + wd) = W1 at *
   clear hD hbl hown hit
   by_cases hc : bt p pos = 47
   ·obtain ⟨e1, rfl⟩ := hlow (by omega)
    have hrn : R = 47 := by omega
    have hrn' : (R == 47) = true := by rw [hrn]; rfl
    have HR := Shut.mk (hrl.out.cut hlt hc)
    have hsl := slice_str p g pos hg (by omega)
    have hne := own_ne9 hown1 hit1
    have HB1 := Shut.mk hbl1
    generalize p.extract g pos = x at *
    clear hlow hhigh hfar hrl hc e1 hrn hbl1
    go_wp2_with (at_builtin; refine wpList_append_own _ rfl _ _ 76 rfl w.heap.size 9 i0 (.string ⟨#[]⟩) 1 16 Tryz.underlying76 hi hz0 hz1 hz2 rfl (by decide) _ _ _ rfl (hown1.alloc _) ⟨W1.heap.size, 0, none⟩ 1 1 [.string x] rfl rfl (cell_one_new _ _ _) ?c2 ?c3 ?c4 ?c5 ?_)
    case c2 => first | rfl | (intro u hu; simp at hu; subst hu; rfl)
    case c3 => unfold maxLen; omega
    case c4 => omega
    case c5 => first | omega | (simp; omega)
    intro v' w4 hown' hgrow _
    rw [tv_snoc] at hown'
    have Q1 : Shut (w4.ownsRow w.heap.size 9 1 v' (done ++ [x]).length (tv (done ++ [x]))) := ⟨by rw [List.length_append, List.length_singleton]; exact hown'⟩
    have Q2 := Shut.mk ((HB1.out.alloc (by omega) (.cells #[.string x] 9)).grown hgrow (by simp; omega) (fun j hj => (hown1.lt j hj).1))
    have hit4 : w4.heap[w.heap.size]? = some (.stringIter p (pos + 1)) := by
     rw [hgrow.block _ (by simp; omega) hne, Below.heap_alloc _ _ _ (by omega)]
     exact hit1
    clear hown' hgrow hown1 HB1
    go_wp2_with fail
    go_roundw
    case rel => exact ⟨pos + 1, pos + 1, _, v', rfl, by go_num, hit4, by omega, Nat.le_refl _, by rw [List.length_append, List.length_singleton]; omega, HR, Q1, Q2⟩
    case measure => rw [hitp, iterPos_of hit4]; omega
   ·have hrn : ¬ R = 47 ∧ pos + wd ≤ p.size ∧ 1 ≤ wd ∧ ∀ d, d < wd → bt p (pos + d) ≠ 47 := by
     by_cases hl : bt p pos < 128
     ·obtain ⟨e1, rfl⟩ := hlow hl
      refine ⟨by omega, by omega, by omega, fun d hd => ?_⟩
      have : d = 0 := by omega
      subst this; exact hc
     ·have h1 := hhigh (by omega)
      have h2 := hfar (by omega)
      refine ⟨by omega, h2.1, h1.2, fun d hd => ?_⟩
      have := h2.2.2 d hd
      omega
    obtain ⟨h1, h2, h3, h4⟩ := hrn
    have hrn' : (R == 47) = false := by rw [beq_eq_false_iff_ne]; exact h1
    have HR := Shut.mk (hrl.out.step h4)
    clear hlow hhigh hfar hrl hc h4
    go_wp2_with fail
    go_roundw
    case rel => exact ⟨pos + wd, g, done, v, rfl, rfl, hit1, h2, by omega, by omega, HR, ⟨hown1⟩, ⟨hbl1⟩⟩
    case measure => rw [hitp, iterPos_of hit1]; omega
  ·have hnx : ∀ ty, (Instr.next (.pointer (some ⟨w.heap.size, 0, none⟩)) true ty).run Tryz.prog wr = _ := fun ty => Lib.run_next_end_at wr w.heap.size p pos ty hit hlt
   have hfin := hrl.out.fin (by omega)
   have hsl := slice_from p g (by omega)
   have hln : (segs (lb p)).length = done.length + 1 := by
    have := congrArg List.length hfin
    rwa [List.length_map, List.length_append, List.length_singleton] at this
   have HL := Shut.mk hln
   have HF := Shut.mk hfin
   have hown1 := hown.out
   generalize p.extract g p.size = x at *
   clear hrl hfin hln hown
   go_wp2_with (at_builtin; refine wpList_append_own _ rfl _ _ 76 rfl w.heap.size 9 i0 (.string ⟨#[]⟩) 1 16 Tryz.underlying76 hi hz0 hz1 hz2 rfl (by decide) _ _ _ rfl (hown1.alloc _) ⟨wr.heap.size, 0, none⟩ 1 1 [.string x] rfl rfl (cell_one_new _ _ _) ?c2 ?c3 ?c4 ?c5 ?_)
   case c2 => first | rfl | (intro u hu; simp at hu; subst hu; rfl)
   case c3 => unfold maxLen; omega
   case c4 => omega
   case c5 => first | omega | (simp; omega)
   intro v' w4 hown' hgrow _
   rw [tv_snoc] at hown'
   have Q2 := Shut.mk ((hbl.out.alloc hB (.cells #[.string x] 9)).grown hgrow (by simp; omega) (fun j hj => (hown1.lt j hj).1))
   have Q1 := Shut.mk hown'
   clear hown' hgrow hown1
   go_wp2_with fail
   go_ret
   exact ⟨_, rfl, by rw [HL.out, HF.out]; exact Q1.out, Q2.out⟩
end Go.Proofs.YtakhagkhngmpaaaGreat
/- StrW: . -/
namespace Go.Proofs.YtakhagkhngmpaaaGreat
set_option maxRecDepth 100000
open Go.RowKit
attribute [local go_sem ↓] Go.wp_at_zero Go.wp_at_succ
def OCells (w : World) (g off : Nat) (xs : List ByteArray) : Prop :=
 g < w.heap.size ∧ ∀ j, j < xs.length → w.cell? ⟨g, off + j, none⟩ = some (.string (xs.getD j ⟨#[]⟩)) ∧ w.frozen? ⟨g, off + j, none⟩ = false
theorem OCells.below {w w' : World} {g off B : Nat} {xs : List ByteArray} (h : OCells w g off xs) (hb : Below B w w') (hg : g < B) : OCells w' g off xs :=
 ⟨Nat.lt_of_lt_of_le h.1 hb.size, fun j hj => ⟨(hb.cell (p := ⟨g, off + j, none⟩) hg).trans (h.2 j hj).1, (hb.frozen (p := ⟨g, off + j, none⟩) hg).trans (h.2 j hj).2⟩⟩
theorem OCells.block {w w' : World} {g off : Nat} {xs : List ByteArray} (h : OCells w g off xs) (hs : w.heap.size ≤ w'.heap.size) (hb : w'.heap[g]? = w.heap[g]?) : OCells w' g off xs :=
 ⟨Nat.lt_of_lt_of_le h.1 hs, fun j hj => ⟨(World.cell?_of_block (a := ⟨g, off + j, none⟩) hb).trans (h.2 j hj).1, (World.frozen?_of_block (a := ⟨g, off + j, none⟩) hb).trans (h.2 j hj).2⟩⟩
theorem OCells.set {w : World} {g off : Nat} {xs : List ByteArray} (h : OCells w g off xs) (i : Nat) (x : ByteArray) (hi : i < xs.length) : OCells (w.setCell ⟨g, off + i, none⟩ (.string x)) g off (xs.set i x) := by
 refine ⟨by have := h.1; simpa [World.setCell] using this, fun j hj => ?_⟩
 rw [List.length_set] at hj
 refine ⟨?_, (World.frozen?_setCell _ _ _ _).trans (h.2 j hj).2⟩
 by_cases e : j = i
 ·subst e
  rw [World.cell?_setCell_same _ _ _ (h.2 j hj).1]
  simp [List.getD, hi]
 ·rw [World.cell?_setCell_other _ _ _ _ (by first | (simp; done) | (simp; omega)), (h.2 j hj).1]
  simp [List.getD, Ne.symm e]
def OAns (w : World) (v : Value) (L : List ByteArray) (lo hi : Nat) : Prop := ∃ (a : Option Addr) (cap : Nat), v = .slice a L.length cap ∧ L.length ≤ cap ∧ (L = [] ∨ ∃ g off, a = some ⟨g, off, none⟩ ∧ lo ≤ g ∧ g < hi ∧ OCells w g off L)
theorem OAns.see {w : World} {v : Value} {L : List ByteArray} {lo hi : Nat} (h : OAns w v L lo hi) : SSee w v L lo hi := by
 obtain ⟨a, cap, e, _, h1⟩ := h
 refine ⟨a, cap, e, ?_⟩
 rcases h1 with rfl | ⟨g, off, rfl, q1, q2, hm⟩
 ·intro h; simp [tv] at h
 ·intro _
  refine ⟨g, off, rfl, q1, q2, hm.1, fun i v hv => ?_⟩
  have hi : i < L.length := by
   have := (List.getElem?_eq_some_iff.1 hv).1
   rwa [tv_len] at this
  rw [tv_get L i hi] at hv
  cases hv
  exact (hm.2 i hi).1
theorem SAns.oans {w : World} {v : Value} {L : List ByteArray} {lo hi : Nat} (h : SAns w v L lo hi) : OAns w v L lo hi := by
 obtain ⟨a, cap, e, hc, h1⟩ := h
 refine ⟨a, cap, e, hc, ?_⟩
 rcases h1 with rfl | ⟨g, rfl, q1, q2, hm⟩
 ·exact .inl rfl
 ·refine .inr ⟨g, 0, rfl, q1, q2, hm.1, fun j hj => ?_⟩
  rw [Nat.zero_add]
  exact hm.2 j _ (tv_get L j hj)
theorem OAns.form {w : World} {v : Value} {L : List ByteArray} {lo hi : Nat} (h : OAns w v L lo hi) : ∃ a cap, v = .slice a L.length cap := by
 obtain ⟨a, cap, e, _⟩ := h
 exact ⟨a, cap, e⟩
theorem OAns.turned {w w' : World} {v : Value} {L : List ByteArray} {lo hi lo' hi' : Nat} (h : OAns w v L lo hi) (t : Turned w w' lo' hi') (hd : hi ≤ lo' ∨ hi' ≤ lo) : OAns w' v L lo hi := by
 obtain ⟨a, cap, e, hc, h1⟩ := h
 refine ⟨a, cap, e, hc, ?_⟩
 rcases h1 with rfl | ⟨g, off, rfl, q1, q2, hm⟩
 ·exact .inl rfl
 ·exact .inr ⟨g, off, rfl, q1, q2, hm.block t.size (t.block g hm.1 (by omega))⟩
theorem OAns.below {w w' : World} {v : Value} {L : List ByteArray} {lo hi : Nat} (h : OAns w v L lo hi) (hb : Below w.heap.size w w') : OAns w' v L lo hi := by
 obtain ⟨a, cap, e, hc, h1⟩ := h
 refine ⟨a, cap, e, hc, ?_⟩
 rcases h1 with rfl | ⟨g, off, rfl, q1, q2, hm⟩
 ·exact .inl rfl
 ·exact .inr ⟨g, off, rfl, q1, q2, hm.below hb hm.1⟩
end Go.Proofs.YtakhagkhngmpaaaGreat
/- GuardA: . -/
namespace Go.Proofs.YtakhagkhngmpaaaGreat
set_option maxRecDepth 100000
end Go.Proofs.YtakhagkhngmpaaaGreat
/- OffB: . -/
namespace Go.Proofs.YtakhagkhngmpaaaGreat
set_option maxRecDepth 100000
open Go.RowKit
def CSee (w : World) (v : Value) (L : List ByteArray) (lo hi : Nat) : Prop := ∃ (a : Option Addr) (cap : Nat), v = .slice a L.length cap ∧ L.length ≤ cap ∧ RRow w a (tv L) lo hi
theorem CSee.see {w : World} {v : Value} {L : List ByteArray} {lo hi : Nat} (h : CSee w v L lo hi) : SSee w v L lo hi := by
 obtain ⟨a, cap, e, _, h1⟩ := h
 exact ⟨a, cap, e, h1⟩
def OwnAt (w : World) (base : Nat) (v : Value) (n : Nat) (L : List ByteArray) : Prop :=
 L.length = n ∧ ((v = .slice none 0 0 ∧ n = 0) ∨ ∃ g off cap, v = .slice (some ⟨g, off, none⟩) n cap ∧ base ≤ g ∧ n ≤ cap ∧ (∀ j, j < cap → (w.cell? ⟨g, off + j, none⟩).isSome = true ∧ w.frozen? ⟨g, off + j, none⟩ = false) ∧ OCells w g off L)
theorem OwnAt.nil (w : World) (base : Nat) : OwnAt w base (.slice none 0 0) 0 [] := ⟨rfl, .inl ⟨rfl, rfl⟩⟩
theorem own_cell1 {w : World} {g : Nat} {cur : Array Value} (hg : w.heap[g]? = some (.cells cur 9 (0, 0))) (j : Nat) (hj : j < cur.size) : (w.cell? ⟨g, j, none⟩).isSome = true ∧ w.frozen? ⟨g, j, none⟩ = false := by
 refine ⟨?_, ?_⟩
 ·simp [World.cell?, hg, hj]
 ·simp [World.frozen?, hg]
theorem own_tail {w : World} {base g n cap : Nat} {L : List ByteArray} {x : ByteArray} (h : w.ownsRow base 9 1 (.slice (some ⟨g, 0, none⟩) (n + 1) cap) (n + 1) (tv (x :: L))) : OwnAt w base (.slice (some ⟨g, 1, none⟩) n (cap - 1)) n L := by
 have hw := own_wcells h
 have hl := h.1
 rw [tv_len, List.length_cons] at hl
 rcases h.2 with ⟨e, _⟩ | ⟨g', cap', cur, e, hb, hg, hn, _, hs, _⟩
 ·cases e
 ·cases e
  refine ⟨by omega, .inr ⟨g, 1, cap - 1, rfl, hb, by omega, fun j hj => own_cell1 hg _ (by omega), hw.1, fun j hj => ?_⟩⟩
  have := hw.2 (1 + j) (.string (L.getD j ⟨#[]⟩)) (by rw [Nat.add_comm]; exact tv_get L j hj)
  exact this
theorem OwnAt.oans {w : World} {base n : Nat} {v : Value} {L : List ByteArray} (h : OwnAt w base v n L) : OAns w v L base w.heap.size := by
 obtain ⟨hl, h | ⟨g, off, cap, e, hb, hn, _, hc⟩⟩ := h
 ·obtain ⟨e, h0⟩ := h
  rw [h0] at hl
  rw [List.eq_nil_of_length_eq_zero hl]
  exact ⟨none, 0, e, Nat.le_refl _, .inl rfl⟩
 ·exact ⟨_, cap, by rw [hl]; exact e, by omega, .inr ⟨g, off, rfl, hb, hc.1, hc⟩⟩
theorem OwnAt.lt {w : World} {base n : Nat} {v : Value} {L : List ByteArray} (h : OwnAt w base v n L) : ∀ k, v.ownBlock = some k → base ≤ k ∧ k < w.heap.size := by
 intro k hk
 obtain ⟨_, ⟨rfl, _⟩ | ⟨g, off, cap, rfl, hb, _, _, hc⟩⟩ := h
 ·cases hk
 ·cases hk; exact ⟨hb, hc.1⟩
theorem OwnAt.kept {w w' : World} {base n : Nat} {v : Value} {L : List ByteArray} (h : OwnAt w base v n L) (hs : w.heap.size ≤ w'.heap.size) (hb : ∀ k, v.ownBlock = some k → w'.heap[k]? = w.heap[k]?) : OwnAt w' base v n L := by
 obtain ⟨hl, h0 | ⟨g, off, cap, rfl, hbs, hn, hf, hc⟩⟩ := h
 ·exact ⟨hl, .inl h0⟩
 ·have e := hb g rfl
  exact ⟨hl, .inr ⟨g, off, cap, rfl, hbs, hn, fun j hj => by rw [World.cell?_of_block (a := ⟨g, off + j, none⟩) e, World.frozen?_of_block (a := ⟨g, off + j, none⟩) e]; exact hf j hj, hc.block hs e⟩⟩
theorem OwnAt.below {w w' : World} {base n : Nat} {v : Value} {L : List ByteArray} (h : OwnAt w base v n L) (hb : Below w.heap.size w w') : OwnAt w' base v n L := h.kept hb.size (fun k hk => hb.block k (h.lt k hk).2)
theorem OwnAt.alloc {w : World} {base n : Nat} {v : Value} {L : List ByteArray} (h : OwnAt w base v n L) (o : Obj) : OwnAt (w.alloc o) base v n L := h.below ((Below.refl _ _).alloc (Nat.le_refl _) _)
theorem isSome_set {w : World} {a p : Addr} {x : Value} (h : (w.cell? p).isSome = true) : ((w.setCell a x).cell? p).isSome = true := by
 obtain ⟨u, hu⟩ := Option.isSome_iff_exists.1 h
 by_cases e : p = a
 ·subst e
  rw [World.cell?_setCell_same _ _ _ hu]; rfl
 ·rw [World.cell?_setCell_other _ _ _ _ (Ne.symm e)]; exact h
theorem OCells.more {w : World} {g off : Nat} {L : List ByteArray} {x : ByteArray} (h : OCells w g off L) (hc : (w.cell? ⟨g, off + L.length, none⟩).isSome = true) (hf : w.frozen? ⟨g, off + L.length, none⟩ = false) : OCells (w.setCell ⟨g, off + L.length, none⟩ (.string x)) g off (L ++ [x]) := by
 refine ⟨by have := h.1; simpa [World.setCell] using this, fun j hj => ?_⟩
 rw [List.length_append, List.length_singleton] at hj
 obtain ⟨u, hu⟩ := Option.isSome_iff_exists.1 hc
 by_cases e : j = L.length
 ·subst e
  refine ⟨?_, (World.frozen?_setCell _ _ _ _).trans hf⟩
  rw [World.cell?_setCell_same _ _ _ hu]
  simp [List.getD]
 ·have hj' : j < L.length := by omega
  refine ⟨?_, (World.frozen?_setCell _ _ _ _).trans (h.2 j hj').2⟩
  rw [World.cell?_setCell_other _ _ _ _ (fun q => e (by have := congrArg Addr.off q; simp at this; omega)), (h.2 j hj').1]
  simp [List.getD, List.getElem?_append_left hj']
def QPost (R : List ByteArray × Bool) (w : World) (e : Ending) (w' : World) : Prop := ∃ v, e = .returned (.tuple #[v, .bool R.2]) ∧ OwnAt w' w.heap.size v R.1.length R.1 ∧ Below w.heap.size w w'
theorem QPost.none {R : List ByteArray × Bool} {b : Bool} {w w' : World} (h : R = ([], b)) (hb : Below w.heap.size w w') : QPost R w (.returned (.tuple #[.slice none 0 0, .bool b])) w' := by
 unfold QPost
 rw [h]
 exact ⟨_, rfl, OwnAt.nil _ _, hb⟩
end Go.Proofs.YtakhagkhngmpaaaGreat
/- PaK: . -/
namespace Go.Proofs.YtakhagkhngmpaaaGreat
set_option maxRecDepth 100000
open Go.RowKit
open Go.PlainAid (bt)
attribute [local go_sem ↓] Go.wp_at_zero Go.wp_at_succ
theorem split_parts {p x : ByteArray} {L : List ByteArray} (hp : p ≠ ⟨#[47]⟩) (h : (segs (lb p)).map ba = x :: L) : splitB p = if x.size = 0 ∧ 1 ≤ L.length ∧ L.length ≤ 4 ∧ (∀ s ∈ L, nameB s = true) then (L, true) else ([], false) := by
 unfold splitB
 cases e : lb p with
 | nil =>
  rw [e] at h
  simp only [segs, List.map_cons, List.map_nil, List.cons.injEq] at h
  rw [← h.2, if_neg (fun q => by have := q.2.1; simp at this)]
  rfl
 | cons c r =>
  rw [e] at h
  by_cases hc : c = 47
  ·subst hc
   have hr : r ≠ [] := fun q => by
    subst q
    apply hp
    have := congrArg ba e
    rwa [ba_lb] at this
   have e1 : segs (47 :: r) = [] :: segs r := by simp [segs]
   rw [e1, List.map_cons, List.cons.injEq] at h
   obtain ⟨h1, h2⟩ := h
   have hx : x.size = 0 := by rw [← h1]; rfl
   have hlen : L.length = (segs r).length := by rw [← h2, List.length_map]
   have hpos : 1 ≤ L.length := by
    rw [hlen]
    exact List.length_pos_iff.2 (segs_ne r)
   have hall : (∀ s ∈ L, nameB s = true) ↔ (segs r).all nameL = true := by
    rw [← h2, List.all_eq_true]
    constructor
    ·intro q l hl
     have := q (ba l) (List.mem_map.2 ⟨l, hl, rfl⟩)
     unfold nameB at this
     rwa [lb_ba] at this
    ·intro q s hs
     obtain ⟨l, hl, rfl⟩ := List.mem_map.1 hs
     unfold nameB
     rw [lb_ba]
     exact q l hl
   have es : splitP (47 :: r) = if (segs r).all nameL = true ∧ (segs r).length ≤ 4 then (segs r, true) else ([], false) := by
    unfold splitP
    simp only
    rw [if_pos trivial, if_neg hr]
   rw [es]
   by_cases q : (segs r).all nameL = true ∧ (segs r).length ≤ 4
   ·rw [if_pos q, if_pos ⟨hx, hpos, by omega, hall.2 q.1⟩]
    simp only
    rw [h2]
   ·rw [if_neg q, if_neg (fun k => q ⟨hall.1 k.2.2.2, by have := k.2.2.1; omega⟩)]
    rfl
  ·have e2 : splitP (c :: r) = ([], false) := by unfold splitP; exact if_neg hc
   rw [e2]
   obtain ⟨y, t, ht⟩ : ∃ y t, segs r = y :: t := by
    cases q : segs r with
    | nil => exact absurd q (segs_ne r)
    | cons y t => exact ⟨y, t, rfl⟩
   rw [segs_cons hc ht, List.map_cons, List.cons.injEq] at h
   have hx : x.size ≠ 0 := by
    rw [← h.1]
    show (c :: y).toArray.size ≠ 0
    simp
   rw [if_neg (fun k => hx k.1)]
   rfl
theorem parts_ne (p : ByteArray) : ∃ x L, (segs (lb p)).map ba = x :: L := by
 cases q : segs (lb p) with
 | nil => exact absurd q (segs_ne _)
 | cons y t => exact ⟨ba y, t.map ba, rfl⟩
theorem strClone9 (s : ByteArray) (w : World) (h : s.size ≤ 281474976710656) : Calls Tryz.prog 109 #[.string s] w fun e w' => e = .returned (.string s) ∧ Below w.heap.size w w' := by
 go_enter Tryz.func109, Tryz.ntmps109
 go_wp2_with fail
 refine (Tryz.stringslite_Clone s _ h).mono ?_
 rintro e w1 ⟨rfl, hb⟩
 go_wp2_with fail
 go_ret
 exact ⟨rfl, hb⟩
theorem OwnAt.same {w : World} {base g off n cap k : Nat} {L : List ByteArray} (h : OwnAt w base (.slice (some ⟨g, off, none⟩) n cap) n L) (hk : k < L.length) : OwnAt (w.setCell ⟨g, off + k, none⟩ (.string (L.getD k ⟨#[]⟩))) base (.slice (some ⟨g, off, none⟩) n cap) n L := by
 obtain ⟨hl, h | ⟨g', off', cap', e, hb, hn, hf, hc⟩⟩ := h
 ·cases h.1
 ·cases e
  have hs := hc.set k (L.getD k ⟨#[]⟩) hk
  have e2 : L.set k (L.getD k ⟨#[]⟩) = L := by
   have : L.getD k ⟨#[]⟩ = L[k] := by simp [List.getD, hk]
   rw [this]
   exact List.set_getElem_self hk
  rw [e2] at hs
  exact ⟨hl, .inr ⟨g, off, cap, rfl, hb, hn, fun j hj => ⟨isSome_set (hf j hj).1, (World.frozen?_setCell _ _ _ _).trans (hf j hj).2⟩, hs⟩⟩
theorem seg_small (p : ByteArray) : ∀ s ∈ (segs (lb p)).map ba, s.size ≤ p.size := by
 have h : ∀ (l : List UInt8), ∀ t ∈ segs l, t.length ≤ l.length := by
  intro l
  induction l with
  | nil => intro t ht; simp [segs] at ht; subst ht; simp
  | cons c r ih =>
   intro t ht
   unfold segs at ht
   split at ht
   ·rcases List.mem_cons.1 ht with rfl | q
    ·simp
    ·have := ih t q; simp; omega
   ·split at ht
    ·rename_i q; exact absurd q (segs_ne r)
    ·rename_i y u q
     rcases List.mem_cons.1 ht with rfl | k
     ·have := ih y (by rw [q]; simp); simp; omega
     ·have := ih t (by rw [q]; simp [k]); simp; omega
 intro s hs
 obtain ⟨l, hl, rfl⟩ := List.mem_map.1 hs
 exact h _ l hl
set_option maxHeartbeats 2000000 in
theorem implSplitPath (p : ByteArray) (w : World) (hs : p.size ≤ 1048576) : Calls Tryz.prog 75 #[.string p] w fun e w' => QPost (splitB p) w e w' := by
 by_cases h1 : p = ⟨#[47]⟩
 ·have HE := Shut.mk (splitB_one h1)
  have h1' : (p.toList == [47]) = true := by rw [h1, Go.ByteArray.toList_eq]; rfl
  have HP := Shut.mk h1
  clear h1
  go_enter Tryz.func75, Tryz.ntmps75
  go_wp2_with fail
  go_ret2
  exact QPost.none HE.out (Below.refl _ _)
 have h1' : (p.toList == [47]) = false := by
  rw [beq_eq_false_iff_ne]
  intro e
  rw [Go.ByteArray.toList_eq] at e
  exact h1 (ByteArray.ext (Array.toList_inj.1 e))
 have HB0 := Shut.mk (fun W => implBetween p W hs)
 obtain ⟨x, L, hxl⟩ := parts_ne p
 have hsm := seg_small p
 have hsp := split_parts h1 hxl
 have hln : (segs (lb p)).length = L.length + 1 := by
  have := congrArg List.length hxl
  rwa [List.length_map, List.length_cons] at this
 rw [hln, hxl] at HB0
 rw [hxl] at hsm
 have HSM := Shut.mk hsm
 have HSP := Shut.mk hsp
 clear h1 hxl hsm hsp hln
 obtain ⟨n, hn⟩ : ∃ n, n = L.length := ⟨_, rfl⟩
 rw [← hn] at HB0 HSP
 have HN := Shut.mk hn
 clear hn
 go_enter Tryz.func75, Tryz.ntmps75
 go_wp2_with fail
 refine (HB0.out _).mono ?_
 rintro e w1 ⟨v, rfl, hown, hb⟩
 obtain ⟨g, cap, rfl, hcap⟩ := own_some9 hown (by omega)
 have HB := Shut.mk hb
 have hw := own_wcells hown
 have c0 := (hw.2 0 (.string x) rfl).1
 have HOT := Shut.mk (own_tail hown)
 have z1 := hb.size
 clear hb hw hown HB0
 by_cases hx : x.size = 0
 case neg =>
  have hx1 : (x.toList != []) = true := by
   rw [bne_iff_ne]
   intro q
   rw [Go.ByteArray.toList_eq] at q
   exact hx (show x.data.size = 0 by rw [← Array.length_toList, q]; rfl)
  have hx2 : ¬ x.toList = [] := bne_iff_ne.1 hx1
  have HE : Shut (splitB p = ([], false)) := ⟨by rw [HSP.out, if_neg (fun q => hx q.1)]⟩
  clear HSP hx
  by_cases hc1 : cap = 1
  all_goals
   go_wp2_with fail
   go_quiet (fail)
   go_wp2_with fail
   go_ret2
   exact QPost.none HE.out (below_drewN HB.out _)
 have hx1 : (x.toList != []) = false := by
  rw [bne_eq_false_iff_eq, Go.ByteArray.toList_eq]
  exact List.eq_nil_of_length_eq_zero (by rw [Array.length_toList]; exact hx)
 have hx2 : x.toList = [] := by rwa [bne_eq_false_iff_eq] at hx1
 by_cases hn1 : (n : Int) < 1
 ·have HE : Shut (splitB p = ([], false)) := ⟨by rw [HSP.out, if_neg (fun q => by have := q.2.1; omega)]⟩
  have hn5 : ¬ (1 : Int) ≤ (n : Int) := by omega
  clear HSP hx
  by_cases hc1 : cap = 1
  all_goals
   go_wp2_with fail
   go_quiet (fail)
   go_wp2_with fail
   go_ret2
   exact QPost.none HE.out (below_drewN HB.out _)
 by_cases hn4 : (4 : Int) < (n : Int)
 ·have HE : Shut (splitB p = ([], false)) := ⟨by rw [HSP.out, if_neg (fun q => by have := q.2.2.1; omega)]⟩
  have hn5 : (1 : Int) ≤ (n : Int) := by omega
  have hn6 : ¬ (n : Int) ≤ 4 := by omega
  clear HSP hx
  by_cases hc1 : cap = 1
  all_goals
   go_wp2_with fail
   go_quiet (fail)
   go_wp2_with fail
   go_ret2
   exact QPost.none HE.out (below_drewN HB.out _)
 have hc1 : ¬ cap = 1 := by omega
 have hn5 : (1 : Int) ≤ (n : Int) := by omega
 have hn6 : (n : Int) ≤ 4 := by omega
 have HE : Shut (splitB p = if (∀ s ∈ L, nameB s = true) then (L, true) else ([], false)) := ⟨by
  rw [HSP.out]
  by_cases q : ∀ s ∈ L, nameB s = true
  ·rw [if_pos q, if_pos ⟨hx, by omega, by omega, q⟩]
  ·rw [if_neg q, if_neg (fun k => q k.2.2.2)]⟩
 clear HSP hx
 go_wp2_with fail
 go_quiet (fail)
 go_wp2_with fail
 go_loopw [32] (fun i wr => ∃ (k : Nat), i = .int .i64 k ∧ k ≤ n ∧ Shut (∀ j, j < k → nameB (L.getD j ⟨#[]⟩) = true) ∧ Shut (OwnAt wr w.heap.size (.slice (some ⟨g, 1, none⟩) n (cap - 1)) n L) ∧ Shut (Below w.heap.size w wr)) (fun i _ => n - (intOf i).toNat)
 case atStart => exact ⟨0, rfl, Nat.zero_le _, ⟨fun j hj => by omega⟩, ⟨HOT.out.kept (Nat.le_refl _) (fun _ _ => rfl)⟩, ⟨below_drewN HB.out _⟩⟩
 case round =>
  clear HOT HB c0
  obtain ⟨k, rfl, hk, hall, hown, hbl⟩ := hrel
  by_cases hlt : k < n
  ·have hkL : k < L.length := by have := HN.out; omega
   obtain ⟨_, q | ⟨g', off', cap', e', hgb, hnc, hf, hoc⟩⟩ := hown.out
   ·cases q.1
   cases e'
   have c1 := (hoc.2 k hkL).1
   have c2 := (hoc.2 k hkL).2
   have hg := hoc.1
   have hB := hbl.out.size
   have k0 : (0 : Int) ≤ (k : Int) := by omega
   have k1 : (k : Int) < (n : Int) := by omega
   have hmem : L.getD k ⟨#[]⟩ ∈ L := by simp [List.getD, hkL]
   have hsz : (L.getD k ⟨#[]⟩).size ≤ 1048576 := by have := HSM.out _ (List.mem_cons_of_mem x hmem); omega
   have HNA := Shut.mk (fun W => implNameOk (L.getD k ⟨#[]⟩) W hsz)
   have HCL := Shut.mk (fun W => strClone9 (L.getD k ⟨#[]⟩) W (by omega))
   clear hf hoc
   cases hnm : nameB (L.getD k ⟨#[]⟩) with
   | false =>
    have HF : Shut (splitB p = ([], false)) := ⟨by rw [HE.out, if_neg (fun q => by have := q _ hmem; rw [hnm] at this; cases this)]⟩
    rw [hnm] at HNA
    generalize L.getD k ⟨#[]⟩ = y at *
    clear hnm hmem HCL HE
    go_wp2_with fail
    refine (HNA.out _).mono ?_
    rintro e w2 ⟨rfl, hb2⟩
    have HB2 := Shut.mk (hbl.out.trans (hb2.mono hbl.out.size))
    clear hb2
    go_wp2_with fail
    go_ret2
    exact QPost.none HF.out HB2.out
   | true =>
    have HA : Shut (∀ j, j < k + 1 → nameB (L.getD j ⟨#[]⟩) = true) := ⟨fun j hj => by
     by_cases e : j = k
     ·subst e; exact hnm
     ·exact hall.out j (by omega)⟩
    have HSA := Shut.mk (fun W (q : OwnAt W w.heap.size (.slice (some ⟨g, 1, none⟩) n (cap - 1)) n L) => q.same hkL)
    rw [hnm] at HNA
    generalize L.getD k ⟨#[]⟩ = y at *
    clear hnm hmem HE hall
    go_wp2_with fail
    refine (HNA.out _).mono ?_
    rintro e w2 ⟨rfl, hb2⟩
    have HB2 := Shut.mk (hbl.out.trans (hb2.mono hbl.out.size))
    have HO2 := Shut.mk (hown.out.below hb2)
    rw [← hb2.cell (p := ⟨g, 1 + k, none⟩) hg] at c1
    rw [← hb2.frozen (p := ⟨g, 1 + k, none⟩) hg] at c2
    have hg2 := Nat.lt_of_lt_of_le hg hb2.size
    clear hb2 HNA hown hbl
    go_wp2_with fail
    refine (HCL.out _).mono ?_
    rintro e w3 ⟨rfl, hb3⟩
    have HB3 := Shut.mk (HB2.out.trans (hb3.mono HB2.out.size))
    have HO3 := Shut.mk (HO2.out.below hb3)
    rw [← hb3.cell (p := ⟨g, 1 + k, none⟩) hg2] at c1
    rw [← hb3.frozen (p := ⟨g, 1 + k, none⟩) hg2] at c2
    have hg3 := Nat.lt_of_lt_of_le hg2 hb3.size
    clear hb3 HCL HO2 HB2
    have HO4 := Shut.mk (HSA.out _ HO3.out)
    have HB4 := Shut.mk (HB3.out.grown (grownBy_setCell w3 g (1 + k) (.string y)) HB3.out.size (fun j hj => by cases hj; exact hgb))
    clear HO3 HB3 HSA
    go_wp2_with fail
    go_roundw
    case rel => exact ⟨k + 1, by go_num, by omega, HA, HO4, HB4⟩
    case measure => simp [intOf]; omega
  ·have HF : Shut (splitB p = (L, true)) := ⟨by
    rw [HE.out, if_pos (fun s hs => ?_)]
    obtain ⟨j, hj, rfl⟩ := List.mem_iff_getElem.1 hs
    have := hall.out j (by have := HN.out; omega)
    simpa [List.getD, hj] using this⟩
   have k1 : ¬ (k : Int) < (n : Int) := by omega
   clear hall HE
   go_wp2_with fail
   go_ret2
   unfold QPost
   rw [HF.out]
   exact ⟨_, rfl, by rw [← HN.out]; exact hown.out, hbl.out⟩
end Go.Proofs.YtakhagkhngmpaaaGreat
/- LawPth: . -/
namespace Go.Proofs.YtakhagkhngmpaaaGreat
set_option maxRecDepth 100000
open Go.RowKit
attribute [local irreducible] nameB splitB joinB parentB tsum
end Go.Proofs.YtakhagkhngmpaaaGreat
/- FrT: . -/
namespace Go.Proofs.YtakhagkhngmpaaaGreat
set_option maxRecDepth 100000
open Go.RowKit
end Go.Proofs.YtakhagkhngmpaaaGreat
/- OpenC: . -/
namespace Go.Proofs.YtakhagkhngmpaaaGreat
set_option maxRecDepth 100000
open Go.RowKit Go.ChangeShapes Go.WideShapes
theorem open_code {H : Type} {enc : TypeId × Value → H} {W : World} {r : Reach} {b0 base : Nat} {held : Bool} {v : Value} {d : DataW H} {p : List MemPlace}
  (hv : Value.okWide Tryz.prog W r b0 22 v) (h : DataW.Trod enc Tryz.prog W base (fun _ => true) held 22 v d p) : ∃ a len cap, v = .slice a len cap ∧ (len ≤ 1048576 → CodeAt W W.heap.size a len) := by
 obtain ⟨a0, l0, c0, rfl⟩ := okWide_slice Tryz.underlying22 hv
 refine ⟨a0, l0, c0, rfl, fun hl => ?_⟩
 obtain ⟨fuel, hf⟩ := h
 rcases open_ints Tryz.underlying22 Tryz.underlying5 (by kernel_rfl) hf with ⟨hcs, _⟩ | ⟨x, l, c, zs, hcs, _, hl', hm, hz, _, hcell, hwz⟩
 ·simp [Value.cells] at hcs
  obtain ⟨rfl, rfl, rfl⟩ := hcs
  exact code_at (cap := 0) (zs := []) hl (.inl ⟨rfl, rfl⟩)
 ·simp [Value.cells] at hcs
  obtain ⟨rfl, rfl, rfl⟩ := hcs
  exact code_at (cap := c0) (zs := zs) hl (.inr ⟨_, rfl, hl', by simpa using hz, hcell, hwz⟩)
end Go.Proofs.YtakhagkhngmpaaaGreat
/- LawPts: . -/
namespace Go.Proofs.YtakhagkhngmpaaaGreat
set_option maxRecDepth 100000
open Go.RowKit
attribute [local go_sem ↓] Go.wp_at_zero Go.wp_at_succ
theorem join_size {I : List ByteArray} (h : TFit I) : (joinB I).size ≤ 1048576 := by
 by_cases e : I = []
 ·subst e; decide
 ·rw [joinB_ne e, joinA_size]; exact h
end Go.Proofs.YtakhagkhngmpaaaGreat
/- PaL: . -/
namespace Go.Proofs.YtakhagkhngmpaaaGreat
set_option maxRecDepth 100000
open Go.RowKit
open Go.PlainAid (bt)
attribute [local go_sem ↓] Go.wp_at_zero Go.wp_at_succ
theorem lib_join (L : List (List UInt8)) : (47 :: Lib.join L [47]) = joinP L := by
 cases L with
 | nil => rfl
 | cons x L =>
  unfold joinP
  rw [if_neg (by simp)]
  induction L generalizing x with
  | nil => simp [Lib.join]
  | cons y L ih =>
   have := ih y
   simp only [List.map_cons, List.flatten_cons, List.cons_append, List.cons.injEq, true_and] at this ⊢
   rw [← this]
   simp [Lib.join]
theorem joinP_len (L : List ByteArray) (h : TFit L) : (Lib.join (L.map lb) [47]).length ≤ 2097152 := by
 have e := congrArg List.length (lib_join (L.map lb))
 have := join_size h
 have hb : (joinB L).size = (joinP (L.map lb)).length := by
  unfold joinB
  show (joinP (L.map lb)).toArray.size = _
  simp
 rw [List.length_cons] at e
 omega
set_option maxHeartbeats 1000000 in
theorem implJoinPath (w : World) (u : Value) (L : List ByteArray) (lo hi : Nat) (hu : CSee w u L lo hi) (hf : TFit L) : Calls Tryz.prog 168 #[u] w fun e w' => e = .returned (.string (joinB L)) ∧ Below w.heap.size w w' := by
 obtain ⟨a, cap, rfl, hc, hr⟩ := hu
 have hjl := joinP_len L hf
 have HJ : Shut (joinB L = (⟨#[47]⟩ : ByteArray) ++ ⟨(Lib.join (L.map lb) [47]).toArray⟩) := ⟨by
  unfold joinB
  rw [← lib_join]
  apply ByteArray.ext
  simp⟩
 by_cases h0 : L = []
 ·subst h0
  have HN := Shut.mk (fun W => Tryz.strings_Join_none a cap ⟨#[47]⟩ W)
  clear hr hf hjl
  go_enter Tryz.func168, Tryz.ntmps168
  go_wp2_with fail
  refine (HN.out _).mono ?_
  rintro e w1 ⟨rfl, hw⟩
  subst hw
  go_wp2_with fail
  go_ret
  exact ⟨rfl, Below.refl _ _⟩
 ·obtain ⟨b, off, rfl, hb, hcs⟩ := units_at hr (List.length_pos_iff.2 h0)
  have hn : L.length ≤ 1048576 := by unfold TFit at hf; omega
  have HN := Shut.mk (Tryz.strings_Join b off cap L ⟨#[47]⟩ w (fun j x hx => by
   obtain ⟨hj, e⟩ := List.getElem?_eq_some_iff.1 hx
   have := hcs j hj
   rw [this]
   simp [List.getD, hj, e]) hb (by omega) hc (by
    show (Lib.join (L.map lb) [47]).length ≤ _
    omega))
  have hsz : ((⟨(Lib.join (L.map lb) [47]).toArray⟩ : ByteArray)).size ≤ 2097152 := by
   show (Lib.join (L.map lb) [47]).toArray.size ≤ _
   simpa using hjl
  have HN' : Shut (Calls Tryz.prog 172 #[.slice (some ⟨b, off, none⟩) L.length cap, .string ⟨#[47]⟩] w fun e w' => e = .returned (.string ⟨(Lib.join (L.map lb) [47]).toArray⟩) ∧ Below w.heap.size w w') := HN
  generalize (⟨(Lib.join (L.map lb) [47]).toArray⟩ : ByteArray) = J at *
  clear hr hf hjl hcs HN h0
  go_enter Tryz.func168, Tryz.ntmps168
  go_wp2_with fail
  refine HN'.out.mono ?_
  rintro e w1 ⟨rfl, hb1⟩
  go_wp2_with fail
  go_ret
  exact ⟨by rw [HJ.out]; rfl, hb1⟩
theorem OwnAt.form {w : World} {base n : Nat} {v : Value} {L : List ByteArray} (h : OwnAt w base v n L) : ∃ a cap, v = .slice a n cap := by
 obtain ⟨_, ⟨e, h0⟩ | ⟨g, off, cap, e, _⟩⟩ := h
 ·exact ⟨none, 0, by rw [e, h0]⟩
 ·exact ⟨_, cap, e⟩
theorem OwnAt.some' {w : World} {base n : Nat} {v : Value} {L : List ByteArray} (h : OwnAt w base v n L) (hp : 0 < n) : ∃ g off cap, v = .slice (some ⟨g, off, none⟩) n cap ∧ n ≤ cap ∧ g < w.heap.size ∧ ∀ j, j < L.length → w.cell? ⟨g, off + j, none⟩ = some (.string (L.getD j ⟨#[]⟩)) := by
 obtain ⟨_, ⟨_, h0⟩ | ⟨g, off, cap, e, _, hn, _, hc⟩⟩ := h
 ·omega
 ·exact ⟨g, off, cap, e, hn, hc.1, fun j hj => (hc.2 j hj).1⟩
theorem CSee.below {w w' : World} {v : Value} {L : List ByteArray} {lo hi : Nat} (h : CSee w v L lo hi) (hb : Below w.heap.size w w') : CSee w' v L lo hi := by
 obtain ⟨a, cap, e, hc, hr⟩ := h
 obtain ⟨a', cap', e', hr'⟩ := (show SSee w v L lo hi from ⟨a, cap, e, hr⟩).below hb
 rw [e] at e'
 cases e'
 exact ⟨a, cap, e, hc, hr'⟩
set_option maxHeartbeats 2000000 in
theorem implParentPath (p : ByteArray) (w : World) (hs : p.size ≤ 1048576) : Calls Tryz.prog 157 #[.string p] w fun e w' => ParPost p w e w' := by
 have HS := Shut.mk (fun W => implSplitPath p W hs)
 have hnm := splitB_names p
 unfold QPost at HS
 unfold ParPost
 obtain ⟨L, ok, hre⟩ : ∃ L ok, splitB p = (L, ok) := ⟨_, _, rfl⟩
 rw [hre] at HS hnm
 have HN := Shut.mk hnm
 clear hnm
 cases ok with
 | false =>
  rw [parent_no hre (.inl rfl)]
  clear hre
  go_enter Tryz.func157, Tryz.ntmps157
  go_wp2_with fail
  refine (HS.out _).mono ?_
  rintro e w1 ⟨v, rfl, ho, hb⟩
  obtain ⟨a, cap, rfl⟩ := ho.form
  have HB := Shut.mk hb
  clear ho hb
  go_wp2_with fail
  go_ret3
  exact ⟨rfl, HB.out⟩
 | true =>
  rcases List.eq_nil_or_concat L with rfl | ⟨I, x, rfl⟩
  ·rw [parent_no hre (.inr rfl)]
   clear hre
   go_enter Tryz.func157, Tryz.ntmps157
   go_wp2_with fail
   refine (HS.out _).mono ?_
   rintro e w1 ⟨v, rfl, ho, hb⟩
   obtain ⟨a, cap, rfl⟩ := ho.form
   have HB := Shut.mk hb
   clear ho hb
   go_wp2_with fail
   go_ret3
   exact ⟨rfl, HB.out⟩
  ·rw [List.concat_eq_append] at *
   rw [parent_yes hre]
   obtain ⟨J, hJ⟩ : ∃ J, J = joinB I := ⟨_, rfl⟩
   have HJE := Shut.mk hJ
   rw [← hJ]
   clear hJ
   have h4 := HN.out.2
   have HF : Shut (TFit I) := ⟨names_fit (fun s h => HN.out.1 s (List.mem_append.2 (.inl h))) (by rw [List.length_append] at h4; omega)⟩
   obtain ⟨m, hm⟩ : ∃ m, m = I.length := ⟨_, rfl⟩
   have HM := Shut.mk hm
   have hm4 : m ≤ 4 := by rw [List.length_append] at h4; omega
   rw [show (I ++ [x], true).1.length = m + 1 by simp [hm]] at HS
   clear hre h4 hm
   go_enter Tryz.func157, Tryz.ntmps157
   go_wp2_with fail
   refine (HS.out _).mono ?_
   rintro e w1 ⟨v, rfl, ho, hb⟩
   obtain ⟨g, off, cap, rfl, hcap, hg, hcs⟩ := ho.some' (by omega)
   have d0 : w1.cell? ⟨g, off + m, none⟩ = some (.string x) := by
    rw [hcs m (by rw [List.length_append, HM.out]; simp)]
    simp [List.getD, HM.out]
   have hsee : CSee w1 (.slice (some ⟨g, off, none⟩) m cap) I 0 w1.heap.size := ⟨_, cap, by rw [HM.out], by rw [← HM.out]; omega, fun _ => ⟨g, off, rfl, Nat.zero_le _, hg, hg, fun i u hu => by
    have hi : i < I.length := by
     have := (List.getElem?_eq_some_iff.1 hu).1
     rwa [tv_len] at this
    rw [tv_get I i hi] at hu
    cases hu
    rw [hcs i (by rw [List.length_append]; omega)]
    simp [List.getD, List.getElem?_append_left hi]⟩⟩
   have HJ := Shut.mk (fun W (hW : Below w1.heap.size w1 W) => implJoinPath W _ _ _ _ (hsee.below hW) HF.out)
   have HB := Shut.mk hb
   have hm0 : (((m + 1 : Nat) : Int) == 0) = false := by rw [beq_eq_false_iff_ne]; omega
   obtain ⟨n, hn⟩ : ∃ n, n = m + 1 := ⟨_, rfl⟩
   rw [← hn] at hcap hm0 ⊢
   have hnm : (n : Int) - 1 = (m : Int) := by omega
   have hmn : (m : Int) < (n : Int) := by omega
   have hmc : (m : Int) ≤ (cap : Int) := by omega
   have hm9 : (0 : Int) ≤ (m : Int) := by omega
   have hwr : IntKind.i64.wrap ((n : Int) - 1) = (m : Int) := by rw [hnm]; exact IntWalk.i64_in _ ⟨by omega, by omega⟩
   rw [← HJE.out] at HJ
   clear ho hb hcs hsee hn HN HM hnm
   go_wp2_with fail
   go_region_held3 (fun w' => w'.cell? ⟨g, off + m, none⟩ = some (.string x))
    (first | assumption | (exact (hb9.cell (p := ⟨g, off + m, none⟩) hg).trans (by assumption)) | go_keep)
    (first | (go_at_call 168; refine (HJ.out _ (by first | exact Below.refl _ _ | exact Below.drew (Below.refl _ _))).mono ?_; rintro e w9 ⟨rfl, hb9⟩))
   all_goals
    go_wp2_with fail
    go_ret3
    exact ⟨rfl, by first | exact HB.out.trans (hb9.mono HB.out.size) | exact HB.out.trans (((Below.drew (Below.refl w1.heap.size w1)).trans hb9).mono HB.out.size)⟩
end Go.Proofs.YtakhagkhngmpaaaGreat
