/- Texts of ours, laid one behind the other: GrwD, GrwF, GrwG, DrSd, OwS, OwC, DrSo, DrawP, BeginsM, DiskA, DiskB, DiskC. -/
import Derived.Test.YtplcdcfhfaghiaaPa1
import Derived.Maps.AppendAt
import Derived.Laws.IdiomCopy
import Derived.OwnWalk
import Derived.OpenShut
import Derived.WalkKit
import Derived.PlainAid
import Derived.Deep.RegionHeld3
import Derived.Deep.DrawnRows
import Derived.Deep.QuietTactic
import Derived.BigQuiet
/- GrwD: As GrwC, with any set of last operations; pure values among them are taken ahead (written by gen/mkgrwd.py). -/
namespace Go.Proofs.Ytplcdcfhfaghiaa
set_option maxRecDepth 100000
open Go.RowKit
section
variable {P : Program} {ops : Array Oper} {Q : Exit → Act → World → Prop} {md : Region.Mode} {tl : Nat → Bool}
/-- Only operations from number m on are left. -/
def tailedD (tl : Nat → Bool) (ops : Array Oper) (l : Array Bool) : Bool := (List.range ops.size).all fun j => l.getD j true || tl j
theorem tailedD_spec {l : Array Bool} (h : tailedD tl ops l = true) {j : Nat} (hj : l.getD j true = false) (hs : j < ops.size) : tl j = true := by
  have := List.all_eq_true.1 h j (by simpa using hs)
  rw [hj, Bool.false_or] at this
  exact this
/-- Whatever order is picked from here on, in whatever later world, until only the last ones are left. -/
def wpD (P : Program) (md : Region.Mode) (ops : Array Oper) (Q : Exit → Act → World → Prop) (tl : Nat → Bool) : Nat → Array Bool → Act → World → Prop
  | 0, l, a, w => ∀ x, Later w x → wpAny P md ops Q 0 l a x
  | n + 1, l, a, w => (tailedD tl ops l = true ∧ ∀ x, Later w x → wpAny P md ops Q (n + 1) l a x) ∨ (∀ x, Later w x → (Region.ready md ops l = [] → Q .normal a x) ∧
      ∀ i ∈ Region.ready md ops l, wpOp P ops Q i (fun a' y => Later x y ∧ wpD P md ops Q tl n (l.setIfInBounds i true) a' y) a x)
theorem wpD_later : ∀ (n : Nat) (l : Array Bool) (a : Act) (w y : World), Later w y → wpD P md ops Q tl n l a w → wpD P md ops Q tl n l a y
  | 0, _, _, _, _, hy, h => fun x hx => h x (hy.trans hx)
  | _ + 1, _, _, _, _, hy, h => h.imp (fun q => ⟨q.1, fun x hx => q.2 x (hy.trans hx)⟩) (fun q x hx => q x (hy.trans hx))
theorem wpAny_of_D : ∀ (n : Nat) (l : Array Bool) (a : Act) (w : World), wpD P md ops Q tl n l a w → wpAny P md ops Q n l a w
  | 0, _, _, w, h => h w (Later.refl w)
  | n + 1, _, _, w, h => by
    rcases h with h | h
    · exact h.2 w (Later.refl w)
    · exact ⟨(h w (Later.refl w)).1, fun i hi => wpOp_mono (fun a' y hh => wpAny_of_D n _ a' y hh.2) ((h w (Later.refl w)).2 i hi)⟩
/-- The last ones that are left wait for number i. -/
def waitsD (md : Region.Mode) (tl : Nat → Bool) (ops : Array Oper) (l : Array Bool) (i : Nat) (C : List Nat) : Bool :=
  (C.all fun c => !(l.getD c true) && (((ops[c]?).map fun o => o.after.any fun e => Region.binds md e && ((e.on == i) || C.contains e.on)) == some true)) && ((List.range ops.size).all fun f => !(tl f) || l.getD f true || C.contains f)
theorem waitsD_spec {l : Array Bool} {i : Nat} {C : List Nat} (h : waitsD md tl ops l i C = true) (hi : l.getD i true = false) : ∀ c ∈ C, c ∉ Region.ready md ops l := by
  unfold waitsD at h
  rw [Bool.and_eq_true] at h
  intro c hc hr
  have h1 := List.all_eq_true.1 h.1 c hc
  rw [Bool.and_eq_true] at h1
  obtain ⟨-, o, ho, hall⟩ := mem_ready.1 hr
  rw [ho] at h1
  simp only [Option.map_some, beq_iff_eq, Option.some.injEq] at h1
  have h2 := h1.2
  rw [Array.any_eq_true'] at h2
  obtain ⟨e, he, q⟩ := h2
  rw [Bool.and_eq_true, Bool.or_eq_true] at q
  have hd := hall e he q.1
  rcases q.2 with q2 | q2
  · rw [beq_iff_eq] at q2
    rw [q2] at hd
    exact getD_clash hi hd
  · have hm : e.on ∈ C := by simpa using q2
    have h3 := List.all_eq_true.1 h.1 _ hm
    rw [Bool.and_eq_true, Bool.not_eq_true'] at h3
    exact getD_clash h3.1 hd
theorem waitsD_last {l : Array Bool} {i f : Nat} {C : List Nat} (h : waitsD md tl ops l i C = true) (hf : tl f = true) (hu : l.getD f true = false) (hs : f < ops.size) : f ∈ C := by
  unfold waitsD at h
  rw [Bool.and_eq_true] at h
  have := List.all_eq_true.1 h.2 f (by simpa using hs)
  rw [hu, Bool.or_false, hf] at this
  simpa using this
theorem waitsD_step {l : Array Bool} {i j : Nat} {C : List Nat} (h : waitsD md tl ops l i C = true) (hj : j ∉ C) : waitsD md tl ops (l.setIfInBounds j true) i C = true := by
  unfold waitsD at h ⊢
  rw [Bool.and_eq_true] at h ⊢
  refine ⟨List.all_eq_true.2 fun c hc => ?_, List.all_eq_true.2 fun f hf => ?_⟩
  · have h1 := List.all_eq_true.1 h.1 c hc
    have hcj : j ≠ c := fun e => hj (e ▸ hc)
    rw [getD_set_ne true hcj]
    exact h1
  · have h1 := List.all_eq_true.1 h.2 f hf
    by_cases e : j = f
    · subst e
      have : (l.setIfInBounds j true).getD j true = true := by
        simp only [Array.getD]
        split
        · simp
        · rfl
      rw [this]
      simp
    · rw [getD_set_ne true e]
      exact h1
theorem wpD_first {i : Nat} {oi : Oper} {v : Value} {C : List Nat} (hi : ops[i]? = some oi) (hsel : ∀ (j : Nat) (o : Oper) cs b, ops[j]? = some o → o.op ≠ .select cs b) (hQ : ∀ c a w, Q (.panic c) (a.put oi.dst v) w → Q (.panic c) a w) :
    ∀ (n : Nat) (l : Array Bool) (a : Act) (w : World), waitsD md tl ops l i C = true → (∀ j oj, ops[j]? = some oj → j ≠ i → l.getD j true = false → (∀ e ∈ oj.after, Region.binds md e = true → e.on ≠ i) → oi.apart ops oj = true) →
      i ∈ Region.ready md ops l → YL P ops oi v a w → wpD P md ops Q tl n (l.setIfInBounds i true) (a.put oi.dst v) w → wpD P md ops Q tl (n + 1) l a w := by
  intro n
  induction n with
  | zero =>
    intro l a w _ _ hr hy H
    refine .inr fun x hx => ⟨fun h => (by rw [h] at hr; cases hr), fun j hj => ?_⟩
    by_cases hji : j = i
    · subst hji
      exact hy.op hi hx fun y hxy => ⟨hxy, wpD_later 0 _ _ _ _ (hx.trans hxy) H⟩
    · have q := ready_mono hj hji
      rw [(H w (Later.refl w)).1] at q
      cases q
  | succ n ih =>
    intro l a w hwt hfree hr hy H
    refine .inr fun x hx => ⟨fun h => (by rw [h] at hr; cases hr), fun j hj => ?_⟩
    by_cases hji : j = i
    · subst hji
      exact hy.op hi hx fun y hxy => ⟨hxy, wpD_later (n + 1) _ _ _ _ (hx.trans hxy) H⟩
    · obtain ⟨hun, oj, hoj, -⟩ := mem_ready.1 hj
      have hjC : j ∉ C := fun hc => waitsD_spec hwt (mem_ready.1 hr).1 j hc hj
      rcases H with H | H
      · have hju : (l.setIfInBounds i true).getD j true = false := by rw [getD_set_ne true (Ne.symm hji)]; exact hun
        have hjs := (Array.getElem?_eq_some_iff.1 hoj).1
        have hjm := tailedD_spec H.1 hju hjs
        exact absurd (waitsD_last hwt hjm hun hjs) hjC
      · have q := op_beside hoj (hfree j oj hoj hji hun (ready_free hr hj hoj)) (fun cs b => hsel i oi cs b hi) (fun cs b => hsel j oj cs b hoj) hQ hy ((H x hx).2 j (ready_mono hj hji))
        refine wpOp_mono (fun b y hb => ⟨hb.2.1, ih (l.setIfInBounds j true) b y (waitsD_step hwt hjC) (fun k ok hk hki hku hno => hfree k ok hk hki ?_ hno) (ready_mono hr (Ne.symm hji)) (hb.1.later (hx.trans hb.2.1)) ?_⟩) q
        · by_cases hjk : j = k
          · subst hjk; exact hun
          · rw [getD_set_ne true hjk] at hku; exact hku
        · rw [Array.setIfInBounds_comm _ _ hji]
          exact hb.2.2
theorem wpD_tail {l : Array Bool} {a : Act} {w : World} (ht : tailedD tl ops l = true) : ∀ {n : Nat}, (∀ x, Later w x → wpAny P md ops Q n l a x) → wpD P md ops Q tl n l a w
  | 0, h => h
  | _ + 1, h => .inl ⟨ht, h⟩
theorem wpD_done {l : Array Bool} {a : Act} {w : World} (hr : Region.ready md ops l = []) (h : ∀ x, Later w x → Q .normal a x) : ∀ n, wpD P md ops Q tl n l a w
  | 0 => fun x hx => ⟨hr, h x hx⟩
  | _ + 1 => .inr fun x hx => ⟨fun _ => h x hx, by rw [hr]; simp⟩
theorem wp_region_set {id : Nat} {a : Act} {w : World} (tl : Nat → Bool) (hm : P.follows .mixedOrders = true) (h : wpD P .any ops Q tl ops.size (Array.replicate ops.size false) a w.drew) : (Code.region id ops true).wp P Q a w :=
  wp_region_any hm (wpAny_of_D _ _ _ _ h)
end
section
variable {P : Program} {Q : Exit → Act → World → Prop} {md : Region.Mode} {tl : Nat → Bool}
/-- Take number i: a value. -/
theorem wpD_val {L r : List Oper} {i : Nat} {oi : Oper} {v : Value} {n : Nat} {l : Array Bool} {a : Act} {w : World} (hi : L.drop i = oi :: r) (hs : Region.noSelect L.toArray = true) (hf : Region.free md L.toArray l i = true) (hr : (Region.ready md L.toArray l).contains i = true) (ht : waitsD md tl L.toArray l i (clo md L.toArray l i) = true)
    (hQ : ∀ c a w, Q (.panic c) (a.put oi.dst v) w → Q (.panic c) a w) (hw : Region.wanted oi (yielded L.toArray a.tmps) = true) (hy : ∀ x, Later w x → (execOp a.eval oi).run P x = .ok (.value v) x)
    (h : wpD P md L.toArray Q tl n (l.setIfInBounds i true) (a.put oi.dst v) w) : wpD P md L.toArray Q tl (n + 1) l a w :=
  wpD_first (at_drop hi) (Region.noSelect_spec hs) hQ n l a w ht (Region.free_spec (at_drop hi) hf) (by simpa using hr) (Or.inl ⟨hw, fun x hx => by unfold Oper.quietAt; rw [hy x hx]; exact ⟨rfl, rfl⟩⟩) h
/-- Take number i: a call. -/
theorem wpD_call {L r : List Oper} {i : Nat} {oi : Oper} {v : Value} {f : FuncId} {args : Array Value} {n : Nat} {l : Array Bool} {a : Act} {w : World} (hi : L.drop i = oi :: r) (hs : Region.noSelect L.toArray = true) (hf : Region.free md L.toArray l i = true) (hr : (Region.ready md L.toArray l).contains i = true) (ht : waitsD md tl L.toArray l i (clo md L.toArray l i) = true)
    (hQ : ∀ c a w, Q (.panic c) (a.put oi.dst v) w → Q (.panic c) a w) (hw : Region.wanted oi (yielded L.toArray a.tmps) = true) (hy : ∀ x, Later w x → (execOp a.eval oi).run P x = .ok (.enter f args) x)
    (hc : ∀ x, Later w x → Calls P f args x fun e y => e = .returned v ∧ Below x.heap.size x y)
    (h : wpD P md L.toArray Q tl n (l.setIfInBounds i true) (a.put oi.dst v) w) : wpD P md L.toArray Q tl (n + 1) l a w :=
  wpD_first (at_drop hi) (Region.noSelect_spec hs) hQ n l a w ht (Region.free_spec (at_drop hi) hf) (by simpa using hr) (Or.inl ⟨hw, fun x hx => by unfold Oper.quietAt; rw [hy x hx]; exact ⟨rfl, hc x hx⟩⟩) h
/-- Take number i: it is not wanted. -/
theorem wpD_skip {L r : List Oper} {i : Nat} {oi : Oper} {n : Nat} {l : Array Bool} {a : Act} {w : World} (hi : L.drop i = oi :: r) (hs : Region.noSelect L.toArray = true) (hf : Region.free md L.toArray l i = true) (hr : (Region.ready md L.toArray l).contains i = true) (ht : waitsD md tl L.toArray l i (clo md L.toArray l i) = true)
    (hQ : ∀ c a w, Q (.panic c) (a.put oi.dst undef) w → Q (.panic c) a w) (hw : Region.wanted oi (yielded L.toArray a.tmps) = false)
    (h : wpD P md L.toArray Q tl n (l.setIfInBounds i true) (a.put oi.dst undef) w) : wpD P md L.toArray Q tl (n + 1) l a w :=
  wpD_first (at_drop hi) (Region.noSelect_spec hs) hQ n l a w ht (Region.free_spec (at_drop hi) hf) (by simpa using hr) (Or.inr ⟨hw, rfl⟩) h
/-- One alone may come up, and answers a value; memory may be made. -/
theorem wpD_one {L r : List Oper} {i : Nat} {oi : Oper} {n : Nat} {l : Array Bool} {a : Act} {w : World} (hr : Region.ready md L.toArray l = [i]) (hi : L.drop i = oi :: r) (hw : Region.wanted oi (yielded L.toArray a.tmps) = true)
    (h : ∀ x, Later w x → ∃ (v : Value) (y : World), (execOp a.eval oi).run P x = .ok (.value v) y ∧ Later x y ∧ wpD P md L.toArray Q tl n (l.setIfInBounds i true) (a.put oi.dst v) y) : wpD P md L.toArray Q tl (n + 1) l a w := by
  refine .inr fun x hx => ?_
  rw [hr]
  refine ⟨fun h => (by cases h), fun j hj => ?_⟩
  rw [List.mem_singleton] at hj
  subst hj
  obtain ⟨v, y, h1, h2, h3⟩ := h x hx
  unfold wpOp
  rw [at_drop hi]
  dsimp only
  rw [if_pos hw]
  refine Or.inl ?_
  unfold Oper.wp
  rw [h1]
  exact ⟨h2, h3⟩
/-- One alone may come up: a call that answers what it likes and only makes memory. -/
theorem wpD_onecall {L r : List Oper} {i : Nat} {oi : Oper} {f : FuncId} {args : Array Value} {n : Nat} {l : Array Bool} {a : Act} {w : World} (hr : Region.ready md L.toArray l = [i]) (hi : L.drop i = oi :: r) (hw : Region.wanted oi (yielded L.toArray a.tmps) = true)
    (hy : ∀ x, Later w x → (execOp a.eval oi).run P x = .ok (.enter f args) x)
    (h : ∀ x, Later w x → Calls P f args x fun e y => ∃ v, e = .returned v ∧ Below x.heap.size x y ∧ wpD P md L.toArray Q tl n (l.setIfInBounds i true) (a.put oi.dst v) y) : wpD P md L.toArray Q tl (n + 1) l a w := by
  refine .inr fun x hx => ?_
  rw [hr]
  refine ⟨fun h => (by cases h), fun j hj => ?_⟩
  rw [List.mem_singleton] at hj
  subst hj
  unfold wpOp
  rw [at_drop hi]
  dsimp only
  rw [if_pos hw]
  refine Or.inl ?_
  unfold Oper.wp
  rw [hy x hx]
  exact (h x hx).mono (by rintro e y ⟨v, rfl, h1, h2⟩; exact ⟨h1, h2⟩)
/-- A call and the making of a box may come up, in either order. -/
theorem wpD_callbox {L r r' : List Oper} {i j : Nat} {oi oj : Oper} {f : FuncId} {args : Array Value} {n : Nat} {l : Array Bool} {a : Act} {w : World} {C : Array Value} {t : TypeId}
    (hr : Region.ready md L.toArray l = [i, j]) (hi : L.drop i = oi :: r) (hj : L.drop j = oj :: r') (hw : Region.wanted oi (yielded L.toArray a.tmps) = true) (hwj : Region.wanted oj (yielded L.toArray a.tmps) = true)
    (hy : ∀ x, Later w x → (execOp a.eval oi).run P x = .ok (.enter f args) x) (hz : ∀ x, Later w x → (execOp a.eval oj).run P x = .ok (.value (.pointer (some ⟨x.heap.size, 0, none⟩))) (x.alloc (.cells C t)))
    (h1 : ∀ x, Later w x → Calls P f args x fun e y => ∃ v, e = .returned v ∧ Below x.heap.size x y ∧ wpD P md L.toArray Q tl n (l.setIfInBounds i true) (a.put oi.dst v) y)
    (h2 : ∀ x, Later w x → wpD P md L.toArray Q tl n (l.setIfInBounds j true) (a.put oj.dst (.pointer (some ⟨x.heap.size, 0, none⟩))) (x.alloc (.cells C t))) : wpD P md L.toArray Q tl (n + 1) l a w := by
  refine .inr fun x hx => ?_
  rw [hr]
  refine ⟨fun h => (by cases h), fun k hk => ?_⟩
  rw [List.mem_cons, List.mem_singleton] at hk
  unfold wpOp
  rcases hk with rfl | rfl
  · rw [at_drop hi]
    dsimp only
    rw [if_pos hw]
    refine Or.inl ?_
    unfold Oper.wp
    rw [hy x hx]
    exact (h1 x hx).mono (by rintro e y ⟨v, rfl, q1, q2⟩; exact ⟨q1, q2⟩)
  · rw [at_drop hj]
    dsimp only
    rw [if_pos hwj]
    refine Or.inl ?_
    unfold Oper.wp
    rw [hz x hx]
    exact ⟨(Below.refl _ _).alloc (Nat.le_refl _) _, h2 x hx⟩
/-- One of the last ones that is a value in every world is taken first. -/
theorem wpD_purely {ops : Array Oper} {i : Nat} {oi : Oper} {v : Value} (hi : ops[i]? = some oi) (hti : tl i = true) (hsel : ∀ (j : Nat) (o : Oper) cs b, ops[j]? = some o → o.op ≠ .select cs b) (hQ : ∀ c a w, Q (.panic c) (a.put oi.dst v) w → Q (.panic c) a w) :
    ∀ (n : Nat) (l : Array Bool) (a : Act) (w : World), (∀ j oj, ops[j]? = some oj → j ≠ i → l.getD j true = false → (∀ e ∈ oj.after, Region.binds md e = true → e.on ≠ i) → oi.apart ops oj = true) →
      i ∈ Region.ready md ops l → Region.wanted oi (yielded ops a.tmps) = true → (∀ x, (execOp a.eval oi).run P x = .ok (.value v) x) → wpD P md ops Q tl n (l.setIfInBounds i true) (a.put oi.dst v) w → wpD P md ops Q tl (n + 1) l a w := by
  have htail : ∀ {l : Array Bool}, tailedD tl ops (l.setIfInBounds i true) = true → tailedD tl ops l = true := fun {l} h => by
    unfold tailedD at h ⊢
    refine List.all_eq_true.2 fun j hj => ?_
    by_cases e : i = j
    · subst e
      rw [hti, Bool.or_true]
    · have := List.all_eq_true.1 h j hj
      rw [getD_set_ne true e] at this
      exact this
  intro n
  induction n with
  | zero =>
    intro l a w _ hr hw hy H
    refine .inr fun x hx => ⟨fun h => (by rw [h] at hr; cases hr), fun j hj => ?_⟩
    by_cases hji : j = i
    · subst hji
      have hyl : YL P ops oi v a w := Or.inl ⟨hw, fun x _ => by unfold Oper.quietAt; rw [hy x]; exact ⟨rfl, rfl⟩⟩
      exact hyl.op hi hx fun y hxy => ⟨hxy, wpD_later 0 _ _ _ _ (hx.trans hxy) H⟩
    · have q := ready_mono hj hji
      rw [(H w (Later.refl w)).1] at q
      cases q
  | succ n ih =>
    intro l a w hfree hr hw hy H
    rcases H with H | H
    · exact .inl ⟨htail H.1, fun x hx => wpA_first hi hsel hQ _ l a x hfree hr hw hy (H.2 x hx)⟩
    · have hyl : YL P ops oi v a w := Or.inl ⟨hw, fun x _ => by unfold Oper.quietAt; rw [hy x]; exact ⟨rfl, rfl⟩⟩
      refine .inr fun x hx => ⟨fun h => (by rw [h] at hr; cases hr), fun j hj => ?_⟩
      by_cases hji : j = i
      · subst hji
        exact hyl.op hi hx fun y hxy => ⟨hxy, wpD_later (n + 1) _ _ _ _ (hx.trans hxy) (.inr H)⟩
      · obtain ⟨hun, oj, hoj, -⟩ := mem_ready.1 hj
        have hap := hfree j oj hoj hji hun (ready_free hr hj hoj)
        have h3 := (Oper.apart_spec hap).2.2
        have q := op_frame hoj (wpOp_putIf (S := fun _ => False) hoj hap (fun cs b => hsel i oi cs b hi) (fun cs b => hsel j oj cs b hoj) hQ (Or.inl ⟨hw, fun _ hf => hf.elim⟩) ((H x hx).2 j (ready_mono hj hji)))
        refine wpOp_mono ?_ q
        have step : ∀ (b : Act) (y : World), Later x y → execOp b.eval oi = execOp a.eval oi → Region.wanted oi (yielded ops b.tmps) = Region.wanted oi (yielded ops a.tmps) → wpD P md ops Q tl n ((l.setIfInBounds i true).setIfInBounds j true) (b.put oi.dst v) y → Later x y ∧ wpD P md ops Q tl (n + 1) (l.setIfInBounds j true) b y := fun b y hl e1 e2 hk => by
          refine ⟨hl, ih (l.setIfInBounds j true) b y (fun k ok hk hki hku hno => hfree k ok hk hki ?_ hno) (ready_mono hr (Ne.symm hji)) (by rw [e2]; exact hw) (fun x => by rw [e1]; exact hy x) ?_⟩
          · by_cases hjk : j = k
            · subst hjk; exact hun
            · rw [getD_set_ne true hjk] at hku; exact hku
          · rw [Array.setIfInBounds_comm _ _ hji]
            exact hk
        rintro b y ⟨⟨u, rfl | ⟨f, rfl⟩⟩, -, hl, hk⟩
        · exact step _ _ hl (execOp_put oi (fun cs b => hsel i oi cs b hi) a oj.dst u h3) (wanted_put oi a oj.dst u h3) hk
        · exact step _ _ hl (execOp_put oi (fun cs b => hsel i oi cs b hi) { a with defers := f :: a.defers } oj.dst u h3) (wanted_put oi { a with defers := f :: a.defers } oj.dst u h3) hk
theorem wpD_pure {L r : List Oper} {i : Nat} {oi : Oper} {v : Value} {n : Nat} {l : Array Bool} {a : Act} {w : World} (hi : L.drop i = oi :: r) (hti : tl i = true) (hs : Region.noSelect L.toArray = true) (hf : Region.free md L.toArray l i = true) (hr : (Region.ready md L.toArray l).contains i = true)
    (hQ : ∀ c a w, Q (.panic c) (a.put oi.dst v) w → Q (.panic c) a w) (hw : Region.wanted oi (yielded L.toArray a.tmps) = true) (hy : ∀ x, (execOp a.eval oi).run P x = .ok (.value v) x)
    (h : wpD P md L.toArray Q tl n (l.setIfInBounds i true) (a.put oi.dst v) w) : wpD P md L.toArray Q tl (n + 1) l a w :=
  wpD_purely (at_drop hi) hti (Region.noSelect_spec hs) hQ n l a w (Region.free_spec (at_drop hi) hf) (by simpa using hr) hw hy h
end
end Go.Proofs.Ytplcdcfhfaghiaa
/- GrwF: A region that draws its order: as GrwB, over any way in which later worlds may be told (written by gen/mkgrwf.py). -/
namespace Go.Proofs.Ytplcdcfhfaghiaa
set_option maxRecDepth 100000
open Go.RowKit

/-- A way to tell later worlds. -/
def Pre9 (R : World → World → Prop) : Prop := (∀ w, R w w) ∧ ∀ {a b c : World}, R a b → R b c → R a c
section
variable {R : World → World → Prop} {P : Program} {ops : Array Oper} {Q : Exit → Act → World → Prop} {md : Region.Mode}
/-- Whatever order is picked from here on, in whatever later world. -/
def wpR (R : World → World → Prop) (P : Program) (md : Region.Mode) (ops : Array Oper) (Q : Exit → Act → World → Prop) : Nat → Array Bool → Act → World → Prop
  | 0, l, a, w => Region.ready md ops l = [] ∧ ∀ x, R w x → Q .normal a x
  | n + 1, l, a, w => ∀ x, R w x → (Region.ready md ops l = [] → Q .normal a x) ∧
      ∀ i ∈ Region.ready md ops l, wpOp P ops Q i (fun a' y => R x y ∧ wpR R P md ops Q n (l.setIfInBounds i true) a' y) a x
theorem wpR_later (HR : Pre9 R) : ∀ (n : Nat) (l : Array Bool) (a : Act) (w y : World), R w y → wpR R P md ops Q n l a w → wpR R P md ops Q n l a y
  | 0, _, _, _, _, hy, h => ⟨h.1, fun x hx => h.2 x (HR.2 hy hx)⟩
  | _ + 1, _, _, _, _, hy, h => fun x hx => h x (HR.2 hy hx)
theorem wpAny_of_R (HR : Pre9 R) : ∀ (n : Nat) (l : Array Bool) (a : Act) (w : World), wpR R P md ops Q n l a w → wpAny P md ops Q n l a w
  | 0, _, _, w, h => ⟨h.1, h.2 w (HR.1 w)⟩
  | n + 1, _, _, w, h => ⟨(h w (HR.1 w)).1, fun i hi => wpOp_mono (fun a' y hh => wpAny_of_R HR n _ a' y hh.2) ((h w (HR.1 w)).2 i hi)⟩
/-- One value, in every later world; a call may make memory. -/
def YR (R : World → World → Prop) (P : Program) (ops : Array Oper) (o : Oper) (v : Value) (a : Act) (w : World) : Prop :=
  (Region.wanted o (yielded ops a.tmps) = true ∧ ∀ x, R w x → o.quietAt P a (R x) x v) ∨ (Region.wanted o (yielded ops a.tmps) = false ∧ v = undef)
theorem YR.later (HR : Pre9 R) {o : Oper} {v : Value} {a : Act} {w y : World} (h : YR R P ops o v a w) (hy : R w y) : YR R P ops o v a y :=
  h.imp (fun q => ⟨q.1, fun x hx => q.2 x (HR.2 hy hx)⟩) id
theorem YR.same {o : Oper} {v : Value} {a b : Act} {w : World} (h : YR R P ops o v a w) (he : execOp b.eval o = execOp a.eval o) (hw : Region.wanted o (yielded ops b.tmps) = Region.wanted o (yielded ops a.tmps)) : YR R P ops o v b w := by
  unfold YR Oper.quietAt at *
  rw [he, hw]
  exact h
theorem YR.op (HR : Pre9 R) {i : Nat} {o : Oper} {v : Value} {a : Act} {w x : World} {K : Act → World → Prop} (hi : ops[i]? = some o) (h : YR R P ops o v a w) (hx : R w x) (hk : ∀ y, R x y → K (a.put o.dst v) y) : wpOp P ops Q i K a x := by
  unfold wpOp
  rw [hi]
  dsimp only
  rcases h with ⟨hw, hq⟩ | ⟨hw, hv⟩
  · rw [if_pos hw]
    refine Or.inl ?_
    have q := hq x hx
    unfold Oper.quietAt at q
    unfold Oper.wp
    revert q
    cases (execOp a.eval o).run P x with
    | halt _ _ => exact False.elim
    | ok r y =>
      cases r with
      | value u => rintro ⟨rfl, rfl⟩; exact hk _ (HR.1 _)
      | skip => rintro ⟨rfl, rfl⟩; exact hk _ (HR.1 _)
      | enter f args => rintro ⟨rfl, hc⟩; exact hc.mono (by rintro _ z ⟨rfl, hz⟩; exact hk _ hz)
      | _ => exact False.elim
  · rw [if_neg (by rw [hw]; exact Bool.false_ne_true), ← hv]
    exact hk _ (HR.1 _)
/-- An operation beside another that has its value already: the library's law for no world at all, and what the frame may be behind it. -/
theorem op_besideR {j : Nat} {oi oj : Oper} {v : Value} {w : World} (hj : ops[j]? = some oj) (hap : oi.apart ops oj = true) (hsi : ∀ cs b, oi.op ≠ .select cs b) (hsj : ∀ cs b, oj.op ≠ .select cs b)
    (hQ : ∀ c a w, Q (.panic c) (a.put oi.dst v) w → Q (.panic c) a w) {K : Act → World → Prop} {a : Act} {x : World} (hy : YR R P ops oi v a w) (h : wpOp P ops Q j K (a.put oi.dst v) x) :
    wpOp P ops Q j (fun a' y => YR R P ops oi v a' w ∧ K (a'.put oi.dst v) y) a x := by
  have h3 := (Oper.apart_spec hap).2.2
  refine wpOp_mono ?_ (op_frame hj (wpOp_putIf (S := fun _ => False) hj hap hsi hsj hQ (hy.imp (fun q => ⟨q.1, fun _ hf => hf.elim⟩) id) h))
  rintro b y ⟨⟨u, rfl | ⟨f, rfl⟩⟩, -, hk⟩
  · exact ⟨hy.same (execOp_put oi hsi a oj.dst u h3) (wanted_put oi a oj.dst u h3), hk⟩
  · have q : YR R P ops oi v { a with defers := f :: a.defers } w := hy.same rfl rfl
    exact ⟨q.same (execOp_put oi hsi _ oj.dst u h3) (wanted_put oi _ oj.dst u h3), hk⟩
theorem wpR_first (HR : Pre9 R) {i : Nat} {oi : Oper} {v : Value} (hi : ops[i]? = some oi) (hsel : ∀ (j : Nat) (o : Oper) cs b, ops[j]? = some o → o.op ≠ .select cs b) (hQ : ∀ c a w, Q (.panic c) (a.put oi.dst v) w → Q (.panic c) a w) :
    ∀ (n : Nat) (l : Array Bool) (a : Act) (w : World), (∀ j oj, ops[j]? = some oj → j ≠ i → l.getD j true = false → (∀ e ∈ oj.after, Region.binds md e = true → e.on ≠ i) → oi.apart ops oj = true) →
      i ∈ Region.ready md ops l → YR R P ops oi v a w → wpR R P md ops Q n (l.setIfInBounds i true) (a.put oi.dst v) w → wpR R P md ops Q (n + 1) l a w := by
  intro n
  induction n with
  | zero =>
    intro l a w _ hr hy H x hx
    refine ⟨fun h => (by rw [h] at hr; cases hr), fun j hj => ?_⟩
    by_cases hji : j = i
    · subst hji
      exact hy.op HR hi hx fun y hxy => ⟨hxy, wpR_later HR 0 _ _ _ _ (HR.2 hx hxy) H⟩
    · have q := ready_mono hj hji
      rw [H.1] at q
      cases q
  | succ n ih =>
    intro l a w hfree hr hy H x hx
    refine ⟨fun h => (by rw [h] at hr; cases hr), fun j hj => ?_⟩
    by_cases hji : j = i
    · subst hji
      exact hy.op HR hi hx fun y hxy => ⟨hxy, wpR_later HR (n + 1) _ _ _ _ (HR.2 hx hxy) H⟩
    · obtain ⟨hun, oj, hoj, -⟩ := mem_ready.1 hj
      have q := op_besideR hoj (hfree j oj hoj hji hun (ready_free hr hj hoj)) (fun cs b => hsel i oi cs b hi) (fun cs b => hsel j oj cs b hoj) hQ hy ((H x hx).2 j (ready_mono hj hji))
      refine wpOp_mono (fun b y hb => ⟨hb.2.1, ih (l.setIfInBounds j true) b y (fun k ok hk hki hku hno => hfree k ok hk hki ?_ hno) (ready_mono hr (Ne.symm hji)) (hb.1.later HR (HR.2 hx hb.2.1)) ?_⟩) q
      · by_cases hjk : j = k
        · subst hjk; exact hun
        · rw [getD_set_ne true hjk] at hku; exact hku
      · rw [Array.setIfInBounds_comm _ _ hji]
        exact hb.2.2
/-- Take number i: a value. -/
theorem wpR_val (HR : Pre9 R) {L r : List Oper} {i : Nat} {oi : Oper} {v : Value} {n : Nat} {l : Array Bool} {a : Act} {w : World} (hi : L.drop i = oi :: r) (hs : Region.noSelect L.toArray = true) (hf : Region.free md L.toArray l i = true) (hr : (Region.ready md L.toArray l).contains i = true)
    (hQ : ∀ c a w, Q (.panic c) (a.put oi.dst v) w → Q (.panic c) a w) (hw : Region.wanted oi (yielded L.toArray a.tmps) = true) (hy : ∀ x, R w x → (execOp a.eval oi).run P x = .ok (.value v) x)
    (h : wpR R P md L.toArray Q n (l.setIfInBounds i true) (a.put oi.dst v) w) : wpR R P md L.toArray Q (n + 1) l a w :=
  wpR_first HR (at_drop hi) (Region.noSelect_spec hs) hQ n l a w (Region.free_spec (at_drop hi) hf) (by simpa using hr) (Or.inl ⟨hw, fun x hx => by unfold Oper.quietAt; rw [hy x hx]; exact ⟨rfl, rfl⟩⟩) h
/-- Take number i: a call. -/
theorem wpR_call (HR : Pre9 R) {L r : List Oper} {i : Nat} {oi : Oper} {v : Value} {f : FuncId} {args : Array Value} {n : Nat} {l : Array Bool} {a : Act} {w : World} (hi : L.drop i = oi :: r) (hs : Region.noSelect L.toArray = true) (hf : Region.free md L.toArray l i = true) (hr : (Region.ready md L.toArray l).contains i = true)
    (hQ : ∀ c a w, Q (.panic c) (a.put oi.dst v) w → Q (.panic c) a w) (hw : Region.wanted oi (yielded L.toArray a.tmps) = true) (hy : ∀ x, R w x → (execOp a.eval oi).run P x = .ok (.enter f args) x)
    (hc : ∀ x, R w x → Calls P f args x fun e y => e = .returned v ∧ R x y)
    (h : wpR R P md L.toArray Q n (l.setIfInBounds i true) (a.put oi.dst v) w) : wpR R P md L.toArray Q (n + 1) l a w :=
  wpR_first HR (at_drop hi) (Region.noSelect_spec hs) hQ n l a w (Region.free_spec (at_drop hi) hf) (by simpa using hr) (Or.inl ⟨hw, fun x hx => by unfold Oper.quietAt; rw [hy x hx]; exact ⟨rfl, hc x hx⟩⟩) h
/-- Take number i: it is not wanted. -/
theorem wpR_skip (HR : Pre9 R) {L r : List Oper} {i : Nat} {oi : Oper} {n : Nat} {l : Array Bool} {a : Act} {w : World} (hi : L.drop i = oi :: r) (hs : Region.noSelect L.toArray = true) (hf : Region.free md L.toArray l i = true) (hr : (Region.ready md L.toArray l).contains i = true)
    (hQ : ∀ c a w, Q (.panic c) (a.put oi.dst undef) w → Q (.panic c) a w) (hw : Region.wanted oi (yielded L.toArray a.tmps) = false) (h : wpR R P md L.toArray Q n (l.setIfInBounds i true) (a.put oi.dst undef) w) : wpR R P md L.toArray Q (n + 1) l a w :=
  wpR_first HR (at_drop hi) (Region.noSelect_spec hs) hQ n l a w (Region.free_spec (at_drop hi) hf) (by simpa using hr) (Or.inr ⟨hw, rfl⟩) h
/-- One alone may come up: a call. -/
theorem wpR_onecall {L r : List Oper} {i : Nat} {oi : Oper} {f : FuncId} {args : Array Value} {n : Nat} {l : Array Bool} {a : Act} {w : World} (hr : Region.ready md L.toArray l = [i]) (hi : L.drop i = oi :: r) (hw : Region.wanted oi (yielded L.toArray a.tmps) = true)
    (hy : ∀ x, R w x → (execOp a.eval oi).run P x = .ok (.enter f args) x)
    (h : ∀ x, R w x → Calls P f args x fun e y => ∃ v, e = .returned v ∧ R x y ∧ wpR R P md L.toArray Q n (l.setIfInBounds i true) (a.put oi.dst v) y) : wpR R P md L.toArray Q (n + 1) l a w := by
  intro x hx
  rw [hr]
  refine ⟨fun h => (by cases h), fun j hj => ?_⟩
  rw [List.mem_singleton] at hj
  subst hj
  unfold wpOp
  rw [at_drop hi]
  dsimp only
  rw [if_pos hw]
  refine Or.inl ?_
  unfold Oper.wp
  rw [hy x hx]
  refine (h x hx).mono ?_
  rintro e y ⟨v, rfl, hq⟩
  exact hq
/-- One alone may come up: a value, or a box. -/
theorem wpR_one {L r : List Oper} {i : Nat} {oi : Oper} {n : Nat} {l : Array Bool} {a : Act} {w : World} (hr : Region.ready md L.toArray l = [i]) (hi : L.drop i = oi :: r) (hw : Region.wanted oi (yielded L.toArray a.tmps) = true)
    (h : ∀ x, R w x → ∃ (v : Value) (y : World), (execOp a.eval oi).run P x = .ok (.value v) y ∧ R x y ∧ wpR R P md L.toArray Q n (l.setIfInBounds i true) (a.put oi.dst v) y) : wpR R P md L.toArray Q (n + 1) l a w := by
  intro x hx
  rw [hr]
  refine ⟨fun h => (by cases h), fun j hj => ?_⟩
  rw [List.mem_singleton] at hj
  subst hj
  unfold wpOp
  rw [at_drop hi]
  dsimp only
  rw [if_pos hw]
  refine Or.inl ?_
  unfold Oper.wp
  obtain ⟨v, y, h1, h2⟩ := h x hx
  rw [h1]
  exact h2
theorem wpR_done {l : Array Bool} {a : Act} {w : World} (hr : Region.ready md ops l = []) (h : ∀ x, R w x → Q .normal a x) : ∀ n, wpR R P md ops Q n l a w
  | 0 => ⟨hr, h⟩
  | _ + 1 => fun x hx => ⟨fun _ => h x hx, by rw [hr]; simp⟩
theorem wp_region_R (R : World → World → Prop) (HR : Pre9 R) {id : Nat} {a : Act} {w : World} (hm : P.follows .mixedOrders = true) (h : wpR R P .any ops Q ops.size (Array.replicate ops.size false) a w.drew) : (Code.region id ops true).wp P Q a w :=
  wp_region_any hm (wpAny_of_R HR _ _ _ _ h)
end
end Go.Proofs.Ytplcdcfhfaghiaa
/- GrwG: A region that draws its order: as GrwD, over any way in which later worlds may be told (written by gen/mkgrwg.py). -/
namespace Go.Proofs.Ytplcdcfhfaghiaa
set_option maxRecDepth 100000
open Go.RowKit
section
variable {R : World → World → Prop} {P : Program} {ops : Array Oper} {Q : Exit → Act → World → Prop} {md : Region.Mode} {tl : Nat → Bool}
/-- Whatever order is picked from here on, in whatever later world, until only the last ones are left. -/
def wpE (R : World → World → Prop) (P : Program) (md : Region.Mode) (ops : Array Oper) (Q : Exit → Act → World → Prop) (tl : Nat → Bool) : Nat → Array Bool → Act → World → Prop
  | 0, l, a, w => ∀ x, R w x → wpAny P md ops Q 0 l a x
  | n + 1, l, a, w => (tailedD tl ops l = true ∧ ∀ x, R w x → wpAny P md ops Q (n + 1) l a x) ∨ (∀ x, R w x → (Region.ready md ops l = [] → Q .normal a x) ∧
      ∀ i ∈ Region.ready md ops l, wpOp P ops Q i (fun a' y => R x y ∧ wpE R P md ops Q tl n (l.setIfInBounds i true) a' y) a x)
theorem wpE_later (HR : Pre9 R) : ∀ (n : Nat) (l : Array Bool) (a : Act) (w y : World), R w y → wpE R P md ops Q tl n l a w → wpE R P md ops Q tl n l a y
  | 0, _, _, _, _, hy, h => fun x hx => h x (HR.2 hy hx)
  | _ + 1, _, _, _, _, hy, h => h.imp (fun q => ⟨q.1, fun x hx => q.2 x (HR.2 hy hx)⟩) (fun q x hx => q x (HR.2 hy hx))
theorem wpAny_of_E (HR : Pre9 R) : ∀ (n : Nat) (l : Array Bool) (a : Act) (w : World), wpE R P md ops Q tl n l a w → wpAny P md ops Q n l a w
  | 0, _, _, w, h => h w (HR.1 w)
  | n + 1, _, _, w, h => by
    rcases h with h | h
    · exact h.2 w (HR.1 w)
    · exact ⟨(h w (HR.1 w)).1, fun i hi => wpOp_mono (fun a' y hh => wpAny_of_E HR n _ a' y hh.2) ((h w (HR.1 w)).2 i hi)⟩
theorem wpE_first (HR : Pre9 R) {i : Nat} {oi : Oper} {v : Value} {C : List Nat} (hi : ops[i]? = some oi) (hsel : ∀ (j : Nat) (o : Oper) cs b, ops[j]? = some o → o.op ≠ .select cs b) (hQ : ∀ c a w, Q (.panic c) (a.put oi.dst v) w → Q (.panic c) a w) :
    ∀ (n : Nat) (l : Array Bool) (a : Act) (w : World), waitsD md tl ops l i C = true → (∀ j oj, ops[j]? = some oj → j ≠ i → l.getD j true = false → (∀ e ∈ oj.after, Region.binds md e = true → e.on ≠ i) → oi.apart ops oj = true) →
      i ∈ Region.ready md ops l → YR R P ops oi v a w → wpE R P md ops Q tl n (l.setIfInBounds i true) (a.put oi.dst v) w → wpE R P md ops Q tl (n + 1) l a w := by
  intro n
  induction n with
  | zero =>
    intro l a w _ _ hr hy H
    refine .inr fun x hx => ⟨fun h => (by rw [h] at hr; cases hr), fun j hj => ?_⟩
    by_cases hji : j = i
    · subst hji
      exact hy.op HR hi hx fun y hxy => ⟨hxy, wpE_later HR 0 _ _ _ _ (HR.2 hx hxy) H⟩
    · have q := ready_mono hj hji
      rw [(H w (HR.1 w)).1] at q
      cases q
  | succ n ih =>
    intro l a w hwt hfree hr hy H
    refine .inr fun x hx => ⟨fun h => (by rw [h] at hr; cases hr), fun j hj => ?_⟩
    by_cases hji : j = i
    · subst hji
      exact hy.op HR hi hx fun y hxy => ⟨hxy, wpE_later HR (n + 1) _ _ _ _ (HR.2 hx hxy) H⟩
    · obtain ⟨hun, oj, hoj, -⟩ := mem_ready.1 hj
      have hjC : j ∉ C := fun hc => waitsD_spec hwt (mem_ready.1 hr).1 j hc hj
      rcases H with H | H
      · have hju : (l.setIfInBounds i true).getD j true = false := by rw [getD_set_ne true (Ne.symm hji)]; exact hun
        have hjs := (Array.getElem?_eq_some_iff.1 hoj).1
        have hjm := tailedD_spec H.1 hju hjs
        exact absurd (waitsD_last hwt hjm hun hjs) hjC
      · have q := op_besideR hoj (hfree j oj hoj hji hun (ready_free hr hj hoj)) (fun cs b => hsel i oi cs b hi) (fun cs b => hsel j oj cs b hoj) hQ hy ((H x hx).2 j (ready_mono hj hji))
        refine wpOp_mono (fun b y hb => ⟨hb.2.1, ih (l.setIfInBounds j true) b y (waitsD_step hwt hjC) (fun k ok hk hki hku hno => hfree k ok hk hki ?_ hno) (ready_mono hr (Ne.symm hji)) (hb.1.later HR (HR.2 hx hb.2.1)) ?_⟩) q
        · by_cases hjk : j = k
          · subst hjk; exact hun
          · rw [getD_set_ne true hjk] at hku; exact hku
        · rw [Array.setIfInBounds_comm _ _ hji]
          exact hb.2.2
theorem wpE_tail {l : Array Bool} {a : Act} {w : World} (ht : tailedD tl ops l = true) : ∀ {n : Nat}, (∀ x, R w x → wpAny P md ops Q n l a x) → wpE R P md ops Q tl n l a w
  | 0, h => h
  | _ + 1, h => .inl ⟨ht, h⟩
theorem wpE_done {l : Array Bool} {a : Act} {w : World} (hr : Region.ready md ops l = []) (h : ∀ x, R w x → Q .normal a x) : ∀ n, wpE R P md ops Q tl n l a w
  | 0 => fun x hx => ⟨hr, h x hx⟩
  | _ + 1 => .inr fun x hx => ⟨fun _ => h x hx, by rw [hr]; simp⟩
theorem wp_region_E (R : World → World → Prop) (HR : Pre9 R) {id : Nat} {a : Act} {w : World} (tl : Nat → Bool) (hm : P.follows .mixedOrders = true) (h : wpE R P .any ops Q tl ops.size (Array.replicate ops.size false) a w.drew) : (Code.region id ops true).wp P Q a w :=
  wp_region_any hm (wpAny_of_E HR _ _ _ _ h)
end
section
variable {R : World → World → Prop} {P : Program} {Q : Exit → Act → World → Prop} {md : Region.Mode} {tl : Nat → Bool}
/-- Take number i: a value. -/
theorem wpE_val (HR : Pre9 R) {L r : List Oper} {i : Nat} {oi : Oper} {v : Value} {n : Nat} {l : Array Bool} {a : Act} {w : World} (hi : L.drop i = oi :: r) (hs : Region.noSelect L.toArray = true) (hf : Region.free md L.toArray l i = true) (hr : (Region.ready md L.toArray l).contains i = true) (ht : waitsD md tl L.toArray l i (clo md L.toArray l i) = true)
    (hQ : ∀ c a w, Q (.panic c) (a.put oi.dst v) w → Q (.panic c) a w) (hw : Region.wanted oi (yielded L.toArray a.tmps) = true) (hy : ∀ x, R w x → (execOp a.eval oi).run P x = .ok (.value v) x)
    (h : wpE R P md L.toArray Q tl n (l.setIfInBounds i true) (a.put oi.dst v) w) : wpE R P md L.toArray Q tl (n + 1) l a w :=
  wpE_first HR (at_drop hi) (Region.noSelect_spec hs) hQ n l a w ht (Region.free_spec (at_drop hi) hf) (by simpa using hr) (Or.inl ⟨hw, fun x hx => by unfold Oper.quietAt; rw [hy x hx]; exact ⟨rfl, rfl⟩⟩) h
/-- Take number i: a call. -/
theorem wpE_call (HR : Pre9 R) {L r : List Oper} {i : Nat} {oi : Oper} {v : Value} {f : FuncId} {args : Array Value} {n : Nat} {l : Array Bool} {a : Act} {w : World} (hi : L.drop i = oi :: r) (hs : Region.noSelect L.toArray = true) (hf : Region.free md L.toArray l i = true) (hr : (Region.ready md L.toArray l).contains i = true) (ht : waitsD md tl L.toArray l i (clo md L.toArray l i) = true)
    (hQ : ∀ c a w, Q (.panic c) (a.put oi.dst v) w → Q (.panic c) a w) (hw : Region.wanted oi (yielded L.toArray a.tmps) = true) (hy : ∀ x, R w x → (execOp a.eval oi).run P x = .ok (.enter f args) x)
    (hc : ∀ x, R w x → Calls P f args x fun e y => e = .returned v ∧ R x y)
    (h : wpE R P md L.toArray Q tl n (l.setIfInBounds i true) (a.put oi.dst v) w) : wpE R P md L.toArray Q tl (n + 1) l a w :=
  wpE_first HR (at_drop hi) (Region.noSelect_spec hs) hQ n l a w ht (Region.free_spec (at_drop hi) hf) (by simpa using hr) (Or.inl ⟨hw, fun x hx => by unfold Oper.quietAt; rw [hy x hx]; exact ⟨rfl, hc x hx⟩⟩) h
/-- Take number i: it is not wanted. -/
theorem wpE_skip (HR : Pre9 R) {L r : List Oper} {i : Nat} {oi : Oper} {n : Nat} {l : Array Bool} {a : Act} {w : World} (hi : L.drop i = oi :: r) (hs : Region.noSelect L.toArray = true) (hf : Region.free md L.toArray l i = true) (hr : (Region.ready md L.toArray l).contains i = true) (ht : waitsD md tl L.toArray l i (clo md L.toArray l i) = true)
    (hQ : ∀ c a w, Q (.panic c) (a.put oi.dst undef) w → Q (.panic c) a w) (hw : Region.wanted oi (yielded L.toArray a.tmps) = false)
    (h : wpE R P md L.toArray Q tl n (l.setIfInBounds i true) (a.put oi.dst undef) w) : wpE R P md L.toArray Q tl (n + 1) l a w :=
  wpE_first HR (at_drop hi) (Region.noSelect_spec hs) hQ n l a w ht (Region.free_spec (at_drop hi) hf) (by simpa using hr) (Or.inr ⟨hw, rfl⟩) h
/-- One alone may come up, and answers a value; memory may be made. -/
theorem wpE_one {L r : List Oper} {i : Nat} {oi : Oper} {n : Nat} {l : Array Bool} {a : Act} {w : World} (hr : Region.ready md L.toArray l = [i]) (hi : L.drop i = oi :: r) (hw : Region.wanted oi (yielded L.toArray a.tmps) = true)
    (h : ∀ x, R w x → ∃ (v : Value) (y : World), (execOp a.eval oi).run P x = .ok (.value v) y ∧ R x y ∧ wpE R P md L.toArray Q tl n (l.setIfInBounds i true) (a.put oi.dst v) y) : wpE R P md L.toArray Q tl (n + 1) l a w := by
  refine .inr fun x hx => ?_
  rw [hr]
  refine ⟨fun h => (by cases h), fun j hj => ?_⟩
  rw [List.mem_singleton] at hj
  subst hj
  obtain ⟨v, y, h1, h2, h3⟩ := h x hx
  unfold wpOp
  rw [at_drop hi]
  dsimp only
  rw [if_pos hw]
  refine Or.inl ?_
  unfold Oper.wp
  rw [h1]
  exact ⟨h2, h3⟩
/-- One alone may come up: a call that answers what it likes and only makes memory. -/
theorem wpE_onecall {L r : List Oper} {i : Nat} {oi : Oper} {f : FuncId} {args : Array Value} {n : Nat} {l : Array Bool} {a : Act} {w : World} (hr : Region.ready md L.toArray l = [i]) (hi : L.drop i = oi :: r) (hw : Region.wanted oi (yielded L.toArray a.tmps) = true)
    (hy : ∀ x, R w x → (execOp a.eval oi).run P x = .ok (.enter f args) x)
    (h : ∀ x, R w x → Calls P f args x fun e y => ∃ v, e = .returned v ∧ R x y ∧ wpE R P md L.toArray Q tl n (l.setIfInBounds i true) (a.put oi.dst v) y) : wpE R P md L.toArray Q tl (n + 1) l a w := by
  refine .inr fun x hx => ?_
  rw [hr]
  refine ⟨fun h => (by cases h), fun j hj => ?_⟩
  rw [List.mem_singleton] at hj
  subst hj
  unfold wpOp
  rw [at_drop hi]
  dsimp only
  rw [if_pos hw]
  refine Or.inl ?_
  unfold Oper.wp
  rw [hy x hx]
  exact (h x hx).mono (by rintro e y ⟨v, rfl, h1, h2⟩; exact ⟨h1, h2⟩)
/-- One of the last ones that is a value in every world is taken first. -/
theorem wpE_purely (HR : Pre9 R) {ops : Array Oper} {i : Nat} {oi : Oper} {v : Value} (hi : ops[i]? = some oi) (hti : tl i = true) (hsel : ∀ (j : Nat) (o : Oper) cs b, ops[j]? = some o → o.op ≠ .select cs b) (hQ : ∀ c a w, Q (.panic c) (a.put oi.dst v) w → Q (.panic c) a w) :
    ∀ (n : Nat) (l : Array Bool) (a : Act) (w : World), (∀ j oj, ops[j]? = some oj → j ≠ i → l.getD j true = false → (∀ e ∈ oj.after, Region.binds md e = true → e.on ≠ i) → oi.apart ops oj = true) →
      i ∈ Region.ready md ops l → Region.wanted oi (yielded ops a.tmps) = true → (∀ x, (execOp a.eval oi).run P x = .ok (.value v) x) → wpE R P md ops Q tl n (l.setIfInBounds i true) (a.put oi.dst v) w → wpE R P md ops Q tl (n + 1) l a w := by
  have htail : ∀ {l : Array Bool}, tailedD tl ops (l.setIfInBounds i true) = true → tailedD tl ops l = true := fun {l} h => by
    unfold tailedD at h ⊢
    refine List.all_eq_true.2 fun j hj => ?_
    by_cases e : i = j
    · subst e
      rw [hti, Bool.or_true]
    · have := List.all_eq_true.1 h j hj
      rw [getD_set_ne true e] at this
      exact this
  intro n
  induction n with
  | zero =>
    intro l a w _ hr hw hy H
    refine .inr fun x hx => ⟨fun h => (by rw [h] at hr; cases hr), fun j hj => ?_⟩
    by_cases hji : j = i
    · subst hji
      have hyl : YR R P ops oi v a w := Or.inl ⟨hw, fun x _ => by unfold Oper.quietAt; rw [hy x]; exact ⟨rfl, rfl⟩⟩
      exact hyl.op HR hi hx fun y hxy => ⟨hxy, wpE_later HR 0 _ _ _ _ (HR.2 hx hxy) H⟩
    · have q := ready_mono hj hji
      rw [(H w (HR.1 w)).1] at q
      cases q
  | succ n ih =>
    intro l a w hfree hr hw hy H
    rcases H with H | H
    · exact .inl ⟨htail H.1, fun x hx => wpA_first hi hsel hQ _ l a x hfree hr hw hy (H.2 x hx)⟩
    · have hyl : YR R P ops oi v a w := Or.inl ⟨hw, fun x _ => by unfold Oper.quietAt; rw [hy x]; exact ⟨rfl, rfl⟩⟩
      refine .inr fun x hx => ⟨fun h => (by rw [h] at hr; cases hr), fun j hj => ?_⟩
      by_cases hji : j = i
      · subst hji
        exact hyl.op HR hi hx fun y hxy => ⟨hxy, wpE_later HR (n + 1) _ _ _ _ (HR.2 hx hxy) (.inr H)⟩
      · obtain ⟨hun, oj, hoj, -⟩ := mem_ready.1 hj
        have hap := hfree j oj hoj hji hun (ready_free hr hj hoj)
        have h3 := (Oper.apart_spec hap).2.2
        have q := op_frame hoj (wpOp_putIf (S := fun _ => False) hoj hap (fun cs b => hsel i oi cs b hi) (fun cs b => hsel j oj cs b hoj) hQ (Or.inl ⟨hw, fun _ hf => hf.elim⟩) ((H x hx).2 j (ready_mono hj hji)))
        refine wpOp_mono ?_ q
        have step : ∀ (b : Act) (y : World), R x y → execOp b.eval oi = execOp a.eval oi → Region.wanted oi (yielded ops b.tmps) = Region.wanted oi (yielded ops a.tmps) → wpE R P md ops Q tl n ((l.setIfInBounds i true).setIfInBounds j true) (b.put oi.dst v) y → R x y ∧ wpE R P md ops Q tl (n + 1) (l.setIfInBounds j true) b y := fun b y hl e1 e2 hk => by
          refine ⟨hl, ih (l.setIfInBounds j true) b y (fun k ok hk hki hku hno => hfree k ok hk hki ?_ hno) (ready_mono hr (Ne.symm hji)) (by rw [e2]; exact hw) (fun x => by rw [e1]; exact hy x) ?_⟩
          · by_cases hjk : j = k
            · subst hjk; exact hun
            · rw [getD_set_ne true hjk] at hku; exact hku
          · rw [Array.setIfInBounds_comm _ _ hji]
            exact hk
        rintro b y ⟨⟨u, rfl | ⟨f, rfl⟩⟩, -, hl, hk⟩
        · exact step _ _ hl (execOp_put oi (fun cs b => hsel i oi cs b hi) a oj.dst u h3) (wanted_put oi a oj.dst u h3) hk
        · exact step _ _ hl (execOp_put oi (fun cs b => hsel i oi cs b hi) { a with defers := f :: a.defers } oj.dst u h3) (wanted_put oi { a with defers := f :: a.defers } oj.dst u h3) hk
theorem wpE_pure (HR : Pre9 R) {L r : List Oper} {i : Nat} {oi : Oper} {v : Value} {n : Nat} {l : Array Bool} {a : Act} {w : World} (hi : L.drop i = oi :: r) (hti : tl i = true) (hs : Region.noSelect L.toArray = true) (hf : Region.free md L.toArray l i = true) (hr : (Region.ready md L.toArray l).contains i = true)
    (hQ : ∀ c a w, Q (.panic c) (a.put oi.dst v) w → Q (.panic c) a w) (hw : Region.wanted oi (yielded L.toArray a.tmps) = true) (hy : ∀ x, (execOp a.eval oi).run P x = .ok (.value v) x)
    (h : wpE R P md L.toArray Q tl n (l.setIfInBounds i true) (a.put oi.dst v) w) : wpE R P md L.toArray Q tl (n + 1) l a w :=
  wpE_purely HR (at_drop hi) hti (Region.noSelect_spec hs) hQ n l a w (Region.free_spec (at_drop hi) hf) (by simpa using hr) hw hy h
end
end Go.Proofs.Ytplcdcfhfaghiaa
/- DrSd: A draw under way: stretches of memory, and the cursor apart from them, which turns. -/
namespace Go.Proofs.Ytplcdcfhfaghiaa
set_option maxRecDepth 100000
open Go.RowKit

/-- Only the cursor's block turns, and it stays a cursor. -/
def Dr (g B : Nat) (a : Option Addr) (len cap : Nat) (x y : World) : Prop := x.grownBy y (some g) ∧ (Cur x g B a len cap → Cur y g B a len cap)
theorem Dr.pre (g B : Nat) (a : Option Addr) (len cap : Nat) : Pre9 (Dr g B a len cap) :=
  ⟨fun _ => ⟨gb_below (Below.refl _ _), id⟩, fun h k => ⟨gb_two h.1 k.1, fun c => k.2 (h.2 c)⟩⟩
structure SD (w0 W : World) (g B : Nat) (a : Option Addr) (len cap : Nat) (S : List Str) : Prop where
  sl : SL w0 W S
  cur : Cur W g B a len cap
  far : ∀ s ∈ S, s.hi ≤ g ∨ g < s.lo
  hg : w0.heap.size ≤ g
  hB : B ≤ w0.heap.size
section
variable {w0 W W' : World} {g B len cap : Nat} {a : Option Addr} {S : List Str} {s : Str}
theorem SD.draw (h : SD w0 W g B a len cap S) (hd : Dr g B a len cap W W') : SD w0 W' g B a len cap S :=
  ⟨h.sl.grown hd.1 (fun q e => by cases e; exact ⟨h.hg, h.far⟩), hd.2 h.cur, h.far, h.hg, h.hB⟩
theorem SD.below (h : SD w0 W g B a len cap S) (hb : Below W.heap.size W W') : SD w0 W' g B a len cap S := ⟨h.sl.below hb, h.cur.below hb, h.far, h.hg, h.hB⟩
theorem SD.dr_below (_ : SD w0 W g B a len cap S) (hb : Below W.heap.size W W') : Dr g B a len cap W W' := ⟨gb_below hb, fun c => c.below hb⟩
theorem SD.add (h : SD w0 W g B a len cap S) (hb : Below W.heap.size W W') (hp : s.p W') (hl : s.Loc) (h1 : W.heap.size ≤ s.lo) (h2 : s.hi ≤ W'.heap.size) : SD w0 W' g B a len cap (s :: S) :=
  ⟨h.sl.add hb hp hl h1 h2, h.cur.below hb, fun x hx => by
    rcases List.mem_cons.1 hx with rfl | hx
    · exact .inr (by have := h.cur.2.1; omega)
    · exact h.far x hx, h.hg, h.hB⟩
theorem SD.new (h : SD w0 W g B a len cap S) (cs : Array Value) (t : TypeId) : SD w0 (W.alloc (.cells cs t)) g B a len cap (bxS W.heap.size cs.toList :: S) :=
  h.add ((Below.refl _ _).alloc (Nat.le_refl _) _) (wcells_new W cs t) (bxS.loc _ _) (Nat.le_refl _) (by simp)
theorem SD.tail (h : SD w0 W g B a len cap (s :: S)) : SD w0 W g B a len cap S := ⟨h.sl.tail, h.cur, fun x hx => h.far x (List.mem_cons_of_mem _ hx), h.hg, h.hB⟩
theorem SD.put (h : SD w0 W g B a len cap S) (i : Nat) {b : Nat} {X : List Value} (hs : S[i]? = some (bxS b X)) (j : Nat) (v : Value) (hj : j < X.length) : SD w0 (W.setCell ⟨b, j, none⟩ v) g B a len cap (S.set i (bxS b (X.set j v))) := by
  have hm := List.mem_of_getElem? hs
  have hf := h.far _ hm
  have hlo := (h.sl.is _ hm).2.2.1
  dsimp only [bxS] at hf hlo
  have hbg : b ≠ g := by omega
  refine ⟨h.sl.put i hs j v hj, ?_, fun x hx => ?_, h.hg, h.hB⟩
  · obtain ⟨h1, h2, h3, h4, ⟨k, h5, h5'⟩, ⟨q, h6⟩, h7⟩ := h.cur
    have oth : ∀ z, (W.setCell ⟨b, j, none⟩ v).cell? ⟨g, z, none⟩ = W.cell? ⟨g, z, none⟩ := fun z => World.cell?_of_block (Below.heap_setCell W ⟨b, j, none⟩ v g (fun e => hbg e.symm))
    exact ⟨h1, by simpa [World.setCell] using h2, h3.gb (gb_set W b j v) (Nat.le_trans h.hB hlo), (oth 0).trans h4, ⟨k, (oth 1).trans h5, h5'⟩, ⟨q, (oth 2).trans h6⟩, fun z hz => (World.frozen?_setCell _ _ _ _).trans (h7 z hz)⟩
  · obtain ⟨k, hk, rfl⟩ := List.getElem_of_mem hx
    rw [List.length_set] at hk
    by_cases ek : k = i
    · subst ek
      rw [List.getElem_set_self]
      exact hf
    · rw [List.getElem_set_ne (Ne.symm ek)]
      exact h.far _ (List.getElem_mem hk)
theorem SD.bx (h : SD w0 W g B a len cap S) (i : Nat) {b : Nat} {X : List Value} (hs : S[i]? = some (bxS b X)) (j : Nat) (v : Value) (hv : X[j]? = some v) : W.cell? ⟨b, j, none⟩ = some v ∧ W.frozen? ⟨b, j, none⟩ = false := h.sl.bx i hs j v hv
/-- One stretch is left out. -/
theorem SD.drop1 {t : Str} (h : SD w0 W g B a len cap (s :: t :: S)) : SD w0 W g B a len cap (s :: S) :=
  ⟨⟨h.sl.bel, fun x hx => h.sl.is x (by rcases List.mem_cons.1 hx with rfl | hx; exact List.mem_cons_self ..; exact List.mem_cons_of_mem _ (List.mem_cons_of_mem _ hx)), by
    have h1 := List.pairwise_cons.1 h.sl.apart
    exact List.pairwise_cons.2 ⟨fun x hx => h1.1 x (List.mem_cons_of_mem _ hx), (List.pairwise_cons.1 h1.2).2⟩⟩, h.cur, fun x hx => h.far x (by rcases List.mem_cons.1 hx with rfl | hx; exact List.mem_cons_self ..; exact List.mem_cons_of_mem _ (List.mem_cons_of_mem _ hx)), h.hg, h.hB⟩
theorem SD.swap {t : Str} (h : SD w0 W g B a len cap (s :: t :: S)) : SD w0 W g B a len cap (t :: s :: S) :=
  ⟨h.sl.swap, h.cur, fun x hx => h.far x (by simp only [List.mem_cons] at hx ⊢; rcases hx with h | h | h <;> simp [h]), h.hg, h.hB⟩
theorem SD.pick (h : SD w0 W g B a len cap S) (n : Int) (hn : n ≤ 9223372036854775807) : Calls Try.prog 28 #[.pointer (some ⟨g, 0, none⟩), .int .i64 n] W fun e W' => ∃ y : Int, e = .returned (.int .i64 y) ∧ 0 ≤ y ∧ (y < n ∨ y = 0) ∧ Dr g B a len cap W W' := by
  refine (l01Below_any W g B a len cap n hn h.cur).mono ?_
  rintro e w5 ⟨y, rfl, y0, y1, hc5, hg5⟩
  exact ⟨y, rfl, y0, y1, hg5, fun _ => hc5⟩
theorem SD.once (h : SD w0 W g B a len cap S) (n : Int) (hn : n ≤ 9223372036854775807) : Calls Try.prog 37 #[.pointer (some ⟨g, 0, none⟩), .int .i64 n] W fun e W' => ∃ y : Bool, e = .returned (.bool y) ∧ Dr g B a len cap W W' := by
  refine (l01Once_any W g B a len cap n hn h.cur).mono ?_
  rintro e w5 ⟨y, rfl, hc5, hg5⟩
  exact ⟨y, rfl, hg5, fun _ => hc5⟩
theorem SD.text (h : SD w0 W g B a len cap S) (n : Nat) (hn : n ≤ 5000) : Calls Try.prog 29 #[.pointer (some ⟨g, 0, none⟩), .int .i64 n] W fun e W' => ∃ t : ByteArray, e = .returned (.string t) ∧ t.size = n ∧ Dr g B a len cap W W' := by
  refine (l01Text_len W g B a len cap n hn h.cur).mono ?_
  rintro e w5 ⟨t, rfl, ht, hc5, hg5⟩
  exact ⟨t, rfl, ht, hg5, fun _ => hc5⟩
end
end Go.Proofs.Ytplcdcfhfaghiaa
/- OwS: A row of one's own that is made longer, beside stretches of memory. -/
namespace Go.Proofs.Ytplcdcfhfaghiaa
set_option maxRecDepth 100000
open Go.RowKit

structure OwS (w0 W : World) (S : List Str) (ty sz : Nat) (v : Value) (n : Nat) (L : List Value) : Prop where
  sl : SL w0 W S
  own : W.ownsRow w0.heap.size ty sz v n L
  far : ∀ q, v.ownBlock = some q → ∀ s ∈ S, s.hi ≤ q ∨ q < s.lo
section
variable {w0 W W' : World} {S : List Str} {s : Str} {ty sz n : Nat} {v : Value} {L : List Value}
theorem own_row_slice (h : W.ownsRow w0.heap.size ty sz v n L) : ∃ a c, v = .slice a n c := by
  rcases h.2 with ⟨rfl, h0⟩ | ⟨g, cap, cur, e, _⟩
  · exact ⟨none, 0, by rw [h0]⟩
  · exact ⟨_, _, e⟩
theorem OwS.new (h : SL w0 W S) : OwS w0 (W.alloc (.cells #[] ty)) S ty sz (.slice (some ⟨W.heap.size, 0, none⟩) 0 0) 0 [] := by
  refine ⟨h.below ((Below.refl _ _).alloc (Nat.le_refl _) _), World.ownsRow_made (e := ty) (size := sz) (base := w0.heap.size) W #[] 0 h.bel.size (by decide) (by simp), fun q e s hs => ?_⟩
  have eq : W.heap.size = q := by simpa [Value.ownBlock] using e
  have := (h.is s hs).2.2.2
  omega
theorem OwS.nil (h : SL w0 W S) : OwS w0 W S ty sz (.slice none 0 0) 0 [] := ⟨h, World.ownsRow_nil _ _ _ _, fun q e => by cases e⟩
theorem OwS.below (h : OwS w0 W S ty sz v n L) (hb : Below W.heap.size W W') : OwS w0 W' S ty sz v n L :=
  ⟨h.sl.below hb, h.own.kept (row := none) ⟨hb.os, hb.tape, hb.output, hb.size, fun k hk _ => hb.block k hk⟩ (Classical.em _), h.far⟩
theorem OwS.alloc (h : OwS w0 W S ty sz v n L) (o : Obj) : OwS w0 (W.alloc o) S ty sz v n L := h.below ((Below.refl _ _).alloc (Nat.le_refl _) o)
theorem OwS.lt (h : OwS w0 W S ty sz v n L) (q : Nat) (e : v.ownBlock = some q) : w0.heap.size ≤ q ∧ q < W.heap.size := h.own.lt q e
theorem OwS.add (h : OwS w0 W S ty sz v n L) (hb : Below W.heap.size W W') (hp : s.p W') (hl : s.Loc) (h1 : W.heap.size ≤ s.lo) (h2 : s.hi ≤ W'.heap.size) : OwS w0 W' (s :: S) ty sz v n L := by
  have k := h.below hb
  refine ⟨h.sl.add hb hp hl h1 h2, k.own, fun q e x hx => ?_⟩
  rcases List.mem_cons.1 hx with rfl | hx
  · exact .inr (by have := (h.lt q e).2; omega)
  · exact h.far q e x hx
theorem OwS.box (h : OwS w0 W S ty sz v n L) (cs : Array Value) (t : TypeId) : OwS w0 (W.alloc (.cells cs t)) (bxS W.heap.size cs.toList :: S) ty sz v n L :=
  h.add ((Below.refl _ _).alloc (Nat.le_refl _) _) (wcells_new W cs t) (bxS.loc _ _) (Nat.le_refl _) (by simp)
theorem OwS.tail (h : OwS w0 W (s :: S) ty sz v n L) : OwS w0 W S ty sz v n L := ⟨h.sl.tail, h.own, fun q e x hx => h.far q e x (List.mem_cons_of_mem _ hx)⟩
theorem OwS.put (h : OwS w0 W S ty sz v n L) (i : Nat) {b : Nat} {X : List Value} (hs : S[i]? = some (bxS b X)) (j : Nat) (x : Value) (hj : j < X.length) : OwS w0 (W.setCell ⟨b, j, none⟩ x) (S.set i (bxS b (X.set j x))) ty sz v n L := by
  have hm := List.mem_of_getElem? hs
  have hne : ∀ q, v.ownBlock = some q → q ≠ b := fun q e hq => by
    have := h.far q e _ hm
    dsimp only [bxS] at this
    omega
  refine ⟨h.sl.put i hs j x hj, h.own.kept (gb_set' W b j x) ?_, fun q e s hq => ?_⟩
  · cases e : v.ownBlock with
    | none => exact .inl rfl
    | some k => exact .inr fun e2 => hne k e (by cases e2; rfl)
  · obtain ⟨k, hk, rfl⟩ := List.getElem_of_mem hq
    rw [List.length_set] at hk
    by_cases ek : k = i
    · subst ek
      rw [List.getElem_set_self]
      have := h.far q e _ hm
      exact this
    · rw [List.getElem_set_ne (Ne.symm ek)]
      exact h.far q e _ (List.getElem_mem hk)
/-- More is put behind it. -/
theorem OwS.more {Wa : World} {v' : Value} {m : Nat} {L' : List Value} (h : OwS w0 W S ty sz v n L) (hb : Below W.heap.size W Wa) (ho : W'.ownsRow w0.heap.size ty sz v' m L') (hg : Wa.grownBy W' v.ownBlock) (hat : v'.ownBlock = v.ownBlock ∨ v'.ownBlock = some Wa.heap.size) : OwS w0 W' S ty sz v' m L' := by
  have k := h.below hb
  refine ⟨k.sl.grown hg fun q e => ⟨(k.lt q e).1, k.far q e⟩, ho, fun q e s hs => ?_⟩
  rcases hat with e2 | e2
  · exact h.far q (by rw [← e2]; exact e) s hs
  · rw [e2] at e
    have eq : Wa.heap.size = q := by simpa using e
    have := (k.sl.is s hs).2.2.2
    omega
theorem OwS.frw (h : OwS w0 W S ty sz v n L) : ∃ a c, v = .slice a n c ∧ FRw W a L w0.heap.size W.heap.size ∧ n ≤ c := by
  obtain ⟨a, c, rfl⟩ := own_row_slice h.own
  exact ⟨a, c, rfl, (FRw.of_own h.own).1, (FRw.of_own h.own).2⟩
theorem OwS.row (h : OwS w0 W S ty sz v n L) : ∃ a c, v = .slice a n c ∧ CRow W a L ∧ n ≤ c := by
  obtain ⟨a, c, e, h1, h2⟩ := h.frw
  exact ⟨a, c, e, h1.crow, h2⟩
end
end Go.Proofs.Ytplcdcfhfaghiaa
/- OwC: A row of one's own beside stretches: its cells are set; it is made shorter, and longer within its room. -/
namespace Go.Proofs.Ytplcdcfhfaghiaa
set_option maxRecDepth 100000
open Go.RowKit

/-- A cell of a row of one's own is set. -/
theorem OwS.cell {w0 W : World} {S : List Str} {ty sz g n c : Nat} {L : List Value} (h : OwS w0 W S ty sz (.slice (some ⟨g, 0, none⟩) n c) n L) (j : Nat) (u : Value) : OwS w0 (W.setCell ⟨g, j, none⟩ u) S ty sz (.slice (some ⟨g, 0, none⟩) n c) n (L.set j u) := by
  have q := h.own.stored j u
  have e : (Value.slice (some ⟨g, 0, none⟩) n c).ownBlock = some g := rfl
  exact ⟨h.sl.grown q.2 fun k hk => by cases hk; exact ⟨(h.lt g e).1, h.far g e⟩, q.1, h.far⟩
theorem OwS.drew {w0 W : World} {S : List Str} {ty sz n : Nat} {v : Value} {L : List Value} (h : OwS w0 W S ty sz v n L) : OwS w0 W.drew S ty sz v n L := h.below (Below.drew (Below.refl _ _))
theorem OwS.sets {w0 : World} {S : List Str} {ty sz g n c : Nat} : ∀ (vs : List Value) (o : Nat) (W : World) (L : List Value), OwS w0 W S ty sz (.slice (some ⟨g, 0, none⟩) n c) n L → OwS w0 (W.setCells g o vs) S ty sz (.slice (some ⟨g, 0, none⟩) n c) n (setL L o vs)
  | [], _, _, _, h => h
  | v :: vs, o, _, _, h => OwS.sets vs (o + 1) _ _ (h.cell o v)
/-- What is behind it may be set. -/
theorem OwS.past {w0 : World} {S : List Str} {ty sz g n c : Nat} : ∀ (vs : List Value) (o : Nat) (W : World) (L : List Value), OwS w0 W S ty sz (.slice (some ⟨g, 0, none⟩) n c) n L → L.length ≤ o → OwS w0 (W.setCells g o vs) S ty sz (.slice (some ⟨g, 0, none⟩) n c) n L
  | [], _, _, _, h, _ => h
  | v :: vs, o, _, _, h, ho => by
    have h1 := h.cell o v
    rw [List.set_eq_of_length_le ho] at h1
    exact OwS.past vs (o + 1) _ _ h1 (by omega)
theorem OwS.shorter {w0 W : World} {S : List Str} {ty sz g n m c : Nat} {L : List Value} (h : OwS w0 W S ty sz (.slice (some ⟨g, 0, none⟩) n c) n L) (hm : m ≤ n) : OwS w0 W S ty sz (.slice (some ⟨g, 0, none⟩) m c) m (L.take (m * sz)) := by
  refine ⟨h.sl, ?_, h.far⟩
  obtain ⟨hL, h2⟩ := h.own
  rcases h2 with ⟨h', _⟩ | ⟨g', cap', cur, h', hb, hg, hnc, hcm, hcs, htake⟩
  · simp at h'
  · simp only [Value.slice.injEq, Option.some.injEq, Addr.mk.injEq, and_true, true_and] at h'
    obtain ⟨rfl, rfl⟩ := h'
    have hle : m * sz ≤ n * sz := Nat.mul_le_mul_right _ hm
    refine ⟨by rw [List.length_take, hL]; omega, .inr ⟨g, c, cur, rfl, hb, hg, by omega, hcm, hcs, ?_⟩⟩
    rw [← htake, List.take_take, Nat.min_eq_left hle]
/-- It is longer within its room: what comes behind is not known. -/
theorem OwS.longer {w0 W : World} {S : List Str} {ty sz g n m c : Nat} {L : List Value} (h : OwS w0 W S ty sz (.slice (some ⟨g, 0, none⟩) n c) n L) (hn : n ≤ m) (hm : m ≤ c) : ∃ R, OwS w0 W S ty sz (.slice (some ⟨g, 0, none⟩) m c) m (L ++ R) ∧ (L ++ R).length = m * sz := by
  obtain ⟨hL, h2⟩ := h.own
  rcases h2 with ⟨h', _⟩ | ⟨g', cap', cur, h', hb, hg, hnc, hcm, hcs, htake⟩
  · simp at h'
  · simp only [Value.slice.injEq, Option.some.injEq, Addr.mk.injEq, and_true, true_and] at h'
    obtain ⟨rfl, rfl⟩ := h'
    have hle : n * sz ≤ m * sz := Nat.mul_le_mul_right _ hn
    have hlc : m * sz ≤ c * sz := Nat.mul_le_mul_right _ hm
    have hcl : cur.toList.length = c * sz := by rw [Array.length_toList, hcs]
    have e : L ++ (cur.toList.take (m * sz)).drop (n * sz) = cur.toList.take (m * sz) := by
      conv => rhs; rw [← List.take_append_drop (n * sz) (cur.toList.take (m * sz))]
      rw [List.take_take, Nat.min_eq_left hle, htake]
    have hl : (cur.toList.take (m * sz)).length = m * sz := by rw [List.length_take, hcl]; omega
    exact ⟨(cur.toList.take (m * sz)).drop (n * sz), by rw [e]; exact ⟨h.sl, ⟨hl, .inr ⟨g, c, cur, rfl, hb, hg, hm, hcm, hcs, rfl⟩⟩, h.far⟩, by rw [e]; exact hl⟩
end Go.Proofs.Ytplcdcfhfaghiaa
/- DrSo: A draw under way, with a row of one's own that may be made longer: beside stretches and the cursor. -/
namespace Go.Proofs.Ytplcdcfhfaghiaa
set_option maxRecDepth 100000
open Go.RowKit

structure SO (w0 W : World) (g B : Nat) (a : Option Addr) (len cap : Nat) (S : List Str) (ty sz : Nat) (v : Value) (n : Nat) (L : List Value) : Prop where
  ow : OwS w0 W S ty sz v n L
  cur : Cur W g B a len cap
  far : ∀ s ∈ S, s.hi ≤ g ∨ g < s.lo
  gne : v.ownBlock ≠ some g
  hg : w0.heap.size ≤ g
  hB : B ≤ w0.heap.size
section
variable {w0 W W' : World} {g B len cap ty sz n : Nat} {a : Option Addr} {S : List Str} {s : Str} {v : Value} {L : List Value}
theorem SO.sd (h : SO w0 W g B a len cap S ty sz v n L) : SD w0 W g B a len cap S := ⟨h.ow.sl, h.cur, h.far, h.hg, h.hB⟩
theorem SO.draw (h : SO w0 W g B a len cap S ty sz v n L) (hd : Dr g B a len cap W W') : SO w0 W' g B a len cap S ty sz v n L :=
  ⟨⟨(h.sd.draw hd).sl, h.ow.own.kept hd.1 (by
    cases e : v.ownBlock with
    | none => exact .inl rfl
    | some k => exact .inr fun e2 => h.gne (by rw [e, ← e2])), h.ow.far⟩, hd.2 h.cur, h.far, h.gne, h.hg, h.hB⟩
theorem SO.below (h : SO w0 W g B a len cap S ty sz v n L) (hb : Below W.heap.size W W') : SO w0 W' g B a len cap S ty sz v n L := ⟨h.ow.below hb, h.cur.below hb, h.far, h.gne, h.hg, h.hB⟩
theorem SO.box (h : SO w0 W g B a len cap S ty sz v n L) (cs : Array Value) (t : TypeId) : SO w0 (W.alloc (.cells cs t)) g B a len cap (bxS W.heap.size cs.toList :: S) ty sz v n L :=
  ⟨h.ow.box cs t, (h.sd.new cs t).cur, (h.sd.new cs t).far, h.gne, h.hg, h.hB⟩
theorem SO.tail (h : SO w0 W g B a len cap (s :: S) ty sz v n L) : SO w0 W g B a len cap S ty sz v n L := ⟨h.ow.tail, h.cur, fun x hx => h.far x (List.mem_cons_of_mem _ hx), h.gne, h.hg, h.hB⟩
theorem SO.put (h : SO w0 W g B a len cap S ty sz v n L) (i : Nat) {b : Nat} {X : List Value} (hs : S[i]? = some (bxS b X)) (j : Nat) (x : Value) (hj : j < X.length) : SO w0 (W.setCell ⟨b, j, none⟩ x) g B a len cap (S.set i (bxS b (X.set j x))) ty sz v n L :=
  ⟨h.ow.put i hs j x hj, (h.sd.put i hs j x hj).cur, (h.sd.put i hs j x hj).far, h.gne, h.hg, h.hB⟩
theorem SO.bx (h : SO w0 W g B a len cap S ty sz v n L) (i : Nat) {b : Nat} {X : List Value} (hs : S[i]? = some (bxS b X)) (j : Nat) (x : Value) (hv : X[j]? = some x) : W.cell? ⟨b, j, none⟩ = some x ∧ W.frozen? ⟨b, j, none⟩ = false := h.ow.sl.bx i hs j x hv
/-- A cursor stays when another block of one's own is written. -/
theorem cur_aside (h : Cur W g B a len cap) {q : Nat} (hB : B ≤ q) (hq : q ≠ g) (j : Nat) (x : Value) : Cur (W.setCell ⟨q, j, none⟩ x) g B a len cap := by
  obtain ⟨h1, h2, h3, h4, ⟨k, h5, h5'⟩, ⟨r, h6⟩, h7⟩ := h
  have oth : ∀ z, (W.setCell ⟨q, j, none⟩ x).cell? ⟨g, z, none⟩ = W.cell? ⟨g, z, none⟩ := fun z => World.cell?_of_block (Below.heap_setCell W ⟨q, j, none⟩ x g (fun e => hq e.symm))
  exact ⟨h1, by simpa [World.setCell] using h2, h3.gb (gb_set W q j x) hB, (oth 0).trans h4, ⟨k, (oth 1).trans h5, h5'⟩, ⟨r, (oth 2).trans h6⟩, fun z hz => (World.frozen?_setCell _ _ _ _).trans (h7 z hz)⟩
theorem SO.cell {q c : Nat} (h : SO w0 W g B a len cap S ty sz (.slice (some ⟨q, 0, none⟩) n c) n L) (j : Nat) (x : Value) : SO w0 (W.setCell ⟨q, j, none⟩ x) g B a len cap S ty sz (.slice (some ⟨q, 0, none⟩) n c) n (L.set j x) := by
  have hl := h.ow.lt q rfl
  exact ⟨h.ow.cell j x, cur_aside h.cur (Nat.le_trans h.hB hl.1) (fun e => h.gne (by rw [← e]; rfl)) j x, h.far, h.gne, h.hg, h.hB⟩
/-- More is put behind it. -/
theorem SO.more {Wa : World} {v' : Value} {m : Nat} {L' : List Value} (h : SO w0 W g B a len cap S ty sz v n L) (hb : Below W.heap.size W Wa) (ho : W'.ownsRow w0.heap.size ty sz v' m L') (hg : Wa.grownBy W' v.ownBlock) (hat : v'.ownBlock = v.ownBlock ∨ v'.ownBlock = some Wa.heap.size) : SO w0 W' g B a len cap S ty sz v' m L' := by
  have k := h.below hb
  refine ⟨h.ow.more hb ho hg hat, ?_, h.far, fun e => ?_, h.hg, h.hB⟩
  · obtain ⟨h1, h2, h3, h4, ⟨i, h5, h5'⟩, ⟨r, h6⟩, h7⟩ := k.cur
    have hblk : W'.heap[g]? = Wa.heap[g]? := hg.block g h2 (fun e => k.gne e.symm)
    have oth : ∀ z, W'.cell? ⟨g, z, none⟩ = Wa.cell? ⟨g, z, none⟩ := fun z => World.cell?_of_block hblk
    have ofr : ∀ z, W'.frozen? ⟨g, z, none⟩ = Wa.frozen? ⟨g, z, none⟩ := fun z => by unfold World.frozen?; rw [hblk]
    refine ⟨h1, Nat.lt_of_lt_of_le h2 hg.size, ?_, (oth 0).trans h4, ⟨i, (oth 1).trans h5, h5'⟩, ⟨r, (oth 2).trans h6⟩, fun z hz => (ofr z).trans (h7 z hz)⟩
    cases ev : v.ownBlock with
    | none =>
      rw [ev] at hg
      exact h3.below ⟨hg.os, hg.tape, hg.output, hg.size, fun j hj => hg.block j hj (by simp)⟩ (Nat.le_trans h.hB (Nat.le_trans h.ow.sl.bel.size hb.size))
    | some q =>
      rw [ev] at hg
      exact h3.gb hg (Nat.le_trans h.hB (h.ow.lt q ev).1)
  · rcases hat with e2 | e2
    · exact h.gne (by rw [← e2]; exact e)
    · rw [e2] at e
      have := k.cur.2.1
      have e3 : Wa.heap.size = g := by simpa using e
      omega
/-- A new row takes its place. -/
theorem SO.new {v' : Value} {m : Nat} {L' : List Value} (h : SO w0 W g B a len cap S ty sz v n L) (hb : Below W.heap.size W W') (ho : W'.ownsRow W.heap.size ty sz v' m L') : SO w0 W' g B a len cap S ty sz v' m L' := by
  have k := h.below hb
  have hle := h.ow.sl.bel.size
  refine ⟨⟨k.ow.sl, ?_, fun q e s hs => ?_⟩, k.cur, h.far, fun e => ?_, h.hg, h.hB⟩
  · obtain ⟨h1, h2⟩ := ho
    exact ⟨h1, h2.imp id fun ⟨g', c', cur', e, hb', r⟩ => ⟨g', c', cur', e, Nat.le_trans hle hb', r⟩⟩
  · have := (ho.lt q e).1
    have := (h.ow.sl.is s hs).2.2.2
    omega
  · have := (ho.lt g e).1
    have := h.cur.2.1
    omega
end
end Go.Proofs.Ytplcdcfhfaghiaa
/- DrawP: The draws of a text and of places: what is drawn lies within its bounds; nothing that was there is turned. -/
namespace Go.Proofs.Ytplcdcfhfaghiaa
set_option maxRecDepth 100000
open Go.RowKit

def SumDrawn (w : World) (e : Ending) (w' : World) : Prop := ∃ t : ByteArray, e = .returned (.string t) ∧ t.size ≤ 40 ∧ Below w.heap.size w w'
theorem infoInt : (Try.prog.info? 3).map (fun i => (i.zero, i.size, i.bytes)) = some (some (.int .i64 0), 1, 8) := by kernel_rfl
/-- Numbers, as the model holds them. -/
def iv (l : List Int) : List Value := l.map fun x => .int .i64 x
theorem row_step {w wr w2 w3 : World} {g B len cap n : Nat} {t : TypeId} {a : Option Addr} {v : Value} {vs : List Value} {o : Obj} (hs : w.heap.size ≤ wr.heap.size) (hgw : g < w.heap.size)
    (hg : w.grownBy wr (some g)) (hg2 : wr.grownBy w2 (some g)) (hc2 : Cur w2 g B a len cap) (hown : w2.ownsRow w.heap.size t 1 v n vs) (hgr : (w2.alloc o).grownBy w3 v.ownBlock) :
    Cur w3 g B a len cap ∧ w.grownBy w3 (some g) := by
  have hlt := hown.lt
  have h2s : wr.heap.size ≤ w2.heap.size := hg2.size
  have hb3 : Below w.heap.size w2 w3 := ((Below.refl _ _).alloc (by omega) o).grown hgr (by simp; omega) (fun j hj => (hlt j hj).1)
  refine ⟨?_, ⟨(hb3.os.trans hg2.os).trans hg.os, (hb3.tape.trans hg2.tape).trans hg.tape, (hb3.output.trans hg2.output).trans hg.output, by have := hb3.size; omega, fun k hk hn => (hb3.block k hk).trans ((hg2.block k (by omega) hn).trans (hg.block k hk hn))⟩⟩
  obtain ⟨hB, hgs, hcode, c0, ⟨i, c1, hi⟩, ⟨k, c2⟩, hf⟩ := hc2
  exact ⟨hB, by have := hb3.size; omega, hcode.below hb3 (by omega), (hb3.cell (p := ⟨g, 0, none⟩) hgw).trans c0, ⟨i, (hb3.cell (p := ⟨g, 1, none⟩) hgw).trans c1, hi⟩, ⟨k, (hb3.cell (p := ⟨g, 2, none⟩) hgw).trans c2⟩, fun j hj => (hb3.frozen (p := ⟨g, j, none⟩) hgw).trans (hf j hj)⟩
theorem own_gbr {w w' : World} {g C n : Nat} {t : TypeId} {v : Value} {vs : List Value} (h : w.ownsRow C t 1 v n vs) (hg : w.grownBy w' (some g)) (hC : g < C) : w'.ownsRow C t 1 v n vs :=
  h.kept hg (by
    cases hv : v.ownBlock with
    | none => exact .inl rfl
    | some j => right; have := (h.lt j hv).1; simp; omega)
/-- The places that are drawn: twelve numbers below 10000 in a block of their own. -/
def PlacesDrawn (w : World) (e : Ending) (w' : World) : Prop :=
  ∃ (gp cap : Nat) (l : List Int), e = .returned (.slice (some ⟨gp, 0, none⟩) 12 cap) ∧ w.heap.size ≤ gp ∧ gp < w'.heap.size ∧ l.length = 12 ∧ (∀ x ∈ l, 0 ≤ x ∧ x < 10000) ∧ (∀ j, j < 12 → w'.cell? ⟨gp, j, none⟩ = some (.int .i64 (l.getD j 0))) ∧ Below w.heap.size w w'
theorem places_post {w w1 w' : World} {g n : Nat} {v : Value} {l : List Int} (hw : w.heap.size ≤ w1.heap.size) (hl : l.length = 12) (hx : ∀ x ∈ l, 0 ≤ x ∧ x < 10000) (hn : n = 12) (hown : w'.ownsRow w1.heap.size 3 1 v n (iv l)) (hb1 : Below w.heap.size w w1) (hg : w.heap.size ≤ g) (hgb : w1.grownBy w' (some g)) :
    PlacesDrawn w (.returned v) w' := by
  subst hn
  have hlt := hown.lt
  have hc : ∀ g, v.ownBlock = some g → ∀ j u, (iv l)[j]? = some u → w'.cell? ((⟨g, 0, none⟩ : Addr).add j) = some u := fun g hg => hown.cells hg
  obtain ⟨h1, ⟨rfl, h0⟩ | ⟨gp, cap, cur, rfl, _⟩⟩ := hown
  · omega
  · have h2 := hlt gp rfl
    refine ⟨gp, cap, l, rfl, by omega, h2.2, hl, hx, fun j hj => ?_, hb1.trans (below_gb hgb hg hw)⟩
    have h3 := hc gp rfl j (.int .i64 (l.getD j 0)) (by simp [iv, List.getD, show j < l.length by omega])
    have e : (⟨gp, 0, none⟩ : Addr).add j = ⟨gp, j, none⟩ := by cases j <;> simp [Addr.add]
    rwa [e] at h3
theorem cell_block {w : World} {a : Addr} {v : Value} (h : w.cell? a = some v) : a.block < w.heap.size := by
  by_cases hb : a.block < w.heap.size
  · exact hb
  · unfold World.cell? at h
    rw [Array.getElem?_eq_none (by omega)] at h
    simp at h
theorem code_at {w : World} {a : Option Addr} {len cap : Nat} {zs : List Int} (hl : len ≤ 1048576)
    (h : (a = none ∧ len = 0) ∨ ∃ x, a = some x ∧ len ≤ cap ∧ zs.length = cap ∧ (∀ i, i < zs.length → w.cell? (x.add i) = some (.int .u8 (zs.getD i 0))) ∧ ∀ n ∈ zs, (Lit.int .u8 n).wf = true) : CodeAt w w.heap.size a len := by
  refine ⟨hl, fun hp => ?_⟩
  rcases h with ⟨_, h0⟩ | ⟨x, rfl, hlc, hz, hc, hw⟩
  · omega
  · obtain ⟨b, off, spot⟩ := x
    have hs : spot = none := by simpa [Addr.add] using World.cell?_spot (hc 0 (by omega))
    subst hs
    refine ⟨b, off, rfl, ?_, fun j hj => ?_⟩
    · have := cell_block (hc 0 (by omega)); simpa [Addr.add] using this
    · have h1 := hc j (by omega)
      have e : (⟨b, off, none⟩ : Addr).add j = ⟨b, off + j, none⟩ := by cases j <;> simp [Addr.add]
      rw [e] at h1
      have hm : zs.getD j 0 ∈ zs := by
        have : j < zs.length := by omega
        simp [List.getD, this]
      have := bounds_u8 (hw _ hm)
      exact ⟨_, h1, this.1, by omega⟩
theorem big_any (a : Option Addr) (len cap : Nat) (w : World) :
    Calls Try.prog 4 #[.slice a len cap] w fun e w' => e = .returned (.bool (decide ((1048576 : Int) < len))) ∧ w' = w := by
  go_enter Try.func4, Try.ntmps4
  go_wp2_with fail
  go_ret
  exact ⟨rfl, rfl⟩
end Go.Proofs.Ytplcdcfhfaghiaa
/- BeginsM: The laws' own test whether a text begins another. -/
namespace Go.Proofs.Ytplcdcfhfaghiaa
set_option maxRecDepth 100000
open Go.RowKit

end Go.Proofs.Ytplcdcfhfaghiaa
/- DiskA: Rows of files, as the model holds them: their sizes, their copies, their comparison. -/
namespace Go.Proofs.Ytplcdcfhfaghiaa
set_option maxRecDepth 100000
open Go.RowKit
attribute [local go_sem ↓] Go.wp_at_zero Go.wp_at_succ

/-- A file. -/
structure FM where
  name : ByteArray
  text : ByteArray
  kept : Int
instance : Inhabited FM := ⟨⟨⟨#[]⟩, ⟨#[]⟩, 0⟩⟩
abbrev fv (f : FM) : Value := .agg #[.string f.name, .string f.text, .int .i64 f.kept]
def fcells (f : FM) : List Value := [.string f.name, .string f.text, .int .i64 f.kept]
theorem fcells_len (f : FM) : (fcells f).length = 3 := rfl
def fcs (fs : List FM) : List Value := fs.flatMap fcells
theorem fcs_len (fs : List FM) : (fcs fs).length = fs.length * 3 := flat_len fcells_len fs
/-- A row of files in memory. -/
abbrev FRow (w : World) (a : Option Addr) (fs : List FM) : Prop := CRow w a (fcs fs)
theorem FRow.at {w : World} {a : Option Addr} {fs : List FM} (h : FRow w a fs) (hp : 0 < fs.length) :
    ∃ b off, a = some ⟨b, off, none⟩ ∧ b < w.heap.size ∧ ∀ j (h : j < fs.length), w.cell? ⟨b, off + j * 3, none⟩ = some (.string fs[j].name) ∧ w.cell? ⟨b, off + j * 3 + 1, none⟩ = some (.string fs[j].text) ∧ w.cell? ⟨b, off + j * 3 + 2, none⟩ = some (.int .i64 fs[j].kept) := by
  obtain ⟨b, off, e, hb, hc⟩ := h (by rw [fcs_len]; omega)
  exact ⟨b, off, e, hb, fun j hj => ⟨hc (j * 3) _ (flat_get fcells_len fs j hj 0 (by omega)), hc (j * 3 + 1) _ (flat_get fcells_len fs j hj 1 (by omega)), hc (j * 3 + 2) _ (flat_get fcells_len fs j hj 2 (by omega))⟩⟩
/-- What is in the files: their texts fit a machine. -/
def FFit (fs : List FM) : Prop := fs.length ≤ 9223372036854775807 ∧ ∀ f ∈ fs, f.name.size ≤ 9223372036854775807 ∧ f.text.size ≤ 9223372036854775807 ∧ -9223372036854775808 ≤ f.kept ∧ f.kept ≤ 9223372036854775807
/-- How many bytes they have. -/
def fsum : List FM → Nat
  | [] => 0
  | f :: fs => f.name.size + f.text.size + fsum fs
theorem fsum_take (fs : List FM) (k : Nat) (h : k < fs.length) : fsum (fs.take (k + 1)) = fsum (fs.take k) + (fs[k].name.size + fs[k].text.size) := by
  induction fs generalizing k with
  | nil => simp at h
  | cons f fs ih =>
    cases k with
    | zero => simp [fsum]
    | succ k =>
      have := ih k (by simpa using h)
      simp only [List.take_succ_cons, fsum, List.getElem_cons_succ]
      omega

def SzPost (left : Int) (n : Nat) (w : World) (e : Ending) (w' : World) : Prop := ∃ r : Int, e = .returned (.int .i64 r) ∧ -1 ≤ r ∧ (0 ≤ r → r + n = left) ∧ Below w.heap.size w w'
/-- A copy of the files, in a block of its own. -/
def ToPost (fs : List FM) (w : World) (e : Ending) (w' : World) : Prop := ∃ g, e = .returned (.slice (some ⟨g, 0, none⟩) fs.length fs.length) ∧ w.heap.size ≤ g ∧ WCells w' g (fcs fs) ∧ Below w.heap.size w w'
theorem infoFile : (Try.prog.info? 55).map (fun i => (i.zero, i.size, i.bytes)) = some (some (.agg #[.string ⟨#[]⟩, .string ⟨#[]⟩, .int .i64 0]), 3, 40) := by kernel_rfl
def ToPostD (fs : List FM) (w : World) (e : Ending) (w' : World) : Prop := ∃ g, e = .returned (.agg #[.slice (some ⟨g, 0, none⟩) fs.length fs.length]) ∧ w.heap.size ≤ g ∧ WCells w' g (fcs fs) ∧ Below w.heap.size w w'
end Go.Proofs.Ytplcdcfhfaghiaa
/- DiskB: Rows of files: two that are the same are told so. -/
namespace Go.Proofs.Ytplcdcfhfaghiaa
set_option maxRecDepth 100000
open Go.RowKit
attribute [local go_sem ↓] Go.wp_at_zero Go.wp_at_succ

theorem l01In_anyD (x l m : Int) (w : World) :
    Calls Try.prog 26 #[.int .i64 x, .int .i64 l, .int .i64 m] w fun e w' => e = .returned (.bool (decide (l ≤ x ∧ x ≤ m))) ∧ w' = w := by
  by_cases c1 : l ≤ x
  · by_cases c2 : x ≤ m
    · go_enter Try.func26, Try.ntmps26
      go_wp2_with fail
      go_ret
      exact ⟨by rw [decide_eq_true ⟨c1, c2⟩]; rfl, rfl⟩
    · go_enter Try.func26, Try.ntmps26
      go_wp2_with fail
      go_ret
      exact ⟨by rw [decide_eq_false (by omega)]; rfl, rfl⟩
  · have c1' : decide (l ≤ x) = false := by simp; omega
    have e : decide (l ≤ x ∧ x ≤ m) = false := decide_eq_false (fun h => c1 h.1)
    rw [e]
    clear e
    go_enter Try.func26, Try.ntmps26
    go_wp2_with fail
    go_ret
    exact ⟨rfl, rfl⟩
theorem l03Name_any (s : ByteArray) (w : World) :
    Calls Try.prog 45 #[.string s] w fun e w' => e = .returned (.bool (decide (1 ≤ s.size ∧ s.size ≤ 8))) ∧ w' = w := by
  have e : decide ((1 : Int) ≤ (s.size : Int) ∧ (s.size : Int) ≤ 8) = decide (1 ≤ s.size ∧ s.size ≤ 8) := decide_eq_decide.2 (by omega)
  rw [← e]
  generalize hd : decide ((1 : Int) ≤ (s.size : Int) ∧ (s.size : Int) ≤ 8) = d
  have HD : Hid (decide ((1 : Int) ≤ (s.size : Int) ∧ (s.size : Int) ≤ 8) = d) := hd
  clear e hd
  go_enter Try.func45, Try.ntmps45
  go_wp2_with fail
  refine (l01In_anyD _ _ _ _).mono ?_
  rw [HD.out]
  rintro e w2 ⟨rfl, rfl⟩
  go_wp2_with fail
  go_ret
  exact ⟨rfl, rfl⟩
end Go.Proofs.Ytplcdcfhfaghiaa
/- DiskC: The model's walk over a disk: it tells whether the disk is right. -/
namespace Go.Proofs.Ytplcdcfhfaghiaa
set_option maxRecDepth 100000
open Go.RowKit
attribute [local go_sem ↓] Go.wp_at_zero Go.wp_at_succ

/-- A file is right by itself. -/
def FOk (f : FM) : Prop := (1 ≤ f.name.size ∧ f.name.size ≤ 8) ∧ f.text.size ≤ 20000 ∧ 0 ≤ f.kept ∧ f.kept ≤ f.text.size
/-- .. and at its place. -/
def FAt (fs : List FM) (k : Nat) : Prop := FOk (fs.getD k default) ∧ (0 < k → Op.bytesLess (fs.getD (k - 1) default).name.toList (fs.getD k default).name.toList = true)
def DOk (fs : List FM) : Prop := fs.length ≤ 30 ∧ ∀ k, k < fs.length → FAt fs k
open Classical in
noncomputable def dOkB (fs : List FM) : Bool := decide (DOk fs)
theorem dOkB_yes {fs : List FM} (h : DOk fs) : dOkB fs = true := by unfold dOkB; simp [h]
theorem dOkB_no {fs : List FM} (h : ¬ DOk fs) : dOkB fs = false := by unfold dOkB; simp [h]
theorem getD_atF (fs : List FM) (k : Nat) (h : k < fs.length) : fs.getD k default = fs[k] := by simp [List.getD, h]

theorem l03Name_is (s : ByteArray) (w : World) (b : Bool) (h : decide (1 ≤ s.size ∧ s.size ≤ 8) = b) : Calls Try.prog 45 #[.string s] w fun e w' => e = .returned (.bool b) ∧ w' = w := by
  have := l03Name_any s w
  rwa [h] at this
theorem l01In_is (x l m : Int) (w : World) (b : Bool) (h : decide (l ≤ x ∧ x ≤ m) = b) : Calls Try.prog 26 #[.int .i64 x, .int .i64 l, .int .i64 m] w fun e w' => e = .returned (.bool b) ∧ w' = w := by
  have := l01In_anyD x l m w
  rwa [h] at this
set_option maxHeartbeats 2000000 in
theorem specDiskOk (a : Option Addr) (fs : List FM) (cap : Nat) (w : World) (hr : FRow w a fs) (hf : FFit fs) (hl : fs.length ≤ 1048576) :
    Calls Try.prog 44 #[.agg #[.slice a fs.length cap]] w fun e w' => e = .returned (.bool (dOkB fs)) ∧ Below w.heap.size w w' := by
  have hb0 : Below w.heap.size w (w.alloc (.cells #[.slice a fs.length cap] 26)) := (Below.refl _ _).alloc (Nat.le_refl _) _
  by_cases h30 : 30 < fs.length
  · rw [dOkB_no (fun h => by have := h.1; omega)]
    have h30' : (30 : Int) < (fs.length : Int) := by omega
    clear hr hf
    go_enter Try.func44, Try.ntmps44
    go_wp2_with fail
    go_ret
    exact ⟨rfl, hb0⟩
  · have h30' : ¬ (30 : Int) < (fs.length : Int) := by omega
    have HR : Hid (FRow w a fs) := hr
    have HF : Hid (FFit fs) := hf
    have hbox := wcells_new w #[.slice a fs.length cap] 26
    have HX : Hid (WCells (w.alloc (.cells #[.slice a fs.length cap] 26)) w.heap.size [.slice a fs.length cap]) := hbox
    have HB0 : Hid (Below w.heap.size w (w.alloc (.cells #[.slice a fs.length cap] 26))) := hb0
    clear hr hf hbox hb0
    generalize hO : dOkB fs = O
    have HO : Hid (dOkB fs = O) := hO
    clear hO
    go_enter Try.func44, Try.ntmps44
    go_wp2_with fail
    go_loopw [3] (fun i wr => ∃ (k : Nat), i = .int .i64 k ∧ k ≤ fs.length ∧ (∀ j, j < k → FAt fs j) ∧ WCells wr w.heap.size [.slice a fs.length cap] ∧ Below w.heap.size w wr) (fun i _ => fs.length - (intOf i).toNat)
    case atStart => exact ⟨0, rfl, Nat.zero_le _, fun j hj => by omega, HX.out, HB0.out⟩
    case round =>
      obtain ⟨k, rfl, hk, hgood, hx, hb⟩ := hrel
      have HGD : Hid (∀ j, j < k → FAt fs j) := hgood
      have x0 := (hx.2 0 _ rfl).1
      by_cases hlt : k < fs.length
      · obtain ⟨b, off, rfl, lb, hc⟩ := FRow.at (HR.out.stays hb) (by omega)
        obtain ⟨d0, d1, d2⟩ := hc k hlt
        obtain ⟨f, hfe⟩ : ∃ f, f = fs[k] := ⟨_, rfl⟩
        rw [← hfe] at d0 d1 d2
        have HFE : Hid (fs.getD k default = f) := (getD_atF fs k hlt).trans hfe.symm
        have k0 : (0 : Int) ≤ (k : Int) := by omega
        have k1 : (k : Int) < (fs.length : Int) := by omega
        have hbx : Below w.heap.size w (wr.alloc (.cells #[.string f.name, .string f.text, .int .i64 f.kept] 55)) := hb.alloc hb.size _
        have HBX : Hid (Below w.heap.size w (wr.alloc (.cells #[.string f.name, .string f.text, .int .i64 f.kept] 55))) := hbx
        have hxx := hx.alloc (.cells #[.string f.name, .string f.text, .int .i64 f.kept] 55)
        have HXX : Hid (WCells (wr.alloc (.cells #[.string f.name, .string f.text, .int .i64 f.kept] 55)) w.heap.size [.slice (some ⟨b, off, none⟩) fs.length cap]) := hxx
        have y0 := (hxx.2 0 _ rfl).1
        have HXN : ∀ q, WCells ((wr.alloc (.cells #[.string f.name, .string f.text, .int .i64 f.kept] 55)).drewN q) w.heap.size [.slice (some ⟨b, off, none⟩) fs.length cap] := fun q => hxx
        have HBN : ∀ q, Below w.heap.size w ((wr.alloc (.cells #[.string f.name, .string f.text, .int .i64 f.kept] 55)).drewN q) := fun q => hbx.trans ⟨rfl, rfl, rfl, Nat.le_refl _, fun _ _ => rfl⟩
        have lb' : b < wr.heap.size := lb
        clear hfe hbx hxx hx
        by_cases hA : decide (1 ≤ f.name.size ∧ f.name.size ≤ 8) = true
        · by_cases hB : f.text.size ≤ 20000
          · have hB' : decide ((20000 : Int) < (f.text.size : Int)) = false := by simp; omega
            by_cases hC : decide (0 ≤ f.kept ∧ f.kept ≤ (f.text.size : Int)) = true
            · by_cases hk0 : 0 < k
              · obtain ⟨p0, _, _⟩ := hc (k - 1) (by omega)
                obtain ⟨f1, hf1⟩ : ∃ f1, f1 = fs[k - 1] := ⟨_, rfl⟩
                rw [← hf1] at p0
                have HF1 : Hid (fs.getD (k - 1) default = f1) := (getD_atF fs (k - 1) (by omega)).trans hf1.symm
                have q0 : (wr.alloc (.cells #[.string f.name, .string f.text, .int .i64 f.kept] 55)).cell? ⟨b, off + (k - 1) * 3, none⟩ = some (.string f1.name) := (((Below.refl _ _).alloc (Nat.le_refl _) _ : Below wr.heap.size wr (wr.alloc (.cells #[.string f.name, .string f.text, .int .i64 f.kept] 55))).cell (p := ⟨b, off + (k - 1) * 3, none⟩) lb').trans p0
                have hkp : (0 : Int) < (k : Int) := by omega
                have hk1 : (k : Int) - 1 = ((k - 1 : Nat) : Int) := by omega
                have hk2 : (0 : Int) ≤ ((k - 1 : Nat) : Int) := by omega
                have hk3 : ((k - 1 : Nat) : Int) < (fs.length : Int) := by omega
                clear hc hf1 p0
                by_cases hD : Op.bytesLess f1.name.toList f.name.toList = true
                · go_wp2_with fail
                  go_quiet (first
                    | (go_at_call 45; exact Calls.quiet_of_same (l03Name_is _ _ true hA))
                    | (go_at_call 26; exact Calls.quiet_of_same (l01In_is _ _ _ _ true hC)))
                  go_wp2_with fail
                  go_roundw
                  case rel => exact ⟨k + 1, by go_num, by omega, fun j hj => by rcases Nat.lt_succ_iff_lt_or_eq.1 hj with h | h; exact HGD.out j h; subst h; exact ⟨by rw [HFE.out]; exact ⟨of_decide_eq_true hA, hB, (of_decide_eq_true hC).1, (of_decide_eq_true hC).2⟩, fun _ => by rw [HFE.out, HF1.out]; exact hD⟩, HXN _, HBN _⟩
                  case measure => simp [intOf]; omega
                · have hD' : Op.bytesLess f1.name.toList f.name.toList = false := by simpa using hD
                  go_wp2_with fail
                  go_quiet (first
                    | (go_at_call 45; exact Calls.quiet_of_same (l03Name_is _ _ true hA))
                    | (go_at_call 26; exact Calls.quiet_of_same (l01In_is _ _ _ _ true hC)))
                  go_wp2_with fail
                  go_ret
                  exact ⟨congrArg (fun b => Ending.returned (.bool b)) ((HO.out.symm.trans (dOkB_no (fun h => hD (by have h2 := (h.2 k hlt).2 hk0; rw [HFE.out, HF1.out] at h2; exact h2)))).symm), HBN _⟩
              · have hkn : decide ((0 : Int) < (k : Int)) = false := by simp; omega
                clear hc
                go_wp2_with fail
                go_quiet (first
                  | (go_at_call 45; exact Calls.quiet_of_same (l03Name_is _ _ true hA))
                  | (go_at_call 26; exact Calls.quiet_of_same (l01In_is _ _ _ _ true hC)))
                go_wp2_with fail
                go_roundw
                case rel => exact ⟨k + 1, by go_num, by omega, fun j hj => by rcases Nat.lt_succ_iff_lt_or_eq.1 hj with h | h; exact HGD.out j h; subst h; exact ⟨by rw [HFE.out]; exact ⟨of_decide_eq_true hA, hB, (of_decide_eq_true hC).1, (of_decide_eq_true hC).2⟩, fun h => absurd h hk0⟩, HXN _, HBN _⟩
                case measure => simp [intOf]; omega
            · replace hC : decide (0 ≤ f.kept ∧ f.kept ≤ (f.text.size : Int)) = false := by simpa using hC
              clear hc
              go_wp2_with fail
              go_quiet (first
                | (go_at_call 45; exact Calls.quiet_of_same (l03Name_is _ _ true hA))
                | (go_at_call 26; exact Calls.quiet_of_same (l01In_is _ _ _ _ false hC)))
              go_wp2_with fail
              go_ret
              exact ⟨congrArg (fun b => Ending.returned (.bool b)) ((HO.out.symm.trans (dOkB_no (fun h => of_decide_eq_false hC (by have h2 := (h.2 k hlt).1; rw [HFE.out] at h2; exact ⟨h2.2.2.1, h2.2.2.2⟩)))).symm), HBN _⟩
          · have hB' : decide ((20000 : Int) < (f.text.size : Int)) = true := by simp; omega
            clear hc
            go_wp2_with fail
            go_quiet (first
              | (go_at_call 45; exact Calls.quiet_of_same (l03Name_is _ _ true hA)))
            go_wp2_with fail
            go_ret
            exact ⟨congrArg (fun b => Ending.returned (.bool b)) ((HO.out.symm.trans (dOkB_no (fun h => hB (by have h2 := (h.2 k hlt).1; rw [HFE.out] at h2; exact h2.2.1)))).symm), HBN _⟩
        · replace hA : decide (1 ≤ f.name.size ∧ f.name.size ≤ 8) = false := by simpa using hA
          clear hc
          go_wp2_with fail
          go_quiet (first
            | (go_at_call 45; exact Calls.quiet_of_same (l03Name_is _ _ false hA)))
          go_wp2_with fail
          go_ret
          exact ⟨congrArg (fun b => Ending.returned (.bool b)) ((HO.out.symm.trans (dOkB_no (fun h => of_decide_eq_false hA (by have h2 := (h.2 k hlt).1; rw [HFE.out] at h2; exact h2.1)))).symm), HBN _⟩
      · have e : k = fs.length := by omega
        subst e
        go_wp2_with fail
        go_ret
        exact ⟨congrArg (fun b => Ending.returned (.bool b)) ((HO.out.symm.trans (dOkB_yes ⟨by omega, fun j hj => HGD.out j (by omega)⟩)).symm), hb⟩
end Go.Proofs.Ytplcdcfhfaghiaa
