/- Texts of ours, laid one behind the other: GrwD, GrwF, GrwG, DrSd, GenA, TreA, SchZ, Words, VarL, SpnA, PathM. -/
import Derived.Test.YtoaifodmjkhiiaaDoorPx1
import Derived.BigQuiet
import Derived.PlainAid
/- GrwD: As GrwC, with any set of last operations; pure values among them are taken ahead (written by gen/mkgrwd.py). -/
namespace Go.Proofs.YtoaifodmjkhiiaaDoor
set_option maxRecDepth 100000
open Go.RowKit
section
variable {P : Program} {ops : Array Oper} {Q : Exit → Act → World → Prop} {md : Region.Mode} {tl : Nat → Bool}
/-- Only operations from number m on are left. -/
def tailedD (tl : Nat → Bool) (ops : Array Oper) (l : Array Bool) : Bool := (List.range ops.size).all fun j => l.getD j true || tl j
theorem tailedD_spec {l : Array Bool} (h : tailedD tl ops l = true) {j : Nat} (hj : l.getD j true = false) (hs : j < ops.size) : tl j = true := by
  have := List.all_eq_true.1 h j (by simpa using hs)
  rw [hj, Bool.false_or] at this
  exact this
/-- Whatever order is picked from here on, in whatever later world, until only the last ones are left. -/
def wpD (P : Program) (md : Region.Mode) (ops : Array Oper) (Q : Exit → Act → World → Prop) (tl : Nat → Bool) : Nat → Array Bool → Act → World → Prop
  | 0, l, a, w => ∀ x, Later w x → wpAny P md ops Q 0 l a x
  | n + 1, l, a, w => (tailedD tl ops l = true ∧ ∀ x, Later w x → wpAny P md ops Q (n + 1) l a x) ∨ (∀ x, Later w x → (Region.ready md ops l = [] → Q .normal a x) ∧
      ∀ i ∈ Region.ready md ops l, wpOp P ops Q i (fun a' y => Later x y ∧ wpD P md ops Q tl n (l.setIfInBounds i true) a' y) a x)
theorem wpD_later : ∀ (n : Nat) (l : Array Bool) (a : Act) (w y : World), Later w y → wpD P md ops Q tl n l a w → wpD P md ops Q tl n l a y
  | 0, _, _, _, _, hy, h => fun x hx => h x (hy.trans hx)
  | _ + 1, _, _, _, _, hy, h => h.imp (fun q => ⟨q.1, fun x hx => q.2 x (hy.trans hx)⟩) (fun q x hx => q x (hy.trans hx))
theorem wpAny_of_D : ∀ (n : Nat) (l : Array Bool) (a : Act) (w : World), wpD P md ops Q tl n l a w → wpAny P md ops Q n l a w
  | 0, _, _, w, h => h w (Later.refl w)
  | n + 1, _, _, w, h => by
    rcases h with h | h
    · exact h.2 w (Later.refl w)
    · exact ⟨(h w (Later.refl w)).1, fun i hi => wpOp_mono (fun a' y hh => wpAny_of_D n _ a' y hh.2) ((h w (Later.refl w)).2 i hi)⟩
/-- The last ones that are left wait for number i. -/
def waitsD (md : Region.Mode) (tl : Nat → Bool) (ops : Array Oper) (l : Array Bool) (i : Nat) (C : List Nat) : Bool :=
  (C.all fun c => !(l.getD c true) && (((ops[c]?).map fun o => o.after.any fun e => Region.binds md e && ((e.on == i) || C.contains e.on)) == some true)) && ((List.range ops.size).all fun f => !(tl f) || l.getD f true || C.contains f)
theorem waitsD_spec {l : Array Bool} {i : Nat} {C : List Nat} (h : waitsD md tl ops l i C = true) (hi : l.getD i true = false) : ∀ c ∈ C, c ∉ Region.ready md ops l := by
  unfold waitsD at h
  rw [Bool.and_eq_true] at h
  intro c hc hr
  have h1 := List.all_eq_true.1 h.1 c hc
  rw [Bool.and_eq_true] at h1
  obtain ⟨-, o, ho, hall⟩ := mem_ready.1 hr
  rw [ho] at h1
  simp only [Option.map_some, beq_iff_eq, Option.some.injEq] at h1
  have h2 := h1.2
  rw [Array.any_eq_true'] at h2
  obtain ⟨e, he, q⟩ := h2
  rw [Bool.and_eq_true, Bool.or_eq_true] at q
  have hd := hall e he q.1
  rcases q.2 with q2 | q2
  · rw [beq_iff_eq] at q2
    rw [q2] at hd
    exact getD_clash hi hd
  · have hm : e.on ∈ C := by simpa using q2
    have h3 := List.all_eq_true.1 h.1 _ hm
    rw [Bool.and_eq_true, Bool.not_eq_true'] at h3
    exact getD_clash h3.1 hd
theorem waitsD_last {l : Array Bool} {i f : Nat} {C : List Nat} (h : waitsD md tl ops l i C = true) (hf : tl f = true) (hu : l.getD f true = false) (hs : f < ops.size) : f ∈ C := by
  unfold waitsD at h
  rw [Bool.and_eq_true] at h
  have := List.all_eq_true.1 h.2 f (by simpa using hs)
  rw [hu, Bool.or_false, hf] at this
  simpa using this
theorem waitsD_step {l : Array Bool} {i j : Nat} {C : List Nat} (h : waitsD md tl ops l i C = true) (hj : j ∉ C) : waitsD md tl ops (l.setIfInBounds j true) i C = true := by
  unfold waitsD at h ⊢
  rw [Bool.and_eq_true] at h ⊢
  refine ⟨List.all_eq_true.2 fun c hc => ?_, List.all_eq_true.2 fun f hf => ?_⟩
  · have h1 := List.all_eq_true.1 h.1 c hc
    have hcj : j ≠ c := fun e => hj (e ▸ hc)
    rw [getD_set_ne true hcj]
    exact h1
  · have h1 := List.all_eq_true.1 h.2 f hf
    by_cases e : j = f
    · subst e
      have : (l.setIfInBounds j true).getD j true = true := by
        simp only [Array.getD]
        split
        · simp
        · rfl
      rw [this]
      simp
    · rw [getD_set_ne true e]
      exact h1
theorem wpD_first {i : Nat} {oi : Oper} {v : Value} {C : List Nat} (hi : ops[i]? = some oi) (hsel : ∀ (j : Nat) (o : Oper) cs b, ops[j]? = some o → o.op ≠ .select cs b) (hQ : ∀ c a w, Q (.panic c) (a.put oi.dst v) w → Q (.panic c) a w) :
    ∀ (n : Nat) (l : Array Bool) (a : Act) (w : World), waitsD md tl ops l i C = true → (∀ j oj, ops[j]? = some oj → j ≠ i → l.getD j true = false → (∀ e ∈ oj.after, Region.binds md e = true → e.on ≠ i) → oi.apart ops oj = true) →
      i ∈ Region.ready md ops l → YL P ops oi v a w → wpD P md ops Q tl n (l.setIfInBounds i true) (a.put oi.dst v) w → wpD P md ops Q tl (n + 1) l a w := by
  intro n
  induction n with
  | zero =>
    intro l a w _ _ hr hy H
    refine .inr fun x hx => ⟨fun h => (by rw [h] at hr; cases hr), fun j hj => ?_⟩
    by_cases hji : j = i
    · subst hji
      exact hy.op hi hx fun y hxy => ⟨hxy, wpD_later 0 _ _ _ _ (hx.trans hxy) H⟩
    · have q := ready_mono hj hji
      rw [(H w (Later.refl w)).1] at q
      cases q
  | succ n ih =>
    intro l a w hwt hfree hr hy H
    refine .inr fun x hx => ⟨fun h => (by rw [h] at hr; cases hr), fun j hj => ?_⟩
    by_cases hji : j = i
    · subst hji
      exact hy.op hi hx fun y hxy => ⟨hxy, wpD_later (n + 1) _ _ _ _ (hx.trans hxy) H⟩
    · obtain ⟨hun, oj, hoj, -⟩ := mem_ready.1 hj
      have hjC : j ∉ C := fun hc => waitsD_spec hwt (mem_ready.1 hr).1 j hc hj
      rcases H with H | H
      · have hju : (l.setIfInBounds i true).getD j true = false := by rw [getD_set_ne true (Ne.symm hji)]; exact hun
        have hjs := (Array.getElem?_eq_some_iff.1 hoj).1
        have hjm := tailedD_spec H.1 hju hjs
        exact absurd (waitsD_last hwt hjm hun hjs) hjC
      · have q := op_beside hoj (hfree j oj hoj hji hun (ready_free hr hj hoj)) (fun cs b => hsel i oi cs b hi) (fun cs b => hsel j oj cs b hoj) hQ hy ((H x hx).2 j (ready_mono hj hji))
        refine wpOp_mono (fun b y hb => ⟨hb.2.1, ih (l.setIfInBounds j true) b y (waitsD_step hwt hjC) (fun k ok hk hki hku hno => hfree k ok hk hki ?_ hno) (ready_mono hr (Ne.symm hji)) (hb.1.later (hx.trans hb.2.1)) ?_⟩) q
        · by_cases hjk : j = k
          · subst hjk; exact hun
          · rw [getD_set_ne true hjk] at hku; exact hku
        · rw [Array.setIfInBounds_comm _ _ hji]
          exact hb.2.2
theorem wpD_tail {l : Array Bool} {a : Act} {w : World} (ht : tailedD tl ops l = true) : ∀ {n : Nat}, (∀ x, Later w x → wpAny P md ops Q n l a x) → wpD P md ops Q tl n l a w
  | 0, h => h
  | _ + 1, h => .inl ⟨ht, h⟩
theorem wpD_done {l : Array Bool} {a : Act} {w : World} (hr : Region.ready md ops l = []) (h : ∀ x, Later w x → Q .normal a x) : ∀ n, wpD P md ops Q tl n l a w
  | 0 => fun x hx => ⟨hr, h x hx⟩
  | _ + 1 => .inr fun x hx => ⟨fun _ => h x hx, by rw [hr]; simp⟩
theorem wp_region_set {id : Nat} {a : Act} {w : World} (tl : Nat → Bool) (hm : P.follows .mixedOrders = true) (h : wpD P .any ops Q tl ops.size (Array.replicate ops.size false) a w.drew) : (Code.region id ops true).wp P Q a w :=
  wp_region_any hm (wpAny_of_D _ _ _ _ h)
end
section
variable {P : Program} {Q : Exit → Act → World → Prop} {md : Region.Mode} {tl : Nat → Bool}
/-- Take number i: a value. -/
theorem wpD_val {L r : List Oper} {i : Nat} {oi : Oper} {v : Value} {n : Nat} {l : Array Bool} {a : Act} {w : World} (hi : L.drop i = oi :: r) (hs : Region.noSelect L.toArray = true) (hf : Region.free md L.toArray l i = true) (hr : (Region.ready md L.toArray l).contains i = true) (ht : waitsD md tl L.toArray l i (clo md L.toArray l i) = true)
    (hQ : ∀ c a w, Q (.panic c) (a.put oi.dst v) w → Q (.panic c) a w) (hw : Region.wanted oi (yielded L.toArray a.tmps) = true) (hy : ∀ x, Later w x → (execOp a.eval oi).run P x = .ok (.value v) x)
    (h : wpD P md L.toArray Q tl n (l.setIfInBounds i true) (a.put oi.dst v) w) : wpD P md L.toArray Q tl (n + 1) l a w :=
  wpD_first (at_drop hi) (Region.noSelect_spec hs) hQ n l a w ht (Region.free_spec (at_drop hi) hf) (by simpa using hr) (Or.inl ⟨hw, fun x hx => by unfold Oper.quietAt; rw [hy x hx]; exact ⟨rfl, rfl⟩⟩) h
/-- Take number i: a call. -/
theorem wpD_call {L r : List Oper} {i : Nat} {oi : Oper} {v : Value} {f : FuncId} {args : Array Value} {n : Nat} {l : Array Bool} {a : Act} {w : World} (hi : L.drop i = oi :: r) (hs : Region.noSelect L.toArray = true) (hf : Region.free md L.toArray l i = true) (hr : (Region.ready md L.toArray l).contains i = true) (ht : waitsD md tl L.toArray l i (clo md L.toArray l i) = true)
    (hQ : ∀ c a w, Q (.panic c) (a.put oi.dst v) w → Q (.panic c) a w) (hw : Region.wanted oi (yielded L.toArray a.tmps) = true) (hy : ∀ x, Later w x → (execOp a.eval oi).run P x = .ok (.enter f args) x)
    (hc : ∀ x, Later w x → Calls P f args x fun e y => e = .returned v ∧ Below x.heap.size x y)
    (h : wpD P md L.toArray Q tl n (l.setIfInBounds i true) (a.put oi.dst v) w) : wpD P md L.toArray Q tl (n + 1) l a w :=
  wpD_first (at_drop hi) (Region.noSelect_spec hs) hQ n l a w ht (Region.free_spec (at_drop hi) hf) (by simpa using hr) (Or.inl ⟨hw, fun x hx => by unfold Oper.quietAt; rw [hy x hx]; exact ⟨rfl, hc x hx⟩⟩) h
/-- Take number i: it is not wanted. -/
theorem wpD_skip {L r : List Oper} {i : Nat} {oi : Oper} {n : Nat} {l : Array Bool} {a : Act} {w : World} (hi : L.drop i = oi :: r) (hs : Region.noSelect L.toArray = true) (hf : Region.free md L.toArray l i = true) (hr : (Region.ready md L.toArray l).contains i = true) (ht : waitsD md tl L.toArray l i (clo md L.toArray l i) = true)
    (hQ : ∀ c a w, Q (.panic c) (a.put oi.dst undef) w → Q (.panic c) a w) (hw : Region.wanted oi (yielded L.toArray a.tmps) = false)
    (h : wpD P md L.toArray Q tl n (l.setIfInBounds i true) (a.put oi.dst undef) w) : wpD P md L.toArray Q tl (n + 1) l a w :=
  wpD_first (at_drop hi) (Region.noSelect_spec hs) hQ n l a w ht (Region.free_spec (at_drop hi) hf) (by simpa using hr) (Or.inr ⟨hw, rfl⟩) h
/-- One alone may come up, and answers a value; memory may be made. -/
theorem wpD_one {L r : List Oper} {i : Nat} {oi : Oper} {n : Nat} {l : Array Bool} {a : Act} {w : World} (hr : Region.ready md L.toArray l = [i]) (hi : L.drop i = oi :: r) (hw : Region.wanted oi (yielded L.toArray a.tmps) = true)
    (h : ∀ x, Later w x → ∃ (v : Value) (y : World), (execOp a.eval oi).run P x = .ok (.value v) y ∧ Later x y ∧ wpD P md L.toArray Q tl n (l.setIfInBounds i true) (a.put oi.dst v) y) : wpD P md L.toArray Q tl (n + 1) l a w := by
  refine .inr fun x hx => ?_
  rw [hr]
  refine ⟨fun h => (by cases h), fun j hj => ?_⟩
  rw [List.mem_singleton] at hj
  subst hj
  obtain ⟨v, y, h1, h2, h3⟩ := h x hx
  unfold wpOp
  rw [at_drop hi]
  dsimp only
  rw [if_pos hw]
  refine Or.inl ?_
  unfold Oper.wp
  rw [h1]
  exact ⟨h2, h3⟩
/-- One alone may come up: a call that answers what it likes and only makes memory. -/
theorem wpD_onecall {L r : List Oper} {i : Nat} {oi : Oper} {f : FuncId} {args : Array Value} {n : Nat} {l : Array Bool} {a : Act} {w : World} (hr : Region.ready md L.toArray l = [i]) (hi : L.drop i = oi :: r) (hw : Region.wanted oi (yielded L.toArray a.tmps) = true)
    (hy : ∀ x, Later w x → (execOp a.eval oi).run P x = .ok (.enter f args) x)
    (h : ∀ x, Later w x → Calls P f args x fun e y => ∃ v, e = .returned v ∧ Below x.heap.size x y ∧ wpD P md L.toArray Q tl n (l.setIfInBounds i true) (a.put oi.dst v) y) : wpD P md L.toArray Q tl (n + 1) l a w := by
  refine .inr fun x hx => ?_
  rw [hr]
  refine ⟨fun h => (by cases h), fun j hj => ?_⟩
  rw [List.mem_singleton] at hj
  subst hj
  unfold wpOp
  rw [at_drop hi]
  dsimp only
  rw [if_pos hw]
  refine Or.inl ?_
  unfold Oper.wp
  rw [hy x hx]
  exact (h x hx).mono (by rintro e y ⟨v, rfl, h1, h2⟩; exact ⟨h1, h2⟩)
/-- A call and the making of a box may come up, in either order. -/
theorem wpD_callbox {L r r' : List Oper} {i j : Nat} {oi oj : Oper} {f : FuncId} {args : Array Value} {n : Nat} {l : Array Bool} {a : Act} {w : World} {C : Array Value} {t : TypeId}
    (hr : Region.ready md L.toArray l = [i, j]) (hi : L.drop i = oi :: r) (hj : L.drop j = oj :: r') (hw : Region.wanted oi (yielded L.toArray a.tmps) = true) (hwj : Region.wanted oj (yielded L.toArray a.tmps) = true)
    (hy : ∀ x, Later w x → (execOp a.eval oi).run P x = .ok (.enter f args) x) (hz : ∀ x, Later w x → (execOp a.eval oj).run P x = .ok (.value (.pointer (some ⟨x.heap.size, 0, none⟩))) (x.alloc (.cells C t)))
    (h1 : ∀ x, Later w x → Calls P f args x fun e y => ∃ v, e = .returned v ∧ Below x.heap.size x y ∧ wpD P md L.toArray Q tl n (l.setIfInBounds i true) (a.put oi.dst v) y)
    (h2 : ∀ x, Later w x → wpD P md L.toArray Q tl n (l.setIfInBounds j true) (a.put oj.dst (.pointer (some ⟨x.heap.size, 0, none⟩))) (x.alloc (.cells C t))) : wpD P md L.toArray Q tl (n + 1) l a w := by
  refine .inr fun x hx => ?_
  rw [hr]
  refine ⟨fun h => (by cases h), fun k hk => ?_⟩
  rw [List.mem_cons, List.mem_singleton] at hk
  unfold wpOp
  rcases hk with rfl | rfl
  · rw [at_drop hi]
    dsimp only
    rw [if_pos hw]
    refine Or.inl ?_
    unfold Oper.wp
    rw [hy x hx]
    exact (h1 x hx).mono (by rintro e y ⟨v, rfl, q1, q2⟩; exact ⟨q1, q2⟩)
  · rw [at_drop hj]
    dsimp only
    rw [if_pos hwj]
    refine Or.inl ?_
    unfold Oper.wp
    rw [hz x hx]
    exact ⟨(Below.refl _ _).alloc (Nat.le_refl _) _, h2 x hx⟩
/-- One of the last ones that is a value in every world is taken first. -/
theorem wpD_purely {ops : Array Oper} {i : Nat} {oi : Oper} {v : Value} (hi : ops[i]? = some oi) (hti : tl i = true) (hsel : ∀ (j : Nat) (o : Oper) cs b, ops[j]? = some o → o.op ≠ .select cs b) (hQ : ∀ c a w, Q (.panic c) (a.put oi.dst v) w → Q (.panic c) a w) :
    ∀ (n : Nat) (l : Array Bool) (a : Act) (w : World), (∀ j oj, ops[j]? = some oj → j ≠ i → l.getD j true = false → (∀ e ∈ oj.after, Region.binds md e = true → e.on ≠ i) → oi.apart ops oj = true) →
      i ∈ Region.ready md ops l → Region.wanted oi (yielded ops a.tmps) = true → (∀ x, (execOp a.eval oi).run P x = .ok (.value v) x) → wpD P md ops Q tl n (l.setIfInBounds i true) (a.put oi.dst v) w → wpD P md ops Q tl (n + 1) l a w := by
  have htail : ∀ {l : Array Bool}, tailedD tl ops (l.setIfInBounds i true) = true → tailedD tl ops l = true := fun {l} h => by
    unfold tailedD at h ⊢
    refine List.all_eq_true.2 fun j hj => ?_
    by_cases e : i = j
    · subst e
      rw [hti, Bool.or_true]
    · have := List.all_eq_true.1 h j hj
      rw [getD_set_ne true e] at this
      exact this
  intro n
  induction n with
  | zero =>
    intro l a w _ hr hw hy H
    refine .inr fun x hx => ⟨fun h => (by rw [h] at hr; cases hr), fun j hj => ?_⟩
    by_cases hji : j = i
    · subst hji
      have hyl : YL P ops oi v a w := Or.inl ⟨hw, fun x _ => by unfold Oper.quietAt; rw [hy x]; exact ⟨rfl, rfl⟩⟩
      exact hyl.op hi hx fun y hxy => ⟨hxy, wpD_later 0 _ _ _ _ (hx.trans hxy) H⟩
    · have q := ready_mono hj hji
      rw [(H w (Later.refl w)).1] at q
      cases q
  | succ n ih =>
    intro l a w hfree hr hw hy H
    rcases H with H | H
    · exact .inl ⟨htail H.1, fun x hx => wpA_first hi hsel hQ _ l a x hfree hr hw hy (H.2 x hx)⟩
    · have hyl : YL P ops oi v a w := Or.inl ⟨hw, fun x _ => by unfold Oper.quietAt; rw [hy x]; exact ⟨rfl, rfl⟩⟩
      refine .inr fun x hx => ⟨fun h => (by rw [h] at hr; cases hr), fun j hj => ?_⟩
      by_cases hji : j = i
      · subst hji
        exact hyl.op hi hx fun y hxy => ⟨hxy, wpD_later (n + 1) _ _ _ _ (hx.trans hxy) (.inr H)⟩
      · obtain ⟨hun, oj, hoj, -⟩ := mem_ready.1 hj
        have hap := hfree j oj hoj hji hun (ready_free hr hj hoj)
        have h3 := (Oper.apart_spec hap).2.2
        have q := op_frame hoj (wpOp_putIf (S := fun _ => False) hoj hap (fun cs b => hsel i oi cs b hi) (fun cs b => hsel j oj cs b hoj) hQ (Or.inl ⟨hw, fun _ hf => hf.elim⟩) ((H x hx).2 j (ready_mono hj hji)))
        refine wpOp_mono ?_ q
        have step : ∀ (b : Act) (y : World), Later x y → execOp b.eval oi = execOp a.eval oi → Region.wanted oi (yielded ops b.tmps) = Region.wanted oi (yielded ops a.tmps) → wpD P md ops Q tl n ((l.setIfInBounds i true).setIfInBounds j true) (b.put oi.dst v) y → Later x y ∧ wpD P md ops Q tl (n + 1) (l.setIfInBounds j true) b y := fun b y hl e1 e2 hk => by
          refine ⟨hl, ih (l.setIfInBounds j true) b y (fun k ok hk hki hku hno => hfree k ok hk hki ?_ hno) (ready_mono hr (Ne.symm hji)) (by rw [e2]; exact hw) (fun x => by rw [e1]; exact hy x) ?_⟩
          · by_cases hjk : j = k
            · subst hjk; exact hun
            · rw [getD_set_ne true hjk] at hku; exact hku
          · rw [Array.setIfInBounds_comm _ _ hji]
            exact hk
        rintro b y ⟨⟨u, rfl | ⟨f, rfl⟩⟩, -, hl, hk⟩
        · exact step _ _ hl (execOp_put oi (fun cs b => hsel i oi cs b hi) a oj.dst u h3) (wanted_put oi a oj.dst u h3) hk
        · exact step _ _ hl (execOp_put oi (fun cs b => hsel i oi cs b hi) { a with defers := f :: a.defers } oj.dst u h3) (wanted_put oi { a with defers := f :: a.defers } oj.dst u h3) hk
theorem wpD_pure {L r : List Oper} {i : Nat} {oi : Oper} {v : Value} {n : Nat} {l : Array Bool} {a : Act} {w : World} (hi : L.drop i = oi :: r) (hti : tl i = true) (hs : Region.noSelect L.toArray = true) (hf : Region.free md L.toArray l i = true) (hr : (Region.ready md L.toArray l).contains i = true)
    (hQ : ∀ c a w, Q (.panic c) (a.put oi.dst v) w → Q (.panic c) a w) (hw : Region.wanted oi (yielded L.toArray a.tmps) = true) (hy : ∀ x, (execOp a.eval oi).run P x = .ok (.value v) x)
    (h : wpD P md L.toArray Q tl n (l.setIfInBounds i true) (a.put oi.dst v) w) : wpD P md L.toArray Q tl (n + 1) l a w :=
  wpD_purely (at_drop hi) hti (Region.noSelect_spec hs) hQ n l a w (Region.free_spec (at_drop hi) hf) (by simpa using hr) hw hy h
end
end Go.Proofs.YtoaifodmjkhiiaaDoor
/- GrwF: A region that draws its order: as GrwB, over any way in which later worlds may be told (written by gen/mkgrwf.py). -/
namespace Go.Proofs.YtoaifodmjkhiiaaDoor
set_option maxRecDepth 100000
open Go.RowKit

/-- A way to tell later worlds. -/
def Pre9 (R : World → World → Prop) : Prop := (∀ w, R w w) ∧ ∀ {a b c : World}, R a b → R b c → R a c
section
variable {R : World → World → Prop} {P : Program} {ops : Array Oper} {Q : Exit → Act → World → Prop} {md : Region.Mode}
/-- Whatever order is picked from here on, in whatever later world. -/
def wpR (R : World → World → Prop) (P : Program) (md : Region.Mode) (ops : Array Oper) (Q : Exit → Act → World → Prop) : Nat → Array Bool → Act → World → Prop
  | 0, l, a, w => Region.ready md ops l = [] ∧ ∀ x, R w x → Q .normal a x
  | n + 1, l, a, w => ∀ x, R w x → (Region.ready md ops l = [] → Q .normal a x) ∧
      ∀ i ∈ Region.ready md ops l, wpOp P ops Q i (fun a' y => R x y ∧ wpR R P md ops Q n (l.setIfInBounds i true) a' y) a x
theorem wpR_later (HR : Pre9 R) : ∀ (n : Nat) (l : Array Bool) (a : Act) (w y : World), R w y → wpR R P md ops Q n l a w → wpR R P md ops Q n l a y
  | 0, _, _, _, _, hy, h => ⟨h.1, fun x hx => h.2 x (HR.2 hy hx)⟩
  | _ + 1, _, _, _, _, hy, h => fun x hx => h x (HR.2 hy hx)
theorem wpAny_of_R (HR : Pre9 R) : ∀ (n : Nat) (l : Array Bool) (a : Act) (w : World), wpR R P md ops Q n l a w → wpAny P md ops Q n l a w
  | 0, _, _, w, h => ⟨h.1, h.2 w (HR.1 w)⟩
  | n + 1, _, _, w, h => ⟨(h w (HR.1 w)).1, fun i hi => wpOp_mono (fun a' y hh => wpAny_of_R HR n _ a' y hh.2) ((h w (HR.1 w)).2 i hi)⟩
/-- One value, in every later world; a call may make memory. -/
def YR (R : World → World → Prop) (P : Program) (ops : Array Oper) (o : Oper) (v : Value) (a : Act) (w : World) : Prop :=
  (Region.wanted o (yielded ops a.tmps) = true ∧ ∀ x, R w x → o.quietAt P a (R x) x v) ∨ (Region.wanted o (yielded ops a.tmps) = false ∧ v = undef)
theorem YR.later (HR : Pre9 R) {o : Oper} {v : Value} {a : Act} {w y : World} (h : YR R P ops o v a w) (hy : R w y) : YR R P ops o v a y :=
  h.imp (fun q => ⟨q.1, fun x hx => q.2 x (HR.2 hy hx)⟩) id
theorem YR.same {o : Oper} {v : Value} {a b : Act} {w : World} (h : YR R P ops o v a w) (he : execOp b.eval o = execOp a.eval o) (hw : Region.wanted o (yielded ops b.tmps) = Region.wanted o (yielded ops a.tmps)) : YR R P ops o v b w := by
  unfold YR Oper.quietAt at *
  rw [he, hw]
  exact h
theorem YR.op (HR : Pre9 R) {i : Nat} {o : Oper} {v : Value} {a : Act} {w x : World} {K : Act → World → Prop} (hi : ops[i]? = some o) (h : YR R P ops o v a w) (hx : R w x) (hk : ∀ y, R x y → K (a.put o.dst v) y) : wpOp P ops Q i K a x := by
  unfold wpOp
  rw [hi]
  dsimp only
  rcases h with ⟨hw, hq⟩ | ⟨hw, hv⟩
  · rw [if_pos hw]
    refine Or.inl ?_
    have q := hq x hx
    unfold Oper.quietAt at q
    unfold Oper.wp
    revert q
    cases (execOp a.eval o).run P x with
    | halt _ _ => exact False.elim
    | ok r y =>
      cases r with
      | value u => rintro ⟨rfl, rfl⟩; exact hk _ (HR.1 _)
      | skip => rintro ⟨rfl, rfl⟩; exact hk _ (HR.1 _)
      | enter f args => rintro ⟨rfl, hc⟩; exact hc.mono (by rintro _ z ⟨rfl, hz⟩; exact hk _ hz)
      | _ => exact False.elim
  · rw [if_neg (by rw [hw]; exact Bool.false_ne_true), ← hv]
    exact hk _ (HR.1 _)
/-- An operation beside another that has its value already: the library's law for no world at all, and what the frame may be behind it. -/
theorem op_besideR {j : Nat} {oi oj : Oper} {v : Value} {w : World} (hj : ops[j]? = some oj) (hap : oi.apart ops oj = true) (hsi : ∀ cs b, oi.op ≠ .select cs b) (hsj : ∀ cs b, oj.op ≠ .select cs b)
    (hQ : ∀ c a w, Q (.panic c) (a.put oi.dst v) w → Q (.panic c) a w) {K : Act → World → Prop} {a : Act} {x : World} (hy : YR R P ops oi v a w) (h : wpOp P ops Q j K (a.put oi.dst v) x) :
    wpOp P ops Q j (fun a' y => YR R P ops oi v a' w ∧ K (a'.put oi.dst v) y) a x := by
  have h3 := (Oper.apart_spec hap).2.2
  refine wpOp_mono ?_ (op_frame hj (wpOp_putIf (S := fun _ => False) hj hap hsi hsj hQ (hy.imp (fun q => ⟨q.1, fun _ hf => hf.elim⟩) id) h))
  rintro b y ⟨⟨u, rfl | ⟨f, rfl⟩⟩, -, hk⟩
  · exact ⟨hy.same (execOp_put oi hsi a oj.dst u h3) (wanted_put oi a oj.dst u h3), hk⟩
  · have q : YR R P ops oi v { a with defers := f :: a.defers } w := hy.same rfl rfl
    exact ⟨q.same (execOp_put oi hsi _ oj.dst u h3) (wanted_put oi _ oj.dst u h3), hk⟩
theorem wpR_first (HR : Pre9 R) {i : Nat} {oi : Oper} {v : Value} (hi : ops[i]? = some oi) (hsel : ∀ (j : Nat) (o : Oper) cs b, ops[j]? = some o → o.op ≠ .select cs b) (hQ : ∀ c a w, Q (.panic c) (a.put oi.dst v) w → Q (.panic c) a w) :
    ∀ (n : Nat) (l : Array Bool) (a : Act) (w : World), (∀ j oj, ops[j]? = some oj → j ≠ i → l.getD j true = false → (∀ e ∈ oj.after, Region.binds md e = true → e.on ≠ i) → oi.apart ops oj = true) →
      i ∈ Region.ready md ops l → YR R P ops oi v a w → wpR R P md ops Q n (l.setIfInBounds i true) (a.put oi.dst v) w → wpR R P md ops Q (n + 1) l a w := by
  intro n
  induction n with
  | zero =>
    intro l a w _ hr hy H x hx
    refine ⟨fun h => (by rw [h] at hr; cases hr), fun j hj => ?_⟩
    by_cases hji : j = i
    · subst hji
      exact hy.op HR hi hx fun y hxy => ⟨hxy, wpR_later HR 0 _ _ _ _ (HR.2 hx hxy) H⟩
    · have q := ready_mono hj hji
      rw [H.1] at q
      cases q
  | succ n ih =>
    intro l a w hfree hr hy H x hx
    refine ⟨fun h => (by rw [h] at hr; cases hr), fun j hj => ?_⟩
    by_cases hji : j = i
    · subst hji
      exact hy.op HR hi hx fun y hxy => ⟨hxy, wpR_later HR (n + 1) _ _ _ _ (HR.2 hx hxy) H⟩
    · obtain ⟨hun, oj, hoj, -⟩ := mem_ready.1 hj
      have q := op_besideR hoj (hfree j oj hoj hji hun (ready_free hr hj hoj)) (fun cs b => hsel i oi cs b hi) (fun cs b => hsel j oj cs b hoj) hQ hy ((H x hx).2 j (ready_mono hj hji))
      refine wpOp_mono (fun b y hb => ⟨hb.2.1, ih (l.setIfInBounds j true) b y (fun k ok hk hki hku hno => hfree k ok hk hki ?_ hno) (ready_mono hr (Ne.symm hji)) (hb.1.later HR (HR.2 hx hb.2.1)) ?_⟩) q
      · by_cases hjk : j = k
        · subst hjk; exact hun
        · rw [getD_set_ne true hjk] at hku; exact hku
      · rw [Array.setIfInBounds_comm _ _ hji]
        exact hb.2.2
/-- Take number i: a value. -/
theorem wpR_val (HR : Pre9 R) {L r : List Oper} {i : Nat} {oi : Oper} {v : Value} {n : Nat} {l : Array Bool} {a : Act} {w : World} (hi : L.drop i = oi :: r) (hs : Region.noSelect L.toArray = true) (hf : Region.free md L.toArray l i = true) (hr : (Region.ready md L.toArray l).contains i = true)
    (hQ : ∀ c a w, Q (.panic c) (a.put oi.dst v) w → Q (.panic c) a w) (hw : Region.wanted oi (yielded L.toArray a.tmps) = true) (hy : ∀ x, R w x → (execOp a.eval oi).run P x = .ok (.value v) x)
    (h : wpR R P md L.toArray Q n (l.setIfInBounds i true) (a.put oi.dst v) w) : wpR R P md L.toArray Q (n + 1) l a w :=
  wpR_first HR (at_drop hi) (Region.noSelect_spec hs) hQ n l a w (Region.free_spec (at_drop hi) hf) (by simpa using hr) (Or.inl ⟨hw, fun x hx => by unfold Oper.quietAt; rw [hy x hx]; exact ⟨rfl, rfl⟩⟩) h
/-- Take number i: a call. -/
theorem wpR_call (HR : Pre9 R) {L r : List Oper} {i : Nat} {oi : Oper} {v : Value} {f : FuncId} {args : Array Value} {n : Nat} {l : Array Bool} {a : Act} {w : World} (hi : L.drop i = oi :: r) (hs : Region.noSelect L.toArray = true) (hf : Region.free md L.toArray l i = true) (hr : (Region.ready md L.toArray l).contains i = true)
    (hQ : ∀ c a w, Q (.panic c) (a.put oi.dst v) w → Q (.panic c) a w) (hw : Region.wanted oi (yielded L.toArray a.tmps) = true) (hy : ∀ x, R w x → (execOp a.eval oi).run P x = .ok (.enter f args) x)
    (hc : ∀ x, R w x → Calls P f args x fun e y => e = .returned v ∧ R x y)
    (h : wpR R P md L.toArray Q n (l.setIfInBounds i true) (a.put oi.dst v) w) : wpR R P md L.toArray Q (n + 1) l a w :=
  wpR_first HR (at_drop hi) (Region.noSelect_spec hs) hQ n l a w (Region.free_spec (at_drop hi) hf) (by simpa using hr) (Or.inl ⟨hw, fun x hx => by unfold Oper.quietAt; rw [hy x hx]; exact ⟨rfl, hc x hx⟩⟩) h
/-- Take number i: it is not wanted. -/
theorem wpR_skip (HR : Pre9 R) {L r : List Oper} {i : Nat} {oi : Oper} {n : Nat} {l : Array Bool} {a : Act} {w : World} (hi : L.drop i = oi :: r) (hs : Region.noSelect L.toArray = true) (hf : Region.free md L.toArray l i = true) (hr : (Region.ready md L.toArray l).contains i = true)
    (hQ : ∀ c a w, Q (.panic c) (a.put oi.dst undef) w → Q (.panic c) a w) (hw : Region.wanted oi (yielded L.toArray a.tmps) = false) (h : wpR R P md L.toArray Q n (l.setIfInBounds i true) (a.put oi.dst undef) w) : wpR R P md L.toArray Q (n + 1) l a w :=
  wpR_first HR (at_drop hi) (Region.noSelect_spec hs) hQ n l a w (Region.free_spec (at_drop hi) hf) (by simpa using hr) (Or.inr ⟨hw, rfl⟩) h
/-- One alone may come up: a call. -/
theorem wpR_onecall {L r : List Oper} {i : Nat} {oi : Oper} {f : FuncId} {args : Array Value} {n : Nat} {l : Array Bool} {a : Act} {w : World} (hr : Region.ready md L.toArray l = [i]) (hi : L.drop i = oi :: r) (hw : Region.wanted oi (yielded L.toArray a.tmps) = true)
    (hy : ∀ x, R w x → (execOp a.eval oi).run P x = .ok (.enter f args) x)
    (h : ∀ x, R w x → Calls P f args x fun e y => ∃ v, e = .returned v ∧ R x y ∧ wpR R P md L.toArray Q n (l.setIfInBounds i true) (a.put oi.dst v) y) : wpR R P md L.toArray Q (n + 1) l a w := by
  intro x hx
  rw [hr]
  refine ⟨fun h => (by cases h), fun j hj => ?_⟩
  rw [List.mem_singleton] at hj
  subst hj
  unfold wpOp
  rw [at_drop hi]
  dsimp only
  rw [if_pos hw]
  refine Or.inl ?_
  unfold Oper.wp
  rw [hy x hx]
  refine (h x hx).mono ?_
  rintro e y ⟨v, rfl, hq⟩
  exact hq
/-- One alone may come up: a value, or a box. -/
theorem wpR_one {L r : List Oper} {i : Nat} {oi : Oper} {n : Nat} {l : Array Bool} {a : Act} {w : World} (hr : Region.ready md L.toArray l = [i]) (hi : L.drop i = oi :: r) (hw : Region.wanted oi (yielded L.toArray a.tmps) = true)
    (h : ∀ x, R w x → ∃ (v : Value) (y : World), (execOp a.eval oi).run P x = .ok (.value v) y ∧ R x y ∧ wpR R P md L.toArray Q n (l.setIfInBounds i true) (a.put oi.dst v) y) : wpR R P md L.toArray Q (n + 1) l a w := by
  intro x hx
  rw [hr]
  refine ⟨fun h => (by cases h), fun j hj => ?_⟩
  rw [List.mem_singleton] at hj
  subst hj
  unfold wpOp
  rw [at_drop hi]
  dsimp only
  rw [if_pos hw]
  refine Or.inl ?_
  unfold Oper.wp
  obtain ⟨v, y, h1, h2⟩ := h x hx
  rw [h1]
  exact h2
theorem wpR_done {l : Array Bool} {a : Act} {w : World} (hr : Region.ready md ops l = []) (h : ∀ x, R w x → Q .normal a x) : ∀ n, wpR R P md ops Q n l a w
  | 0 => ⟨hr, h⟩
  | _ + 1 => fun x hx => ⟨fun _ => h x hx, by rw [hr]; simp⟩
theorem wp_region_R (R : World → World → Prop) (HR : Pre9 R) {id : Nat} {a : Act} {w : World} (hm : P.follows .mixedOrders = true) (h : wpR R P .any ops Q ops.size (Array.replicate ops.size false) a w.drew) : (Code.region id ops true).wp P Q a w :=
  wp_region_any hm (wpAny_of_R HR _ _ _ _ h)
end
end Go.Proofs.YtoaifodmjkhiiaaDoor
/- GrwG: A region that draws its order: as GrwD, over any way in which later worlds may be told (written by gen/mkgrwg.py). -/
namespace Go.Proofs.YtoaifodmjkhiiaaDoor
set_option maxRecDepth 100000
open Go.RowKit
section
variable {R : World → World → Prop} {P : Program} {ops : Array Oper} {Q : Exit → Act → World → Prop} {md : Region.Mode} {tl : Nat → Bool}
/-- Whatever order is picked from here on, in whatever later world, until only the last ones are left. -/
def wpE (R : World → World → Prop) (P : Program) (md : Region.Mode) (ops : Array Oper) (Q : Exit → Act → World → Prop) (tl : Nat → Bool) : Nat → Array Bool → Act → World → Prop
  | 0, l, a, w => ∀ x, R w x → wpAny P md ops Q 0 l a x
  | n + 1, l, a, w => (tailedD tl ops l = true ∧ ∀ x, R w x → wpAny P md ops Q (n + 1) l a x) ∨ (∀ x, R w x → (Region.ready md ops l = [] → Q .normal a x) ∧
      ∀ i ∈ Region.ready md ops l, wpOp P ops Q i (fun a' y => R x y ∧ wpE R P md ops Q tl n (l.setIfInBounds i true) a' y) a x)
theorem wpE_later (HR : Pre9 R) : ∀ (n : Nat) (l : Array Bool) (a : Act) (w y : World), R w y → wpE R P md ops Q tl n l a w → wpE R P md ops Q tl n l a y
  | 0, _, _, _, _, hy, h => fun x hx => h x (HR.2 hy hx)
  | _ + 1, _, _, _, _, hy, h => h.imp (fun q => ⟨q.1, fun x hx => q.2 x (HR.2 hy hx)⟩) (fun q x hx => q x (HR.2 hy hx))
theorem wpAny_of_E (HR : Pre9 R) : ∀ (n : Nat) (l : Array Bool) (a : Act) (w : World), wpE R P md ops Q tl n l a w → wpAny P md ops Q n l a w
  | 0, _, _, w, h => h w (HR.1 w)
  | n + 1, _, _, w, h => by
    rcases h with h | h
    · exact h.2 w (HR.1 w)
    · exact ⟨(h w (HR.1 w)).1, fun i hi => wpOp_mono (fun a' y hh => wpAny_of_E HR n _ a' y hh.2) ((h w (HR.1 w)).2 i hi)⟩
theorem wpE_first (HR : Pre9 R) {i : Nat} {oi : Oper} {v : Value} {C : List Nat} (hi : ops[i]? = some oi) (hsel : ∀ (j : Nat) (o : Oper) cs b, ops[j]? = some o → o.op ≠ .select cs b) (hQ : ∀ c a w, Q (.panic c) (a.put oi.dst v) w → Q (.panic c) a w) :
    ∀ (n : Nat) (l : Array Bool) (a : Act) (w : World), waitsD md tl ops l i C = true → (∀ j oj, ops[j]? = some oj → j ≠ i → l.getD j true = false → (∀ e ∈ oj.after, Region.binds md e = true → e.on ≠ i) → oi.apart ops oj = true) →
      i ∈ Region.ready md ops l → YR R P ops oi v a w → wpE R P md ops Q tl n (l.setIfInBounds i true) (a.put oi.dst v) w → wpE R P md ops Q tl (n + 1) l a w := by
  intro n
  induction n with
  | zero =>
    intro l a w _ _ hr hy H
    refine .inr fun x hx => ⟨fun h => (by rw [h] at hr; cases hr), fun j hj => ?_⟩
    by_cases hji : j = i
    · subst hji
      exact hy.op HR hi hx fun y hxy => ⟨hxy, wpE_later HR 0 _ _ _ _ (HR.2 hx hxy) H⟩
    · have q := ready_mono hj hji
      rw [(H w (HR.1 w)).1] at q
      cases q
  | succ n ih =>
    intro l a w hwt hfree hr hy H
    refine .inr fun x hx => ⟨fun h => (by rw [h] at hr; cases hr), fun j hj => ?_⟩
    by_cases hji : j = i
    · subst hji
      exact hy.op HR hi hx fun y hxy => ⟨hxy, wpE_later HR (n + 1) _ _ _ _ (HR.2 hx hxy) H⟩
    · obtain ⟨hun, oj, hoj, -⟩ := mem_ready.1 hj
      have hjC : j ∉ C := fun hc => waitsD_spec hwt (mem_ready.1 hr).1 j hc hj
      rcases H with H | H
      · have hju : (l.setIfInBounds i true).getD j true = false := by rw [getD_set_ne true (Ne.symm hji)]; exact hun
        have hjs := (Array.getElem?_eq_some_iff.1 hoj).1
        have hjm := tailedD_spec H.1 hju hjs
        exact absurd (waitsD_last hwt hjm hun hjs) hjC
      · have q := op_besideR hoj (hfree j oj hoj hji hun (ready_free hr hj hoj)) (fun cs b => hsel i oi cs b hi) (fun cs b => hsel j oj cs b hoj) hQ hy ((H x hx).2 j (ready_mono hj hji))
        refine wpOp_mono (fun b y hb => ⟨hb.2.1, ih (l.setIfInBounds j true) b y (waitsD_step hwt hjC) (fun k ok hk hki hku hno => hfree k ok hk hki ?_ hno) (ready_mono hr (Ne.symm hji)) (hb.1.later HR (HR.2 hx hb.2.1)) ?_⟩) q
        · by_cases hjk : j = k
          · subst hjk; exact hun
          · rw [getD_set_ne true hjk] at hku; exact hku
        · rw [Array.setIfInBounds_comm _ _ hji]
          exact hb.2.2
theorem wpE_tail {l : Array Bool} {a : Act} {w : World} (ht : tailedD tl ops l = true) : ∀ {n : Nat}, (∀ x, R w x → wpAny P md ops Q n l a x) → wpE R P md ops Q tl n l a w
  | 0, h => h
  | _ + 1, h => .inl ⟨ht, h⟩
theorem wpE_done {l : Array Bool} {a : Act} {w : World} (hr : Region.ready md ops l = []) (h : ∀ x, R w x → Q .normal a x) : ∀ n, wpE R P md ops Q tl n l a w
  | 0 => fun x hx => ⟨hr, h x hx⟩
  | _ + 1 => .inr fun x hx => ⟨fun _ => h x hx, by rw [hr]; simp⟩
theorem wp_region_E (R : World → World → Prop) (HR : Pre9 R) {id : Nat} {a : Act} {w : World} (tl : Nat → Bool) (hm : P.follows .mixedOrders = true) (h : wpE R P .any ops Q tl ops.size (Array.replicate ops.size false) a w.drew) : (Code.region id ops true).wp P Q a w :=
  wp_region_any hm (wpAny_of_E HR _ _ _ _ h)
end
section
variable {R : World → World → Prop} {P : Program} {Q : Exit → Act → World → Prop} {md : Region.Mode} {tl : Nat → Bool}
/-- Take number i: a value. -/
theorem wpE_val (HR : Pre9 R) {L r : List Oper} {i : Nat} {oi : Oper} {v : Value} {n : Nat} {l : Array Bool} {a : Act} {w : World} (hi : L.drop i = oi :: r) (hs : Region.noSelect L.toArray = true) (hf : Region.free md L.toArray l i = true) (hr : (Region.ready md L.toArray l).contains i = true) (ht : waitsD md tl L.toArray l i (clo md L.toArray l i) = true)
    (hQ : ∀ c a w, Q (.panic c) (a.put oi.dst v) w → Q (.panic c) a w) (hw : Region.wanted oi (yielded L.toArray a.tmps) = true) (hy : ∀ x, R w x → (execOp a.eval oi).run P x = .ok (.value v) x)
    (h : wpE R P md L.toArray Q tl n (l.setIfInBounds i true) (a.put oi.dst v) w) : wpE R P md L.toArray Q tl (n + 1) l a w :=
  wpE_first HR (at_drop hi) (Region.noSelect_spec hs) hQ n l a w ht (Region.free_spec (at_drop hi) hf) (by simpa using hr) (Or.inl ⟨hw, fun x hx => by unfold Oper.quietAt; rw [hy x hx]; exact ⟨rfl, rfl⟩⟩) h
/-- Take number i: a call. -/
theorem wpE_call (HR : Pre9 R) {L r : List Oper} {i : Nat} {oi : Oper} {v : Value} {f : FuncId} {args : Array Value} {n : Nat} {l : Array Bool} {a : Act} {w : World} (hi : L.drop i = oi :: r) (hs : Region.noSelect L.toArray = true) (hf : Region.free md L.toArray l i = true) (hr : (Region.ready md L.toArray l).contains i = true) (ht : waitsD md tl L.toArray l i (clo md L.toArray l i) = true)
    (hQ : ∀ c a w, Q (.panic c) (a.put oi.dst v) w → Q (.panic c) a w) (hw : Region.wanted oi (yielded L.toArray a.tmps) = true) (hy : ∀ x, R w x → (execOp a.eval oi).run P x = .ok (.enter f args) x)
    (hc : ∀ x, R w x → Calls P f args x fun e y => e = .returned v ∧ R x y)
    (h : wpE R P md L.toArray Q tl n (l.setIfInBounds i true) (a.put oi.dst v) w) : wpE R P md L.toArray Q tl (n + 1) l a w :=
  wpE_first HR (at_drop hi) (Region.noSelect_spec hs) hQ n l a w ht (Region.free_spec (at_drop hi) hf) (by simpa using hr) (Or.inl ⟨hw, fun x hx => by unfold Oper.quietAt; rw [hy x hx]; exact ⟨rfl, hc x hx⟩⟩) h
/-- Take number i: it is not wanted. -/
theorem wpE_skip (HR : Pre9 R) {L r : List Oper} {i : Nat} {oi : Oper} {n : Nat} {l : Array Bool} {a : Act} {w : World} (hi : L.drop i = oi :: r) (hs : Region.noSelect L.toArray = true) (hf : Region.free md L.toArray l i = true) (hr : (Region.ready md L.toArray l).contains i = true) (ht : waitsD md tl L.toArray l i (clo md L.toArray l i) = true)
    (hQ : ∀ c a w, Q (.panic c) (a.put oi.dst undef) w → Q (.panic c) a w) (hw : Region.wanted oi (yielded L.toArray a.tmps) = false)
    (h : wpE R P md L.toArray Q tl n (l.setIfInBounds i true) (a.put oi.dst undef) w) : wpE R P md L.toArray Q tl (n + 1) l a w :=
  wpE_first HR (at_drop hi) (Region.noSelect_spec hs) hQ n l a w ht (Region.free_spec (at_drop hi) hf) (by simpa using hr) (Or.inr ⟨hw, rfl⟩) h
/-- One alone may come up, and answers a value; memory may be made. -/
theorem wpE_one {L r : List Oper} {i : Nat} {oi : Oper} {n : Nat} {l : Array Bool} {a : Act} {w : World} (hr : Region.ready md L.toArray l = [i]) (hi : L.drop i = oi :: r) (hw : Region.wanted oi (yielded L.toArray a.tmps) = true)
    (h : ∀ x, R w x → ∃ (v : Value) (y : World), (execOp a.eval oi).run P x = .ok (.value v) y ∧ R x y ∧ wpE R P md L.toArray Q tl n (l.setIfInBounds i true) (a.put oi.dst v) y) : wpE R P md L.toArray Q tl (n + 1) l a w := by
  refine .inr fun x hx => ?_
  rw [hr]
  refine ⟨fun h => (by cases h), fun j hj => ?_⟩
  rw [List.mem_singleton] at hj
  subst hj
  obtain ⟨v, y, h1, h2, h3⟩ := h x hx
  unfold wpOp
  rw [at_drop hi]
  dsimp only
  rw [if_pos hw]
  refine Or.inl ?_
  unfold Oper.wp
  rw [h1]
  exact ⟨h2, h3⟩
/-- One alone may come up: a call that answers what it likes and only makes memory. -/
theorem wpE_onecall {L r : List Oper} {i : Nat} {oi : Oper} {f : FuncId} {args : Array Value} {n : Nat} {l : Array Bool} {a : Act} {w : World} (hr : Region.ready md L.toArray l = [i]) (hi : L.drop i = oi :: r) (hw : Region.wanted oi (yielded L.toArray a.tmps) = true)
    (hy : ∀ x, R w x → (execOp a.eval oi).run P x = .ok (.enter f args) x)
    (h : ∀ x, R w x → Calls P f args x fun e y => ∃ v, e = .returned v ∧ R x y ∧ wpE R P md L.toArray Q tl n (l.setIfInBounds i true) (a.put oi.dst v) y) : wpE R P md L.toArray Q tl (n + 1) l a w := by
  refine .inr fun x hx => ?_
  rw [hr]
  refine ⟨fun h => (by cases h), fun j hj => ?_⟩
  rw [List.mem_singleton] at hj
  subst hj
  unfold wpOp
  rw [at_drop hi]
  dsimp only
  rw [if_pos hw]
  refine Or.inl ?_
  unfold Oper.wp
  rw [hy x hx]
  exact (h x hx).mono (by rintro e y ⟨v, rfl, h1, h2⟩; exact ⟨h1, h2⟩)
/-- One of the last ones that is a value in every world is taken first. -/
theorem wpE_purely (HR : Pre9 R) {ops : Array Oper} {i : Nat} {oi : Oper} {v : Value} (hi : ops[i]? = some oi) (hti : tl i = true) (hsel : ∀ (j : Nat) (o : Oper) cs b, ops[j]? = some o → o.op ≠ .select cs b) (hQ : ∀ c a w, Q (.panic c) (a.put oi.dst v) w → Q (.panic c) a w) :
    ∀ (n : Nat) (l : Array Bool) (a : Act) (w : World), (∀ j oj, ops[j]? = some oj → j ≠ i → l.getD j true = false → (∀ e ∈ oj.after, Region.binds md e = true → e.on ≠ i) → oi.apart ops oj = true) →
      i ∈ Region.ready md ops l → Region.wanted oi (yielded ops a.tmps) = true → (∀ x, (execOp a.eval oi).run P x = .ok (.value v) x) → wpE R P md ops Q tl n (l.setIfInBounds i true) (a.put oi.dst v) w → wpE R P md ops Q tl (n + 1) l a w := by
  have htail : ∀ {l : Array Bool}, tailedD tl ops (l.setIfInBounds i true) = true → tailedD tl ops l = true := fun {l} h => by
    unfold tailedD at h ⊢
    refine List.all_eq_true.2 fun j hj => ?_
    by_cases e : i = j
    · subst e
      rw [hti, Bool.or_true]
    · have := List.all_eq_true.1 h j hj
      rw [getD_set_ne true e] at this
      exact this
  intro n
  induction n with
  | zero =>
    intro l a w _ hr hw hy H
    refine .inr fun x hx => ⟨fun h => (by rw [h] at hr; cases hr), fun j hj => ?_⟩
    by_cases hji : j = i
    · subst hji
      have hyl : YR R P ops oi v a w := Or.inl ⟨hw, fun x _ => by unfold Oper.quietAt; rw [hy x]; exact ⟨rfl, rfl⟩⟩
      exact hyl.op HR hi hx fun y hxy => ⟨hxy, wpE_later HR 0 _ _ _ _ (HR.2 hx hxy) H⟩
    · have q := ready_mono hj hji
      rw [(H w (HR.1 w)).1] at q
      cases q
  | succ n ih =>
    intro l a w hfree hr hw hy H
    rcases H with H | H
    · exact .inl ⟨htail H.1, fun x hx => wpA_first hi hsel hQ _ l a x hfree hr hw hy (H.2 x hx)⟩
    · have hyl : YR R P ops oi v a w := Or.inl ⟨hw, fun x _ => by unfold Oper.quietAt; rw [hy x]; exact ⟨rfl, rfl⟩⟩
      refine .inr fun x hx => ⟨fun h => (by rw [h] at hr; cases hr), fun j hj => ?_⟩
      by_cases hji : j = i
      · subst hji
        exact hyl.op HR hi hx fun y hxy => ⟨hxy, wpE_later HR (n + 1) _ _ _ _ (HR.2 hx hxy) (.inr H)⟩
      · obtain ⟨hun, oj, hoj, -⟩ := mem_ready.1 hj
        have hap := hfree j oj hoj hji hun (ready_free hr hj hoj)
        have h3 := (Oper.apart_spec hap).2.2
        have q := op_frame hoj (wpOp_putIf (S := fun _ => False) hoj hap (fun cs b => hsel i oi cs b hi) (fun cs b => hsel j oj cs b hoj) hQ (Or.inl ⟨hw, fun _ hf => hf.elim⟩) ((H x hx).2 j (ready_mono hj hji)))
        refine wpOp_mono ?_ q
        have step : ∀ (b : Act) (y : World), R x y → execOp b.eval oi = execOp a.eval oi → Region.wanted oi (yielded ops b.tmps) = Region.wanted oi (yielded ops a.tmps) → wpE R P md ops Q tl n ((l.setIfInBounds i true).setIfInBounds j true) (b.put oi.dst v) y → R x y ∧ wpE R P md ops Q tl (n + 1) (l.setIfInBounds j true) b y := fun b y hl e1 e2 hk => by
          refine ⟨hl, ih (l.setIfInBounds j true) b y (fun k ok hk hki hku hno => hfree k ok hk hki ?_ hno) (ready_mono hr (Ne.symm hji)) (by rw [e2]; exact hw) (fun x => by rw [e1]; exact hy x) ?_⟩
          · by_cases hjk : j = k
            · subst hjk; exact hun
            · rw [getD_set_ne true hjk] at hku; exact hku
          · rw [Array.setIfInBounds_comm _ _ hji]
            exact hk
        rintro b y ⟨⟨u, rfl | ⟨f, rfl⟩⟩, -, hl, hk⟩
        · exact step _ _ hl (execOp_put oi (fun cs b => hsel i oi cs b hi) a oj.dst u h3) (wanted_put oi a oj.dst u h3) hk
        · exact step _ _ hl (execOp_put oi (fun cs b => hsel i oi cs b hi) { a with defers := f :: a.defers } oj.dst u h3) (wanted_put oi { a with defers := f :: a.defers } oj.dst u h3) hk
theorem wpE_pure (HR : Pre9 R) {L r : List Oper} {i : Nat} {oi : Oper} {v : Value} {n : Nat} {l : Array Bool} {a : Act} {w : World} (hi : L.drop i = oi :: r) (hti : tl i = true) (hs : Region.noSelect L.toArray = true) (hf : Region.free md L.toArray l i = true) (hr : (Region.ready md L.toArray l).contains i = true)
    (hQ : ∀ c a w, Q (.panic c) (a.put oi.dst v) w → Q (.panic c) a w) (hw : Region.wanted oi (yielded L.toArray a.tmps) = true) (hy : ∀ x, (execOp a.eval oi).run P x = .ok (.value v) x)
    (h : wpE R P md L.toArray Q tl n (l.setIfInBounds i true) (a.put oi.dst v) w) : wpE R P md L.toArray Q tl (n + 1) l a w :=
  wpE_purely HR (at_drop hi) hti (Region.noSelect_spec hs) hQ n l a w (Region.free_spec (at_drop hi) hf) (by simpa using hr) hw hy h
end
end Go.Proofs.YtoaifodmjkhiiaaDoor
/- DrSd: A draw under way: stretches of memory, and the cursor apart from them, which turns. -/
namespace Go.Proofs.YtoaifodmjkhiiaaDoor
set_option maxRecDepth 100000
open Go.RowKit

/-- Only the cursor's block turns, and it stays a cursor. -/
def Dr (g B : Nat) (a : Option Addr) (len cap : Nat) (x y : World) : Prop := x.grownBy y (some g) ∧ (Cur x g B a len cap → Cur y g B a len cap)
theorem Dr.pre (g B : Nat) (a : Option Addr) (len cap : Nat) : Pre9 (Dr g B a len cap) :=
  ⟨fun _ => ⟨gb_below (Below.refl _ _), id⟩, fun h k => ⟨gb_two h.1 k.1, fun c => k.2 (h.2 c)⟩⟩
structure SD (w0 W : World) (g B : Nat) (a : Option Addr) (len cap : Nat) (S : List Str) : Prop where
  sl : SL w0 W S
  cur : Cur W g B a len cap
  far : ∀ s ∈ S, s.hi ≤ g ∨ g < s.lo
  hg : w0.heap.size ≤ g
  hB : B ≤ w0.heap.size
section
variable {w0 W W' : World} {g B len cap : Nat} {a : Option Addr} {S : List Str} {s : Str}
theorem SD.draw (h : SD w0 W g B a len cap S) (hd : Dr g B a len cap W W') : SD w0 W' g B a len cap S :=
  ⟨h.sl.grown hd.1 (fun q e => by cases e; exact ⟨h.hg, h.far⟩), hd.2 h.cur, h.far, h.hg, h.hB⟩
theorem SD.below (h : SD w0 W g B a len cap S) (hb : Below W.heap.size W W') : SD w0 W' g B a len cap S := ⟨h.sl.below hb, h.cur.below hb, h.far, h.hg, h.hB⟩
theorem SD.dr_below (_ : SD w0 W g B a len cap S) (hb : Below W.heap.size W W') : Dr g B a len cap W W' := ⟨gb_below hb, fun c => c.below hb⟩
theorem SD.add (h : SD w0 W g B a len cap S) (hb : Below W.heap.size W W') (hp : s.p W') (hl : s.Loc) (h1 : W.heap.size ≤ s.lo) (h2 : s.hi ≤ W'.heap.size) : SD w0 W' g B a len cap (s :: S) :=
  ⟨h.sl.add hb hp hl h1 h2, h.cur.below hb, fun x hx => by
    rcases List.mem_cons.1 hx with rfl | hx
    · exact .inr (by have := h.cur.2.1; omega)
    · exact h.far x hx, h.hg, h.hB⟩
theorem SD.new (h : SD w0 W g B a len cap S) (cs : Array Value) (t : TypeId) : SD w0 (W.alloc (.cells cs t)) g B a len cap (bxS W.heap.size cs.toList :: S) :=
  h.add ((Below.refl _ _).alloc (Nat.le_refl _) _) (wcells_new W cs t) (bxS.loc _ _) (Nat.le_refl _) (by simp)
theorem SD.tail (h : SD w0 W g B a len cap (s :: S)) : SD w0 W g B a len cap S := ⟨h.sl.tail, h.cur, fun x hx => h.far x (List.mem_cons_of_mem _ hx), h.hg, h.hB⟩
theorem SD.put (h : SD w0 W g B a len cap S) (i : Nat) {b : Nat} {X : List Value} (hs : S[i]? = some (bxS b X)) (j : Nat) (v : Value) (hj : j < X.length) : SD w0 (W.setCell ⟨b, j, none⟩ v) g B a len cap (S.set i (bxS b (X.set j v))) := by
  have hm := List.mem_of_getElem? hs
  have hf := h.far _ hm
  have hlo := (h.sl.is _ hm).2.2.1
  dsimp only [bxS] at hf hlo
  have hbg : b ≠ g := by omega
  refine ⟨h.sl.put i hs j v hj, ?_, fun x hx => ?_, h.hg, h.hB⟩
  · obtain ⟨h1, h2, h3, h4, ⟨k, h5, h5'⟩, ⟨q, h6⟩, h7⟩ := h.cur
    have oth : ∀ z, (W.setCell ⟨b, j, none⟩ v).cell? ⟨g, z, none⟩ = W.cell? ⟨g, z, none⟩ := fun z => World.cell?_of_block (Below.heap_setCell W ⟨b, j, none⟩ v g (fun e => hbg e.symm))
    exact ⟨h1, by simpa [World.setCell] using h2, h3.gb (gb_set W b j v) (Nat.le_trans h.hB hlo), (oth 0).trans h4, ⟨k, (oth 1).trans h5, h5'⟩, ⟨q, (oth 2).trans h6⟩, fun z hz => (World.frozen?_setCell _ _ _ _).trans (h7 z hz)⟩
  · obtain ⟨k, hk, rfl⟩ := List.getElem_of_mem hx
    rw [List.length_set] at hk
    by_cases ek : k = i
    · subst ek
      rw [List.getElem_set_self]
      exact hf
    · rw [List.getElem_set_ne (Ne.symm ek)]
      exact h.far _ (List.getElem_mem hk)
theorem SD.bx (h : SD w0 W g B a len cap S) (i : Nat) {b : Nat} {X : List Value} (hs : S[i]? = some (bxS b X)) (j : Nat) (v : Value) (hv : X[j]? = some v) : W.cell? ⟨b, j, none⟩ = some v ∧ W.frozen? ⟨b, j, none⟩ = false := h.sl.bx i hs j v hv
/-- One stretch is left out. -/
theorem SD.drop1 {t : Str} (h : SD w0 W g B a len cap (s :: t :: S)) : SD w0 W g B a len cap (s :: S) :=
  ⟨⟨h.sl.bel, fun x hx => h.sl.is x (by rcases List.mem_cons.1 hx with rfl | hx; exact List.mem_cons_self ..; exact List.mem_cons_of_mem _ (List.mem_cons_of_mem _ hx)), by
    have h1 := List.pairwise_cons.1 h.sl.apart
    exact List.pairwise_cons.2 ⟨fun x hx => h1.1 x (List.mem_cons_of_mem _ hx), (List.pairwise_cons.1 h1.2).2⟩⟩, h.cur, fun x hx => h.far x (by rcases List.mem_cons.1 hx with rfl | hx; exact List.mem_cons_self ..; exact List.mem_cons_of_mem _ (List.mem_cons_of_mem _ hx)), h.hg, h.hB⟩
theorem SD.swap {t : Str} (h : SD w0 W g B a len cap (s :: t :: S)) : SD w0 W g B a len cap (t :: s :: S) :=
  ⟨h.sl.swap, h.cur, fun x hx => h.far x (by simp only [List.mem_cons] at hx ⊢; rcases hx with h | h | h <;> simp [h]), h.hg, h.hB⟩
theorem SD.pick (h : SD w0 W g B a len cap S) (n : Int) (hn : n ≤ 9223372036854775807) : Calls Tryd.prog 45 #[.pointer (some ⟨g, 0, none⟩), .int .i64 n] W fun e W' => ∃ y : Int, e = .returned (.int .i64 y) ∧ 0 ≤ y ∧ (y < n ∨ y = 0) ∧ Dr g B a len cap W W' := by
  refine (l01Below_any W g B a len cap n hn h.cur).mono ?_
  rintro e w5 ⟨y, rfl, y0, y1, hc5, hg5⟩
  exact ⟨y, rfl, y0, y1, hg5, fun _ => hc5⟩
theorem SD.once (h : SD w0 W g B a len cap S) (n : Int) (hn : n ≤ 9223372036854775807) : Calls Tryd.prog 44 #[.pointer (some ⟨g, 0, none⟩), .int .i64 n] W fun e W' => ∃ y : Bool, e = .returned (.bool y) ∧ Dr g B a len cap W W' := by
  refine (l01Once_any W g B a len cap n hn h.cur).mono ?_
  rintro e w5 ⟨y, rfl, hc5, hg5⟩
  exact ⟨y, rfl, hg5, fun _ => hc5⟩
theorem SD.text (h : SD w0 W g B a len cap S) (n : Nat) (hn : n ≤ 5000) : Calls Tryd.prog 46 #[.pointer (some ⟨g, 0, none⟩), .int .i64 n] W fun e W' => ∃ t : ByteArray, e = .returned (.string t) ∧ t.size = n ∧ Dr g B a len cap W W' := by
  refine (l01Text_len W g B a len cap n hn h.cur).mono ?_
  rintro e w5 ⟨t, rfl, ht, hc5, hg5⟩
  exact ⟨t, rfl, ht, hg5, fun _ => hc5⟩
end
end Go.Proofs.YtoaifodmjkhiiaaDoor
/- GenA: Rows of elements of which each one holds a row of its own, in memory: one that is read, one that may be written. Nothing of the program is read here. -/
namespace Go.Proofs.YtoaifodmjkhiiaaDoor
set_option maxRecDepth 100000
open Go.RowKit

/-- A kind of such elements: how one is laid into cells, where its own row lies, and what that row holds. -/
structure NK (R : Type) where
  enc : R → List Value
  sz : Nat
  len : ∀ r, (enc r).length = sz
  loc : R → Option Addr
  inn : R → List Value
def NK.cells {R : Type} (K : NK R) (rs : List R) : List Value := rs.flatMap K.enc
theorem NK.cells_len {R : Type} (K : NK R) (rs : List R) : (K.cells rs).length = rs.length * K.sz := flat_len K.len rs
theorem NK.cells_get {R : Type} (K : NK R) (rs : List R) (j : Nat) (h : j < rs.length) (i : Nat) (hi : i < K.sz) : (K.cells rs)[j * K.sz + i]? = (K.enc rs[j])[i]? := flat_get K.len rs j h i hi
/-- Such a row, as it is read. -/
def GR {R : Type} (K : NK R) (w : World) (a : Option Addr) (rs : List R) (lo hi : Nat) : Prop := RRow w a (K.cells rs) lo hi ∧ ∀ r ∈ rs, RRow w (K.loc r) (K.inn r) lo hi
theorem GR.turned {R : Type} {K : NK R} {w w' : World} {a : Option Addr} {rs : List R} {lo hi lo' hi' : Nat} (h : GR K w a rs lo hi) (t : Turned w w' lo' hi') (hd : hi ≤ lo' ∨ hi' ≤ lo) : GR K w' a rs lo hi := ⟨h.1.turned t hd, fun r hr => (h.2 r hr).turned t hd⟩
theorem GR.below {R : Type} {K : NK R} {w w' : World} {a : Option Addr} {rs : List R} {lo hi : Nat} (h : GR K w a rs lo hi) (hb : Below w.heap.size w w') : GR K w' a rs lo hi := ⟨h.1.below hb, fun r hr => (h.2 r hr).below hb⟩
theorem GR.wide {R : Type} {K : NK R} {w : World} {a : Option Addr} {rs : List R} {lo hi lo' hi' : Nat} (h : GR K w a rs lo hi) (h1 : lo' ≤ lo) (h2 : hi ≤ hi') : GR K w a rs lo' hi' := ⟨h.1.wide h1 h2, fun r hr => (h.2 r hr).wide h1 h2⟩
theorem GR.nil {R : Type} (K : NK R) (w : World) (a : Option Addr) (lo hi : Nat) : GR K w a [] lo hi := ⟨fun h => by simp [NK.cells] at h, by simp⟩
/-- Where it lies, and its cells. -/
theorem GR.at {R : Type} {K : NK R} {w : World} {a : Option Addr} {rs : List R} {lo hi : Nat} (h : GR K w a rs lo hi) (hp : 0 < rs.length) (hz : 0 < K.sz) :
    ∃ b off, a = some ⟨b, off, none⟩ ∧ b < w.heap.size ∧ ∀ j (hj : j < rs.length) i v, (K.enc rs[j])[i]? = some v → w.cell? ⟨b, off + (j * K.sz + i), none⟩ = some v := by
  obtain ⟨b, off, e, _, _, h3, h4⟩ := h.1 (by rw [K.cells_len]; exact Nat.mul_pos hp hz)
  refine ⟨b, off, e, h3, fun j hj i v hv => h4 _ v ?_⟩
  have hi : i < K.sz := by have := (List.getElem?_eq_some_iff.1 hv).1; rw [K.len] at this; exact this
  rw [K.cells_get rs j hj i hi]; exact hv
/-- Such a row that may be written: each one's own row in a block of its own, all in a range. -/
structure GW {R : Type} (K : NK R) (w : World) (g : Nat) (rs : List R) (lo hi : Nat) : Prop where
  out : WCells w g (K.cells rs)
  glo : lo ≤ g
  ghi : g < hi
  rows : ∀ r ∈ rs, K.inn r = [] ∨ ∃ b, K.loc r = some ⟨b, 0, none⟩ ∧ lo ≤ b ∧ b < hi ∧ b ≠ g ∧ WCells w b (K.inn r)
  apart : rs.Pairwise fun r s => K.inn r ≠ [] → K.inn s ≠ [] → K.loc r ≠ K.loc s
theorem GW.gr {R : Type} {K : NK R} {w : World} {g : Nat} {rs : List R} {lo hi : Nat} (h : GW K w g rs lo hi) : GR K w (some ⟨g, 0, none⟩) rs lo hi :=
  ⟨RRow.of_wcells h.out h.glo h.ghi, fun r hr => by
    rcases h.rows r hr with e | ⟨b, e, h1, h2, _, h3⟩
    · rw [e]; intro hp; simp at hp
    · rw [e]; exact RRow.of_wcells h3 h1 h2⟩
theorem GW.turned {R : Type} {K : NK R} {w w' : World} {g : Nat} {rs : List R} {lo hi lo' hi' : Nat} (h : GW K w g rs lo hi) (t : Turned w w' lo' hi') (hd : hi ≤ lo' ∨ hi' ≤ lo) : GW K w' g rs lo hi :=
  ⟨h.out.turned t (by have := h.glo; have := h.ghi; omega), h.glo, h.ghi, fun r hr => by
    rcases h.rows r hr with e | ⟨b, e, h1, h2, h3, h4⟩
    · exact .inl e
    · exact .inr ⟨b, e, h1, h2, h3, h4.turned t (by omega)⟩, h.apart⟩
theorem GW.below {R : Type} {K : NK R} {w w' : World} {g : Nat} {rs : List R} {lo hi : Nat} (h : GW K w g rs lo hi) (hb : Below w.heap.size w w') : GW K w' g rs lo hi :=
  ⟨h.out.below hb h.out.1, h.glo, h.ghi, fun r hr => by
    rcases h.rows r hr with e | ⟨b, e, h1, h2, h3, h4⟩
    · exact .inl e
    · exact .inr ⟨b, e, h1, h2, h3, h4.below hb h4.1⟩, h.apart⟩
theorem GW.wide {R : Type} {K : NK R} {w : World} {g : Nat} {rs : List R} {lo hi lo' hi' : Nat} (h : GW K w g rs lo hi) (h1 : lo' ≤ lo) (h2 : hi ≤ hi') : GW K w g rs lo' hi' :=
  ⟨h.out, Nat.le_trans h1 h.glo, Nat.lt_of_lt_of_le h.ghi h2, fun r hr => by
    rcases h.rows r hr with e | ⟨b, e, q1, q2, q3, q4⟩
    · exact .inl e
    · exact .inr ⟨b, e, by omega, by omega, q3, q4⟩, h.apart⟩
theorem WCells.setW_other {w : World} {g b : Nat} {L : List Value} (h : WCells w b L) (hne : b ≠ g) (off : Nat) (vs : List Value) : WCells (Go.Proofs.YtoaifodmjkhiiaaDoor.setW w g off vs) b L := by
  induction vs generalizing w off with
  | nil => exact h
  | cons v vs ih => exact ih (h.other ⟨g, off, none⟩ v hne) _
/-- An element is laid anew. -/
theorem GW.put {R : Type} {K : NK R} {w : World} {g : Nat} {rs : List R} {lo hi : Nat} (h : GW K w g rs lo hi) (j : Nat) (hj : j < rs.length) (r : R) (hr : K.inn r = [] ∨ ∃ b, K.loc r = some ⟨b, 0, none⟩ ∧ lo ≤ b ∧ b < hi ∧ b ≠ g ∧ WCells w b (K.inn r))
    (hap : ∀ s ∈ rs, K.inn s ≠ [] → K.inn r ≠ [] → K.loc s ≠ K.loc r) : GW K (Go.Proofs.YtoaifodmjkhiiaaDoor.setW w g (j * K.sz) (K.enc r)) g (rs.set j r) lo hi := by
  refine ⟨h.out.setElem K.len j hj r, h.glo, h.ghi, fun s hs => ?_, ?_⟩
  · rcases List.mem_or_eq_of_mem_set hs with q | q
    · rcases h.rows s q with e | ⟨b, e, q1, q2, q3, q4⟩
      · exact .inl e
      · exact .inr ⟨b, e, q1, q2, q3, q4.setW_other q3 _ _⟩
    · subst q
      rcases hr with e | ⟨b, e, q1, q2, q3, q4⟩
      · exact .inl e
      · exact .inr ⟨b, e, q1, q2, q3, q4.setW_other q3 _ _⟩
  · have ha := List.pairwise_iff_getElem.1 h.apart
    refine List.pairwise_iff_getElem.2 (fun a b ha' hb' hab h1 h2 => ?_)
    rw [List.length_set] at ha' hb'
    rw [List.getElem_set] at h1 ⊢
    rw [List.getElem_set] at h2 ⊢
    by_cases ea : j = a
    · by_cases eb : j = b
      · omega
      · rw [if_pos ea] at h1 ⊢
        rw [if_neg eb] at h2 ⊢
        exact (hap _ (List.getElem_mem hb') h2 h1).symm
    · rw [if_neg ea] at h1 ⊢
      by_cases eb : j = b
      · rw [if_pos eb] at h2 ⊢
        exact hap _ (List.getElem_mem ha') h1 h2
      · rw [if_neg eb] at h2 ⊢
        exact ha a b ha' hb' hab h1 h2
/-- A fact on a world, in place of how it came to be. -/
theorem body_shade {P : Program} {f : Func} {R : Ending → World → Prop} {x : Exit} {a : Act} {W : World} (p : World → Prop) (h : p W) (k : ∀ W', p W' → bodyPost P f R x a W') : bodyPost P f R x a W := k W h
theorem wp_shade {P : Program} {c : Code} {Q : Exit → Act → World → Prop} {a : Act} {W : World} (p : World → Prop) (h : p W) (k : ∀ W', p W' → Code.wp P c Q a W') : Code.wp P c Q a W := k W h
end Go.Proofs.YtoaifodmjkhiiaaDoor
/- TreA: Trees, plain, and in memory. -/
namespace Go.Proofs.YtoaifodmjkhiiaaDoor
set_option maxRecDepth 100000
open Go.RowKit

/-- A piece. -/
structure PM where
  group : Int
  len : Int
instance : Inhabited PM := ⟨⟨0, 0⟩⟩
abbrev pv (p : PM) : Value := .agg #[.int .i64 p.group, .int .i64 p.len]
def pcells (p : PM) : List Value := [.int .i64 p.group, .int .i64 p.len]
theorem pcells_len (p : PM) : (pcells p).length = 2 := rfl
def pcs (ps : List PM) : List Value := ps.flatMap pcells
theorem pcs_len (ps : List PM) : (pcs ps).length = ps.length * 2 := flat_len pcells_len ps
theorem pcs_nil {ps : List PM} : pcs ps = [] ↔ ps = [] := by
  cases ps with
  | nil => simp [pcs]
  | cons p ps => simp [pcs, pcells]
/-- A node. -/
structure NM where
  id : Int
  parent : Int
  name : ByteArray
  dir : Bool
  schema : Int
  quota : Int
  len : Int
  pieces : List PM
  writer : Int
instance : Inhabited NM := ⟨⟨0, 0, ⟨#[]⟩, false, 0, 0, 0, [], 0⟩⟩
/-- A node in memory: what it is, and where its pieces lie. -/
structure NR where
  nd : NM
  loc : Option Addr
  cap : Nat
instance : Inhabited NR := ⟨⟨default, none, 0⟩⟩
abbrev nv (r : NR) : Value := .agg #[.int .i64 r.nd.id, .int .i64 r.nd.parent, .string r.nd.name, .bool r.nd.dir, .int .i64 r.nd.schema, .int .i64 r.nd.quota, .int .i64 r.nd.len, .slice r.loc r.nd.pieces.length r.cap, .int .i64 r.nd.writer]
def ncells (r : NR) : List Value := [.int .i64 r.nd.id, .int .i64 r.nd.parent, .string r.nd.name, .bool r.nd.dir, .int .i64 r.nd.schema, .int .i64 r.nd.quota, .int .i64 r.nd.len, .slice r.loc r.nd.pieces.length r.cap, .int .i64 r.nd.writer]
theorem ncells_len (r : NR) : (ncells r).length = 9 := rfl
/-- Nodes as elements that hold a row each. -/
abbrev NKind : NK NR := ⟨ncells, 9, ncells_len, NR.loc, fun r => pcs r.nd.pieces⟩
def ncs (rs : List NR) : List Value := rs.flatMap ncells
theorem ncs_len (rs : List NR) : (ncs rs).length = rs.length * 9 := flat_len ncells_len rs
def nds (rs : List NR) : List NM := rs.map NR.nd
theorem nds_len (rs : List NR) : (nds rs).length = rs.length := by simp [nds]
theorem nds_snoc (rs : List NR) (r : NR) : nds (rs ++ [r]) = nds rs ++ [r.nd] := by simp [nds]
/-- A tree. -/
structure TM where
  nodes : List NM
  next : Int
/-- Nine cells of a node. -/
def NAt (w : World) (b o : Nat) (r : NR) : Prop :=
  w.cell? ⟨b, o, none⟩ = some (.int .i64 r.nd.id) ∧ w.cell? ⟨b, o + 1, none⟩ = some (.int .i64 r.nd.parent) ∧ w.cell? ⟨b, o + 2, none⟩ = some (.string r.nd.name) ∧ w.cell? ⟨b, o + 3, none⟩ = some (.bool r.nd.dir) ∧ w.cell? ⟨b, o + 4, none⟩ = some (.int .i64 r.nd.schema) ∧ w.cell? ⟨b, o + 5, none⟩ = some (.int .i64 r.nd.quota) ∧ w.cell? ⟨b, o + 6, none⟩ = some (.int .i64 r.nd.len) ∧ w.cell? ⟨b, o + 7, none⟩ = some (.slice r.loc r.nd.pieces.length r.cap) ∧ w.cell? ⟨b, o + 8, none⟩ = some (.int .i64 r.nd.writer)
abbrev TR (w : World) (a : Option Addr) (rs : List NR) (lo hi : Nat) : Prop := GR NKind w a rs lo hi
abbrev TW (w : World) (g : Nat) (rs : List NR) (lo hi : Nat) : Prop := GW NKind w g rs lo hi
theorem TR.nat {w : World} {a : Option Addr} {rs : List NR} {lo hi : Nat} (h : TR w a rs lo hi) (hp : 0 < rs.length) : ∃ b off, a = some ⟨b, off, none⟩ ∧ b < w.heap.size ∧ ∀ j (hj : j < rs.length), NAt w b (off + j * 9) rs[j] := by
  obtain ⟨b, off, e, hb, hc⟩ := h.at hp (by decide)
  refine ⟨b, off, e, hb, fun j hj => ?_⟩
  have hcc : ∀ i v, (ncells rs[j])[i]? = some v → w.cell? ⟨b, off + j * 9 + i, none⟩ = some v := fun i v hv => by
    have := hc j hj i v hv
    rw [← Nat.add_assoc] at this
    exact this
  exact ⟨hcc 0 _ rfl, hcc 1 _ rfl, hcc 2 _ rfl, hcc 3 _ rfl, hcc 4 _ rfl, hcc 5 _ rfl, hcc 6 _ rfl, hcc 7 _ rfl, hcc 8 _ rfl⟩
theorem NAt.below {w w' : World} {b o : Nat} {r : NR} (h : NAt w b o r) (hb : Below w.heap.size w w') (hl : b < w.heap.size) : NAt w' b o r := by
  obtain ⟨h0, h1, h2, h3, h4, h5, h6, h7, h8⟩ := h
  have k : ∀ i v, w.cell? ⟨b, i, none⟩ = some v → w'.cell? ⟨b, i, none⟩ = some v := fun i v hv => (hb.cell (p := ⟨b, i, none⟩) hl).trans hv
  exact ⟨k _ _ h0, k _ _ h1, k _ _ h2, k _ _ h3, k _ _ h4, k _ _ h5, k _ _ h6, k _ _ h7, k _ _ h8⟩
/-- Pieces that are read. -/
theorem pcs_at {w : World} {a : Option Addr} {ps : List PM} {lo hi : Nat} (h : RRow w a (pcs ps) lo hi) (hp : 0 < ps.length) : ∃ b off, a = some ⟨b, off, none⟩ ∧ b < w.heap.size ∧ ∀ j (hj : j < ps.length), w.cell? ⟨b, off + j * 2, none⟩ = some (.int .i64 ps[j].group) ∧ w.cell? ⟨b, off + j * 2 + 1, none⟩ = some (.int .i64 ps[j].len) := by
  obtain ⟨b, off, e, _, _, hb, hc⟩ := h (by rw [pcs_len]; omega)
  exact ⟨b, off, e, hb, fun j hj => ⟨hc (j * 2) _ (flat_get pcells_len ps j hj 0 (by omega)), hc (j * 2 + 1) _ (flat_get pcells_len ps j hj 1 (by omega))⟩⟩
/-- A value that is this tree. -/
def TSee (w : World) (v : Value) (T : TM) (lo hi : Nat) : Prop := ∃ (a : Option Addr) (cap : Nat) (rs : List NR), v = .agg #[.slice a rs.length cap, .int .i64 T.next] ∧ nds rs = T.nodes ∧ TR w a rs lo hi
/-- An answer that is this tree: nothing, or nodes that may be written. -/
def TAns (w : World) (v : Value) (T : TM) (lo hi : Nat) : Prop := ∃ (a : Option Addr) (cap : Nat) (rs : List NR), v = .agg #[.slice a rs.length cap, .int .i64 T.next] ∧ nds rs = T.nodes ∧ rs.length ≤ cap ∧ (rs = [] ∨ ∃ g, a = some ⟨g, 0, none⟩ ∧ TW w g rs lo hi)
theorem TAns.see {w : World} {v : Value} {T : TM} {lo hi : Nat} (h : TAns w v T lo hi) : TSee w v T lo hi := by
  obtain ⟨a, cap, rs, e, hr, _, h1⟩ := h
  refine ⟨a, cap, rs, e, hr, ?_⟩
  rcases h1 with rfl | ⟨g, rfl, hm⟩
  · exact GR.nil _ _ _ _ _
  · exact hm.gr
theorem TSee.turned {w w' : World} {v : Value} {T : TM} {lo hi lo' hi' : Nat} (h : TSee w v T lo hi) (t : Turned w w' lo' hi') (hd : hi ≤ lo' ∨ hi' ≤ lo) : TSee w' v T lo hi := by
  obtain ⟨a, cap, rs, e, hr, h1⟩ := h
  exact ⟨a, cap, rs, e, hr, h1.turned t hd⟩
theorem TSee.below {w w' : World} {v : Value} {T : TM} {lo hi : Nat} (h : TSee w v T lo hi) (hb : Below w.heap.size w w') : TSee w' v T lo hi := by
  obtain ⟨a, cap, rs, e, hr, h1⟩ := h
  exact ⟨a, cap, rs, e, hr, h1.below hb⟩
theorem TSee.wide {w : World} {v : Value} {T : TM} {lo hi lo' hi' : Nat} (h : TSee w v T lo hi) (h1 : lo' ≤ lo) (h2 : hi ≤ hi') : TSee w v T lo' hi' := by
  obtain ⟨a, cap, rs, e, hr, q⟩ := h
  exact ⟨a, cap, rs, e, hr, q.wide h1 h2⟩
theorem TAns.turned {w w' : World} {v : Value} {T : TM} {lo hi lo' hi' : Nat} (h : TAns w v T lo hi) (t : Turned w w' lo' hi') (hd : hi ≤ lo' ∨ hi' ≤ lo) : TAns w' v T lo hi := by
  obtain ⟨a, cap, rs, e, hr, hc, h1⟩ := h
  refine ⟨a, cap, rs, e, hr, hc, ?_⟩
  rcases h1 with rfl | ⟨g, rfl, hm⟩
  · exact .inl rfl
  · exact .inr ⟨g, rfl, hm.turned t hd⟩
theorem TAns.below {w w' : World} {v : Value} {T : TM} {lo hi : Nat} (h : TAns w v T lo hi) (hb : Below w.heap.size w w') : TAns w' v T lo hi := by
  obtain ⟨a, cap, rs, e, hr, hc, h1⟩ := h
  refine ⟨a, cap, rs, e, hr, hc, ?_⟩
  rcases h1 with rfl | ⟨g, rfl, hm⟩
  · exact .inl rfl
  · exact .inr ⟨g, rfl, hm.below hb⟩
/-- What an answer of a tree is: new memory alone. -/
def TrPost (T : TM) (w : World) (e : Ending) (w' : World) : Prop := ∃ v, e = .returned v ∧ TAns w' v T w.heap.size w'.heap.size ∧ Below w.heap.size w w'
/-- How much there is in nodes: their names' bytes and their pieces. -/
def nsum : List NM → Nat
  | [] => 0
  | n :: ns => n.name.size + n.pieces.length + nsum ns
theorem nsum_take (ns : List NM) (k : Nat) (h : k < ns.length) : nsum (ns.take (k + 1)) = nsum (ns.take k) + (ns[k].name.size + ns[k].pieces.length) := by
  induction ns generalizing k with
  | nil => simp at h
  | cons n ns ih =>
    cases k with
    | zero => simp [nsum]
    | succ k =>
      have := ih k (by simpa using h)
      simp only [List.take_succ_cons, nsum, List.getElem_cons_succ]
      omega
theorem nsum_mem {ns : List NM} {n : NM} (h : n ∈ ns) : n.name.size + n.pieces.length ≤ nsum ns := by
  induction ns with
  | nil => simp at h
  | cons x ns ih =>
    rcases List.mem_cons.1 h with rfl | h
    · simp only [nsum]; omega
    · have := ih h; simp only [nsum]; omega
/-- A tree that a machine can hold. -/
def NFit (T : TM) : Prop := T.nodes.length + nsum T.nodes ≤ 1048576
end Go.Proofs.YtoaifodmjkhiiaaDoor
/- SchZ: The schemas, plain, and the walk of the model's SchemaOf. -/
namespace Go.Proofs.YtoaifodmjkhiiaaDoor
set_option maxRecDepth 100000
open Go.RowKit
attribute [local go_sem ↓] Go.wp_at_zero Go.wp_at_succ

def schK (s : Int) : Nat := if s = 1 then 2 else if s = 2 then 3 else if s = 3 then 4 else 0
def schM (s : Int) : Nat := if s = 1 then 1 else if s = 2 then 2 else if s = 3 then 2 else 0
def schOk (s : Int) : Bool := decide (s = 1) || decide (s = 2) || decide (s = 3)
theorem sch_cases {s : Int} (h : schOk s = true) : s = 1 ∨ s = 2 ∨ s = 3 := by
  unfold schOk at h
  simp only [Bool.or_eq_true, decide_eq_true_eq] at h
  omega
theorem sch_no {s : Int} (h : schOk s = false) : s ≠ 1 ∧ s ≠ 2 ∧ s ≠ 3 := by
  unfold schOk at h
  simp only [Bool.or_eq_false_iff, decide_eq_false_iff_not] at h
  omega
theorem sch_bounds {s : Int} (h : schOk s = true) : 2 ≤ schK s ∧ schK s ≤ 4 ∧ 1 ≤ schM s ∧ schM s ≤ 2 := by
  rcases sch_cases h with rfl | rfl | rfl <;> decide
theorem sch_zero {s : Int} (h : schOk s = false) : schK s = 0 ∧ schM s = 0 := by
  obtain ⟨h1, h2, h3⟩ := sch_no h
  unfold schK schM
  rw [if_neg h1, if_neg h2, if_neg h3, if_neg h1, if_neg h2, if_neg h3]
  exact ⟨rfl, rfl⟩
def SchPost (s : Int) (w : World) (e : Ending) (w' : World) : Prop := e = .returned (.tuple #[.int .i64 (schK s : Nat), .int .i64 (schM s : Nat), .bool (schOk s)]) ∧ w' = w
theorem specSchema (s : Int) (w : World) : Calls Tryd.prog 28 #[.int .i64 s] w fun e w' => SchPost s w e w' := by
  cases h : schOk s with
  | true =>
    obtain rfl | rfl | rfl := sch_cases h
    all_goals
      clear h
      go_enter Tryd.func28, Tryd.ntmps28
      go_wp2_with fail
      go_ret3
      exact ⟨rfl, rfl⟩
  | false =>
    obtain ⟨h1, h2, h3⟩ := sch_no h
    obtain ⟨e1, e2⟩ := sch_zero h
    unfold SchPost
    rw [e1, e2, h]
    clear h e1 e2
    go_enter Tryd.func28, Tryd.ntmps28
    go_wp2_with fail
    go_ret3
    exact ⟨rfl, rfl⟩
/-- The same, of the program's own. -/
def SchB (s : Int) (w : World) (e : Ending) (w' : World) : Prop := e = .returned (.tuple #[.int .i64 (schK s : Nat), .int .i64 (schM s : Nat), .bool (schOk s)]) ∧ Below w.heap.size w w'
end Go.Proofs.YtoaifodmjkhiiaaDoor
/- Words: Plain facts on the bytes of numbers: the bytes of a number by sevens of bits are told by 'vt', the number that bytes begin by 'rv'; nothing of the program is read here. -/
namespace Go.Proofs.YtoaifodmjkhiiaaDoor.W
/-- The bytes of a number, by sevens of bits, with fuel. -/
def vtF : Nat → Nat → List UInt8
  | 0, n => [UInt8.ofNat n]
  | f + 1, n => if 127 < n then UInt8.ofNat (n % 128 + 128) :: vtF f (n / 128) else [UInt8.ofNat n]
def vt (n : Nat) : List UInt8 := vtF n n
theorem vtF_enough : ∀ (f g n : Nat), n ≤ f → n ≤ g → vtF f n = vtF g n
  | 0, 0, n, _, _ => rfl
  | 0, g + 1, n, h, _ => by have : n = 0 := (by omega); subst this; simp [vtF]
  | f + 1, 0, n, _, h => by have : n = 0 := (by omega); subst this; simp [vtF]
  | f + 1, g + 1, n, h1, h2 => by
    unfold vtF
    by_cases h : 127 < n
    · rw [if_pos h, if_pos h, vtF_enough f g (n / 128) (by omega) (by omega)]
    · rw [if_neg h, if_neg h]
theorem vt_big (n : Nat) (h : 127 < n) : vt n = UInt8.ofNat (n % 128 + 128) :: vt (n / 128) := by
  unfold vt
  match n, h with
  | k + 1, h =>
    rw [vtF, if_pos h, vtF_enough k ((k + 1) / 128) ((k + 1) / 128) (by omega) (by omega)]
theorem vt_small (n : Nat) (h : n ≤ 127) : vt n = [UInt8.ofNat n] := by
  unfold vt
  match n with
  | 0 => rfl
  | k + 1 => rw [vtF, if_neg (by omega)]
theorem vt_len (n : Nat) : (vt n).length ≤ n + 1 := by
  suffices h : ∀ f m, (vtF f m).length ≤ f + 1 from h n n
  intro f
  induction f with
  | zero => intro m; simp [vtF]
  | succ f ih =>
    intro m
    unfold vtF
    split
    · have := ih (m / 128); simp; omega
    · simp

/-- The number of bytes by sevens: each with its high bit left off. -/
def val : List UInt8 → Nat
  | [] => 0
  | b :: l => b.toNat % 128 + 128 * val l

/-- All but the last are 128 or more. -/
def heads (l : List UInt8) : Prop := ∀ b ∈ l, 128 ≤ b.toNat

theorem ofNat_self (b : UInt8) : UInt8.ofNat b.toNat = b := by simp

theorem vt_one (b : UInt8) (h : b.toNat < 128) : vt b.toNat = [b] := by
  rw [vt_small _ (by omega)]; simp

theorem val_pos : ∀ (l : List UInt8) (b : UInt8), b.toNat < 128 → b ≠ 0 → 0 < val (l ++ [b])
  | [], b, h, h0 => by
    have : b.toNat ≠ 0 := fun e => h0 (by have := UInt8.toNat_inj (a := b) (b := 0); simp at this; exact this.1 e)
    simp [val]; omega
  | c :: l, b, h, h0 => by
    have := val_pos l b h h0
    simp [val]; omega

/-- The bytes of the number of some bytes are those bytes, where they have no needless nought at the end. -/
theorem vt_val : ∀ (l : List UInt8) (b : UInt8), heads l → b.toNat < 128 → (l = [] ∨ b ≠ 0) → vt (val (l ++ [b])) = l ++ [b]
  | [], b, _, hb, _ => by
    have : val ([] ++ [b]) = b.toNat := by simp [val]; omega
    rw [this]; exact vt_one b hb
  | c :: l, b, hl, hb, h0 => by
    have h0 : b ≠ 0 := by rcases h0 with h | h; cases h; exact h
    have hc : 128 ≤ c.toNat := hl c (by simp)
    have ih := vt_val l b (fun x hx => hl x (by simp [hx])) hb (.inr h0)
    have hp := val_pos l b hb h0
    have hlt := c.toNat_lt
    have e : val (c :: l ++ [b]) = c.toNat % 128 + 128 * val (l ++ [b]) := rfl
    rw [e, vt_big _ (by omega)]
    have e1 : (c.toNat % 128 + 128 * val (l ++ [b])) % 128 + 128 = c.toNat := by omega
    have e2 : (c.toNat % 128 + 128 * val (l ++ [b])) / 128 = val (l ++ [b]) := by omega
    rw [e1, e2, ih]; simp

/-- With a needless nought at the end they are not. -/
theorem vt_last : ∀ (f n : Nat), n ≤ f → 0 < n → (vtF f n).getLast? ≠ some 0
  | 0, n, h, h' => by omega
  | f + 1, n, h, h' => by
    unfold vtF
    by_cases hb : 127 < n
    · rw [if_pos hb]
      have ih := vt_last f (n / 128) (by omega) (by omega)
      have hne : vtF f (n / 128) ≠ [] := by cases f <;> simp [vtF] <;> split <;> simp
      rw [List.getLast?_cons_of_ne_nil hne]
      exact ih
    · rw [if_neg hb]
      simp
      intro e
      have := congrArg UInt8.toNat e
      simp at this
      omega
theorem vt_not (l : List UInt8) (hl : l ≠ []) : vt (val (l ++ [0])) ≠ l ++ [0] := by
  intro e
  by_cases h : val (l ++ [0]) = 0
  · rw [h] at e
    have := congrArg List.length e
    simp [vt, vtF] at this
    exact hl this
  · have := vt_last _ _ (Nat.le_refl (val (l ++ [0]))) (by omega)
    unfold vt at e
    rw [e] at this
    simp at this

/-- What stands behind some bytes: the number that they begin, its weight, whether none has come yet, the bytes that are left, their place. -/
def rv : Nat → Nat → Bool → List UInt8 → Nat → Option (Nat × Nat)
  | _, _, _, [], _ => none
  | n, w, first, b :: l, p =>
    if 1000000000 < w then none
    else if 127 < b.toNat then rv (n + (b.toNat - 128) * w) (w * 128) false l (p + 1)
    else if b.toNat = 0 ∧ first = false then none
    else if 1000000000 < n + b.toNat * w then none
    else some (n + b.toNat * w, p + 1)

theorem val_snoc : ∀ (l : List UInt8) (b : UInt8), val (l ++ [b]) = val l + b.toNat % 128 * 128 ^ l.length
  | [], b => by simp [val]
  | c :: l, b => by
    have ih := val_snoc l b
    show c.toNat % 128 + 128 * val (l ++ [b]) = _
    rw [ih]
    simp only [val, List.length_cons, Nat.pow_succ, Nat.mul_add]
    rw [← Nat.mul_assoc (b.toNat % 128), Nat.mul_comm 128 (b.toNat % 128 * 128 ^ l.length)]
    omega
theorem val_lt : ∀ (l : List UInt8), val l < 128 ^ l.length
  | [] => by simp [val]
  | c :: l => by
    have := val_lt l
    simp only [val, List.length_cons, Nat.pow_succ]
    omega
theorem rv_nil (n w : Nat) (f : Bool) (p : Nat) : rv n w f [] p = none := rfl
theorem rv_great (n w : Nat) (f : Bool) (l : List UInt8) (p : Nat) (h : 1000000000 < w) : rv n w f l p = none := by
  cases l
  · rfl
  · rw [rv, if_pos h]
theorem rv_head (n w : Nat) (f : Bool) (b : UInt8) (l : List UInt8) (p : Nat) (h : w ≤ 1000000000) (hb : 127 < b.toNat) : rv n w f (b :: l) p = rv (n + (b.toNat - 128) * w) (w * 128) false l (p + 1) := by
  rw [rv, if_neg (by omega), if_pos hb]
theorem rv_nought (n w : Nat) (b : UInt8) (l : List UInt8) (p : Nat) (hb : b.toNat = 0) : rv n w false (b :: l) p = none := by
  rw [rv]; split
  · rfl
  · rw [if_neg (by omega), if_pos ⟨hb, rfl⟩]
theorem rv_far (n w : Nat) (f : Bool) (b : UInt8) (l : List UInt8) (p : Nat) (hb : b.toNat ≤ 127) (h : 1000000000 < n + b.toNat * w) : rv n w f (b :: l) p = none := by
  rw [rv]; split
  · rfl
  · rw [if_neg (by omega)]; split
    · rfl
    · rfl
theorem rv_done (n w : Nat) (f : Bool) (b : UInt8) (l : List UInt8) (p : Nat) (h : w ≤ 1000000000) (hb : b.toNat ≤ 127) (h0 : b.toNat ≠ 0 ∨ f = true) (hm : n + b.toNat * w ≤ 1000000000) :
    rv n w f (b :: l) p = some (n + b.toNat * w, p + 1) := by
  rw [rv, if_neg (by omega), if_neg (by omega), if_neg (by rcases h0 with h | h <;> simp [h]), if_neg (by omega)]

/-- As the bytes so far tell it. -/
def rvs (hd : List UInt8) (l : List UInt8) (p : Nat) : Option (Nat × Nat) := rv (val hd) (128 ^ hd.length) (decide (hd.length = 0)) l p
theorem rvs_step (hd : List UInt8) (b : UInt8) (l : List UInt8) (p : Nat) (hk : hd.length ≤ 4) (hb : 127 < b.toNat) : rvs hd (b :: l) p = rvs (hd ++ [b]) l (p + 1) := by
  have hw : 128 ^ hd.length ≤ 128 ^ 4 := Nat.pow_le_pow_right (by omega) hk
  have hlt := b.toNat_lt
  unfold rvs
  rw [rv_head _ _ _ _ _ _ (by omega) hb, val_snoc, List.length_append, List.length_singleton, Nat.pow_succ, decide_eq_false (p := hd.length + 1 = 0) (by omega)]
  have : b.toNat % 128 = b.toNat - 128 := by omega
  rw [this]
theorem rvs_five (hd : List UInt8) (l : List UInt8) (p : Nat) (hk : 5 ≤ hd.length) : rvs hd l p = none := by
  have hw : 128 ^ 5 ≤ 128 ^ hd.length := Nat.pow_le_pow_right (by omega) hk
  exact rv_great _ _ _ _ _ (by omega)
/-- The test by the bytes of the number says the same as the test for a needless nought. -/
theorem rvs_end (hd : List UInt8) (b : UInt8) (l : List UInt8) (p : Nat) (hk : hd.length ≤ 4) (hh : heads hd) (hb : b.toNat ≤ 127) :
    rvs hd (b :: l) p = if val (hd ++ [b]) ≤ 1000000000 ∧ vt (val (hd ++ [b])) = hd ++ [b] then some (val (hd ++ [b]), p + 1) else none := by
  have hw : 128 ^ hd.length ≤ 128 ^ 4 := Nat.pow_le_pow_right (by omega) hk
  have ev : val (hd ++ [b]) = val hd + b.toNat * 128 ^ hd.length := by rw [val_snoc]; congr 2; omega
  by_cases h0 : b.toNat = 0 ∧ hd ≠ []
  · have eb : b = 0 := by have := UInt8.toNat_inj (a := b) (b := 0); simp at this; exact this.1 h0.1
    rw [if_neg (by rw [eb]; exact fun h => vt_not hd h0.2 h.2)]
    unfold rvs
    rw [decide_eq_false (by simpa using h0.2), rv_nought _ _ _ _ _ h0.1]
  · have hv : vt (val (hd ++ [b])) = hd ++ [b] := vt_val hd b hh (by omega) (by
      by_cases e : hd = []
      · exact .inl e
      · right; intro eb; exact h0 ⟨by rw [eb]; rfl, e⟩)
    by_cases hm : val (hd ++ [b]) ≤ 1000000000
    · rw [if_pos ⟨hm, hv⟩]
      unfold rvs
      rw [rv_done _ _ _ _ _ _ (by omega) hb (by
        by_cases e : hd = []
        · right; simp [e]
        · left; exact fun eb => h0 ⟨eb, e⟩) (by omega), ev]
    · rw [if_neg (fun h => hm h.1)]
      exact rv_far _ _ _ _ _ _ hb (by omega)
end Go.Proofs.YtoaifodmjkhiiaaDoor.W
/- VarL: The walks of l01Var and l01In. -/
namespace Go.Proofs.YtoaifodmjkhiiaaDoor
set_option maxRecDepth 100000
open Go.RowKit

/-- What one round of the loop does to the row of bytes. -/
theorem step_byte {B n m : Nat} {l : List UInt8} {w wr w1 : World} {v v' : Value} {o : Obj} {x : Int} (hB : B ≤ wr.heap.size) (hx : x = (m % 128 + 128 : Nat))
    (hm : 127 < m) (hl : l.length + m ≤ n) (ht : l ++ W.vt m = W.vt n)
    (hown : wr.ownsRow B 5 1 v l.length (bv l)) (hb : Below B w wr)
    (hown' : w1.ownsRow B 5 1 v' (l.length + 1) (bv l ++ [.int .u8 x])) (hg : (wr.alloc o).grownBy w1 v.ownBlock) :
    ∃ l', l'.length + m / 128 ≤ n ∧ l' ++ W.vt (m / 128) = W.vt n ∧ w1.ownsRow B 5 1 v' l'.length (bv l') ∧ Below B w w1 := by
  refine ⟨l ++ [UInt8.ofNat (m % 128 + 128)], by simp; omega, by rw [← ht, W.vt_big m hm]; simp, ?_, ?_⟩
  · have e := byte_of x (by omega) (by omega)
    rw [e, bv_snoc] at hown'
    have : UInt8.ofNat x.toNat = UInt8.ofNat (m % 128 + 128) := by rw [hx]; rfl
    rw [this] at hown'
    simpa using hown'
  · exact (hb.alloc hB o).grown hg (by simp; omega) (fun j hj => by have := (hown.lt j hj).1; omega)
theorem last_byte {B n m : Nat} {l : List UInt8} {w wr w1 : World} {v v' : Value} {o : Obj} {x : Int} (hB : B ≤ wr.heap.size) (hx : x = m)
    (hm : m ≤ 127) (ht : l ++ W.vt m = W.vt n)
    (hown : wr.ownsRow B 5 1 v l.length (bv l)) (hb : Below B w wr)
    (hown' : w1.ownsRow B 5 1 v' (l.length + 1) (bv l ++ [.int .u8 x])) (hg : (wr.alloc o).grownBy w1 v.ownBlock) :
    (convert 38 9 v').run Tryd.prog w1 = .ok (.string ⟨(W.vt n).toArray⟩) w1 ∧ Below B w w1 := by
  refine ⟨?_, (hb.alloc hB o).grown hg (by simp; omega) (fun j hj => by have := (hown.lt j hj).1; omega)⟩
  have e := byte_of x (by omega) (by omega)
  rw [e, bv_snoc] at hown'
  have : UInt8.ofNat x.toNat = UInt8.ofNat m := by rw [hx]; rfl
  rw [this] at hown'
  have hn : W.vt n = l ++ [UInt8.ofNat m] := by rw [← ht, W.vt_small m hm]
  rw [hn]
  exact own_string (by simpa using hown')

theorem l01In_any (x a b : Int) (w : World) :
    Calls Tryd.prog 78 #[.int .i64 x, .int .i64 a, .int .i64 b] w fun e w' => e = .returned (.bool (decide (a ≤ x) && decide (x ≤ b))) ∧ w' = w := by
  by_cases h : a ≤ x
  · by_cases h' : x ≤ b
    · go_enter Tryd.func78, Tryd.ntmps78
      go_wp2
      go_ret
      exact ⟨by simp [h, h'], rfl⟩
    · go_enter Tryd.func78, Tryd.ntmps78
      go_wp2
      go_ret
      exact ⟨by simp [h'], rfl⟩
  · go_enter Tryd.func78, Tryd.ntmps78
    go_wp2
    go_ret
    exact ⟨by simp; omega, rfl⟩
end Go.Proofs.YtoaifodmjkhiiaaDoor
/- SpnA: Stripes: the walks of the models' GroupSize, PlaceOf, OffsetOf and Spans. -/
namespace Go.Proofs.YtoaifodmjkhiiaaDoor
set_option maxRecDepth 100000
open Go.RowKit
attribute [local go_sem ↓] Go.wp_at_zero Go.wp_at_succ

theorem isIn (x a b : Int) (w : World) (r : Bool) (h : (decide (a ≤ x) && decide (x ≤ b)) = r) : Calls Tryd.prog 78 #[.int .i64 x, .int .i64 a, .int .i64 b] w fun e w' => e = .returned (.bool r) ∧ w' = w := by
  rw [← h]; exact l01In_any x a b w
/-- How many bytes a group has. -/
def groupN (s : Int) : Nat := schK s * 8
theorem groupN_bounds (s : Int) : groupN s ≤ 32 := by
  unfold groupN
  cases h : schOk s with
  | true => have := (sch_bounds h).2.1; omega
  | false => rw [(sch_zero h).1]; omega
theorem specGroupSize (s : Int) (w : World) : Calls Tryd.prog 47 #[.int .i64 s] w fun e w' => e = .returned (.int .i64 (groupN s : Nat)) ∧ w' = w := by
  have HS := Shut.mk (fun W => specSchema s W)
  unfold SchPost at HS
  have hk : schK s ≤ 4 := by
    cases h : schOk s with
    | true => exact (sch_bounds h).2.1
    | false => rw [(sch_zero h).1]; omega
  have hg : ((groupN s : Nat) : Int) = (schK s : Int) * 4 * 2 := by unfold groupN; push_cast; omega
  generalize schOk s = ok at *
  generalize schM s = m at *
  generalize schK s = k at *
  have HG := Shut.mk hg
  clear hg
  go_enter Tryd.func47, Tryd.ntmps47
  go_wp2_with fail
  refine (HS.out _).mono ?_
  rintro e w1 ⟨rfl, rfl⟩
  go_wp2_with fail
  go_ret
  exact ⟨by rw [HG.out]; first | rfl | (simp; done) | (congr 2; omega), rfl⟩
/-- Where a byte is, plain: group, unit, place. -/
def unitAt (k o : Nat) : Nat := o % (k * 8) / 4 % k
def placeIn (k o : Nat) : Nat := o % (k * 8) / 4 / k * 4 + o % (k * 8) % 4
def placeX (s off : Int) : Nat × Nat × Nat := if schOk s = true ∧ 0 ≤ off ∧ off ≤ 100000 then (off.toNat / (schK s * 8), unitAt (schK s) off.toNat, placeIn (schK s) off.toNat) else (0, 0, 0)
def PlacePost (s off : Int) (w : World) (e : Ending) (w' : World) : Prop := e = .returned (.tuple #[.int .i64 ((placeX s off).1 : Nat), .int .i64 ((placeX s off).2.1 : Nat), .int .i64 ((placeX s off).2.2 : Nat)]) ∧ Below w.heap.size w w'
set_option maxHeartbeats 1000000 in
theorem specPlaceOf (s off : Int) (w : World) : Calls Tryd.prog 73 #[.int .i64 s, .int .i64 off] w fun e w' => PlacePost s off w e w' := by
  have HS := Shut.mk (fun W => specSchema s W)
  unfold SchPost at HS
  have HG := Shut.mk (fun W => specGroupSize s W)
  unfold PlacePost
  cases h : schOk s with
  | false =>
    have e0 : placeX s off = (0, 0, 0) := by unfold placeX; rw [if_neg (by rw [h]; simp)]
    rw [e0]
    rw [h] at HS
    clear h e0
    generalize schK s = k at *
    generalize schM s = m at *
    go_enter Tryd.func73, Tryd.ntmps73
    go_wp2_with fail
    refine (HS.out _).mono ?_
    rintro e w1 ⟨rfl, rfl⟩
    go_wp2_with fail
    go_ret3
    exact ⟨rfl, Below.refl _ _⟩
  | true =>
    rw [h] at HS
    obtain ⟨b1, b2, _, _⟩ := sch_bounds h
    by_cases ho : 0 ≤ off ∧ off ≤ 100000
    · obtain ⟨o, rfl⟩ := Int.eq_ofNat_of_zero_le ho.1
      have ho5 : o ≤ 100000 := by omega
      have hin : (decide ((0 : Int) ≤ (o : Int)) && decide ((o : Int) ≤ 100000)) = true := by simp; omega
      have e0 : placeX s (o : Int) = (o / (schK s * 8), unitAt (schK s) o, placeIn (schK s) o) := by unfold placeX; rw [if_pos ⟨h, ho⟩]; rfl
      rw [e0]
      unfold groupN at HG
      clear h ho e0
      generalize schM s = m at *
      generalize schK s = k at *
      obtain ⟨S, hS⟩ : ∃ S, S = k * 8 := ⟨_, rfl⟩
      have hS0 : 0 < S := by omega
      have hS32 : S ≤ 32 := by omega
      have e1 : ((o : Int) % (S : Int)) = ((o % S : Nat) : Int) := by push_cast; rfl
      have e2 : ((o : Int) / (S : Int)) = ((o / S : Nat) : Int) := by push_cast; rfl
      have hb : o % S < S := Nat.mod_lt _ hS0
      have e3 : ((o % S : Nat) : Int) / 4 = ((o % S / 4 : Nat) : Int) := by push_cast; rfl
      have e4 : ((o % S : Nat) : Int) % 4 = ((o % S % 4 : Nat) : Int) := by push_cast; rfl
      have e5 : ((o % S / 4 : Nat) : Int) % (k : Int) = ((unitAt k o : Nat) : Int) := by unfold unitAt; rw [← hS]; push_cast; rfl
      have e6 : ((o % S / 4 : Nat) : Int) / (k : Int) = ((o % S / 4 / k : Nat) : Int) := by push_cast; rfl
      have e7 : ((placeIn k o : Nat) : Int) = ((o % S / 4 / k : Nat) : Int) * 4 + ((o % S % 4 : Nat) : Int) := by unfold placeIn; rw [← hS]; push_cast; rfl
      have hc8 : o % S / 4 ≤ 8 := by omega
      have hd : o % S / 4 / k ≤ 8 := Nat.le_trans (Nat.div_le_self _ _) hc8
      have hr : o % S % 4 < 4 := Nat.mod_lt _ (by omega)
      have hqq : o / S ≤ 100000 := Nat.le_trans (Nat.div_le_self _ _) ho5
      rw [← hS] at HG ⊢
      generalize unitAt k o = u at *
      generalize placeIn k o = pl at *
      generalize o % S % 4 = r at *
      generalize o % S / 4 / k = d at *
      generalize o % S / 4 = c at *
      generalize o % S = b at *
      generalize o / S = q at *
      have HE := Shut.mk e7
      have hSn : ((S : Int) == 0) = false := by rw [beq_eq_false_iff_ne]; omega
      have hkn : ((k : Int) == 0) = false := by rw [beq_eq_false_iff_ne]; omega
      have s0 : (0 : Int) < (S : Int) := by omega
      have k0 : (0 : Int) < (k : Int) := by omega
      have t1 : (o : Int).tmod (S : Int) = (b : Int) := by rw [Int.tmod_eq_emod_of_nonneg (by omega)]; exact e1
      have t2 : (o : Int).tdiv (S : Int) = (q : Int) := by rw [Int.tdiv_eq_ediv_of_nonneg (by omega)]; exact e2
      have t3 : (b : Int).tdiv 4 = (c : Int) := by rw [Int.tdiv_eq_ediv_of_nonneg (by omega)]; exact e3
      have t4 : (b : Int).tmod 4 = (r : Int) := by rw [Int.tmod_eq_emod_of_nonneg (by omega)]; exact e4
      have t5 : (c : Int).tmod (k : Int) = (u : Int) := by rw [Int.tmod_eq_emod_of_nonneg (by omega)]; exact e5
      have t6 : (c : Int).tdiv (k : Int) = (d : Int) := by rw [Int.tdiv_eq_ediv_of_nonneg (by omega)]; exact e6
      clear e7 hS
      go_enter Tryd.func73, Tryd.ntmps73
      go_wp2_with fail
      refine (HS.out _).mono ?_
      rintro e w1 ⟨rfl, rfl⟩
      go_wp2_with fail
      refine (isIn _ _ _ _ true hin).mono ?_
      rintro e w2 ⟨rfl, rfl⟩
      go_wp2_with fail
      refine (HG.out _).mono ?_
      rintro e w3 ⟨rfl, rfl⟩
      go_wp2_with fail
      go_quiet (fail)
      go_wp2_with fail
      go_ret3
      exact ⟨by rw [HE.out]; rfl, ⟨rfl, rfl, rfl, Nat.le_refl _, fun _ _ => rfl⟩⟩
    · have hin : (decide ((0 : Int) ≤ off) && decide (off ≤ 100000)) = false := by simp only [Bool.and_eq_false_iff, decide_eq_false_iff_not]; omega
      have e0 : placeX s off = (0, 0, 0) := by unfold placeX; rw [if_neg (fun q => ho q.2)]
      rw [e0]
      clear h e0 ho
      generalize schK s = k at *
      generalize schM s = m at *
      go_enter Tryd.func73, Tryd.ntmps73
      go_wp2_with fail
      refine (HS.out _).mono ?_
      rintro e w1 ⟨rfl, rfl⟩
      go_wp2_with fail
      refine (isIn _ _ _ _ false hin).mono ?_
      rintro e w2 ⟨rfl, rfl⟩
      go_wp2_with fail
      go_ret3
      exact ⟨rfl, Below.refl _ _⟩
/-- The byte that has this place. -/
def offX (s g u a : Int) : Int := if schOk s = true ∧ (0 ≤ g ∧ g ≤ 100000) ∧ (0 ≤ u ∧ u ≤ (schK s : Int) - 1) ∧ (0 ≤ a ∧ a ≤ 7) then (if 100000 < g * (schK s * 8 : Nat) + (a / 4 * (schK s : Int) + u) * 4 + a % 4 then -1 else g * (schK s * 8 : Nat) + (a / 4 * (schK s : Int) + u) * 4 + a % 4) else -1
theorem offX_no {s g u a : Int} (h : ¬ (schOk s = true ∧ (0 ≤ g ∧ g ≤ 100000) ∧ (0 ≤ u ∧ u ≤ (schK s : Int) - 1) ∧ (0 ≤ a ∧ a ≤ 7))) : offX s g u a = -1 := if_neg h
theorem in_bool {a x b : Int} {r : Bool} (h : (decide (a ≤ x) && decide (x ≤ b)) = r) : r = true ↔ a ≤ x ∧ x ≤ b := by rw [← h]; simp
end Go.Proofs.YtoaifodmjkhiiaaDoor
/- PathM: Paths, plain: names, what lies between slashes, paths and their names. Nothing of the program is read here. -/
namespace Go.Proofs.YtoaifodmjkhiiaaDoor
set_option maxRecDepth 100000
open Go.PlainAid (bt)

def nameC (c : UInt8) : Bool := (decide (97 ≤ c.toNat) && decide (c.toNat ≤ 122)) || (decide (48 ≤ c.toNat) && decide (c.toNat ≤ 57))
def nameL (l : List UInt8) : Bool := l.all nameC && (decide (1 ≤ l.length) && decide (l.length ≤ 8))
theorem nameC_slash {c : UInt8} (h : nameC c = true) : c ≠ 47 := by
  intro e; subst e; exact absurd h (by decide)
theorem nameL_slash {l : List UInt8} (h : nameL l = true) : ∀ c ∈ l, c ≠ 47 := fun c hc => by
  unfold nameL at h
  rw [Bool.and_eq_true, List.all_eq_true] at h
  exact nameC_slash (h.1 c hc)
theorem nameL_pos {l : List UInt8} (h : nameL l = true) : 1 ≤ l.length ∧ l.length ≤ 8 := by
  unfold nameL at h
  simp only [Bool.and_eq_true, decide_eq_true_eq] at h
  exact h.2
/-- What lies between slashes. -/
def segs : List UInt8 → List (List UInt8)
  | [] => [[]]
  | c :: r => if c = 47 then [] :: segs r else match segs r with
    | [] => [[c]]
    | h :: t => (c :: h) :: t
theorem segs_ne : ∀ l, segs l ≠ []
  | [] => by simp [segs]
  | c :: r => by
    unfold segs
    split
    · simp
    · split <;> simp
theorem segs_none : ∀ (l : List UInt8), (∀ c ∈ l, c ≠ 47) → segs l = [l]
  | [], _ => rfl
  | c :: r, h => by
    unfold segs
    rw [if_neg (h c (by simp)), segs_none r (fun x hx => h x (by simp [hx]))]
theorem segs_cons {c : UInt8} {r x : List UInt8} {t : List (List UInt8)} (h : c ≠ 47) (e : segs r = x :: t) : segs (c :: r) = (c :: x) :: t := by
  unfold segs
  rw [if_neg h, e]
theorem segs_cut : ∀ (a r : List UInt8), (∀ c ∈ a, c ≠ 47) → segs (a ++ 47 :: r) = a :: segs r
  | [], r, _ => by simp [segs]
  | c :: a, r, h => by
    exact segs_cons (h c (by simp)) (segs_cut a r (fun x hx => h x (by simp [hx])))
theorem segs_back : ∀ (l : List UInt8), ((segs l).map (47 :: ·)).flatten = 47 :: l
  | [] => rfl
  | c :: r => by
    have ih := segs_back r
    unfold segs
    split
    · rename_i e; subst e
      simp only [List.map_cons, List.flatten_cons, ih]; rfl
    · cases h : segs r with
      | nil => exact absurd h (segs_ne r)
      | cons x t =>
        rw [h] at ih
        simp only [List.map_cons, List.flatten_cons, List.cons_append] at ih ⊢
        rw [List.cons.injEq] at ih
        rw [ih.2]
/-- A path's names. -/
def splitP : List UInt8 → List (List UInt8) × Bool
  | [] => ([], false)
  | c :: r => if c = 47 then (if r = [] then ([], true) else if (segs r).all nameL = true ∧ (segs r).length ≤ 4 then (segs r, true) else ([], false)) else ([], false)
def joinP (L : List (List UInt8)) : List UInt8 := if L = [] then [47] else (L.map (47 :: ·)).flatten
theorem join_split {p : List UInt8} (h : (splitP p).2 = true) : joinP (splitP p).1 = p := by
  unfold splitP at h ⊢
  cases p with
  | nil => cases h
  | cons c r =>
    simp only at h ⊢
    by_cases hc : c = 47
    · subst hc
      rw [if_pos rfl] at h ⊢
      by_cases hr : r = []
      · subst hr; rfl
      · rw [if_neg hr] at h ⊢
        by_cases hq : (segs r).all nameL = true ∧ (segs r).length ≤ 4
        · rw [if_pos hq]
          show joinP (segs r) = 47 :: r
          unfold joinP
          rw [if_neg (segs_ne r), segs_back]
        · rw [if_neg hq] at h; cases h
    · rw [if_neg hc] at h; cases h
theorem segs_join : ∀ (x : List UInt8) (L : List (List UInt8)), (∀ l ∈ x :: L, nameL l = true) → segs (x ++ (L.map (47 :: ·)).flatten) = x :: L
  | x, [], h => by
    rw [List.map_nil, List.flatten_nil, List.append_nil]
    exact segs_none x (nameL_slash (h x (by simp)))
  | x, y :: L, h => by
    rw [List.map_cons, List.flatten_cons, List.cons_append, segs_cut x _ (nameL_slash (h x (by simp))), segs_join y L (fun l hl => h l (by simp at hl ⊢; exact .inr hl))]
theorem split_join {L : List (List UInt8)} (h : ∀ l ∈ L, nameL l = true) (h4 : L.length ≤ 4) : splitP (joinP L) = (L, true) := by
  cases L with
  | nil => rfl
  | cons x L =>
    have e : joinP (x :: L) = 47 :: (x ++ (L.map (47 :: ·)).flatten) := by unfold joinP; rw [if_neg (by simp)]; rfl
    rw [e]
    unfold splitP
    have hx := (nameL_pos (h x (by simp))).1
    have hne : x ++ (L.map (47 :: ·)).flatten ≠ [] := fun e => by
      have := congrArg List.length e
      rw [List.length_append] at this
      simp at this
      rw [this.1] at hx
      simp at hx
    simp only
    rw [if_pos trivial, if_neg hne, segs_join x L h, if_pos ⟨by rw [List.all_eq_true]; exact h, h4⟩]
theorem split_names {p : List UInt8} : (∀ l ∈ (splitP p).1, nameL l = true) ∧ (splitP p).1.length ≤ 4 := by
  unfold splitP
  cases p with
  | nil => exact ⟨by simp, by simp⟩
  | cons c r =>
    simp only
    split
    · split
      · exact ⟨by simp, by simp⟩
      · split
        · rename_i q
          rw [List.all_eq_true] at q
          exact q
        · exact ⟨by simp, by simp⟩
    · exact ⟨by simp, by simp⟩
/-- The same of texts. -/
abbrev ba (l : List UInt8) : ByteArray := ⟨l.toArray⟩
abbrev lb (s : ByteArray) : List UInt8 := s.data.toList
theorem ba_lb (s : ByteArray) : ba (lb s) = s := rfl
theorem lb_ba (l : List UInt8) : lb (ba l) = l := by simp [lb]
def nameB (s : ByteArray) : Bool := nameL (lb s)
def splitB (p : ByteArray) : List ByteArray × Bool := ((splitP (lb p)).1.map ba, (splitP (lb p)).2)
def joinB (L : List ByteArray) : ByteArray := ba (joinP (L.map lb))
def parentB (p : ByteArray) : ByteArray × ByteArray × Bool := if (splitB p).2 = true ∧ (splitB p).1 ≠ [] then (joinB (splitB p).1.dropLast, (splitB p).1.getLastD ⟨#[]⟩, true) else (⟨#[]⟩, ⟨#[]⟩, false)
theorem map_lb_ba (L : List (List UInt8)) : (L.map ba).map lb = L := by
  rw [List.map_map]
  exact List.map_id'' (fun l => lb_ba l) L
theorem map_ba_lb (L : List ByteArray) : (L.map lb).map ba = L := by
  rw [List.map_map]
  exact List.map_id'' (fun s => ba_lb s) L
theorem joinB_split {p : ByteArray} (h : (splitB p).2 = true) : joinB (splitB p).1 = p := by
  unfold joinB splitB
  simp only
  rw [map_lb_ba, join_split h]
theorem splitB_join {L : List ByteArray} (h : ∀ s ∈ L, nameB s = true) (h4 : L.length ≤ 4) : splitB (joinB L) = (L, true) := by
  unfold splitB joinB
  rw [lb_ba, split_join (L := L.map lb) (fun l hl => by obtain ⟨s, hs, rfl⟩ := List.mem_map.1 hl; exact h s hs) (by rw [List.length_map]; exact h4)]
  simp only
  rw [map_ba_lb]
theorem splitB_names (p : ByteArray) : (∀ s ∈ (splitB p).1, nameB s = true) ∧ (splitB p).1.length ≤ 4 := by
  have h := split_names (p := lb p)
  refine ⟨fun s hs => ?_, ?_⟩
  · obtain ⟨l, hl, rfl⟩ := List.mem_map.1 hs
    unfold nameB
    rw [lb_ba]
    exact h.1 l hl
  · show ((splitP (lb p)).1.map ba).length ≤ 4
    rw [List.length_map]; exact h.2
/-- Where the way through a path stands. -/
structure PaRel (p : ByteArray) (i bg : Nat) (done : List ByteArray) : Prop where
  le : bg ≤ i
  pos : 1 ≤ bg
  clean : ∀ j, bg ≤ j → j < i → bt p j ≠ 47
  sofar : (segs ((lb p).drop 1)).map ba = done ++ (segs ((lb p).drop bg)).map ba
  names : ∀ s ∈ done, nameB s = true
theorem ext_list (s : ByteArray) (a b : Nat) : lb (s.extract a b) = ((lb s).drop a).take (b - a) := by simp [lb, ByteArray.data_extract]
theorem bt_at {s : ByteArray} {j : Nat} (h : j < s.size) : bt s j = ((lb s)[j]'h).toNat := by
  unfold bt; rw [dif_pos h]; rfl
theorem clean_list {p : ByteArray} {i bg : Nat} (hi : i ≤ p.size) (h : ∀ j, bg ≤ j → j < i → bt p j ≠ 47) : ∀ c ∈ ((lb p).drop bg).take (i - bg), c ≠ 47 := fun c hc e => by
  subst e
  obtain ⟨j, hj, e2⟩ := List.mem_iff_getElem.1 hc
  rw [List.length_take, List.length_drop] at hj
  have hl : (lb p).length = p.size := rfl
  rw [List.getElem_take, List.getElem_drop] at e2
  have := h (bg + j) (by omega) (by omega)
  rw [bt_at (by omega)] at this
  simp only [e2] at this
  exact this (by decide)
theorem PaRel.start {p : ByteArray} : PaRel p 1 1 [] := ⟨Nat.le_refl _, Nat.le_refl _, fun j h1 h2 => by omega, rfl, by simp⟩
theorem PaRel.step {p : ByteArray} {i bg : Nat} {done : List ByteArray} (h : PaRel p i bg done) (hc : bt p i ≠ 47) : PaRel p (i + 1) bg done :=
  ⟨by have := h.le; omega, h.pos, fun j h1 h2 => by
    by_cases e : j = i
    · subst e; exact hc
    · exact h.clean j h1 (by omega), h.sofar, h.names⟩
theorem PaRel.split {p : ByteArray} {i bg : Nat} {done : List ByteArray} (h : PaRel p i bg done) (hi : i < p.size) (hc : bt p i = 47) : (segs ((lb p).drop 1)).map ba = (done ++ [p.extract bg i]) ++ (segs ((lb p).drop (i + 1))).map ba := by
  have hl : (lb p).length = p.size := rfl
  have e : (lb p).drop bg = ((lb p).drop bg).take (i - bg) ++ 47 :: (lb p).drop (i + 1) := by
    have h1 : ((lb p).drop bg).drop (i - bg) = 47 :: (lb p).drop (i + 1) := by
      rw [List.drop_drop, show bg + (i - bg) = i from by have := h.le; omega, List.drop_eq_getElem_cons (by omega)]
      congr 1
      have := bt_at hi
      rw [hc] at this
      have h2 : ((lb p)[i]'(by omega)).toNat = 47 := by omega
      exact UInt8.toNat_inj.1 h2
    rw [← h1, List.take_append_drop]
  rw [h.sofar, e, segs_cut _ _ (clean_list (by omega) h.clean), List.map_cons, List.append_assoc]
  congr 1
  rw [← ext_list, ba_lb]; rfl
theorem PaRel.fin {p : ByteArray} {i bg : Nat} {done : List ByteArray} (h : PaRel p i bg done) (hi : i = p.size) : (segs ((lb p).drop 1)).map ba = done ++ [p.extract bg i] := by
  have hl : (lb p).length = p.size := rfl
  have e : (lb p).drop bg = ((lb p).drop bg).take (i - bg) := by rw [List.take_of_length_le (by rw [List.length_drop]; omega)]
  rw [h.sofar, e, segs_none _ (clean_list (by omega) h.clean), List.map_cons, List.map_nil, ← ext_list, ba_lb]
theorem PaRel.next {p : ByteArray} {i bg : Nat} {done : List ByteArray} (h : PaRel p i bg done) (hi : i < p.size) (hc : bt p i = 47) (hn : nameB (p.extract bg i) = true) : PaRel p (i + 1) (i + 1) (done ++ [p.extract bg i]) :=
  ⟨Nat.le_refl _, by omega, fun j h1 h2 => by omega, h.split hi hc, fun s hs => by
    rcases List.mem_append.1 hs with q | q
    · exact h.names s q
    · simp at q; subst q; exact hn⟩
theorem splitB_rest {p : ByteArray} (h1 : 1 < p.size) (h0 : bt p 0 = 47) : splitB p = if (∀ s ∈ (segs ((lb p).drop 1)).map ba, nameB s = true) ∧ ((segs ((lb p).drop 1)).map ba).length ≤ 4 then ((segs ((lb p).drop 1)).map ba, true) else ([], false) := by
  have hl : (lb p).length = p.size := rfl
  unfold splitB
  have e : lb p = 47 :: (lb p).drop 1 := by
    have := List.drop_eq_getElem_cons (l := lb p) (i := 0) (by omega)
    rw [List.drop_zero] at this
    rw [this]
    congr 1
    have h2 := bt_at (s := p) (j := 0) (by omega)
    rw [h0] at h2
    have h3 : ((lb p)[0]'(by omega)).toNat = 47 := by omega
    exact UInt8.toNat_inj.1 h3
  have hne : (lb p).drop 1 ≠ [] := fun e => by have := congrArg List.length e; rw [List.length_drop] at this; simp at this; omega
  generalize (lb p).drop 1 = r at *
  rw [e]
  unfold splitP
  simp only
  rw [if_pos trivial, if_neg hne, List.length_map]
  have hall : ((segs r).all nameL = true) ↔ ∀ s ∈ (segs r).map ba, nameB s = true := by
    rw [List.all_eq_true]
    constructor
    · intro h s hs
      obtain ⟨l, hl, rfl⟩ := List.mem_map.1 hs
      unfold nameB; rw [lb_ba]; exact h l hl
    · intro h l hl
      have := h (ba l) (List.mem_map.2 ⟨l, hl, rfl⟩)
      unfold nameB at this; rw [lb_ba] at this; exact this
  by_cases hq : (segs r).all nameL = true ∧ (segs r).length ≤ 4
  · rw [if_pos hq, if_pos ⟨hall.1 hq.1, hq.2⟩]
  · rw [if_neg hq, if_neg (fun k => hq ⟨hall.2 k.1, k.2⟩)]; rfl
end Go.Proofs.YtoaifodmjkhiiaaDoor
