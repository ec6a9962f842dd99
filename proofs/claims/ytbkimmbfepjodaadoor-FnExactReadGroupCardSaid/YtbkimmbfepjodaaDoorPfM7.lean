/- Texts of ours, laid one behind the other: SfC, SfD0, XeG, XeH, SfD, SfE, SfF. -/
import Derived.Test.YtbkimmbfepjodaaDoorPfM6
set_option linter.unusedVariables false
set_option linter.unusedSimpArgs false
/- From idle to held and back: the call that makes the channel, the receive that finds it closed. -/
namespace Go.Proofs.YtbkimmbfepjodaaDoor
set_option maxRecDepth 100000
open Go.Conc

section
variable {Ls : List Lp} {S : List FuncId} {P : Program} {fr fr' : Frame} {tops tops' : List Frame} {w w' : World}
/-- WHERE ORDINARY STEPS END WHILE NO CHANNEL IS OPEN: at the call that makes one. -/
theorem Idle.spec (h : Idle (okDy P S fr.fn) Ls fr) (hLs : ∀ L ∈ Ls, LqOk P S L) (hm : fr.mode = .run) (hsp : Spec P S fr tops) (h5 : ∀ L ∈ Ls, ∀ j o, j + 1 < L.o5.size → L.o5[j]? = some o → okDy P S fr.fn o.op = true) :
    ∃ L ∈ Ls, ∃ k, (∀ i ∈ k, CalmI (okDy P S fr.fn) Ls i) ∧ fr.todo = .inRegion L.o5 [L.o5.size - 1] :: .code L.loop :: k := by
  rcases hsp with ⟨_, h2⟩ | ⟨_, ops', i', r', k', o, ht', ho', _, hk⟩
  · exact absurd hm h2
  · cases h with
    | plain h =>
      exfalso
      have := h _ (by rw [ht']; exact .head _)
      have := Array.all_eq_true_iff_forall_mem.1 this _ (Array.mem_of_getElem? ho')
      rw [hk] at this
      cases this
    | e1 L hL k hk' e => rw [e] at ht'; simp at ht'
    | e2 L hL k hk' j hj e =>
      refine ⟨L, hL, k, hk', ?_⟩
      have e2 := e
      rw [e, drop_at hj] at ht'
      simp only [List.cons.injEq, Item.inRegion.injEq] at ht'
      obtain ⟨⟨rfl, rfl, _⟩, _⟩ := ht'
      rcases Nat.lt_or_ge (j + 1) L.o5.size with hlt | hge
      · rw [h5 L hL j o hlt ho'] at hk
        cases hk
      · have : j = L.o5.size - 1 := by omega
        subst this
        rw [e2, drop_at hj, List.drop_eq_nil_of_le (by simp; omega)]
    | o4 L hL k hk' z e hv hl =>
      exfalso
      obtain ⟨o1, b1, b2, _⟩ := (hLs L hL).op1
      rw [e] at ht'
      simp only [List.cons.injEq, Item.inRegion.injEq] at ht'
      obtain ⟨⟨rfl, rfl, _⟩, _⟩ := ht'
      rw [b1] at ho'
      cases ho'
      rw [b2] at hk
      simp [okDy, okOp] at hk
    | o5 L hL k hk' e hf => rw [e] at ht'; simp at ht'
    | o6 L hL k hk' e hf => rw [e] at ht'; simp at ht'
    | o7 L hL k hk' e hf => rw [e] at ht'; simp at ht'
    | o8 L hL k hk' e => rw [e] at ht'; simp at ht'
/-- The channel has been made: the frame stands ahead of the loop. -/
theorem made_place {L : Lp} {k : List Item} (c : Nat) (hm : fr.mode = .run) (hf : fr.fn = L.fn) (e : fr.todo = .inRegion L.o5 [L.o5.size - 1] :: .code L.loop :: k) (hd : (L.o5[L.o5.size - 1]?).bind (·.dst) = some L.slot) (h1 : L.slot < fr.tmps.size) (h2 : L.pair < fr.tmps.size) (h3 : L.flag < fr.tmps.size) :
    Place { L with rest := k } c (fr.finish (.chan (some c))) := by
  have hfin : fr.finish (.chan (some c)) = { fr with tmps := fr.tmps.setIfInBounds L.slot (.chan (some c)), todo := .inRegion L.o5 [] :: .code L.loop :: k } := by
    unfold Frame.finish
    rw [e]
    simp only [hd]
  rw [hfin]
  exact ⟨hf, hm, by simp [h1], by simpa using h2, by simpa using h3, .p1 L.o5 rfl⟩
/-- The channel was found closed: the frame is on its way out. -/
theorem shut_idle {ok : Op → Bool} {L : Lp} {c : Nat} {k : List Item} (hL : L ∈ Ls) (hk : ∀ i ∈ k, CalmI ok Ls i) (h : Place { L with rest := k } c fr) (e : fr.todo = .inRegion L.ops [0, 1] :: .code (.seq L.test L.body) :: L.tl k) (hd : (L.ops[0]?).bind (·.dst) = some L.pair) (z : Value) : Idle ok Ls (fr.finish (.tuple #[z, .bool false])) := by
  have hfin : fr.finish (.tuple #[z, .bool false]) = { fr with tmps := fr.tmps.setIfInBounds L.pair (.tuple #[z, .bool false]), todo := .inRegion L.ops [1] :: .code (.seq L.test L.body) :: L.tl k } := by
    unfold Frame.finish
    rw [e]
    simp only [hd]
  have hp : L.pair < fr.tmps.size := h.pair
  have hfl : L.flag < fr.tmps.size := h.flag
  rw [hfin]
  exact .o4 L hL k hk z rfl (by simp [Frame.eval, hp]) (by simpa using hfl)
end
end Go.Proofs.YtbkimmbfepjodaaDoor
/- The loops of each function by themselves: ordinary steps. -/
namespace Go.Proofs.YtbkimmbfepjodaaDoor
set_option maxRecDepth 100000
open Go.Conc

section
variable {ok : Op → Bool} {F : FuncId → List Lp} {S S' : List FuncId} {T : Tables} {f g : Array Func} {P : Program} {fr fr' : Frame} {tops tops' : List Frame} {w w' : World}
theorem finish_fn (fr : Frame) (v : Value) : (fr.finish v).fn = fr.fn := by
  unfold Frame.finish
  split <;> rfl
theorem raise_fn (fr : Frame) (ch : List PanicEntry) : (fr.raise ch).fn = fr.fn := by
  unfold Frame.raise
  split <;> rfl
theorem finish_size (fr : Frame) (v : Value) (hx : ∀ r a k, fr.todo ≠ .extern r a :: k) : (fr.finish v).tmps.size = fr.tmps.size := by
  unfold Frame.finish
  split
  · dsimp only
    split <;> simp
  all_goals first
    | rfl
    | (rename_i e; exact absurd e (hx _ _ _))
theorem ord_extern {okk : Op → Bool} (h : Ord okk S fr) : ∀ r a k, fr.todo ≠ .extern r a :: k := fun r a k e => by
  have := h.items _ (by rw [e]; exact .head _)
  simp [okItem] at this
theorem raise_size (fr : Frame) (ch : List PanicEntry) : (fr.raise ch).tmps.size = fr.tmps.size := by
  unfold Frame.raise
  split <;> rfl
theorem move_fn (h : Move fr fr') : fr'.fn = fr.fn := by
  cases h with
  | same => rfl
  | fin v _ _ => exact finish_fn _ _
  | to k' _ _ => rfl
  | ret _ _ => rfl
  | raise ch => exact raise_fn _ _
theorem move_size (h : Move fr fr') : fr'.tmps.size = fr.tmps.size := by
  cases h with
  | same => rfl
  | fin v _ ht => exact finish_size _ _ (fun r a k e => by rw [ht] at e; cases e)
  | to k' _ _ => rfl
  | ret _ _ => rfl
  | raise ch => exact raise_size _ _
/-- A frame has all the slots of its function. -/
def Sz (P : Program) (fr : Frame) : Prop := ∀ fn, P.funcs[fr.fn]? = some fn → fn.ntmps ≤ fr.tmps.size
theorem sz_near {okk : Op → Bool} (h : Sz P fr) (ht : ∀ t ∈ tops, Sz P t) (ho : ∀ t ∈ tops, Ord okk S t ∧ t.mode = .run) (hn : Near P S fr tops fr' tops') : Sz P fr' ∧ ∀ t ∈ tops', Sz P t := by
  cases hn with
  | move hm =>
    refine ⟨fun fn e => ?_, ht⟩
    rw [move_size hm]
    exact h fn (by rw [← move_fn hm]; exact e)
  | enter x as hm e hi hk hx =>
    refine ⟨fun fn q => ?_, fun t q => ?_⟩
    · have q' : P.funcs[x]? = some fn := q
      simp only [Frame.enter, q', Option.map_some, Option.getD_some, Array.size_append, Array.size_replicate]
      omega
    · rcases List.mem_cons.1 q with rfl | q
      · exact h
      · exact ht t q
  | back v hm =>
    refine ⟨fun fn e => ?_, fun t q => ht t (.tail _ q)⟩
    rw [finish_size _ _ (ord_extern (ho _ (.head _)).1)]
    exact ht _ (.head _) fn (by rw [finish_fn] at e; exact e)
  | up ch hm =>
    refine ⟨fun fn e => ?_, fun t q => ht t (.tail _ q)⟩
    rw [raise_size]
    exact ht _ (.head _) fn (by rw [raise_fn] at e; exact e)
/-- AN ORDINARY STEP WHILE NO CHANNEL IS OPEN, each function with its own loops. -/
theorem Idle.nearF {okk : Op → Bool} {okf : FuncId → Op → Bool} (h : Idle (okf fr.fn) (F fr.fn) fr) (ht : ∀ t ∈ tops, Waits (okf t.fn) (F t.fn) t) (hLs : ∀ x, ∀ L ∈ F x, LqOk P S L) (hsp : ¬ Spec P S fr tops) (ho : Ord okk S fr) (hn : Near P S fr tops fr' tops') {X : List Frame} {es : Array Event} (hst : stepG P true (Gr fr (tops ++ X)) w = .go (Gr fr' (tops' ++ X)) w' es)
    (hent : ∀ x ∈ S, ∀ as, Idle (okf x) (F x) (Frame.enter P x as .normal)) (hc : ∀ ch, fr.mode ≠ .panicking ch) : Idle (okf fr'.fn) (F fr'.fn) fr' ∧ ∀ t ∈ tops', Waits (okf t.fn) (F t.fn) t := by
  have o4 : ∀ L ∈ F fr.fn, ∀ k z, fr.mode = .run → fr.todo = .inRegion L.ops [1] :: .code (.seq L.test L.body) :: L.tl k → fr.eval (.tmp L.pair) = .tuple #[z, .bool false] → fr' = fr.finish (.bool false) ∧ tops' ++ X = tops ++ X := by
    intro L hL k z hm e hv
    obtain ⟨o, b1, b2, _, b4⟩ := (hLs _ L hL).op1
    rw [unlook_step (P := P) (main := true) (cs := tops ++ X) (w := w) ho.round ho.kind hm e b1 b2 (b4 _) hv] at hst
    injection hst with q1 q2 q3
    injection q1 with q4 q5
    exact ⟨q4.symm, q5.symm⟩
  cases hn with
  | move hm =>
    rw [move_fn hm]
    by_cases hmd : fr.mode = .run
    · exact ⟨h.move (hLs _) hsp hm (fun L hL k z e hv => (o4 L hL k z hmd e hv).1), ht⟩
    · refine ⟨?_, ht⟩
      cases hm with
      | same => exact h
      | raise ch => unfold Frame.raise; split <;> exact h.as rfl rfl
      | ret q _ => exact absurd q hmd
      | fin v q _ => exact absurd q hmd
      | to k' q _ => exact absurd q hmd
  | enter x as hm e hi hk hx =>
    refine ⟨hent x hx.1 as, fun t hq => ?_⟩
    rcases List.mem_cons.1 hq with rfl | hq
    · refine ⟨?_, hm, _, _, _, _, e⟩
      cases h with
      | plain h => exact .plain h
      | e1 L hL k hk' e' => rw [e'] at e; simp at e
      | e2 L hL k hk' j hj e' =>
        refine .e2 L hL k hk' j ?_ e'
        rcases Nat.lt_or_ge (j + 1) L.o5.size with hlt | hge
        · exact hlt
        · exfalso
          obtain ⟨o, q1, q2, _⟩ := (hLs _ L hL).last
          rw [e', drop_at hj] at e
          simp only [List.cons.injEq, Item.inRegion.injEq] at e
          obtain ⟨⟨rfl, rfl, _⟩, _⟩ := e
          have : L.o5.size - 1 = j := by omega
          rw [this, hi] at q1
          cases q1
          rw [q2] at hk
          cases hk
      | o4 L hL k hk' z e' hv hl =>
        exfalso
        obtain ⟨_, q⟩ := o4 L hL k z hm e' hv
        have := congrArg List.length q
        simp at this
      | o5 L hL k hk' e' hf => rw [e'] at e; simp at e
      | o6 L hL k hk' e' hf => rw [e'] at e; simp at e
      | o7 L hL k hk' e' hf => rw [e'] at e; simp at e
      | o8 L hL k hk' e' => rw [e'] at e; simp at e
    · exact ht t hq
  | back v hm =>
    have hw := ht _ (.head _)
    obtain ⟨ops, i, r, k, e⟩ := hw.spot
    refine ⟨?_, fun t q => ht t (.tail _ q)⟩
    rw [finish_fn]
    exact hw.idle.fin v hw.mode e
  | up ch hm => exact absurd hm (hc ch)
theorem LpOk.rest {L : Lp} (h : LpOk P S S' L) (k : List Item) : LpOk P S S' { L with rest := k } := ⟨h.ok, h.sub, h.size, h.body, h.op0, h.op1, h.pair, h.flag⟩
end
end Go.Proofs.YtbkimmbfepjodaaDoor
/- The slots of functions hold what they are to hold, through ordinary steps. -/
namespace Go.Proofs.YtbkimmbfepjodaaDoor
set_option maxRecDepth 100000
open Go.Conc

/-- A call of function y is handed what y's slots are to hold. -/
def slCall (x : FuncId) (o : Op) : Bool :=
  match o with
  | .call { callee := .value (.func y), args := as, .. } => (List.range as.size).all fun p => match slotK y p with
    | none => true
    | some k => match as[p]? with
      | some (.tmp s) => slotK x s == some k
      | _ => false
  | _ => true
/-- An operation that makes what a slot is to hold. -/
def slMake (x : FuncId) (k : VK) (o : Op) : Bool :=
  match o with
  | .makeFunc (.func y) _ _ => k == .fn y
  | .makeInterface t _ => k == .ifc t
  | .move (.tmp s) => slotK x s == some k
  | .assign (.tmp s) => slotK x s == some k
  | _ => false
def slOper (x : FuncId) (o : Oper) : Bool := slCall x o.op && (match o.dst with
  | none => true
  | some s => match slotK x s with
    | none => true
    | some k => slMake x k o.op)
def slCode (x : FuncId) : Code → Bool
  | .skip | .ret | .exit _ => true
  | .region _ ops _ => ops.all (slOper x)
  | .seq a b => slCode x a && slCode x b
  | .cond _ a b => slCode x a && slCode x b
  | .block _ c => slCode x c
  | .loop c => slCode x c
  | .scope c => slCode x c
  | _ => false
def slItem (x : FuncId) : Item → Bool
  | .code c => slCode x c
  | .inBlock _ => true
  | .inLoop c => slCode x c
  | .inScope c => slCode x c
  | .inRegion ops _ => ops.all (slOper x)
  | _ => false
/-- A frame whose slots hold what they are to hold. -/
structure Gd (fr : Frame) : Prop where
  val : Gv fr.fn fr.eval
  items : ∀ i ∈ fr.todo, slItem fr.fn i = true
def isCall (o : Op) : Bool := match o with
  | .call _ => true
  | _ => false
/-- .. that waits for a call. -/
structure Gw (t : Frame) : Prop where
  gd : Gd t
  call : ∃ ops i r k o, t.todo = .inRegion ops (i :: r) :: k ∧ ops[i]? = some o ∧ isCall o.op = true
section
variable {okk : Op → Bool} {S : List FuncId} {T : Tables} {f g : Array Func} {P : Program} {fr fr' : Frame} {tops tops' : List Frame} {w w' : World}
theorem vk_undef (k : VK) : VK.ok k undef := by cases k <;> exact .inl rfl
theorem oper_of (h : ∀ i ∈ fr.todo, slItem fr.fn i = true) {ops : Array Oper} {l : List Nat} {k : List Item} {i : Nat} {o : Oper} (e : fr.todo = .inRegion ops l :: k) (ho : ops[i]? = some o) : slOper fr.fn o = true := by
  have hi := h _ (by rw [e]; exact .head _)
  exact Array.all_eq_true_iff_forall_mem.1 hi _ (Array.mem_of_getElem? ho)
theorem Gd.set (h : Gd fr) {d : Nat} {v : Value} (hv : ∀ k, slotK fr.fn d = some k → VK.ok k v) : Gv fr.fn (fun o => Frame.eval { fr with tmps := fr.tmps.setIfInBounds d v } o) := by
  intro s k hk
  show VK.ok k ((fr.tmps.setIfInBounds d v).getD s undef)
  by_cases e : d = s
  · subst e
    by_cases hlt : d < fr.tmps.size
    · have : (fr.tmps.setIfInBounds d v).getD d undef = v := by simp [Array.getD_eq_getD_getElem?, hlt]
      rw [this]
      exact hv k hk
    · have : (fr.tmps.setIfInBounds d v).getD d undef = undef := by simp [Array.getD_eq_getD_getElem?, hlt]
      rw [this]
      exact vk_undef k
  · have : (fr.tmps.setIfInBounds d v).getD s undef = fr.tmps.getD s undef := by simp [Array.getD_eq_getD_getElem?, Array.getElem?_setIfInBounds_ne e]
    rw [this]
    exact h.val s k hk
theorem Gd.finish (h : Gd fr) (v : Value) (hne : ∀ r a k, fr.todo ≠ .extern r a :: k) (hv : ∀ ops i r k o s kk, fr.todo = .inRegion ops (i :: r) :: k → ops[i]? = some o → o.dst = some s → slotK fr.fn s = some kk → VK.ok kk v) : Gd (fr.finish v) := by
  have hi := h.items
  unfold Frame.finish
  split
  · rename_i ops i rest k e
    refine ⟨?_, fun x hx => ?_⟩
    · cases ho : (ops[i]?).bind (·.dst) with
      | none => exact h.val
      | some d =>
        obtain ⟨o, h1, h2⟩ := Option.bind_eq_some_iff.1 ho
        exact h.set (fun kk hk => hv _ _ _ _ _ _ _ e h1 h2 hk)
    · rcases List.mem_cons.1 hx with rfl | hx
      · exact hi (.inRegion ops (i :: rest)) (by rw [e]; exact .head _)
      · exact hi x (by rw [e]; exact .tail _ hx)
  all_goals first
    | exact h
    | (rename_i e; exact absurd e (hne _ _ _))
    | (rename_i e
       have := hi _ (by rw [e]; exact .head _)
       simp [slItem] at this)
theorem Gd.raise (h : Gd fr) (ch : List PanicEntry) : Gd (fr.raise ch) := by
  unfold Frame.raise
  split <;> exact ⟨h.val, h.items⟩
theorem Gd.ctl (h : Gd fr) {k' : List Item} (hc : Ctl fr k') : Gd { fr with todo := k' } := by
  refine ⟨h.val, ?_⟩
  have hi := h.items
  show ∀ i ∈ k', slItem fr.fn i = true
  unfold Ctl at hc
  have two : ∀ {a b : Item} {k : List Item}, slItem fr.fn a = true → slItem fr.fn b = true → (∀ i ∈ k, slItem fr.fn i = true) → ∀ i ∈ a :: b :: k, slItem fr.fn i = true := by
    intro a b k ha hb hk i q
    rcases List.mem_cons.1 q with rfl | q
    · exact ha
    · rcases List.mem_cons.1 q with rfl | q
      · exact hb
      · exact hk i q
  have one : ∀ {a : Item} {k : List Item}, slItem fr.fn a = true → (∀ i ∈ k, slItem fr.fn i = true) → ∀ i ∈ a :: k, slItem fr.fn i = true := by
    intro a k ha hk i q
    rcases List.mem_cons.1 q with rfl | q
    · exact ha
    · exact hk i q
  split at hc
  all_goals first
    | (rename_i e; rw [e] at hi; have hk := fun i q => hi i (.tail _ q); have h0 := hi _ (.head _))
    | skip
  all_goals first
    | (subst hc; exact hk)
    | (subst hc; exact two h0 h0 hk)
    | (subst hc; exact one h0 hk)
    | (subst hc; exact two h0 (by rfl) hk)
    | (subst hc; exact two (Bool.and_eq_true_iff.1 h0).1 (Bool.and_eq_true_iff.1 h0).2 hk)
    | (obtain ⟨l, _, rfl⟩ := hc; exact one h0 hk)
    | (obtain ⟨v, _, rfl⟩ := hc; exact one (by cases v <;> first | exact (Bool.and_eq_true_iff.1 h0).1 | exact (Bool.and_eq_true_iff.1 h0).2) hk)
    | (exact fun i q => hk i (exitTo_sub hc i q))
    | exact hc.elim
theorem not_slotted (h : Gd fr) {ops : Array Oper} {l : List Nat} {k : List Item} {i : Nat} {o : Oper} (e : fr.todo = .inRegion ops l :: k) (ho : ops[i]? = some o) (hm : ∀ kk, slMake fr.fn kk o.op = false) {s : Nat} {kk : VK} (hd : o.dst = some s) : slotK fr.fn s ≠ some kk := by
  intro hk
  have := (Bool.and_eq_true_iff.1 (oper_of h.items e ho)).2
  rw [hd] at this
  dsimp only at this
  rw [hk] at this
  dsimp only at this
  rw [hm] at this
  cases this
/-- An operation that makes nothing of the kind. -/
theorem Gd.fin (h : Gd fr) {ops : Array Oper} {i : Nat} {r : List Nat} {k : List Item} {o : Oper} (e : fr.todo = .inRegion ops (i :: r) :: k) (ho : ops[i]? = some o) (hm : ∀ kk, slMake fr.fn kk o.op = false) (v : Value) : Gd (fr.finish v) :=
  h.finish v (fun _ _ _ q => by rw [e] at q; cases q) (fun ops' i' r' k' o' s kk q ho' hd hk => by
    rw [e] at q
    cases q
    rw [ho] at ho'
    cases ho'
    exact absurd hk (not_slotted h e ho hm hd))
theorem make_call {x : FuncId} {o : Op} (h : isCall o = true) (kk : VK) : slMake x kk o = false := by
  unfold isCall at h
  split at h
  · rfl
  · cases h
theorem Gw.finish {t : Frame} (h : Gw t) (v : Value) : Gd (t.finish v) := by
  obtain ⟨ops, i, r, k, o, e, ho, hc⟩ := h.call
  exact h.gd.fin e ho (make_call hc) v
end
end Go.Proofs.YtbkimmbfepjodaaDoor
/- The slots of functions hold what they are to hold: an ordinary step. -/
namespace Go.Proofs.YtbkimmbfepjodaaDoor
set_option maxRecDepth 100000
open Go.Conc

section
variable {okk : Op → Bool} {S : List FuncId} {T : Tables} {f g : Array Func} {P : Program} {fr fr' : Frame} {tops tops' x y : List Frame} {w w' : World}
theorem value_step {s : Sem Next} {v0 : Value} {w1 : World} {es es1 : Array Event} (hkd : fr.kind = .normal) (e : s.runT P w #[] = (.ok (.value v0) w1, es1)) (hst : stepG.apply P true fr x none s w = .go (Gr fr' y) w' es) : fr' = fr.finish v0 := by
  simp [-Sem.runT_eq, stepG.apply, e, GStep.after, hkd] at hst
  exact hst.1.1.symm
theorem enter_step {s : Sem Next} {z : FuncId} {as : Array Value} {w1 : World} {es es1 : Array Event} (hkd : fr.kind = .normal) {ops : Array Oper} {i : Nat} {r : List Nat} {k : List Item} (ht : fr.todo = .inRegion ops (i :: r) :: k) (e : s.runT P w #[] = (.ok (.enter z as) w1, es1)) (hst : stepG.apply P true fr x none s w = .go (Gr fr' y) w' es) : fr' = Frame.enter P z as .normal := by
  simp [-Sem.runT_eq, stepG.apply, e, GStep.after, hkd, ht] at hst
  exact hst.1.1.symm
theorem stuck_step {s : Sem Next} {m : String} {w1 : World} {es es1 : Array Event} (e : s.runT P w #[] = (.halt (.stuck m) w1, es1)) (hst : stepG.apply P true fr x none s w = .go (Gr fr' y) w' es) : False := by
  simp [-Sem.runT_eq, stepG.apply, e, GStep.after] at hst
/-- What a slot's own operation makes. -/
theorem make_step (h : Gd fr) {o : Oper} {kk : VK} (hm : slMake fr.fn kk o.op = true) (hkd : fr.kind = .normal) {es : Array Event} (hst : stepG.apply P true fr x none (execOp fr.eval o) w = .go (Gr fr' y) w' es) : ∃ v0, VK.ok kk v0 ∧ fr' = fr.finish v0 := by
  unfold slMake at hm
  split at hm
  · rename_i z fi ca e
    have e1 : execOp fr.eval o = pure (.value (.func (.func z) (fi.map fr.eval) (ca.map fr.eval))) := by
      unfold execOp
      simp only [e]
      rfl
    rw [e1] at hst
    refine ⟨_, ?_, value_step hkd (s := pure _) rfl hst⟩
    rw [show kk = .fn z by simpa using hm]
    exact .inr ⟨_, _, rfl⟩
  · rename_i t a e
    have e1 : execOp fr.eval o = (do pure (.value (← Instr.makeInterface t (fr.eval a)))) := by
      unfold execOp
      simp only [e]
    rw [e1] at hst
    unfold Instr.makeInterface underlying at hst
    cases hu : P.underlying t with
    | none =>
      refine (stuck_step (m := "no such type") (w1 := w) (es1 := #[]) ?_ hst).elim
      simp only [bind_assoc]
      show ((match P.underlying t with | some d => pure d | none => stuck "no such type") >>= _ : Sem Next).runT P w #[] = _
      rw [hu]
      rfl
    | some d =>
      by_cases hd : ∃ ms, d = .interface ms
      · obtain ⟨ms, rfl⟩ := hd
        refine (stuck_step (m := "MakeInterface: a concrete type expected") (w1 := w) (es1 := #[]) ?_ hst).elim
        simp only [bind_assoc]
        show ((match P.underlying t with | some d => pure d | none => stuck "no such type") >>= _ : Sem Next).runT P w #[] = _
        rw [hu]
        rfl
      · refine ⟨.iface t (fr.eval a), ?_, value_step (w1 := w) (es1 := #[]) hkd ?_ hst⟩
        · rw [show kk = .ifc t by simpa using hm]
          exact .inr ⟨_, rfl⟩
        · simp only [bind_assoc]
          show ((match P.underlying t with | some d => pure d | none => stuck "no such type") >>= _ : Sem Next).runT P w #[] = _
          rw [hu]
          cases d <;> first | exact absurd ⟨_, rfl⟩ hd | rfl
  · rename_i s e
    have e1 : execOp fr.eval o = pure (.value (fr.eval (.tmp s))) := by
      unfold execOp
      simp only [e]
    rw [e1] at hst
    exact ⟨_, h.val s kk (by simpa using hm), value_step hkd (s := pure _) rfl hst⟩
  · rename_i s e
    have e1 : execOp fr.eval o = pure (.value (fr.eval (.tmp s))) := by
      unfold execOp
      simp only [e]
    rw [e1] at hst
    exact ⟨_, h.val s kk (by simpa using hm), value_step hkd (s := pure _) rfl hst⟩
  · cases hm
theorem slip_step (hr : fr.roundOf = none) (hm : fr.mode = .run) {ops : Array Oper} {i : Nat} {r : List Nat} {k : List Item} {o : Oper} (ht : fr.todo = .inRegion ops (i :: r) :: k) (ho : ops[i]? = some o) (hw : Region.wanted o (yielded ops fr.tmps) = false) {es : Array Event}
    (hst : stepG P true (Gr fr x) w = .go (Gr fr' y) w' es) : fr' = fr.finish undef := by
  obtain ⟨fn', tmps, todo, defers, mode, kind, round⟩ := fr
  simp only at hr hm ht hw
  subst hr hm ht
  simp [stepG, stepG.exec, ho, hw] at hst
  exact hst.1.1.symm
theorem run_call {z : FuncId} {fn : Func} (k2 : P.funcs[z]? = some fn) (k3 : fn.body.isNone = false) (k4 : (fn.name == "runtime.NumGoroutine") = false) (l : Array Value) (w : World) : (callFunc z l).runT P w #[] = (.ok (.enter z l) w, #[]) := by
  unfold callFunc
  show ((match P.funcs[z]? with | none => stuck "call: no such function" | some fn => _ : Sem Next)).runT P w #[] = _
  rw [k2]
  dsimp only
  rw [k4, if_neg (by simp), k3, if_neg (by simp)]
  rfl
theorem okop_call {o : Op} (h1 : okDy P S fr.fn o = true) (h2 : okDy P [] fr.fn o = false) : isCall o = true := by
  unfold okDy at h1 h2
  cases hd : dynTo P fr.fn o with
  | some z =>
    unfold dynTo at hd
    split at hd
    · rfl
    · rfl
    · cases hd
  | none =>
    rw [hd] at h1 h2
    simp only [Bool.or_false] at h1 h2
    unfold okOp at h1 h2
    split at h1 <;> first | rfl | (simp at h2; done) | (simp_all; done) | skip
/-- What is asked of the functions S. -/
def Sl (P : Program) (S : List FuncId) : Prop := ∀ x ∈ S, ∃ fn, P.funcs[x]? = some fn ∧ fn.body.isNone = false ∧ (fn.name == "runtime.NumGoroutine") = false ∧ slCode x (fn.body.getD .skip) = true
theorem enter_items {x : FuncId} {as : Array Value} {kd : CallKind} {fn : Func} (k2 : P.funcs[x]? = some fn) (k3 : fn.body.isNone = false) (k5 : slCode x (fn.body.getD .skip) = true) : ∀ i ∈ (Frame.enter P x as kd).todo, slItem x i = true := by
  intro i hi
  unfold Frame.enter at hi
  dsimp only at hi
  rw [k2] at hi
  cases hb : fn.body with
  | none => rw [hb] at k3; cases k3
  | some c =>
    rw [hb] at k5
    simp only [Option.bind_some, hb, Option.getD_some, List.mem_singleton] at hi
    subst hi
    exact k5
theorem enter_eval {x : FuncId} {as : Array Value} {kd : CallKind} (p : Nat) : (Frame.enter P x as kd).eval (.tmp p) = (as[p]?).getD undef := by
  show (as ++ Array.replicate _ undef).getD p undef = _
  rw [Array.getD_eq_getD_getElem?]
  by_cases h : p < as.size
  · rw [Array.getElem?_append_left h]
  · rw [Array.getElem?_append_right (by omega), show as[p]? = none by simp; omega]
    rw [Array.getElem?_replicate]
    split <;> rfl
/-- AN ORDINARY STEP KEEPS THE SLOTS. -/
theorem gd_near (hS : Sl P S) (h : Gd fr) (ht : ∀ t ∈ tops, Gw t) (ho : Ord okk S fr) (hn : Near P S fr tops fr' tops') {X : List Frame} {es : Array Event} (hst : stepG P true (Gr fr (tops ++ X)) w = .go (Gr fr' (tops' ++ X)) w' es) : Gd fr' ∧ ∀ t ∈ tops', Gw t := by
  have hne : ∀ r a k, fr.todo ≠ .extern r a :: k := ord_extern ho
  cases hn with
  | move hm =>
    refine ⟨?_, ht⟩
    cases hm with
    | same => exact h
    | to k' _ hc => exact h.ctl hc
    | ret _ _ => exact ⟨h.val, h.items⟩
    | raise ch => exact h.raise ch
    | fin v hm' hto =>
      rename_i ops i r k
      by_cases hs : ∃ o s kk, ops[i]? = some o ∧ o.dst = some s ∧ slotK fr.fn s = some kk
      · obtain ⟨o, s, kk, h1, h2, h3⟩ := hs
        have hmk : slMake fr.fn kk o.op = true := by
          have q := (Bool.and_eq_true_iff.1 (oper_of h.items hto h1)).2
          rw [h2] at q
          dsimp only at q
          rw [h3] at q
          exact q
        have key : ∀ v0, VK.ok kk v0 → Gd (fr.finish v0) := fun v0 hv => h.finish v0 hne (fun ops' i' r' k' o' s' kk' q ho' hd hk => by
          rw [hto] at q
          cases q
          rw [h1] at ho'
          cases ho'
          rw [h2] at hd
          cases hd
          rw [h3] at hk
          cases hk
          exact hv)
        by_cases hw : Region.wanted o (yielded ops fr.tmps) = true
        · rw [step_op ho.round hm' hto h1 hw] at hst
          obtain ⟨v0, hv, e⟩ := make_step h hmk ho.kind hst
          rw [e]
          exact key v0 hv
        · have e := slip_step ho.round hm' hto h1 (by simpa using hw) hst
          rw [e]
          exact key _ (vk_undef kk)
      · exact h.finish v hne (fun ops' i' r' k' o' s' kk' q ho' hd hk => by
          rw [hto] at q
          cases q
          exact absurd ⟨o', s', kk', ho', hd, hk⟩ hs)
  | enter x as hm hto hi hk hx =>
    rename_i o ops i r k
    have hnil : okDy P [] fr.fn o.op = false := by
      cases q : okDy P [] fr.fn o.op with
      | false => rfl
      | true => exact absurd (hx.2 [] (fun _ q => by cases q) q) (by simp)
    have hcall := okop_call hk hnil
    refine ⟨?_, fun t q => ?_⟩
    · obtain ⟨fn, k2, k3, k4, k5⟩ := hS x hx.1
      cases hd : dynTo P fr.fn o.op with
      | some z =>
        have hz : (S.contains z && noSlots z) = true := by
          have hk' := hk
          unfold okDy at hk' hnil
          rw [hd] at hk' hnil
          rcases Bool.or_eq_true_iff.1 hk' with q | q
          · exfalso
            unfold dynTo at hd
            split at hd
            · rename_i e; rw [e] at q; cases q
            · rename_i e; rw [e] at q; cases q
            · cases hd
          · exact q
        obtain ⟨z1, z2⟩ := Bool.and_eq_true_iff.1 hz
        have hxz : x ∈ [z] := hx.2 [z] (fun y hy => by rw [List.mem_singleton] at hy; subst hy; simpa using z1) (by
          unfold okDy
          rw [hd]
          simp [z2])
        rw [List.mem_singleton] at hxz
        subst hxz
        exact ⟨fun s kk hk' => (by rw [show slotK (Frame.enter P x as .normal).fn s = none from no_slots z2 s] at hk'; cases hk'), enter_items k2 k3 k5⟩
      | none =>
        have hop : okOp P S o.op = true := by
          unfold okDy at hk
          rw [hd] at hk
          simpa using hk
        have hop' : okOp P [] o.op = false := by
          unfold okDy at hnil
          rw [hd] at hnil
          simpa using hnil
        have hsl := (Bool.and_eq_true_iff.1 (oper_of h.items hto hi)).1
        have hw : Region.wanted o (yielded ops fr.tmps) = true := by
          cases q : Region.wanted o (yielded ops fr.tmps) with
          | true => rfl
          | false =>
            exfalso
            obtain ⟨fn', tmps, todo, defers, mode, kind, round⟩ := fr
            have hr := ho.round
            simp only at hr hm hto q
            subst hr hm hto
            simp [stepG, stepG.exec, hi, q] at hst
        rw [step_op ho.round hm hto hi hw] at hst
        generalize hoo : o.op = oo at *
        unfold isCall at hcall
        split at hcall
        case h_2 => cases hcall
        rename_i cl
        obtain ⟨callee, as0, ts⟩ := cl
        cases callee with
        | builtin b => exfalso; have : okOp P [] (.call ⟨.builtin b, as0, ts⟩) = okOp P S (.call ⟨.builtin b, as0, ts⟩) := rfl; rw [hop, hop'] at this; cases this
        | invoke rc nm => cases hop
        | value v =>
          cases v with
          | tmp s => cases hop
          | const c => cases hop
          | global gg => cases hop
          | func z =>
            have hz : z ∈ S := by simpa [okOp] using hop
            obtain ⟨fz, z2, z3, z4, z5⟩ := hS z hz
            have e1 : execOp fr.eval o = callFunc z ((#[] ++ as0.map fr.eval) ++ #[]) := by
              unfold execOp
              simp only [hoo]
              rfl
            rw [e1] at hst
            have e2 := enter_step ho.kind hto (run_call z2 z3 z4 _ w) hst
            rw [e2]
            refine ⟨fun p kk hk' => ?_, enter_items z2 z3 z5⟩
            rw [enter_eval]
            have e3 : ((#[] ++ as0.map fr.eval) ++ #[] : Array Value) = as0.map fr.eval := by simp
            rw [e3]
            by_cases hp : p < as0.size
            · have hc := List.all_eq_true.1 hsl p (List.mem_range.2 hp)
              rw [show slotK z p = some kk from hk'] at hc
              dsimp only at hc
              cases ha : as0[p]? with
              | none => rw [ha] at hc; cases hc
              | some a =>
                rw [ha] at hc
                rw [Array.getElem?_map, ha]
                cases a with
                | tmp s => exact h.val s kk (by simpa using hc)
                | const c => cases hc
                | global gg => cases hc
                | func ff => cases hc
            · rw [show (as0.map fr.eval)[p]? = none by simp; omega]
              exact vk_undef kk
    · rcases List.mem_cons.1 q with rfl | q
      · exact ⟨h, ops, i, r, k, o, hto, hi, hcall⟩
      · exact ht t q
  | back v hm =>
    exact ⟨(ht _ (.head _)).finish v, fun t q => ht t (.tail _ q)⟩
  | up ch hm =>
    exact ⟨(ht _ (.head _)).gd.raise ch, fun t q => ht t (.tail _ q)⟩
end
end Go.Proofs.YtbkimmbfepjodaaDoor
/- The loops of each function by themselves: what is held of all frames. -/
namespace Go.Proofs.YtbkimmbfepjodaaDoor
set_option maxRecDepth 100000
open Go.Conc

/-- WHAT THE CODE MUST SAY OF THE PROGRAM g AND ITS TWIN f: F x are the loops over channels in function x. -/
structure Env (T : Tables) (f g : Array Func) (ok : Op → Bool) (S S' : List FuncId) (F : FuncId → List Lp) : Prop where
  fine : ∀ x ∈ S, Fine ok f g x
  fine' : ∀ x ∈ S', Fine (okOp ⟨T, f⟩ S') f f x
  st : ∀ b, (⟨T, f⟩ : Program).stepOf b = none
  st₁ : ∀ b, (⟨T, g⟩ : Program).stepOf b = none
  lp : ∀ x, ∀ L ∈ F x, LpOk ⟨T, f⟩ S S' L
  lq : ∀ x, ∀ L ∈ F x, LqOk ⟨T, f⟩ S L
  o5 : ∀ x, ∀ L ∈ F x, ∀ j o, j + 1 < L.o5.size → L.o5[j]? = some o → okOp ⟨T, f⟩ S o.op = true
  fn : ∀ x, ∀ L ∈ F x, L.fn = x
  dst : ∀ x, ∀ L ∈ F x, (L.o5[L.o5.size - 1]?).bind (·.dst) = some L.slot
  sz : ∀ x, ∀ L ∈ F x, ∀ fn, f[x]? = some fn → L.slot < fn.ntmps ∧ L.pair < fn.ntmps ∧ L.flag < fn.ntmps
  ent : ∀ x ∈ S, ∀ as, Idle (okDy ⟨T, f⟩ S x) (F x) (Frame.enter ⟨T, f⟩ x as .normal)
  sl : Sl ⟨T, f⟩ S
  cl : ∀ x, ∀ L ∈ F x, ∀ o, L.o5[L.o5.size - 1]? = some o → isCall o.op = true
  rc : ∀ x, ∀ L ∈ F x, ∃ o ct el d z, L.ops[0]? = some o ∧ o.op = .recv ct (.tmp L.slot) true ∧ (∀ y, Region.wanted o y = true) ∧
    ∀ P : Program, (P = ⟨T, f⟩ ∨ P = ⟨T, g⟩) → (∀ w es, (underlying ct).runT P w es = (.ok (.chan d el) w, es)) ∧ ∀ w es, (zeroValue el).runT P w es = (.ok z w, es)
section
variable {ok : Op → Bool} {F : FuncId → List Lp} {S S' : List FuncId} {T : Tables} {f g : Array Func} {fr fr' : Frame} {tops tops' : List Frame} {w w' : World}
/-- No channel is open. -/
structure Id (T : Tables) (f : Array Func) (S : List FuncId) (F : FuncId → List Lp) (fr : Frame) (tops : List Frame) : Prop where
  top : Idle (okDy ⟨T, f⟩ S fr.fn) (F fr.fn) fr
  low : ∀ t ∈ tops, Waits (okDy ⟨T, f⟩ S t.fn) (F t.fn) t
  sz : Sz ⟨T, f⟩ fr
  szt : ∀ t ∈ tops, Sz ⟨T, f⟩ t
  gd : Gd fr
  gdt : ∀ t ∈ tops, Gw t
/-- A loop over channel c runs. -/
structure Hd (T : Tables) (f : Array Func) (S S' : List FuncId) (F : FuncId → List Lp) (c : Nat) (fr : Frame) (tops : List Frame) : Prop where
  held : ∃ x, ∃ L ∈ F x, ∃ k, (∀ i ∈ k, CalmI (okDy ⟨T, f⟩ S x) (F x) i) ∧ Held S' (fun t => Waits (okDy ⟨T, f⟩ S t.fn) (F t.fn) t) { L with rest := k } c fr tops
  sz : Sz ⟨T, f⟩ fr
  szt : ∀ t ∈ tops, Sz ⟨T, f⟩ t
  gd : Gd fr
  gdt : ∀ t ∈ tops, Gw t
theorem Env.ff (h : Env T f g ok S S' F) : ∀ x ∈ S, Fine ok f f x := fun x hx => ⟨⟨rfl, (h.fine x hx).1.2⟩, (h.fine x hx).2⟩
theorem Id.near {Fin : Frame → World → Prop} (hE : Env T f g ok S S' F) (h : Id T f S F fr tops) (ho : Ord ok S fr) (htops : ∀ t ∈ tops, Ord ok S t ∧ t.mode = .run) (hsp : ¬ Spec ⟨T, f⟩ S fr tops) (hn : Near ⟨T, f⟩ S fr tops fr' tops') {X : List Frame} {es : Array Event}
    (hst : stepG ⟨T, f⟩ true (Gr fr (tops ++ X)) w = .go (Gr fr' (tops' ++ X)) w' es) (hc : ∀ ch, fr.mode ≠ .panicking ch) : Id T f S F fr' tops' := by
  obtain ⟨h1, h2⟩ := h.top.nearF h.low hE.lq hsp ho hn hst hE.ent hc
  obtain ⟨h3, h4⟩ := sz_near h.sz h.szt htops hn
  obtain ⟨h5, h6⟩ := gd_near hE.sl h.gd h.gdt ho hn hst
  exact ⟨h1, h2, h3, h4, h5, h6⟩
theorem Hd.near {c : Nat} (hE : Env T f g ok S S' F) (h : Hd T f S S' F c fr tops) (ho : Ord ok S fr) (htops : ∀ t ∈ tops, Ord ok S t ∧ t.mode = .run) (hsp : ¬ Spec ⟨T, f⟩ S fr tops) (hn : Near ⟨T, f⟩ S fr tops fr' tops') {X : List Frame} {es : Array Event}
    (hst : stepG ⟨T, f⟩ true (Gr fr (tops ++ X)) w = .go (Gr fr' (tops' ++ X)) w' es) (hc : ∀ ch, fr.mode ≠ .panicking ch) (hc' : ∀ ch, fr'.mode ≠ .panicking ch) : Hd T f S S' F c fr' tops' := by
  obtain ⟨x, L, hL, k, hk, hh⟩ := h.held
  obtain ⟨h3, h4⟩ := sz_near h.sz h.szt htops hn
  obtain ⟨h5, h6⟩ := gd_near hE.sl h.gd h.gdt ho hn hst
  refine ⟨⟨x, L, hL, k, hk, hh.near ((hE.lp x L hL).rest k) ho hsp hn hst ?_ hc hc'⟩, h3, h4, h5, h6⟩
  show ∀ y ∈ S', Fine L.ok f f y
  rw [(hE.lp x L hL).ok]
  exact hE.fine'
end
end Go.Proofs.YtbkimmbfepjodaaDoor
/- The twin's tree, with its three leaps: a value is taken, the channel is found closed, a channel is made. -/
namespace Go.Proofs.YtbkimmbfepjodaaDoor
set_option maxRecDepth 100000
open Go.Conc

section
variable {ok : Op → Bool} {F : FuncId → List Lp} {S S' : List FuncId} {T : Tables} {f g : Array Func} {fr fr' : Frame} {tops tops' : List Frame} {w w' : World} {V : Lp → Frame → List Value → Prop} {Fin : Frame → World → Prop}
/-- The leaps. 'V L fr vs': vs is what is sent over the channel that fr's call makes. -/
inductive Jump (T : Tables) (f : Array Func) (S : List FuncId) (F : FuncId → List Lp) (V : Lp → Frame → List Value → Prop) : Frame → List Frame → World → Frame → List Frame → World → Prop
  | take {fr : Frame} {tops : List Frame} {w : World} (x : FuncId) (L : Lp) (hL : L ∈ F x) (k : List Item) (c cap s r : Nat) (v : Value) (vs : List Value) (hm : fr.mode = .run) (hsp : Spec ⟨T, f⟩ S fr tops) (e : fr.todo = .inRegion L.ops [0, 1] :: .code (.seq L.test L.body) :: L.tl k) (hs : fr.tmps[L.slot]? = some (.chan (some c)))
      (hc : w.heap[c]? = some (.chan cap (v :: vs).toArray true s r false)) (hl : Leap ⟨T, f⟩ fr tops w (fr.finish (.tuple #[v, .bool true])) tops (w.setChan c cap vs.toArray true s (r + 1) false)) :
      Jump T f S F V fr tops w (fr.finish (.tuple #[v, .bool true])) tops (w.setChan c cap vs.toArray true s (r + 1) false)
  | shut {fr : Frame} {tops : List Frame} {w : World} (x : FuncId) (L : Lp) (hL : L ∈ F x) (k : List Item) (c cap s r : Nat) (z : Value) (hm : fr.mode = .run) (hsp : Spec ⟨T, f⟩ S fr tops) (e : fr.todo = .inRegion L.ops [0, 1] :: .code (.seq L.test L.body) :: L.tl k) (hs : fr.tmps[L.slot]? = some (.chan (some c)))
      (hc : w.heap[c]? = some (.chan cap #[] true s r false)) (hz : AtRc ⟨T, f⟩ fr c z) (hl : Leap ⟨T, f⟩ fr tops w (fr.finish (.tuple #[z, .bool false])) tops w) :
      Jump T f S F V fr tops w (fr.finish (.tuple #[z, .bool false])) tops w
  | made {fr : Frame} {tops : List Frame} {w : World} (L : Lp) (hL : L ∈ F fr.fn) (k : List Item) (vs : List Value) (cap n : Nat) (hv : V L fr vs) (hm : fr.mode = .run) (hsp : Spec ⟨T, f⟩ S fr tops) (e : fr.todo = .inRegion L.o5 [L.o5.size - 1] :: .code L.loop :: k) (hk : ∀ i ∈ k, CalmI (okDy ⟨T, f⟩ S fr.fn) (F fr.fn) i)
      (hl : Leap ⟨T, f⟩ fr tops w (fr.finish (.chan (some w.heap.size))) tops (w.alloc (.chan cap vs.toArray true n 0 false))) :
      Jump T f S F V fr tops w (fr.finish (.chan (some w.heap.size))) tops (w.alloc (.chan cap vs.toArray true n 0 false))
/-- WHAT THE TWIN'S CALL OF CELLS DOES. -/
def CallT (T : Tables) (f : Array Func) (ok : Op → Bool) (S : List FuncId) (F : FuncId → List Lp) (V : Lp → Frame → List Value → Prop) : Prop :=
  ∀ (fr : Frame) (tops : List Frame) (w : World) (L : Lp) (k : List Item), L ∈ F fr.fn → Ord ok S fr → fr.mode = .run → Sz ⟨T, f⟩ fr → fr.todo = .inRegion L.o5 [L.o5.size - 1] :: .code L.loop :: k →
    (∃ vs cap n, V L fr vs ∧ Leap ⟨T, f⟩ fr tops w (fr.finish (.chan (some w.heap.size))) tops (w.alloc (.chan cap vs.toArray true n 0 false))) ∨ ∀ Fin, ¬ Tm2 ⟨T, f⟩ Fin fr tops w
def Inv (T : Tables) (f : Array Func) (S S' : List FuncId) (F : FuncId → List Lp) (fr : Frame) (tops : List Frame) (w : World) : Prop :=
  Id T f S F fr tops ∨ ∃ c, Hd T f S S' F c fr tops ∧ ∃ cap buf s r, w.heap[c]? = some (.chan cap buf true s r false)
theorem Inv.gd (h : Inv T f S S' F fr tops w) : Gd fr := by
  rcases h with h | ⟨c, h, _⟩
  · exact h.gd
  · exact h.gd
theorem ord_next (hE : Env T f g ok S S' F) (ho : Ord ok S fr) (ht : ∀ t ∈ tops, Ord ok S t ∧ t.mode = .run) (hsp : ¬ Spec ⟨T, f⟩ S fr tops) (hg : Gd fr) {τ : Nat → Question → Nat} {es : Array Event} {X : List Frame}
    (hst : stepG ⟨T, f⟩ true (Gr fr (tops ++ X)) (Rt w τ) = .go (Gr fr' (tops' ++ X)) w' es) : Ord ok S fr' ∧ ∀ t ∈ tops', Ord ok S t ∧ t.mode = .run := by
  rcases use (w := w) ho ht hE.ff hE.st hsp hg.val X τ with ⟨fr2, tops2, w2, es2, e, _, h1, h2, _⟩ | ⟨o, w2, es2, e⟩
  · rw [hst] at e
    injection e with q1 q2 q3
    injection q1 with q4 q5
    have q6 := List.append_cancel_right q5
    subst q4 q6
    exact ⟨h1, h2⟩
  · rw [hst] at e
    cases e
theorem calm_next (hE : Env T f g ok S S' F) (ho : Ord ok S fr) (ht : ∀ t ∈ tops, Ord ok S t ∧ t.mode = .run) (hsp : ¬ Spec ⟨T, f⟩ S fr tops) (hg : Gd fr) {τ : Nat → Question → Nat} {es : Array Event} {X : List Frame}
    (hst : stepG ⟨T, f⟩ true (Gr fr (tops ++ X)) (Rt w τ) = .go (Gr fr' (tops' ++ X)) w' es) (hT : Tm2 ⟨T, f⟩ Fin fr' tops' w') : (∀ ch, fr.mode ≠ .panicking ch) ∧ ∀ ch, fr'.mode ≠ .panicking ch := by
  obtain ⟨h1, h2⟩ := ord_next hE ho ht hsp hg hst
  have c2 := hT.calm hE.ff h1 h2
  refine ⟨fun ch hm => ?_, c2⟩
  cases tops with
  | nil => exact hsp (.inl ⟨rfl, by rw [hm]; simp⟩)
  | cons t tops =>
    obtain ⟨_, fn, k2, _⟩ := (hE.fine fr.fn ho.fn).1
    have := panic_up (T := T) (f := f) ho hm k2 true t (tops ++ X) (Rt w τ)
    rw [List.cons_append, this] at hst
    injection hst with q1 q2 q3
    injection q1 with q4 q5
    exact c2 ch (by rw [← q4]; exact raise_mode (ht t (.head _)).2 ch)
theorem inv_step (hE : Env T f g ok S S' F) (ho : Ord ok S fr) (ht : ∀ t ∈ tops, Ord ok S t ∧ t.mode = .run) (hsp : ¬ Spec ⟨T, f⟩ S fr tops) (hn : Near ⟨T, f⟩ S fr tops fr' tops') (kc : Kc w w') {τ : Nat → Question → Nat} {es : Array Event} {X : List Frame}
    (hst : stepG ⟨T, f⟩ true (Gr fr (tops ++ X)) (Rt w τ) = .go (Gr fr' (tops' ++ X)) w' es) (hT : Tm2 ⟨T, f⟩ Fin fr' tops' w') (h : Inv T f S S' F fr tops w) : Inv T f S S' F fr' tops' w' := by
  obtain ⟨c1, c2⟩ := calm_next hE ho ht hsp h.gd hst hT
  rcases h with h | ⟨c, h, cap, buf, s, r, hc⟩
  · exact .inl (h.near (Fin := Fin) hE ho ht hsp hn hst c1)
  · exact .inr ⟨c, h.near hE ho ht hsp hn hst c1 c2, cap, buf, s, r, (kc _ _ _ _ _ _ _).2 hc⟩
/-- The channel has been made: its loop is held. -/
theorem made_hd (hE : Env T f g ok S S' F) (ho : Ord ok S fr) (hi : Id T f S F fr tops) {L : Lp} (hL : L ∈ F fr.fn) {k : List Item} (hk : ∀ i ∈ k, CalmI (okDy ⟨T, f⟩ S fr.fn) (F fr.fn) i) (hm : fr.mode = .run) (e : fr.todo = .inRegion L.o5 [L.o5.size - 1] :: .code L.loop :: k) (c : Nat) :
    Hd T f S S' F c (fr.finish (.chan (some c))) tops := by
  obtain ⟨_, fn, k2, _⟩ := (hE.fine fr.fn ho.fn).1
  obtain ⟨z1, z2, z3⟩ := hE.sz _ L hL fn k2
  have hz := hi.sz fn k2
  refine ⟨⟨fr.fn, L, hL, k, hk, .top (made_place c hm (hE.fn _ L hL).symm e (hE.dst _ L hL) (by omega) (by omega) (by omega)) hi.low⟩, fun fn' q => ?_, hi.szt, ?_, hi.gdt⟩
  rotate_left
  · obtain ⟨o, q1, _⟩ := (hE.lq _ L hL).last
    exact hi.gd.fin e q1 (make_call (hE.cl _ L hL o q1)) _
  rw [finish_size _ _ (ord_extern ho)]
  exact hi.sz fn' (by rw [finish_fn] at q; exact q)
theorem Hd.at {c : Nat} (hE : Env T f g ok S S' F) (h : Hd T f S S' F c fr tops) (hsp : Spec ⟨T, f⟩ S fr tops) (ho : Ord ok S fr) : ∃ x, ∃ L ∈ F x, ∃ k z, fr.mode = .run ∧ fr.todo = .inRegion L.ops [0, 1] :: .code (.seq L.test L.body) :: L.tl k ∧ fr.tmps[L.slot]? = some (.chan (some c)) ∧ AtRc ⟨T, f⟩ fr c z ∧ AtRc ⟨T, g⟩ fr c z ∧
    Id T f S F (fr.finish (.tuple #[z, .bool false])) tops ∧ ∀ v, Hd T f S S' F c (fr.finish (.tuple #[v, .bool true])) tops := by
  obtain ⟨x, L, hL, k, hk, hh⟩ := h.held
  have hlp := hE.lp x L hL
  obtain ⟨hp, e, hq⟩ := hh.spec (hlp.rest k) hsp
  obtain ⟨o, ct, el, d, z, o1, o2, o3, o4⟩ := hE.rc x L hL
  have hev : fr.eval (.tmp L.slot) = .chan (some c) := by simp [Frame.eval, hp.chan]
  have hx : x = fr.fn := (hE.fn x L hL).symm.trans hp.fn.symm
  obtain ⟨o0, a1, a2, a3, a4⟩ := hlp.op0
  rw [o1] at a1
  cases a1
  have hd : (L.ops[0]?).bind (·.dst) = some L.pair := by rw [o1]; exact a3
  have sz' : ∀ v : Value, Sz ⟨T, f⟩ (fr.finish v) := fun v fn q => by
    rw [finish_size _ _ (ord_extern ho)]
    exact h.sz fn (by rw [finish_fn] at q; exact q)
  have gd' : ∀ v : Value, Gd (fr.finish v) := fun v => h.gd.fin e o1 (fun kk => by rw [o2]; rfl) v
  refine ⟨x, L, hL, k, z, hp.mode, e, hp.chan, at_rc ho hp.mode e o1 (o3 _) o2 hev (o4 _ (.inl rfl)).1 (o4 _ (.inl rfl)).2, at_rc ho hp.mode e o1 (o3 _) o2 hev (o4 _ (.inr rfl)).1 (o4 _ (.inr rfl)).2, ?_, fun v => ?_⟩
  · refine ⟨?_, hq, sz' _, h.szt, gd' _, h.gdt⟩
    rw [finish_fn, ← hx]
    exact shut_idle hL hk hp e hd z
  · exact ⟨⟨x, L, hL, k, hk, .top (hp.take e hd hlp.pair v) hq⟩, sz' _, h.szt, gd' _, h.gdt⟩
theorem jumps (hE : Env T f g ok S S' F) (hC : CallT T f ok S F V) (ho : Ord ok S fr) (ht : ∀ t ∈ tops, Ord ok S t ∧ t.mode = .run) (hm : fr.mode = .run) (hsp : Spec ⟨T, f⟩ S fr tops) (h : Inv T f S S' F fr tops w) (hT : Tm2 ⟨T, f⟩ Fin fr tops w) :
    ∃ fr' tops' w', Jump T f S F V fr tops w fr' tops' w' ∧ Leap ⟨T, f⟩ fr tops w fr' tops' w' ∧ Ord ok S fr' ∧ (∀ t ∈ tops', Ord ok S t ∧ t.mode = .run) ∧ Inv T f S S' F fr' tops' w' := by
  rcases h with h | ⟨c, h, cap, buf, s, r, hc⟩
  · obtain ⟨L, hL, k, hk, e⟩ := h.top.spec (hE.lq _) hm hsp (fun L hL j o hj ho => okDy_of (hE.o5 _ L hL j o hj ho))
    rcases hC fr tops w L k hL ho hm h.sz e with ⟨vs, cap, n, hv, hl⟩ | hno
    · refine ⟨_, _, _, .made L hL k vs cap n hv hm hsp e hk hl, hl, ho.finish _, ht, .inr ⟨w.heap.size, made_hd hE ho h hL hk hm e _, cap, vs.toArray, n, 0, ?_⟩⟩
      show (w.heap.push _)[w.heap.size]? = _
      simp
    · exact absurd hT (hno _)
  · obtain ⟨x, L, hL, k, z, hm', e, hs, a1, a2, hid, hhd⟩ := h.at hE hsp ho
    rcases recv_some a1 hm hc hT with hb | ⟨rfl, _⟩
    · obtain ⟨l⟩ := buf
      cases l with
      | nil => simp at hb
      | cons v vs =>
        have hl := leap_recv (tops := tops) a1 hc hb
        have e1 : ((v :: vs).toArray.extract 1 (v :: vs).toArray.size) = vs.toArray := by simp
        have e2 : (v :: vs).toArray.getD 0 undef = v := rfl
        have hl' : Leap ⟨T, f⟩ fr tops w (fr.finish (.tuple #[v, .bool true])) tops (w.setChan c cap vs.toArray true s (r + 1) false) := by
          rw [← e1]
          exact hl
        refine ⟨_, _, _, .take x L hL k c cap s r v vs hm hsp e hs hc hl', hl', ho.finish _, ht, .inr ⟨c, hhd v, cap, vs.toArray, s, r + 1, ?_⟩⟩
        have hlt : c < w.heap.size := (Array.getElem?_eq_some_iff.1 hc).1
        simp [World.setChan, hlt]
    · have hl := leap_shut (tops := tops) a1 hc
      exact ⟨_, _, _, .shut x L hL k c cap s r z hm hsp e hs hc a1 hl, hl, ho.finish _, ht, .inl hid⟩
/-- ████ THE TREE. ████ -/
theorem tree (hE : Env T f g ok S S' F) (hC : CallT T f ok S F V) (ho : Ord ok S fr) (ht : ∀ t ∈ tops, Ord ok S t ∧ t.mode = .run) (h : Inv T f S S' F fr tops w) (hT : Tm2 ⟨T, f⟩ Fin fr tops w) : Tree ⟨T, f⟩ S (Jump T f S F V) fr tops w :=
  bar (I := Inv T f S S' F) hE.ff hE.st (fun fr tops w hi => hi.gd.val) (fun fr tops w fr' tops' w' τ es ho ht hsp hn kc hst hT hi => inv_step hE ho ht hsp hn kc hst hT hi) (fun fr tops w ho ht hm hsp hi hT => jumps hE hC ho ht hm hsp hi hT) ho ht h hT
end
end Go.Proofs.YtbkimmbfepjodaaDoor
/- The program's run, along the twin's tree: no channel open; a channel open; a channel closed and not yet found so. -/
namespace Go.Proofs.YtbkimmbfepjodaaDoor
set_option maxRecDepth 100000
open Go.Conc
open Go.ConcN (sumTo upd sumTo_upd upd_ne upd_same)

section
variable {ok : Op → Bool} {F : FuncId → List Lp} {S S' : List FuncId} {T : Tables} {f g : Array Func} {P : Program} {fr fr' : Frame} {tops tops' : List Frame} {w w' w₀ w₁ : World} {V : Lp → Frame → List Value → Prop} {Fin : Frame → World → Prop} {Post : Value → World → Prop} {τ₀ : Nat → Question → Nat}
/-- Channels that were there at first are as they were, in both. -/
def Jw (w₀ w w₁ : World) : Prop := ∀ (b c : Nat) (bf : Array Value) (cl : Bool) (s r : Nat) (t : Bool), w₀.heap[b]? = some (.chan c bf cl s r t) → w.heap[b]? = some (.chan c bf cl s r t) ∧ w₁.heap[b]? = some (.chan c bf cl s r t)
theorem Jw.kc {w₁' : World} (h : Jw w₀ w w₁) (k : Kc w w') (k₁ : Kc w₁ w₁') : Jw w₀ w' w₁' := fun b c bf cl s r t e => ⟨(k _ _ _ _ _ _ _).2 (h _ _ _ _ _ _ _ e).1, (k₁ _ _ _ _ _ _ _).2 (h _ _ _ _ _ _ _ e).2⟩
/-- The block is no channel of the first world's. -/
def New (w₀ : World) (b : Nat) : Prop := ∀ c bf cl s r t, w₀.heap[b]? ≠ some (.chan c bf cl s r t)
theorem set_other {w : World} {c cap : Nat} {buf : Array Value} {cl tm : Bool} {s r b : Nat} (h : b ≠ c) : (w.setChan c cap buf cl s r tm).heap[b]? = w.heap[b]? := by
  simp [World.setChan, Ne.symm h]
theorem set_same {w : World} {c cap : Nat} {buf : Array Value} {cl tm : Bool} {s r : Nat} {o : Obj} (h : w.heap[c]? = some o) : (w.setChan c cap buf cl s r tm).heap[c]? = some (.chan cap buf cl s r tm) := by
  have hlt : c < w.heap.size := (Array.getElem?_eq_some_iff.1 h).1
  simp [World.setChan, hlt]
/-- Channel c turned on either side. -/
theorem sim_set {c cap cap₁ : Nat} {buf buf₁ : Array Value} {cl cl₁ tm tm₁ : Bool} {s r s₁ r₁ : Nat} {o o₁ : Obj} (h : Sim (some 0) w w₁) (hc : w.heap[c]? = some o) (hc₁ : w₁.heap[c]? = some o₁) : Sim (some 0) (w.setChan c cap buf cl s r tm) (w₁.setChan c cap₁ buf₁ cl₁ s₁ r₁ tm₁) := by
  refine ⟨h.os, h.output, by simpa [World.setChan] using h.size, fun b => ?_⟩
  by_cases e : b = c
  · subst e
    exact .inr ⟨⟨0, rfl, Nat.zero_le _⟩, ⟨_, _, _, _, _, _, set_same hc⟩, ⟨_, _, _, _, _, _, set_same hc₁⟩⟩
  · rw [set_other e, set_other e]
    exact h.block b
theorem sim_set1 {c cap₁ : Nat} {buf₁ : Array Value} {cl₁ tm₁ : Bool} {s₁ r₁ : Nat} {o₁ : Obj} {cap : Nat} {buf : Array Value} {cl tm : Bool} {s r : Nat} (h : Sim (some 0) w w₁) (hc : w.heap[c]? = some (.chan cap buf cl s r tm)) (hc₁ : w₁.heap[c]? = some o₁) : Sim (some 0) w (w₁.setChan c cap₁ buf₁ cl₁ s₁ r₁ tm₁) := by
  refine ⟨h.os, h.output, by simpa [World.setChan] using h.size, fun b => ?_⟩
  by_cases e : b = c
  · subst e
    exact .inr ⟨⟨0, rfl, Nat.zero_le _⟩, ⟨_, _, _, _, _, _, hc⟩, ⟨_, _, _, _, _, _, set_same hc₁⟩⟩
  · rw [set_other e]
    exact h.block b
theorem jw_set {c cap cap₁ : Nat} {buf buf₁ : Array Value} {cl cl₁ tm tm₁ : Bool} {s r s₁ r₁ : Nat} (h : Jw w₀ w w₁) (hn : New w₀ c) : Jw w₀ (w.setChan c cap buf cl s r tm) (w₁.setChan c cap₁ buf₁ cl₁ s₁ r₁ tm₁) := by
  intro b c' bf cl' s' r' t' e
  have hb : b ≠ c := fun q => by subst q; exact hn _ _ _ _ _ _ e
  rw [set_other hb, set_other hb]
  exact h _ _ _ _ _ _ _ e
theorem jw_set1 {c cap₁ : Nat} {buf₁ : Array Value} {cl₁ tm₁ : Bool} {s₁ r₁ : Nat} (h : Jw w₀ w w₁) (hn : New w₀ c) : Jw w₀ w (w₁.setChan c cap₁ buf₁ cl₁ s₁ r₁ tm₁) := by
  intro b c' bf cl' s' r' t' e
  have hb : b ≠ c := fun q => by subst q; exact hn _ _ _ _ _ _ e
  rw [set_other hb]
  exact h _ _ _ _ _ _ _ e
/-- ONE ORDINARY STEP OF BOTH, on the answers that the program gets. -/
theorem two_step (hE : Env T f g ok S S' F) (hsp : ¬ Spec ⟨T, f⟩ S fr tops) (hg : Gd fr) (ho : Ord ok S fr) (ht : ∀ t ∈ tops, Ord ok S t ∧ t.mode = .run) (hM : Tm2 ⟨T, f⟩ Fin fr tops w) (hS : Sim (some 0) w w₁) :
    ∃ fr' tops' w' w₁' es, stepG ⟨T, f⟩ true (Gr fr (tops ++ [sent ⟨T, f⟩])) (Rt w (glue w w₁ w₁.drawn)) = .go (Gr fr' (tops' ++ [sent ⟨T, f⟩])) w' es ∧ stepG ⟨T, g⟩ true (Gr fr tops) w₁ = .go (Gr fr' tops') w₁' es ∧ Near ⟨T, f⟩ S fr tops fr' tops' ∧ Kc w w' ∧ Kc w₁ w₁' ∧
      Ord ok S fr' ∧ (∀ t ∈ tops', Ord ok S t ∧ t.mode = .run) ∧ Sim (some 0) w' w₁' ∧ w₁'.tape = w₁.tape ∧ Quietly es ∧ Tm2 ⟨T, f⟩ Fin fr' tops' w' := by
  have key : Both (some 0) ok S ⟨T, f⟩ ⟨T, g⟩ true true fr tops [sent ⟨T, f⟩] [] (Rt w (glue w w₁ w₁.drawn)) (w₁.at w₁.drawn) := both_step ho ht hE.fine hE.st hE.st₁ ⟨hS.os, hS.output, hS.size, hS.block⟩ hsp hg.val
  obtain ⟨fr3, tops3, w3, es3, e3, _, _, _, _, _, _, hM3, _⟩ := tm_step ho ht hE.ff hE.st hsp hg.val hM _ (glue_ext w w₁ w₁.drawn)
  rcases key with ⟨fr', tops', w', k, es, e, nr, h1, h2, t1, d1, hq, kc, x⟩ | ⟨o, w', es, e⟩
  · obtain ⟨w₁', e', s', t', d', kc'⟩ := x (glue_agree w w₁ w₁.drawn k)
    have e4 := e3
    rw [e] at e4
    injection e4 with r1 r2 r3
    injection r1 with r4 r5
    have r6 := List.append_cancel_right r5
    subst r4 r6 r2
    rw [List.append_nil, List.append_nil] at e'
    exact ⟨fr', tops', w', w₁', es, e, e', nr, kc, kc', h1, h2, s', t', hq, hM3⟩
  · rw [e] at e3
    cases e3
/-- THE RECEIVE THAT FINDS THE CHANNEL CLOSED, beside leavers. -/
theorem closing_recv {a : Goroutine} {gs : Array Goroutine} {sl : Option (Nat × Nat)} {t : Trace} {q : Nat → Nat} {B c m j cap s r : Nat} {z : Value} {tm : Bool} (ha : a.status = .running) (hs : ∀ v, stepG P true a v = .comm (Gr fr tops) #[rcase c z] true (.recv true) v #[]) (h0 : gs[0]? = some a) (hL : Leavers P t gs q) (hP : Pc c m j B t) (hB : c < B)
    (hc : w₁.heap[c]? = some (.chan cap #[] true s r tm))
    (k : ∀ (d : Nat) (gs' : Array Goroutine) (sl' : Option (Nat × Nat)) (t' : Trace) (q' : Nat → Nat) (B' : Nat), gs'[0]? = some (Gr (fr.finish (.tuple #[z, .bool false])) tops) → Leavers P t' gs' q' → Pi B' t' → Win P Post gs' (w₁.at d) sl' t') : Win P Post gs w₁ sl t := by
  obtain ⟨N, gs', d, d', sl', sl'', t', q', hr, hsz, h0', hL', hP', hst⟩ := turn0 (keeps_pc c m j) _ gs a w₁ sl t q (Nat.le_refl _) h0 ha hL hP
  have hpart : partners (gs'.setIfInBounds 0 ph) c true = [] := by
    refine partners_nil (fun i x hx => ?_)
    rcases Nat.eq_zero_or_pos i with rfl | hpos
    · have hlt : 0 < gs'.size := (Array.getElem?_eq_some_iff.1 h0').1
      rw [Array.getElem?_setIfInBounds_self_of_lt hlt] at hx
      cases hx
      rfl
    · rw [Array.getElem?_setIfInBounds_ne (by omega)] at hx
      exact offersAt_of_not_blocked (by rcases (hL'.old i x hpos hx).status with y | y <;> rw [y] <;> simp) _ _
  have hrun := crowd_recv_closed (P := P) (sl := sl'') (i := 0) (w := w₁.at d') h0' (hs (w₁.at d')) (show (w₁.at d').heap[c]? = _ from hc) hpart
  refine Win.of hr (Win.step (hst.trans hrun) ?_)
  have hops : MemOp.ofEvents 0 a.frame.fn a.frame.place #[] ++ #[({ g := 0, fn := (Gr fr tops).frame.fn, pos := (Gr fr tops).frame.place, act := .recvClosed c } : MemOp)] = #[({ g := 0, fn := fr.fn, pos := fr.place, act := .recvClosed c } : MemOp)] := by
    simp [MemOp.ofEvents]
  rw [hops]
  have hlt : 0 < gs'.size := (Array.getElem?_eq_some_iff.1 h0').1
  have hd : ∀ i, i ≠ 0 → Deaf (t' ++ #[({ g := 0, fn := fr.fn, pos := fr.place, act := .recvClosed c } : MemOp)]) i = Deaf t' i := fun i hi => Deaf_other t' (g' := 0) (by omega) _ (fun op hop => by rw [show op = _ by simpa using hop])
  refine k d' _ sl'' _ q' B ?_ ⟨fun i x hi hx => ?_, fun i hi => ?_⟩ (hP'.take hB fr.fn fr.place)
  · rw [Array.getElem?_setIfInBounds_self_of_lt hlt]
    rfl
  · rw [Array.getElem?_setIfInBounds_ne (by omega)] at hx
    rw [hd i (by omega)]
    exact hL'.old i x hi hx
  · have hi' : gs'.size ≤ i := by simpa using hi
    rw [hd i (by omega)]
    exact hL'.above i hi'
/-- From a place beside the sender to one beside leavers, where the sender has just closed. -/
theorem shut_leavers {c j n : Nat} {gs : Array Goroutine} {t : Trace} {q : Nat → Nat} {B : Nat} {b' : Goroutine} (hA : Af P c j gs t q B) (hj : gs[j]? = some b') (hq : QuitsD P n 0 b') (fn : FuncId) (pos : String) :
    Leavers P (t ++ MemOp.ofEvents j fn pos (closeEvents c)) gs (upd q j n) ∧ Pc c t.size j B (t ++ MemOp.ofEvents j fn pos (closeEvents c)) := by
  have hne : j ≠ 0 := by have := hA.j0; omega
  have ho : ∀ op ∈ MemOp.ofEvents j fn pos (closeEvents c), op.g = j := fun op hop => by obtain ⟨e, _, rfl⟩ := Go.Conc.mem_ofEvents hop; rfl
  have hown : Deaf (t ++ MemOp.ofEvents j fn pos (closeEvents c)) j = 0 := by
    rw [closeOps]
    refine (Deaf_quiet (fun op hop d => ?_)).trans hA.hear
    rcases (by simpa using hop : op = _ ∨ op = _) with rfl | rfl <;> rfl
  refine ⟨⟨fun i x hi hx => ?_, fun i hi => ?_⟩, Pc.of hA.past hne hA.hear hA.cB fn pos⟩
  · by_cases e : i = j
    · subst e
      rw [hj] at hx
      cases hx
      rw [upd_same, hown]
      exact hq
    · rw [upd_ne q n e, Deaf_other t (g' := j) (Ne.symm e) _ ho]
      exact hA.old i x hi e hx
  · have hlt : j < gs.size := (Array.getElem?_eq_some_iff.1 hj).1
    rw [Deaf_other t (g' := j) (by omega) _ ho]
    exact hA.above i hi
end
end Go.Proofs.YtbkimmbfepjodaaDoor
