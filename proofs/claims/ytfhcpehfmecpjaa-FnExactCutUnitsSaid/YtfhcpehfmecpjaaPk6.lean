/- Texts of ours, laid one behind the other: SgC, SgD, SgE, Bytes, RowsG, IntsA, SchZ, Words, VarL, SpnA, NestA, SpnB, StI, SgF. -/
import Derived.Test.YtfhcpehfmecpjaaPk5
import Derived.Test.YtfhcpehfmecpjaaRows
import Derived.WalkKit
import Derived.WalkLawsBesides
import Derived.Handy
import Derived.Below
import Derived.Laws.IdiomStrings
import Derived.Laws.BytesArg
import Derived.Maps.AppendAt
import Derived.Laws.DeepStrings4
import Derived.OwnWalk
import Derived.Deep.DrawnRows
import Derived.Deep.RegionHeld3
import Derived.BigQuiet
import Derived.Deep.AppendLies
set_option linter.unusedVariables false
set_option linter.unusedSimpArgs false
/- A step of a frame of plain values: the same in every world. -/
namespace Go.Proofs.Ytfhcpehfmecpjaa
open Go.Conc

/-- All slots are plain. -/
def Pl (fr : Frame) : Prop := ∀ x ∈ fr.tmps, Plain x
section
variable {ok : Op → Bool} {S : List FuncId} {T : Tables} {g : Array Func} {fr fr' : Frame} {tops tops' X cs : List Frame} {v v' w : World}
theorem Pl.finish (h : Pl fr) {x : Value} (hx : Plain x) : Pl (fr.finish x) := by
  unfold Frame.finish
  split
  · split
    · intro y hy
      rcases Array.mem_or_eq_of_mem_setIfInBounds hy with q | rfl
      · exact h y q
      · exact hx
    · exact h
  all_goals first
    | exact h
    | (intro y hy; have : y = x := by simpa using hy
       subst this; exact hx)
theorem Pl.enter {P : Program} {x : FuncId} {as : Array Value} (h : ∀ y ∈ as, Plain y) : Pl (Frame.enter P x as .normal) := by
  intro y hy
  rcases Array.mem_append.1 hy with q | q
  · exact h y q
  · have := Array.eq_of_mem_replicate q
    subst this
    exact plain_undef
theorem fmapMLp {P : Program} {γ β : Type} {R : β → Prop} {l : List γ} {k : γ → Sem β} (hk : ∀ a ∈ l, FreeP P R (k a)) : FreeP P (fun vs => ∀ x ∈ vs, R x) (l.mapM k) := by
  induction l with
  | nil => exact fun x hx => by simp at hx
  | cons a l ih =>
    rw [List.mapM_cons]
    refine fq (hk a (.head _)) (fun y hy => fq (ih (fun z hz => hk z (.tail _ hz))) (fun ys hys => fun x hx => ?_))
    rcases List.mem_cons.1 hx with rfl | q
    · exact hy
    · exact hys x q
/-- The results of a function whose results are slots. -/
theorem free_results {P : Program} {fn : Func} (h : fn.results.all (fun r => match r with | .tmp _ => true | _ => false) = true) {tmps : Array Value} (hp : ∀ x ∈ tmps, Plain x) : FreeP P Plain (results fn tmps) := by
  unfold results
  refine fq (Q := fun vs => ∀ x ∈ vs, Plain x) ?_ (fun vs hvs => ?_)
  · rw [Array.mapM_eq_mapM_toList]
    refine fm (fmapMLp (R := Plain) (fun r hr => ?_)) (fun l hl x hx => hl x (by simpa using hx))
    have := Array.all_eq_true_iff_forall_mem.1 h r (by simpa using hr)
    cases r with
    | tmp t =>
      show Plain (tmps.getD t undef)
      rw [Array.getD_eq_getD_getElem?]
      cases e : tmps[t]? with
      | none => exact plain_undef
      | some x => exact hp x (Array.mem_of_getElem? e)
    | cell a t => cases this
  · show Plain (if h : vs.size = 1 then vs[0] else .tuple vs)
    split
    · exact hvs _ (Array.getElem_mem _)
    · exact .tuple _ hvs
theorem skip_step {P : Program} {main : Bool} (hr : fr.roundOf = none) (hm : fr.mode = .run) {ops : Array Oper} {i : Nat} {r : List Nat} {k : List Item} (ht : fr.todo = .inRegion ops (i :: r) :: k) (hn : ∀ o, ops[i]? = some o → Region.wanted o (yielded ops fr.tmps) = false) : stepG P main (Gr fr cs) v = .go (Gr (fr.finish undef) cs) v #[] := by
  obtain ⟨fn', tmps, todo, defers, mode, kind, round⟩ := fr
  simp only at hr hm ht hn
  subst hr hm ht
  cases h : ops[i]? with
  | none => simp [stepG, stepG.exec, stepG.oper, Frame.oper?, h]
  | some o => simp [stepG, stepG.exec, stepG.oper, Frame.oper?, h, hn o h]
/-- A STEP IN EVERY WORLD, out of what is known of it in one. -/
theorem free_any (hF : ∀ x ∈ S, Fine ok g g x) (hres : ∀ x ∈ S, ∀ fn, g[x]? = some fn → fn.results.all (fun r => match r with | .tmp _ => true | _ => false) = true) (hok : ∀ o, ok o = true → okOp ⟨T, g⟩ S o = true → freeOp ⟨T, g⟩ S o = true) (ho : Ord ok S fr) (ht : ∀ t ∈ tops, Ord ok S t ∧ t.mode = .run) (hp : Pl fr) (hpt : ∀ t ∈ tops, Pl t)
    (hsp : ¬ Spec ⟨T, g⟩ S fr tops) {es : Array Event} {m : Bool} (hst : stepG ⟨T, g⟩ m (Gr fr (tops ++ X)) v = .go (Gr fr' (tops' ++ X)) v' es) (hc : ∀ ch, fr'.mode ≠ .panicking ch) :
    Pl fr' ∧ (∀ t ∈ tops', Pl t) ∧ v'.heap = v.heap ∧ ∀ (main : Bool) (cs : List Frame) (w : World), (∀ q, w.tape w.drawn q = v.tape v.drawn q) → ∃ d, stepG ⟨T, g⟩ main (Gr fr (tops ++ cs)) w = .go (Gr fr' (tops' ++ cs)) (w.at d) #[] := by
  have fin : ∀ {a : Frame} {l : List Frame} {u : World} {es' : Array Event}, stepG ⟨T, g⟩ m (Gr fr (tops ++ X)) v = .go (Gr a (l ++ X)) u es' → fr' = a ∧ tops' = l ∧ v' = u := by
    intro a l u es' e
    rw [hst] at e
    injection e with q1 q2 q3
    injection q1 with q4 q5
    exact ⟨q4, List.append_cancel_right q5, q2⟩
  cases hmd : fr.mode with
  | panicking ch =>
    exfalso
    cases tops with
    | nil => exact hsp (.inl ⟨rfl, by rw [hmd]; simp⟩)
    | cons t tops =>
      obtain ⟨_, fn, k2, _⟩ := (hF fr.fn ho.fn).1
      have e := panic_up (T := T) (f := g) ho hmd k2 m t (tops ++ X) v
      obtain ⟨q1, _⟩ := fin (a := t.raise ch) (l := tops) (u := v) (es' := #[]) e
      exact hc ch (by rw [q1]; exact raise_mode (ht t (.head _)).2 ch)
  | returning =>
    cases tops with
    | nil => exact absurd (.inl ⟨rfl, by rw [hmd]; simp⟩) hsp
    | cons c rest =>
      obtain ⟨_, fn, k2, _⟩ := (hF fr.fn ho.fn).1
      have step : ∀ (main : Bool) (x : List Frame) (u : World), stepG ⟨T, g⟩ main (Gr fr (c :: rest ++ x)) u = GStep.after (seen ⟨T, g⟩ fr.fn ((results fn fr.tmps).runT ⟨T, g⟩ u #[]).2) (match ((results fn fr.tmps).runT ⟨T, g⟩ u #[]).1 with
          | .ok a v' => .go (Gr (c.finish a) (rest ++ x)) v'
          | .halt (.stuck s) v' => .ended (.stuck s (fr.pos ⟨T, g⟩)) v'
          | .halt _ v' => .ended (.stuck "return: the result variables cannot be read" (fr.pos ⟨T, g⟩)) v') := by
        intro main x u
        have hdf := ho.defers
        have hkd := ho.kind
        obtain ⟨fn', tmps, todo, defers, mode, kind, round⟩ := fr
        simp only at hmd hdf k2 hkd
        subst hmd hdf hkd
        simp only [stepG, unwind, k2, List.cons_append, doReturn]
        rfl
      rcases free_run (P := ⟨T, g⟩) _ (free_results (P := ⟨T, g⟩) (hres fr.fn ho.fn fn k2) hp) with ⟨a, ha, e⟩ | ⟨x, _, e⟩
      · have go : ∀ (main : Bool) (x : List Frame) (u : World), stepG ⟨T, g⟩ main (Gr fr (c :: rest ++ x)) u = .go (Gr (c.finish a) (rest ++ x)) u #[] := by
          intro main x u
          rw [step, e]
          simp [GStep.after, seen]
        obtain ⟨rfl, rfl, rfl⟩ := fin (go m X v)
        exact ⟨(hpt c (.head _)).finish ha, fun t q => hpt t (.tail _ q), rfl, fun main cs w _ => ⟨w.drawn, go main cs w⟩⟩
      · exfalso
        rw [step, e] at hst
        cases x <;> cases hst
  | run =>
    by_cases hd : ∃ id ops k, fr.todo = .code (.region id ops true) :: k
    · obtain ⟨id, ops, k, hd⟩ := hd
      have step : ∀ (main : Bool) (c : List Frame) (u : World), stepG ⟨T, g⟩ main (Gr fr c) u = .go (Gr { fr with todo := .inRegion ops (Region.schedule ((⟨T, g⟩ : Program).follows .mixedOrders) ops (u.tape u.drawn (.order fr.fn id))) :: k } c) { u with drawn := u.drawn + 1 } #[] := by
        intro main c u
        obtain ⟨fn, tmps, todo, defers, mode, kind, round⟩ := fr
        simp only at hmd hd
        subst hmd hd
        first | (simp [stepG, stepG.exec, choose, Sem.run, Question.forced, Question.cut]; done) | (simp [stepG, stepG.exec, choose, Sem.run, Question.forced, Question.cut]; rfl)
      obtain ⟨rfl, rfl, rfl⟩ := fin (step m (tops ++ X) v)
      exact ⟨hp, hpt, rfl, fun main cs w hq => ⟨w.drawn + 1, by rw [step, hq]; rfl⟩⟩
    · by_cases hop : ∃ ops i r k o, fr.todo = .inRegion ops (i :: r) :: k ∧ ops[i]? = some o ∧ Region.wanted o (yielded ops fr.tmps) = true
      · obtain ⟨ops, i, r, k, o, h1, h2, h3⟩ := hop
        have h4 : okOp ⟨T, g⟩ S o.op = true := by
          cases q : okOp ⟨T, g⟩ S o.op with
          | true => rfl
          | false => exact absurd (.inr ⟨hmd, ops, i, r, k, o, h1, h2, h3, q⟩) hsp
        have h5 : ok o.op = true := by
          have := ho.items _ (by rw [h1]; exact .head _)
          exact Array.all_eq_true_iff_forall_mem.1 this _ (Array.mem_of_getElem? h2)
        have e0 : ∀ (main : Bool) (x : List Frame) (u : World), stepG ⟨T, g⟩ main (Gr fr x) u = stepG.apply ⟨T, g⟩ true fr x none (execOp fr.eval o) u := fun _ x u => step_op ho.round hmd h1 h2 h3
        have hkd := ho.kind
        rcases free_run (P := ⟨T, g⟩) _ (free_op (T := T) hp (hok _ h5 h4) (fun x hx => (hF x hx).1)) with ⟨a, ha, e⟩ | ⟨x, hx, e⟩
        · cases a with
          | value y =>
            have go : ∀ (main : Bool) (x : List Frame) (u : World), stepG ⟨T, g⟩ main (Gr fr x) u = .go (Gr (fr.finish y) x) u #[] := by
              intro main x u
              rw [e0]
              simp [-Sem.runT_eq, stepG.apply, e, GStep.after, hkd, seen]
            obtain ⟨rfl, rfl, rfl⟩ := fin (go m (tops ++ X) v)
            exact ⟨hp.finish ha, hpt, rfl, fun main cs w _ => ⟨w.drawn, go main _ w⟩⟩
          | enter y as =>
            have go : ∀ (main : Bool) (x : List Frame) (u : World), stepG ⟨T, g⟩ main (Gr fr x) u = .go (Gr (Frame.enter ⟨T, g⟩ y as .normal) (fr :: x)) u #[] := by
              intro main x u
              rw [e0]
              simp [-Sem.runT_eq, stepG.apply, e, GStep.after, hkd, h1, seen]
            obtain ⟨rfl, rfl, rfl⟩ := fin (l := fr :: tops) (go m (tops ++ X) v)
            refine ⟨Pl.enter ha.2, fun t q => ?_, rfl, fun main cs w _ => ⟨w.drawn, go main _ w⟩⟩
            rcases List.mem_cons.1 q with rfl | q
            · exact hp
            · exact hpt t q
          | _ => exact ha.elim
        · exfalso
          rw [e0] at hst
          cases x with
          | panic y =>
            have go : stepG.apply ⟨T, g⟩ true fr (tops ++ X) none (execOp fr.eval o) v = .go (Gr (fr.raise [{ v := y, recovered := false }]) (tops ++ X)) v #[] := by
              simp [-Sem.runT_eq, stepG.apply, e, GStep.after, hkd, seen]
            obtain ⟨rfl, _⟩ := fin ((e0 _ _ _).trans go)
            exact hc _ (raise_mode hmd _)
          | stuck y => simp [-Sem.runT_eq, stepG.apply, e, GStep.after, hkd, seen] at hst
          | unsupported u => cases u <;> first | (exact absurd rfl (hx _)) | (simp [-Sem.runT_eq, stepG.apply, e, GStep.after, hkd, seen] at hst; done)
          | _ => exact hx.elim
      · rcases ctl ho hmd (fun id ops k e => hd ⟨id, ops, k, e⟩) (fun ops i r k e => by
          cases h2 : ops[i]? with
          | none => rfl
          | some o =>
            cases h3 : Region.wanted o (yielded ops fr.tmps) with
            | false => simp [h3]
            | true => exact absurd ⟨ops, i, r, k, o, e, h2, h3⟩ hop) with ⟨a, _, mv, _, q⟩ | q
        · obtain ⟨rfl, rfl, rfl⟩ := fin (q ⟨T, g⟩ m (tops ++ X) v)
          refine ⟨?_, hpt, rfl, fun main cs w _ => ⟨w.drawn, q _ main _ w⟩⟩
          cases mv with
          | same => exact hp
          | to k' _ _ => exact hp
          | ret _ _ => exact hp
          | @fin x ops i r k _ e =>
            have e2 : stepG ⟨T, g⟩ true (Gr fr []) v' = .go (Gr (fr.finish undef) []) v' #[] := by
              have hn : ∀ o, ops[i]? = some o → Region.wanted o (yielded ops fr.tmps) = false := fun o ho' => by
                cases h3 : Region.wanted o (yielded ops fr.tmps) with
                | false => rfl
                | true => exact absurd ⟨ops, i, r, k, o, e, ho', h3⟩ hop
              exact skip_step ho.round hmd e hn
            have e3 := q ⟨T, g⟩ true [] v'
            rw [e2] at e3
            injection e3 with q1
            injection q1 with q2
            rw [← q2]
            exact hp.finish plain_undef
          | raise ch => unfold Frame.raise; split <;> exact hp
        · obtain ⟨o, w', es', e⟩ := q ⟨T, g⟩ m (tops ++ X) v
          rw [hst] at e
          cases e
end
end Go.Proofs.Ytfhcpehfmecpjaa
/- What a sender will do, walked through its code: rules for a frame whose slots are numbers, flags and channels. -/
namespace Go.Proofs.Ytfhcpehfmecpjaa
open Go.Conc

abbrev fm3 (fn : FuncId) (tmps : Array Value) (todo : List Item) : Frame := { fn := fn, tmps := tmps, todo := todo, defers := [], mode := .run, kind := .deferred }
/-- The sender stands here. -/
abbrev Sg (P : Program) (c : Nat) (fn : FuncId) (cs : List Frame) (vs : List Value) (tmps : Array Value) (todo : List Item) : Prop := Sender P c vs (Gr (fm3 fn tmps todo) cs)
section
variable {P : Program} {c : Nat} {fn : FuncId} {cs : List Frame} {vs : List Value} {tmps : Array Value} {k : List Item}
theorem sg_go {g g' : Goroutine} (hr : g.status = .running) (h : ∀ w, stepG P false g w = .go g' w #[]) (hn : Sender P c vs g') : Sender P c vs g :=
  .step (fun w => (g', w.drawn)) hr h (fun _ => hn)
theorem sg_seq {a b : Code} (h : Sg P c fn cs vs tmps (.code a :: .code b :: k)) : Sg P c fn cs vs tmps (.code (.seq a b) :: k) := sg_go rfl (fun _ => rfl) h
theorem sg_block {id : Nat} {a : Code} (h : Sg P c fn cs vs tmps (.code a :: .inBlock id :: k)) : Sg P c fn cs vs tmps (.code (.block id a) :: k) := sg_go rfl (fun _ => rfl) h
theorem sg_loop {a : Code} (h : Sg P c fn cs vs tmps (.code a :: .inLoop a :: k)) : Sg P c fn cs vs tmps (.code (.loop a) :: k) := sg_go rfl (fun _ => rfl) h
theorem sg_inLoop {a : Code} (h : Sg P c fn cs vs tmps (.code a :: .inLoop a :: k)) : Sg P c fn cs vs tmps (.inLoop a :: k) := sg_go rfl (fun _ => rfl) h
theorem sg_inBlock {id : Nat} (h : Sg P c fn cs vs tmps k) : Sg P c fn cs vs tmps (.inBlock id :: k) := sg_go rfl (fun _ => rfl) h
theorem sg_skip (h : Sg P c fn cs vs tmps k) : Sg P c fn cs vs tmps (.code .skip :: k) := sg_go rfl (fun _ => rfl) h
theorem sg_region {id : Nat} {ops : Array Oper} (h : Sg P c fn cs vs tmps (.inRegion ops (List.range ops.size) :: k)) : Sg P c fn cs vs tmps (.code (.region id ops false) :: k) := by
  refine sg_go rfl (fun w => ?_) h
  simp [stepG, stepG.exec]
theorem sg_done {ops : Array Oper} (h : Sg P c fn cs vs tmps k) : Sg P c fn cs vs tmps (.inRegion ops [] :: k) := sg_go rfl (fun _ => rfl) h
theorem sg_cond {x : Operand} {a b : Code} {v : Bool} (hv : (fm3 fn tmps []).eval x = .bool v) (h : Sg P c fn cs vs tmps (.code (if v then a else b) :: k)) : Sg P c fn cs vs tmps (.code (.cond x a b) :: k) := by
  have hv' : ∀ t, (fm3 fn tmps t).eval x = .bool v := fun t => hv
  refine sg_go rfl (fun w => ?_) h
  simp [stepG, stepG.exec, hv']
theorem sg_exit {id : Nat} {k' : List Item} (he : exitTo id k = some k') (h : Sg P c fn cs vs tmps k') : Sg P c fn cs vs tmps (.code (.exit id) :: k) := by
  refine sg_go rfl (fun w => ?_) h
  simp [stepG, stepG.exec, he]
/-- An operation that comes to a value in every world. -/
theorem sg_op {ops : Array Oper} {i d : Nat} {r : List Nat} {o : Oper} {v : Value} (ho : ops[i]? = some o) (hg : o.guard = none) (hd : o.dst = some d) (hv : ∀ w es, (execOp (fm3 fn tmps []).eval o).runT P w es = (.ok (.value v) w, es))
    (h : Sg P c fn cs vs (tmps.setIfInBounds d v) (.inRegion ops r :: k)) : Sg P c fn cs vs tmps (.inRegion ops (i :: r) :: k) := by
  refine sg_go rfl (fun w => ?_) h
  have hw : Region.wanted o (yielded ops tmps) = true := by unfold Region.wanted; rw [hg]
  rw [step_op (fr := fm3 fn tmps (.inRegion ops (i :: r) :: k)) rfl rfl rfl ho hw]
  have hv' : (execOp (fm3 fn tmps (.inRegion ops (i :: r) :: k)).eval o).runT P w #[] = (.ok (.value v) w, #[]) := hv w #[]
  simp [-Sem.runT_eq, stepG.apply, hv', GStep.after, seen, Frame.finish, ho, hd]
theorem ev_tmp {t : Nat} {v : Value} (h : tmps.getD t undef = v) : (fm3 fn tmps []).eval (.tmp t) = v := h
theorem sg_move {ops : Array Oper} {i d t : Nat} {r : List Nat} {o : Oper} {v : Value} (ho : ops[i]? = some o) (hg : o.guard = none) (hd : o.dst = some d) (hop : o.op = .move (.tmp t) ∨ o.op = .assign (.tmp t)) (hx : tmps.getD t undef = v)
    (h : Sg P c fn cs vs (tmps.setIfInBounds d v) (.inRegion ops r :: k)) : Sg P c fn cs vs tmps (.inRegion ops (i :: r) :: k) := by
  refine sg_op ho hg hd (fun w es => ?_) h
  unfold execOp
  rcases hop with e | e <;> (rw [e]; show (_, _) = _; rw [← hx]; rfl)
theorem sg_const {ops : Array Oper} {i d : Nat} {r : List Nat} {o : Oper} {v : Value} (ho : ops[i]? = some o) (hg : o.guard = none) (hd : o.dst = some d) (hop : o.op = .assign (.const v))
    (h : Sg P c fn cs vs (tmps.setIfInBounds d v) (.inRegion ops r :: k)) : Sg P c fn cs vs tmps (.inRegion ops (i :: r) :: k) := by
  refine sg_op ho hg hd (fun w es => ?_) h
  unfold execOp
  rw [hop]
  rfl
/-- Arithmetic and comparison on int. -/
theorem sg_bin {ops : Array Oper} {i d : Nat} {r : List Nat} {o : Oper} {op : BinOp} {ty ty' : TypeId} {x y : Operand} {a b : Int} {v : Value} (ho : ops[i]? = some o) (hg : o.guard = none) (hd : o.dst = some d) (hop : o.op = .binOp op ty x y ty') (hx : (fm3 fn tmps []).eval x = .int .i64 a) (hy : (fm3 fn tmps []).eval y = .int .i64 b)
    (hv : (op = .add ∧ v = .int .i64 (IntKind.i64.wrap (a + b))) ∨ (op = .lss ∧ v = .bool (a < b)))
    (h : Sg P c fn cs vs (tmps.setIfInBounds d v) (.inRegion ops r :: k)) : Sg P c fn cs vs tmps (.inRegion ops (i :: r) :: k) := by
  refine sg_op ho hg hd (fun w es => ?_) h
  unfold execOp
  rw [hop]
  dsimp only
  rw [hx, hy]
  rcases hv with ⟨rfl, rfl⟩ | ⟨rfl, rfl⟩ <;> rfl
theorem sg_extract {ops : Array Oper} {i d t j : Nat} {r : List Nat} {o : Oper} {us : Array Value} {v : Value} (ho : ops[i]? = some o) (hg : o.guard = none) (hd : o.dst = some d) (hop : o.op = .extract (.tmp t) j) (hx : tmps.getD t undef = .tuple us) (hj : us[j]? = some v)
    (h : Sg P c fn cs vs (tmps.setIfInBounds d v) (.inRegion ops r :: k)) : Sg P c fn cs vs tmps (.inRegion ops (i :: r) :: k) := by
  refine sg_op ho hg hd (fun w es => ?_) h
  unfold execOp
  rw [hop]
  dsimp only
  rw [ev_tmp hx]
  simp only [Instr.extract, hj]
  rfl
theorem sg_min {ops : Array Oper} {i d : Nat} {r : List Nat} {o : Oper} {x y : Operand} {ts : Array TypeId} {a b : Int} (ho : ops[i]? = some o) (hg : o.guard = none) (hd : o.dst = some d) (hop : o.op = .call { callee := .builtin .min, args := #[x, y], argTypes := ts }) (hx : (fm3 fn tmps []).eval x = .int .i64 a) (hy : (fm3 fn tmps []).eval y = .int .i64 b)
    (h : Sg P c fn cs vs (tmps.setIfInBounds d (.int .i64 (if b < a then b else a))) (.inRegion ops r :: k)) : Sg P c fn cs vs tmps (.inRegion ops (i :: r) :: k) := by
  refine sg_op ho hg hd (fun w es => ?_) h
  unfold execOp
  rw [hop]
  show Sem.runT P (do let v ← Builtin.min_ ts o.type (#[x, y].map (fm3 fn tmps []).eval); pure (Next.value v)) w es = _
  have e : (#[x, y].map (fm3 fn tmps []).eval) = #[.int .i64 a, .int .i64 b] := by simp [hx, hy]
  rw [e]
  rfl
/-- A send. -/
theorem sg_send {ops : Array Oper} {i : Nat} {r : List Nat} {o : Oper} {x y : Operand} {v : Value} {vs' : List Value} (ho : ops[i]? = some o) (hg : o.guard = none) (hd : o.dst = none) (hop : o.op = .send x y) (hx : (fm3 fn tmps []).eval x = .chan (some c)) (hy : (fm3 fn tmps []).eval y = v)
    (h : Sg P c fn cs vs' tmps (.inRegion ops r :: k)) : Sg P c fn cs (v :: vs') tmps (.inRegion ops (i :: r) :: k) := by
  have hw : Region.wanted o (yielded ops tmps) = true := by unfold Region.wanted; rw [hg]
  refine .send (g₂ := Gr (fm3 fn tmps (.inRegion ops (i :: r) :: k)) cs) (z := .tuple #[]) rfl (fun w => ?_) ?_
  · rw [step_op (fr := fm3 fn tmps (.inRegion ops (i :: r) :: k)) rfl rfl rfl ho hw]
    have hv' : (execOp (fm3 fn tmps (.inRegion ops (i :: r) :: k)).eval o).runT P w #[] = (.ok (.comm #[scase c v (.tuple #[])] true .send) w, #[]) := by
      unfold execOp
      rw [hop]
      show (_, _) = _
      have e1 : (fm3 fn tmps (.inRegion ops (i :: r) :: k)).eval x = .chan (some c) := hx
      have e2 : (fm3 fn tmps (.inRegion ops (i :: r) :: k)).eval y = v := hy
      rw [e1, e2]
      rfl
    simp [-Sem.runT_eq, stepG.apply, hv', GStep.after, seen]
  · have e : Go.Conc.served (Gr (fm3 fn tmps (.inRegion ops (i :: r) :: k)) cs) undef = Gr (fm3 fn tmps (.inRegion ops r :: k)) cs := by
      simp [Go.Conc.served, Frame.finish, ho, hd]
    rw [e]
    exact h
end
end Go.Proofs.Ytfhcpehfmecpjaa
/- A call of a function of plain values, on a sender's way; the close, and what is left behind it. -/
namespace Go.Proofs.Ytfhcpehfmecpjaa
open Go.Conc

/-- WHAT THE CODE MUST SAY OF FUNCTIONS OF PLAIN VALUES: each calls none but those of S. -/
structure Plainly3 (T : Tables) (g : Array Func) (S : List FuncId) : Prop where
  fine : ∀ x ∈ S, Fine (freeOp ⟨T, g⟩ S) g g x
  res : ∀ x ∈ S, ∀ fn, g[x]? = some fn → fn.results.all (fun r => match r with | .tmp _ => true | _ => false) = true
  st : ∀ b, (⟨T, g⟩ : Program).stepOf b = none
  ok : ∀ o, freeOp ⟨T, g⟩ S o = true → okOp ⟨T, g⟩ S o = true
theorem run_of {α : Type} {P : Program} {s : Sem α} {w : World} {es es' : Array Event} {r : Result α} (h : s.runT P w es = (r, es')) : s.run P w = r := by
  rw [← Sem.runT_fst P s w es, h]
section
variable {T : Tables} {g : Array Func} {S : List FuncId} {c : Nat} {vs : List Value} {fr fr' : Frame} {tops cs : List Frame} {u : World} {Fin : Frame → World → Prop}
theorem free_sender (hE : Plainly3 T g S) (h : Tree ⟨T, g⟩ S (fun _ _ _ _ _ _ => False) fr tops u) : Ord (freeOp ⟨T, g⟩ S) S fr → (∀ t ∈ tops, Ord (freeOp ⟨T, g⟩ S) S t ∧ t.mode = .run) → Pl fr → (∀ t ∈ tops, Pl t) → Tm2 ⟨T, g⟩ Fin fr tops u →
    (∀ (fr' : Frame) (u' : World), Ord (freeOp ⟨T, g⟩ S) S fr' → Pl fr' → fr'.mode = .returning → Fin fr' u' → Sender ⟨T, g⟩ c vs (Gr fr' cs)) → Sender ⟨T, g⟩ c vs (Gr fr (tops ++ cs)) := by
  induction h with
  | @fin fr u hm =>
    intro ho _ hp _ hT k
    obtain ⟨_, fn0, k2, _⟩ := (hE.fine fr.fn ho.fn).1
    obtain ⟨hm', hf⟩ := sent_end ho ⟨fn0, k2⟩ hm hT
    exact k fr (Rt u u.tape) ho hp hm' (hf u.tape (fun _ _ => rfl))
  | @step fr tops u N he hs hsp ih =>
    intro ho ht hp hpt hT k
    have one : ∀ w : World, ∃ d, stepG ⟨T, g⟩ false (Gr fr (tops ++ cs)) w = .go (Gr (N (glue u w w.drawn) (glue_ext u w w.drawn)).1 ((N (glue u w w.drawn) (glue_ext u w w.drawn)).2.1 ++ cs)) (w.at d) #[] ∧
        Sender ⟨T, g⟩ c vs (Gr (N (glue u w w.drawn) (glue_ext u w w.drawn)).1 ((N (glue u w w.drawn) (glue_ext u w w.drawn)).2.1 ++ cs)) := by
      intro w
      obtain ⟨fr3, tops3, u3, es3, e3, _, o3, t3, _, _, _, hT3, _⟩ := tm_step ho ht hE.fine hE.st hsp hT _ (glue_ext u w w.drawn)
      have e4 := he (glue u w w.drawn) (glue_ext u w w.drawn)
      have i4 := ih (glue u w w.drawn) (glue_ext u w w.drawn)
      rw [e3] at e4
      injection e4 with q1 q2 q3
      injection q1 with q4 q5
      have q6 := List.append_cancel_right q5
      rw [← q4, ← q6, ← q2] at i4
      rw [← q4, ← q6]
      have calm := hT3.calm hE.fine o3 t3
      obtain ⟨p1, p2, _, p3⟩ := free_any hE.fine hE.res (fun o h1 _ => h1) ho ht hp hpt hsp e3 calm
      obtain ⟨d, hd⟩ := p3 false cs w (fun q => by
        show w.tape w.drawn q = glue u w w.drawn u.drawn q
        unfold glue
        rw [if_neg (by omega), Nat.sub_self, Nat.add_zero])
      exact ⟨d, hd, i4 o3 t3 p1 p2 hT3 k⟩
    exact .step (fun w => (_, Classical.choose (one w))) rfl (fun w => (Classical.choose_spec (one w)).1) (fun w => (Classical.choose_spec (one w)).2)
  | jump hj _ _ => exact hj.elim
/-- A CALL of such a function, out of what is proved of it alone. -/
theorem sender_call (hE : Plainly3 T g S) {x : FuncId} {as : Array Value} {v : Value} (hx : x ∈ S) (has : ∀ y ∈ as, Plain y) (hcalls : ∀ w, Calls ⟨T, g⟩ x as w fun e _ => e = .returned v) {frc : Frame} (hn : Sender ⟨T, g⟩ c vs (Gr (frc.finish v) cs)) : Sender ⟨T, g⟩ c vs (Gr (Frame.enter ⟨T, g⟩ x as .normal) (frc :: cs)) := by
  have hT := tm_begin (T := T) (f := g) (L := x) (args := as) (w₀ := default) (Q := fun _ v' _ => v' = v) (fun τ => (hcalls (Rt default τ)).mono (fun e w' q => ⟨v, q, rfl⟩)) rfl
  have ho : Ord (freeOp ⟨T, g⟩ S) S (Frame.enter ⟨T, g⟩ x as .normal) := enter_ord hx (hE.fine x hx)
  have htree : Tree ⟨T, g⟩ S (fun _ _ _ _ _ _ => False) (Frame.enter ⟨T, g⟩ x as .normal) [] default := by
    refine bar (I := fun _ _ _ => True) hE.fine hE.st (fun _ _ _ _ _ _ _ _ _ _ _ _ _ _ _ _ => trivial) (fun fr tops w ho' ht' hm hsp _ _ => ?_) ho (by simp) trivial hT
    exfalso
    rcases hsp with ⟨_, q⟩ | ⟨_, ops, i, r, k, o, e1, e2, _, e4⟩
    · exact q hm
    · have := ho'.items _ (by rw [e1]; exact .head _)
      have := hE.ok _ (Array.all_eq_true_iff_forall_mem.1 this _ (Array.mem_of_getElem? e2))
      rw [e4] at this
      cases this
  have := free_sender (c := c) (vs := vs) (cs := frc :: cs) hE htree ho (by simp) (Pl.enter has) (by simp) hT ?_
  · exact this
  · rintro fr' u' ho' hp' hm' ⟨τ, v', fn, h1, h2, h3, rfl⟩
    have step : ∀ (u : World), stepG ⟨T, g⟩ false (Gr fr' (frc :: cs)) u = GStep.after (seen ⟨T, g⟩ fr'.fn ((results fn fr'.tmps).runT ⟨T, g⟩ u #[]).2) (match ((results fn fr'.tmps).runT ⟨T, g⟩ u #[]).1 with
        | .ok a v' => .go (Gr (frc.finish a) cs) v'
        | .halt (.stuck s) v' => .ended (.stuck s (fr'.pos ⟨T, g⟩)) v'
        | .halt _ v' => .ended (.stuck "return: the result variables cannot be read" (fr'.pos ⟨T, g⟩)) v') := by
      intro u
      have hdf := ho'.defers
      have hkd := ho'.kind
      have hfn : g[fr'.fn]? = some fn := by rw [h1]; exact h2
      obtain ⟨fn', tmps, todo, defers, mode, kind, round⟩ := fr'
      simp only at hm' hdf hfn hkd
      subst hm' hdf hkd
      simp only [stepG, unwind, hfn, doReturn]
      rfl
    rcases free_run (P := ⟨T, g⟩) _ (free_results (P := ⟨T, g⟩) (hE.res x hx fn h2) hp') with ⟨a, ha, e⟩ | ⟨y, _, e⟩
    · have ea : a = v' := by
        have e5 := e u' #[]
        have e6 : (results fn fr'.tmps).run ⟨T, g⟩ u' = .ok a u' := run_of e5
        rw [h3] at e6
        cases e6
        rfl
      subst ea
      refine sg_go rfl (fun w => ?_) hn
      rw [step, e]
      simp [GStep.after, seen]
    · exfalso
      have e6 : (results fn fr'.tmps).run ⟨T, g⟩ u' = .halt y u' := run_of (e u' #[])
      rw [h3] at e6
      cases e6
end
end Go.Proofs.Ytfhcpehfmecpjaa
/- Rows of bytes that a call owns, and the string that is made of one: facts for the walks of this seat. -/
namespace Go.Proofs.Ytfhcpehfmecpjaa
open Go.RowKit

/-- Bytes as the cells of a row. -/
def bv (l : List UInt8) : List Value := l.map fun b => .int .u8 (b.toNat : Int)
theorem bv_nil : bv [] = [] := rfl
theorem bv_snoc (l : List UInt8) (b : UInt8) : bv l ++ [.int .u8 (b.toNat : Int)] = bv (l ++ [b]) := by simp [bv]
theorem bv_len (l : List UInt8) : (bv l).length = l.length := by simp [bv]
theorem byte_of (n : Int) (h0 : 0 ≤ n) (h1 : n < 256) : Value.int .u8 n = .int .u8 ((UInt8.ofNat n.toNat).toNat : Int) := by
  have : (UInt8.ofNat n.toNat).toNat = n.toNat := by simp; omega
  rw [this]; congr 1; omega

theorem Try.info5 : (Try.prog.info? 5).map (fun i => (i.zero, i.size, i.bytes)) = some (some (.int .u8 0), 1, 1) := by kernel_rfl

/-- The string of a row of bytes that a call owns. -/
theorem own_string {w : World} {base : Nat} {v : Value} {l : List UInt8} (h : w.ownsRow base 5 1 v l.length (bv l)) :
    (convert 22 9 v).run Try.prog w = .ok (.string ⟨l.toArray⟩) w := by
  have hc : ∀ g, v.ownBlock = some g → ∀ j u, (bv l)[j]? = some u → w.cell? ((⟨g, 0, none⟩ : Addr).add j) = some u := fun g hg => h.cells hg
  obtain ⟨h1, ⟨rfl, h0⟩ | ⟨g, cap, cur, rfl, _⟩⟩ := h
  · have : l = [] := List.eq_nil_of_length_eq_zero h0
    subst this
    exact run_convert_bytes_nil _ 22 5 Try.underlying22 Try.underlying5 0 0 _ Try.underlying9
  · exact run_convert_bytes_back w 22 9 5 ⟨g, 0, none⟩ cap l Try.underlying22 Try.underlying5 Try.underlying9 (fun j hj => hc g rfl j _ (by simp [bv, hj]))

/-- A part of a string. -/
theorem slice_str (s : ByteArray) (a b : Nat) (h1 : a ≤ b) (h2 : b ≤ s.size) (w : World) :
    (Instr.slice 9 (.string s) (some (.int .i64 (a : Int))) (some (.int .i64 (b : Int))) none).run Try.prog w = .ok (.string (s.extract a b)) w := by
  rw [run_slice_string_if w 9 s .i64 .i64 a b Try.underlying9, if_pos ⟨by omega, by omega⟩, if_pos ⟨by omega, by omega⟩]
  rfl
end Go.Proofs.Ytfhcpehfmecpjaa
/- Rows of cells in memory, for elements of any number of cells: what a row holds, and a row that may be written. Nothing of the program is read here. -/
namespace Go.Proofs.Ytfhcpehfmecpjaa
open Go.RowKit

theorem flat_len {α : Type} {enc : α → List Value} {sz : Nat} (hsz : ∀ x, (enc x).length = sz) (xs : List α) : (xs.flatMap enc).length = xs.length * sz := by
  induction xs with
  | nil => simp
  | cons x xs ih => simp only [List.flatMap_cons, List.length_append, List.length_cons, ih, hsz, Nat.add_mul]; omega
theorem flat_get {α : Type} {enc : α → List Value} {sz : Nat} (hsz : ∀ x, (enc x).length = sz) (xs : List α) (j : Nat) (h : j < xs.length) (i : Nat) (hi : i < sz) : (xs.flatMap enc)[j * sz + i]? = (enc xs[j])[i]? := by
  induction xs generalizing j with
  | nil => simp at h
  | cons x xs ih =>
    rw [List.flatMap_cons]
    cases j with
    | zero =>
      rw [List.getElem?_append_left (by rw [hsz]; omega)]
      simp
    | succ j =>
      rw [List.getElem?_append_right (by rw [hsz, Nat.add_mul]; omega), hsz]
      have := ih j (by simpa using h)
      rw [show (j + 1) * sz + i - sz = j * sz + i by rw [Nat.add_mul]; omega]
      simpa using this
theorem flat_set {α : Type} {enc : α → List Value} {sz : Nat} (hsz : ∀ x, (enc x).length = sz) (xs : List α) (j : Nat) (h : j < xs.length) (y : α) (n : Nat) (hn : n < xs.length * sz) :
    ((xs.set j y).flatMap enc)[n]? = if n / sz = j then (enc y)[n % sz]? else (xs.flatMap enc)[n]? := by
  have hp : 0 < sz := by
    cases sz with
    | zero => simp at hn
    | succ s => omega
  have hq : n / sz < xs.length := Nat.div_lt_of_lt_mul (by rwa [Nat.mul_comm] at hn)
  have hr := Nat.mod_lt n hp
  have e : n = n / sz * sz + n % sz := by rw [Nat.mul_comm]; exact (Nat.div_add_mod n sz).symm
  have l1 := flat_get hsz (xs.set j y) (n / sz) (by simpa using hq) (n % sz) hr
  have l2 := flat_get hsz xs (n / sz) hq (n % sz) hr
  rw [← e] at l1 l2
  rw [l1, l2]
  by_cases c : n / sz = j
  · subst c; simp
  · rw [if_neg c, List.getElem_set_ne (Ne.symm c)]

/-- A row of cells, from a place on. -/
def CRow (w : World) (a : Option Addr) (L : List Value) : Prop :=
  0 < L.length → ∃ b off, a = some ⟨b, off, none⟩ ∧ b < w.heap.size ∧ ∀ i v, L[i]? = some v → w.cell? ⟨b, off + i, none⟩ = some v
theorem CRow.stays {w w' : World} {a : Option Addr} {L : List Value} (h : CRow w a L) (hb : Below w.heap.size w w') : CRow w' a L := by
  intro hp
  obtain ⟨b, off, e, hlt, hc⟩ := h hp
  exact ⟨b, off, e, Nat.lt_of_lt_of_le hlt hb.size, fun i v hv => by rw [hb.cell (p := ⟨b, off + i, none⟩) hlt]; exact hc i v hv⟩
/-- A row of cells that may be written, in a block of its own. -/
def WCells (w : World) (g : Nat) (L : List Value) : Prop :=
  g < w.heap.size ∧ ∀ i v, L[i]? = some v → w.cell? ⟨g, i, none⟩ = some v ∧ w.frozen? ⟨g, i, none⟩ = false
theorem WCells.crow {w : World} {g : Nat} {L : List Value} (h : WCells w g L) : CRow w (some ⟨g, 0, none⟩) L := fun _ => ⟨g, 0, rfl, h.1, fun i v hv => by rw [Nat.zero_add]; exact (h.2 i v hv).1⟩
theorem WCells.below {w w' : World} {g B : Nat} {L : List Value} (h : WCells w g L) (hb : Below B w w') (hg : g < B) : WCells w' g L :=
  ⟨Nat.lt_of_lt_of_le h.1 hb.size, fun i v hv => ⟨(hb.cell (p := ⟨g, i, none⟩) hg).trans (h.2 i v hv).1, (hb.frozen (p := ⟨g, i, none⟩) hg).trans (h.2 i v hv).2⟩⟩
theorem WCells.set {w : World} {g : Nat} {L : List Value} (h : WCells w g L) (i : Nat) (x : Value) (hi : i < L.length) : WCells (w.setCell ⟨g, i, none⟩ x) g (L.set i x) := by
  refine ⟨by have := h.1; simpa [World.setCell] using this, fun j v hv => ?_⟩
  have hj : j < L.length := by
    have := (List.getElem?_eq_some_iff.1 hv).1
    simpa using this
  have hold := h.2 j L[j] (List.getElem?_eq_getElem hj)
  refine ⟨?_, (World.frozen?_setCell _ _ _ _).trans hold.2⟩
  by_cases e : j = i
  · subst e
    rw [World.cell?_setCell_same _ _ _ hold.1]
    rw [List.getElem?_set_self hi] at hv
    exact hv
  · rw [World.cell?_setCell_other _ _ _ _ (by first | (simp; done) | (simp; omega)), hold.1]
    rw [List.getElem?_set_ne (Ne.symm e), List.getElem?_eq_getElem hj] at hv
    exact hv
theorem own_wcells {w : World} {B g n cap t sz : Nat} {L : List Value} (h : w.ownsRow B t sz (.slice (some ⟨g, 0, none⟩) n cap) n L) : WCells w g L := by
  have hc := h.cells (g := g) rfl
  have hlt := h.lt g rfl
  obtain ⟨_, ⟨h0, _⟩ | ⟨g', cap', cur, he, hB, hcur, _, _, _, _⟩⟩ := h
  · cases h0
  · have eg : g' = g := by simp at he; exact he.1.symm
    subst eg
    refine ⟨hlt.2, fun j v hj => ⟨?_, ?_⟩⟩
    · have := hc j v hj
      have e : (⟨g', 0, none⟩ : Addr).add j = ⟨g', j, none⟩ := by cases j <;> simp [Addr.add]
      rw [e] at this
      exact this
    · unfold World.frozen?
      rw [hcur]; simp

/-- Cells laid one behind the other: in a list, and in a world. -/
def setL (L : List Value) (off : Nat) : List Value → List Value
  | [] => L
  | v :: vs => setL (L.set off v) (off + 1) vs
def setW (w : World) (g off : Nat) : List Value → World
  | [] => w
  | v :: vs => setW (w.setCell ⟨g, off, none⟩ v) g (off + 1) vs
theorem setL_cons (c : Value) (L : List Value) (off : Nat) (vs : List Value) : setL (c :: L) (off + 1) vs = c :: setL L off vs := by
  induction vs generalizing L off with
  | nil => rfl
  | cons v vs ih => simp only [setL, List.set_cons_succ]; exact ih _ _
theorem setL_app (A L : List Value) (off : Nat) (vs : List Value) : setL (A ++ L) (A.length + off) vs = A ++ setL L off vs := by
  induction A with
  | nil => simp
  | cons a A ih => rw [List.cons_append, List.length_cons, show A.length + 1 + off = (A.length + off) + 1 by omega, setL_cons, ih]; rfl
theorem setL_head (A R B : List Value) (h : A.length = B.length) : setL (A ++ R) 0 B = B ++ R := by
  induction B generalizing A with
  | nil => simp at h; subst h; rfl
  | cons b B ih =>
    cases A with
    | nil => simp at h
    | cons a A =>
      simp only [List.cons_append, setL, List.set_cons_zero, setL_cons]
      rw [ih A (by simpa using h)]
theorem flat_setL {α : Type} {enc : α → List Value} {sz : Nat} (hsz : ∀ x, (enc x).length = sz) (xs : List α) (j : Nat) (h : j < xs.length) (y : α) : setL (xs.flatMap enc) (j * sz) (enc y) = (xs.set j y).flatMap enc := by
  induction xs generalizing j with
  | nil => simp at h
  | cons x xs ih =>
    cases j with
    | zero =>
      simp only [Nat.zero_mul, List.flatMap_cons, List.set_cons_zero]
      exact setL_head _ _ _ (by rw [hsz, hsz])
    | succ j =>
      simp only [List.flatMap_cons, List.set_cons_succ]
      rw [show (j + 1) * sz = (enc x).length + j * sz by rw [hsz, Nat.add_mul]; omega, setL_app, ih j (by simpa using h)]
theorem setL_len (L : List Value) (off : Nat) (vs : List Value) : (setL L off vs).length = L.length := by
  induction vs generalizing L off with
  | nil => rfl
  | cons v vs ih => simp only [setL]; rw [ih]; simp
theorem WCells.setW {w : World} {g : Nat} {L : List Value} (h : WCells w g L) (off : Nat) (vs : List Value) (hl : off + vs.length ≤ L.length) : WCells (setW w g off vs) g (setL L off vs) := by
  induction vs generalizing w L off with
  | nil => exact h
  | cons v vs ih =>
    simp only [List.length_cons] at hl
    exact ih (h.set off v (by omega)) (off + 1) (by rw [List.length_set]; omega)
/-- An element of a row is laid anew. -/
theorem WCells.setElem {α : Type} {enc : α → List Value} {sz : Nat} (hsz : ∀ x, (enc x).length = sz) {w : World} {g : Nat} {xs : List α} (h : WCells w g (xs.flatMap enc)) (j : Nat) (hj : j < xs.length) (y : α) :
    WCells (Go.Proofs.Ytfhcpehfmecpjaa.setW w g (j * sz) (enc y)) g ((xs.set j y).flatMap enc) := by
  have hl : j * sz + (enc y).length ≤ (xs.flatMap enc).length := by
    rw [hsz, flat_len hsz]
    have := Nat.mul_le_mul_right sz (show j + 1 ≤ xs.length by omega)
    rw [Nat.add_mul] at this; omega
  have := h.setW (j * sz) (enc y) hl
  rwa [flat_setL hsz xs j hj y] at this
theorem below_setW {B g : Nat} {a w : World} (h : Below B a w) (hg : B ≤ g) (off : Nat) (vs : List Value) : Below B a (setW w g off vs) := by
  induction vs generalizing w off with
  | nil => exact h
  | cons v vs ih => exact ih (h.setCell (p := ⟨g, off, none⟩) hg v) _
/-- What 'make' lays, for elements of some cells. -/
theorem made_flat {α : Type} {enc : α → List Value} {sz : Nat} (hsz : ∀ x, (enc x).length = sz) (hp : 0 < sz) (z : Array Value) (d : α) (hz : z.toList = enc d) (n : Nat) : (madeCells z (n * sz)).toList = (List.replicate n d).flatMap enc := by
  have hzs : z.size = sz := by rw [← Array.length_toList, hz, hsz]
  apply List.ext_getElem?
  intro i
  by_cases hi : i < n * sz
  · have hq : i / sz < n := Nat.div_lt_of_lt_mul (by rwa [Nat.mul_comm] at hi)
    have hr := Nat.mod_lt i hp
    have e : i = i / sz * sz + i % sz := by rw [Nat.mul_comm]; exact (Nat.div_add_mod i sz).symm
    have l1 := flat_get hsz (List.replicate n d) (i / sz) (by simpa using hq) (i % sz) hr
    rw [← e] at l1
    rw [l1, List.getElem_replicate, ← hz]
    unfold madeCells
    have h3 : i % sz < z.size := by omega
    simp [hi, hzs]
    rw [getElem!_pos z (i % sz) h3, Array.getElem?_eq_getElem h3]
  · rw [List.getElem?_eq_none (by rw [Array.length_toList, size_madeCells]; omega), List.getElem?_eq_none (by rw [flat_len hsz]; simp; omega)]
theorem wcells_new (w : World) (cs : Array Value) (t : TypeId) : WCells (w.alloc (.cells cs t)) w.heap.size cs.toList := by
  refine ⟨by simp, fun i v hv => ⟨?_, ?_⟩⟩
  · rw [World.cell?_alloc_new]; simpa using hv
  · unfold World.frozen?
    rw [heap_alloc_new]; simp
theorem WCells.alloc {w : World} {g : Nat} {L : List Value} (h : WCells w g L) (o : Obj) : WCells (w.alloc o) g L := h.below ((Below.refl _ _).alloc (Nat.le_refl _) o) h.1
theorem WCells.grow {w w' : World} {g : Nat} {L : List Value} (h : WCells w g L) (hb : Below w.heap.size w w') : WCells w' g L := h.below hb h.1
theorem WCells.other {w : World} {g : Nat} {L : List Value} (h : WCells w g L) (p : Addr) (x : Value) (hp : g ≠ p.block) : WCells (w.setCell p x) g L := by
  refine ⟨by have := h.1; simpa [World.setCell] using this, fun j v hv => ?_⟩
  have hold := h.2 j v hv
  refine ⟨?_, (World.frozen?_setCell _ _ _ _).trans hold.2⟩
  rw [← hold.1]
  exact World.cell?_of_block (Below.heap_setCell w p x g hp)
/-- A fact that no tactic parts. -/
structure Shut (p : Prop) : Prop where
  out : p
end Go.Proofs.Ytfhcpehfmecpjaa
/- Rows of numbers: their copies, their comparison, marks that are laid into one and found again. -/
namespace Go.Proofs.Ytfhcpehfmecpjaa
open Go.RowKit
attribute [local go_sem ↓] Go.wp_at_zero Go.wp_at_succ

def ics (xs : List Int) : List Value := xs.map fun x => .int .i64 x
theorem ics_len (xs : List Int) : (ics xs).length = xs.length := by simp [ics]
theorem ics_get (xs : List Int) (j : Nat) (h : j < xs.length) : (ics xs)[j]? = some (.int .i64 (xs.getD j 0)) := by simp [ics, List.getD, h]
theorem ics_set (xs : List Int) (j : Nat) (x : Int) : (ics xs).set j (.int .i64 x) = ics (xs.set j x) := by simp [ics, List.map_set]
theorem crow_int {w : World} {a : Option Addr} {xs : List Int} (h : CRow w a (ics xs)) (hp : 0 < xs.length) : ∃ b off, a = some ⟨b, off, none⟩ ∧ b < w.heap.size ∧ ∀ j, j < xs.length → w.cell? ⟨b, off + j, none⟩ = some (.int .i64 (xs.getD j 0)) := by
  obtain ⟨b, off, e, hb, hc⟩ := h (by rw [ics_len]; exact hp)
  exact ⟨b, off, e, hb, fun j hj => hc j _ (ics_get xs j hj)⟩
theorem infoIntG : (Try.prog.info? 3).map (fun i => (i.zero, i.size, i.bytes)) = some (some (.int .i64 0), 1, 8) := by kernel_rfl
def ToInts (xs : List Int) (w : World) (e : Ending) (w' : World) : Prop := ∃ g, e = .returned (.slice (some ⟨g, 0, none⟩) xs.length xs.length) ∧ w.heap.size ≤ g ∧ WCells w' g (ics xs) ∧ Below w.heap.size w w'
/-- Marks from k on. -/
def marksI (k n : Nat) : List Int := (List.range n).map fun j => ((k + j : Nat) : Int)
theorem marksI_len (k n : Nat) : (marksI k n).length = n := by simp [marksI]
theorem marksI_at (k n j : Nat) (h : j < n) : (marksI k n).getD j 0 = ((k + j : Nat) : Int) := by simp [marksI, List.getD, h]
def MarkInts (g k n : Nat) (w : World) (e : Ending) (w' : World) : Prop := e = .returned (.int .i64 (k + n : Nat)) ∧ (∃ ys : List Int, ys.length = n ∧ WCells w' g (ics ys)) ∧ w.grownBy w' (some g)
theorem gb_set' (w : World) (g i : Nat) (v : Value) : w.grownBy (w.setCell ⟨g, i, none⟩ v) (some g) :=
  ⟨rfl, rfl, rfl, by simp [World.setCell], fun k _ hk => Below.heap_setCell w ⟨g, i, none⟩ v k (fun e => hk (by rw [e]))⟩
theorem gb_two' {a b c : World} {g : Nat} (h : a.grownBy b (some g)) (k : b.grownBy c (some g)) : a.grownBy c (some g) :=
  ⟨k.os.trans h.os, k.tape.trans h.tape, k.output.trans h.output, Nat.le_trans h.size k.size, fun j hj hn => (k.block j (Nat.lt_of_lt_of_le hj h.size) hn).trans (h.block j hj hn)⟩
end Go.Proofs.Ytfhcpehfmecpjaa
/- The schemas, plain, and the walk of the model's SchemaOf. -/
namespace Go.Proofs.Ytfhcpehfmecpjaa
open Go.RowKit
attribute [local go_sem ↓] Go.wp_at_zero Go.wp_at_succ

def schK (s : Int) : Nat := if s = 1 then 2 else if s = 2 then 3 else if s = 3 then 4 else 0
def schM (s : Int) : Nat := if s = 1 then 1 else if s = 2 then 2 else if s = 3 then 2 else 0
def schOk (s : Int) : Bool := decide (s = 1) || decide (s = 2) || decide (s = 3)
theorem sch_cases {s : Int} (h : schOk s = true) : s = 1 ∨ s = 2 ∨ s = 3 := by
  unfold schOk at h
  simp only [Bool.or_eq_true, decide_eq_true_eq] at h
  omega
theorem sch_no {s : Int} (h : schOk s = false) : s ≠ 1 ∧ s ≠ 2 ∧ s ≠ 3 := by
  unfold schOk at h
  simp only [Bool.or_eq_false_iff, decide_eq_false_iff_not] at h
  omega
theorem sch_bounds {s : Int} (h : schOk s = true) : 2 ≤ schK s ∧ schK s ≤ 4 ∧ 1 ≤ schM s ∧ schM s ≤ 2 := by
  rcases sch_cases h with rfl | rfl | rfl <;> decide
theorem sch_zero {s : Int} (h : schOk s = false) : schK s = 0 ∧ schM s = 0 := by
  obtain ⟨h1, h2, h3⟩ := sch_no h
  unfold schK schM
  rw [if_neg h1, if_neg h2, if_neg h3, if_neg h1, if_neg h2, if_neg h3]
  exact ⟨rfl, rfl⟩
def SchPost (s : Int) (w : World) (e : Ending) (w' : World) : Prop := e = .returned (.tuple #[.int .i64 (schK s : Nat), .int .i64 (schM s : Nat), .bool (schOk s)]) ∧ w' = w
theorem specSchema (s : Int) (w : World) : Calls Try.prog 27 #[.int .i64 s] w fun e w' => SchPost s w e w' := by
  cases h : schOk s with
  | true =>
    obtain rfl | rfl | rfl := sch_cases h
    all_goals
      clear h
      go_enter Try.func27, Try.ntmps27
      go_wp2_with fail
      go_ret3
      exact ⟨rfl, rfl⟩
  | false =>
    obtain ⟨h1, h2, h3⟩ := sch_no h
    obtain ⟨e1, e2⟩ := sch_zero h
    unfold SchPost
    rw [e1, e2, h]
    clear h e1 e2
    go_enter Try.func27, Try.ntmps27
    go_wp2_with fail
    go_ret3
    exact ⟨rfl, rfl⟩
/-- The same, of the program's own. -/
def SchB (s : Int) (w : World) (e : Ending) (w' : World) : Prop := e = .returned (.tuple #[.int .i64 (schK s : Nat), .int .i64 (schM s : Nat), .bool (schOk s)]) ∧ Below w.heap.size w w'
end Go.Proofs.Ytfhcpehfmecpjaa
/- Plain facts on the bytes of numbers: the bytes of a number by sevens of bits are told by 'vt', the number that bytes begin by 'rv'; nothing of the program is read here. -/
namespace Go.Proofs.Ytfhcpehfmecpjaa.W
/-- The bytes of a number, by sevens of bits, with fuel. -/
def vtF : Nat → Nat → List UInt8
  | 0, n => [UInt8.ofNat n]
  | f + 1, n => if 127 < n then UInt8.ofNat (n % 128 + 128) :: vtF f (n / 128) else [UInt8.ofNat n]
def vt (n : Nat) : List UInt8 := vtF n n
theorem vtF_enough : ∀ (f g n : Nat), n ≤ f → n ≤ g → vtF f n = vtF g n
  | 0, 0, n, _, _ => rfl
  | 0, g + 1, n, h, _ => by have : n = 0 := by omega
                            subst this; simp [vtF]
  | f + 1, 0, n, _, h => by have : n = 0 := by omega
                            subst this; simp [vtF]
  | f + 1, g + 1, n, h1, h2 => by
    unfold vtF
    by_cases h : 127 < n
    · rw [if_pos h, if_pos h, vtF_enough f g (n / 128) (by omega) (by omega)]
    · rw [if_neg h, if_neg h]
theorem vt_big (n : Nat) (h : 127 < n) : vt n = UInt8.ofNat (n % 128 + 128) :: vt (n / 128) := by
  unfold vt
  match n, h with
  | k + 1, h =>
    rw [vtF, if_pos h, vtF_enough k ((k + 1) / 128) ((k + 1) / 128) (by omega) (by omega)]
theorem vt_small (n : Nat) (h : n ≤ 127) : vt n = [UInt8.ofNat n] := by
  unfold vt
  match n with
  | 0 => rfl
  | k + 1 => rw [vtF, if_neg (by omega)]
theorem vt_len (n : Nat) : (vt n).length ≤ n + 1 := by
  suffices h : ∀ f m, (vtF f m).length ≤ f + 1 from h n n
  intro f
  induction f with
  | zero => intro m; simp [vtF]
  | succ f ih => intro m; unfold vtF; split
                 · have := ih (m / 128); simp; omega
                 · simp

/-- The number of bytes by sevens: each with its high bit left off. -/
def val : List UInt8 → Nat
  | [] => 0
  | b :: l => b.toNat % 128 + 128 * val l

/-- All but the last are 128 or more. -/
def heads (l : List UInt8) : Prop := ∀ b ∈ l, 128 ≤ b.toNat

theorem ofNat_self (b : UInt8) : UInt8.ofNat b.toNat = b := by simp

theorem vt_one (b : UInt8) (h : b.toNat < 128) : vt b.toNat = [b] := by
  rw [vt_small _ (by omega)]; simp

theorem val_pos : ∀ (l : List UInt8) (b : UInt8), b.toNat < 128 → b ≠ 0 → 0 < val (l ++ [b])
  | [], b, h, h0 => by
    have : b.toNat ≠ 0 := fun e => h0 (by have := UInt8.toNat_inj (a := b) (b := 0); simp at this; exact this.1 e)
    simp [val]; omega
  | c :: l, b, h, h0 => by
    have := val_pos l b h h0
    simp [val]; omega

/-- The bytes of the number of some bytes are those bytes, where they have no needless nought at the end. -/
theorem vt_val : ∀ (l : List UInt8) (b : UInt8), heads l → b.toNat < 128 → (l = [] ∨ b ≠ 0) → vt (val (l ++ [b])) = l ++ [b]
  | [], b, _, hb, _ => by
    have : val ([] ++ [b]) = b.toNat := by simp [val]; omega
    rw [this]; exact vt_one b hb
  | c :: l, b, hl, hb, h0 => by
    have h0 : b ≠ 0 := by rcases h0 with h | h; cases h; exact h
    have hc : 128 ≤ c.toNat := hl c (by simp)
    have ih := vt_val l b (fun x hx => hl x (by simp [hx])) hb (.inr h0)
    have hp := val_pos l b hb h0
    have hlt := c.toNat_lt
    have e : val (c :: l ++ [b]) = c.toNat % 128 + 128 * val (l ++ [b]) := rfl
    rw [e, vt_big _ (by omega)]
    have e1 : (c.toNat % 128 + 128 * val (l ++ [b])) % 128 + 128 = c.toNat := by omega
    have e2 : (c.toNat % 128 + 128 * val (l ++ [b])) / 128 = val (l ++ [b]) := by omega
    rw [e1, e2, ih]; simp

/-- With a needless nought at the end they are not. -/
theorem vt_last : ∀ (f n : Nat), n ≤ f → 0 < n → (vtF f n).getLast? ≠ some 0
  | 0, n, h, h' => by omega
  | f + 1, n, h, h' => by
    unfold vtF
    by_cases hb : 127 < n
    · rw [if_pos hb]
      have ih := vt_last f (n / 128) (by omega) (by omega)
      have hne : vtF f (n / 128) ≠ [] := by cases f <;> simp [vtF] <;> split <;> simp
      rw [List.getLast?_cons_of_ne_nil hne]
      exact ih
    · rw [if_neg hb]
      simp
      intro e
      have := congrArg UInt8.toNat e
      simp at this
      omega
theorem vt_not (l : List UInt8) (hl : l ≠ []) : vt (val (l ++ [0])) ≠ l ++ [0] := by
  intro e
  by_cases h : val (l ++ [0]) = 0
  · rw [h] at e
    have := congrArg List.length e
    simp [vt, vtF] at this
    exact hl this
  · have := vt_last _ _ (Nat.le_refl (val (l ++ [0]))) (by omega)
    unfold vt at e
    rw [e] at this
    simp at this

/-- What stands behind some bytes: the number that they begin, its weight, whether none has come yet, the bytes that are left, their place. -/
def rv : Nat → Nat → Bool → List UInt8 → Nat → Option (Nat × Nat)
  | _, _, _, [], _ => none
  | n, w, first, b :: l, p =>
    if 1000000000 < w then none
    else if 127 < b.toNat then rv (n + (b.toNat - 128) * w) (w * 128) false l (p + 1)
    else if b.toNat = 0 ∧ first = false then none
    else if 1000000000 < n + b.toNat * w then none
    else some (n + b.toNat * w, p + 1)

theorem val_snoc : ∀ (l : List UInt8) (b : UInt8), val (l ++ [b]) = val l + b.toNat % 128 * 128 ^ l.length
  | [], b => by simp [val]
  | c :: l, b => by
    have ih := val_snoc l b
    show c.toNat % 128 + 128 * val (l ++ [b]) = _
    rw [ih]
    simp only [val, List.length_cons, Nat.pow_succ, Nat.mul_add]
    rw [← Nat.mul_assoc (b.toNat % 128), Nat.mul_comm 128 (b.toNat % 128 * 128 ^ l.length)]
    omega
theorem val_lt : ∀ (l : List UInt8), val l < 128 ^ l.length
  | [] => by simp [val]
  | c :: l => by
    have := val_lt l
    simp only [val, List.length_cons, Nat.pow_succ]
    omega
theorem rv_nil (n w : Nat) (f : Bool) (p : Nat) : rv n w f [] p = none := rfl
theorem rv_great (n w : Nat) (f : Bool) (l : List UInt8) (p : Nat) (h : 1000000000 < w) : rv n w f l p = none := by
  cases l
  · rfl
  · rw [rv, if_pos h]
theorem rv_head (n w : Nat) (f : Bool) (b : UInt8) (l : List UInt8) (p : Nat) (h : w ≤ 1000000000) (hb : 127 < b.toNat) : rv n w f (b :: l) p = rv (n + (b.toNat - 128) * w) (w * 128) false l (p + 1) := by
  rw [rv, if_neg (by omega), if_pos hb]
theorem rv_nought (n w : Nat) (b : UInt8) (l : List UInt8) (p : Nat) (hb : b.toNat = 0) : rv n w false (b :: l) p = none := by
  rw [rv]; split
  · rfl
  · rw [if_neg (by omega), if_pos ⟨hb, rfl⟩]
theorem rv_far (n w : Nat) (f : Bool) (b : UInt8) (l : List UInt8) (p : Nat) (hb : b.toNat ≤ 127) (h : 1000000000 < n + b.toNat * w) : rv n w f (b :: l) p = none := by
  rw [rv]; split
  · rfl
  · rw [if_neg (by omega)]; split
    · rfl
    · rfl
theorem rv_done (n w : Nat) (f : Bool) (b : UInt8) (l : List UInt8) (p : Nat) (h : w ≤ 1000000000) (hb : b.toNat ≤ 127) (h0 : b.toNat ≠ 0 ∨ f = true) (hm : n + b.toNat * w ≤ 1000000000) :
    rv n w f (b :: l) p = some (n + b.toNat * w, p + 1) := by
  rw [rv, if_neg (by omega), if_neg (by omega), if_neg (by rcases h0 with h | h <;> simp [h]), if_neg (by omega)]

/-- As the bytes so far tell it. -/
def rvs (hd : List UInt8) (l : List UInt8) (p : Nat) : Option (Nat × Nat) := rv (val hd) (128 ^ hd.length) (decide (hd.length = 0)) l p
theorem rvs_step (hd : List UInt8) (b : UInt8) (l : List UInt8) (p : Nat) (hk : hd.length ≤ 4) (hb : 127 < b.toNat) : rvs hd (b :: l) p = rvs (hd ++ [b]) l (p + 1) := by
  have hw : 128 ^ hd.length ≤ 128 ^ 4 := Nat.pow_le_pow_right (by omega) hk
  have hlt := b.toNat_lt
  unfold rvs
  rw [rv_head _ _ _ _ _ _ (by omega) hb, val_snoc, List.length_append, List.length_singleton, Nat.pow_succ, decide_eq_false (p := hd.length + 1 = 0) (by omega)]
  have : b.toNat % 128 = b.toNat - 128 := by omega
  rw [this]
theorem rvs_five (hd : List UInt8) (l : List UInt8) (p : Nat) (hk : 5 ≤ hd.length) : rvs hd l p = none := by
  have hw : 128 ^ 5 ≤ 128 ^ hd.length := Nat.pow_le_pow_right (by omega) hk
  exact rv_great _ _ _ _ _ (by omega)
/-- The test by the bytes of the number says the same as the test for a needless nought. -/
theorem rvs_end (hd : List UInt8) (b : UInt8) (l : List UInt8) (p : Nat) (hk : hd.length ≤ 4) (hh : heads hd) (hb : b.toNat ≤ 127) :
    rvs hd (b :: l) p = if val (hd ++ [b]) ≤ 1000000000 ∧ vt (val (hd ++ [b])) = hd ++ [b] then some (val (hd ++ [b]), p + 1) else none := by
  have hw : 128 ^ hd.length ≤ 128 ^ 4 := Nat.pow_le_pow_right (by omega) hk
  have ev : val (hd ++ [b]) = val hd + b.toNat * 128 ^ hd.length := by rw [val_snoc]; congr 2; omega
  by_cases h0 : b.toNat = 0 ∧ hd ≠ []
  · have eb : b = 0 := by have := UInt8.toNat_inj (a := b) (b := 0); simp at this; exact this.1 h0.1
    rw [if_neg (by rw [eb]; exact fun h => vt_not hd h0.2 h.2)]
    unfold rvs
    rw [decide_eq_false (by simpa using h0.2), rv_nought _ _ _ _ _ h0.1]
  · have hv : vt (val (hd ++ [b])) = hd ++ [b] := vt_val hd b hh (by omega) (by
      by_cases e : hd = []
      · exact .inl e
      · right; intro eb; exact h0 ⟨by rw [eb]; rfl, e⟩)
    by_cases hm : val (hd ++ [b]) ≤ 1000000000
    · rw [if_pos ⟨hm, hv⟩]
      unfold rvs
      rw [rv_done _ _ _ _ _ _ (by omega) hb (by
        by_cases e : hd = []
        · right; simp [e]
        · left; exact fun eb => h0 ⟨eb, e⟩) (by omega), ev]
    · rw [if_neg (fun h => hm h.1)]
      exact rv_far _ _ _ _ _ _ hb (by omega)
end Go.Proofs.Ytfhcpehfmecpjaa.W
/- The walks of l01Var and l01In. -/
namespace Go.Proofs.Ytfhcpehfmecpjaa
open Go.RowKit

/-- What one round of the loop does to the row of bytes. -/
theorem step_byte {B n m : Nat} {l : List UInt8} {w wr w1 : World} {v v' : Value} {o : Obj} {x : Int} (hB : B ≤ wr.heap.size) (hx : x = (m % 128 + 128 : Nat))
    (hm : 127 < m) (hl : l.length + m ≤ n) (ht : l ++ W.vt m = W.vt n)
    (hown : wr.ownsRow B 5 1 v l.length (bv l)) (hb : Below B w wr)
    (hown' : w1.ownsRow B 5 1 v' (l.length + 1) (bv l ++ [.int .u8 x])) (hg : (wr.alloc o).grownBy w1 v.ownBlock) :
    ∃ l', l'.length + m / 128 ≤ n ∧ l' ++ W.vt (m / 128) = W.vt n ∧ w1.ownsRow B 5 1 v' l'.length (bv l') ∧ Below B w w1 := by
  refine ⟨l ++ [UInt8.ofNat (m % 128 + 128)], by simp; omega, by rw [← ht, W.vt_big m hm]; simp, ?_, ?_⟩
  · have e := byte_of x (by omega) (by omega)
    rw [e, bv_snoc] at hown'
    have : UInt8.ofNat x.toNat = UInt8.ofNat (m % 128 + 128) := by rw [hx]; rfl
    rw [this] at hown'
    simpa using hown'
  · exact (hb.alloc hB o).grown hg (by simp; omega) (fun j hj => by have := (hown.lt j hj).1; omega)
theorem last_byte {B n m : Nat} {l : List UInt8} {w wr w1 : World} {v v' : Value} {o : Obj} {x : Int} (hB : B ≤ wr.heap.size) (hx : x = m)
    (hm : m ≤ 127) (ht : l ++ W.vt m = W.vt n)
    (hown : wr.ownsRow B 5 1 v l.length (bv l)) (hb : Below B w wr)
    (hown' : w1.ownsRow B 5 1 v' (l.length + 1) (bv l ++ [.int .u8 x])) (hg : (wr.alloc o).grownBy w1 v.ownBlock) :
    (convert 22 9 v').run Try.prog w1 = .ok (.string ⟨(W.vt n).toArray⟩) w1 ∧ Below B w w1 := by
  refine ⟨?_, (hb.alloc hB o).grown hg (by simp; omega) (fun j hj => by have := (hown.lt j hj).1; omega)⟩
  have e := byte_of x (by omega) (by omega)
  rw [e, bv_snoc] at hown'
  have : UInt8.ofNat x.toNat = UInt8.ofNat m := by rw [hx]; rfl
  rw [this] at hown'
  have hn : W.vt n = l ++ [UInt8.ofNat m] := by rw [← ht, W.vt_small m hm]
  rw [hn]
  exact own_string (by simpa using hown')

theorem l01In_any (x a b : Int) (w : World) :
    Calls Try.prog 30 #[.int .i64 x, .int .i64 a, .int .i64 b] w fun e w' => e = .returned (.bool (decide (a ≤ x) && decide (x ≤ b))) ∧ w' = w := by
  by_cases h : a ≤ x
  · by_cases h' : x ≤ b
    · go_enter Try.func30, Try.ntmps30
      go_wp2
      go_ret
      exact ⟨by simp [h, h'], rfl⟩
    · go_enter Try.func30, Try.ntmps30
      go_wp2
      go_ret
      exact ⟨by simp [h'], rfl⟩
  · go_enter Try.func30, Try.ntmps30
    go_wp2
    go_ret
    exact ⟨by simp; omega, rfl⟩
end Go.Proofs.Ytfhcpehfmecpjaa
/- Stripes: the walks of the models' GroupSize, PlaceOf, OffsetOf and Spans. -/
namespace Go.Proofs.Ytfhcpehfmecpjaa
open Go.RowKit
attribute [local go_sem ↓] Go.wp_at_zero Go.wp_at_succ

theorem isIn (x a b : Int) (w : World) (r : Bool) (h : (decide (a ≤ x) && decide (x ≤ b)) = r) : Calls Try.prog 30 #[.int .i64 x, .int .i64 a, .int .i64 b] w fun e w' => e = .returned (.bool r) ∧ w' = w := by
  rw [← h]; exact l01In_any x a b w
/-- How many bytes a group has. -/
def groupN (s : Int) : Nat := schK s * 8
theorem groupN_bounds (s : Int) : groupN s ≤ 32 := by
  unfold groupN
  cases h : schOk s with
  | true => have := (sch_bounds h).2.1; omega
  | false => rw [(sch_zero h).1]; omega
theorem specGroupSize (s : Int) (w : World) : Calls Try.prog 21 #[.int .i64 s] w fun e w' => e = .returned (.int .i64 (groupN s : Nat)) ∧ w' = w := by
  have HS := Shut.mk (fun W => specSchema s W)
  unfold SchPost at HS
  have hk : schK s ≤ 4 := by
    cases h : schOk s with
    | true => exact (sch_bounds h).2.1
    | false => rw [(sch_zero h).1]; omega
  have hg : ((groupN s : Nat) : Int) = (schK s : Int) * 4 * 2 := by unfold groupN; push_cast; omega
  generalize schOk s = ok at *
  generalize schM s = m at *
  generalize schK s = k at *
  have HG := Shut.mk hg
  clear hg
  go_enter Try.func21, Try.ntmps21
  go_wp2_with fail
  refine (HS.out _).mono ?_
  rintro e w1 ⟨rfl, rfl⟩
  go_wp2_with fail
  go_ret
  exact ⟨by rw [HG.out]; first | rfl | (simp; done) | (congr 2; omega), rfl⟩
/-- Where a byte is, plain: group, unit, place. -/
def unitAt (k o : Nat) : Nat := o % (k * 8) / 4 % k
def placeIn (k o : Nat) : Nat := o % (k * 8) / 4 / k * 4 + o % (k * 8) % 4
def placeX (s off : Int) : Nat × Nat × Nat := if schOk s = true ∧ 0 ≤ off ∧ off ≤ 100000 then (off.toNat / (schK s * 8), unitAt (schK s) off.toNat, placeIn (schK s) off.toNat) else (0, 0, 0)
def PlacePost (s off : Int) (w : World) (e : Ending) (w' : World) : Prop := e = .returned (.tuple #[.int .i64 ((placeX s off).1 : Nat), .int .i64 ((placeX s off).2.1 : Nat), .int .i64 ((placeX s off).2.2 : Nat)]) ∧ Below w.heap.size w w'
set_option maxHeartbeats 1000000 in
theorem specPlaceOf (s off : Int) (w : World) : Calls Try.prog 28 #[.int .i64 s, .int .i64 off] w fun e w' => PlacePost s off w e w' := by
  have HS := Shut.mk (fun W => specSchema s W)
  unfold SchPost at HS
  have HG := Shut.mk (fun W => specGroupSize s W)
  unfold PlacePost
  cases h : schOk s with
  | false =>
    have e0 : placeX s off = (0, 0, 0) := by unfold placeX; rw [if_neg (by rw [h]; simp)]
    rw [e0]
    rw [h] at HS
    clear h e0
    generalize schK s = k at *
    generalize schM s = m at *
    go_enter Try.func28, Try.ntmps28
    go_wp2_with fail
    refine (HS.out _).mono ?_
    rintro e w1 ⟨rfl, rfl⟩
    go_wp2_with fail
    go_ret3
    exact ⟨rfl, Below.refl _ _⟩
  | true =>
    rw [h] at HS
    obtain ⟨b1, b2, _, _⟩ := sch_bounds h
    by_cases ho : 0 ≤ off ∧ off ≤ 100000
    · obtain ⟨o, rfl⟩ := Int.eq_ofNat_of_zero_le ho.1
      have ho5 : o ≤ 100000 := by omega
      have hin : (decide ((0 : Int) ≤ (o : Int)) && decide ((o : Int) ≤ 100000)) = true := by simp; omega
      have e0 : placeX s (o : Int) = (o / (schK s * 8), unitAt (schK s) o, placeIn (schK s) o) := by unfold placeX; rw [if_pos ⟨h, ho⟩]; rfl
      rw [e0]
      unfold groupN at HG
      clear h ho e0
      generalize schM s = m at *
      generalize schK s = k at *
      obtain ⟨S, hS⟩ : ∃ S, S = k * 8 := ⟨_, rfl⟩
      have hS0 : 0 < S := by omega
      have hS32 : S ≤ 32 := by omega
      have e1 : ((o : Int) % (S : Int)) = ((o % S : Nat) : Int) := by push_cast; rfl
      have e2 : ((o : Int) / (S : Int)) = ((o / S : Nat) : Int) := by push_cast; rfl
      have hb : o % S < S := Nat.mod_lt _ hS0
      have e3 : ((o % S : Nat) : Int) / 4 = ((o % S / 4 : Nat) : Int) := by push_cast; rfl
      have e4 : ((o % S : Nat) : Int) % 4 = ((o % S % 4 : Nat) : Int) := by push_cast; rfl
      have e5 : ((o % S / 4 : Nat) : Int) % (k : Int) = ((unitAt k o : Nat) : Int) := by unfold unitAt; rw [← hS]; push_cast; rfl
      have e6 : ((o % S / 4 : Nat) : Int) / (k : Int) = ((o % S / 4 / k : Nat) : Int) := by push_cast; rfl
      have e7 : ((placeIn k o : Nat) : Int) = ((o % S / 4 / k : Nat) : Int) * 4 + ((o % S % 4 : Nat) : Int) := by unfold placeIn; rw [← hS]; push_cast; rfl
      have hc8 : o % S / 4 ≤ 8 := by omega
      have hd : o % S / 4 / k ≤ 8 := Nat.le_trans (Nat.div_le_self _ _) hc8
      have hr : o % S % 4 < 4 := Nat.mod_lt _ (by omega)
      have hqq : o / S ≤ 100000 := Nat.le_trans (Nat.div_le_self _ _) ho5
      rw [← hS] at HG ⊢
      generalize unitAt k o = u at *
      generalize placeIn k o = pl at *
      generalize o % S % 4 = r at *
      generalize o % S / 4 / k = d at *
      generalize o % S / 4 = c at *
      generalize o % S = b at *
      generalize o / S = q at *
      have HE := Shut.mk e7
      have hSn : ((S : Int) == 0) = false := by rw [beq_eq_false_iff_ne]; omega
      have hkn : ((k : Int) == 0) = false := by rw [beq_eq_false_iff_ne]; omega
      have s0 : (0 : Int) < (S : Int) := by omega
      have k0 : (0 : Int) < (k : Int) := by omega
      have t1 : (o : Int).tmod (S : Int) = (b : Int) := by rw [Int.tmod_eq_emod_of_nonneg (by omega)]; exact e1
      have t2 : (o : Int).tdiv (S : Int) = (q : Int) := by rw [Int.tdiv_eq_ediv_of_nonneg (by omega)]; exact e2
      have t3 : (b : Int).tdiv 4 = (c : Int) := by rw [Int.tdiv_eq_ediv_of_nonneg (by omega)]; exact e3
      have t4 : (b : Int).tmod 4 = (r : Int) := by rw [Int.tmod_eq_emod_of_nonneg (by omega)]; exact e4
      have t5 : (c : Int).tmod (k : Int) = (u : Int) := by rw [Int.tmod_eq_emod_of_nonneg (by omega)]; exact e5
      have t6 : (c : Int).tdiv (k : Int) = (d : Int) := by rw [Int.tdiv_eq_ediv_of_nonneg (by omega)]; exact e6
      clear e7 hS
      go_enter Try.func28, Try.ntmps28
      go_wp2_with fail
      refine (HS.out _).mono ?_
      rintro e w1 ⟨rfl, rfl⟩
      go_wp2_with fail
      refine (isIn _ _ _ _ true hin).mono ?_
      rintro e w2 ⟨rfl, rfl⟩
      go_wp2_with fail
      refine (HG.out _).mono ?_
      rintro e w3 ⟨rfl, rfl⟩
      go_wp2_with fail
      go_quiet (fail)
      go_wp2_with fail
      go_ret3
      exact ⟨by rw [HE.out]; rfl, ⟨rfl, rfl, rfl, Nat.le_refl _, fun _ _ => rfl⟩⟩
    · have hin : (decide ((0 : Int) ≤ off) && decide (off ≤ 100000)) = false := by simp only [Bool.and_eq_false_iff, decide_eq_false_iff_not]; omega
      have e0 : placeX s off = (0, 0, 0) := by unfold placeX; rw [if_neg (fun q => ho q.2)]
      rw [e0]
      clear h e0 ho
      generalize schK s = k at *
      generalize schM s = m at *
      go_enter Try.func28, Try.ntmps28
      go_wp2_with fail
      refine (HS.out _).mono ?_
      rintro e w1 ⟨rfl, rfl⟩
      go_wp2_with fail
      refine (isIn _ _ _ _ false hin).mono ?_
      rintro e w2 ⟨rfl, rfl⟩
      go_wp2_with fail
      go_ret3
      exact ⟨rfl, Below.refl _ _⟩
/-- The byte that has this place. -/
def offX (s g u a : Int) : Int := if schOk s = true ∧ (0 ≤ g ∧ g ≤ 100000) ∧ (0 ≤ u ∧ u ≤ (schK s : Int) - 1) ∧ (0 ≤ a ∧ a ≤ 7) then (if 100000 < g * (schK s * 8 : Nat) + (a / 4 * (schK s : Int) + u) * 4 + a % 4 then -1 else g * (schK s * 8 : Nat) + (a / 4 * (schK s : Int) + u) * 4 + a % 4) else -1
theorem offX_no {s g u a : Int} (h : ¬ (schOk s = true ∧ (0 ≤ g ∧ g ≤ 100000) ∧ (0 ≤ u ∧ u ≤ (schK s : Int) - 1) ∧ (0 ≤ a ∧ a ≤ 7))) : offX s g u a = -1 := if_neg h
theorem in_bool {a x b : Int} {r : Bool} (h : (decide (a ≤ x) && decide (x ≤ b)) = r) : r = true ↔ a ≤ x ∧ x ≤ b := by rw [← h]; simp
end Go.Proofs.Ytfhcpehfmecpjaa
/- Rows of rows of numbers in memory: one that is read, one that may be written, and what is turned of the world in between. Nothing of the program is read here. -/
namespace Go.Proofs.Ytfhcpehfmecpjaa
open Go.RowKit

/-- What lies from lo up to hi may be turned, what lies beyond the end is new; all else is as it was. -/
structure Turned (w w' : World) (lo hi : Nat) : Prop where
  base : Below 0 w w'
  block : ∀ k, k < w.heap.size → (k < lo ∨ hi ≤ k) → w'.heap[k]? = w.heap[k]?
theorem Turned.refl (w : World) (lo hi : Nat) : Turned w w lo hi := ⟨Below.refl _ _, fun _ _ _ => rfl⟩
theorem Turned.trans {a b c : World} {lo hi : Nat} (h : Turned a b lo hi) (k : Turned b c lo hi) : Turned a c lo hi :=
  ⟨h.base.trans k.base, fun i hi' ho => (k.block i (Nat.lt_of_lt_of_le hi' h.base.size) ho).trans (h.block i hi' ho)⟩
theorem Turned.of_below {w w' : World} (h : Below w.heap.size w w') (lo hi : Nat) : Turned w w' lo hi := ⟨h.mono (Nat.zero_le _), fun k hk _ => h.block k hk⟩
theorem Turned.of_grown {w w' : World} {g lo hi : Nat} (h : w.grownBy w' (some g)) (h1 : lo ≤ g) (h2 : g < hi) : Turned w w' lo hi :=
  ⟨⟨h.os, h.tape, h.output, h.size, fun k hk => by omega⟩, fun k hk ho => h.block k hk (by intro e; cases e; omega)⟩
theorem Turned.wide {w w' : World} {lo hi lo' hi' : Nat} (h : Turned w w' lo hi) (h1 : lo' ≤ lo) (h2 : hi ≤ hi') : Turned w w' lo' hi' := ⟨h.base, fun k hk ho => h.block k hk (by omega)⟩
theorem Turned.below {w w' : World} {lo hi B : Nat} (h : Turned w w' lo hi) (h1 : B ≤ lo) (h2 : B ≤ w.heap.size) : Below B w w' :=
  ⟨h.base.os, h.base.tape, h.base.output, h.base.size, fun k hk => h.block k (by omega) (.inl (by omega))⟩
theorem Turned.size {w w' : World} {lo hi : Nat} (h : Turned w w' lo hi) : w.heap.size ≤ w'.heap.size := h.base.size

/-- A row of cells that is read, its block in a range. -/
def RRow (w : World) (a : Option Addr) (L : List Value) (lo hi : Nat) : Prop :=
  0 < L.length → ∃ b off, a = some ⟨b, off, none⟩ ∧ lo ≤ b ∧ b < hi ∧ b < w.heap.size ∧ ∀ i v, L[i]? = some v → w.cell? ⟨b, off + i, none⟩ = some v
theorem RRow.crow {w : World} {a : Option Addr} {L : List Value} {lo hi : Nat} (h : RRow w a L lo hi) : CRow w a L := fun hp => by
  obtain ⟨b, off, e, _, _, h3, h4⟩ := h hp
  exact ⟨b, off, e, h3, h4⟩
theorem RRow.of_crow {w : World} {a : Option Addr} {L : List Value} (h : CRow w a L) : RRow w a L 0 w.heap.size := fun hp => by
  obtain ⟨b, off, e, h3, h4⟩ := h hp
  exact ⟨b, off, e, Nat.zero_le _, h3, h3, h4⟩
theorem RRow.turned {w w' : World} {a : Option Addr} {L : List Value} {lo hi lo' hi' : Nat} (h : RRow w a L lo hi) (t : Turned w w' lo' hi') (hd : hi ≤ lo' ∨ hi' ≤ lo) : RRow w' a L lo hi := fun hp => by
  obtain ⟨b, off, e, h1, h2, h3, h4⟩ := h hp
  exact ⟨b, off, e, h1, h2, Nat.lt_of_lt_of_le h3 t.size, fun i v hv => (World.cell?_of_block (a := ⟨b, off + i, none⟩) (t.block b h3 (by omega))).trans (h4 i v hv)⟩
theorem RRow.below {w w' : World} {a : Option Addr} {L : List Value} {lo hi : Nat} (h : RRow w a L lo hi) (hb : Below w.heap.size w w') : RRow w' a L lo hi := fun hp => by
  obtain ⟨b, off, e, h1, h2, h3, h4⟩ := h hp
  exact ⟨b, off, e, h1, h2, Nat.lt_of_lt_of_le h3 hb.size, fun i v hv => (hb.cell (p := ⟨b, off + i, none⟩) h3).trans (h4 i v hv)⟩
theorem RRow.wide {w : World} {a : Option Addr} {L : List Value} {lo hi lo' hi' : Nat} (h : RRow w a L lo hi) (h1 : lo' ≤ lo) (h2 : hi ≤ hi') : RRow w a L lo' hi' := fun hp => by
  obtain ⟨b, off, e, q1, q2, q3, q4⟩ := h hp
  exact ⟨b, off, e, by omega, by omega, q3, q4⟩
theorem RRow.of_wcells {w : World} {g lo hi : Nat} {L : List Value} (h : WCells w g L) (h1 : lo ≤ g) (h2 : g < hi) : RRow w (some ⟨g, 0, none⟩) L lo hi := fun _ => ⟨g, 0, rfl, h1, h2, h.1, fun i v hv => by rw [Nat.zero_add]; exact (h.2 i v hv).1⟩
theorem WCells.turned {w w' : World} {g lo hi : Nat} {L : List Value} (h : WCells w g L) (t : Turned w w' lo hi) (hd : g < lo ∨ hi ≤ g) : WCells w' g L :=
  ⟨Nat.lt_of_lt_of_le h.1 t.size, fun i v hv => ⟨(World.cell?_of_block (a := ⟨g, i, none⟩) (t.block g h.1 hd)).trans (h.2 i v hv).1, (World.frozen?_of_block (a := ⟨g, i, none⟩) (t.block g h.1 hd)).trans (h.2 i v hv).2⟩⟩
theorem WCells.apart {w w' : World} {g q : Nat} {L : List Value} (h : WCells w g L) (t : w.grownBy w' (some q)) (hd : g ≠ q) : WCells w' g L :=
  h.turned (Turned.of_grown (lo := q) (hi := q + 1) t (Nat.le_refl _) (by omega)) (by omega)

/-- A row of numbers that stands in a row of rows. -/
structure SR where
  loc : Option Addr
  row : List Int
  cap : Nat
instance : Inhabited SR := ⟨⟨none, [], 0⟩⟩
def srv (s : SR) : Value := .slice s.loc s.row.length s.cap
def svs (ss : List SR) : List Value := ss.map srv
def rws (ss : List SR) : List (List Int) := ss.map (·.row)
theorem svs_len (ss : List SR) : (svs ss).length = ss.length := by simp [svs]
theorem rws_len (ss : List SR) : (rws ss).length = ss.length := by simp [rws]
theorem svs_get (ss : List SR) (i : Nat) (h : i < ss.length) : (svs ss)[i]? = some (srv ss[i]) := by simp [svs, h]
theorem rws_get (ss : List SR) (i : Nat) (h : i < ss.length) : (rws ss)[i]'(by rw [rws_len]; exact h) = ss[i].row := by simp [rws]
theorem rws_snoc (ss : List SR) (s : SR) : rws (ss ++ [s]) = rws ss ++ [s.row] := by simp [rws]
/-- A row of rows that is read, its blocks in a range. -/
def MR (w : World) (a : Option Addr) (ss : List SR) (lo hi : Nat) : Prop := RRow w a (svs ss) lo hi ∧ ∀ s ∈ ss, RRow w s.loc (ics s.row) lo hi
theorem MR.turned {w w' : World} {a : Option Addr} {ss : List SR} {lo hi lo' hi' : Nat} (h : MR w a ss lo hi) (t : Turned w w' lo' hi') (hd : hi ≤ lo' ∨ hi' ≤ lo) : MR w' a ss lo hi := ⟨h.1.turned t hd, fun s hs => (h.2 s hs).turned t hd⟩
theorem MR.below {w w' : World} {a : Option Addr} {ss : List SR} {lo hi : Nat} (h : MR w a ss lo hi) (hb : Below w.heap.size w w') : MR w' a ss lo hi := ⟨h.1.below hb, fun s hs => (h.2 s hs).below hb⟩
theorem MR.wide {w : World} {a : Option Addr} {ss : List SR} {lo hi lo' hi' : Nat} (h : MR w a ss lo hi) (h1 : lo' ≤ lo) (h2 : hi ≤ hi') : MR w a ss lo' hi' := ⟨h.1.wide h1 h2, fun s hs => (h.2 s hs).wide h1 h2⟩
theorem MR.nil (w : World) (a : Option Addr) (lo hi : Nat) : MR w a [] lo hi := ⟨fun h => by simp [svs] at h, by simp⟩
/-- What the walk wants of it: the outer row's place and cells. -/
theorem MR.at {w : World} {a : Option Addr} {ss : List SR} {lo hi : Nat} (h : MR w a ss lo hi) (hp : 0 < ss.length) : ∃ b off, a = some ⟨b, off, none⟩ ∧ b < w.heap.size ∧ ∀ i (hi : i < ss.length), w.cell? ⟨b, off + i, none⟩ = some (srv ss[i]) := by
  obtain ⟨b, off, e, _, _, h3, h4⟩ := h.1 (by rw [svs_len]; exact hp)
  exact ⟨b, off, e, h3, fun i hi => h4 i _ (svs_get ss i hi)⟩
/-- A row of rows that may be written: each row in a block of its own, all in a range. -/
structure MW (w : World) (g : Nat) (ss : List SR) (lo hi : Nat) : Prop where
  out : WCells w g (svs ss)
  glo : lo ≤ g
  ghi : g < hi
  rows : ∀ s ∈ ss, ∃ b, s.loc = some ⟨b, 0, none⟩ ∧ lo ≤ b ∧ b < hi ∧ b ≠ g ∧ WCells w b (ics s.row) ∧ s.row.length ≤ s.cap
  apart : (ss.map SR.loc).Nodup
theorem MW.mr {w : World} {g : Nat} {ss : List SR} {lo hi : Nat} (h : MW w g ss lo hi) : MR w (some ⟨g, 0, none⟩) ss lo hi :=
  ⟨RRow.of_wcells h.out h.glo h.ghi, fun s hs => by obtain ⟨b, e, h1, h2, _, h3, _⟩ := h.rows s hs; rw [e]; exact RRow.of_wcells h3 h1 h2⟩
theorem MW.turned {w w' : World} {g : Nat} {ss : List SR} {lo hi lo' hi' : Nat} (h : MW w g ss lo hi) (t : Turned w w' lo' hi') (hd : hi ≤ lo' ∨ hi' ≤ lo) : MW w' g ss lo hi :=
  ⟨h.out.turned t (by have := h.glo; have := h.ghi; omega), h.glo, h.ghi, fun s hs => by
    obtain ⟨b, e, h1, h2, h3, h4, h5⟩ := h.rows s hs
    exact ⟨b, e, h1, h2, h3, h4.turned t (by omega), h5⟩, h.apart⟩
theorem MW.below {w w' : World} {g : Nat} {ss : List SR} {lo hi : Nat} (h : MW w g ss lo hi) (hb : Below w.heap.size w w') : MW w' g ss lo hi :=
  ⟨h.out.below hb h.out.1, h.glo, h.ghi, fun s hs => by
    obtain ⟨b, e, h1, h2, h3, h4, h5⟩ := h.rows s hs
    exact ⟨b, e, h1, h2, h3, h4.below hb h4.1, h5⟩, h.apart⟩
theorem MW.wide {w : World} {g : Nat} {ss : List SR} {lo hi lo' hi' : Nat} (h : MW w g ss lo hi) (h1 : lo' ≤ lo) (h2 : hi ≤ hi') : MW w g ss lo' hi' :=
  ⟨h.out, Nat.le_trans h1 h.glo, Nat.lt_of_lt_of_le h.ghi h2, fun s hs => by
    obtain ⟨b, e, q1, q2, q3, q4, q5⟩ := h.rows s hs
    exact ⟨b, e, by omega, by omega, q3, q4, q5⟩, h.apart⟩
/-- An answer of rows of numbers: nothing, or a row of rows that may be written. -/
def MAns (w : World) (v : Value) (X : List (List Int)) (lo hi : Nat) : Prop :=
  ∃ (a : Option Addr) (cap : Nat) (ss : List SR), v = .slice a ss.length cap ∧ rws ss = X ∧ ss.length ≤ cap ∧ (ss = [] ∨ ∃ g, a = some ⟨g, 0, none⟩ ∧ MW w g ss lo hi)
theorem MAns.empty (w : World) (a : Option Addr) (cap lo hi : Nat) : MAns w (.slice a 0 cap) [] lo hi := ⟨a, cap, [], rfl, rfl, Nat.zero_le _, .inl rfl⟩
end Go.Proofs.Ytfhcpehfmecpjaa
/- Rows of numbers as values; the walk of the model's Spans. -/
namespace Go.Proofs.Ytfhcpehfmecpjaa
open Go.RowKit
attribute [local go_sem ↓] Go.wp_at_zero Go.wp_at_succ

/-- A value that is these numbers, in memory of its own. -/
def IAns (w : World) (v : Value) (xs : List Int) (lo hi : Nat) : Prop := ∃ (a : Option Addr) (cap : Nat), v = .slice a xs.length cap ∧ xs.length ≤ cap ∧ (xs = [] ∨ ∃ g, a = some ⟨g, 0, none⟩ ∧ lo ≤ g ∧ g < hi ∧ WCells w g (ics xs))
theorem IAns.empty (w : World) (a : Option Addr) (cap lo hi : Nat) : IAns w (.slice a 0 cap) [] lo hi := ⟨a, cap, rfl, Nat.zero_le _, .inl rfl⟩
theorem IAns.crow {w : World} {v : Value} {xs : List Int} {lo hi : Nat} (h : IAns w v xs lo hi) : ∃ a cap, v = .slice a xs.length cap ∧ CRow w a (ics xs) := by
  obtain ⟨a, cap, e, _, q⟩ := h
  refine ⟨a, cap, e, ?_⟩
  rcases q with rfl | ⟨g, rfl, _, _, q⟩
  · intro h; simp [ics] at h
  · exact q.crow
theorem IAns.turned {w w' : World} {v : Value} {xs : List Int} {lo hi lo' hi' : Nat} (h : IAns w v xs lo hi) (t : Turned w w' lo' hi') (hd : hi ≤ lo' ∨ hi' ≤ lo) : IAns w' v xs lo hi := by
  obtain ⟨a, cap, e, hc, q⟩ := h
  refine ⟨a, cap, e, hc, ?_⟩
  rcases q with rfl | ⟨g, rfl, h1, h2, h3⟩
  · exact .inl rfl
  · exact .inr ⟨g, rfl, h1, h2, h3.turned t (by omega)⟩
theorem IAns.below {w w' : World} {v : Value} {xs : List Int} {lo hi : Nat} (h : IAns w v xs lo hi) (hb : Below w.heap.size w w') : IAns w' v xs lo hi := by
  obtain ⟨a, cap, e, hc, q⟩ := h
  refine ⟨a, cap, e, hc, ?_⟩
  rcases q with rfl | ⟨g, rfl, h1, h2, h3⟩
  · exact .inl rfl
  · exact .inr ⟨g, rfl, h1, h2, h3.below hb h3.1⟩
def IPost (xs : List Int) (w : World) (e : Ending) (w' : World) : Prop := ∃ v, e = .returned v ∧ IAns w' v xs w.heap.size w'.heap.size ∧ Below w.heap.size w w'
theorem own_ians {w w' : World} {v : Value} {xs : List Int} {n : Nat} (hn : xs.length = n) (h : w'.ownsRow w.heap.size 3 1 v n (ics xs)) : IAns w' v xs w.heap.size w'.heap.size := by
  have hlt := h.lt
  have hown := h
  subst hn
  obtain ⟨_, ⟨rfl, h0⟩ | ⟨g, cap, cur, rfl, hB, hcur, hn, _⟩⟩ := h
  · have : xs = [] := List.eq_nil_of_length_eq_zero h0
    subst this
    exact IAns.empty _ _ _ _ _
  · exact ⟨_, cap, rfl, hn, .inr ⟨g, rfl, hB, (hlt g rfl).2, own_wcells hown⟩⟩
/-- The lengths of the groups of so many bytes. -/
def spanL (S n : Nat) : List Int := List.replicate ((n - 1) / S) (S : Int) ++ [((n - (n - 1) / S * S : Nat) : Int)]
def spansX (s n : Int) : List Int := if schOk s = true ∧ 1 ≤ n ∧ n ≤ 1000 then spanL (groupN s) n.toNat else []
theorem spansX_no {s n : Int} (h : ¬ (schOk s = true ∧ 1 ≤ n ∧ n ≤ 1000)) : spansX s n = [] := if_neg h
theorem group_pos {s : Int} (h : schOk s = true) : 16 ≤ groupN s := by have := (sch_bounds h).1; unfold groupN; omega
theorem group_zero {s : Int} (h : schOk s = false) : groupN s = 0 := by unfold groupN; rw [(sch_zero h).1]
theorem span_last {S n j : Nat} (hS : 0 < S) (h1 : j * S < n) (h2 : n ≤ j * S + S) : (n - 1) / S = j := by
  have e : n - 1 = (n - 1 - j * S) + j * S := by omega
  rw [e, Nat.add_mul_div_right _ _ hS, Nat.div_eq_of_lt (by omega), Nat.zero_add]
end Go.Proofs.Ytfhcpehfmecpjaa
/- The program's own SchemaOf, GroupSize, PlaceOf, OffsetOf and Spans. -/
namespace Go.Proofs.Ytfhcpehfmecpjaa
open Go.RowKit
attribute [local go_sem ↓] Go.wp_at_zero Go.wp_at_succ

theorem implSch (s : Int) (w : World) : Calls Try.prog 22 #[.int .i64 s] w fun e w' => SchPost s w e w' := by
  cases h : schOk s with
  | true =>
    obtain rfl | rfl | rfl := sch_cases h
    all_goals
      clear h
      go_enter Try.func22, Try.ntmps22
      go_wp2_with fail
      go_ret3
      exact ⟨rfl, rfl⟩
  | false =>
    obtain ⟨h1, h2, h3⟩ := sch_no h
    obtain ⟨e1, e2⟩ := sch_zero h
    unfold SchPost
    rw [e1, e2, h]
    clear h e1 e2
    go_enter Try.func22, Try.ntmps22
    go_wp2_with fail
    go_ret3
    exact ⟨rfl, rfl⟩
theorem implSize (s : Int) (w : World) : Calls Try.prog 23 #[.int .i64 s] w fun e w' => e = .returned (.int .i64 (groupN s : Nat)) ∧ w' = w := by
  have HS := Shut.mk (fun W => implSch s W)
  unfold SchPost at HS
  have hk : schK s ≤ 4 := by
    cases h : schOk s with
    | true => exact (sch_bounds h).2.1
    | false => rw [(sch_zero h).1]; omega
  have hg : ((groupN s : Nat) : Int) = (schK s : Int) * 4 * 2 := by unfold groupN; push_cast; omega
  generalize schOk s = ok at *
  generalize schM s = m at *
  generalize schK s = k at *
  have HG := Shut.mk hg
  clear hg
  go_enter Try.func23, Try.ntmps23
  go_wp2_with fail
  refine (HS.out _).mono ?_
  rintro e w1 ⟨rfl, rfl⟩
  go_wp2_with fail
  go_ret
  exact ⟨by rw [HG.out]; first | rfl | (simp; done) | (congr 2; omega), rfl⟩
theorem implGroupSize (s : Int) (w : World) : Calls Try.prog 23 #[.int .i64 s] w fun e w' => e = .returned (.int .i64 (groupN s : Nat)) ∧ Below w.heap.size w w' :=
  (implSize s w).mono (fun _ _ h => ⟨h.1, by rw [h.2]; exact Below.refl _ _⟩)
set_option maxHeartbeats 2000000 in
theorem implPlaceOf (s off : Int) (w : World) : Calls Try.prog 33 #[.int .i64 s, .int .i64 off] w fun e w' => PlacePost s off w e w' := by
  have HS := Shut.mk (fun W => implSch s W)
  unfold SchPost at HS
  have HG := Shut.mk (fun W => implSize s W)
  unfold PlacePost
  cases h : schOk s with
  | false =>
    have e0 : placeX s off = (0, 0, 0) := by unfold placeX; rw [if_neg (by rw [h]; simp)]
    rw [e0]
    rw [h] at HS
    clear h e0
    generalize schK s = k at *
    generalize schM s = m at *
    go_enter Try.func33, Try.ntmps33
    go_wp2_with fail
    refine (HS.out _).mono ?_
    rintro e w1 ⟨rfl, rfl⟩
    go_wp2_with fail
    go_ret3
    exact ⟨rfl, Below.refl _ _⟩
  | true =>
    rw [h] at HS
    obtain ⟨b1, b2, _, _⟩ := sch_bounds h
    by_cases ho : 0 ≤ off ∧ off ≤ 100000
    · obtain ⟨o, rfl⟩ := Int.eq_ofNat_of_zero_le ho.1
      have ho5 : o ≤ 100000 := by omega
      have hl0 : ¬ (o : Int) < 0 := by omega
      have hl1 : ¬ (100000 : Int) < (o : Int) := by omega
      have e0 : placeX s (o : Int) = (o / (schK s * 8), unitAt (schK s) o, placeIn (schK s) o) := by unfold placeX; rw [if_pos ⟨h, ho⟩]; rfl
      rw [e0]
      unfold groupN at HG
      clear h ho e0
      generalize schM s = m at *
      generalize schK s = k at *
      obtain ⟨S, hS⟩ : ∃ S, S = k * 8 := ⟨_, rfl⟩
      have hS0 : 0 < S := by omega
      have hS32 : S ≤ 32 := by omega
      have e1 : ((o : Int) % (S : Int)) = ((o % S : Nat) : Int) := by push_cast; rfl
      have e2 : ((o : Int) / (S : Int)) = ((o / S : Nat) : Int) := by push_cast; rfl
      have hb : o % S < S := Nat.mod_lt _ hS0
      have e3 : ((o % S : Nat) : Int) / 4 = ((o % S / 4 : Nat) : Int) := by push_cast; rfl
      have e4 : ((o % S : Nat) : Int) % 4 = ((o % S % 4 : Nat) : Int) := by push_cast; rfl
      have e5 : ((o % S / 4 : Nat) : Int) % (k : Int) = ((unitAt k o : Nat) : Int) := by unfold unitAt; rw [← hS]; push_cast; rfl
      have e6 : ((o % S / 4 : Nat) : Int) / (k : Int) = ((o % S / 4 / k : Nat) : Int) := by push_cast; rfl
      have e7 : ((placeIn k o : Nat) : Int) = ((o % S / 4 / k : Nat) : Int) * 4 + ((o % S % 4 : Nat) : Int) := by unfold placeIn; rw [← hS]; push_cast; rfl
      have hc8 : o % S / 4 ≤ 8 := by omega
      have hd : o % S / 4 / k ≤ 8 := Nat.le_trans (Nat.div_le_self _ _) hc8
      have hr : o % S % 4 < 4 := Nat.mod_lt _ (by omega)
      have hqq : o / S ≤ 100000 := Nat.le_trans (Nat.div_le_self _ _) ho5
      rw [← hS] at HG ⊢
      generalize unitAt k o = u at *
      generalize placeIn k o = pl at *
      generalize o % S % 4 = r at *
      generalize o % S / 4 / k = d at *
      generalize o % S / 4 = c at *
      generalize o % S = b at *
      generalize o / S = q at *
      have HE := Shut.mk e7
      have hSn : ((S : Int) == 0) = false := by rw [beq_eq_false_iff_ne]; omega
      have hkn : ((k : Int) == 0) = false := by rw [beq_eq_false_iff_ne]; omega
      have s0 : (0 : Int) < (S : Int) := by omega
      have k0 : (0 : Int) < (k : Int) := by omega
      have t1 : (o : Int).tmod (S : Int) = (b : Int) := by rw [Int.tmod_eq_emod_of_nonneg (by omega)]; exact e1
      have t2 : (o : Int).tdiv (S : Int) = (q : Int) := by rw [Int.tdiv_eq_ediv_of_nonneg (by omega)]; exact e2
      have t3 : (b : Int).tdiv 4 = (c : Int) := by rw [Int.tdiv_eq_ediv_of_nonneg (by omega)]; exact e3
      have t4 : (b : Int).tmod 4 = (r : Int) := by rw [Int.tmod_eq_emod_of_nonneg (by omega)]; exact e4
      have t5 : (c : Int).tmod (k : Int) = (u : Int) := by rw [Int.tmod_eq_emod_of_nonneg (by omega)]; exact e5
      have t6 : (c : Int).tdiv (k : Int) = (d : Int) := by rw [Int.tdiv_eq_ediv_of_nonneg (by omega)]; exact e6
      clear e7 hS
      go_enter Try.func33, Try.ntmps33
      go_wp2_with fail
      refine (HS.out _).mono ?_
      rintro e w1 ⟨rfl, rfl⟩
      go_wp2_with fail
      go_quiet ((go_at_call 23; exact Calls.quiet_of_same (HG.out _)))
      go_wp2_with fail
      go_quiet (fail)
      go_wp2_with fail
      go_ret3
      exact ⟨by rw [HE.out]; rfl, ⟨rfl, rfl, rfl, Nat.le_refl _, fun _ _ => rfl⟩⟩
    · have e0 : placeX s off = (0, 0, 0) := by unfold placeX; rw [if_neg (fun q => ho q.2)]
      rw [e0]
      clear h e0
      generalize schK s = k at *
      generalize schM s = m at *
      by_cases hl0 : off < 0
      · clear ho
        go_enter Try.func33, Try.ntmps33
        go_wp2_with fail
        refine (HS.out _).mono ?_
        rintro e w1 ⟨rfl, rfl⟩
        go_wp2_with fail
        go_ret3
        exact ⟨rfl, Below.refl _ _⟩
      · have hl1 : (100000 : Int) < off := by omega
        clear ho
        go_enter Try.func33, Try.ntmps33
        go_wp2_with fail
        refine (HS.out _).mono ?_
        rintro e w1 ⟨rfl, rfl⟩
        go_wp2_with fail
        go_ret3
        exact ⟨rfl, Below.refl _ _⟩
theorem span_one {S n j : Nat} (h1 : j * S < n) (h2 : n ≤ j * S + S) (hS : 0 < S) : spanL S n = List.replicate j (S : Int) ++ [((n - j * S : Nat) : Int)] := by
  unfold spanL
  rw [span_last hS h1 h2]
end Go.Proofs.Ytfhcpehfmecpjaa
/- The program's own sendCells: what it sends, on whatever schedule (written by gen/mksgf.py). -/
namespace Go.Proofs.Ytfhcpehfmecpjaa
open Go.Conc

/-- A cell, as it is sent. -/
def cellV (a b u t : Int) : Value := .agg #[.int .i64 a, .int .i64 b, .int .i64 u, .int .i64 t]
/-- The cells from a byte on. -/
def cellsF (s : Int) (n : Nat) : Nat → Nat → List Value
  | 0, _ => []
  | k + 1, i => if i < n then cellV i (min (i + 4) n : Nat) ((placeX s i).2.1 : Nat) ((placeX s i).2.2 : Nat) :: cellsF s n k (i + 4) else []
theorem getD_ne {tmps : Array Value} {d t : Nat} {v : Value} (h : t ≠ d) : (tmps.setIfInBounds d v).getD t undef = tmps.getD t undef := by
  simp [Array.getD_eq_getD_getElem?, Array.getElem?_setIfInBounds_ne (Ne.symm h)]
theorem getD_eq {tmps : Array Value} {d : Nat} {v : Value} (h : d < tmps.size) : (tmps.setIfInBounds d v).getD d undef = v := by
  simp [Array.getD_eq_getD_getElem?, h]
theorem free_ok (P : Program) (S : List FuncId) (o : Op) (h : freeOp P S o = true) : okOp P S o = true := by
  unfold freeOp at h
  split at h
  all_goals first
    | rfl
    | (cases h; done)
    | skip
  · simp only [Bool.and_eq_true] at h
    obtain ⟨_, h4⟩ := h
    unfold okOp
    split at h4
    · rename_i hu
      simp [hu, flat]
    · cases h4
  · simp only [Bool.and_eq_true] at h
    exact h.1
abbrev Spl : List FuncId := [22, 23, 33]
theorem known_try {x : FuncId} {fn : Func} (h : Try.prog.funcs[x]? = some fn) (h1 : fn.body.isNone = false) (h2 : (fn.name == "runtime.NumGoroutine") = false) : Known Try.prog.funcs Try.prog.funcs x := ⟨rfl, fn, h, h1, h2⟩
theorem fine_try {ok : Op → Bool} {x : FuncId} {fn : Func} (h : Try.prog.funcs[x]? = some fn) (h1 : fn.body.isNone = false) (h2 : (fn.name == "runtime.NumGoroutine") = false) (h3 : okCode ok (fn.body.getD .skip) = true) : Fine ok Try.prog.funcs Try.prog.funcs x := ⟨known_try h h1 h2, fun fn' e => by rw [h] at e; cases e; exact h3⟩
theorem steps_none {fs : Array Func} {T : Tables} (h : fs.all (fun f => ((f.body.map readies).getD []).isEmpty) = true) (b : Nat) : (⟨T, fs⟩ : Program).stepOf b = none := by
  show fs.findIdx? _ = none
  rw [Array.findIdx?_eq_none_iff]
  intro f hf
  have := Array.all_eq_true_iff_forall_mem.1 h f hf
  cases hb : f.body with
  | none => rfl
  | some c =>
    rw [hb] at this
    have e : readies c = [] := by simpa using this
    simp [e]
theorem step_try (b : Nat) : Try.prog.stepOf b = none := steps_none (T := Try.prog.toTables) (fs := Try.prog.funcs) (by kernel_rfl) b
theorem res_try {x : FuncId} {fn fn' : Func} (h : Try.prog.funcs[x]? = some fn) (h3 : fn.results.all (fun r => match r with | .tmp _ => true | _ => false) = true) (e : Try.prog.funcs[x]? = some fn') : fn'.results.all (fun r => match r with | .tmp _ => true | _ => false) = true := by
  rw [h] at e
  cases e
  exact h3
theorem plainly : Plainly3 Try.prog.toTables Try.prog.funcs Spl := by
  refine ⟨fun x hx => ?_, fun x hx fn e => ?_, step_try, free_ok _ _⟩
  · simp only [List.mem_cons, List.not_mem_nil, or_false] at hx
    rcases hx with rfl | rfl | rfl
    · exact fine_try Try.func22 (by kernel_rfl) (by kernel_rfl) (by kernel_rfl)
    · exact fine_try Try.func23 (by kernel_rfl) (by kernel_rfl) (by kernel_rfl)
    · exact fine_try Try.func33 (by kernel_rfl) (by kernel_rfl) (by kernel_rfl)
  · simp only [List.mem_cons, List.not_mem_nil, or_false] at hx
    rcases hx with rfl | rfl | rfl
    · exact res_try Try.func22 (by kernel_rfl) e
    · exact res_try Try.func23 (by kernel_rfl) e
    · exact res_try Try.func33 (by kernel_rfl) e
end Go.Proofs.Ytfhcpehfmecpjaa
