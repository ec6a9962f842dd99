/- Texts of ours, laid one behind the other: SgN, SgP. -/
import Derived.Test.YtfhcpehfmecpjaaPk7
import Derived.Conc.LeavingOf
set_option linter.unusedVariables false
set_option linter.unusedSimpArgs false
/- What the code says of the program and its twin: all by the kernel (written by gen/mksgn.py). -/
namespace Go.Proofs.Ytfhcpehfmecpjaa
open Go.Conc

abbrev Sn : List FuncId := [3, 4, 5, 6, 7, 8, 9, 10, 11, 12, 13, 14, 15, 16, 17, 18, 19, 20, 21, 22, 23, 25, 26, 27, 28, 29, 30, 32]
abbrev Sp : List FuncId := [6, 7, 10, 11, 12, 13, 14, 15, 16, 17, 18, 19, 20, 21, 22, 23, 25, 26, 27, 28, 29, 30, 32]
noncomputable def okc : Op → Bool := fun o => okOp tw Sn o || (match o with | .recv _ _ _ => true | .call { callee := .value (.func f), .. } => f == 24 | _ => false)
noncomputable def entryOf (b : Code) : Code := lftC (rgtC (rgtC (rgtC (rgtC b))))
noncomputable def lpOf (fn slot pair flag : Nat) (b : Code) : Lp := { ok := okOp tw Sp, fn := fn, slot := slot, pair := pair, flag := flag, rid := 6, id := 0, ops := opsC (lftC (inC (inC (rgtC (entryOf b))))), body := rgtC (rgtC (inC (inC (rgtC (entryOf b))))), r5 := 5, o5 := opsC (lftC (entryOf b)), rest := [] }
noncomputable def b8 : Code := (Try.f8.body).getD .skip
noncomputable def b9 : Code := (Try.f9.body).getD .skip
noncomputable def L8 : Lp := lpOf 8 31 32 33 b8
noncomputable def L9 : Lp := lpOf 9 42 43 44 b9
noncomputable def Fn : FuncId → List Lp := fun x => if x = 8 then [L8] else if x = 9 then [L9] else []
theorem fn_cases {x : FuncId} {L : Lp} (h : L ∈ Fn x) : (x = 8 ∧ L = L8) ∨ (x = 9 ∧ L = L9) := by
  unfold Fn at h
  split at h
  · rename_i e; exact .inl ⟨e, by simpa using h⟩
  · split at h
    · rename_i e; exact .inr ⟨e, by simpa using h⟩
    · simp at h
theorem entry8 : entryOf b8 = L8.entry := by kernel_rfl
theorem entry9 : entryOf b9 = L9.entry := by kernel_rfl
theorem b8_is : b8 = .seq (lftC b8) (.seq (lftC (rgtC b8)) (.seq (.seq (lftC (lftC (rgtC (rgtC b8)))) (rgtC (lftC (rgtC (rgtC b8))))) (.seq (lftC (rgtC (rgtC (rgtC b8)))) (.seq (entryOf b8) (rgtC (rgtC (rgtC (rgtC (rgtC b8))))))))) := by kernel_rfl
theorem b9_is : b9 = .seq (lftC b9) (.seq (lftC (rgtC b9)) (.seq (.seq (lftC (lftC (rgtC (rgtC b9)))) (rgtC (lftC (rgtC (rgtC b9))))) (.seq (lftC (rgtC (rgtC (rgtC b9)))) (.seq (entryOf b9) (rgtC (rgtC (rgtC (rgtC (rgtC b9))))))))) := by kernel_rfl
theorem wanted_any {o : Oper} (h : o.guard = none) : ∀ y, Region.wanted o y = true := fun y => by unfold Region.wanted; rw [h]
theorem run_under {P : Program} {t : TypeId} {d : TypeDesc} (h : P.underlying t = some d) (w : World) (es : Array Event) : (underlying t).runT P w es = (.ok d w, es) := by
  unfold underlying
  rw [run_prog, h]
  rfl
theorem run_zero {P : Program} {t : TypeId} {z : Value} (h : (P.info? t).bind (·.zero) = some z) (w : World) (es : Array Event) : (zeroValue t).runT P w es = (.ok z w, es) := by
  obtain ⟨i, hi, hz⟩ := Option.bind_eq_some_iff.1 h
  have e : zeroValue t = (program >>= fun p => (match p.info? t with | some i => pure i | none => stuck "no such type")) >>= fun i => (match i.zero with | some v => pure v | none => unsupported (.resourceLimit "a value of more than 2^22 cells")) := rfl
  rw [e]
  have e2 : ∀ {α β : Type} (x : Sem α) (F : α → Sem β), (x >>= F) = x.bind F := fun _ _ => rfl
  simp only [e2, Sem.runT_bind']
  rw [show Sem.runT P program w es = (.ok P w, es) from rfl]
  dsimp only
  rw [hi]
  dsimp only
  rw [show Sem.runT P (pure i : Sem TypeInfo) w es = (.ok i w, es) from rfl]
  dsimp only
  rw [hz]
  rfl
noncomputable def z48 : Value := ((Try.prog.info? 48).bind (·.zero)).getD undef
theorem info48z : (Try.prog.info? 48).bind (·.zero) = some z48 := by kernel_rfl
theorem lp8 : LpOk tw Sn Sp L8 := by
  obtain ⟨o, h1, h2, h3, h4⟩ := of_map (show (L8.ops[0]?).map _ = some (none, some 32, .recv 45 (.tmp 31) true) by kernel_rfl)
  obtain ⟨p, g1, g2, g3, g4⟩ := of_map (show (L8.ops[1]?).map _ = some (none, some 33, .extract (.tmp 32) 1) by kernel_rfl)
  exact ⟨rfl, by decide, by kernel_rfl, by kernel_rfl, ⟨o, h1, by rw [h4]; rfl, h3, wanted_any h2⟩, ⟨p, g1, g4, g3, wanted_any g2⟩, by decide, by decide⟩
theorem lp9 : LpOk tw Sn Sp L9 := by
  obtain ⟨o, h1, h2, h3, h4⟩ := of_map (show (L9.ops[0]?).map _ = some (none, some 43, .recv 45 (.tmp 42) true) by kernel_rfl)
  obtain ⟨p, g1, g2, g3, g4⟩ := of_map (show (L9.ops[1]?).map _ = some (none, some 44, .extract (.tmp 43) 1) by kernel_rfl)
  exact ⟨rfl, by decide, by kernel_rfl, by kernel_rfl, ⟨o, h1, by rw [h4]; rfl, h3, wanted_any h2⟩, ⟨p, g1, g4, g3, wanted_any g2⟩, by decide, by decide⟩
theorem call8 : ∃ o X Y ts, L8.o5[L8.o5.size - 1]? = some o ∧ o.guard = none ∧ o.dst = some L8.slot ∧ o.op = .call { callee := .value (.func 24), args := #[X, Y], argTypes := ts } := by
  have hs : L8.o5.size - 1 = 3 := by kernel_rfl
  obtain ⟨o, h1, h2, h3, h4⟩ := of_map (show (L8.o5[3]?).map _ = some (none, some L8.slot, .call { callee := .value (.func 24), args := #[.tmp 28, .tmp 30], argTypes := #[3, 3] }) by kernel_rfl)
  rw [hs]
  exact ⟨o, _, _, _, h1, h2, h3, h4⟩
theorem lq8 : LqOk tw Sn L8 := by
  obtain ⟨o, X, Y, ts, h1, h2, h3, h4⟩ := call8
  obtain ⟨p, g1, g2, g3, g4⟩ := of_map (show (L8.ops[1]?).map _ = some (none, some 33, .extract (.tmp 32) 1) by kernel_rfl)
  exact ⟨by have : L8.o5.size - 1 = 3 := by kernel_rfl
            omega, ⟨o, h1, by rw [h4]; rfl, wanted_any h2⟩, ⟨p, g1, g4, g3, wanted_any g2⟩⟩
theorem o5_8 : ∀ j o, j + 1 < L8.o5.size → L8.o5[j]? = some o → okOp tw Sn o.op = true := by
  have h : (L8.o5.extract 0 (L8.o5.size - 1)).all (fun o => okOp tw Sn o.op) = true := by kernel_rfl
  intro j o hj ho
  refine Array.all_eq_true_iff_forall_mem.1 h o ?_
  refine Array.mem_of_getElem? (i := j) ?_
  rw [Array.getElem?_extract, if_pos (by omega)]
  simpa using ho
theorem calm8 : Calm (okOp tw Sn) (Fn 8) b8 := by
  have hL : L8 ∈ Fn 8 := by unfold Fn; simp
  rw [b8_is, entry8]
  refine .inr ⟨calm_of (by kernel_rfl), .inr ⟨calm_of (by kernel_rfl), .inr ⟨calm_of (by kernel_rfl), .inr ⟨calm_of (by kernel_rfl), .inr ⟨?_, calm_of (by kernel_rfl)⟩⟩⟩⟩⟩
  exact .inl ⟨L8, hL, rfl⟩
theorem call9 : ∃ o X Y ts, L9.o5[L9.o5.size - 1]? = some o ∧ o.guard = none ∧ o.dst = some L9.slot ∧ o.op = .call { callee := .value (.func 24), args := #[X, Y], argTypes := ts } := by
  have hs : L9.o5.size - 1 = 2 := by kernel_rfl
  obtain ⟨o, h1, h2, h3, h4⟩ := of_map (show (L9.o5[2]?).map _ = some (none, some L9.slot, .call { callee := .value (.func 24), args := #[.tmp 40, .tmp 41], argTypes := #[3, 3] }) by kernel_rfl)
  rw [hs]
  exact ⟨o, _, _, _, h1, h2, h3, h4⟩
theorem lq9 : LqOk tw Sn L9 := by
  obtain ⟨o, X, Y, ts, h1, h2, h3, h4⟩ := call9
  obtain ⟨p, g1, g2, g3, g4⟩ := of_map (show (L9.ops[1]?).map _ = some (none, some 44, .extract (.tmp 43) 1) by kernel_rfl)
  exact ⟨by have : L9.o5.size - 1 = 2 := by kernel_rfl
            omega, ⟨o, h1, by rw [h4]; rfl, wanted_any h2⟩, ⟨p, g1, g4, g3, wanted_any g2⟩⟩
theorem o5_9 : ∀ j o, j + 1 < L9.o5.size → L9.o5[j]? = some o → okOp tw Sn o.op = true := by
  have h : (L9.o5.extract 0 (L9.o5.size - 1)).all (fun o => okOp tw Sn o.op) = true := by kernel_rfl
  intro j o hj ho
  refine Array.all_eq_true_iff_forall_mem.1 h o ?_
  refine Array.mem_of_getElem? (i := j) ?_
  rw [Array.getElem?_extract, if_pos (by omega)]
  simpa using ho
theorem calm9 : Calm (okOp tw Sn) (Fn 9) b9 := by
  have hL : L9 ∈ Fn 9 := by unfold Fn; simp
  rw [b9_is, entry9]
  refine .inr ⟨calm_of (by kernel_rfl), .inr ⟨calm_of (by kernel_rfl), .inr ⟨calm_of (by kernel_rfl), .inr ⟨calm_of (by kernel_rfl), .inr ⟨?_, calm_of (by kernel_rfl)⟩⟩⟩⟩⟩
  exact .inl ⟨L9, hL, rfl⟩
theorem tw_ne {x : FuncId} (h : x ≠ 24) : twF[x]? = Try.prog.funcs[x]? := Array.getElem?_setIfInBounds_ne (Ne.symm h)
theorem fine2 {x : FuncId} {fn : Func} {ok : Op → Bool} (hx : x ≠ 24) (h : Try.prog.funcs[x]? = some fn) (h1 : fn.body.isNone = false) (h2 : (fn.name == "runtime.NumGoroutine") = false) (h3 : okCode ok (fn.body.getD .skip) = true) : Fine ok twF Try.prog.funcs x :=
  ⟨⟨(tw_ne hx).symm, fn, (tw_ne hx).trans h, h1, h2⟩, fun fn' e => by rw [tw_ne hx, h] at e; cases e; exact h3⟩
theorem fine1 {x : FuncId} {fn : Func} {ok : Op → Bool} (hx : x ≠ 24) (h : Try.prog.funcs[x]? = some fn) (h1 : fn.body.isNone = false) (h2 : (fn.name == "runtime.NumGoroutine") = false) (h3 : okCode ok (fn.body.getD .skip) = true) : Fine ok twF twF x :=
  ⟨⟨rfl, fn, (tw_ne hx).trans h, h1, h2⟩, fun fn' e => by rw [tw_ne hx, h] at e; cases e; exact h3⟩
theorem fineS : ∀ x ∈ Sn, Fine okc twF Try.prog.funcs x := by
  intro x hx
  simp only [List.mem_cons, List.not_mem_nil, or_false] at hx
  rcases hx with rfl | rfl | rfl | rfl | rfl | rfl | rfl | rfl | rfl | rfl | rfl | rfl | rfl | rfl | rfl | rfl | rfl | rfl | rfl | rfl | rfl | rfl | rfl | rfl | rfl | rfl | rfl | rfl
  · exact fine2 (by decide) Try.func3 (by kernel_rfl) (by kernel_rfl) (by kernel_rfl)
  · exact fine2 (by decide) Try.func4 (by kernel_rfl) (by kernel_rfl) (by kernel_rfl)
  · exact fine2 (by decide) Try.func5 (by kernel_rfl) (by kernel_rfl) (by kernel_rfl)
  · exact fine2 (by decide) Try.func6 (by kernel_rfl) (by kernel_rfl) (by kernel_rfl)
  · exact fine2 (by decide) Try.func7 (by kernel_rfl) (by kernel_rfl) (by kernel_rfl)
  · exact fine2 (by decide) Try.func8 (by kernel_rfl) (by kernel_rfl) (by kernel_rfl)
  · exact fine2 (by decide) Try.func9 (by kernel_rfl) (by kernel_rfl) (by kernel_rfl)
  · exact fine2 (by decide) Try.func10 (by kernel_rfl) (by kernel_rfl) (by kernel_rfl)
  · exact fine2 (by decide) Try.func11 (by kernel_rfl) (by kernel_rfl) (by kernel_rfl)
  · exact fine2 (by decide) Try.func12 (by kernel_rfl) (by kernel_rfl) (by kernel_rfl)
  · exact fine2 (by decide) Try.func13 (by kernel_rfl) (by kernel_rfl) (by kernel_rfl)
  · exact fine2 (by decide) Try.func14 (by kernel_rfl) (by kernel_rfl) (by kernel_rfl)
  · exact fine2 (by decide) Try.func15 (by kernel_rfl) (by kernel_rfl) (by kernel_rfl)
  · exact fine2 (by decide) Try.func16 (by kernel_rfl) (by kernel_rfl) (by kernel_rfl)
  · exact fine2 (by decide) Try.func17 (by kernel_rfl) (by kernel_rfl) (by kernel_rfl)
  · exact fine2 (by decide) Try.func18 (by kernel_rfl) (by kernel_rfl) (by kernel_rfl)
  · exact fine2 (by decide) Try.func19 (by kernel_rfl) (by kernel_rfl) (by kernel_rfl)
  · exact fine2 (by decide) Try.func20 (by kernel_rfl) (by kernel_rfl) (by kernel_rfl)
  · exact fine2 (by decide) Try.func21 (by kernel_rfl) (by kernel_rfl) (by kernel_rfl)
  · exact fine2 (by decide) Try.func22 (by kernel_rfl) (by kernel_rfl) (by kernel_rfl)
  · exact fine2 (by decide) Try.func23 (by kernel_rfl) (by kernel_rfl) (by kernel_rfl)
  · exact fine2 (by decide) Try.func25 (by kernel_rfl) (by kernel_rfl) (by kernel_rfl)
  · exact fine2 (by decide) Try.func26 (by kernel_rfl) (by kernel_rfl) (by kernel_rfl)
  · exact fine2 (by decide) Try.func27 (by kernel_rfl) (by kernel_rfl) (by kernel_rfl)
  · exact fine2 (by decide) Try.func28 (by kernel_rfl) (by kernel_rfl) (by kernel_rfl)
  · exact fine2 (by decide) Try.func29 (by kernel_rfl) (by kernel_rfl) (by kernel_rfl)
  · exact fine2 (by decide) Try.func30 (by kernel_rfl) (by kernel_rfl) (by kernel_rfl)
  · exact fine2 (by decide) Try.func32 (by kernel_rfl) (by kernel_rfl) (by kernel_rfl)
theorem fineP : ∀ x ∈ Sp, Fine (okOp tw Sp) twF twF x := by
  intro x hx
  simp only [List.mem_cons, List.not_mem_nil, or_false] at hx
  rcases hx with rfl | rfl | rfl | rfl | rfl | rfl | rfl | rfl | rfl | rfl | rfl | rfl | rfl | rfl | rfl | rfl | rfl | rfl | rfl | rfl | rfl | rfl | rfl
  · exact fine1 (by decide) Try.func6 (by kernel_rfl) (by kernel_rfl) (by kernel_rfl)
  · exact fine1 (by decide) Try.func7 (by kernel_rfl) (by kernel_rfl) (by kernel_rfl)
  · exact fine1 (by decide) Try.func10 (by kernel_rfl) (by kernel_rfl) (by kernel_rfl)
  · exact fine1 (by decide) Try.func11 (by kernel_rfl) (by kernel_rfl) (by kernel_rfl)
  · exact fine1 (by decide) Try.func12 (by kernel_rfl) (by kernel_rfl) (by kernel_rfl)
  · exact fine1 (by decide) Try.func13 (by kernel_rfl) (by kernel_rfl) (by kernel_rfl)
  · exact fine1 (by decide) Try.func14 (by kernel_rfl) (by kernel_rfl) (by kernel_rfl)
  · exact fine1 (by decide) Try.func15 (by kernel_rfl) (by kernel_rfl) (by kernel_rfl)
  · exact fine1 (by decide) Try.func16 (by kernel_rfl) (by kernel_rfl) (by kernel_rfl)
  · exact fine1 (by decide) Try.func17 (by kernel_rfl) (by kernel_rfl) (by kernel_rfl)
  · exact fine1 (by decide) Try.func18 (by kernel_rfl) (by kernel_rfl) (by kernel_rfl)
  · exact fine1 (by decide) Try.func19 (by kernel_rfl) (by kernel_rfl) (by kernel_rfl)
  · exact fine1 (by decide) Try.func20 (by kernel_rfl) (by kernel_rfl) (by kernel_rfl)
  · exact fine1 (by decide) Try.func21 (by kernel_rfl) (by kernel_rfl) (by kernel_rfl)
  · exact fine1 (by decide) Try.func22 (by kernel_rfl) (by kernel_rfl) (by kernel_rfl)
  · exact fine1 (by decide) Try.func23 (by kernel_rfl) (by kernel_rfl) (by kernel_rfl)
  · exact fine1 (by decide) Try.func25 (by kernel_rfl) (by kernel_rfl) (by kernel_rfl)
  · exact fine1 (by decide) Try.func26 (by kernel_rfl) (by kernel_rfl) (by kernel_rfl)
  · exact fine1 (by decide) Try.func27 (by kernel_rfl) (by kernel_rfl) (by kernel_rfl)
  · exact fine1 (by decide) Try.func28 (by kernel_rfl) (by kernel_rfl) (by kernel_rfl)
  · exact fine1 (by decide) Try.func29 (by kernel_rfl) (by kernel_rfl) (by kernel_rfl)
  · exact fine1 (by decide) Try.func30 (by kernel_rfl) (by kernel_rfl) (by kernel_rfl)
  · exact fine1 (by decide) Try.func32 (by kernel_rfl) (by kernel_rfl) (by kernel_rfl)
theorem ent_plain {x : FuncId} {fn : Func} (hx : x ≠ 24) (h : Try.prog.funcs[x]? = some fn) {c : Code} (hb : fn.body = some c) (h3 : Calm (okOp tw Sn) (Fn x) c) (l : Array Value) : Idle (okOp tw Sn) (Fn x) (Frame.enter tw x l .normal) := by
  refine .plain (fun i hi => ?_)
  have e : tw.funcs[x]? = some fn := (tw_ne hx).trans h
  have ht : (Frame.enter tw x l .normal).todo = [.code c] := by simp [Frame.enter, e, hb]
  rw [ht] at hi
  simp only [List.mem_singleton] at hi
  subst hi
  exact h3
theorem entS : ∀ x ∈ Sn, ∀ l, Idle (okOp tw Sn) (Fn x) (Frame.enter tw x l .normal) := by
  intro x hx l
  simp only [List.mem_cons, List.not_mem_nil, or_false] at hx
  rcases hx with rfl | rfl | rfl | rfl | rfl | rfl | rfl | rfl | rfl | rfl | rfl | rfl | rfl | rfl | rfl | rfl | rfl | rfl | rfl | rfl | rfl | rfl | rfl | rfl | rfl | rfl | rfl | rfl
  · exact ent_plain (by decide) Try.func3 (c := (Try.f3.body).getD .skip) (by kernel_rfl) (calm_of (by kernel_rfl)) l
  · exact ent_plain (by decide) Try.func4 (c := (Try.f4.body).getD .skip) (by kernel_rfl) (calm_of (by kernel_rfl)) l
  · exact ent_plain (by decide) Try.func5 (c := (Try.f5.body).getD .skip) (by kernel_rfl) (calm_of (by kernel_rfl)) l
  · exact ent_plain (by decide) Try.func6 (c := (Try.f6.body).getD .skip) (by kernel_rfl) (calm_of (by kernel_rfl)) l
  · exact ent_plain (by decide) Try.func7 (c := (Try.f7.body).getD .skip) (by kernel_rfl) (calm_of (by kernel_rfl)) l
  · exact ent_plain (by decide) Try.func8 (c := b8) (by kernel_rfl) calm8 l
  · exact ent_plain (by decide) Try.func9 (c := b9) (by kernel_rfl) calm9 l
  · exact ent_plain (by decide) Try.func10 (c := (Try.f10.body).getD .skip) (by kernel_rfl) (calm_of (by kernel_rfl)) l
  · exact ent_plain (by decide) Try.func11 (c := (Try.f11.body).getD .skip) (by kernel_rfl) (calm_of (by kernel_rfl)) l
  · exact ent_plain (by decide) Try.func12 (c := (Try.f12.body).getD .skip) (by kernel_rfl) (calm_of (by kernel_rfl)) l
  · exact ent_plain (by decide) Try.func13 (c := (Try.f13.body).getD .skip) (by kernel_rfl) (calm_of (by kernel_rfl)) l
  · exact ent_plain (by decide) Try.func14 (c := (Try.f14.body).getD .skip) (by kernel_rfl) (calm_of (by kernel_rfl)) l
  · exact ent_plain (by decide) Try.func15 (c := (Try.f15.body).getD .skip) (by kernel_rfl) (calm_of (by kernel_rfl)) l
  · exact ent_plain (by decide) Try.func16 (c := (Try.f16.body).getD .skip) (by kernel_rfl) (calm_of (by kernel_rfl)) l
  · exact ent_plain (by decide) Try.func17 (c := (Try.f17.body).getD .skip) (by kernel_rfl) (calm_of (by kernel_rfl)) l
  · exact ent_plain (by decide) Try.func18 (c := (Try.f18.body).getD .skip) (by kernel_rfl) (calm_of (by kernel_rfl)) l
  · exact ent_plain (by decide) Try.func19 (c := (Try.f19.body).getD .skip) (by kernel_rfl) (calm_of (by kernel_rfl)) l
  · exact ent_plain (by decide) Try.func20 (c := (Try.f20.body).getD .skip) (by kernel_rfl) (calm_of (by kernel_rfl)) l
  · exact ent_plain (by decide) Try.func21 (c := (Try.f21.body).getD .skip) (by kernel_rfl) (calm_of (by kernel_rfl)) l
  · exact ent_plain (by decide) Try.func22 (c := (Try.f22.body).getD .skip) (by kernel_rfl) (calm_of (by kernel_rfl)) l
  · exact ent_plain (by decide) Try.func23 (c := (Try.f23.body).getD .skip) (by kernel_rfl) (calm_of (by kernel_rfl)) l
  · exact ent_plain (by decide) Try.func25 (c := (Try.f25.body).getD .skip) (by kernel_rfl) (calm_of (by kernel_rfl)) l
  · exact ent_plain (by decide) Try.func26 (c := (Try.f26.body).getD .skip) (by kernel_rfl) (calm_of (by kernel_rfl)) l
  · exact ent_plain (by decide) Try.func27 (c := (Try.f27.body).getD .skip) (by kernel_rfl) (calm_of (by kernel_rfl)) l
  · exact ent_plain (by decide) Try.func28 (c := (Try.f28.body).getD .skip) (by kernel_rfl) (calm_of (by kernel_rfl)) l
  · exact ent_plain (by decide) Try.func29 (c := (Try.f29.body).getD .skip) (by kernel_rfl) (calm_of (by kernel_rfl)) l
  · exact ent_plain (by decide) Try.func30 (c := (Try.f30.body).getD .skip) (by kernel_rfl) (calm_of (by kernel_rfl)) l
  · exact ent_plain (by decide) Try.func32 (c := (Try.f32.body).getD .skip) (by kernel_rfl) (calm_of (by kernel_rfl)) l
theorem steps_tw (b : Nat) : tw.stepOf b = none := steps_none (T := Try.prog.toTables) (fs := twF) (by kernel_rfl) b
/-- ████ THE PROGRAM AND ITS TWIN. ████ -/
theorem env : Env Try.prog.toTables twF Try.prog.funcs okc Sn Sp Fn := by
  refine ⟨fineS, fineP, steps_tw, step_try, fun x L h => ?_, fun x L h => ?_, fun x L h => ?_, fun x L h => ?_, fun x L h => ?_, fun x L h fn e => ?_, entS, fun x L h => ?_⟩
  · rcases fn_cases h with ⟨rfl, rfl⟩ | ⟨rfl, rfl⟩
    · exact lp8
    · exact lp9
  · rcases fn_cases h with ⟨rfl, rfl⟩ | ⟨rfl, rfl⟩
    · exact lq8
    · exact lq9
  · rcases fn_cases h with ⟨rfl, rfl⟩ | ⟨rfl, rfl⟩
    · exact o5_8
    · exact o5_9
  · rcases fn_cases h with ⟨rfl, rfl⟩ | ⟨rfl, rfl⟩ <;> rfl
  · rcases fn_cases h with ⟨rfl, rfl⟩ | ⟨rfl, rfl⟩
    · obtain ⟨o, X, Y, ts, h1, h2, h3, h4⟩ := call8
      rw [h1]; exact h3
    · obtain ⟨o, X, Y, ts, h1, h2, h3, h4⟩ := call9
      rw [h1]; exact h3
  · rcases fn_cases h with ⟨rfl, rfl⟩ | ⟨rfl, rfl⟩
    · rw [tw_ne (by decide), Try.func8] at e
      cases e
      rw [Try.ntmps8]
      decide
    · rw [tw_ne (by decide), Try.func9] at e
      cases e
      rw [Try.ntmps9]
      decide
  · have hP : ∀ P : Program, (P = ⟨Try.prog.toTables, twF⟩ ∨ P = ⟨Try.prog.toTables, Try.prog.funcs⟩) → (∀ w es, (underlying 45).runT P w es = (.ok (.chan .recv 48) w, es)) ∧ ∀ w es, (zeroValue 48).runT P w es = (.ok z48 w, es) := by
      rintro P (rfl | rfl)
      · exact ⟨run_under Try.underlying45, run_zero info48z⟩
      · exact ⟨run_under Try.underlying45, run_zero info48z⟩
    rcases fn_cases h with ⟨rfl, rfl⟩ | ⟨rfl, rfl⟩
    · obtain ⟨o, h1, h2, h3, h4⟩ := of_map (show (L8.ops[0]?).map _ = some (none, some 32, .recv 45 (.tmp 31) true) by kernel_rfl)
      exact ⟨o, _, _, _, _, h1, h4, wanted_any h2, hP⟩
    · obtain ⟨o, h1, h2, h3, h4⟩ := of_map (show (L9.ops[0]?).map _ = some (none, some 43, .recv 45 (.tmp 42) true) by kernel_rfl)
      exact ⟨o, _, _, _, _, h1, h4, wanted_any h2, hP⟩
theorem callsT : CallT Try.prog.toTables twF okc Sn Fn Vc := callT (fun x L h => by
  rcases fn_cases h with ⟨rfl, rfl⟩ | ⟨rfl, rfl⟩
  · obtain ⟨o, X, Y, ts, h1, h2, h3, h4⟩ := call8
    exact ⟨o, X, Y, ts, h1, h2, h4⟩
  · obtain ⟨o, X, Y, ts, h1, h2, h3, h4⟩ := call9
    exact ⟨o, X, Y, ts, h1, h2, h4⟩)
end Go.Proofs.Ytfhcpehfmecpjaa
/- From the twin's contract, on every tape, to the program's good run. -/
namespace Go.Proofs.Ytfhcpehfmecpjaa
open Go.Conc Go.RowKit

theorem pi_none : Pi 0 #[] := ⟨past_nil, fun i a h => by cases h⟩
section
variable {ok : Op → Bool} {F : FuncId → List Lp} {S S' : List FuncId} {T : Tables} {f g : Array Func} {w₀ : World} {V : Lp → Frame → List Value → Prop} {Post : Value → World → Prop}
theorem tm_start {L : FuncId} {args : Array Value} {Q : World → Value → World → Prop} (hC : ∀ τ, Calls ⟨T, f⟩ L args (Rt w₀ τ) fun e w' => ∃ v, e = .returned v ∧ Q (Rt w₀ τ) v w') :
    Tm2 ⟨T, f⟩ (fun fr w' => ∃ τ v fn, fr.fn = L ∧ f[L]? = some fn ∧ (results fn fr.tmps).run ⟨T, f⟩ w' = .ok v w' ∧ Q (Rt w₀ τ) v w') (Frame.enter ⟨T, f⟩ L args .normal) [] w₀ := by
  intro τ _
  obtain ⟨e, w', fr', ⟨v, rfl, hq⟩, hs, hf, hm, hdf, hkd, fn, k1, k2⟩ := hC τ [sent ⟨T, f⟩]
  obtain ⟨n, hn⟩ := hs
  exact ⟨n, fr', w', hn, ⟨hm, hdf, hkd, fn, k1⟩, τ, v, fn, hf, by rw [← hf]; exact k1, k2, hq⟩
/-- ████ WHERE THE TWIN COMES TO ITS END ON EVERY TAPE, THE PROGRAM'S RUN ENDS WELL. ████ -/
theorem wins2 (hE : Env T f g ok S S' F) (hC : CallT T f ok S F V) (hP : CallP T f g ok S F V Post) {L : FuncId} {args : Array Value} {Q : World → Value → World → Prop} (hL : L ∈ S) (hcalls : ∀ τ, Calls ⟨T, f⟩ L args (Rt w₀ τ) fun e w' => ∃ v, e = .returned v ∧ Q (Rt w₀ τ) v w')
    (hEnd : EndP T f g ok S (fun fr w' => ∃ τ v fn, fr.fn = L ∧ f[L]? = some fn ∧ (results fn fr.tmps).run ⟨T, f⟩ w' = .ok v w' ∧ Q (Rt w₀ τ) v w') Post w₀ w₀.tape) {sl : Option (Nat × Nat)} {t : Trace} {B : Nat} (hPi : Pi B t) (hdeaf : ∀ j, 0 < j → Deaf t j = 0) :
    Win ⟨T, g⟩ Post #[Gr (Frame.enter ⟨T, g⟩ L args .normal) []] w₀ sl t := by
  have hT := tm_start (T := T) (f := f) hcalls
  have ho : Ord ok S (Frame.enter ⟨T, f⟩ L args .normal) := enter_ord hL (hE.ff L hL)
  have hid : Id T f S F (Frame.enter ⟨T, f⟩ L args .normal) [] := by
    refine ⟨hE.ent L hL args, by simp, fun fn q => ?_, by simp⟩
    have q' : f[L]? = some fn := q
    simp only [Frame.enter, q', Option.map_some, Option.getD_some, Array.size_append, Array.size_replicate]
    omega
  have hn := nodes hE hP hEnd (tree hE hC ho (by simp) (.inl hid) hT) ho (by simp) hT
  rw [enter_two (T := T) (hE.fine L hL).1.1]
  refine hn.idle hid _ w₀ sl t (fun _ => 0) B rfl ⟨fun i x hi hx => ?_, fun j hj => hdeaf j (show 1 ≤ j from hj)⟩ hPi ⟨Sim.refl _, fun b c bf cl s r tm e => ⟨e, e⟩, rfl⟩
  rw [Array.getElem?_eq_none (by show 1 ≤ i; omega)] at hx
  cases hx
end
theorem deaf_none (j : Nat) : Deaf #[] j = 0 := rfl
/-- The end of both worlds, as the twin's contract tells it. -/
theorem below_end {w₀ w w₁ : World} {τ : Nat → Question → Nat} (hb : Below w₀.heap.size (Rt w₀ τ) (Rt w w.tape)) (hs : Sim (some 0) w w₁) (hj : Jw w₀ w w₁) (ht : w₁.tape = w₀.tape) (d : Nat) : Below w₀.heap.size w₀ (w₁.at d) := by
  refine ⟨hs.os.trans hb.os, ht, hs.output.trans hb.output, ?_, fun k hk => ?_⟩
  · show w₀.heap.size ≤ w₁.heap.size
    rw [hs.size]; exact hb.size
  · show w₁.heap[k]? = w₀.heap[k]?
    have e : w.heap[k]? = w₀.heap[k]? := hb.block k hk
    rcases hs.block k with q | ⟨_, ⟨c, bf, cl, s, r, t, q1⟩, _⟩
    · exact q.trans e
    · have q0 : w₀.heap[k]? = some (.chan c bf cl s r t) := e.symm.trans q1
      rw [(hj _ _ _ _ _ _ _ q0).2, q0]
/-- ████ A LAW'S RUN. ████ -/
theorem law_run {L : FuncId} {fn : Func} {args : Array Value} {W : World} {Post : Value → World → Prop} (hL : L ∈ Sn) (hne : L ≠ 24) (hf : Try.prog.funcs[L]? = some fn) {r : Nat} (hr : fn.results = #[.tmp r]) (hi : Try.prog.inits.idxOf? L = none)
    (hcalls : ∀ τ, Calls tw L args (Rt W τ) fun e w' => e = .returned (.bool true) ∧ Below W.heap.size (Rt W τ) w') (hpost : ∀ W', Below W.heap.size W W' → Post (.bool true) W') :
    ∃ M last o w' t', runNT Try.prog (M + 1) (solo (G (Frame.enter Try.prog L args .normal) []) W) #[] = (.ended o w', t') ∧ runN Try.prog M (solo (G (Frame.enter Try.prog L args .normal) []) W) = .next last ∧ step Try.prog last = .ended o w' ∧ Conc.Good Try.prog Post last o w' t' := by
  have h := wins2 (w₀ := W) (Q := fun a v w' => v = .bool true ∧ Below W.heap.size a w') env callsT (callP (Post := Post)) hL (fun τ => (hcalls τ).mono (fun e w' q => ⟨.bool true, q.1, rfl, q.2⟩)) (sl := none) (t := #[]) (B := 0) ?_ pi_none (fun j _ => deaf_none j)
  · exact h
  · intro fr w w₁ ho hm hfin hs hj ht
    obtain ⟨τ, v, fn', e1, e2, e3, rfl, hb⟩ := hfin w.tape (fun _ _ => rfl)
    have e4 : some fn = some fn' := by rw [← hf, ← e2]; exact (tw_ne hne).symm
    obtain rfl : fn = fn' := Option.some.inj e4
    have hres : results fn fr.tmps = pure (fr.tmps.getD r undef) := by
      simp [-Array.getD_eq_getD_getElem?, results, hr]
    refine ⟨fn, .bool true, by rw [e1]; exact hf, ?_, by rw [e1]; exact hi, fun d => hpost _ (below_end hb hs hj ht d)⟩
    rw [hres] at e3 ⊢
    have e5 : fr.tmps.getD r undef = .bool true := by
      simpa [-Array.getD_eq_getD_getElem?] using e3
    rw [e5]
end Go.Proofs.Ytfhcpehfmecpjaa
