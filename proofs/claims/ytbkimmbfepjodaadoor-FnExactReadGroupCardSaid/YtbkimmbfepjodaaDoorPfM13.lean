/- Texts of ours, laid one behind the other: XeN. -/
import Derived.Test.YtbkimmbfepjodaaDoorPfM12
set_option linter.unusedVariables false
set_option linter.unusedSimpArgs false
/- What the code says of the program and its twin: all by the kernel (written by gen/mkxen.py). -/
namespace Go.Proofs.YtbkimmbfepjodaaDoor
set_option maxRecDepth 100000
open Go.Conc

abbrev Sn : List FuncId := [3, 4, 5, 6, 7, 8, 9, 10, 11, 12, 13, 14, 15, 16, 17, 18, 19, 20, 21, 22, 23, 24, 25, 26, 27, 28, 29, 30, 31, 32, 33, 34, 35, 36, 38, 39, 40, 41, 42, 43, 44, 45, 46, 47, 48, 49, 50, 51, 52, 53, 54, 55, 56, 57, 58, 59, 61, 62, 63, 64, 65, 66, 67, 68, 69, 70, 71, 72, 73, 74, 75, 76, 77, 78, 79, 80, 81, 82, 83, 84, 85, 86, 87, 88, 89, 90, 91, 92, 93, 94, 95]
abbrev Sp : List FuncId := []
noncomputable def okc : Op → Bool := fun o => okOp tw Sn o || (match o with | .recv _ _ _ => true | .call { callee := .value (.func f), .. } => f == 37 | .call { callee := .value (.tmp _), .. } => true | .call { callee := .invoke _ _, .. } => true | _ => false)
noncomputable def entryOf (b : Code) : Code := lftC (rgtC (rgtC (rgtC (rgtC b))))
noncomputable def lpOf (fn slot pair flag : Nat) (b : Code) : Lp := { ok := okOp tw Sp, fn := fn, slot := slot, pair := pair, flag := flag, rid := 6, id := 0, ops := opsC (lftC (inC (inC (rgtC (entryOf b))))), body := rgtC (rgtC (inC (inC (rgtC (entryOf b))))), r5 := 5, o5 := opsC (lftC (entryOf b)), rest := [] }
noncomputable def b9 : Code := (Tryd.f16.body).getD .skip
noncomputable def L9 : Lp := lpOf 16 42 43 44 b9
noncomputable def Fn : FuncId → List Lp := fun x => if x = 16 then [L9] else []
theorem fn_cases {x : FuncId} {L : Lp} (h : L ∈ Fn x) : x = 16 ∧ L = L9 := by
  unfold Fn at h
  split at h
  · rename_i e; exact ⟨e, by simpa using h⟩
  · simp at h
theorem entry9 : entryOf b9 = L9.entry := by kernel_rfl
theorem b9_is : b9 = .seq (lftC b9) (.seq (lftC (rgtC b9)) (.seq (.seq (lftC (lftC (rgtC (rgtC b9)))) (rgtC (lftC (rgtC (rgtC b9))))) (.seq (lftC (rgtC (rgtC (rgtC b9)))) (.seq (entryOf b9) (rgtC (rgtC (rgtC (rgtC (rgtC b9))))))))) := by kernel_rfl
theorem wanted_any {o : Oper} (h : o.guard = none) : ∀ y, Region.wanted o y = true := fun y => by unfold Region.wanted; rw [h]
theorem run_under {P : Program} {t : TypeId} {d : TypeDesc} (h : P.underlying t = some d) (w : World) (es : Array Event) : (underlying t).runT P w es = (.ok d w, es) := by
  unfold underlying
  rw [run_prog, h]
  rfl
theorem run_zero {P : Program} {t : TypeId} {z : Value} (h : (P.info? t).bind (·.zero) = some z) (w : World) (es : Array Event) : (zeroValue t).runT P w es = (.ok z w, es) := by
  obtain ⟨i, hi, hz⟩ := Option.bind_eq_some_iff.1 h
  have e : zeroValue t = (program >>= fun p => (match p.info? t with | some i => pure i | none => stuck "no such type")) >>= fun i => (match i.zero with | some v => pure v | none => unsupported (.resourceLimit "a value of more than 2^22 cells")) := rfl
  rw [e]
  have e2 : ∀ {α β : Type} (x : Sem α) (F : α → Sem β), (x >>= F) = x.bind F := fun _ _ => rfl
  simp only [e2, Sem.runT_bind']
  rw [show Sem.runT P program w es = (.ok P w, es) from rfl]
  dsimp only
  rw [hi]
  dsimp only
  rw [show Sem.runT P (pure i : Sem TypeInfo) w es = (.ok i w, es) from rfl]
  dsimp only
  rw [hz]
  rfl
noncomputable def z48 : Value := ((Tryd.prog.info? 69).bind (·.zero)).getD undef
theorem info48z : (Tryd.prog.info? 69).bind (·.zero) = some z48 := by kernel_rfl
theorem lp9 : LpOk tw Sn Sp L9 := by
  obtain ⟨o, h1, h2, h3, h4⟩ := of_map (show (L9.ops[0]?).map _ = some (none, some 43, .recv 66 (.tmp 42) true) by kernel_rfl)
  obtain ⟨p, g1, g2, g3, g4⟩ := of_map (show (L9.ops[1]?).map _ = some (none, some 44, .extract (.tmp 43) 1) by kernel_rfl)
  exact ⟨rfl, by decide, by kernel_rfl, by kernel_rfl, ⟨o, h1, fun x => by rw [h4]; rfl, h3, wanted_any h2⟩, ⟨p, g1, g4, g3, wanted_any g2⟩, by decide, by decide⟩
theorem call9 : ∃ o X Y ts, L9.o5[L9.o5.size - 1]? = some o ∧ o.guard = none ∧ o.dst = some L9.slot ∧ o.op = .call { callee := .value (.func 37), args := #[X, Y], argTypes := ts } := by
  have hs : L9.o5.size - 1 = 2 := by kernel_rfl
  obtain ⟨o, h1, h2, h3, h4⟩ := of_map (show (L9.o5[2]?).map _ = some (none, some L9.slot, .call { callee := .value (.func 37), args := #[.tmp 40, .tmp 41], argTypes := #[3, 3] }) by kernel_rfl)
  rw [hs]
  exact ⟨o, _, _, _, h1, h2, h3, h4⟩
theorem lq9 : LqOk tw Sn L9 := by
  obtain ⟨o, X, Y, ts, h1, h2, h3, h4⟩ := call9
  obtain ⟨p, g1, g2, g3, g4⟩ := of_map (show (L9.ops[1]?).map _ = some (none, some 44, .extract (.tmp 43) 1) by kernel_rfl)
  exact ⟨by have : L9.o5.size - 1 = 2 := by kernel_rfl
            omega, ⟨o, h1, fun x => by rw [h4]; rfl, wanted_any h2⟩, ⟨p, g1, g4, g3, wanted_any g2⟩⟩
theorem o5_9 : ∀ j o, j + 1 < L9.o5.size → L9.o5[j]? = some o → okOp tw Sn o.op = true := by
  have h : (L9.o5.extract 0 (L9.o5.size - 1)).all (fun o => okOp tw Sn o.op) = true := by kernel_rfl
  intro j o hj ho
  refine Array.all_eq_true_iff_forall_mem.1 h o ?_
  refine Array.mem_of_getElem? (i := j) ?_
  rw [Array.getElem?_extract, if_pos (by omega)]
  simpa using ho
theorem calm9 : Calm (okDy tw Sn 16) (Fn 16) b9 := by
  have hL : L9 ∈ Fn 16 := by unfold Fn; simp
  rw [b9_is, entry9]
  refine .inr ⟨calm_of (by kernel_rfl), .inr ⟨calm_of (by kernel_rfl), .inr ⟨calm_of (by kernel_rfl), .inr ⟨calm_of (by kernel_rfl), .inr ⟨?_, calm_of (by kernel_rfl)⟩⟩⟩⟩⟩
  exact .inl ⟨L9, hL, rfl⟩
theorem tw_ne {x : FuncId} (h : x ≠ 37) : twF[x]? = Tryd.prog.funcs[x]? := Array.getElem?_setIfInBounds_ne (Ne.symm h)
theorem fine2 {x : FuncId} {fn : Func} {ok : Op → Bool} (hx : x ≠ 37) (h : Tryd.prog.funcs[x]? = some fn) (h1 : fn.body.isNone = false) (h2 : (fn.name == "runtime.NumGoroutine") = false) (h3 : okCode ok (fn.body.getD .skip) = true) : Fine ok twF Tryd.prog.funcs x :=
  ⟨⟨(tw_ne hx).symm, fn, (tw_ne hx).trans h, h1, h2⟩, fun fn' e => by rw [tw_ne hx, h] at e; cases e; exact h3⟩
theorem fineS : ∀ x ∈ Sn, Fine okc twF Tryd.prog.funcs x := by
  intro x hx
  simp only [List.mem_cons, List.not_mem_nil, or_false] at hx
  rcases hx with rfl | rfl | rfl | rfl | rfl | rfl | rfl | rfl | rfl | rfl | rfl | rfl | rfl | rfl | rfl | rfl | rfl | rfl | rfl | rfl | rfl | rfl | rfl | rfl | rfl | rfl | rfl | rfl | rfl | rfl | rfl | rfl | rfl | rfl | rfl | rfl | rfl | rfl | rfl | rfl | rfl | rfl | rfl | rfl | rfl | rfl | rfl | rfl | rfl | rfl | rfl | rfl | rfl | rfl | rfl | rfl | rfl | rfl | rfl | rfl | rfl | rfl | rfl | rfl | rfl | rfl | rfl | rfl | rfl | rfl | rfl | rfl | rfl | rfl | rfl | rfl | rfl | rfl | rfl | rfl | rfl | rfl | rfl | rfl | rfl | rfl | rfl | rfl | rfl | rfl | rfl
  · exact fine2 (by decide) Tryd.func3 (by kernel_rfl) (by kernel_rfl) (by kernel_rfl)
  · exact fine2 (by decide) Tryd.func4 (by kernel_rfl) (by kernel_rfl) (by kernel_rfl)
  · exact fine2 (by decide) Tryd.func5 (by kernel_rfl) (by kernel_rfl) (by kernel_rfl)
  · exact fine2 (by decide) Tryd.func6 (by kernel_rfl) (by kernel_rfl) (by kernel_rfl)
  · exact fine2 (by decide) Tryd.func7 (by kernel_rfl) (by kernel_rfl) (by kernel_rfl)
  · exact fine2 (by decide) Tryd.func8 (by kernel_rfl) (by kernel_rfl) (by kernel_rfl)
  · exact fine2 (by decide) Tryd.func9 (by kernel_rfl) (by kernel_rfl) (by kernel_rfl)
  · exact fine2 (by decide) Tryd.func10 (by kernel_rfl) (by kernel_rfl) (by kernel_rfl)
  · exact fine2 (by decide) Tryd.func11 (by kernel_rfl) (by kernel_rfl) (by kernel_rfl)
  · exact fine2 (by decide) Tryd.func12 (by kernel_rfl) (by kernel_rfl) (by kernel_rfl)
  · exact fine2 (by decide) Tryd.func13 (by kernel_rfl) (by kernel_rfl) (by kernel_rfl)
  · exact fine2 (by decide) Tryd.func14 (by kernel_rfl) (by kernel_rfl) (by kernel_rfl)
  · exact fine2 (by decide) Tryd.func15 (by kernel_rfl) (by kernel_rfl) (by kernel_rfl)
  · exact fine2 (by decide) Tryd.func16 (by kernel_rfl) (by kernel_rfl) (by kernel_rfl)
  · exact fine2 (by decide) Tryd.func17 (by kernel_rfl) (by kernel_rfl) (by kernel_rfl)
  · exact fine2 (by decide) Tryd.func18 (by kernel_rfl) (by kernel_rfl) (by kernel_rfl)
  · exact fine2 (by decide) Tryd.func19 (by kernel_rfl) (by kernel_rfl) (by kernel_rfl)
  · exact fine2 (by decide) Tryd.func20 (by kernel_rfl) (by kernel_rfl) (by kernel_rfl)
  · exact fine2 (by decide) Tryd.func21 (by kernel_rfl) (by kernel_rfl) (by kernel_rfl)
  · exact fine2 (by decide) Tryd.func22 (by kernel_rfl) (by kernel_rfl) (by kernel_rfl)
  · exact fine2 (by decide) Tryd.func23 (by kernel_rfl) (by kernel_rfl) (by kernel_rfl)
  · exact fine2 (by decide) Tryd.func24 (by kernel_rfl) (by kernel_rfl) (by kernel_rfl)
  · exact fine2 (by decide) Tryd.func25 (by kernel_rfl) (by kernel_rfl) (by kernel_rfl)
  · exact fine2 (by decide) Tryd.func26 (by kernel_rfl) (by kernel_rfl) (by kernel_rfl)
  · exact fine2 (by decide) Tryd.func27 (by kernel_rfl) (by kernel_rfl) (by kernel_rfl)
  · exact fine2 (by decide) Tryd.func28 (by kernel_rfl) (by kernel_rfl) (by kernel_rfl)
  · exact fine2 (by decide) Tryd.func29 (by kernel_rfl) (by kernel_rfl) (by kernel_rfl)
  · exact fine2 (by decide) Tryd.func30 (by kernel_rfl) (by kernel_rfl) (by kernel_rfl)
  · exact fine2 (by decide) Tryd.func31 (by kernel_rfl) (by kernel_rfl) (by kernel_rfl)
  · exact fine2 (by decide) Tryd.func32 (by kernel_rfl) (by kernel_rfl) (by kernel_rfl)
  · exact fine2 (by decide) Tryd.func33 (by kernel_rfl) (by kernel_rfl) (by kernel_rfl)
  · exact fine2 (by decide) Tryd.func34 (by kernel_rfl) (by kernel_rfl) (by kernel_rfl)
  · exact fine2 (by decide) Tryd.func35 (by kernel_rfl) (by kernel_rfl) (by kernel_rfl)
  · exact fine2 (by decide) Tryd.func36 (by kernel_rfl) (by kernel_rfl) (by kernel_rfl)
  · exact fine2 (by decide) Tryd.func38 (by kernel_rfl) (by kernel_rfl) (by kernel_rfl)
  · exact fine2 (by decide) Tryd.func39 (by kernel_rfl) (by kernel_rfl) (by kernel_rfl)
  · exact fine2 (by decide) Tryd.func40 (by kernel_rfl) (by kernel_rfl) (by kernel_rfl)
  · exact fine2 (by decide) Tryd.func41 (by kernel_rfl) (by kernel_rfl) (by kernel_rfl)
  · exact fine2 (by decide) Tryd.func42 (by kernel_rfl) (by kernel_rfl) (by kernel_rfl)
  · exact fine2 (by decide) Tryd.func43 (by kernel_rfl) (by kernel_rfl) (by kernel_rfl)
  · exact fine2 (by decide) Tryd.func44 (by kernel_rfl) (by kernel_rfl) (by kernel_rfl)
  · exact fine2 (by decide) Tryd.func45 (by kernel_rfl) (by kernel_rfl) (by kernel_rfl)
  · exact fine2 (by decide) Tryd.func46 (by kernel_rfl) (by kernel_rfl) (by kernel_rfl)
  · exact fine2 (by decide) Tryd.func47 (by kernel_rfl) (by kernel_rfl) (by kernel_rfl)
  · exact fine2 (by decide) Tryd.func48 (by kernel_rfl) (by kernel_rfl) (by kernel_rfl)
  · exact fine2 (by decide) Tryd.func49 (by kernel_rfl) (by kernel_rfl) (by kernel_rfl)
  · exact fine2 (by decide) Tryd.func50 (by kernel_rfl) (by kernel_rfl) (by kernel_rfl)
  · exact fine2 (by decide) Tryd.func51 (by kernel_rfl) (by kernel_rfl) (by kernel_rfl)
  · exact fine2 (by decide) Tryd.func52 (by kernel_rfl) (by kernel_rfl) (by kernel_rfl)
  · exact fine2 (by decide) Tryd.func53 (by kernel_rfl) (by kernel_rfl) (by kernel_rfl)
  · exact fine2 (by decide) Tryd.func54 (by kernel_rfl) (by kernel_rfl) (by kernel_rfl)
  · exact fine2 (by decide) Tryd.func55 (by kernel_rfl) (by kernel_rfl) (by kernel_rfl)
  · exact fine2 (by decide) Tryd.func56 (by kernel_rfl) (by kernel_rfl) (by kernel_rfl)
  · exact fine2 (by decide) Tryd.func57 (by kernel_rfl) (by kernel_rfl) (by kernel_rfl)
  · exact fine2 (by decide) Tryd.func58 (by kernel_rfl) (by kernel_rfl) (by kernel_rfl)
  · exact fine2 (by decide) Tryd.func59 (by kernel_rfl) (by kernel_rfl) (by kernel_rfl)
  · exact fine2 (by decide) Tryd.func61 (by kernel_rfl) (by kernel_rfl) (by kernel_rfl)
  · exact fine2 (by decide) Tryd.func62 (by kernel_rfl) (by kernel_rfl) (by kernel_rfl)
  · exact fine2 (by decide) Tryd.func63 (by kernel_rfl) (by kernel_rfl) (by kernel_rfl)
  · exact fine2 (by decide) Tryd.func64 (by kernel_rfl) (by kernel_rfl) (by kernel_rfl)
  · exact fine2 (by decide) Tryd.func65 (by kernel_rfl) (by kernel_rfl) (by kernel_rfl)
  · exact fine2 (by decide) Tryd.func66 (by kernel_rfl) (by kernel_rfl) (by kernel_rfl)
  · exact fine2 (by decide) Tryd.func67 (by kernel_rfl) (by kernel_rfl) (by kernel_rfl)
  · exact fine2 (by decide) Tryd.func68 (by kernel_rfl) (by kernel_rfl) (by kernel_rfl)
  · exact fine2 (by decide) Tryd.func69 (by kernel_rfl) (by kernel_rfl) (by kernel_rfl)
  · exact fine2 (by decide) Tryd.func70 (by kernel_rfl) (by kernel_rfl) (by kernel_rfl)
  · exact fine2 (by decide) Tryd.func71 (by kernel_rfl) (by kernel_rfl) (by kernel_rfl)
  · exact fine2 (by decide) Tryd.func72 (by kernel_rfl) (by kernel_rfl) (by kernel_rfl)
  · exact fine2 (by decide) Tryd.func73 (by kernel_rfl) (by kernel_rfl) (by kernel_rfl)
  · exact fine2 (by decide) Tryd.func74 (by kernel_rfl) (by kernel_rfl) (by kernel_rfl)
  · exact fine2 (by decide) Tryd.func75 (by kernel_rfl) (by kernel_rfl) (by kernel_rfl)
  · exact fine2 (by decide) Tryd.func76 (by kernel_rfl) (by kernel_rfl) (by kernel_rfl)
  · exact fine2 (by decide) Tryd.func77 (by kernel_rfl) (by kernel_rfl) (by kernel_rfl)
  · exact fine2 (by decide) Tryd.func78 (by kernel_rfl) (by kernel_rfl) (by kernel_rfl)
  · exact fine2 (by decide) Tryd.func79 (by kernel_rfl) (by kernel_rfl) (by kernel_rfl)
  · exact fine2 (by decide) Tryd.func80 (by kernel_rfl) (by kernel_rfl) (by kernel_rfl)
  · exact fine2 (by decide) Tryd.func81 (by kernel_rfl) (by kernel_rfl) (by kernel_rfl)
  · exact fine2 (by decide) Tryd.func82 (by kernel_rfl) (by kernel_rfl) (by kernel_rfl)
  · exact fine2 (by decide) Tryd.func83 (by kernel_rfl) (by kernel_rfl) (by kernel_rfl)
  · exact fine2 (by decide) Tryd.func84 (by kernel_rfl) (by kernel_rfl) (by kernel_rfl)
  · exact fine2 (by decide) Tryd.func85 (by kernel_rfl) (by kernel_rfl) (by kernel_rfl)
  · exact fine2 (by decide) Tryd.func86 (by kernel_rfl) (by kernel_rfl) (by kernel_rfl)
  · exact fine2 (by decide) Tryd.func87 (by kernel_rfl) (by kernel_rfl) (by kernel_rfl)
  · exact fine2 (by decide) Tryd.func88 (by kernel_rfl) (by kernel_rfl) (by kernel_rfl)
  · exact fine2 (by decide) Tryd.func89 (by kernel_rfl) (by kernel_rfl) (by kernel_rfl)
  · exact fine2 (by decide) Tryd.func90 (by kernel_rfl) (by kernel_rfl) (by kernel_rfl)
  · exact fine2 (by decide) Tryd.func91 (by kernel_rfl) (by kernel_rfl) (by kernel_rfl)
  · exact fine2 (by decide) Tryd.func92 (by kernel_rfl) (by kernel_rfl) (by kernel_rfl)
  · exact fine2 (by decide) Tryd.func93 (by kernel_rfl) (by kernel_rfl) (by kernel_rfl)
  · exact fine2 (by decide) Tryd.func94 (by kernel_rfl) (by kernel_rfl) (by kernel_rfl)
  · exact fine2 (by decide) Tryd.func95 (by kernel_rfl) (by kernel_rfl) (by kernel_rfl)
theorem fineP : ∀ x ∈ Sp, Fine (okOp tw Sp) twF twF x := fun x hx => (by cases hx)
theorem slots : Sl tw Sn := by
  intro x hx
  simp only [List.mem_cons, List.not_mem_nil, or_false] at hx
  rcases hx with rfl | rfl | rfl | rfl | rfl | rfl | rfl | rfl | rfl | rfl | rfl | rfl | rfl | rfl | rfl | rfl | rfl | rfl | rfl | rfl | rfl | rfl | rfl | rfl | rfl | rfl | rfl | rfl | rfl | rfl | rfl | rfl | rfl | rfl | rfl | rfl | rfl | rfl | rfl | rfl | rfl | rfl | rfl | rfl | rfl | rfl | rfl | rfl | rfl | rfl | rfl | rfl | rfl | rfl | rfl | rfl | rfl | rfl | rfl | rfl | rfl | rfl | rfl | rfl | rfl | rfl | rfl | rfl | rfl | rfl | rfl | rfl | rfl | rfl | rfl | rfl | rfl | rfl | rfl | rfl | rfl | rfl | rfl | rfl | rfl | rfl | rfl | rfl | rfl | rfl | rfl
  · exact ⟨_, (tw_ne (by decide)).trans Tryd.func3, by kernel_rfl, by kernel_rfl, by kernel_rfl⟩
  · exact ⟨_, (tw_ne (by decide)).trans Tryd.func4, by kernel_rfl, by kernel_rfl, by kernel_rfl⟩
  · exact ⟨_, (tw_ne (by decide)).trans Tryd.func5, by kernel_rfl, by kernel_rfl, by kernel_rfl⟩
  · exact ⟨_, (tw_ne (by decide)).trans Tryd.func6, by kernel_rfl, by kernel_rfl, by kernel_rfl⟩
  · exact ⟨_, (tw_ne (by decide)).trans Tryd.func7, by kernel_rfl, by kernel_rfl, by kernel_rfl⟩
  · exact ⟨_, (tw_ne (by decide)).trans Tryd.func8, by kernel_rfl, by kernel_rfl, by kernel_rfl⟩
  · exact ⟨_, (tw_ne (by decide)).trans Tryd.func9, by kernel_rfl, by kernel_rfl, by kernel_rfl⟩
  · exact ⟨_, (tw_ne (by decide)).trans Tryd.func10, by kernel_rfl, by kernel_rfl, by kernel_rfl⟩
  · exact ⟨_, (tw_ne (by decide)).trans Tryd.func11, by kernel_rfl, by kernel_rfl, by kernel_rfl⟩
  · exact ⟨_, (tw_ne (by decide)).trans Tryd.func12, by kernel_rfl, by kernel_rfl, by kernel_rfl⟩
  · exact ⟨_, (tw_ne (by decide)).trans Tryd.func13, by kernel_rfl, by kernel_rfl, by kernel_rfl⟩
  · exact ⟨_, (tw_ne (by decide)).trans Tryd.func14, by kernel_rfl, by kernel_rfl, by kernel_rfl⟩
  · exact ⟨_, (tw_ne (by decide)).trans Tryd.func15, by kernel_rfl, by kernel_rfl, by kernel_rfl⟩
  · exact ⟨_, (tw_ne (by decide)).trans Tryd.func16, by kernel_rfl, by kernel_rfl, by kernel_rfl⟩
  · exact ⟨_, (tw_ne (by decide)).trans Tryd.func17, by kernel_rfl, by kernel_rfl, by kernel_rfl⟩
  · exact ⟨_, (tw_ne (by decide)).trans Tryd.func18, by kernel_rfl, by kernel_rfl, by kernel_rfl⟩
  · exact ⟨_, (tw_ne (by decide)).trans Tryd.func19, by kernel_rfl, by kernel_rfl, by kernel_rfl⟩
  · exact ⟨_, (tw_ne (by decide)).trans Tryd.func20, by kernel_rfl, by kernel_rfl, by kernel_rfl⟩
  · exact ⟨_, (tw_ne (by decide)).trans Tryd.func21, by kernel_rfl, by kernel_rfl, by kernel_rfl⟩
  · exact ⟨_, (tw_ne (by decide)).trans Tryd.func22, by kernel_rfl, by kernel_rfl, by kernel_rfl⟩
  · exact ⟨_, (tw_ne (by decide)).trans Tryd.func23, by kernel_rfl, by kernel_rfl, by kernel_rfl⟩
  · exact ⟨_, (tw_ne (by decide)).trans Tryd.func24, by kernel_rfl, by kernel_rfl, by kernel_rfl⟩
  · exact ⟨_, (tw_ne (by decide)).trans Tryd.func25, by kernel_rfl, by kernel_rfl, by kernel_rfl⟩
  · exact ⟨_, (tw_ne (by decide)).trans Tryd.func26, by kernel_rfl, by kernel_rfl, by kernel_rfl⟩
  · exact ⟨_, (tw_ne (by decide)).trans Tryd.func27, by kernel_rfl, by kernel_rfl, by kernel_rfl⟩
  · exact ⟨_, (tw_ne (by decide)).trans Tryd.func28, by kernel_rfl, by kernel_rfl, by kernel_rfl⟩
  · exact ⟨_, (tw_ne (by decide)).trans Tryd.func29, by kernel_rfl, by kernel_rfl, by kernel_rfl⟩
  · exact ⟨_, (tw_ne (by decide)).trans Tryd.func30, by kernel_rfl, by kernel_rfl, by kernel_rfl⟩
  · exact ⟨_, (tw_ne (by decide)).trans Tryd.func31, by kernel_rfl, by kernel_rfl, by kernel_rfl⟩
  · exact ⟨_, (tw_ne (by decide)).trans Tryd.func32, by kernel_rfl, by kernel_rfl, by kernel_rfl⟩
  · exact ⟨_, (tw_ne (by decide)).trans Tryd.func33, by kernel_rfl, by kernel_rfl, by kernel_rfl⟩
  · exact ⟨_, (tw_ne (by decide)).trans Tryd.func34, by kernel_rfl, by kernel_rfl, by kernel_rfl⟩
  · exact ⟨_, (tw_ne (by decide)).trans Tryd.func35, by kernel_rfl, by kernel_rfl, by kernel_rfl⟩
  · exact ⟨_, (tw_ne (by decide)).trans Tryd.func36, by kernel_rfl, by kernel_rfl, by kernel_rfl⟩
  · exact ⟨_, (tw_ne (by decide)).trans Tryd.func38, by kernel_rfl, by kernel_rfl, by kernel_rfl⟩
  · exact ⟨_, (tw_ne (by decide)).trans Tryd.func39, by kernel_rfl, by kernel_rfl, by kernel_rfl⟩
  · exact ⟨_, (tw_ne (by decide)).trans Tryd.func40, by kernel_rfl, by kernel_rfl, by kernel_rfl⟩
  · exact ⟨_, (tw_ne (by decide)).trans Tryd.func41, by kernel_rfl, by kernel_rfl, by kernel_rfl⟩
  · exact ⟨_, (tw_ne (by decide)).trans Tryd.func42, by kernel_rfl, by kernel_rfl, by kernel_rfl⟩
  · exact ⟨_, (tw_ne (by decide)).trans Tryd.func43, by kernel_rfl, by kernel_rfl, by kernel_rfl⟩
  · exact ⟨_, (tw_ne (by decide)).trans Tryd.func44, by kernel_rfl, by kernel_rfl, by kernel_rfl⟩
  · exact ⟨_, (tw_ne (by decide)).trans Tryd.func45, by kernel_rfl, by kernel_rfl, by kernel_rfl⟩
  · exact ⟨_, (tw_ne (by decide)).trans Tryd.func46, by kernel_rfl, by kernel_rfl, by kernel_rfl⟩
  · exact ⟨_, (tw_ne (by decide)).trans Tryd.func47, by kernel_rfl, by kernel_rfl, by kernel_rfl⟩
  · exact ⟨_, (tw_ne (by decide)).trans Tryd.func48, by kernel_rfl, by kernel_rfl, by kernel_rfl⟩
  · exact ⟨_, (tw_ne (by decide)).trans Tryd.func49, by kernel_rfl, by kernel_rfl, by kernel_rfl⟩
  · exact ⟨_, (tw_ne (by decide)).trans Tryd.func50, by kernel_rfl, by kernel_rfl, by kernel_rfl⟩
  · exact ⟨_, (tw_ne (by decide)).trans Tryd.func51, by kernel_rfl, by kernel_rfl, by kernel_rfl⟩
  · exact ⟨_, (tw_ne (by decide)).trans Tryd.func52, by kernel_rfl, by kernel_rfl, by kernel_rfl⟩
  · exact ⟨_, (tw_ne (by decide)).trans Tryd.func53, by kernel_rfl, by kernel_rfl, by kernel_rfl⟩
  · exact ⟨_, (tw_ne (by decide)).trans Tryd.func54, by kernel_rfl, by kernel_rfl, by kernel_rfl⟩
  · exact ⟨_, (tw_ne (by decide)).trans Tryd.func55, by kernel_rfl, by kernel_rfl, by kernel_rfl⟩
  · exact ⟨_, (tw_ne (by decide)).trans Tryd.func56, by kernel_rfl, by kernel_rfl, by kernel_rfl⟩
  · exact ⟨_, (tw_ne (by decide)).trans Tryd.func57, by kernel_rfl, by kernel_rfl, by kernel_rfl⟩
  · exact ⟨_, (tw_ne (by decide)).trans Tryd.func58, by kernel_rfl, by kernel_rfl, by kernel_rfl⟩
  · exact ⟨_, (tw_ne (by decide)).trans Tryd.func59, by kernel_rfl, by kernel_rfl, by kernel_rfl⟩
  · exact ⟨_, (tw_ne (by decide)).trans Tryd.func61, by kernel_rfl, by kernel_rfl, by kernel_rfl⟩
  · exact ⟨_, (tw_ne (by decide)).trans Tryd.func62, by kernel_rfl, by kernel_rfl, by kernel_rfl⟩
  · exact ⟨_, (tw_ne (by decide)).trans Tryd.func63, by kernel_rfl, by kernel_rfl, by kernel_rfl⟩
  · exact ⟨_, (tw_ne (by decide)).trans Tryd.func64, by kernel_rfl, by kernel_rfl, by kernel_rfl⟩
  · exact ⟨_, (tw_ne (by decide)).trans Tryd.func65, by kernel_rfl, by kernel_rfl, by kernel_rfl⟩
  · exact ⟨_, (tw_ne (by decide)).trans Tryd.func66, by kernel_rfl, by kernel_rfl, by kernel_rfl⟩
  · exact ⟨_, (tw_ne (by decide)).trans Tryd.func67, by kernel_rfl, by kernel_rfl, by kernel_rfl⟩
  · exact ⟨_, (tw_ne (by decide)).trans Tryd.func68, by kernel_rfl, by kernel_rfl, by kernel_rfl⟩
  · exact ⟨_, (tw_ne (by decide)).trans Tryd.func69, by kernel_rfl, by kernel_rfl, by kernel_rfl⟩
  · exact ⟨_, (tw_ne (by decide)).trans Tryd.func70, by kernel_rfl, by kernel_rfl, by kernel_rfl⟩
  · exact ⟨_, (tw_ne (by decide)).trans Tryd.func71, by kernel_rfl, by kernel_rfl, by kernel_rfl⟩
  · exact ⟨_, (tw_ne (by decide)).trans Tryd.func72, by kernel_rfl, by kernel_rfl, by kernel_rfl⟩
  · exact ⟨_, (tw_ne (by decide)).trans Tryd.func73, by kernel_rfl, by kernel_rfl, by kernel_rfl⟩
  · exact ⟨_, (tw_ne (by decide)).trans Tryd.func74, by kernel_rfl, by kernel_rfl, by kernel_rfl⟩
  · exact ⟨_, (tw_ne (by decide)).trans Tryd.func75, by kernel_rfl, by kernel_rfl, by kernel_rfl⟩
  · exact ⟨_, (tw_ne (by decide)).trans Tryd.func76, by kernel_rfl, by kernel_rfl, by kernel_rfl⟩
  · exact ⟨_, (tw_ne (by decide)).trans Tryd.func77, by kernel_rfl, by kernel_rfl, by kernel_rfl⟩
  · exact ⟨_, (tw_ne (by decide)).trans Tryd.func78, by kernel_rfl, by kernel_rfl, by kernel_rfl⟩
  · exact ⟨_, (tw_ne (by decide)).trans Tryd.func79, by kernel_rfl, by kernel_rfl, by kernel_rfl⟩
  · exact ⟨_, (tw_ne (by decide)).trans Tryd.func80, by kernel_rfl, by kernel_rfl, by kernel_rfl⟩
  · exact ⟨_, (tw_ne (by decide)).trans Tryd.func81, by kernel_rfl, by kernel_rfl, by kernel_rfl⟩
  · exact ⟨_, (tw_ne (by decide)).trans Tryd.func82, by kernel_rfl, by kernel_rfl, by kernel_rfl⟩
  · exact ⟨_, (tw_ne (by decide)).trans Tryd.func83, by kernel_rfl, by kernel_rfl, by kernel_rfl⟩
  · exact ⟨_, (tw_ne (by decide)).trans Tryd.func84, by kernel_rfl, by kernel_rfl, by kernel_rfl⟩
  · exact ⟨_, (tw_ne (by decide)).trans Tryd.func85, by kernel_rfl, by kernel_rfl, by kernel_rfl⟩
  · exact ⟨_, (tw_ne (by decide)).trans Tryd.func86, by kernel_rfl, by kernel_rfl, by kernel_rfl⟩
  · exact ⟨_, (tw_ne (by decide)).trans Tryd.func87, by kernel_rfl, by kernel_rfl, by kernel_rfl⟩
  · exact ⟨_, (tw_ne (by decide)).trans Tryd.func88, by kernel_rfl, by kernel_rfl, by kernel_rfl⟩
  · exact ⟨_, (tw_ne (by decide)).trans Tryd.func89, by kernel_rfl, by kernel_rfl, by kernel_rfl⟩
  · exact ⟨_, (tw_ne (by decide)).trans Tryd.func90, by kernel_rfl, by kernel_rfl, by kernel_rfl⟩
  · exact ⟨_, (tw_ne (by decide)).trans Tryd.func91, by kernel_rfl, by kernel_rfl, by kernel_rfl⟩
  · exact ⟨_, (tw_ne (by decide)).trans Tryd.func92, by kernel_rfl, by kernel_rfl, by kernel_rfl⟩
  · exact ⟨_, (tw_ne (by decide)).trans Tryd.func93, by kernel_rfl, by kernel_rfl, by kernel_rfl⟩
  · exact ⟨_, (tw_ne (by decide)).trans Tryd.func94, by kernel_rfl, by kernel_rfl, by kernel_rfl⟩
  · exact ⟨_, (tw_ne (by decide)).trans Tryd.func95, by kernel_rfl, by kernel_rfl, by kernel_rfl⟩
theorem ent_plain {x : FuncId} {fn : Func} (hx : x ≠ 37) (h : Tryd.prog.funcs[x]? = some fn) {c : Code} (hb : fn.body = some c) (h3 : Calm (okDy tw Sn x) (Fn x) c) (l : Array Value) : Idle (okDy tw Sn x) (Fn x) (Frame.enter tw x l .normal) := by
  refine .plain (fun i hi => ?_)
  have e : tw.funcs[x]? = some fn := (tw_ne hx).trans h
  have ht : (Frame.enter tw x l .normal).todo = [.code c] := by simp [Frame.enter, e, hb]
  rw [ht] at hi
  simp only [List.mem_singleton] at hi
  subst hi
  exact h3
theorem entS : ∀ x ∈ Sn, ∀ l, Idle (okDy tw Sn x) (Fn x) (Frame.enter tw x l .normal) := by
  intro x hx l
  simp only [List.mem_cons, List.not_mem_nil, or_false] at hx
  rcases hx with rfl | rfl | rfl | rfl | rfl | rfl | rfl | rfl | rfl | rfl | rfl | rfl | rfl | rfl | rfl | rfl | rfl | rfl | rfl | rfl | rfl | rfl | rfl | rfl | rfl | rfl | rfl | rfl | rfl | rfl | rfl | rfl | rfl | rfl | rfl | rfl | rfl | rfl | rfl | rfl | rfl | rfl | rfl | rfl | rfl | rfl | rfl | rfl | rfl | rfl | rfl | rfl | rfl | rfl | rfl | rfl | rfl | rfl | rfl | rfl | rfl | rfl | rfl | rfl | rfl | rfl | rfl | rfl | rfl | rfl | rfl | rfl | rfl | rfl | rfl | rfl | rfl | rfl | rfl | rfl | rfl | rfl | rfl | rfl | rfl | rfl | rfl | rfl | rfl | rfl | rfl
  · exact ent_plain (by decide) Tryd.func3 (c := (Tryd.f3.body).getD .skip) (by kernel_rfl) (calm_of (by kernel_rfl)) l
  · exact ent_plain (by decide) Tryd.func4 (c := (Tryd.f4.body).getD .skip) (by kernel_rfl) (calm_of (by kernel_rfl)) l
  · exact ent_plain (by decide) Tryd.func5 (c := (Tryd.f5.body).getD .skip) (by kernel_rfl) (calm_of (by kernel_rfl)) l
  · exact ent_plain (by decide) Tryd.func6 (c := (Tryd.f6.body).getD .skip) (by kernel_rfl) (calm_of (by kernel_rfl)) l
  · exact ent_plain (by decide) Tryd.func7 (c := (Tryd.f7.body).getD .skip) (by kernel_rfl) (calm_of (by kernel_rfl)) l
  · exact ent_plain (by decide) Tryd.func8 (c := (Tryd.f8.body).getD .skip) (by kernel_rfl) (calm_of (by kernel_rfl)) l
  · exact ent_plain (by decide) Tryd.func9 (c := (Tryd.f9.body).getD .skip) (by kernel_rfl) (calm_of (by kernel_rfl)) l
  · exact ent_plain (by decide) Tryd.func10 (c := (Tryd.f10.body).getD .skip) (by kernel_rfl) (calm_of (by kernel_rfl)) l
  · exact ent_plain (by decide) Tryd.func11 (c := (Tryd.f11.body).getD .skip) (by kernel_rfl) (calm_of (by kernel_rfl)) l
  · exact ent_plain (by decide) Tryd.func12 (c := (Tryd.f12.body).getD .skip) (by kernel_rfl) (calm_of (by kernel_rfl)) l
  · exact ent_plain (by decide) Tryd.func13 (c := (Tryd.f13.body).getD .skip) (by kernel_rfl) (calm_of (by kernel_rfl)) l
  · exact ent_plain (by decide) Tryd.func14 (c := (Tryd.f14.body).getD .skip) (by kernel_rfl) (calm_of (by kernel_rfl)) l
  · exact ent_plain (by decide) Tryd.func15 (c := (Tryd.f15.body).getD .skip) (by kernel_rfl) (calm_of (by kernel_rfl)) l
  · exact ent_plain (by decide) Tryd.func16 (c := b9) (by kernel_rfl) calm9 l
  · exact ent_plain (by decide) Tryd.func17 (c := (Tryd.f17.body).getD .skip) (by kernel_rfl) (calm_of (by kernel_rfl)) l
  · exact ent_plain (by decide) Tryd.func18 (c := (Tryd.f18.body).getD .skip) (by kernel_rfl) (calm_of (by kernel_rfl)) l
  · exact ent_plain (by decide) Tryd.func19 (c := (Tryd.f19.body).getD .skip) (by kernel_rfl) (calm_of (by kernel_rfl)) l
  · exact ent_plain (by decide) Tryd.func20 (c := (Tryd.f20.body).getD .skip) (by kernel_rfl) (calm_of (by kernel_rfl)) l
  · exact ent_plain (by decide) Tryd.func21 (c := (Tryd.f21.body).getD .skip) (by kernel_rfl) (calm_of (by kernel_rfl)) l
  · exact ent_plain (by decide) Tryd.func22 (c := (Tryd.f22.body).getD .skip) (by kernel_rfl) (calm_of (by kernel_rfl)) l
  · exact ent_plain (by decide) Tryd.func23 (c := (Tryd.f23.body).getD .skip) (by kernel_rfl) (calm_of (by kernel_rfl)) l
  · exact ent_plain (by decide) Tryd.func24 (c := (Tryd.f24.body).getD .skip) (by kernel_rfl) (calm_of (by kernel_rfl)) l
  · exact ent_plain (by decide) Tryd.func25 (c := (Tryd.f25.body).getD .skip) (by kernel_rfl) (calm_of (by kernel_rfl)) l
  · exact ent_plain (by decide) Tryd.func26 (c := (Tryd.f26.body).getD .skip) (by kernel_rfl) (calm_of (by kernel_rfl)) l
  · exact ent_plain (by decide) Tryd.func27 (c := (Tryd.f27.body).getD .skip) (by kernel_rfl) (calm_of (by kernel_rfl)) l
  · exact ent_plain (by decide) Tryd.func28 (c := (Tryd.f28.body).getD .skip) (by kernel_rfl) (calm_of (by kernel_rfl)) l
  · exact ent_plain (by decide) Tryd.func29 (c := (Tryd.f29.body).getD .skip) (by kernel_rfl) (calm_of (by kernel_rfl)) l
  · exact ent_plain (by decide) Tryd.func30 (c := (Tryd.f30.body).getD .skip) (by kernel_rfl) (calm_of (by kernel_rfl)) l
  · exact ent_plain (by decide) Tryd.func31 (c := (Tryd.f31.body).getD .skip) (by kernel_rfl) (calm_of (by kernel_rfl)) l
  · exact ent_plain (by decide) Tryd.func32 (c := (Tryd.f32.body).getD .skip) (by kernel_rfl) (calm_of (by kernel_rfl)) l
  · exact ent_plain (by decide) Tryd.func33 (c := (Tryd.f33.body).getD .skip) (by kernel_rfl) (calm_of (by kernel_rfl)) l
  · exact ent_plain (by decide) Tryd.func34 (c := (Tryd.f34.body).getD .skip) (by kernel_rfl) (calm_of (by kernel_rfl)) l
  · exact ent_plain (by decide) Tryd.func35 (c := (Tryd.f35.body).getD .skip) (by kernel_rfl) (calm_of (by kernel_rfl)) l
  · exact ent_plain (by decide) Tryd.func36 (c := (Tryd.f36.body).getD .skip) (by kernel_rfl) (calm_of (by kernel_rfl)) l
  · exact ent_plain (by decide) Tryd.func38 (c := (Tryd.f38.body).getD .skip) (by kernel_rfl) (calm_of (by kernel_rfl)) l
  · exact ent_plain (by decide) Tryd.func39 (c := (Tryd.f39.body).getD .skip) (by kernel_rfl) (calm_of (by kernel_rfl)) l
  · exact ent_plain (by decide) Tryd.func40 (c := (Tryd.f40.body).getD .skip) (by kernel_rfl) (calm_of (by kernel_rfl)) l
  · exact ent_plain (by decide) Tryd.func41 (c := (Tryd.f41.body).getD .skip) (by kernel_rfl) (calm_of (by kernel_rfl)) l
  · exact ent_plain (by decide) Tryd.func42 (c := (Tryd.f42.body).getD .skip) (by kernel_rfl) (calm_of (by kernel_rfl)) l
  · exact ent_plain (by decide) Tryd.func43 (c := (Tryd.f43.body).getD .skip) (by kernel_rfl) (calm_of (by kernel_rfl)) l
  · exact ent_plain (by decide) Tryd.func44 (c := (Tryd.f44.body).getD .skip) (by kernel_rfl) (calm_of (by kernel_rfl)) l
  · exact ent_plain (by decide) Tryd.func45 (c := (Tryd.f45.body).getD .skip) (by kernel_rfl) (calm_of (by kernel_rfl)) l
  · exact ent_plain (by decide) Tryd.func46 (c := (Tryd.f46.body).getD .skip) (by kernel_rfl) (calm_of (by kernel_rfl)) l
  · exact ent_plain (by decide) Tryd.func47 (c := (Tryd.f47.body).getD .skip) (by kernel_rfl) (calm_of (by kernel_rfl)) l
  · exact ent_plain (by decide) Tryd.func48 (c := (Tryd.f48.body).getD .skip) (by kernel_rfl) (calm_of (by kernel_rfl)) l
  · exact ent_plain (by decide) Tryd.func49 (c := (Tryd.f49.body).getD .skip) (by kernel_rfl) (calm_of (by kernel_rfl)) l
  · exact ent_plain (by decide) Tryd.func50 (c := (Tryd.f50.body).getD .skip) (by kernel_rfl) (calm_of (by kernel_rfl)) l
  · exact ent_plain (by decide) Tryd.func51 (c := (Tryd.f51.body).getD .skip) (by kernel_rfl) (calm_of (by kernel_rfl)) l
  · exact ent_plain (by decide) Tryd.func52 (c := (Tryd.f52.body).getD .skip) (by kernel_rfl) (calm_of (by kernel_rfl)) l
  · exact ent_plain (by decide) Tryd.func53 (c := (Tryd.f53.body).getD .skip) (by kernel_rfl) (calm_of (by kernel_rfl)) l
  · exact ent_plain (by decide) Tryd.func54 (c := (Tryd.f54.body).getD .skip) (by kernel_rfl) (calm_of (by kernel_rfl)) l
  · exact ent_plain (by decide) Tryd.func55 (c := (Tryd.f55.body).getD .skip) (by kernel_rfl) (calm_of (by kernel_rfl)) l
  · exact ent_plain (by decide) Tryd.func56 (c := (Tryd.f56.body).getD .skip) (by kernel_rfl) (calm_of (by kernel_rfl)) l
  · exact ent_plain (by decide) Tryd.func57 (c := (Tryd.f57.body).getD .skip) (by kernel_rfl) (calm_of (by kernel_rfl)) l
  · exact ent_plain (by decide) Tryd.func58 (c := (Tryd.f58.body).getD .skip) (by kernel_rfl) (calm_of (by kernel_rfl)) l
  · exact ent_plain (by decide) Tryd.func59 (c := (Tryd.f59.body).getD .skip) (by kernel_rfl) (calm_of (by kernel_rfl)) l
  · exact ent_plain (by decide) Tryd.func61 (c := (Tryd.f61.body).getD .skip) (by kernel_rfl) (calm_of (by kernel_rfl)) l
  · exact ent_plain (by decide) Tryd.func62 (c := (Tryd.f62.body).getD .skip) (by kernel_rfl) (calm_of (by kernel_rfl)) l
  · exact ent_plain (by decide) Tryd.func63 (c := (Tryd.f63.body).getD .skip) (by kernel_rfl) (calm_of (by kernel_rfl)) l
  · exact ent_plain (by decide) Tryd.func64 (c := (Tryd.f64.body).getD .skip) (by kernel_rfl) (calm_of (by kernel_rfl)) l
  · exact ent_plain (by decide) Tryd.func65 (c := (Tryd.f65.body).getD .skip) (by kernel_rfl) (calm_of (by kernel_rfl)) l
  · exact ent_plain (by decide) Tryd.func66 (c := (Tryd.f66.body).getD .skip) (by kernel_rfl) (calm_of (by kernel_rfl)) l
  · exact ent_plain (by decide) Tryd.func67 (c := (Tryd.f67.body).getD .skip) (by kernel_rfl) (calm_of (by kernel_rfl)) l
  · exact ent_plain (by decide) Tryd.func68 (c := (Tryd.f68.body).getD .skip) (by kernel_rfl) (calm_of (by kernel_rfl)) l
  · exact ent_plain (by decide) Tryd.func69 (c := (Tryd.f69.body).getD .skip) (by kernel_rfl) (calm_of (by kernel_rfl)) l
  · exact ent_plain (by decide) Tryd.func70 (c := (Tryd.f70.body).getD .skip) (by kernel_rfl) (calm_of (by kernel_rfl)) l
  · exact ent_plain (by decide) Tryd.func71 (c := (Tryd.f71.body).getD .skip) (by kernel_rfl) (calm_of (by kernel_rfl)) l
  · exact ent_plain (by decide) Tryd.func72 (c := (Tryd.f72.body).getD .skip) (by kernel_rfl) (calm_of (by kernel_rfl)) l
  · exact ent_plain (by decide) Tryd.func73 (c := (Tryd.f73.body).getD .skip) (by kernel_rfl) (calm_of (by kernel_rfl)) l
  · exact ent_plain (by decide) Tryd.func74 (c := (Tryd.f74.body).getD .skip) (by kernel_rfl) (calm_of (by kernel_rfl)) l
  · exact ent_plain (by decide) Tryd.func75 (c := (Tryd.f75.body).getD .skip) (by kernel_rfl) (calm_of (by kernel_rfl)) l
  · exact ent_plain (by decide) Tryd.func76 (c := (Tryd.f76.body).getD .skip) (by kernel_rfl) (calm_of (by kernel_rfl)) l
  · exact ent_plain (by decide) Tryd.func77 (c := (Tryd.f77.body).getD .skip) (by kernel_rfl) (calm_of (by kernel_rfl)) l
  · exact ent_plain (by decide) Tryd.func78 (c := (Tryd.f78.body).getD .skip) (by kernel_rfl) (calm_of (by kernel_rfl)) l
  · exact ent_plain (by decide) Tryd.func79 (c := (Tryd.f79.body).getD .skip) (by kernel_rfl) (calm_of (by kernel_rfl)) l
  · exact ent_plain (by decide) Tryd.func80 (c := (Tryd.f80.body).getD .skip) (by kernel_rfl) (calm_of (by kernel_rfl)) l
  · exact ent_plain (by decide) Tryd.func81 (c := (Tryd.f81.body).getD .skip) (by kernel_rfl) (calm_of (by kernel_rfl)) l
  · exact ent_plain (by decide) Tryd.func82 (c := (Tryd.f82.body).getD .skip) (by kernel_rfl) (calm_of (by kernel_rfl)) l
  · exact ent_plain (by decide) Tryd.func83 (c := (Tryd.f83.body).getD .skip) (by kernel_rfl) (calm_of (by kernel_rfl)) l
  · exact ent_plain (by decide) Tryd.func84 (c := (Tryd.f84.body).getD .skip) (by kernel_rfl) (calm_of (by kernel_rfl)) l
  · exact ent_plain (by decide) Tryd.func85 (c := (Tryd.f85.body).getD .skip) (by kernel_rfl) (calm_of (by kernel_rfl)) l
  · exact ent_plain (by decide) Tryd.func86 (c := (Tryd.f86.body).getD .skip) (by kernel_rfl) (calm_of (by kernel_rfl)) l
  · exact ent_plain (by decide) Tryd.func87 (c := (Tryd.f87.body).getD .skip) (by kernel_rfl) (calm_of (by kernel_rfl)) l
  · exact ent_plain (by decide) Tryd.func88 (c := (Tryd.f88.body).getD .skip) (by kernel_rfl) (calm_of (by kernel_rfl)) l
  · exact ent_plain (by decide) Tryd.func89 (c := (Tryd.f89.body).getD .skip) (by kernel_rfl) (calm_of (by kernel_rfl)) l
  · exact ent_plain (by decide) Tryd.func90 (c := (Tryd.f90.body).getD .skip) (by kernel_rfl) (calm_of (by kernel_rfl)) l
  · exact ent_plain (by decide) Tryd.func91 (c := (Tryd.f91.body).getD .skip) (by kernel_rfl) (calm_of (by kernel_rfl)) l
  · exact ent_plain (by decide) Tryd.func92 (c := (Tryd.f92.body).getD .skip) (by kernel_rfl) (calm_of (by kernel_rfl)) l
  · exact ent_plain (by decide) Tryd.func93 (c := (Tryd.f93.body).getD .skip) (by kernel_rfl) (calm_of (by kernel_rfl)) l
  · exact ent_plain (by decide) Tryd.func94 (c := (Tryd.f94.body).getD .skip) (by kernel_rfl) (calm_of (by kernel_rfl)) l
  · exact ent_plain (by decide) Tryd.func95 (c := (Tryd.f95.body).getD .skip) (by kernel_rfl) (calm_of (by kernel_rfl)) l
theorem steps_tw (b : Nat) : tw.stepOf b = none := steps_none (T := Tryd.prog.toTables) (fs := twF) (by kernel_rfl) b
/-- ████ THE PROGRAM AND ITS TWIN. ████ -/
theorem env : Env Tryd.prog.toTables twF Tryd.prog.funcs okc Sn Sp Fn := by
  refine ⟨fineS, fineP, steps_tw, step_try, fun x L h => ?_, fun x L h => ?_, fun x L h => ?_, fun x L h => ?_, fun x L h => ?_, fun x L h fn e => ?_, entS, slots, fun x L h o ho => ?_, fun x L h => ?_⟩
  all_goals obtain ⟨rfl, rfl⟩ := fn_cases h
  · exact lp9
  · exact lq9
  · exact o5_9
  · rfl
  · obtain ⟨o, X, Y, ts, h1, h2, h3, h4⟩ := call9
    rw [h1]; exact h3
  · rw [tw_ne (by decide), Tryd.func16] at e
    cases e
    rw [Tryd.ntmps16]
    decide
  · obtain ⟨o', X, Y, ts, h1, h2, h3, h4⟩ := call9
    rw [h1] at ho
    cases ho
    rw [h4]
    rfl
  · have hP : ∀ P : Program, (P = ⟨Tryd.prog.toTables, twF⟩ ∨ P = ⟨Tryd.prog.toTables, Tryd.prog.funcs⟩) → (∀ w es, (underlying 66).runT P w es = (.ok (.chan .recv 69) w, es)) ∧ ∀ w es, (zeroValue 69).runT P w es = (.ok z48 w, es) := by
      rintro P (rfl | rfl)
      · exact ⟨run_under Tryd.underlying66, run_zero info48z⟩
      · exact ⟨run_under Tryd.underlying66, run_zero info48z⟩
    obtain ⟨o, h1, h2, h3, h4⟩ := of_map (show (L9.ops[0]?).map _ = some (none, some 43, .recv 66 (.tmp 42) true) by kernel_rfl)
    exact ⟨o, _, _, _, _, h1, h4, wanted_any h2, hP⟩
theorem callsT : CallT Tryd.prog.toTables twF okc Sn Fn Vc := callT (fun x L h => by
  obtain ⟨rfl, rfl⟩ := fn_cases h
  obtain ⟨o, X, Y, ts, h1, h2, h3, h4⟩ := call9
  exact ⟨o, X, Y, ts, h1, h2, h4⟩)
end Go.Proofs.YtbkimmbfepjodaaDoor
