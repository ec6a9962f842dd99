/- Texts of ours, laid one behind the other: SgG, SgH, SgI, SgJ, SgK, SgL, SgM. -/
import Derived.Test.YtfhcpehfmecpjaaPk6
import Derived.Conc.SmallLaws
import Derived.Conc.LoneCalls
set_option linter.unusedVariables false
set_option linter.unusedSimpArgs false
/- The program's own sendCells, walked (written by gen/mksgg.py). -/
namespace Go.Proofs.Ytfhcpehfmecpjaa
open Go.Conc

def lftC : Code → Code
  | .seq a _ => a
  | c => c
def rgtC : Code → Code
  | .seq _ b => b
  | c => c
def inC : Code → Code
  | .block _ a => a
  | .loop a => a
  | c => c
def opsC : Code → Array Oper
  | .region _ ops _ => ops
  | _ => #[]
noncomputable def scB : Code := (Try.f31.body).getD .skip
noncomputable def scL : Code := inC (inC (rgtC (lftC scB)))
noncomputable abbrev R0 : Array Oper := opsC (lftC (lftC scB))
noncomputable abbrev R1 : Array Oper := opsC (lftC (lftC scL))
noncomputable abbrev R3 : Array Oper := opsC (lftC (inC (lftC (rgtC scL))))
noncomputable abbrev R4 : Array Oper := opsC (rgtC (inC (lftC (rgtC scL))))
noncomputable abbrev R2 : Array Oper := opsC (rgtC (rgtC scL))
noncomputable abbrev R5 : Array Oper := opsC (rgtC scB)
theorem sc_is : scB = .seq (.seq (.region 0 R0 false) (.block 0 (.loop scL))) (.region 5 R5 false) := by kernel_rfl
theorem scL_is : scL = .seq (.seq (.region 1 R1 false) (.cond (.tmp 12) .skip (.exit 0))) (.seq (.block 1 (.seq (.region 3 R3 false) (.region 4 R4 false))) (.region 2 R2 false)) := by kernel_rfl
theorem of_map {ops : Array Oper} {i : Nat} {g : Option (Nat × Bool)} {d : Option Nat} {p : Op} (h : (ops[i]?).map (fun o => (o.guard, o.dst, o.op)) = some (g, d, p)) : ∃ o, ops[i]? = some o ∧ o.guard = g ∧ o.dst = d ∧ o.op = p := by
  obtain ⟨o, e, q⟩ := Option.map_eq_some_iff.1 h
  simp only [Prod.mk.injEq] at q
  exact ⟨o, e, q.1, q.2.1, q.2.2⟩
theorem getD_set (tmps : Array Value) (d t : Nat) (v : Value) : (tmps.setIfInBounds d v).getD t undef = if d = t ∧ d < tmps.size then v else tmps.getD t undef := by
  by_cases e : d = t
  · subst e
    by_cases h : d < tmps.size
    · rw [getD_eq h, if_pos ⟨rfl, h⟩]
    · rw [if_neg (fun q => h q.2)]
      simp [Array.getD_eq_getD_getElem?, Array.setIfInBounds, h]
  · rw [getD_ne (Ne.symm e), if_neg (fun q => e q.1)]
theorem run_prog {α : Type} {P : Program} (k : Program → Sem α) (w : World) (es : Array Event) : Sem.runT P (program >>= k) w es = Sem.runT P (k P) w es := rfl
theorem run_callF {P : Program} {x : FuncId} {fn : Func} (k2 : P.funcs[x]? = some fn) (k3 : fn.body.isNone = false) (k4 : (fn.name == "runtime.NumGoroutine") = false) (l : Array Value) (w : World) (es : Array Event) : (callFunc x l).runT P w es = (.ok (.enter x l) w, es) := by
  unfold callFunc
  rw [run_prog]
  rw [k2]
  dsimp only
  rw [k4, if_neg (by simp), k3, if_neg (by simp)]
  rfl
theorem run_cell (a b u t : Int) (w : World) (es : Array Event) : Sem.runT Try.prog (do let v ← Instr.build 48 #[(0, .int .i64 a), (1, .int .i64 b), (2, .int .i64 u), (3, .int .i64 t)]; pure (Next.value v)) w es = (.ok (.value (cellV a b u t)) w, es) := by
  have h : FreeP Try.prog (NextP []) (do let v ← Instr.build 48 #[(0, .int .i64 a), (1, .int .i64 b), (2, .int .i64 u), (3, .int .i64 t)]; pure (Next.value v)) := fv (f_build _ _)
  have hr : ∀ w', Sem.run Try.prog (do let v ← Instr.build 48 #[(0, .int .i64 a), (1, .int .i64 b), (2, .int .i64 u), (3, .int .i64 t)]; pure (Next.value v)) w' = .ok (.value (cellV a b u t)) w' := by
    intro w'
    simp [Instr.build, go_sem, cellV]
  rcases free_run _ h with ⟨x, _, e⟩ | ⟨x, _, e⟩
  · have := run_of (e w es)
    rw [hr] at this
    cases this
    exact e w es
  · have := run_of (e w es)
    rw [hr] at this
    cases this
noncomputable abbrev bot : Frame := { (default : Frame) with fn := Try.prog.funcs.size, defers := [], mode := .panicking [goexitEntry] }
section
variable {c : Nat} {vs : List Value} {tmps : Array Value} {k : List Item} {cs : List Frame}
theorem sg_regionL {fn : FuncId} {id : Nat} {ops : Array Oper} {l : List Nat} (hl : List.range ops.size = l) (h : Sg Try.prog c fn cs vs tmps (.inRegion ops l :: k)) : Sg Try.prog c fn cs vs tmps (.code (.region id ops false) :: k) := sg_region (by rw [hl]; exact h)
theorem sg_call33 {fn : FuncId} {ops : Array Oper} {i d : Nat} {r : List Nat} {o : Oper} {s f : Int} (ho : ops[i]? = some o) (hg : o.guard = none) (hd : o.dst = some d) (hop : o.op = .call { callee := .value (.func 33), args := #[.tmp 16, .tmp 17], argTypes := #[3, 3] }) (hx : tmps.getD 16 undef = .int .i64 s) (hy : tmps.getD 17 undef = .int .i64 f)
    (h : Sg Try.prog c fn cs vs (tmps.setIfInBounds d (.tuple #[.int .i64 ((placeX s f).1 : Nat), .int .i64 ((placeX s f).2.1 : Nat), .int .i64 ((placeX s f).2.2 : Nat)])) (.inRegion ops r :: k)) : Sg Try.prog c fn cs vs tmps (.inRegion ops (i :: r) :: k) := by
  have hw : Region.wanted o (yielded ops tmps) = true := by unfold Region.wanted; rw [hg]
  refine sg_go (g' := Gr (Frame.enter Try.prog 33 #[.int .i64 s, .int .i64 f] .normal) (fm3 fn tmps (.inRegion ops (i :: r) :: k) :: cs)) rfl (fun w => ?_) ?_
  · rw [step_op (fr := fm3 fn tmps (.inRegion ops (i :: r) :: k)) rfl rfl rfl ho hw]
    have hv' : (execOp (fm3 fn tmps (.inRegion ops (i :: r) :: k)).eval o).runT Try.prog w #[] = (.ok (.enter 33 #[.int .i64 s, .int .i64 f]) w, #[]) := by
      unfold execOp
      rw [hop]
      have e1 : (fm3 fn tmps (.inRegion ops (i :: r) :: k)).eval (.tmp 16) = .int .i64 s := hx
      have e2 : (fm3 fn tmps (.inRegion ops (i :: r) :: k)).eval (.tmp 17) = .int .i64 f := hy
      show (callFunc 33 (#[] ++ #[Operand.tmp 16, .tmp 17].map (fm3 fn tmps (.inRegion ops (i :: r) :: k)).eval ++ #[])).runT Try.prog w #[] = _
      have e3 : (#[] ++ #[Operand.tmp 16, .tmp 17].map (fm3 fn tmps (.inRegion ops (i :: r) :: k)).eval ++ #[]) = #[.int .i64 s, .int .i64 f] := by simp [e1, e2]
      rw [e3]
      exact run_callF Try.func33 (by kernel_rfl) (by kernel_rfl) _ _ _
    simp [-Sem.runT_eq, stepG.apply, hv', GStep.after, seen]
  · refine sender_call plainly (by simp) (fun y hy => ?_) (fun w => (implPlaceOf s f w).mono (fun e w' q => q.1)) ?_
    · rcases (by simpa using hy : y = _ ∨ y = _) with rfl | rfl <;> exact .int _ _
    · have e : (fm3 fn tmps (.inRegion ops (i :: r) :: k)).finish (.tuple #[.int .i64 ((placeX s f).1 : Nat), .int .i64 ((placeX s f).2.1 : Nat), .int .i64 ((placeX s f).2.2 : Nat)]) = fm3 fn (tmps.setIfInBounds d (.tuple #[.int .i64 ((placeX s f).1 : Nat), .int .i64 ((placeX s f).2.1 : Nat), .int .i64 ((placeX s f).2.2 : Nat)])) (.inRegion ops r :: k) := by
        simp [Frame.finish, ho, hd]
      rw [e]
      exact h
theorem sg_cell {fn : FuncId} {ops : Array Oper} {i d : Nat} {r : List Nat} {o : Oper} {a b u t : Int} (ho : ops[i]? = some o) (hg : o.guard = none) (hd : o.dst = some d) (hop : o.op = .build 48 #[(0, .tmp 23), (1, .tmp 27), (2, .tmp 28), (3, .tmp 29)]) (h1 : tmps.getD 23 undef = .int .i64 a) (h2 : tmps.getD 27 undef = .int .i64 b) (h3 : tmps.getD 28 undef = .int .i64 u) (h4 : tmps.getD 29 undef = .int .i64 t)
    (h : Sg Try.prog c fn cs vs (tmps.setIfInBounds d (cellV a b u t)) (.inRegion ops r :: k)) : Sg Try.prog c fn cs vs tmps (.inRegion ops (i :: r) :: k) := by
  refine sg_op ho hg hd (fun w es => ?_) h
  unfold execOp
  rw [hop]
  dsimp only
  have e : (#[((0 : Nat), Operand.tmp 23), (1, .tmp 27), (2, .tmp 28), (3, .tmp 29)].map fun (x : Nat × Operand) => (x.1, (fm3 fn tmps []).eval x.2)) = #[(0, .int .i64 a), (1, .int .i64 b), (2, .int .i64 u), (3, .int .i64 t)] := by
    simp [ev_tmp h1, ev_tmp h2, ev_tmp h3, ev_tmp h4]
  rw [e]
  exact run_cell a b u t w es
/-- The close. -/
theorem sg_close {fn : FuncId} {ops : Array Oper} {i d : Nat} {o : Oper} {ts : Array TypeId} {n : Nat} (ho : ops[i]? = some o) (hg : o.guard = none) (hd : o.dst = none) (hop : o.op = .call { callee := .builtin .close, args := #[.tmp d], argTypes := ts }) (hx : tmps.getD d undef = .chan (some c)) (hnr : (Try.prog.funcs[fn]?).any (·.norace) = false) (hq : QuitsD Try.prog n 0 (Gr (fm3 fn tmps (.inRegion ops [] :: k)) cs)) : Sg Try.prog c fn cs [] tmps (.inRegion ops [i] :: k) := by
  have hw : Region.wanted o (yielded ops tmps) = true := by unfold Region.wanted; rw [hg]
  refine .close (b' := Gr (fm3 fn tmps (.inRegion ops [] :: k)) cs) (n := n) rfl ?_ (fun w cap s r hc => ?_) hq
  · simp [mayWake, ho, hop]
  · rw [step_op (fr := fm3 fn tmps (.inRegion ops [i] :: k)) rfl rfl rfl ho hw]
    have hv' : (execOp (fm3 fn tmps (.inRegion ops [i] :: k)).eval o).runT Try.prog w #[] = (.ok (.value (.tuple #[])) (w.setChan c cap #[] true s r false), closeEvents c) := by
      unfold execOp
      rw [hop]
      have e1 : (fm3 fn tmps (.inRegion ops [i] :: k)).eval (.tmp d) = .chan (some c) := hx
      show Sem.runT Try.prog (do let v ← Builtin.close_ ts o.type (#[Operand.tmp d].map (fm3 fn tmps (.inRegion ops [i] :: k)).eval); pure (Next.value v)) w #[] = _
      have e3 : (#[Operand.tmp d].map (fm3 fn tmps (.inRegion ops [i] :: k)).eval) = #[.chan (some c)] := by simp [e1]
      rw [e3]
      have e4 : Builtin.close_ ts o.type #[.chan (some c)] = (do
          let .chan room buf closed sent received timer ← getObj c | stuck "close: no channel in this block"
          if closed then runtimePanic (.plain "close of closed channel")
          setObj c (.chan room buf true sent received timer)
          pure (.tuple #[])) := rfl
      rw [e4]
      simp [-Sem.runT_eq, getObj, setObj, bind, Sem.bind, pure, Sem.runT, hc, closeEvents, World.setChan, Obj.isChan]
    have hseen : seen Try.prog fn (closeEvents c) = closeEvents c := by
      simp [seen, closeEvents, hnr]
    simp [-Sem.runT_eq, stepG.apply, hv', GStep.after, Frame.finish, ho, hd, hseen]
/-- What is left behind the close. -/
theorem quits5 (tmps : Array Value) : QuitsD Try.prog 4 0 (Gr (fm3 31 tmps [.inRegion R5 []]) [bot]) := by
  refine .inr ⟨rfl, Gr (fm3 31 tmps []) [bot], #[], by simp, fun w => rfl, .inr ⟨rfl, Gr { fm3 31 tmps [] with mode := .returning } [bot], #[], by simp, fun w => rfl, .inr ⟨rfl, Gr bot [], #[], by simp, fun w => ?_, .inr ⟨rfl, { Gr bot [] with status := .finished }, #[], by simp, fun w => ?_, ⟨rfl, rfl⟩⟩⟩⟩⟩
  · have hf := Try.func31
    have hr := Try.results31
    simp [stepG, unwind, hf, results, hr, doReturn, seen, GStep.after]
    rfl
  · simp [stepG, unwind, Frame.catches]
    rfl
theorem send_end (tmps : Array Value) (h2 : tmps.getD 2 undef = .chan (some c)) (hsz : tmps.size = 32) : Sg Try.prog c 31 [bot] [] tmps [.code (.region 5 R5 false)] := by
  refine sg_regionL (l := [0, 1]) (by kernel_rfl) ?_
  have t2 := h2
  clear h2
  obtain ⟨o, h1, h2, h3, h4⟩ := of_map (show (R5[0]?).map _ = some (none, some 31, .move (.tmp 2)) by kernel_rfl)
  refine sg_move (v := (.chan (some c))) h1 h2 h3 (.inl h4) (by simp [-Array.getD_eq_getD_getElem?, getD_set, *]) ?_
  clear h1 h2 h3 h4
  obtain ⟨o, h1, h2', h3, h4⟩ := of_map (show (R5[1]?).map _ = some (none, none, .call { callee := .builtin .close, args := #[.tmp 31], argTypes := #[60] }) by kernel_rfl)
  exact sg_close h1 h2' h3 h4 (by simp [-Array.getD_eq_getD_getElem?, getD_set, *]) (by rw [Try.func31]; kernel_rfl) (quits5 _)
/-- THE LOOP. -/
theorem send_loop (s : Int) (n : Nat) (hn : n ≤ 32) : ∀ (fuel i : Nat) (tmps : Array Value), n ≤ i + 4 * fuel → i ≤ 36 → tmps.size = 32 → tmps.getD 0 undef = .int .i64 s → tmps.getD 1 undef = .int .i64 n → tmps.getD 2 undef = .chan (some c) → tmps.getD 6 undef = .int .i64 i →
    Sg Try.prog c 31 [bot] (cellsF s n fuel i) tmps [.code scL, .inLoop scL, .inBlock 0, .code (.region 5 R5 false)] := by
  intro fuel
  induction fuel with
  | zero =>
    intro i tmps hf hi hsz t0 t1 t2 t6
    have hlt : ¬ (i : Int) < (n : Int) := by omega
    rw [scL_is]
    refine sg_seq (sg_seq (sg_regionL (l := [0, 1, 2]) (by kernel_rfl) ?_))
    obtain ⟨o, h1, h2, h3, h4⟩ := of_map (show (R1[0]?).map _ = some (none, some 10, .move (.tmp 6)) by kernel_rfl)
    refine sg_move (v := (.int .i64 ((i : Nat) : Int))) h1 h2 h3 (.inl h4) (by simp [-Array.getD_eq_getD_getElem?, getD_set, *]) ?_
    clear h1 h2 h3 h4
    obtain ⟨o, h1, h2, h3, h4⟩ := of_map (show (R1[1]?).map _ = some (none, some 11, .move (.tmp 1)) by kernel_rfl)
    refine sg_move (v := (.int .i64 ((n : Nat) : Int))) h1 h2 h3 (.inl h4) (by simp [-Array.getD_eq_getD_getElem?, getD_set, *]) ?_
    clear h1 h2 h3 h4
    obtain ⟨o, h1, h2, h3, h4⟩ := of_map (show (R1[2]?).map _ = some (none, some 12, .binOp .lss 3 (.tmp 10) (.tmp 11) 3) by kernel_rfl)
    refine sg_bin (a := ((i : Nat) : Int)) (b := ((n : Nat) : Int)) h1 h2 h3 h4 (ev_tmp (by simp [-Array.getD_eq_getD_getElem?, getD_set, *])) (ev_tmp (by simp [-Array.getD_eq_getD_getElem?, getD_set, *])) (.inr ⟨rfl, rfl⟩) ?_
    clear h1 h2 h3 h4
    refine sg_done (sg_cond (v := false) (ev_tmp (by simp [-Array.getD_eq_getD_getElem?, getD_set, *])) ?_)
    refine sg_exit (k' := [.code (.region 5 R5 false)]) rfl ?_
    exact send_end _ (by simp [-Array.getD_eq_getD_getElem?, getD_set, *]) (by simp [*])
  | succ fuel ih =>
    intro i tmps hf hi hsz t0 t1 t2 t6
    by_cases hlt : i < n
    · have hw : IntKind.i64.wrap (((i : Nat) : Int) + 4) = ((i + 4 : Nat) : Int) := by rw [IntWalk.i64_in _ ⟨by omega, by omega⟩]; omega
      have hm : (if ((n : Nat) : Int) < ((i + 4 : Nat) : Int) then ((n : Nat) : Int) else ((i + 4 : Nat) : Int)) = ((min (i + 4) n : Nat) : Int) := by split <;> omega
      have hlt' : ((i : Nat) : Int) < ((n : Nat) : Int) := by omega
      rw [show cellsF s n (fuel + 1) i = cellV (i : Nat) (min (i + 4) n : Nat) ((placeX s (i : Nat)).2.1 : Nat) ((placeX s (i : Nat)).2.2 : Nat) :: cellsF s n fuel (i + 4) by rw [cellsF, if_pos hlt]]
      have ih' := fun tmps => ih (i + 4) tmps (by omega) (by omega)
      clear ih
      rw [scL_is]
      refine sg_seq (sg_seq (sg_regionL (l := [0, 1, 2]) (by kernel_rfl) ?_))
      obtain ⟨o, h1, h2, h3, h4⟩ := of_map (show (R1[0]?).map _ = some (none, some 10, .move (.tmp 6)) by kernel_rfl)
      refine sg_move (v := (.int .i64 ((i : Nat) : Int))) h1 h2 h3 (.inl h4) (by simp [-Array.getD_eq_getD_getElem?, getD_set, *]) ?_
      clear h1 h2 h3 h4
      obtain ⟨o, h1, h2, h3, h4⟩ := of_map (show (R1[1]?).map _ = some (none, some 11, .move (.tmp 1)) by kernel_rfl)
      refine sg_move (v := (.int .i64 ((n : Nat) : Int))) h1 h2 h3 (.inl h4) (by simp [-Array.getD_eq_getD_getElem?, getD_set, *]) ?_
      clear h1 h2 h3 h4
      obtain ⟨o, h1, h2, h3, h4⟩ := of_map (show (R1[2]?).map _ = some (none, some 12, .binOp .lss 3 (.tmp 10) (.tmp 11) 3) by kernel_rfl)
      refine sg_bin (a := ((i : Nat) : Int)) (b := ((n : Nat) : Int)) h1 h2 h3 h4 (ev_tmp (by simp [-Array.getD_eq_getD_getElem?, getD_set, *])) (ev_tmp (by simp [-Array.getD_eq_getD_getElem?, getD_set, *])) (.inr ⟨rfl, rfl⟩) ?_
      clear h1 h2 h3 h4
      refine sg_done (sg_cond (v := true) (ev_tmp (by simp [-Array.getD_eq_getD_getElem?, getD_set, *])) ?_)
      refine sg_skip (sg_seq (sg_block (sg_seq (sg_regionL (l := [0, 1, 2, 3, 4, 5, 6, 7, 8, 9]) (by kernel_rfl) ?_))))
      obtain ⟨o, h1, h2, h3, h4⟩ := of_map (show (R3[0]?).map _ = some (none, some 16, .move (.tmp 0)) by kernel_rfl)
      refine sg_move (v := (.int .i64 s)) h1 h2 h3 (.inl h4) (by simp [-Array.getD_eq_getD_getElem?, getD_set, *]) ?_
      clear h1 h2 h3 h4
      obtain ⟨o, h1, h2, h3, h4⟩ := of_map (show (R3[1]?).map _ = some (none, some 17, .move (.tmp 6)) by kernel_rfl)
      refine sg_move (v := (.int .i64 ((i : Nat) : Int))) h1 h2 h3 (.inl h4) (by simp [-Array.getD_eq_getD_getElem?, getD_set, *]) ?_
      clear h1 h2 h3 h4
      obtain ⟨o, h1, h2, h3, h4⟩ := of_map (show (R3[2]?).map _ = some (none, some 18, .call { callee := .value (.func 33), args := #[.tmp 16, .tmp 17], argTypes := #[3, 3] }) by kernel_rfl)
      refine sg_call33 (s := s) (f := ((i : Nat) : Int)) h1 h2 h3 h4 (by simp [-Array.getD_eq_getD_getElem?, getD_set, *]) (by simp [-Array.getD_eq_getD_getElem?, getD_set, *]) ?_
      clear h1 h2 h3 h4
      obtain ⟨o, h1, h2, h3, h4⟩ := of_map (show (R3[3]?).map _ = some (none, some 15, .move (.tmp 18)) by kernel_rfl)
      refine sg_move (v := (.tuple #[(.int .i64 ((placeX s (i : Nat)).1 : Nat)), (.int .i64 ((placeX s (i : Nat)).2.1 : Nat)), (.int .i64 ((placeX s (i : Nat)).2.2 : Nat))])) h1 h2 h3 (.inl h4) (by simp [-Array.getD_eq_getD_getElem?, getD_set, *]) ?_
      clear h1 h2 h3 h4
      obtain ⟨o, h1, h2, h3, h4⟩ := of_map (show (R3[4]?).map _ = some (none, some 19, .extract (.tmp 15) 0) by kernel_rfl)
      refine sg_extract (us := #[(.int .i64 ((placeX s (i : Nat)).1 : Nat)), (.int .i64 ((placeX s (i : Nat)).2.1 : Nat)), (.int .i64 ((placeX s (i : Nat)).2.2 : Nat))]) (v := (.int .i64 ((placeX s (i : Nat)).1 : Nat))) h1 h2 h3 h4 (by simp [-Array.getD_eq_getD_getElem?, getD_set, *]) rfl ?_
      clear h1 h2 h3 h4
      obtain ⟨o, h1, h2, h3, h4⟩ := of_map (show (R3[5]?).map _ = some (none, some 20, .extract (.tmp 15) 1) by kernel_rfl)
      refine sg_extract (us := #[(.int .i64 ((placeX s (i : Nat)).1 : Nat)), (.int .i64 ((placeX s (i : Nat)).2.1 : Nat)), (.int .i64 ((placeX s (i : Nat)).2.2 : Nat))]) (v := (.int .i64 ((placeX s (i : Nat)).2.1 : Nat))) h1 h2 h3 h4 (by simp [-Array.getD_eq_getD_getElem?, getD_set, *]) rfl ?_
      clear h1 h2 h3 h4
      obtain ⟨o, h1, h2, h3, h4⟩ := of_map (show (R3[6]?).map _ = some (none, some 21, .extract (.tmp 15) 2) by kernel_rfl)
      refine sg_extract (us := #[(.int .i64 ((placeX s (i : Nat)).1 : Nat)), (.int .i64 ((placeX s (i : Nat)).2.1 : Nat)), (.int .i64 ((placeX s (i : Nat)).2.2 : Nat))]) (v := (.int .i64 ((placeX s (i : Nat)).2.2 : Nat))) h1 h2 h3 h4 (by simp [-Array.getD_eq_getD_getElem?, getD_set, *]) rfl ?_
      clear h1 h2 h3 h4
      obtain ⟨o, h1, h2, h3, h4⟩ := of_map (show (R3[7]?).map _ = some (none, some 7, .assign (.tmp 19)) by kernel_rfl)
      refine sg_move (v := (.int .i64 ((placeX s (i : Nat)).1 : Nat))) h1 h2 h3 (.inr h4) (by simp [-Array.getD_eq_getD_getElem?, getD_set, *]) ?_
      clear h1 h2 h3 h4
      obtain ⟨o, h1, h2, h3, h4⟩ := of_map (show (R3[8]?).map _ = some (none, some 8, .assign (.tmp 20)) by kernel_rfl)
      refine sg_move (v := (.int .i64 ((placeX s (i : Nat)).2.1 : Nat))) h1 h2 h3 (.inr h4) (by simp [-Array.getD_eq_getD_getElem?, getD_set, *]) ?_
      clear h1 h2 h3 h4
      obtain ⟨o, h1, h2, h3, h4⟩ := of_map (show (R3[9]?).map _ = some (none, some 9, .assign (.tmp 21)) by kernel_rfl)
      refine sg_move (v := (.int .i64 ((placeX s (i : Nat)).2.2 : Nat))) h1 h2 h3 (.inr h4) (by simp [-Array.getD_eq_getD_getElem?, getD_set, *]) ?_
      clear h1 h2 h3 h4
      refine sg_done (sg_regionL (l := [0, 1, 2, 3, 4, 5, 6, 7, 8, 9]) (by kernel_rfl) ?_)
      obtain ⟨o, h1, h2, h3, h4⟩ := of_map (show (R4[0]?).map _ = some (none, some 22, .move (.tmp 2)) by kernel_rfl)
      refine sg_move (v := (.chan (some c))) h1 h2 h3 (.inl h4) (by simp [-Array.getD_eq_getD_getElem?, getD_set, *]) ?_
      clear h1 h2 h3 h4
      obtain ⟨o, h1, h2, h3, h4⟩ := of_map (show (R4[1]?).map _ = some (none, some 23, .move (.tmp 6)) by kernel_rfl)
      refine sg_move (v := (.int .i64 ((i : Nat) : Int))) h1 h2 h3 (.inl h4) (by simp [-Array.getD_eq_getD_getElem?, getD_set, *]) ?_
      clear h1 h2 h3 h4
      obtain ⟨o, h1, h2, h3, h4⟩ := of_map (show (R4[2]?).map _ = some (none, some 24, .move (.tmp 6)) by kernel_rfl)
      refine sg_move (v := (.int .i64 ((i : Nat) : Int))) h1 h2 h3 (.inl h4) (by simp [-Array.getD_eq_getD_getElem?, getD_set, *]) ?_
      clear h1 h2 h3 h4
      obtain ⟨o, h1, h2, h3, h4⟩ := of_map (show (R4[3]?).map _ = some (none, some 25, .binOp .add 3 (.tmp 24) (.const (.int .i64 4)) 3) by kernel_rfl)
      refine sg_bin (a := ((i : Nat) : Int)) (b := 4) h1 h2 h3 h4 (ev_tmp (by simp [-Array.getD_eq_getD_getElem?, getD_set, *])) rfl (.inl ⟨rfl, rfl⟩) ?_
      rw [hw]
      clear h1 h2 h3 h4
      obtain ⟨o, h1, h2, h3, h4⟩ := of_map (show (R4[4]?).map _ = some (none, some 26, .move (.tmp 1)) by kernel_rfl)
      refine sg_move (v := (.int .i64 ((n : Nat) : Int))) h1 h2 h3 (.inl h4) (by simp [-Array.getD_eq_getD_getElem?, getD_set, *]) ?_
      clear h1 h2 h3 h4
      obtain ⟨o, h1, h2, h3, h4⟩ := of_map (show (R4[5]?).map _ = some (none, some 27, .call { callee := .builtin .min, args := #[.tmp 25, .tmp 26], argTypes := #[3, 3] }) by kernel_rfl)
      refine sg_min (a := ((i + 4 : Nat) : Int)) (b := ((n : Nat) : Int)) h1 h2 h3 h4 (ev_tmp (by simp [-Array.getD_eq_getD_getElem?, getD_set, *])) (ev_tmp (by simp [-Array.getD_eq_getD_getElem?, getD_set, *])) ?_
      rw [hm]
      clear h1 h2 h3 h4
      obtain ⟨o, h1, h2, h3, h4⟩ := of_map (show (R4[6]?).map _ = some (none, some 28, .move (.tmp 8)) by kernel_rfl)
      refine sg_move (v := (.int .i64 ((placeX s (i : Nat)).2.1 : Nat))) h1 h2 h3 (.inl h4) (by simp [-Array.getD_eq_getD_getElem?, getD_set, *]) ?_
      clear h1 h2 h3 h4
      obtain ⟨o, h1, h2, h3, h4⟩ := of_map (show (R4[7]?).map _ = some (none, some 29, .move (.tmp 9)) by kernel_rfl)
      refine sg_move (v := (.int .i64 ((placeX s (i : Nat)).2.2 : Nat))) h1 h2 h3 (.inl h4) (by simp [-Array.getD_eq_getD_getElem?, getD_set, *]) ?_
      clear h1 h2 h3 h4
      obtain ⟨o, h1, h2, h3, h4⟩ := of_map (show (R4[8]?).map _ = some (none, some 30, .build 48 #[(0, .tmp 23), (1, .tmp 27), (2, .tmp 28), (3, .tmp 29)]) by kernel_rfl)
      refine sg_cell (a := ((i : Nat) : Int)) (b := ((min (i + 4) n : Nat) : Int)) (u := ((placeX s (i : Nat)).2.1 : Nat)) (t := ((placeX s (i : Nat)).2.2 : Nat)) h1 h2 h3 h4 (by simp [-Array.getD_eq_getD_getElem?, getD_set, *]) (by simp [-Array.getD_eq_getD_getElem?, getD_set, *]) (by simp [-Array.getD_eq_getD_getElem?, getD_set, *]) (by simp [-Array.getD_eq_getD_getElem?, getD_set, *]) ?_
      clear h1 h2 h3 h4
      obtain ⟨o, h1, h2, h3, h4⟩ := of_map (show (R4[9]?).map _ = some (none, none, .send (.tmp 22) (.tmp 30)) by kernel_rfl)
      refine sg_send (v := (cellV (i : Nat) (min (i + 4) n : Nat) ((placeX s (i : Nat)).2.1 : Nat) ((placeX s (i : Nat)).2.2 : Nat))) h1 h2 h3 h4 (ev_tmp (by simp [-Array.getD_eq_getD_getElem?, getD_set, *])) (ev_tmp (by simp [-Array.getD_eq_getD_getElem?, getD_set, *])) ?_
      clear h1 h2 h3 h4
      refine sg_done (sg_inBlock (sg_regionL (l := [0, 1, 2]) (by kernel_rfl) ?_))
      obtain ⟨o, h1, h2, h3, h4⟩ := of_map (show (R2[0]?).map _ = some (none, some 13, .move (.tmp 6)) by kernel_rfl)
      refine sg_move (v := (.int .i64 ((i : Nat) : Int))) h1 h2 h3 (.inl h4) (by simp [-Array.getD_eq_getD_getElem?, getD_set, *]) ?_
      clear h1 h2 h3 h4
      obtain ⟨o, h1, h2, h3, h4⟩ := of_map (show (R2[1]?).map _ = some (none, some 14, .binOp .add 3 (.tmp 13) (.const (.int .i64 4)) 3) by kernel_rfl)
      refine sg_bin (a := ((i : Nat) : Int)) (b := 4) h1 h2 h3 h4 (ev_tmp (by simp [-Array.getD_eq_getD_getElem?, getD_set, *])) rfl (.inl ⟨rfl, rfl⟩) ?_
      rw [hw]
      clear h1 h2 h3 h4
      obtain ⟨o, h1, h2, h3, h4⟩ := of_map (show (R2[2]?).map _ = some (none, some 6, .assign (.tmp 14)) by kernel_rfl)
      refine sg_move (v := (.int .i64 ((i + 4 : Nat) : Int))) h1 h2 h3 (.inr h4) (by simp [-Array.getD_eq_getD_getElem?, getD_set, *]) ?_
      clear h1 h2 h3 h4
      refine sg_done (sg_inLoop ?_)
      rw [← scL_is]
      refine ih' _ (by simp [*]) ?_ ?_ ?_ ?_
      all_goals simp [-Array.getD_eq_getD_getElem?, getD_set, *]
    · have hlt' : ¬ ((i : Nat) : Int) < ((n : Nat) : Int) := by omega
      rw [show cellsF s n (fuel + 1) i = [] by rw [cellsF, if_neg hlt]]
      rw [scL_is]
      refine sg_seq (sg_seq (sg_regionL (l := [0, 1, 2]) (by kernel_rfl) ?_))
      obtain ⟨o, h1, h2, h3, h4⟩ := of_map (show (R1[0]?).map _ = some (none, some 10, .move (.tmp 6)) by kernel_rfl)
      refine sg_move (v := (.int .i64 ((i : Nat) : Int))) h1 h2 h3 (.inl h4) (by simp [-Array.getD_eq_getD_getElem?, getD_set, *]) ?_
      clear h1 h2 h3 h4
      obtain ⟨o, h1, h2, h3, h4⟩ := of_map (show (R1[1]?).map _ = some (none, some 11, .move (.tmp 1)) by kernel_rfl)
      refine sg_move (v := (.int .i64 ((n : Nat) : Int))) h1 h2 h3 (.inl h4) (by simp [-Array.getD_eq_getD_getElem?, getD_set, *]) ?_
      clear h1 h2 h3 h4
      obtain ⟨o, h1, h2, h3, h4⟩ := of_map (show (R1[2]?).map _ = some (none, some 12, .binOp .lss 3 (.tmp 10) (.tmp 11) 3) by kernel_rfl)
      refine sg_bin (a := ((i : Nat) : Int)) (b := ((n : Nat) : Int)) h1 h2 h3 h4 (ev_tmp (by simp [-Array.getD_eq_getD_getElem?, getD_set, *])) (ev_tmp (by simp [-Array.getD_eq_getD_getElem?, getD_set, *])) (.inr ⟨rfl, rfl⟩) ?_
      clear h1 h2 h3 h4
      refine sg_done (sg_cond (v := false) (ev_tmp (by simp [-Array.getD_eq_getD_getElem?, getD_set, *])) ?_)
      refine sg_exit (k' := [.code (.region 5 R5 false)]) rfl ?_
      exact send_end _ (by simp [-Array.getD_eq_getD_getElem?, getD_set, *]) (by simp [*])
end
end Go.Proofs.Ytfhcpehfmecpjaa
/- The program's own sendCells, from its birth on. -/
namespace Go.Proofs.Ytfhcpehfmecpjaa
open Go.Conc

abbrev sendD (s : Int) (n c : Nat) : Deferred := { target := .fn (.func 31) #[], args := #[.int .i64 s, .int .i64 (n : Int), .chan (some c)] }
theorem born_step (s : Int) (n c : Nat) (w : World) : stepG Try.prog false (born Try.prog (sendD s n c)) w = .go (Gr (Frame.enter Try.prog 31 #[.int .i64 s, .int .i64 (n : Int), .chan (some c)] .deferred) [bot]) w #[] := by
  have h := run_callF Try.func31 (by kernel_rfl) (by kernel_rfl) #[.int .i64 s, .int .i64 (n : Int), .chan (some c)] w #[]
  have h2 := run_of h
  simp [stepG, born, unwind, callDeferred, invoke, h, h2, -Sem.runT_eq, GStep.after, seen]
theorem enter31 (s : Int) (n c : Nat) : Frame.enter Try.prog 31 #[.int .i64 s, .int .i64 (n : Int), .chan (some c)] .deferred = fm3 31 (#[.int .i64 s, .int .i64 (n : Int), .chan (some c)] ++ Array.replicate 29 undef) [.code scB] := by
  have h := Try.func31
  have h1 := Try.ntmps31
  have hb : Try.f31.body = some scB := by kernel_rfl
  simp [Frame.enter, h, h1, hb]
theorem born_sender (s : Int) (n c : Nat) (hn : n ≤ 32) : Sender Try.prog c (cellsF s n 9 0) (born Try.prog (sendD s n c)) := by
  refine sg_go rfl (born_step s n c) ?_
  rw [enter31, sc_is]
  refine sg_seq (sg_seq (sg_regionL (l := [0]) (by kernel_rfl) ?_))
  obtain ⟨o, h1, h2, h3, h4⟩ := of_map (show (R0[0]?).map _ = some (none, some 6, .assign (.const (.int .i64 0))) by kernel_rfl)
  refine sg_const h1 h2 h3 h4 ?_
  refine sg_done (sg_block (sg_loop ?_))
  refine send_loop s n hn 9 0 _ (by omega) (by omega) (by simp) ?_ ?_ ?_ ?_
  all_goals (rw [getD_set]; simp)
end Go.Proofs.Ytfhcpehfmecpjaa
/- Goroutine 0 makes a channel and starts a sender: chains of its own steps, ahead of the start and behind it. -/
namespace Go.Proofs.Ytfhcpehfmecpjaa
open Go.Conc
open Go.ConcN (sumTo upd sumTo_upd upd_ne upd_same)

/-- From here, beside leavers, the run ends well. -/
def IdW (P : Program) (Post : Value → World → Prop) (a : Goroutine) (w : World) : Prop :=
  ∀ (gs : Array Goroutine) (sl : Option (Nat × Nat)) (t : Trace) (q : Nat → Nat) (B d : Nat), gs[0]? = some a → Leavers P t gs q → Pi B t → Win P Post gs (w.at d) sl t
/-- From here, beside a sender that has these to send, or has closed: the run ends well. 'w': the world as the channel c was made. -/
structure Pk (P : Program) (Post : Value → World → Prop) (c : Nat) (vs : List Value) (w : World) (a : Goroutine) : Prop where
  kid : ∀ j d, Kid P Post c j a vs (w.at d)
  shut : vs = [] → ∀ (j m d : Nat) (gs : Array Goroutine) (sl : Option (Nat × Nat)) (t : Trace) (q : Nat → Nat) (B : Nat), gs[0]? = some a → Leavers P t gs q → Pc c m j B t → c < B → Win P Post gs ((w.at d).setChan c 0 #[] true 0 0 false) sl t
section
variable {P : Program} {Post : Value → World → Prop} {a a' : Goroutine} {w w' : World} {c : Nat} {vs : List Value}
theorem id_go (ha : a.status = .running) (hs : ∀ d, ∃ es, stepG P true a (w.at d) = .go a' (w'.at d) es ∧ Quietly es) (h : IdW P Post a' w') : IdW P Post a w := by
  intro gs sl t q B d h0 hL hP
  obtain ⟨N, gs', a'', d', w'', es, sl', t', q', B', e, hr, hsz, h0', hL', hP'⟩ := idle1 (P := P) keeps_pi (sl := sl) (w := w.at d) h0 ha hL hP (fun d' => by
    obtain ⟨es, e, hq⟩ := hs d'
    exact ⟨_, _, es, e, hq⟩)
  obtain ⟨es', e', _⟩ := hs d'
  have e2 : stepG P true a (w.at d') = .go a'' w'' es := e
  rw [e'] at e2
  injection e2 with q1 q2 q3
  subst q1 q2
  exact Win.of hr (h gs' sl' t' q' B' d' h0' hL' hP')
theorem pk_go (ha : a.status = .running) (hs : ∀ v, stepG P true a v = .go a' v #[]) (ho : Open c 0 0 w) (h : Pk P Post c vs w a') : Pk P Post c vs w a := by
  have sh : vs = [] → ∀ (j m d : Nat) (gs : Array Goroutine) (sl : Option (Nat × Nat)) (t : Trace) (q : Nat → Nat) (B : Nat), gs[0]? = some a → Leavers P t gs q → Pc c m j B t → c < B → Win P Post gs ((w.at d).setChan c 0 #[] true 0 0 false) sl t := by
    intro hv j m d gs sl t q B h0 hL hP hB
    obtain ⟨N, gs', a'', d', w'', es, sl', t', q', B', e, hr, hsz, h0', hL', hP'⟩ := idle1 (P := P) (Φ := fun B t => Pc c m j B t ∧ c < B) ⟨fun h hi hm => ⟨(keeps_pc c m j).mute h.1 hi hm, h.2⟩, fun h hB hq hl => ⟨(keeps_pc c m j).own h.1 hB hq hl, Nat.lt_of_lt_of_le h.2 hB⟩⟩ (sl := sl) (w := (w.at d).setChan c 0 #[] true 0 0 false) h0 ha hL ⟨hP, hB⟩ (fun d' => ⟨_, _, #[], hs _, Quietly.nil⟩)
    rw [hs] at e
    injection e with q1 q2 q3
    subst q1 q2
    exact Win.of hr (h.shut hv j m d' gs' sl' t' q' B' h0' hL' hP'.1 hP'.2)
  refine ⟨fun j d => ?_, sh⟩
  refine place_kid (Wk := fun v => ∃ d, v = w.at d) ha (fun v d' ⟨d, e⟩ => ⟨d', by rw [e]; rfl⟩) (.inl (fun v s r ⟨d, e⟩ hov => ⟨a', v, #[], hs v, Quietly.nil, hov, by rw [e]; exact h.kid j d⟩)) (fun hv v s r ⟨d, e⟩ hov => ?_) ⟨d, rfl⟩ (show Open c 0 0 (w.at d) from ho)
  have hsr : s = 0 ∧ r = 0 := by
    rw [e] at hov
    have : (w.at d).heap[c]? = some (.chan 0 #[] false 0 0 false) := ho
    rw [show (w.at d).heap[c]? = _ from hov] at this
    simp only [Option.some.injEq, Obj.chan.injEq] at this
    exact ⟨this.2.2.2.1, this.2.2.2.2.1⟩
  obtain ⟨rfl, rfl⟩ := hsr
  intro gs t q B n sl b' fn pos hA h0 hj hq
  obtain ⟨hL, hP⟩ := shut_leavers hA hj hq fn pos
  rw [e]
  exact sh hv j t.size d gs sl _ _ B h0 hL hP hA.cB
/-- A GOROUTINE IS STARTED that will send these. -/
theorem id_spawn {child : Goroutine} (ha : a.status = .running) (hs : ∀ d, stepG P true a (w.at d) = .spawn a' child (w.at d) #[]) (hc : Sender P c vs child) (h : Pk P Post c vs w a') : IdW P Post a w := by
  intro gs sl t q B d h0 hL hP
  obtain ⟨N, gs1, d1, d2, s1, s2, t1, q1, hr, hs1, h1, hL1, hP1, hst⟩ := turn0 (P := P) (B := B) keeps_pi _ gs a (w.at d) sl t q (Nat.le_refl _) h0 ha hL hP
  have hrun := runT_crowd_spawn (P := P) (sl := s2) (i := 0) (w := (w.at d).at d2) h1 (show stepG P (0 == 0) a ((w.at d).at d2) = _ from hs d2)
  refine Win.of hr (Win.step (hst.trans hrun) ?_)
  have hlt : 0 < gs1.size := (Array.getElem?_eq_some_iff.1 h1).1
  have hops : ((MemOp.ofEvents 0 a.frame.fn a.frame.place #[]).push { g := 0, fn := a.frame.fn, pos := a.frame.place, act := .go gs1.size } |>.push { g := gs1.size, fn := child.frame.fn, pos := a.frame.place, act := .start }) = ([{ g := 0, fn := a.frame.fn, pos := a.frame.place, act := .go gs1.size }, { g := gs1.size, fn := child.frame.fn, pos := a.frame.place, act := .start }] : List MemOp).toArray := by
    simp [MemOp.ofEvents]
  rw [hops]
  have hB' : Pi (max B (c + 1)) t1 := ⟨hP1.1.mono (Nat.le_max_left _ _), hP1.2⟩
  have hmild : ∀ op ∈ ([{ g := 0, fn := a.frame.fn, pos := a.frame.place, act := .go gs1.size }, { g := gs1.size, fn := child.frame.fn, pos := a.frame.place, act := .start }] : List MemOp), Mild2 (max B (c + 1)) op := by
    intro op hop
    simp only [List.mem_cons, List.not_mem_nil, or_false] at hop
    rcases hop with rfl | rfl <;> exact ⟨rfl, by simp, by simp, trivial⟩
  refine h.kid gs1.size d2 ((gs1.setIfInBounds 0 a').push child) _ q1 (max B (c + 1)) s2 child ⟨fun i x hi hij hx => ?_, fun i hi => ?_, ?_, hlt, pi_mild _ hB' hmild, by omega⟩ ?_ ?_ (.inl hc)
  · have hi' : i < gs1.size := by
      have := (Array.getElem?_eq_some_iff.1 hx).1
      simp at this
      omega
    rw [Array.getElem?_push, if_neg (by simp; omega), Array.getElem?_setIfInBounds_ne (by omega)] at hx
    rw [deaf_mild i _ hmild]
    exact hL1.old i x hi hx
  · rw [deaf_mild i _ hmild]
    exact hL1.above i (by simp at hi; omega)
  · rw [deaf_mild _ _ hmild]
    exact hL1.above _ (Nat.le_refl _)
  · rw [Array.getElem?_push, if_neg (by simp; omega), Array.getElem?_setIfInBounds_self_of_lt hlt]
  · rw [Array.getElem?_push, if_pos (by simp)]
end
end Go.Proofs.Ytfhcpehfmecpjaa
/- The program's own cells: a channel is made, a sender started, the channel handed back (written by gen/mksgj.py). -/
namespace Go.Proofs.Ytfhcpehfmecpjaa
open Go.Conc

abbrev fmN (fn : FuncId) (tmps : Array Value) (todo : List Item) : Frame := { fn := fn, tmps := tmps, todo := todo, defers := [], mode := .run, kind := .normal }
/-- A step that leaves the world as it is. -/
abbrev Mv (P : Program) (a a' : Goroutine) : Prop := ∀ w, stepG P true a w = .go a' w #[]
section
variable {P : Program} {Post : Value → World → Prop} {fn : FuncId} {cs : List Frame} {tmps : Array Value} {k : List Item} {c : Nat} {vs : List Value} {w : World} {fr : Frame} {a' : Goroutine}
theorem id_mv {fr : Frame} (h : Mv P (Gr fr cs) a') (hn : IdW P Post a' w) : IdW P Post (Gr fr cs) w := id_go rfl (fun d => ⟨#[], h _, Quietly.nil⟩) hn
theorem pk_mv {fr : Frame} (h : Mv P (Gr fr cs) a') (ho : Open c 0 0 w) (hn : Pk P Post c vs w a') : Pk P Post c vs w (Gr fr cs) := pk_go rfl h ho hn
theorem n_seq {a b : Code} : Mv P (Gr (fmN fn tmps (.code (.seq a b) :: k)) cs) (Gr (fmN fn tmps (.code a :: .code b :: k)) cs) := fun _ => rfl
theorem n_region {id : Nat} {ops : Array Oper} {l : List Nat} (hl : List.range ops.size = l) : Mv P (Gr (fmN fn tmps (.code (.region id ops false) :: k)) cs) (Gr (fmN fn tmps (.inRegion ops l :: k)) cs) := fun w => by
  simp [stepG, stepG.exec, ← hl]
theorem n_done {ops : Array Oper} : Mv P (Gr (fmN fn tmps (.inRegion ops [] :: k)) cs) (Gr (fmN fn tmps k) cs) := fun _ => rfl
theorem n_ret : Mv P (Gr (fmN fn tmps (.code .ret :: k)) cs) (Gr { fmN fn tmps (.code .ret :: k) with mode := .returning } cs) := fun _ => rfl
theorem n_op {ops : Array Oper} {i d : Nat} {r : List Nat} {o : Oper} {v : Value} (ho : ops[i]? = some o) (hg : o.guard = none) (hd : o.dst = some d) (hv : ∀ w es, (execOp (fmN fn tmps []).eval o).runT P w es = (.ok (.value v) w, es)) (cs : List Frame) : Mv P (Gr (fmN fn tmps (.inRegion ops (i :: r) :: k)) cs) (Gr (fmN fn (tmps.setIfInBounds d v) (.inRegion ops r :: k)) cs) := by
  intro w
  have hw : Region.wanted o (yielded ops tmps) = true := by unfold Region.wanted; rw [hg]
  rw [step_op (fr := fmN fn tmps (.inRegion ops (i :: r) :: k)) rfl rfl rfl ho hw]
  have hv' : (execOp (fmN fn tmps (.inRegion ops (i :: r) :: k)).eval o).runT P w #[] = (.ok (.value v) w, #[]) := hv w #[]
  simp [-Sem.runT_eq, stepG.apply, hv', GStep.after, seen, Frame.finish, ho, hd]
theorem n_move {ops : Array Oper} {i d t : Nat} {r : List Nat} {o : Oper} {v : Value} (ho : ops[i]? = some o) (hg : o.guard = none) (hd : o.dst = some d) (hop : o.op = .move (.tmp t) ∨ o.op = .assign (.tmp t)) (hx : tmps.getD t undef = v) (cs : List Frame) : Mv P (Gr (fmN fn tmps (.inRegion ops (i :: r) :: k)) cs) (Gr (fmN fn (tmps.setIfInBounds d v) (.inRegion ops r :: k)) cs) := by
  refine n_op ho hg hd (fun w es => ?_) cs
  unfold execOp
  rcases hop with e | e <;> (rw [e]; show (_, _) = _; rw [← hx]; rfl)
end
noncomputable def ceB : Code := (Try.f24.body).getD .skip
noncomputable abbrev C0 : Array Oper := opsC (lftC ceB)
noncomputable abbrev C1 : Array Oper := opsC (lftC (rgtC ceB))
noncomputable abbrev C2 : Array Oper := opsC (lftC (rgtC (rgtC ceB)))
noncomputable abbrev C3 : Array Oper := opsC (lftC (rgtC (rgtC (rgtC ceB))))
theorem ce_is : ceB = .seq (.region 0 C0 false) (.seq (.region 1 C1 false) (.seq (.region 2 C2 false) (.seq (.region 3 C3 false) .ret))) := by kernel_rfl
/-- What is sent over the channel that a call of cells makes. -/
def Vc (L : Lp) (fr : Frame) (vs : List Value) : Prop := ∃ (o : Oper) (x y : Operand) (ts : Array TypeId) (s : Int) (n : Nat), L.o5[L.o5.size - 1]? = some o ∧ o.guard = none ∧ o.op = .call { callee := .value (.func 24), args := #[x, y], argTypes := ts } ∧ fr.eval x = .int .i64 s ∧ fr.eval y = .int .i64 (n : Int) ∧ n ≤ 32 ∧ vs = cellsF s n 9 0
section
variable {Post : Value → World → Prop} {cs tops : List Frame} {vs : List Value} {w : World} {fr : Frame} {s : Int} {n : Nat}
theorem enter24 (s : Int) (n : Nat) : Frame.enter Try.prog 24 #[.int .i64 s, .int .i64 (n : Int)] .normal = fmN 24 (#[.int .i64 s, .int .i64 (n : Int)] ++ Array.replicate 9 undef) [.code ceB] := by
  have h := Try.func24
  have h1 := Try.ntmps24
  have hb : Try.f24.body = some ceB := by kernel_rfl
  simp [Frame.enter, h, h1, hb]
theorem info48 : (Try.prog.info? 48).map (fun i => i.bytes) = some 32 := by kernel_rfl
/-- Behind the start of the sender. -/
theorem behind (w : World) (tmps : Array Value) (hsz : tmps.size = 11) (t5 : tmps.getD 5 undef = .chan (some w.heap.size)) (h : Pk Try.prog Post w.heap.size vs (w.alloc (.chan 0 #[] false 0 0 false)) (Gr (fr.finish (.chan (some w.heap.size))) tops)) :
    Pk Try.prog Post w.heap.size vs (w.alloc (.chan 0 #[] false 0 0 false)) (Gr (fmN 24 tmps [.inRegion C2 [], .code (.seq (.region 3 C3 false) .ret)]) (fr :: tops)) := by
  have hopen : Open w.heap.size 0 0 (w.alloc (.chan 0 #[] false 0 0 false)) := by
    show (w.heap.push _)[w.heap.size]? = _
    simp
  refine pk_mv n_done hopen (pk_mv n_seq hopen (pk_mv (n_region (l := [0, 1]) (by kernel_rfl)) hopen ?_))
  obtain ⟨o, h1, h2, h3, h4⟩ := of_map (show (C3[0]?).map _ = some (none, some 10, .move (.tmp 5)) by kernel_rfl)
  refine pk_mv (n_move (v := (.chan (some w.heap.size))) h1 h2 h3 (.inl h4) (by simp [-Array.getD_eq_getD_getElem?, getD_set, *]) _) hopen ?_
  clear h1 h2 h3 h4
  obtain ⟨o, h1, h2, h3, h4⟩ := of_map (show (C3[1]?).map _ = some (none, some 4, .assign (.tmp 10)) by kernel_rfl)
  refine pk_mv (n_move (v := (.chan (some w.heap.size))) h1 h2 h3 (.inr h4) (by simp [-Array.getD_eq_getD_getElem?, getD_set, *]) _) hopen ?_
  clear h1 h2 h3 h4
  refine pk_mv n_done hopen (pk_mv n_ret hopen ?_)
  refine pk_go rfl (fun v => ?_) hopen h
  have hf := Try.func24
  have hr := Try.results24
  have e4 : ((tmps.setIfInBounds 10 (.chan (some w.heap.size))).setIfInBounds 4 (.chan (some w.heap.size))).getD 4 undef = .chan (some w.heap.size) := by simp [-Array.getD_eq_getD_getElem?, getD_set, *]
  simp [-Array.getD_eq_getD_getElem?, stepG, unwind, hf, results, hr, doReturn, seen, GStep.after, e4]
theorem make_run (v : World) : Sem.runT Try.prog (do let v ← Instr.makeChan 57 (.int .i64 0); pure (Next.value v)) v #[] = (.ok (.value (.chan (some v.heap.size))) (v.alloc (.chan 0 #[] false 0 0 false)), #[]) := by
  obtain ⟨i, hi, _⟩ := Option.map_eq_some_iff.1 info48
  have hu := Try.underlying57
  simp [-Sem.runT_eq, Instr.makeChan, asInt, asIntOf, underlying, typeInfo, newObj, bind, Sem.bind, pure, Sem.runT, program, hu, hi]
/-- Ahead of it. -/
theorem ahead (hn : n ≤ 32) (hvs : vs = cellsF s n 9 0) (h : Pk Try.prog Post w.heap.size vs (w.alloc (.chan 0 #[] false 0 0 false)) (Gr (fr.finish (.chan (some w.heap.size))) tops)) : IdW Try.prog Post (Gr (Frame.enter Try.prog 24 #[.int .i64 s, .int .i64 (n : Int)] .normal) (fr :: tops)) w := by
  rw [enter24, ce_is]
  refine id_mv n_seq (id_mv (n_region (l := [0]) (by kernel_rfl)) ?_)
  obtain ⟨o, h1, h2, h3, h4⟩ := of_map (show (C0[0]?).map _ = some (none, some 4, .assign (.const (.chan none))) by kernel_rfl)
  refine id_mv (n_op (v := .chan none) h1 h2 h3 (fun w es => by unfold execOp; rw [h4]; rfl) _) ?_
  clear h1 h2 h3 h4
  refine id_mv n_done (id_mv n_seq (id_mv (n_region (l := [0, 1]) (by kernel_rfl)) ?_))
  obtain ⟨o, h1, h2, h3, h4⟩ := of_map (show (C1[0]?).map _ = some (none, some 6, .makeChan 57 (.const (.int .i64 0))) by kernel_rfl)
  generalize htm : (#[.int .i64 s, .int .i64 (n : Int)] ++ Array.replicate 9 undef : Array Value).setIfInBounds 4 (.chan none) = tm
  have hsz : tm.size = 11 := by rw [← htm]; simp
  have t0 : tm.getD 0 undef = .int .i64 s := by rw [← htm, getD_set]; simp
  have t1 : tm.getD 1 undef = .int .i64 (n : Int) := by rw [← htm, getD_set]; simp
  clear htm
  refine id_go (a' := Gr (fmN 24 (tm.setIfInBounds 6 (.chan (some w.heap.size))) [.inRegion C1 [1], .code (.seq (.region 2 C2 false) (.seq (.region 3 C3 false) .ret))]) (fr :: tops)) (w' := w.alloc (.chan 0 #[] false 0 0 false)) rfl (fun d => ⟨#[], ?_, Quietly.nil⟩) ?_
  · have hw : Region.wanted o (yielded C1 tm) = true := by unfold Region.wanted; rw [h2]
    rw [step_op (fr := fmN 24 tm [.inRegion C1 [0, 1], .code (.seq (.region 2 C2 false) (.seq (.region 3 C3 false) .ret))]) rfl rfl rfl h1 hw]
    have hv' : (execOp (fmN 24 tm [.inRegion C1 [0, 1], .code (.seq (.region 2 C2 false) (.seq (.region 3 C3 false) .ret))]).eval o).runT Try.prog (w.at d) #[] = (.ok (.value (.chan (some w.heap.size))) ((w.alloc (.chan 0 #[] false 0 0 false)).at d), #[]) := by
      unfold execOp
      rw [h4]
      show Sem.runT Try.prog (do let v ← Instr.makeChan 57 (.int .i64 0); pure (Next.value v)) (w.at d) #[] = _
      exact make_run _
    simp [-Sem.runT_eq, stepG.apply, hv', GStep.after, seen, Frame.finish, h1, h3]
  clear h1 h2 h3 h4
  obtain ⟨o, h1, h2, h3, h4⟩ := of_map (show (C1[1]?).map _ = some (none, some 5, .assign (.tmp 6)) by kernel_rfl)
  refine id_mv (n_move (v := .chan (some w.heap.size)) h1 h2 h3 (.inr h4) (by simp [-Array.getD_eq_getD_getElem?, getD_set, *]) _) ?_
  clear h1 h2 h3 h4
  refine id_mv n_done (id_mv n_seq (id_mv (n_region (l := [0, 1, 2, 3]) (by kernel_rfl)) ?_))
  obtain ⟨o, h1, h2, h3, h4⟩ := of_map (show (C2[0]?).map _ = some (none, some 7, .move (.tmp 0)) by kernel_rfl)
  refine id_mv (n_move (v := (.int .i64 s)) h1 h2 h3 (.inl h4) (by simp [-Array.getD_eq_getD_getElem?, getD_set, *]) _) ?_
  clear h1 h2 h3 h4
  obtain ⟨o, h1, h2, h3, h4⟩ := of_map (show (C2[1]?).map _ = some (none, some 8, .move (.tmp 1)) by kernel_rfl)
  refine id_mv (n_move (v := (.int .i64 (n : Int))) h1 h2 h3 (.inl h4) (by simp [-Array.getD_eq_getD_getElem?, getD_set, *]) _) ?_
  clear h1 h2 h3 h4
  obtain ⟨o, h1, h2, h3, h4⟩ := of_map (show (C2[2]?).map _ = some (none, some 9, .move (.tmp 5)) by kernel_rfl)
  refine id_mv (n_move (v := (.chan (some w.heap.size))) h1 h2 h3 (.inl h4) (by simp [-Array.getD_eq_getD_getElem?, getD_set, *]) _) ?_
  clear h1 h2 h3 h4
  obtain ⟨o, h1, h2, h3, h4⟩ := of_map (show (C2[3]?).map _ = some (none, none, .go { callee := .value (.func 31), args := #[.tmp 7, .tmp 8, .tmp 9], argTypes := #[3, 3, 60] }) by kernel_rfl)
  generalize htm : ((((tm.setIfInBounds 6 (.chan (some w.heap.size))).setIfInBounds 5 (.chan (some w.heap.size))).setIfInBounds 7 (.int .i64 s)).setIfInBounds 8 (.int .i64 (n : Int))).setIfInBounds 9 (.chan (some w.heap.size)) = tn
  have hsn : tn.size = 11 := by rw [← htm]; simp [hsz]
  have u7 : tn.getD 7 undef = .int .i64 s := by rw [← htm]; simp [-Array.getD_eq_getD_getElem?, getD_set, hsz]
  have u8 : tn.getD 8 undef = .int .i64 (n : Int) := by rw [← htm]; simp [-Array.getD_eq_getD_getElem?, getD_set, hsz]
  have u9 : tn.getD 9 undef = .chan (some w.heap.size) := by rw [← htm]; simp [-Array.getD_eq_getD_getElem?, getD_set, hsz]
  have u5 : tn.getD 5 undef = .chan (some w.heap.size) := by rw [← htm]; simp [-Array.getD_eq_getD_getElem?, getD_set, hsz]
  clear htm t0 t1 hsz
  have hbh := behind (Post := Post) (vs := vs) (fr := fr) (tops := tops) w tn hsn u5 h
  have hsd : Sender Try.prog w.heap.size vs (born Try.prog (sendD s n w.heap.size)) := by rw [hvs]; exact born_sender s n _ hn
  refine id_spawn (child := born Try.prog (sendD s n w.heap.size)) rfl (fun d => ?_) hsd hbh
  have hw : Region.wanted o (yielded C2 tn) = true := by unfold Region.wanted; rw [h2]
  rw [step_op (fr := fmN 24 tn [.inRegion C2 [3], .code (.seq (.region 3 C3 false) .ret)]) rfl rfl rfl h1 hw]
  have hv' : ∀ v : World, (execOp (fmN 24 tn [.inRegion C2 [3], .code (.seq (.region 3 C3 false) .ret)]).eval o).runT Try.prog v #[] = (.ok (.spawn (sendD s n w.heap.size)) v, #[]) := by
    intro v
    unfold execOp
    rw [h4]
    have e7 : (fmN 24 tn [.inRegion C2 [3], .code (.seq (.region 3 C3 false) .ret)]).eval (.tmp 7) = .int .i64 s := u7
    have e8 : (fmN 24 tn [.inRegion C2 [3], .code (.seq (.region 3 C3 false) .ret)]).eval (.tmp 8) = .int .i64 (n : Int) := u8
    have e9 : (fmN 24 tn [.inRegion C2 [3], .code (.seq (.region 3 C3 false) .ret)]).eval (.tmp 9) = .chan (some w.heap.size) := u9
    show Sem.runT Try.prog (pure (Next.spawn { target := .fn (.func 31) #[], args := #[] ++ #[Operand.tmp 7, .tmp 8, .tmp 9].map (fmN 24 tn [.inRegion C2 [3], .code (.seq (.region 3 C3 false) .ret)]).eval })) v #[] = _
    have e3 : (#[] ++ #[Operand.tmp 7, .tmp 8, .tmp 9].map (fmN 24 tn [.inRegion C2 [3], .code (.seq (.region 3 C3 false) .ret)]).eval) = #[.int .i64 s, .int .i64 (n : Int), .chan (some w.heap.size)] := by simp [e7, e8, e9]
    rw [e3]
    rfl
  simp [-Sem.runT_eq, stepG.apply, hv', GStep.after, seen, Frame.finish, h1, h3, born]
theorem callP {f : Array Func} {ok : Op → Bool} {S : List FuncId} {F : FuncId → List Lp} : CallP Try.prog.toTables f Try.prog.funcs ok S F Vc Post := by
  rintro fr tops L k vs gs w₁ sl t q B hL ⟨o, x, y, ts, s, n, h1, h2, h4, hx, hy, hn, hvs⟩ ho hm hsz e h0 hLv hP hkid hshut
  have hw : Region.wanted o (yielded L.o5 fr.tmps) = true := by unfold Region.wanted; rw [h2]
  have main : IdW Try.prog Post (Gr fr tops) w₁ := by
    refine id_mv (fun v => ?_) (ahead (w := w₁) (fr := fr) (tops := tops) hn hvs ⟨hkid, hshut⟩)
    rw [step_op (P := Try.prog) ho.round hm e h1 hw]
    have hv' : (execOp fr.eval o).runT Try.prog v #[] = (.ok (.enter 24 #[.int .i64 s, .int .i64 (n : Int)]) v, #[]) := by
      unfold execOp
      rw [h4]
      show (callFunc 24 (#[] ++ #[x, y].map fr.eval ++ #[])).runT Try.prog v #[] = _
      have e3 : (#[] ++ #[x, y].map fr.eval ++ #[]) = #[.int .i64 s, .int .i64 (n : Int)] := by simp [hx, hy]
      rw [e3]
      exact run_callF Try.func24 (by kernel_rfl) (by kernel_rfl) _ _ _
    have hkd := ho.kind
    simp [-Sem.runT_eq, stepG.apply, hv', GStep.after, seen, hkd, e]
  exact main gs sl t q B w₁.drawn h0 hLv hP
end
end Go.Proofs.Ytfhcpehfmecpjaa
/- The twin: the program with another cells, which lays the cells into a buffer and closes the channel, without a goroutine (written by gen/mksgk.py). -/
namespace Go.Proofs.Ytfhcpehfmecpjaa
open Go.Conc

def K0 : Array Oper := #[{ dst := some 3, op := .binOp .lss 3 (.tmp 1) (.const (.int .i64 33)) 3, type := 3, pos := "", after := #[], guard := none }, { dst := some 4, op := .binOp .lss 3 (.const (.int .i64 (-1))) (.tmp 1) 3, type := 3, pos := "", after := #[], guard := none }, { dst := some 5, op := .binOp .lss 3 (.tmp 0) (.const (.int .i64 4)) 3, type := 3, pos := "", after := #[], guard := none }, { dst := some 6, op := .binOp .lss 3 (.const (.int .i64 0)) (.tmp 0) 3, type := 3, pos := "", after := #[], guard := none }]
def K1 : Array Oper := #[{ dst := some 2, op := .makeChan 57 (.const (.int .i64 32)), type := 3, pos := "", after := #[], guard := none }, { dst := some 7, op := .assign (.const (.int .i64 0)), type := 3, pos := "", after := #[], guard := none }, { dst := some 9, op := .binOp .add 3 (.tmp 0) (.const (.int .i64 1)) 3, type := 3, pos := "", after := #[], guard := none }, { dst := some 10, op := .binOp .mul 3 (.tmp 9) (.const (.int .i64 8)) 3, type := 3, pos := "", after := #[], guard := none }]
def K2 : Array Oper := #[{ dst := some 8, op := .binOp .lss 3 (.tmp 7) (.tmp 1) 3, type := 3, pos := "", after := #[], guard := none }]
def K3 : Array Oper := #[{ dst := none, op := .call { callee := .builtin .close, args := #[.tmp 2], argTypes := #[57] }, type := 3, pos := "", after := #[], guard := none }]
def K4 : Array Oper := #[{ dst := some 11, op := .binOp .rem 3 (.tmp 7) (.tmp 10) 3, type := 3, pos := "", after := #[], guard := none }, { dst := some 12, op := .binOp .quo 3 (.tmp 11) (.const (.int .i64 4)) 3, type := 3, pos := "", after := #[], guard := none }, { dst := some 13, op := .binOp .rem 3 (.tmp 12) (.tmp 9) 3, type := 3, pos := "", after := #[], guard := none }, { dst := some 14, op := .binOp .quo 3 (.tmp 12) (.tmp 9) 3, type := 3, pos := "", after := #[], guard := none }, { dst := some 15, op := .binOp .mul 3 (.tmp 14) (.const (.int .i64 4)) 3, type := 3, pos := "", after := #[], guard := none }, { dst := some 16, op := .binOp .rem 3 (.tmp 11) (.const (.int .i64 4)) 3, type := 3, pos := "", after := #[], guard := none }, { dst := some 17, op := .binOp .add 3 (.tmp 15) (.tmp 16) 3, type := 3, pos := "", after := #[], guard := none }, { dst := some 18, op := .binOp .add 3 (.tmp 7) (.const (.int .i64 4)) 3, type := 3, pos := "", after := #[], guard := none }, { dst := some 19, op := .call { callee := .builtin .min, args := #[.tmp 18, .tmp 1], argTypes := #[3, 3] }, type := 3, pos := "", after := #[], guard := none }, { dst := some 20, op := .build 48 #[(0, .tmp 7), (1, .tmp 19), (2, .tmp 13), (3, .tmp 17)], type := 48, pos := "", after := #[], guard := none }, { dst := none, op := .send (.tmp 2) (.tmp 20), type := 3, pos := "", after := #[], guard := none }, { dst := some 7, op := .assign (.tmp 18), type := 3, pos := "", after := #[], guard := none }]
def KB : Array Oper := #[{ dst := some 2, op := .extract (.const (.int .i64 0)) 0, type := 3, pos := "", after := #[], guard := none }]
def KLc : Code := .seq (.seq (.region 2 K2 false) (.cond (.tmp 8) .skip (.exit 0))) (.region 4 K4 false)
def KBad : Code := .region 9 KB false
def KBody : Code := .seq (.region 0 K0 false) (.seq (.cond (.tmp 3) (.cond (.tmp 4) (.cond (.tmp 5) (.cond (.tmp 6) .skip KBad) KBad) KBad) KBad) (.seq (.region 1 K1 false) (.seq (.block 0 (.loop KLc)) (.seq (.region 3 K3 false) .ret))))
def cellsT : Func := { name := "cells", origin := "", params := #[3, 3], resultTypes := #[57], nfree := 0, ntmps := 21, results := #[.tmp 2], body := some KBody, norace := false, file := "", endLine := 0, tmpNames := #[] }
noncomputable def twF : Array Func := Try.prog.funcs.setIfInBounds 24 cellsT
noncomputable def tw : Program := ⟨Try.prog.toTables, twF⟩
/-- The lone machine comes from here to a place like this, whoever called, asking nothing. -/
def Rn (P : Program) (Q : Frame → World → Prop) (fr : Frame) (w : World) : Prop := ∃ fr' w', Q fr' w' ∧ ∀ (cs : List Frame) (τ : Nat → Question → Nat), ∃ m, runN P m (lone fr cs (Rt w τ)) = .next (lone fr' cs (Rt w' τ))
section
variable {P : Program} {Q : Frame → World → Prop} {fn : FuncId} {tmps : Array Value} {k : List Item} {w w' w'' : World} {fr fr' : Frame}
theorem rn_here (h : Q fr w) : Rn P Q fr w := ⟨fr, w, h, fun _ _ => ⟨0, rfl⟩⟩
theorem rn_step {fr1 : Frame} {w1 : World} (h : ∀ (cs : List Frame) (τ : Nat → Question → Nat), step P (lone fr cs (Rt w τ)) = .next (lone fr1 cs (Rt w1 τ))) (hn : Rn P Q fr1 w1) : Rn P Q fr w := by
  obtain ⟨fr', w', hq, hr⟩ := hn
  refine ⟨fr', w', hq, fun cs τ => ?_⟩
  obtain ⟨m, e⟩ := hr cs τ
  exact ⟨m + 1, by simp only [runN, h]; exact e⟩
theorem rn_mv {fr1 : Frame} (h : ∀ cs, Mv P (Gr fr cs) (Gr fr1 cs)) (hn : Rn P Q fr1 w) : Rn P Q fr w := rn_step (fun cs τ => lone_step (h cs _)) hn
theorem ev_tmpN {t : Nat} {v : Value} (h : tmps.getD t undef = v) : (fmN fn tmps []).eval (.tmp t) = v := h
theorem n_block {id : Nat} {a : Code} {cs : List Frame} : Mv P (Gr (fmN fn tmps (.code (.block id a) :: k)) cs) (Gr (fmN fn tmps (.code a :: .inBlock id :: k)) cs) := fun _ => rfl
theorem n_loop {a : Code} {cs : List Frame} : Mv P (Gr (fmN fn tmps (.code (.loop a) :: k)) cs) (Gr (fmN fn tmps (.code a :: .inLoop a :: k)) cs) := fun _ => rfl
theorem n_inLoop {a : Code} {cs : List Frame} : Mv P (Gr (fmN fn tmps (.inLoop a :: k)) cs) (Gr (fmN fn tmps (.code a :: .inLoop a :: k)) cs) := fun _ => rfl
theorem n_skip {cs : List Frame} : Mv P (Gr (fmN fn tmps (.code .skip :: k)) cs) (Gr (fmN fn tmps k) cs) := fun _ => rfl
theorem n_cond {x : Operand} {a b : Code} {v : Bool} {cs : List Frame} (hv : (fmN fn tmps []).eval x = .bool v) : Mv P (Gr (fmN fn tmps (.code (.cond x a b) :: k)) cs) (Gr (fmN fn tmps (.code (if v then a else b) :: k)) cs) := fun w => by
  have hv' : ∀ t, (fmN fn tmps t).eval x = .bool v := fun t => hv
  simp [stepG, stepG.exec, hv']
theorem n_exit {id : Nat} {k' : List Item} {cs : List Frame} (he : exitTo id k = some k') : Mv P (Gr (fmN fn tmps (.code (.exit id) :: k)) cs) (Gr (fmN fn tmps k') cs) := fun w => by
  simp [stepG, stepG.exec, he]
theorem rn_op {ops : Array Oper} {i d : Nat} {r : List Nat} {o : Oper} {v : Value} (ho : ops[i]? = some o) (hg : o.guard = none) (hd : o.dst = some d) (hv : ∀ w es, (execOp (fmN fn tmps []).eval o).runT P w es = (.ok (.value v) w, es)) (h : Rn P Q (fmN fn (tmps.setIfInBounds d v) (.inRegion ops r :: k)) w) : Rn P Q (fmN fn tmps (.inRegion ops (i :: r) :: k)) w := rn_mv (n_op ho hg hd hv) h
theorem run_bin {op : BinOp} {x y : Operand} {a b : Int} {v : Value} {o : Oper} (hop : o.op = .binOp op 3 x y 3) (hx : (fmN fn tmps []).eval x = .int .i64 a) (hy : (fmN fn tmps []).eval y = .int .i64 b)
    (hv : (op = .add ∧ v = .int .i64 (IntKind.i64.wrap (a + b))) ∨ (op = .mul ∧ v = .int .i64 (IntKind.i64.wrap (a * b))) ∨ (op = .lss ∧ v = .bool (a < b)) ∨ (op = .quo ∧ b ≠ 0 ∧ v = .int .i64 (IntKind.i64.wrap (a.tdiv b))) ∨ (op = .rem ∧ b ≠ 0 ∧ v = .int .i64 (a.tmod b))) (w : World) (es : Array Event) : (execOp (fmN fn tmps []).eval o).runT P w es = (.ok (.value v) w, es) := by
  unfold execOp
  rw [hop]
  dsimp only
  rw [hx, hy]
  rcases hv with ⟨rfl, rfl⟩ | ⟨rfl, rfl⟩ | ⟨rfl, rfl⟩ | ⟨rfl, hb, rfl⟩ | ⟨rfl, hb, rfl⟩
  · rfl
  · rfl
  · rfl
  · show Sem.runT P (do let v ← Op.intDiv .quo .i64 a b; pure (Next.value v)) w es = _
    unfold Op.intDiv
    rw [if_neg hb]
    rfl
  · show Sem.runT P (do let v ← Op.intDiv .rem .i64 a b; pure (Next.value v)) w es = _
    unfold Op.intDiv
    rw [if_neg hb]
    rfl
theorem wrapN (a : Nat) (h : a ≤ 1000000) : IntKind.i64.wrap (a : Int) = (a : Int) := IntWalk.i64_in _ ⟨by omega, by omega⟩
theorem rn_lss {ops : Array Oper} {i d : Nat} {r : List Nat} {o : Oper} {x y : Operand} {a b : Int} (ho : ops[i]? = some o) (hg : o.guard = none) (hd : o.dst = some d) (hop : o.op = .binOp .lss 3 x y 3) (hx : (fmN fn tmps []).eval x = .int .i64 a) (hy : (fmN fn tmps []).eval y = .int .i64 b) (h : Rn P Q (fmN fn (tmps.setIfInBounds d (.bool (a < b))) (.inRegion ops r :: k)) w) : Rn P Q (fmN fn tmps (.inRegion ops (i :: r) :: k)) w :=
  rn_op ho hg hd (run_bin hop hx hy (.inr (.inr (.inl ⟨rfl, rfl⟩)))) h
theorem rn_add {ops : Array Oper} {i d : Nat} {r : List Nat} {o : Oper} {x y : Operand} {a b : Nat} (ho : ops[i]? = some o) (hg : o.guard = none) (hd : o.dst = some d) (hop : o.op = .binOp .add 3 x y 3) (hx : (fmN fn tmps []).eval x = .int .i64 (a : Int)) (hy : (fmN fn tmps []).eval y = .int .i64 (b : Int)) (hs : a + b ≤ 1000000) (h : Rn P Q (fmN fn (tmps.setIfInBounds d (.int .i64 ((a + b : Nat) : Int))) (.inRegion ops r :: k)) w) : Rn P Q (fmN fn tmps (.inRegion ops (i :: r) :: k)) w := by
  refine rn_op ho hg hd (run_bin hop hx hy (.inl ⟨rfl, rfl⟩)) ?_
  rw [show ((a : Int) + (b : Int)) = ((a + b : Nat) : Int) by omega, wrapN _ hs]
  exact h
theorem rn_mul {ops : Array Oper} {i d : Nat} {r : List Nat} {o : Oper} {x y : Operand} {a b : Nat} (ho : ops[i]? = some o) (hg : o.guard = none) (hd : o.dst = some d) (hop : o.op = .binOp .mul 3 x y 3) (hx : (fmN fn tmps []).eval x = .int .i64 (a : Int)) (hy : (fmN fn tmps []).eval y = .int .i64 (b : Int)) (hs : a * b ≤ 1000000) (h : Rn P Q (fmN fn (tmps.setIfInBounds d (.int .i64 ((a * b : Nat) : Int))) (.inRegion ops r :: k)) w) : Rn P Q (fmN fn tmps (.inRegion ops (i :: r) :: k)) w := by
  refine rn_op ho hg hd (run_bin hop hx hy (.inr (.inl ⟨rfl, rfl⟩))) ?_
  rw [show ((a : Int) * (b : Int)) = ((a * b : Nat) : Int) by simp, wrapN _ hs]
  exact h
theorem rn_quo {ops : Array Oper} {i d : Nat} {r : List Nat} {o : Oper} {x y : Operand} {a b : Nat} (ho : ops[i]? = some o) (hg : o.guard = none) (hd : o.dst = some d) (hop : o.op = .binOp .quo 3 x y 3) (hx : (fmN fn tmps []).eval x = .int .i64 (a : Int)) (hy : (fmN fn tmps []).eval y = .int .i64 (b : Int)) (hs : 0 < b ∧ a ≤ 1000000) (h : Rn P Q (fmN fn (tmps.setIfInBounds d (.int .i64 ((a / b : Nat) : Int))) (.inRegion ops r :: k)) w) : Rn P Q (fmN fn tmps (.inRegion ops (i :: r) :: k)) w := by
  refine rn_op ho hg hd (run_bin hop hx hy (.inr (.inr (.inr (.inl ⟨rfl, by omega, rfl⟩))))) ?_
  rw [show ((a : Int).tdiv (b : Int)) = ((a / b : Nat) : Int) by simp, wrapN _ (Nat.le_trans (Nat.div_le_self _ _) hs.2)]
  exact h
theorem rn_rem {ops : Array Oper} {i d : Nat} {r : List Nat} {o : Oper} {x y : Operand} {a b : Nat} (ho : ops[i]? = some o) (hg : o.guard = none) (hd : o.dst = some d) (hop : o.op = .binOp .rem 3 x y 3) (hx : (fmN fn tmps []).eval x = .int .i64 (a : Int)) (hy : (fmN fn tmps []).eval y = .int .i64 (b : Int)) (hs : 0 < b) (h : Rn P Q (fmN fn (tmps.setIfInBounds d (.int .i64 ((a % b : Nat) : Int))) (.inRegion ops r :: k)) w) : Rn P Q (fmN fn tmps (.inRegion ops (i :: r) :: k)) w := by
  refine rn_op ho hg hd (run_bin hop hx hy (.inr (.inr (.inr (.inr ⟨rfl, by omega, rfl⟩))))) ?_
  rw [show ((a : Int).tmod (b : Int)) = ((a % b : Nat) : Int) from rfl]
  exact h
theorem rn_min {ops : Array Oper} {i d : Nat} {r : List Nat} {o : Oper} {x y : Operand} {ts : Array TypeId} {a b : Nat} (ho : ops[i]? = some o) (hg : o.guard = none) (hd : o.dst = some d) (hop : o.op = .call { callee := .builtin .min, args := #[x, y], argTypes := ts }) (hx : (fmN fn tmps []).eval x = .int .i64 (a : Int)) (hy : (fmN fn tmps []).eval y = .int .i64 (b : Int))
    (h : Rn P Q (fmN fn (tmps.setIfInBounds d (.int .i64 ((min a b : Nat) : Int))) (.inRegion ops r :: k)) w) : Rn P Q (fmN fn tmps (.inRegion ops (i :: r) :: k)) w := by
  refine rn_op ho hg hd (fun w es => ?_) h
  unfold execOp
  rw [hop]
  show Sem.runT P (do let v ← Builtin.min_ ts o.type (#[x, y].map (fmN fn tmps []).eval); pure (Next.value v)) w es = _
  have e : (#[x, y].map (fmN fn tmps []).eval) = #[.int .i64 (a : Int), .int .i64 (b : Int)] := by simp [hx, hy]
  rw [e]
  show (Result.ok (Next.value (.int .i64 (if (b : Int) < (a : Int) then (b : Int) else (a : Int)))) w, es) = _
  rw [show (if (b : Int) < (a : Int) then (b : Int) else (a : Int)) = ((min a b : Nat) : Int) by split <;> omega]
theorem rn_send {ops : Array Oper} {i c cap s r0 : Nat} {r : List Nat} {o : Oper} {x y : Operand} {v : Value} {buf : Array Value} (ho : ops[i]? = some o) (hg : o.guard = none) (hd : o.dst = none) (hop : o.op = .send x y) (hx : (fmN fn tmps []).eval x = .chan (some c)) (hy : (fmN fn tmps []).eval y = v) (hc : w.heap[c]? = some (.chan cap buf false s r0 false)) (hroom : buf.size < cap)
    (h : Rn P Q (fmN fn tmps (.inRegion ops r :: k)) (w.setChan c cap (buf.push v) false (s + 1) r0 false)) : Rn P Q (fmN fn tmps (.inRegion ops (i :: r) :: k)) w := by
  have hw : Region.wanted o (yielded ops tmps) = true := by unfold Region.wanted; rw [hg]
  refine rn_step (fun cs τ => ?_) h
  have hst : stepG P true (G (fmN fn tmps (.inRegion ops (i :: r) :: k)) cs) (Rt w τ) = .comm (G (fmN fn tmps (.inRegion ops (i :: r) :: k)) cs) #[scase c v (.tuple #[])] true .send (Rt w τ) #[] := by
    show stepG P true (Gr (fmN fn tmps (.inRegion ops (i :: r) :: k)) cs) (Rt w τ) = _
    rw [step_op (fr := fmN fn tmps (.inRegion ops (i :: r) :: k)) rfl rfl rfl ho hw]
    have hv' : (execOp (fmN fn tmps (.inRegion ops (i :: r) :: k)).eval o).runT P (Rt w τ) #[] = (.ok (.comm #[scase c v (.tuple #[])] true .send) (Rt w τ), #[]) := by
      unfold execOp
      rw [hop]
      show (_, _) = _
      have e1 : (fmN fn tmps (.inRegion ops (i :: r) :: k)).eval x = .chan (some c) := hx
      have e2 : (fmN fn tmps (.inRegion ops (i :: r) :: k)).eval y = v := hy
      rw [e1, e2]
      rfl
    simp [-Sem.runT_eq, stepG.apply, hv', GStep.after, seen, G]
  have := step_lone_send_room hst (show (Rt w τ).heap[c]? = _ from hc) hroom
  rw [lone_eq_solo, this, lone_eq_solo]
  simp [Frame.finish, ho, hd]
  rfl
theorem rn_close {ops : Array Oper} {i d c cap s r0 : Nat} {o : Oper} {ts : Array TypeId} {buf : Array Value} (ho : ops[i]? = some o) (hg : o.guard = none) (hd : o.dst = none) (hop : o.op = .call { callee := .builtin .close, args := #[.tmp d], argTypes := ts }) (hx : tmps.getD d undef = .chan (some c)) (hc : w.heap[c]? = some (.chan cap buf false s r0 false))
    (h : Rn P Q (fmN fn tmps (.inRegion ops [] :: k)) (w.setChan c cap buf true s r0 false)) : Rn P Q (fmN fn tmps (.inRegion ops [i] :: k)) w := by
  have hw : Region.wanted o (yielded ops tmps) = true := by unfold Region.wanted; rw [hg]
  refine rn_step (fun cs τ => ?_) h
  have hv' : (execOp (fmN fn tmps (.inRegion ops [i] :: k)).eval o).runT P (Rt w τ) #[] = (.ok (.value (.tuple #[])) ((Rt w τ).setChan c cap buf true s r0 false), closeEvents c) := by
    unfold execOp
    rw [hop]
    have e1 : (fmN fn tmps (.inRegion ops [i] :: k)).eval (.tmp d) = .chan (some c) := hx
    show Sem.runT P (do let v ← Builtin.close_ ts o.type (#[Operand.tmp d].map (fmN fn tmps (.inRegion ops [i] :: k)).eval); pure (Next.value v)) (Rt w τ) #[] = _
    have e3 : (#[Operand.tmp d].map (fmN fn tmps (.inRegion ops [i] :: k)).eval) = #[.chan (some c)] := by simp [e1]
    rw [e3]
    have e4 : Builtin.close_ ts o.type #[.chan (some c)] = (do
        let .chan room buf closed sent received timer ← getObj c | stuck "close: no channel in this block"
        if closed then runtimePanic (.plain "close of closed channel")
        setObj c (.chan room buf true sent received timer)
        pure (.tuple #[])) := rfl
    rw [e4]
    have hc' : (Rt w τ).heap[c]? = some (.chan cap buf false s r0 false) := hc
    simp [-Sem.runT_eq, getObj, setObj, bind, Sem.bind, pure, Sem.runT, hc', closeEvents, World.setChan, Obj.isChan]
  refine lone_step (es := seen P fn (closeEvents c)) ?_
  rw [step_op (fr := fmN fn tmps (.inRegion ops [i] :: k)) rfl rfl rfl ho hw]
  simp [-Sem.runT_eq, stepG.apply, hv', GStep.after, Frame.finish, ho, hd]
  rfl
theorem alloc_set {o : Obj} {cap s r : Nat} {buf : Array Value} {cl tm : Bool} : (w.alloc o).setChan w.heap.size cap buf cl s r tm = w.alloc (.chan cap buf cl s r tm) := by
  unfold World.setChan
  show { w with heap := (w.heap.push o).setIfInBounds w.heap.size _ } = { w with heap := w.heap.push _ }
  congr 1
  apply Array.ext'
  simp [Array.setIfInBounds, Array.toList_push]
theorem alloc_get {o : Obj} : (w.alloc o).heap[w.heap.size]? = some o := by
  show (w.heap.push o)[w.heap.size]? = _
  simp
end
end Go.Proofs.Ytfhcpehfmecpjaa
/- The twin's cells, walked (written by gen/mksgl.py). -/
namespace Go.Proofs.Ytfhcpehfmecpjaa
open Go.Conc

theorem sim_same {w w₁ : World} (h : Sim none w w₁) (ht : w₁.tape = w.tape) (hd : w₁.drawn = w.drawn) : w₁ = w := by
  have a1 := h.heap
  have a2 := h.os
  have a3 := h.output
  obtain ⟨hp, tp, dr, os, out⟩ := w₁
  simp only at a1 a2 a3 ht hd
  subst a1 a2 a3 ht hd
  rfl
theorem run_cellT (a b u t : Int) (w : World) (es : Array Event) : Sem.runT tw (do let v ← Instr.build 48 #[(0, .int .i64 a), (1, .int .i64 b), (2, .int .i64 u), (3, .int .i64 t)]; pure (Next.value v)) w es = (.ok (.value (cellV a b u t)) w, es) := by
  have h := tame_run (y := none) (T := Try.prog.toTables) (f := Try.prog.funcs) (g := twF) _ w w es (okv (S := []) (t_build 48 #[(0, .int .i64 a), (1, .int .i64 b), (2, .int .i64 u), (3, .int .i64 t)])) (Sim.refl w)
  have e0 := run_cell a b u t w es
  rcases h with ⟨x, w', k, es', e, _, t1, d1, _, _, q⟩ | ⟨x, w', k, es', e, _⟩
  · rw [show (⟨Try.prog.toTables, Try.prog.funcs⟩ : Program) = Try.prog from rfl, e0] at e
    cases e
    have hk : k = 0 := by omega
    subst hk
    obtain ⟨w₁', e', s', t', d', _⟩ := q (fun i hi => by omega)
    have := sim_same s' t' (by rw [d']; rfl)
    subst this
    exact e'
  · rw [show (⟨Try.prog.toTables, Try.prog.funcs⟩ : Program) = Try.prog from rfl, e0] at e
    cases e
section
variable {Q : Frame → World → Prop} {fn : FuncId} {tmps : Array Value} {k : List Item} {w : World}
theorem rn_cell {ops : Array Oper} {i d : Nat} {r : List Nat} {o : Oper} {a b u t : Int} (ho : ops[i]? = some o) (hg : o.guard = none) (hd : o.dst = some d) (hop : o.op = .build 48 #[(0, .tmp 7), (1, .tmp 19), (2, .tmp 13), (3, .tmp 17)]) (h1 : tmps.getD 7 undef = .int .i64 a) (h2 : tmps.getD 19 undef = .int .i64 b) (h3 : tmps.getD 13 undef = .int .i64 u) (h4 : tmps.getD 17 undef = .int .i64 t)
    (h : Rn tw Q (fmN fn (tmps.setIfInBounds d (cellV a b u t)) (.inRegion ops r :: k)) w) : Rn tw Q (fmN fn tmps (.inRegion ops (i :: r) :: k)) w := by
  refine rn_op ho hg hd (fun w es => ?_) h
  unfold execOp
  rw [hop]
  dsimp only
  have e : (#[((0 : Nat), Operand.tmp 7), (1, .tmp 19), (2, .tmp 13), (3, .tmp 17)].map fun (x : Nat × Operand) => (x.1, (fmN fn tmps []).eval x.2)) = #[(0, .int .i64 a), (1, .int .i64 b), (2, .int .i64 u), (3, .int .i64 t)] := by
    simp [ev_tmpN h1, ev_tmpN h2, ev_tmpN h3, ev_tmpN h4]
  rw [e]
  exact run_cellT a b u t w es
theorem placeX_is {s : Int} {i : Nat} (hs : schOk s = true) (hi : i ≤ 100) : (placeX s (i : Nat)).2.1 = i % (schK s * 8) / 4 % schK s ∧ (placeX s (i : Nat)).2.2 = i % (schK s * 8) / 4 / schK s * 4 + i % (schK s * 8) % 4 := by
  unfold placeX
  rw [if_pos ⟨hs, by omega, by omega⟩]
  exact ⟨rfl, rfl⟩
/-- Where it comes to: at its return, the channel closed. -/
def Tend (w : World) (vs : List Value) (fr' : Frame) (w' : World) : Prop := fr'.fn = 24 ∧ fr'.mode = .returning ∧ fr'.defers = [] ∧ fr'.kind = .normal ∧ fr'.tmps.getD 2 undef = .chan (some w.heap.size) ∧ ∃ m, w' = w.alloc (.chan 32 vs.toArray true m 0 false)
theorem twin_end (w : World) (vs : List Value) (m : Nat) (tmps : Array Value) (t2 : tmps.getD 2 undef = .chan (some w.heap.size)) : Rn tw (Tend w vs) (fmN 24 tmps [.code (.seq (.region 3 K3 false) .ret)]) (w.alloc (.chan 32 vs.toArray false m 0 false)) := by
  refine rn_mv (fun _ => n_seq) (rn_mv (fun _ => n_region (l := [0]) rfl) ?_)
  refine rn_close (o := { dst := none, op := .call { callee := .builtin .close, args := #[.tmp 2], argTypes := #[57] }, type := 3, pos := "", after := #[], guard := none }) rfl rfl rfl rfl t2 alloc_get ?_
  rw [alloc_set]
  refine rn_mv (fun _ => n_done) (rn_mv (fun _ => n_ret) (rn_here ?_))
  exact ⟨rfl, rfl, rfl, rfl, t2, m, rfl⟩
theorem twin_loop (s : Int) (n : Nat) (hn : n ≤ 32) (hs : schOk s = true) (w : World) : ∀ (fuel i m : Nat) (pre : List Value) (tmps : Array Value), n ≤ i + 4 * fuel → pre.length * 4 = i → i ≤ 36 → tmps.size = 21 → tmps.getD 1 undef = .int .i64 (n : Int) → tmps.getD 2 undef = .chan (some w.heap.size) → tmps.getD 7 undef = .int .i64 ((i : Nat) : Int) → tmps.getD 9 undef = .int .i64 ((schK s : Nat) : Int) → tmps.getD 10 undef = .int .i64 ((schK s * 8 : Nat) : Int) →
    Rn tw (Tend w (pre ++ cellsF s n fuel i)) (fmN 24 tmps [.code KLc, .inLoop KLc, .inBlock 0, .code (.seq (.region 3 K3 false) .ret)]) (w.alloc (.chan 32 pre.toArray false m 0 false)) := by
  have hk : 2 ≤ schK s ∧ schK s ≤ 4 := by
    rcases sch_cases hs with rfl | rfl | rfl <;> simp [schK]
  intro fuel
  induction fuel with
  | zero =>
    intro i m pre tmps hf hp hi hsz t1 t2 t7 t9 t10
    have hlt : ¬ ((i : Nat) : Int) < ((n : Nat) : Int) := by omega
    rw [show pre ++ cellsF s n 0 i = pre by simp [cellsF]]
    unfold KLc
    refine rn_mv (fun _ => n_seq) (rn_mv (fun _ => n_seq) (rn_mv (fun _ => n_region (l := [0]) rfl) ?_))
    refine rn_lss (o := { dst := some 8, op := .binOp .lss 3 (.tmp 7) (.tmp 1) 3, type := 3, pos := "", after := #[], guard := none }) rfl rfl rfl rfl (ev_tmpN t7) (ev_tmpN t1) ?_
    refine rn_mv (fun _ => n_done) (rn_mv (fun _ => n_cond (v := false) (ev_tmpN (by simp [-Array.getD_eq_getD_getElem?, getD_set, *]))) ?_)
    refine rn_mv (fun _ => n_exit (k' := [.code (.seq (.region 3 K3 false) .ret)]) rfl) ?_
    exact twin_end w pre m _ (by simp [-Array.getD_eq_getD_getElem?, getD_set, *])
  | succ fuel ih =>
    intro i m pre tmps hf hp hi hsz t1 t2 t7 t9 t10
    by_cases hlt : i < n
    · have hlt' : ((i : Nat) : Int) < ((n : Nat) : Int) := by omega
      obtain ⟨px1, px2⟩ := placeX_is hs (show i ≤ 100 by omega)
      rw [show pre ++ cellsF s n (fuel + 1) i = (pre ++ [cellV (i : Nat) (min (i + 4) n : Nat) ((placeX s (i : Nat)).2.1 : Nat) ((placeX s (i : Nat)).2.2 : Nat)]) ++ cellsF s n fuel (i + 4) by rw [cellsF, if_pos hlt]; simp, px1, px2]
      have ih' := fun tmps => ih (i + 4) (m + 1) (pre ++ [cellV (i : Nat) (min (i + 4) n : Nat) ((i % (schK s * 8) / 4 % schK s : Nat) : Int) ((i % (schK s * 8) / 4 / schK s * 4 + i % (schK s * 8) % 4 : Nat) : Int)]) tmps (by omega) (by simp; omega) (by omega)
      clear ih px1 px2
      have hroom : pre.length < 32 := by omega
      generalize schK s = k at *
      have hb : i % (k * 8) < 32 := Nat.lt_of_lt_of_le (Nat.mod_lt _ (by omega)) (by omega)
      have hq : i % (k * 8) / 4 / k * 4 ≤ 1000 := Nat.le_trans (Nat.mul_le_mul_right _ (Nat.le_trans (Nat.div_le_self _ _) (Nat.div_le_self _ _))) (by omega)
      have hr4 : i % (k * 8) % 4 < 4 := Nat.mod_lt _ (by omega)
      have hk8 : 0 < k * 8 := by omega
      unfold KLc
      refine rn_mv (fun _ => n_seq) (rn_mv (fun _ => n_seq) (rn_mv (fun _ => n_region (l := [0]) rfl) ?_))
      refine rn_lss (o := { dst := some 8, op := .binOp .lss 3 (.tmp 7) (.tmp 1) 3, type := 3, pos := "", after := #[], guard := none }) rfl rfl rfl rfl (ev_tmpN t7) (ev_tmpN t1) ?_
      refine rn_mv (fun _ => n_done) (rn_mv (fun _ => n_cond (v := true) (ev_tmpN (by simp [-Array.getD_eq_getD_getElem?, getD_set, *]))) ?_)
      refine rn_mv (fun _ => n_skip) (rn_mv (fun _ => n_region (l := [0, 1, 2, 3, 4, 5, 6, 7, 8, 9, 10, 11]) rfl) ?_)
      refine rn_rem (a := i) (b := k * 8) (o := { dst := some 11, op := .binOp .rem 3 (.tmp 7) (.tmp 10) 3, type := 3, pos := "", after := #[], guard := none }) rfl rfl rfl rfl (ev_tmpN (by simp [-Array.getD_eq_getD_getElem?, getD_set, *])) (ev_tmpN (by simp [-Array.getD_eq_getD_getElem?, getD_set, *])) (by omega) ?_
      refine rn_quo (a := i % (k * 8)) (b := 4) (o := { dst := some 12, op := .binOp .quo 3 (.tmp 11) (.const (.int .i64 4)) 3, type := 3, pos := "", after := #[], guard := none }) rfl rfl rfl rfl (ev_tmpN (by simp [-Array.getD_eq_getD_getElem?, getD_set, *])) rfl (by omega) ?_
      refine rn_rem (a := i % (k * 8) / 4) (b := k) (o := { dst := some 13, op := .binOp .rem 3 (.tmp 12) (.tmp 9) 3, type := 3, pos := "", after := #[], guard := none }) rfl rfl rfl rfl (ev_tmpN (by simp [-Array.getD_eq_getD_getElem?, getD_set, *])) (ev_tmpN (by simp [-Array.getD_eq_getD_getElem?, getD_set, *])) (by omega) ?_
      refine rn_quo (a := i % (k * 8) / 4) (b := k) (o := { dst := some 14, op := .binOp .quo 3 (.tmp 12) (.tmp 9) 3, type := 3, pos := "", after := #[], guard := none }) rfl rfl rfl rfl (ev_tmpN (by simp [-Array.getD_eq_getD_getElem?, getD_set, *])) (ev_tmpN (by simp [-Array.getD_eq_getD_getElem?, getD_set, *])) (by omega) ?_
      refine rn_mul (a := i % (k * 8) / 4 / k) (b := 4) (o := { dst := some 15, op := .binOp .mul 3 (.tmp 14) (.const (.int .i64 4)) 3, type := 3, pos := "", after := #[], guard := none }) rfl rfl rfl rfl (ev_tmpN (by simp [-Array.getD_eq_getD_getElem?, getD_set, *])) rfl (by omega) ?_
      refine rn_rem (a := i % (k * 8)) (b := 4) (o := { dst := some 16, op := .binOp .rem 3 (.tmp 11) (.const (.int .i64 4)) 3, type := 3, pos := "", after := #[], guard := none }) rfl rfl rfl rfl (ev_tmpN (by simp [-Array.getD_eq_getD_getElem?, getD_set, *])) rfl (by omega) ?_
      refine rn_add (a := i % (k * 8) / 4 / k * 4) (b := i % (k * 8) % 4) (o := { dst := some 17, op := .binOp .add 3 (.tmp 15) (.tmp 16) 3, type := 3, pos := "", after := #[], guard := none }) rfl rfl rfl rfl (ev_tmpN (by simp [-Array.getD_eq_getD_getElem?, getD_set, *])) (ev_tmpN (by simp [-Array.getD_eq_getD_getElem?, getD_set, *])) (by omega) ?_
      refine rn_add (a := i) (b := 4) (o := { dst := some 18, op := .binOp .add 3 (.tmp 7) (.const (.int .i64 4)) 3, type := 3, pos := "", after := #[], guard := none }) rfl rfl rfl rfl (ev_tmpN (by simp [-Array.getD_eq_getD_getElem?, getD_set, *])) rfl (by omega) ?_
      refine rn_min (a := i + 4) (b := n) (o := { dst := some 19, op := .call { callee := .builtin .min, args := #[.tmp 18, .tmp 1], argTypes := #[3, 3] }, type := 3, pos := "", after := #[], guard := none }) rfl rfl rfl rfl (ev_tmpN (by simp [-Array.getD_eq_getD_getElem?, getD_set, *])) (ev_tmpN (by simp [-Array.getD_eq_getD_getElem?, getD_set, *])) ?_
      refine rn_cell (a := ((i : Nat) : Int)) (b := ((min (i + 4) n : Nat) : Int)) (u := ((i % (k * 8) / 4 % k : Nat) : Int)) (t := ((i % (k * 8) / 4 / k * 4 + i % (k * 8) % 4 : Nat) : Int)) (o := { dst := some 20, op := .build 48 #[(0, .tmp 7), (1, .tmp 19), (2, .tmp 13), (3, .tmp 17)], type := 48, pos := "", after := #[], guard := none }) rfl rfl rfl rfl (by simp [-Array.getD_eq_getD_getElem?, getD_set, *]) (by simp [-Array.getD_eq_getD_getElem?, getD_set, *]) (by simp [-Array.getD_eq_getD_getElem?, getD_set, *]) (by simp [-Array.getD_eq_getD_getElem?, getD_set, *]) ?_
      refine rn_send (c := w.heap.size) (v := cellV (i : Nat) (min (i + 4) n : Nat) ((i % (k * 8) / 4 % k : Nat) : Int) ((i % (k * 8) / 4 / k * 4 + i % (k * 8) % 4 : Nat) : Int)) (o := { dst := none, op := .send (.tmp 2) (.tmp 20), type := 3, pos := "", after := #[], guard := none }) rfl rfl rfl rfl (ev_tmpN (by simp [-Array.getD_eq_getD_getElem?, getD_set, *])) (ev_tmpN (by simp [-Array.getD_eq_getD_getElem?, getD_set, *])) alloc_get (by simpa using hroom) ?_
      rw [alloc_set]
      refine rn_mv (n_move (v := .int .i64 ((i + 4 : Nat) : Int)) (o := { dst := some 7, op := .assign (.tmp 18), type := 3, pos := "", after := #[], guard := none }) rfl rfl rfl (.inr rfl) (by simp [-Array.getD_eq_getD_getElem?, getD_set, *])) ?_
      refine rn_mv (fun _ => n_done) (rn_mv (fun _ => n_inLoop) ?_)
      rw [show pre.toArray.push (cellV (i : Nat) (min (i + 4) n : Nat) ((i % (k * 8) / 4 % k : Nat) : Int) ((i % (k * 8) / 4 / k * 4 + i % (k * 8) % 4 : Nat) : Int)) = (pre ++ [cellV (i : Nat) (min (i + 4) n : Nat) ((i % (k * 8) / 4 % k : Nat) : Int) ((i % (k * 8) / 4 / k * 4 + i % (k * 8) % 4 : Nat) : Int)]).toArray by simp]
      refine ih' _ (by simp [*]) ?_ ?_ ?_ ?_ ?_
      all_goals simp [-Array.getD_eq_getD_getElem?, getD_set, *]
    · have hlt' : ¬ ((i : Nat) : Int) < ((n : Nat) : Int) := by omega
      rw [show pre ++ cellsF s n (fuel + 1) i = pre by rw [cellsF, if_neg hlt]; simp]
      unfold KLc
      refine rn_mv (fun _ => n_seq) (rn_mv (fun _ => n_seq) (rn_mv (fun _ => n_region (l := [0]) rfl) ?_))
      refine rn_lss (o := { dst := some 8, op := .binOp .lss 3 (.tmp 7) (.tmp 1) 3, type := 3, pos := "", after := #[], guard := none }) rfl rfl rfl rfl (ev_tmpN t7) (ev_tmpN t1) ?_
      refine rn_mv (fun _ => n_done) (rn_mv (fun _ => n_cond (v := false) (ev_tmpN (by simp [-Array.getD_eq_getD_getElem?, getD_set, *]))) ?_)
      refine rn_mv (fun _ => n_exit (k' := [.code (.seq (.region 3 K3 false) .ret)]) rfl) ?_
      exact twin_end w pre m _ (by simp [-Array.getD_eq_getD_getElem?, getD_set, *])
end
end Go.Proofs.Ytfhcpehfmecpjaa
/- The twin's cells at every argument; the leaps of its call (written by gen/mksgm.py). -/
namespace Go.Proofs.Ytfhcpehfmecpjaa
open Go.Conc

theorem tw24 : tw.funcs[24]? = some cellsT := by
  show (Try.prog.funcs.setIfInBounds 24 cellsT)[24]? = _
  rw [Array.getElem?_setIfInBounds_self_of_lt]
  have := (Array.getElem?_eq_some_iff.1 Try.func24).1
  exact this
theorem enterT (x y : Value) : Frame.enter tw 24 #[x, y] .normal = fmN 24 (#[x, y] ++ Array.replicate 19 undef) [.code KBody] := by
  have h := tw24
  simp [Frame.enter, h, cellsT]
/-- Where the machine gets stuck. -/
def Stk (w : World) (fr' : Frame) (w' : World) : Prop := w' = w ∧ ∀ cs v, ∃ o w' es, stepG tw true (Gr fr' cs) v = .ended o w' es
section
variable {fn : FuncId} {tmps : Array Value} {k : List Item} {w : World} {Q : Frame → World → Prop}
theorem stuck_op {ops : Array Oper} {i : Nat} {r : List Nat} {o : Oper} {h : Halt} (ho : ops[i]? = some o) (hg : o.guard = none) (hh : (∃ s, h = .stuck s) ∨ h = .unsupported .addressObserved) (hv : ∀ v : World, (execOp (fmN fn tmps []).eval o).runT tw v #[] = (.halt h v, #[])) : Stk w (fmN fn tmps (.inRegion ops (i :: r) :: k)) w := by
  refine ⟨rfl, fun cs v => ?_⟩
  have hw : Region.wanted o (yielded ops tmps) = true := by unfold Region.wanted; rw [hg]
  rw [step_op (fr := fmN fn tmps (.inRegion ops (i :: r) :: k)) rfl rfl rfl ho hw]
  have hv' : (execOp (fmN fn tmps (.inRegion ops (i :: r) :: k)).eval o).runT tw v #[] = (.halt h v, #[]) := hv v
  rcases hh with ⟨s, rfl⟩ | rfl
  · exact ⟨_, _, _, by simp [-Sem.runT_eq, stepG.apply, hv', GStep.after]; exact ⟨rfl, rfl, rfl⟩⟩
  · exact ⟨_, _, _, by simp [-Sem.runT_eq, stepG.apply, hv', GStep.after]; exact ⟨rfl, rfl, rfl⟩⟩
theorem bad_end (w : World) : Rn tw (Stk w) (fmN fn tmps (.code KBad :: k)) w := by
  unfold KBad
  refine rn_mv (fun _ => n_region (l := [0]) rfl) (rn_here ?_)
  exact stuck_op (o := { dst := some 2, op := .extract (.const (.int .i64 0)) 0, type := 3, pos := "", after := #[], guard := none }) (h := .stuck "Extract: tuple expected") rfl rfl (.inl ⟨_, rfl⟩) (fun v => rfl)
theorem lss_bad {ops : Array Oper} {i : Nat} {r : List Nat} {o : Oper} {t : Nat} {b : Int} {x : Value} (ho : ops[i]? = some o) (hg : o.guard = none) (hop : o.op = .binOp .lss 3 (.tmp t) (.const (.int .i64 b)) 3) (hx : tmps.getD t undef = x) (hn : ∀ a, x ≠ .int .i64 a) (w : World) : Rn tw (Stk w) (fmN fn tmps (.inRegion ops (i :: r) :: k)) w := by
  refine rn_here ?_
  have key : ∃ h : Halt, ((∃ s, h = .stuck s) ∨ h = .unsupported .addressObserved) ∧ ∀ v : World, Sem.runT tw (do let v ← (do eqGuard .lss 3 (.tmp t) (.const (.int .i64 b)) x (.int .i64 b); binOp .lss 3 x (.int .i64 b)); pure (Next.value v)) v #[] = (.halt h v, #[]) := by
    cases x with
    | int kd a => cases kd <;> first | exact absurd rfl (hn a) | exact ⟨_, .inl ⟨_, rfl⟩, fun v => rfl⟩
    | pointer p => cases p <;> exact ⟨_, .inr rfl, fun v => rfl⟩
    | _ => exact ⟨_, .inl ⟨_, rfl⟩, fun v => rfl⟩
  obtain ⟨h, hh, hv⟩ := key
  refine stuck_op ho hg hh (fun v => ?_)
  unfold execOp
  rw [hop]
  dsimp only
  rw [ev_tmpN hx]
  exact hv v
theorem info48T : (tw.info? 48).map (fun i => i.bytes) = some 32 := info48
theorem make_runT (v : World) : Sem.runT tw (do let v ← Instr.makeChan 57 (.int .i64 32); pure (Next.value v)) v #[] = (.ok (.value (.chan (some v.heap.size))) (v.alloc (.chan 32 #[] false 0 0 false)), #[]) := by
  obtain ⟨i, hi, hb⟩ := Option.map_eq_some_iff.1 info48T
  have hu : tw.underlying 57 = _ := Try.underlying57
  simp [-Sem.runT_eq, Instr.makeChan, asInt, asIntOf, underlying, typeInfo, newObj, bind, Sem.bind, pure, Sem.runT, program, hu, hi, hb]
theorem twin_good (s : Int) (n : Nat) (hn : n ≤ 32) (hs : schOk s = true) (w : World) : Rn tw (Tend w (cellsF s n 9 0)) (Frame.enter tw 24 #[.int .i64 s, .int .i64 (n : Int)] .normal) w := by
  have hk : 2 ≤ schK s ∧ schK s ≤ 4 ∧ ((schK s - 1 : Nat) : Int) = s := by
    rcases sch_cases hs with rfl | rfl | rfl <;> simp [schK]
  obtain ⟨k1, k2, k3⟩ := hk
  rw [enterT]
  generalize htm : (#[.int .i64 s, .int .i64 (n : Int)] ++ Array.replicate 19 undef : Array Value) = tm
  have hsz : tm.size = 21 := by rw [← htm]; simp
  have t0 : tm.getD 0 undef = .int .i64 s := by rw [← htm]; simp
  have t1 : tm.getD 1 undef = .int .i64 (n : Int) := by rw [← htm]; simp
  clear htm
  have f1 : ((n : Nat) : Int) < 33 := by omega
  have f2 : (-1 : Int) < ((n : Nat) : Int) := by omega
  have f3 : s < 4 := by omega
  have f4 : (0 : Int) < s := by omega
  unfold KBody
  refine rn_mv (fun _ => n_seq) (rn_mv (fun _ => n_region (l := [0, 1, 2, 3]) rfl) ?_)
  refine rn_lss (a := ((n : Nat) : Int)) (b := 33) (o := { dst := some 3, op := .binOp .lss 3 (.tmp 1) (.const (.int .i64 33)) 3, type := 3, pos := "", after := #[], guard := none }) rfl rfl rfl rfl (ev_tmpN t1) rfl ?_
  refine rn_lss (a := -1) (b := ((n : Nat) : Int)) (o := { dst := some 4, op := .binOp .lss 3 (.const (.int .i64 (-1))) (.tmp 1) 3, type := 3, pos := "", after := #[], guard := none }) rfl rfl rfl rfl rfl (ev_tmpN (by simp [-Array.getD_eq_getD_getElem?, getD_set, *])) ?_
  refine rn_lss (a := s) (b := 4) (o := { dst := some 5, op := .binOp .lss 3 (.tmp 0) (.const (.int .i64 4)) 3, type := 3, pos := "", after := #[], guard := none }) rfl rfl rfl rfl (ev_tmpN (by simp [-Array.getD_eq_getD_getElem?, getD_set, *])) rfl ?_
  refine rn_lss (a := 0) (b := s) (o := { dst := some 6, op := .binOp .lss 3 (.const (.int .i64 0)) (.tmp 0) 3, type := 3, pos := "", after := #[], guard := none }) rfl rfl rfl rfl rfl (ev_tmpN (by simp [-Array.getD_eq_getD_getElem?, getD_set, *])) ?_
  refine rn_mv (fun _ => n_done) (rn_mv (fun _ => n_seq) ?_)
  refine rn_mv (fun _ => n_cond (v := true) (ev_tmpN (by simp [-Array.getD_eq_getD_getElem?, getD_set, *]))) (rn_mv (fun _ => n_cond (v := true) (ev_tmpN (by simp [-Array.getD_eq_getD_getElem?, getD_set, *]))) (rn_mv (fun _ => n_cond (v := true) (ev_tmpN (by simp [-Array.getD_eq_getD_getElem?, getD_set, *]))) (rn_mv (fun _ => n_cond (v := true) (ev_tmpN (by simp [-Array.getD_eq_getD_getElem?, getD_set, *]))) (rn_mv (fun _ => n_skip) (rn_mv (fun _ => n_seq) (rn_mv (fun _ => n_region (l := [0, 1, 2, 3]) rfl) ?_))))))
  generalize htm : (((tm.setIfInBounds 3 (.bool (decide (((n : Nat) : Int) < 33)))).setIfInBounds 4 (.bool (decide ((-1 : Int) < ((n : Nat) : Int))))).setIfInBounds 5 (.bool (decide (s < 4)))).setIfInBounds 6 (.bool (decide ((0 : Int) < s))) = tn
  have hs2 : tn.size = 21 := by rw [← htm]; simp [hsz]
  have u0 : tn.getD 0 undef = .int .i64 ((schK s - 1 : Nat) : Int) := by rw [← htm, k3]; simp [-Array.getD_eq_getD_getElem?, getD_set, *]
  have u1 : tn.getD 1 undef = .int .i64 (n : Int) := by rw [← htm]; simp [-Array.getD_eq_getD_getElem?, getD_set, *]
  clear htm t0 t1 hsz k3 f3 f4
  refine rn_step (fr1 := fmN 24 (tn.setIfInBounds 2 (.chan (some w.heap.size))) [.inRegion K1 [1, 2, 3], .code (.seq (.block 0 (.loop KLc)) (.seq (.region 3 K3 false) .ret))]) (w1 := w.alloc (.chan 32 #[] false 0 0 false)) (fun cs τ => ?_) ?_
  · refine lone_step (es := #[]) ?_
    rw [step_op (fr := fmN 24 tn [.inRegion K1 [0, 1, 2, 3], .code (.seq (.block 0 (.loop KLc)) (.seq (.region 3 K3 false) .ret))]) (o := { dst := some 2, op := .makeChan 57 (.const (.int .i64 32)), type := 3, pos := "", after := #[], guard := none }) rfl rfl rfl rfl rfl]
    have hv' := make_runT (Rt w τ)
    have hv2 : (execOp (fmN 24 tn [.inRegion K1 [0, 1, 2, 3], .code (.seq (.block 0 (.loop KLc)) (.seq (.region 3 K3 false) .ret))]).eval ({ dst := some 2, op := .makeChan 57 (.const (.int .i64 32)), type := 3, pos := "", after := #[], guard := none } : Oper)).runT tw (Rt w τ) #[] = (.ok (.value (.chan (some w.heap.size))) (Rt (w.alloc (.chan 32 #[] false 0 0 false)) τ), #[]) := hv'
    have hK1 : K1[0]? = some ({ dst := some 2, op := .makeChan 57 (.const (.int .i64 32)), type := 3, pos := "", after := #[], guard := none } : Oper) := rfl
    simp [-Sem.runT_eq, stepG.apply, hv2, GStep.after, seen, Frame.finish, hK1]
  refine rn_op (v := .int .i64 0) (o := { dst := some 7, op := .assign (.const (.int .i64 0)), type := 3, pos := "", after := #[], guard := none }) rfl rfl rfl (fun _ _ => rfl) ?_
  refine rn_add (a := schK s - 1) (b := 1) (o := { dst := some 9, op := .binOp .add 3 (.tmp 0) (.const (.int .i64 1)) 3, type := 3, pos := "", after := #[], guard := none }) rfl rfl rfl rfl (ev_tmpN (by simp [-Array.getD_eq_getD_getElem?, getD_set, *])) rfl (by omega) ?_
  rw [show schK s - 1 + 1 = schK s by omega]
  refine rn_mul (a := schK s) (b := 8) (o := { dst := some 10, op := .binOp .mul 3 (.tmp 9) (.const (.int .i64 8)) 3, type := 3, pos := "", after := #[], guard := none }) rfl rfl rfl rfl (ev_tmpN (by simp [-Array.getD_eq_getD_getElem?, getD_set, *])) rfl (by omega) ?_
  refine rn_mv (fun _ => n_done) (rn_mv (fun _ => n_seq) (rn_mv (fun _ => n_block) (rn_mv (fun _ => n_loop) ?_)))
  have := twin_loop s n hn hs w 9 0 0 [] (((((tn.setIfInBounds 2 (.chan (some w.heap.size))).setIfInBounds 7 (.int .i64 0)).setIfInBounds 9 (.int .i64 ((schK s : Nat) : Int))).setIfInBounds 10 (.int .i64 ((schK s * 8 : Nat) : Int)))) (by omega) rfl (by omega) (by simp [hs2]) (by simp [-Array.getD_eq_getD_getElem?, getD_set, *]) (by simp [-Array.getD_eq_getD_getElem?, getD_set, *]) (by simp [-Array.getD_eq_getD_getElem?, getD_set, *]) (by simp [-Array.getD_eq_getD_getElem?, getD_set, *]) (by simp [-Array.getD_eq_getD_getElem?, getD_set, *])
  exact this
theorem twin_any (x y : Value) (w : World) : (∃ (s : Int) (n : Nat), x = .int .i64 s ∧ y = .int .i64 (n : Int) ∧ n ≤ 32 ∧ schOk s = true ∧ Rn tw (Tend w (cellsF s n 9 0)) (Frame.enter tw 24 #[x, y] .normal) w) ∨ Rn tw (Stk w) (Frame.enter tw 24 #[x, y] .normal) w := by
  by_cases hg : ∃ (s : Int) (n : Nat), x = .int .i64 s ∧ y = .int .i64 (n : Int) ∧ n ≤ 32 ∧ schOk s = true
  · obtain ⟨s, n, rfl, rfl, hn, hs⟩ := hg
    exact .inl ⟨s, n, rfl, rfl, hn, hs, twin_good s n hn hs w⟩
  refine .inr ?_
  rw [enterT]
  generalize htm : (#[x, y] ++ Array.replicate 19 undef : Array Value) = tm
  have hsz : tm.size = 21 := by rw [← htm]; simp
  have t0 : tm.getD 0 undef = x := by rw [← htm]; simp
  have t1 : tm.getD 1 undef = y := by rw [← htm]; simp
  clear htm
  unfold KBody
  refine rn_mv (fun _ => n_seq) (rn_mv (fun _ => n_region (l := [0, 1, 2, 3]) rfl) ?_)
  by_cases hy : ∃ b, y = .int .i64 b
  case neg => exact lss_bad (o := { dst := some 3, op := .binOp .lss 3 (.tmp 1) (.const (.int .i64 33)) 3, type := 3, pos := "", after := #[], guard := none }) rfl rfl rfl t1 (fun a e => hy ⟨a, e⟩) w
  obtain ⟨b, rfl⟩ := hy
  refine rn_lss (a := b) (b := 33) (o := { dst := some 3, op := .binOp .lss 3 (.tmp 1) (.const (.int .i64 33)) 3, type := 3, pos := "", after := #[], guard := none }) rfl rfl rfl rfl (ev_tmpN t1) rfl ?_
  refine rn_lss (a := -1) (b := b) (o := { dst := some 4, op := .binOp .lss 3 (.const (.int .i64 (-1))) (.tmp 1) 3, type := 3, pos := "", after := #[], guard := none }) rfl rfl rfl rfl rfl (ev_tmpN (by simp [-Array.getD_eq_getD_getElem?, getD_set, *])) ?_
  by_cases hx : ∃ a, x = .int .i64 a
  case neg => exact lss_bad (x := x) (o := { dst := some 5, op := .binOp .lss 3 (.tmp 0) (.const (.int .i64 4)) 3, type := 3, pos := "", after := #[], guard := none }) rfl rfl rfl (by simp [-Array.getD_eq_getD_getElem?, getD_set, *]) (fun a e => hx ⟨a, e⟩) w
  obtain ⟨a, rfl⟩ := hx
  refine rn_lss (a := a) (b := 4) (o := { dst := some 5, op := .binOp .lss 3 (.tmp 0) (.const (.int .i64 4)) 3, type := 3, pos := "", after := #[], guard := none }) rfl rfl rfl rfl (ev_tmpN (by simp [-Array.getD_eq_getD_getElem?, getD_set, *])) rfl ?_
  refine rn_lss (a := 0) (b := a) (o := { dst := some 6, op := .binOp .lss 3 (.const (.int .i64 0)) (.tmp 0) 3, type := 3, pos := "", after := #[], guard := none }) rfl rfl rfl rfl rfl (ev_tmpN (by simp [-Array.getD_eq_getD_getElem?, getD_set, *])) ?_
  refine rn_mv (fun _ => n_done) (rn_mv (fun _ => n_seq) ?_)
  by_cases h1 : b < 33
  case neg => exact rn_mv (fun _ => n_cond (v := false) (ev_tmpN (by simp [-Array.getD_eq_getD_getElem?, getD_set, *]))) (bad_end w)
  refine rn_mv (fun _ => n_cond (v := true) (ev_tmpN (by simp [-Array.getD_eq_getD_getElem?, getD_set, *]))) ?_
  by_cases h2 : -1 < b
  case neg => exact rn_mv (fun _ => n_cond (v := false) (ev_tmpN (by simp [-Array.getD_eq_getD_getElem?, getD_set, *]))) (bad_end w)
  refine rn_mv (fun _ => n_cond (v := true) (ev_tmpN (by simp [-Array.getD_eq_getD_getElem?, getD_set, *]))) ?_
  by_cases h3 : a < 4
  case neg => exact rn_mv (fun _ => n_cond (v := false) (ev_tmpN (by simp [-Array.getD_eq_getD_getElem?, getD_set, *]))) (bad_end w)
  refine rn_mv (fun _ => n_cond (v := true) (ev_tmpN (by simp [-Array.getD_eq_getD_getElem?, getD_set, *]))) ?_
  by_cases h4 : 0 < a
  case neg => exact rn_mv (fun _ => n_cond (v := false) (ev_tmpN (by simp [-Array.getD_eq_getD_getElem?, getD_set, *]))) (bad_end w)
  exfalso
  refine hg ⟨a, b.toNat, rfl, congrArg (Value.int .i64) (by omega), by omega, ?_⟩
  unfold schOk
  simp only [Bool.or_eq_true, decide_eq_true_eq]
  omega
end
section
variable {fr : Frame} {tops : List Frame} {w : World} {Fin : Frame → World → Prop}
theorem tm_ended {P : Program} (hne : tops ≠ []) (h : ∀ cs v, ∃ o w' es, stepG P true (Gr fr cs) v = .ended o w' es) : ¬ Tm2 P Fin fr tops w := by
  intro hT
  obtain ⟨n, fr', w', e, _, _⟩ := hT w.tape (fun _ _ => rfl)
  cases n with
  | zero =>
    simp only [runN, lone, Stepped.next.injEq, Machine.mk.injEq] at e
    have e2 : (Gr fr (tops ++ [sent P])) = (Gr fr' [sent P]) := by simpa using e.2.1
    injection e2 with e3 e4
    have : tops = [] := by simpa using e4
    exact hne this
  | succ n =>
    obtain ⟨o, w3, es, hs⟩ := h (tops ++ [sent P]) (Rt w w.tape)
    simp only [runN, lone_ended hs] at e
    cases e
/-- WHAT THE TWIN'S CALL OF CELLS COMES TO. -/
theorem callT {ok : Op → Bool} {S : List FuncId} {F : FuncId → List Lp} (hF : ∀ x, ∀ L ∈ F x, ∃ o X Y ts, L.o5[L.o5.size - 1]? = some o ∧ o.guard = none ∧ o.op = .call { callee := .value (.func 24), args := #[X, Y], argTypes := ts }) : CallT Try.prog.toTables twF ok S F Vc := by
  intro fr tops w L k hL ho hm hsz e
  obtain ⟨o, X, Y, ts, h1, h2, h4⟩ := hF _ L hL
  have hw : Region.wanted o (yielded L.o5 fr.tmps) = true := by unfold Region.wanted; rw [h2]
  have hkd := ho.kind
  have hcall : ∀ cs v, stepG tw true (Gr fr cs) v = .go (Gr (Frame.enter tw 24 #[fr.eval X, fr.eval Y] .normal) (fr :: cs)) v #[] := by
    intro cs v
    rw [step_op (P := tw) ho.round hm e h1 hw]
    have hv' : (execOp fr.eval o).runT tw v #[] = (.ok (.enter 24 #[fr.eval X, fr.eval Y]) v, #[]) := by
      unfold execOp
      rw [h4]
      show (callFunc 24 (#[] ++ #[X, Y].map fr.eval ++ #[])).runT tw v #[] = _
      have e3 : (#[] ++ #[X, Y].map fr.eval ++ #[]) = #[fr.eval X, fr.eval Y] := by simp
      rw [e3]
      exact run_callF tw24 rfl rfl _ _ _
    simp [-Sem.runT_eq, stepG.apply, hv', GStep.after, seen, hkd, e]
  rcases twin_any (fr.eval X) (fr.eval Y) w with ⟨s, n, hx, hy, hn, hs, fr', w', ⟨q1, q2, q3, q4, q5, m0, q6⟩, hr⟩ | ⟨fr', w', ⟨rfl, hst⟩, hr⟩
  · refine .inl ⟨cellsF s n 9 0, 32, m0, ⟨o, X, Y, ts, s, n, h1, h2, h4, hx, hy, hn, rfl⟩, rfl, rfl, fun τ _ => ?_⟩
    obtain ⟨m, e1⟩ := hr (fr :: (tops ++ [sent tw])) τ
    have hret : stepG tw true (Gr fr' (fr :: (tops ++ [sent tw]))) (Rt w' τ) = .go (Gr (fr.finish (.chan (some w.heap.size))) (tops ++ [sent tw])) (Rt w' τ) #[] := by
      have h := tw24
      obtain ⟨fn', tmps, todo, defers, mode, kind, round⟩ := fr'
      simp only at q1 q2 q3 q4 q5
      subst q1 q2 q3 q4
      have hr2 : (results cellsT tmps) = pure (.chan (some w.heap.size)) := by
        rw [← q5]
        simp [-Array.getD_eq_getD_getElem?, results, cellsT]
      simp [-Array.getD_eq_getD_getElem?, stepG, unwind, h, hr2, doReturn, seen, GStep.after]
    refine ⟨m + 1, ?_⟩
    rw [show m + 1 + 1 = 1 + (m + 1) by omega, runN_add]
    have e0 : runN tw 1 (lone fr (tops ++ [sent tw]) (Rt w τ)) = .next (lone (Frame.enter tw 24 #[fr.eval X, fr.eval Y] .normal) (fr :: (tops ++ [sent tw])) (Rt w τ)) := by
      simp only [runN]
      rw [lone_step (hcall _ _)]
    show (match runN tw 1 (lone fr (tops ++ [sent tw]) (Rt w τ)) with | .next m' => runN tw (m + 1) m' | r => r) = _
    rw [e0]
    show runN tw (m + 1) _ = _
    rw [runN_add, e1]
    show runN tw 1 _ = _
    simp only [runN]
    rw [lone_step hret, q6]
    rfl
  · refine .inr (fun Fin hT => ?_)
    have hl : Leap tw fr tops w' fr' (fr :: tops) w' := by
      refine ⟨rfl, rfl, fun τ _ => ?_⟩
      obtain ⟨m, e1⟩ := hr (fr :: (tops ++ [sent tw])) τ
      refine ⟨m, ?_⟩
      rw [show m + 1 = 1 + m by omega, runN_add]
      have e0 : runN tw 1 (lone fr (tops ++ [sent tw]) (Rt w' τ)) = .next (lone (Frame.enter tw 24 #[fr.eval X, fr.eval Y] .normal) (fr :: (tops ++ [sent tw])) (Rt w' τ)) := by
        simp only [runN]
        rw [lone_step (hcall _ _)]
      rw [e0]
      exact e1
    exact tm_ended (by simp) hst (tm_leap (T := Try.prog.toTables) (f := twF) hl hT)
end
end Go.Proofs.Ytfhcpehfmecpjaa
