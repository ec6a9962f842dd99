/- For every server and record Commit answers as its model does, every field; it writes into no argument; its answer owns its memory, behind another call too. Its one condition is the card's own: the program's table of sums holds what its text lays. -/
import Derived.Test.YtackbhpgdohimaaGreatDoorCards
import Derived.Test.YtackbhpgdohimaaGreatDoorTie
import Derived.Test.YtackbhpgdohimaaGreatDoorQkLawCm
import Derived.Test.YtackbhpgdohimaaGreatDoorQkCmC
import Derived.Test.YtackbhpgdohimaaGreatDoorQkCmD
import Derived.Test.YtackbhpgdohimaaGreatDoorQk15
import Derived.Test.YtackbhpgdohimaaGreatDoorQk13
import Derived.Test.YtackbhpgdohimaaGreatDoorQk2
import Derived.Test.YtackbhpgdohimaaGreatDoorQk3
import Derived.WalkKit
import Derived.ProofKit
import Derived.OpenShut
import Derived.ShutString
import Derived.Deep.DeepHandedRow
import Derived.Lib.LaidTab
import Derived.Lib.SmallJoins
import Derived.LaidSub
import Derived.OpenVars
import Derived.LaidHandle
import Derived.ChangeMaps5
namespace Go.Proofs.YtackbhpgdohimaaGreatDoor.fnExactCommit
open Go.ChangeShapes Go.WideShapes Go.ChangeAt Go.RowKit
set_option linter.unusedVariables false

theorem own : ownKnob Tryz.prog.godebug = none := by kernel_rfl
theorem laidOut : laidOutB Tryz.prog = true := by kernel_rfl
theorem sumType : (Tryz.prog.globals[0]?).map (·.type) = some 275 := by kernel_rfl
theorem sumCellsA : Tryz.prog.cellsOf 275 = 16 := by kernel_rfl
theorem sumCellsE : Tryz.prog.cellsOf 146 = 1 := by kernel_rfl
theorem sumTable {W : World} (h : laidMetH Tryz.prog Rows.fnExactCommitRow.laid W) : SumTab W := by
  have h2 := laidMetH.filter (fun x => x.1 == "loop.example/g00197/impl.sumSteps") h
  have e : Rows.fnExactCommitRow.laid.filter (fun x => x.1 == "loop.example/g00197/impl.sumSteps") = [("loop.example/g00197/impl.sumSteps", Lib.tabData .u32 sumTab)] := by kernel_rfl
  rw [e] at h2
  exact Lib.tabIs_of_head (rest := []) gSum sumType Tryz.underlying275 Tryz.underlying146 sumCellsE sumCellsA h2

theorem walk (S : SvM) (ca da la : Option Addr) (cm cc dc lc : Nat) (e : EM) (w : World) (htab : SumTab w) (fr : SvAt w S (.agg #[.slice ca cm cc, .int .i64 S.tree.next]) da la 0 w.heap.size) (fn : NOk S.tree.nodes ∧ NInt S.tree.nodes) (ff : FFit S.disk) (fs : LsFits S.leases) (he : EdFit e) :
    Calls Tryz.prog 3 #[.agg #[.bool S.up, .slice ca cm cc, .int .i64 S.tree.next, .int .i64 S.groups, .slice da S.disk.length dc, .slice la S.leases.length lc, .int .i64 S.now], ev e] w fun r w' => r = .returned (.bool true) ∧ Below w.heap.size w w' :=
  lawCommit (XT := (cmX S.up S.tree S.groups S.disk e).1) (xg := (cmX S.up S.tree S.groups S.disk e).2.1) (XD := (cmX S.up S.tree S.groups S.disk e).2.2.1) (rc := (cmX S.up S.tree S.groups S.disk e).2.2.2) e fr rfl rfl rfl rfl fn.1 ff fs he htab (fun a b => cm_fit a ff b)
    (fun a b c d _ _ _ _ _ _ _ _ _ _ q => specCommit e q.tr q.ds q.ls rfl rfl rfl a b c ff d)
    (fun a b c d f g _ _ _ _ _ _ _ _ _ _ ht q => implCommit e q.tr q.ds q.ls rfl rfl rfl a b c ff d ht fn.2 (fun x hx => ⟨by have := fsum_mem hx; omega, by have := fsum_mem hx; omega⟩) g f)

set_option maxRecDepth 1000000 in
theorem contract (H : Type) (enc : TypeId × Value → H) (W : World) (base : Nat) (args : Array Value) (ds gs : List (DataW H)) (before : List MemPlace)
    (hval : ∀ (j : Nat) t v, Tryz.f3.params[j]? = some t → args[j]? = some v → Value.okWide Tryz.prog W .any base t v)
    (hW : DataW.Whole enc Tryz.prog Tryz.f3.params.toList Rows.fnExactCommitSpec.vars false W args.toList ds gs before) (hL : laidMetH Tryz.prog Rows.fnExactCommitRow.laid W) :
    Calls Tryz.prog 3 args W fun e W' => ∃ v, e = .returned v ∧ Rows.fnExactCommitSpec.post enc Tryz.prog Tryz.f3 false true false false W args v W' := by
  have hW' := hW
  obtain ⟨p, q, hA0, hV, rfl, hfz, hnd⟩ := hW
  have hA : DataW.TrodAll enc Tryz.prog W 0 (fun _ => true) true Tryz.f3.params.toList args.toList ds p := hA0
  rw [Tryz.params3] at hA hval
  obtain ⟨v0, vs0, d0, ds0, p0, q0, hargs, rfl, rfl, h0, r0⟩ := trodAll_cons hA
  obtain ⟨v1, vs1, d1, ds1, p1, q1, rfl, rfl, rfl, h1, r1⟩ := trodAll_cons r0
  obtain ⟨rfl, rfl, rfl⟩ := trodAll_nil r1
  obtain rfl : args = #[v0, v1] := by cases args; simp_all
  have k0 := h0
  have lt0 : ∀ x ∈ p0, x.block < W.heap.size := by obtain ⟨m, hm⟩ := k0; exact DataW.trod_lt m _ _ _ hm
  obtain ⟨f0, ca0, da0, la0, cm0, cc0, dc0, lc0, rfl, fr0, fn0, ff0, fs0⟩ := openServer (hval 0 30 v0 rfl rfl) h0
  have k1 := h1
  have lt1 : ∀ x ∈ p1, x.block < W.heap.size := by obtain ⟨m, hm⟩ := k1; exact DataW.trod_lt m _ _ _ hm
  obtain ⟨f1, rfl, ff1⟩ := open_edit (hval 1 32 v1 rfl rfl) h1
  have hV1 := hV
  obtain ⟨g9, t9, cs9, fuel9, d9, p9, rfl, _, _, _, _, _⟩ := trodVars_one hV1
  clear hA0
  refine (walk f0 ca0 da0 la0 cm0 cc0 dc0 lc0 f1 W (sumTable hL) fr0 fn0 ff0 fs0 ff1).mono fun e W' ⟨he, bel⟩ => ?_
  subst he
  exact ⟨_, rfl, _, _, _, [], _, _, hW', trodAll_mk1 (shut_bool Tryz.underlying4 _), (trodAll_cons_mk (Below.trod laidOut (by kernel_rfl) (of_decide_eq_true (by kernel_rfl)) k0 bel lt0) (trodAll_cons_mk (Below.trod laidOut (by kernel_rfl) (of_decide_eq_true (by kernel_rfl)) k1 bel lt1) trodAll_mk0)), Below.trodVars laidOut bel (by kernel_rfl) hV, bel.frame _, fun h => by cases h⟩

def sumCells : Array Value := #[.int .u32 0, .int .u32 1166650509, .int .u32 2333301018, .int .u32 3466261911, .int .u32 3189058079, .int .u32 4221339282, .int .u32 889615109, .int .u32 1888477064, .int .u32 3558460437, .int .u32 2442158232, .int .u32 1594529039, .int .u32 444807554, .int .u32 1779230218, .int .u32 797264519, .int .u32 3776954128, .int .u32 2761298845]
def laying (cs : Array Value) : Obj → Obj
  | .cells _ t frozen => .cells cs t frozen
  | o => o
noncomputable def laidWorld (os : Os) : World :=
  { World.holding Tryz.prog os ⟨#[], #[], []⟩ with heap := ((World.holding Tryz.prog os ⟨#[], #[], []⟩).heap.modify 0 (laying sumCells)) }
theorem laid_met (os : Os) : laidMet Tryz.prog Rows.fnExactCommitRow.laid ((laidWorld os).forCall (fun _ _ => 0) ⟨#[], #[Value.agg #[.bool false, .slice none 0 0, .int .i64 0, .int .i64 0, .slice none 0 0, .slice none 0 0, .int .i64 0], Value.agg #[.int .i64 0, .string ⟨#[]⟩, .string ⟨#[]⟩, .int .i64 0, .int .i64 0]], []⟩).memory :=
  laidMet_of_run' 8 (by kernel_rfl) (by kernel_rfl)
theorem reads (os : Os) {H : Type} (enc : TypeId × Value → H) : ∃ places, DataW.whole enc Tryz.prog ((laidWorld os).forCall (fun _ _ => 0) ⟨#[], #[Value.agg #[.bool false, .slice none 0 0, .int .i64 0, .int .i64 0, .slice none 0 0, .slice none 0 0, .int .i64 0], Value.agg #[.int .i64 0, .string ⟨#[]⟩, .string ⟨#[]⟩, .int .i64 0, .int .i64 0]], []⟩).memory Tryz.f3.params.toList Rows.fnExactCommitSpec.vars false #[Value.agg #[.bool false, .slice none 0 0, .int .i64 0, .int .i64 0, .slice none 0 0, .slice none 0 0, .int .i64 0], Value.agg #[.int .i64 0, .string ⟨#[]⟩, .string ⟨#[]⟩, .int .i64 0, .int .i64 0]].toList 8 = some ([.agg [.lit (.bool false), .agg [.nil, .lit (.int .i64 0)], .lit (.int .i64 0), .agg [.nil], .nil, .lit (.int .i64 0)], .agg [.lit (.int .i64 0), .lit (.string []), .lit (.string []), .lit (.int .i64 0), .lit (.int .i64 0)]], [Lib.tabData .u32 sumTab], places) :=
  ⟨MemPlace.row ⟨0, 0, none⟩ 16, by kernel_rfl⟩

set_option maxRecDepth 100000 in
theorem lifted (os : Os) (started : os.Started) (H : Type) (enc : TypeId × Value → H) (F : Stop.Interp) :
    ReturnsInHanded {} Tryz.checked os 3 .any ((OpenSpec.ofChange Rows.fnExactCommitSpec).preRow enc Tryz.prog Tryz.f3 Rows.fnExactCommitRow.domain false Rows.fnExactCommitRow.laid) (((OpenSpec.ofChange Rows.fnExactCommitSpec).at F).post enc Tryz.prog Tryz.f3 false true false false) := by
  obtain ⟨places, hx⟩ := reads os enc
  refine returnsInHanded_of_row (C := Tryz.checked) (s := OpenSpec.ofChange Rows.fnExactCommitSpec) own started (by kernel_rfl) Tryz.func3
    (witness_row_at (enc := enc) (C := Tryz.checked) false (laidWorld os) #[Value.agg #[.bool false, .slice none 0 0, .int .i64 0, .int .i64 0, .slice none 0 0, .slice none 0 0, .int .i64 0], Value.agg #[.int .i64 0, .string ⟨#[]⟩, .string ⟨#[]⟩, .int .i64 0, .int .i64 0]] rfl (by kernel_rfl) (by kernel_rfl) (by kernel_rfl)
      (OpenSpec.preRow_of_cond 8 hx (by kernel_rfl) (fun k hk => by cases hk) (by kernel_rfl) (laid_met os))) ?_
  intro W base args ds gs before hval hW _ _ _ hL _ _
  exact contract H enc W base args ds gs before hval hW hL

theorem said : Rows.FnExactCommitSaid :=
  OpenClaim.holds_of_cond 3 Tryz.f3 rfl rfl rfl rfl rfl rfl rfl ⟨rfl, rfl, rfl, rfl, rfl⟩ rfl rfl rfl rfl rfl (by kernel_rfl) Tryz.func3 (by kernel_rfl)
    (of_decide_eq_true (by kernel_rfl)) (by unfold Func.isWrapper; first | (rw [if_pos (by decide +kernel)]; kernel_rfl) | (rw [if_neg (by decide +kernel)]; exact ⟨rfl, rfl⟩))
    (fun os started H enc _ F => by rw [OpenClaim.pre_eq_preRow]; exact lifted os started H enc F)
theorem plain (f : FuncId) (fn : Func) (hf : Tryz.pinned.checked.prog.funcNamed "loop.example/g00197/laws.FnExactCommit" = some f) (hfn : Tryz.pinned.checked.prog.funcs[f]? = some fn) :
    true = Tryz.pinned.checked.prog.looks [] ∧ ∀ (j : Nat) t, fn.params[j]? = some t → Tryz.pinned.checked.prog.wantsStandIn t = false := by
  obtain rfl : f = 3 := Option.some.inj ((show Tryz.prog.funcNamed "loop.example/g00197/laws.FnExactCommit" = some 3 by kernel_rfl).symm.trans hf) |>.symm
  obtain rfl : fn = Tryz.f3 := (Option.some.inj (Tryz.func3.symm.trans hfn)).symm
  refine ⟨by kernel_rfl, fun j t ht => ?_⟩
  rw [Tryz.params3] at ht
  have hm : t ∈ [30, 32] := by simpa using Array.mem_of_getElem? ht
  have hall : ([30, 32].all fun u => !Tryz.prog.wantsStandIn u) = true := by kernel_rfl
  exact (show Tryz.prog.wantsStandIn t = false by simpa using List.all_eq_true.1 hall t hm)
theorem card : Rows.FnExactCommitCardSaid :=
  Claim7.holds_tied_plain_at .later [] _ _ _ _ said (fun _ h => by cases h) (by kernel_rfl) (fun _ h => by cases h) fnExactCommit_row_tie rfl ⟨rfl, rfl⟩ (by kernel_rfl) rfl plain (by kernel_rfl)
end Go.Proofs.YtackbhpgdohimaaGreatDoor.fnExactCommit
namespace Go.Proofs.YtackbhpgdohimaaGreatDoor
set_option maxRecDepth 100000
theorem fnExactCommit_holds : Rows.FnExactCommitCardSaid := fnExactCommit.card
#print axioms fnExactCommit_holds
end Go.Proofs.YtackbhpgdohimaaGreatDoor
