/- For every tree, every list of records and every number ApplyAll answers as its model does, writes into no argument, and what it answers owns its memory. No condition. -/
import Derived.Test.YtakhagkhngmpaaaGreatRows
import Derived.Test.YtakhagkhngmpaaaGreatQaLawAa
import Derived.Test.YtakhagkhngmpaaaGreatQaStZ
import Derived.Test.YtakhagkhngmpaaaGreatQaEsO
import Derived.Test.YtakhagkhngmpaaaGreatQa5
import Derived.Test.YtakhagkhngmpaaaGreatQa3
import Derived.WalkKit
import Derived.ProofKit
import Derived.OpenShut
import Derived.ShutString
import Derived.OpenVars
import Derived.ChangeMaps5
import Derived.Carry
namespace Go.Proofs.YtakhagkhngmpaaaGreat.fnExactApplyAll
open Go.ChangeShapes Go.WideShapes Go.ChangeAt Go.RowKit
set_option linter.unusedVariables false

theorem own : ownKnob Tryz.prog.godebug = none := by kernel_rfl
theorem laidOut : laidOutB Tryz.prog = true := by kernel_rfl

theorem walk (v : Value) (T : TM) (la : Option Addr) (es : List EM) (lc : Nat) (x : Int) (_ : (Lit.int .i64 x).wf = true) (w : World) (hv : TSee w v T 0 w.heap.size) (hf : NOk T.nodes ∧ NInt T.nodes) (hE : ERow w la es) (he : ESFit es) :
    Calls Tryz.prog 10 #[v, .slice la es.length lc, .int .i64 x] w fun r w' => r = .returned (.bool true) ∧ Below w.heap.size w w' := lawApplyAll la lc es x (fun la lc es l1 l2 gr h1 h2 h3 h4 h5 h6 => implApplyAll la lc es l1 l2 gr h1 h2 h3 h4 h5 h6) hv hf.1 hf.2 hE he

set_option maxRecDepth 100000 in
theorem lifted (os : Os) (started : os.Started) (H : Type) (enc : TypeId × Value → H) :
    ReturnsInHanded {} Tryz.checked os 10 .any (Rows.fnExactApplyAllSpec.pre6 enc Tryz.prog Tryz.f10 Rows.fnExactApplyAllRow.domain false) (Rows.fnExactApplyAllSpec.post enc Tryz.prog Tryz.f10 false true false false) := by
  refine returnsInHanded_of_change (C := Tryz.checked) own started (by kernel_rfl) Tryz.func10
    (ChangeSpec.witness6 (enc := enc) (C := Tryz.checked) false ⟨#[], #[Value.agg #[.slice none 0 0, .int .i64 0], Value.slice none 0 0, Value.int .i64 0], []⟩ 8 (by kernel_rfl) (by kernel_rfl) (by kernel_rfl) (by kernel_rfl)) ?_
  intro W base args ds gs before hval0 hW hcnd _
  have hval : ∀ (j : Nat) t v, Tryz.f10.params[j]? = some t → args[j]? = some v → Value.okWide Tryz.prog W .any base t v := hval0
  have hW' := hW
  obtain ⟨p, q, hA0, hV, rfl, hfz, hnd⟩ := hW
  have hA : DataW.TrodAll enc Tryz.prog W 0 (fun _ => true) true Tryz.f10.params.toList args.toList ds p := hA0
  rw [Tryz.params10] at hA hval
  obtain ⟨v0, vs0, d0, ds0, p0, q0, hargs, rfl, rfl, h0, r0⟩ := trodAll_cons hA
  obtain ⟨v1, vs1, d1, ds1, p1, q1, rfl, rfl, rfl, h1, r1⟩ := trodAll_cons r0
  obtain ⟨v2, vs2, d2, ds2, p2, q2, rfl, rfl, rfl, h2, r2⟩ := trodAll_cons r1
  obtain ⟨rfl, rfl, rfl⟩ := trodAll_nil r2
  obtain rfl : args = #[v0, v1, v2] := by cases args; simp_all
  obtain ⟨rfl, rfl⟩ := trodVars_none hV
  have k0 := h0
  have lt0 : ∀ x ∈ p0, x.block < W.heap.size := by obtain ⟨m, hm⟩ := k0; exact DataW.trod_lt m _ _ _ hm
  obtain ⟨T0, fr0, ff0⟩ := open_tree (hval 0 56 v0 rfl rfl) h0
  have k1 := h1
  have lt1 : ∀ x ∈ p1, x.block < W.heap.size := by obtain ⟨m, hm⟩ := k1; exact DataW.trod_lt m _ _ _ hm
  obtain ⟨a1, fs1, cap1, rfl, fr1, ff1⟩ := open_editS (hval 1 63 v1 rfl rfl) h1
  have k2 := h2
  have lt2 : ∀ x ∈ p2, x.block < W.heap.size := by obtain ⟨m, hm⟩ := k2; exact DataW.trod_lt m _ _ _ hm
  obtain ⟨a2, rfl, rfl, rfl, w2⟩ := open_int Tryz.underlying3 (hval 2 3 v2 rfl rfl) h2
  clear hA0 hval0
  refine (walk v0 T0 a1 fs1 cap1 a2 w2 W fr0 ff0 fr1 ff1).mono fun e W' ⟨he, bel⟩ => ?_
  subst he
  exact ⟨_, rfl, _, _, _, [], _, [], hW', trodAll_mk1 (shut_bool Tryz.underlying4 _), (trodAll_cons_mk (Below.trod laidOut (by kernel_rfl) (of_decide_eq_true (by kernel_rfl)) k0 bel lt0) (trodAll_cons_mk (Below.trod laidOut (by kernel_rfl) (of_decide_eq_true (by kernel_rfl)) k1 bel lt1) (trodAll_cons_mk (Below.trod laidOut (by kernel_rfl) (of_decide_eq_true (by kernel_rfl)) k2 bel lt2) trodAll_mk0))), rfl, bel.frame _, fun h => by cases h⟩

theorem over : Rows.fnExactApplyAllRow.holds Tryz.pinned (OpenSpec.ofChange Rows.fnExactApplyAllSpec) :=
  OpenClaim.holds_of_wide 10 Tryz.f10 rfl rfl rfl rfl rfl rfl rfl ⟨rfl, rfl, rfl, rfl, rfl⟩ rfl rfl rfl rfl rfl (by kernel_rfl) Tryz.func10 (by kernel_rfl)
    (of_decide_eq_true (by kernel_rfl)) (by unfold Func.isWrapper; first | (rw [if_pos (by decide +kernel)]; kernel_rfl) | (rw [if_neg (by decide +kernel)]; exact ⟨rfl, rfl⟩))
    (fun os started H enc _ => lifted os started H enc)

end Go.Proofs.YtakhagkhngmpaaaGreat.fnExactApplyAll
namespace Go.Proofs.YtakhagkhngmpaaaGreat
set_option maxRecDepth 100000
theorem fnExactApplyAll_holds : Rows.FnExactApplyAllSaid := fnExactApplyAll.over
#print axioms fnExactApplyAll_holds
end Go.Proofs.YtakhagkhngmpaaaGreat
