/- For every file Unframe answers as its model does, its answer owns its memory, behind another call too, and nothing that was there is turned. Its one condition is the card's own: the program's table of sums holds what its text lays. -/
import Derived.Test.YthhpdkeajogkoaaDoorCards
import Derived.Test.YthhpdkeajogkoaaDoorTie
import Derived.Test.YthhpdkeajogkoaaDoorFrJ
import Derived.WalkKit
import Derived.ProofKit
import Derived.OpenShut
import Derived.ShutString
import Derived.Deep.DeepHandedRow
import Derived.Lib.LaidTab
import Derived.Lib.SmallJoins
import Derived.LaidSub
import Derived.OpenVars
import Derived.ChangeMaps5
namespace Go.Proofs.YthhpdkeajogkoaaDoor.fnExactUnframe
open Go.ChangeShapes Go.WideShapes Go.ChangeAt Go.RowKit
open Go.ChangeMaps (open_string shut_string)
set_option linter.unusedVariables false

theorem own : ownKnob Tryd.prog.godebug = none := by kernel_rfl
theorem laidOut : laidOutB Tryd.prog = true := by kernel_rfl
theorem sumType : (Tryd.prog.globals[0]?).map (·.type) = some 64 := by kernel_rfl
theorem sumCellsA : Tryd.prog.cellsOf 64 = 16 := by kernel_rfl
theorem sumCellsE : Tryd.prog.cellsOf 43 = 1 := by kernel_rfl
theorem sumTable {W : World} (h : laidMetH Tryd.prog Rows.fnExactUnframeRow.laid W) : SumTab W := by
  have h2 := laidMetH.filter (fun x => x.1 == "loop.example/g00197/impl.sumSteps") h
  have e : Rows.fnExactUnframeRow.laid.filter (fun x => x.1 == "loop.example/g00197/impl.sumSteps") = [("loop.example/g00197/impl.sumSteps", Lib.tabData .u32 sumTab)] := by kernel_rfl
  rw [e] at h2
  exact Lib.tabIs_of_head (rest := []) gSum sumType Tryd.underlying64 Tryd.underlying43 sumCellsE sumCellsA h2

theorem RowAt.srow {w : World} {B : Nat} {a : Option Addr} {xs : List ByteArray} {cap : Nat} (h : RowAt w B a xs cap) : SRow w a xs := fun hp => by
  rcases h.2 with e | ⟨g, rfl, _, hw⟩
  · subst e; simp at hp
  · exact hw.srow hp
theorem RowAt.below {w w' : World} {B C : Nat} {a : Option Addr} {xs : List ByteArray} {cap : Nat} (h : RowAt w B a xs cap) (hb : Below C w w') (hC : w.heap.size ≤ C) : RowAt w' B a xs cap := by
  refine ⟨h.1, ?_⟩
  rcases h.2 with e | ⟨g, rfl, hB, hw⟩
  · exact .inl e
  · exact .inr ⟨g, rfl, hB, hw.below hb (Nat.lt_of_lt_of_le hw.1 hC)⟩
theorem eqS_self (xs : List ByteArray) : eqS xs xs = true := by simp [eqS]
theorem below_two {B : Nat} {a b c : World} (h : Below B a b) (k : Below b.heap.size b c) (hB : B ≤ b.heap.size) : Below B a c := h.trans (k.mono hB)
theorem drewN_below (B : Nat) (w : World) (q : Nat) : Below B w (w.drewN q) := ⟨rfl, rfl, rfl, Nat.le_refl _, fun _ _ => rfl⟩
theorem grown_below {w w' : World} {g B : Nat} (h : w.grownBy w' (some g)) (hB : B ≤ g) (hs : B ≤ w.heap.size) : Below B w w' :=
  ⟨h.os, h.tape, h.output, h.size, fun k hk => h.block k (by omega) (by simp; omega)⟩
theorem srow_marks0 (w : World) (a : Option Addr) (k : Nat) : SRow w a (marks k 0) := fun h => by simp [marks] at h
theorem mark0 (a : Option Addr) (ca : Nat) (w : World) :
    Calls Tryd.prog 15 #[.slice a 0 ca, .int .i64 1] w fun e w' => e = .returned (.int .i64 1) ∧ w' = w := markStringS_none a 1 ca w
theorem mark1 (g : Nat) (xs : List ByteArray) (ca : Nat) (w : World) (ha : WRow w g xs) (hn : xs.length ≤ 20000) (hca : xs.length ≤ ca) :
    Calls Tryd.prog 15 #[.slice (some ⟨g, 0, none⟩) xs.length ca, .int .i64 1] w fun e w' => e = .returned (.int .i64 (1 + xs.length : Nat)) ∧ WRow w' g (marks 1 xs.length) ∧ w.grownBy w' (some g) :=
  markStringS_any g xs 1 ca w ha (by omega) (by omega) hca
theorem held1 (a : Option Addr) (n ca : Nat) (w : World) (ha : SRow w a (marks 1 n)) (hn : n ≤ 20000) :
    Calls Tryd.prog 16 #[.slice a n ca, .int .i64 1] w fun e w' => e = .returned (.int .i64 (1 + n : Nat)) ∧ Below w.heap.size w w' :=
  heldStringS_any a 1 n ca w ha (by omega) (by omega)
theorem recs_few (s : ByteArray) : (W.recsOf (W.framesOf s)).length ≤ 20000 := by rw [W.recsOf_len]; exact W.framesOf_len s
set_option maxHeartbeats 1000000 in
theorem walk (s0 : ByteArray) (w : World) (htab : SumTab w) :
    Calls Tryd.prog 5 #[.string s0] w fun e w' => e = .returned (.bool true) ∧ Below w.heap.size w w' := by
  have HT : Hid (SumTab w) := htab
  clear htab
  by_cases hs : 1048576 < s0.size
  · go_enter Tryd.func5, Tryd.ntmps5
    go_wp2_with fail
    go_ret
    exact ⟨rfl, Below.refl _ _⟩
  · have hfew := recs_few s0
    have hsp : ∀ (w : World), Calls Tryd.prog 13 #[.string s0] w fun e w' => UnfPost s0 w e w' := fun w => specUnframe s0 w (by omega)
    have him := implUnframe s0
    unfold UnfPost at hsp him
    generalize W.recsOf (W.framesOf s0) = xs at *
    generalize ((W.endOf (W.framesOf s0) : Nat) : Int) = en at *
    have HI : Hid _ := him
    clear him
    go_enter Tryd.func5, Tryd.ntmps5
    go_wp2_with fail
    refine (hsp _).mono ?_
    clear hsp
    rintro e w1 ⟨p0, c0, rfl, hr0, hb0⟩
    go_wp2_with fail
    refine (HI.out _ (HT.out.stays hb0)).mono ?_
    rintro e w2 ⟨p1, c1, rfl, hr1, hb1⟩
    have hr0' := RowAt.below hr0 hb1 (Nat.le_refl _)
    have hB2 := below_two hb0 hb1 hb0.size
    go_wp2_with fail
    refine (eqStringS_any p1 p0 xs xs c1 c0 _ (RowAt.srow hr1) (RowAt.srow hr0') (by omega) (by omega)).mono ?_
    rw [eqS_self]
    rintro e w3 ⟨rfl, q, rfl⟩
    go_wp2_with fail
    have hd3 := drewN_below w2.heap.size w2 q
    rcases hr1.2 with hx | ⟨g, rfl, hg1, hwr⟩
    · subst hx
      have hl0 : ([] : List ByteArray).length = 0 := rfl
      simp only [hl0] at HI ⊢
      refine (mark0 p1 c1 _).mono ?_
      rintro e w4 ⟨rfl, rfl⟩
      go_wp2_with fail
      refine (held1 p1 0 c1 _ (srow_marks0 _ _ _) (by omega)).mono ?_
      rintro e w5 ⟨rfl, hb5⟩
      have hB5 := below_two (below_two hB2 hd3 hB2.size) hb5 (Nat.le_trans hB2.size hd3.size)
      go_wp2_with fail
      refine (HI.out _ (HT.out.stays hB5)).mono ?_
      rintro e w6 ⟨p2, c2, rfl, hr2, hb6⟩
      have hB6 := below_two hB5 hb6 hB5.size
      go_wp2_with fail
      refine (eqStringS_any p2 p0 [] [] c2 c0 _ (fun h => by simp at h) (fun h => by simp at h) (by simp) (by simp)).mono ?_
      rw [eqS_self]
      rintro e w7 ⟨rfl, q7, rfl⟩
      have hd7 := drewN_below w6.heap.size w6 q7
      have hB7 := below_two hB6 hd7 hB6.size
      go_wp2_with fail
      refine (held1 p1 0 c1 _ (srow_marks0 _ _ _) (by omega)).mono ?_
      rintro e w8 ⟨rfl, hb8⟩
      go_wp2_with fail
      go_ret
      exact ⟨rfl, below_two hB7 hb8 hB7.size⟩
    · refine (mark1 g xs c1 _ (hwr.below hd3 hwr.1) hfew hr1.1).mono ?_
      rintro e w4 ⟨rfl, hwm, hgr⟩
      have hb4 : Below w1.heap.size (w2.drewN q) w4 := grown_below hgr hg1 (Nat.le_trans hb1.size hd3.size)
      have hs4 : SRow w4 (some ⟨g, 0, none⟩) (marks 1 xs.length) := hwm.srow
      have hB4 : Below w.heap.size w w4 := (hB2.trans (hd3.mono hB2.size)).trans (hb4.mono hb0.size)
      have hc4 : Below w1.heap.size w1 w4 := (hb1.trans (hd3.mono hb1.size)).trans hb4
      clear hr0' hwr
      go_wp2_with fail
      refine (held1 _ xs.length c1 _ hs4 hfew).mono ?_
      rintro e w5 ⟨rfl, hb5⟩
      have hB5 := below_two hB4 hb5 hB4.size
      have hc5 := below_two hc4 hb5 hc4.size
      have hwm5 := hwm.below hb5 hwm.1
      go_wp2_with fail
      refine (HI.out _ (HT.out.stays hB5)).mono ?_
      rintro e w6 ⟨p2, c2, rfl, hr2, hb6⟩
      have hB6 := below_two hB5 hb6 hB5.size
      have hc6 := below_two hc5 hb6 hc5.size
      have hwm6 := hwm5.below hb6 hwm5.1
      have hr6 := RowAt.below hr0 hc6 (Nat.le_refl _)
      go_wp2_with fail
      refine (eqStringS_any p2 p0 xs xs c2 c0 _ (RowAt.srow hr2) (RowAt.srow hr6) (by omega) (by omega)).mono ?_
      rw [eqS_self]
      rintro e w7 ⟨rfl, q7, rfl⟩
      have hd7 := drewN_below w6.heap.size w6 q7
      have hB7 := below_two hB6 hd7 hB6.size
      have hwm7 := hwm6.below hd7 hwm6.1
      go_wp2_with fail
      refine (held1 _ xs.length c1 _ hwm7.srow hfew).mono ?_
      rintro e w8 ⟨rfl, hb8⟩
      go_wp2_with fail
      go_ret
      exact ⟨rfl, below_two hB7 hb8 hB7.size⟩

theorem contract (H : Type) (enc : TypeId × Value → H) (W : World) (base : Nat) (args : Array Value) (ds gs : List (DataW H)) (before : List MemPlace)
    (hval : ∀ (j : Nat) t v, Tryd.f5.params[j]? = some t → args[j]? = some v → Value.okWide Tryd.prog W .any base t v)
    (hW : DataW.Whole enc Tryd.prog Tryd.f5.params.toList Rows.fnExactUnframeSpec.vars false W args.toList ds gs before) (hL : laidMetH Tryd.prog Rows.fnExactUnframeRow.laid W) :
    Calls Tryd.prog 5 args W fun e W' => ∃ v, e = .returned v ∧ Rows.fnExactUnframeSpec.post enc Tryd.prog Tryd.f5 false true false false W args v W' := by
  have hW' := hW
  obtain ⟨p, q, hA0, hV, rfl, hfz, hnd⟩ := hW
  have hA : DataW.TrodAll enc Tryd.prog W 0 (fun _ => true) true Tryd.f5.params.toList args.toList ds p := hA0
  rw [Tryd.params5] at hA hval
  obtain ⟨v0, vs0, d0, ds0, p0, q0, hargs, rfl, rfl, h0, r0⟩ := trodAll_cons hA
  obtain ⟨rfl, rfl, rfl⟩ := trodAll_nil r0
  obtain rfl : args = #[v0] := by cases args; simp_all
  obtain ⟨s0, rfl, rfl, rfl, w0⟩ := open_string Tryd.underlying9 (hval 0 9 v0 rfl rfl) h0
  have hV1 := hV
  obtain ⟨g9, t9, cs9, fuel9, d9, p9, rfl, _, _, _, _, _⟩ := trodVars_one hV1
  clear hA0
  simp only [List.append_nil, List.nil_append] at hW'
  refine (walk s0 W (sumTable hL)).mono fun e W' ⟨he, bel⟩ => ?_
  subst he
  exact ⟨_, rfl, _, _, _, [], _, _, hW', trodAll_mk1 (shut_bool Tryd.underlying4 _), (trodAll_cons_mk (shut_string Tryd.underlying9 w0) trodAll_mk0), Below.trodVars laidOut bel (by kernel_rfl) hV, bel.frame _, fun h => by cases h⟩

def sumCells : Array Value := #[.int .u32 0, .int .u32 1166650509, .int .u32 2333301018, .int .u32 3466261911, .int .u32 3189058079, .int .u32 4221339282, .int .u32 889615109, .int .u32 1888477064, .int .u32 3558460437, .int .u32 2442158232, .int .u32 1594529039, .int .u32 444807554, .int .u32 1779230218, .int .u32 797264519, .int .u32 3776954128, .int .u32 2761298845]
def laying (cs : Array Value) : Obj → Obj
  | .cells _ t frozen => .cells cs t frozen
  | o => o
noncomputable def laidWorld (os : Os) : World :=
  { World.holding Tryd.prog os ⟨#[], #[], []⟩ with heap := ((World.holding Tryd.prog os ⟨#[], #[], []⟩).heap.modify 0 (laying sumCells)) }
theorem laid_met (os : Os) : laidMet Tryd.prog Rows.fnExactUnframeRow.laid ((laidWorld os).forCall (fun _ _ => 0) ⟨#[], #[Value.string ⟨#[]⟩], []⟩).memory :=
  laidMet_of_run' 8 (by kernel_rfl) (by kernel_rfl)
theorem reads (os : Os) {H : Type} (enc : TypeId × Value → H) : ∃ places, DataW.whole enc Tryd.prog ((laidWorld os).forCall (fun _ _ => 0) ⟨#[], #[Value.string ⟨#[]⟩], []⟩).memory Tryd.f5.params.toList Rows.fnExactUnframeSpec.vars false #[Value.string ⟨#[]⟩].toList 8 = some ([.lit (.string [])], [Lib.tabData .u32 sumTab], places) :=
  ⟨MemPlace.row ⟨0, 0, none⟩ 16, by kernel_rfl⟩

set_option maxRecDepth 100000 in
theorem lifted (os : Os) (started : os.Started) (H : Type) (enc : TypeId × Value → H) (F : Stop.Interp) :
    ReturnsInHanded {} Tryd.checked os 5 .any ((OpenSpec.ofChange Rows.fnExactUnframeSpec).preRow enc Tryd.prog Tryd.f5 Rows.fnExactUnframeRow.domain false Rows.fnExactUnframeRow.laid) (((OpenSpec.ofChange Rows.fnExactUnframeSpec).at F).post enc Tryd.prog Tryd.f5 false true false false) := by
  obtain ⟨places, hx⟩ := reads os enc
  refine returnsInHanded_of_row (C := Tryd.checked) (s := OpenSpec.ofChange Rows.fnExactUnframeSpec) own started (by kernel_rfl) Tryd.func5
    (witness_row_at (enc := enc) (C := Tryd.checked) false (laidWorld os) #[Value.string ⟨#[]⟩] rfl (by kernel_rfl) (by kernel_rfl) (by kernel_rfl)
      (OpenSpec.preRow_of_cond 8 hx (by kernel_rfl) (fun k hk => by cases hk) (by kernel_rfl) (laid_met os))) ?_
  intro W base args ds gs before hval hW _ _ _ hL _ _
  exact contract H enc W base args ds gs before hval hW hL

theorem said : Rows.FnExactUnframeSaid :=
  OpenClaim.holds_of_cond 5 Tryd.f5 rfl rfl rfl rfl rfl rfl rfl ⟨rfl, rfl, rfl, rfl, rfl⟩ rfl rfl rfl rfl rfl (by kernel_rfl) Tryd.func5 (by kernel_rfl)
    (of_decide_eq_true (by kernel_rfl)) (by unfold Func.isWrapper; first | (rw [if_pos (by decide +kernel)]; kernel_rfl) | (rw [if_neg (by decide +kernel)]; exact ⟨rfl, rfl⟩))
    (fun os started H enc _ F => by rw [OpenClaim.pre_eq_preRow]; exact lifted os started H enc F)
theorem plain (f : FuncId) (fn : Func) (hf : Tryd.pinned.checked.prog.funcNamed "loop.example/g00197/laws.FnExactUnframe" = some f) (hfn : Tryd.pinned.checked.prog.funcs[f]? = some fn) :
    false = Tryd.pinned.checked.prog.looks [] ∧ ∀ (j : Nat) t, fn.params[j]? = some t → Tryd.pinned.checked.prog.wantsStandIn t = false := by
  obtain rfl : f = 5 := Option.some.inj ((show Tryd.prog.funcNamed "loop.example/g00197/laws.FnExactUnframe" = some 5 by kernel_rfl).symm.trans hf) |>.symm
  obtain rfl : fn = Tryd.f5 := (Option.some.inj (Tryd.func5.symm.trans hfn)).symm
  refine ⟨by kernel_rfl, fun j t ht => ?_⟩
  rw [Tryd.params5] at ht
  have hm : t ∈ [9] := by simpa using Array.mem_of_getElem? ht
  have hall : ([9].all fun u => !Tryd.prog.wantsStandIn u) = true := by kernel_rfl
  exact (show Tryd.prog.wantsStandIn t = false by simpa using List.all_eq_true.1 hall t hm)
theorem card : Rows.FnExactUnframeCardSaid :=
  Claim7.holds_tied_plain_at .later [] _ _ _ _ said (fun _ h => by cases h) (by kernel_rfl) (fun _ h => by cases h) fnExactUnframe_row_tie rfl ⟨rfl, rfl⟩ (by kernel_rfl) rfl plain (by kernel_rfl)
end Go.Proofs.YthhpdkeajogkoaaDoor.fnExactUnframe
namespace Go.Proofs.YthhpdkeajogkoaaDoor
theorem fnExactUnframe_holds : Rows.FnExactUnframeCardSaid := fnExactUnframe.card
#print axioms fnExactUnframe_holds
end Go.Proofs.YthhpdkeajogkoaaDoor
