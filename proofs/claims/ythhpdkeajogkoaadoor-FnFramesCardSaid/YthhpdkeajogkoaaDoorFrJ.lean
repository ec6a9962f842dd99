/- The walk of the program's Unframe: a range over the bound reader of frames. -/
import Derived.Test.YthhpdkeajogkoaaDoorFrI
import Derived.RegionIn
import Derived.BigRegionIn
namespace Go.Proofs.YthhpdkeajogkoaaDoor
open Go.RowKit Go.Shelf
attribute [local go_sem] Oper.semAt_some

/-- What the two variables of Unframe hold when some records have come. -/
def UnfI (w : World) (pre : List (ByteArray × Nat)) (X : World) : Prop :=
  ((∃ v, Boxed X w.heap.size 27 v ∧ X.ownsRow w.heap.size 9 1 v (W.recsOf pre).length (tv (W.recsOf pre)) ∧ True) ∧ Boxed X (w.heap.size + 1) 3 (.int .i64 (W.endOf pre : Nat))) ∧ Below w.heap.size w X
theorem UnfI.own (w : World) {B : Nat} (hB : w.heap.size ≤ B) : OwnFrom B (UnfI w) :=
  OwnFrom.and (OwnFrom.and (Own.from (holdsRow_own w.heap.size w.heap.size 27 9 1 (fun pre => (W.recsOf pre).length) (fun pre => tv (W.recsOf pre)) (fun _ _ => True)) _)
    (Own.from (boxed_own (w.heap.size + 1) 3 (fun pre => .int .i64 (W.endOf pre : Nat))) _)) (ownFrom_below (Nat.le_refl _) hB)

set_option maxRecDepth 100000 in
set_option maxHeartbeats 2000000 in
theorem implUnframe (s : ByteArray) (w : World) (ht : SumTab w) : Calls Tryd.prog 10 #[.string s] w fun e w' => UnfPost s w e w' := by
  have HT : Hid (SumTab w) := ht
  clear ht
  obtain ⟨i0, hi, hz0, hz1, hz2⟩ := info_parts Tryd.info9
  refine (callsIn_wide (n := 4)).1 ?_
  refine callsIn_of_wp_marks Tryd.func10 rfl trivial ?_ rfl
  simp only [Tryd.ntmps10, List.size_toArray, List.length_cons, List.length_nil, Nat.reduceAdd, Nat.reduceSub, Array.replicate_succ, Array.replicate_zero, List.push_toArray, List.append_toArray, List.nil_append, List.cons_append]
  gi_wp2
  have bO := Boxed.new w 27 (.slice none 0 0)
  have bE := Boxed.new (w.alloc (.cells #[.slice none 0 0] 27)) 3 (.int .i64 0)
  rw [World.size_alloc] at bE
  have hB0 : Below w.heap.size w ((w.alloc (.cells #[.slice none 0 0] 27)).alloc (.cells #[.int .i64 0] 3)) := ((Below.refl _ w).alloc (Nat.le_refl _) _).alloc (by simp) _
  refine range_bound (gf := 26) (r := .string s) (encs := frEnc) (B := w.heap.size) (W.framesOf s) rfl (enters_of Tryd.func26 (by kernel_rfl) rfl) (fun _ => rfl) (by simp; omega)
    (UnfI w) (UnfI.own w (by simp; omega)) ⟨⟨⟨_, bO.alloc _, World.ownsRow_nil _ _ _ _, trivial⟩, bE⟩, hB0⟩
    (fun x => { tmps := #[.string s, undef, .slice none 0 0, .int .i64 0, .pointer (some ⟨w.heap.size, 0, none⟩), .pointer (some ⟨w.heap.size + 1, 0, none⟩), .string x.1, .int .i64 (x.2 : Int), .string s, .func (.func 26) #[.string s] #[], .string x.1, .int .i64 (x.2 : Int), undef, undef, undef, undef, undef, undef, undef], defers := [] }) ?assign ?body ?seq ?done
  case assign =>
    intro l x X K hK
    dsimp only [frEnc]
    gi_wp2
    exact hK
  case seq =>
    intro l J X hX hJ hR h0
    exact frames_in s w HT.out _ l J hJ hR X (hB0.trans (hX.mono hB0.size)) h0
  case body =>
    rintro l pre x X ⟨⟨⟨v, hv, hrow, _⟩, hE⟩, hB⟩ hlt
    have hc := hv.cell
    have hfew : (W.recsOf pre).length < 20000 := by
      have := W.framesOf_len s
      have := W.recsOf_len pre
      omega
    have hBs := hB.size
    gi_wp2_with (gi_at_builtin; refine wpListIn_append_own _ rfl _ _ 27 rfl w.heap.size 9 i0 (.string ⟨#[]⟩) 1 16 Tryd.underlying27 hi hz0 hz1 hz2 rfl (by decide) _ _ _ rfl (hrow.alloc _) ⟨X.heap.size, 0, none⟩ 1 1 [.string x.1] rfl rfl (cell_one_new _ _ _) (by simp [Value.oneCell']) (by unfold maxLen; omega) (by omega) (by simp; omega) ?_; intro v' w1 hown' hgrow _; obtain ⟨g', cap', rfl⟩ := ownsRow_succ hown'; obtain ⟨hv1, hv2, hr2, hk2, hb2⟩ := hv.appended (by decide) hrow hB.size (Nat.le_refl _) hown' hgrow; have hc1 := hv1.cell; have hf1 := hv1.frozen; have hE1 := (hE.alloc _).kept hgrow (hE.not_row (by decide) hrow); have hc2 := hE1.cell; have hf2 := hE1.frozen)
    have hE2 := hE1.other (B' := w.heap.size) (by omega) (.slice (some ⟨g', 0, none⟩) ((W.recsOf pre).length + 1) cap')
    refine ⟨rfl, hk2.trans (KeepsOthers.setCell _ _ _), hb2.setCell (p := ⟨w.heap.size + 1, 0, none⟩) (by simp) _, ⟨⟨_, hv2.other (by omega) _, ?_, trivial⟩, ?_⟩, (hB.trans hb2).setCell (p := ⟨w.heap.size + 1, 0, none⟩) (by simp) _⟩
    · have hr3 := hr2.kept (grownBy_setCell' _ (w.heap.size + 1) (.int .i64 (x.2 : Int))) (.inr (hE2.not_row (by decide) hr2).symm)
      rw [W.recsOf_snoc, ← tv_snoc]
      simpa using hr3
    · rw [W.endOf_snoc]
      exact hE2.set _
  case done =>
    rintro D X hD ⟨⟨⟨v, hv, hrow, _⟩, hE⟩, hB⟩ hK
    have hc := hv.cell
    have hc2 := hE.cell
    gi_wp2
    gi_region
    all_goals gi_wp2
    have hK' : X.drew.heap[D]? = some (.deferred (some [])) := hK
    have hrow' : X.drew.ownsRow w.heap.size 9 1 v (W.recsOf (W.framesOf s)).length (tv (W.recsOf (W.framesOf s))) := hrow
    have hB' : Below w.heap.size w X.drew := hB.drew
    refine ⟨by simp, .inl ⟨_, _, rfl, run_takeDeferred hK', ?_⟩⟩
    refine ⟨_, results_tmp2 (t := 2) (u := 3) rfl _ _ _, ?_⟩
    exact UnfPost.mk (l := W.framesOf s) rfl rfl (ownsRow_putObj hrow' _ hK' rfl) (hB'.trans (below_put _ (Array.getElem?_eq_some_iff.1 hK').1 (by simp at hD; omega)))
end Go.Proofs.YthhpdkeajogkoaaDoor
