/- Texts of ours, laid one behind the other: TTwC. -/
import Derived.Test.YtfhcpehfmecpjaaPk18
import Derived.Deep.RegionWith
import Derived.Deep.Cut
set_option linter.unusedVariables false
set_option linter.unusedSimpArgs false
/- Over the twin: the program's own CutUnits. -/
namespace Go.Proofs.YtfhcpehfmecpjaaT
open Go.RowKit
open Go.Proofs.Ytfhcpehfmecpjaa (cellV RcReg wp_take wp_shut)
attribute [local go_sem ↓] Go.wp_at_zero Go.wp_at_succ

/-- How many values a channel holds. -/
def chLeft (c : Nat) (w : World) : Nat := match w.heap[c]? with
  | some (.chan _ b _ _ _ _) => b.size
  | _ => 0
theorem chLeft_is {c cap m r : Nat} {b : Array Value} {cl tm : Bool} {w : World} (h : w.heap[c]? = some (.chan cap b cl m r tm)) : chLeft c w = b.size := by unfold chLeft; rw [h]
theorem twClone (s : ByteArray) (w : World) (h : s.size ≤ 281474976710656) : Calls Tw.prog 25 #[.string s] w fun e w' => e = .returned (.string s) ∧ Below w.heap.size w w' := by
  go_enter Tw.func25, Tw.ntmps25
  go_wp2_with fail
  refine (Tw.stringslite_Clone s _ h).mono ?_
  rintro e w1 ⟨rfl, hb⟩
  go_wp2_with fail
  go_ret
  exact ⟨rfl, hb⟩
theorem cellsK_more {k n i : Nat} : ∀ {f : Nat}, n ≤ i + 4 * f → i < n → ∃ f', cellsK k n f i = cellV (i : Nat) (min (i + 4) n : Nat) (unitAt k i : Nat) (placeIn k i : Nat) :: cellsK k n f' (i + 4) ∧ n ≤ i + 4 + 4 * f'
  | 0, h, h' => absurd h (by omega)
  | f + 1, h, h' => ⟨f, by rw [cellsK, if_pos h'], by omega⟩
theorem cellsK_none {k n i : Nat} (h : n ≤ i) : ∀ f : Nat, cellsK k n f i = []
  | 0 => rfl
  | f + 1 => by rw [cellsK, if_neg (by omega)]
theorem chan_alloc {w : World} {c : Nat} {o o' : Obj} (h : w.heap[c]? = some o) : (w.alloc o').heap[c]? = some o := by
  have hc : c < w.heap.size := (Array.getElem?_eq_some_iff.1 h).1
  exact (((Below.refl w.heap.size w).alloc (Nat.le_refl _) o').block c hc).trans h
theorem chan_lt {w : World} {c : Nat} {o : Obj} (h : w.heap[c]? = some o) : c < w.heap.size := (Array.getElem?_eq_some_iff.1 h).1
theorem cell_not {w : World} {g : Nat} {L : List Value} (h : WCells w g L) (hl : 0 < L.length) {c cap m r : Nat} {b : Array Value} {cl tm : Bool} (hc : w.heap[c]? = some (.chan cap b cl m r tm)) : g ≠ c := by
  rintro rfl
  have := (h.2 0 _ (List.getElem?_eq_getElem hl)).1
  simp [World.cell?, hc] at this
/-- A cell's four numbers. -/
def C4 (w : World) (g : Nat) (a b u p : Nat) : Prop := w.cell? ⟨g, 0, none⟩ = some (.int .i64 (a : Nat)) ∧ w.cell? ⟨g, 1, none⟩ = some (.int .i64 (b : Nat)) ∧ w.cell? ⟨g, 2, none⟩ = some (.int .i64 (u : Nat)) ∧ w.cell? ⟨g, 3, none⟩ = some (.int .i64 (p : Nat))
theorem cell_in {w : World} {p : Addr} {v : Value} (h : w.cell? p = some v) : p.block < w.heap.size := by
  by_cases c : p.block < w.heap.size
  · exact c
  · exfalso
    unfold World.cell? at h
    rw [Array.getElem?_eq_none (by omega)] at h
    simp at h
theorem C4.below {w w' : World} {g a b u p : Nat} (h : C4 w g a b u p) (hb : Below w.heap.size w w') : C4 w' g a b u p :=
  ⟨(hb.cell (p := ⟨g, 0, none⟩) (cell_in h.1)).trans h.1, (hb.cell (p := ⟨g, 1, none⟩) (cell_in h.2.1)).trans h.2.1, (hb.cell (p := ⟨g, 2, none⟩) (cell_in h.2.2.1)).trans h.2.2.1, (hb.cell (p := ⟨g, 3, none⟩) (cell_in h.2.2.2)).trans h.2.2.2⟩
theorem C4.new (w : World) (a b u p : Nat) (t : TypeId) : C4 (w.alloc (.cells #[.int .i64 (a : Nat), .int .i64 (b : Nat), .int .i64 (u : Nat), .int .i64 (p : Nat)] t)) w.heap.size a b u p := by
  have h := wcells_new w #[.int .i64 (a : Nat), .int .i64 (b : Nat), .int .i64 (u : Nat), .int .i64 (p : Nat)] t
  exact ⟨(h.2 0 _ rfl).1, (h.2 1 _ rfl).1, (h.2 2 _ rfl).1, (h.2 3 _ rfl).1⟩
theorem C4.set {w : World} {g a b u p : Nat} (h : C4 w g a b u p) (q : Addr) (v : Value) (hq : g ≠ q.block) : C4 (w.setCell q v) g a b u p := by
  have e := Below.heap_setCell w q v g hq
  unfold C4 World.cell? at h ⊢
  simp only [e]
  exact h
def CU (w : World) (g u : Nat) (x : ByteArray) : Prop := w.cell? ⟨g, u, none⟩ = some (.string x) ∧ w.frozen? ⟨g, u, none⟩ = false
theorem CU.below {w w' : World} {g u : Nat} {x : ByteArray} (h : CU w g u x) (hb : Below w.heap.size w w') : CU w' g u x :=
  ⟨(hb.cell (p := ⟨g, u, none⟩) (cell_in h.1)).trans h.1, (hb.frozen (p := ⟨g, u, none⟩) (cell_in h.1)).trans h.2⟩
theorem CU.alloc {w : World} {g u : Nat} {x : ByteArray} (h : CU w g u x) (o : Obj) : CU (w.alloc o) g u x := h.below ((Below.refl _ _).alloc (Nat.le_refl _) o)
set_option maxRecDepth 100000 in
set_option maxHeartbeats 2000000 in
theorem implCutUnits (s : Int) (t : ByteArray) (w : World) (hts : t.size ≤ 1048576) : Calls Tw.prog 8 #[.int .i64 s, .string t] w fun e w' => TPost8 (cutX s t) w e w' := by
  obtain ⟨i0, hi0, hz0, hz1, hz2⟩ := info_parts infoTextG
  have HS := Shut.mk (fun W => implSch s W)
  unfold SchPost at HS
  have HG := Shut.mk (fun W => implSize s W)
  have hg32 := groupN_bounds s
  cases h : schOk s with
  | false =>
    have e0 : cutX s t = ([], false) := by unfold cutX; rw [if_neg (fun q => by rw [h] at q; cases q.1)]
    unfold TPost8
    rw [e0]
    rw [h] at HS
    clear h e0 hg32
    generalize schK s = k at *
    generalize schM s = m at *
    go_enter Tw.func8, Tw.ntmps8
    go_wp2_with fail
    refine (HS.out _).mono ?_
    rintro e w1 ⟨rfl, rfl⟩
    go_wp2_with fail
    go_ret2
    exact ⟨_, rfl, ⟨none, 0, rfl, Nat.le_refl _, .inl rfl⟩, Below.refl _ _⟩
  | true =>
    rw [h] at HS
    obtain ⟨b1, b2, _, _⟩ := sch_bounds h
    by_cases hz : t.size ≤ groupN s
    · have e0 : cutX s t = (cutL (schK s) t t.size, true) := by unfold cutX; rw [if_pos ⟨h, hz⟩]
      have HCE := Shut.mk (fun W => twCells s t.size (by omega) h W)
      have hk3 : schK s = 2 ∨ schK s = 3 ∨ schK s = 4 := by omega
      unfold TPost8
      rw [e0]
      have hz' : ¬ (groupN s : Int) < (t.size : Int) := by omega
      have ht32 : t.size ≤ 32 := by omega
      clear h e0
      generalize schM s = m at *
      generalize schK s = k at *
      generalize groupN s = S at *
      go_enter Tw.func8, Tw.ntmps8
      go_wp2_with fail
      refine (HS.out _).mono ?_
      rintro e w1 ⟨rfl, rfl⟩
      go_wp2_with fail
      refine (HG.out _).mono ?_
      rintro e w2 ⟨rfl, rfl⟩
      go_wp2_with (at_make; refine wpList_make_full _ rfl _ _ 26 rfl w2.heap.size 9 i0 _ 1 Tw.underlying26 hi0 hz0 hz1 .i64 .i64 _ _ k rfl rfl (by omega) (by omega) ?b2 ?b3 ?b4 ?_)
      case b2 => rw [hz2]; omega
      case b3 => unfold maxLen; omega
      case b4 => omega
      intro wm hownm hgrm
      have hbm : Below w2.heap.size w2 wm := (Below.refl _ _).grown hgrm (Nat.le_refl _) (fun j hj => by simp at hj)
      have hrow : WCells wm w2.heap.size (tv (cutL k t 0)) := by
        have h := own_wcells hownm
        have e : (madeCells #[Value.string ⟨#[]⟩] k).toList = tv (cutL k t 0) := by rw [toList_madeCells_one, cutL_0]; simp [tv]
        rw [e] at h
        exact h
      have HROW := Shut.mk hrow
      have HBM := Shut.mk hbm
      clear hownm hgrm hrow hbm
      go_wp2_with fail
      refine (HCE.out _).mono ?_
      rintro e w4 ⟨rfl, mm, hw4⟩
      have HC4 : Shut (w4.heap[wm.heap.size]? = some (.chan 32 (cellsK k t.size 9 0).toArray true mm 0 false)) := ⟨by rw [hw4]; exact heap_alloc_new _ _⟩
      have HROW4 : Shut (WCells w4 w2.heap.size (tv (cutL k t 0))) := ⟨by rw [hw4]; exact HROW.out.alloc _⟩
      have HBM4 : Shut (Below w2.heap.size w2 w4) := ⟨by rw [hw4]; exact HBM.out.alloc HBM.out.size _⟩
      have HGC : Shut (w2.heap.size ≤ wm.heap.size) := ⟨HBM.out.size⟩
      generalize wm.heap.size = gc at *
      clear hw4 HROW HBM HCE
      go_upto_region 6 with fail
      go_loopw [] (fun wr => ∃ (i f r : Nat), i % 4 = 0 ∧ t.size ≤ i + 4 * f ∧ Shut (wr.heap[gc]? = some (.chan 32 (cellsK k t.size f i).toArray true mm r false)) ∧ Shut (WCells wr w2.heap.size (tv (cutL k t (min i t.size)))) ∧ Shut (Below w2.heap.size w2 wr)) (fun wr => chLeft gc wr)
      case atStart => exact ⟨0, 9, 0, rfl, by omega, HC4, by rw [Nat.zero_min]; exact HROW4, HBM4⟩
      case round =>
        clear HC4 HROW4 HBM4
        obtain ⟨i, f, r, hi4, hfu, hch, hrow, hbo⟩ := hrel
        obtain ⟨wo, rfl⟩ : ∃ wo, wo = wr := ⟨_, rfl⟩
        refine wp_seq ?_
        have hne : w2.heap.size ≠ gc := cell_not hrow.out (by rw [tv_len, cutL_len]; omega) hch.out
        have hlc := chan_lt hch.out
        by_cases hlt : i < t.size
        · obtain ⟨f', hcs, hfu'⟩ := cellsK_more (k := k) hfu hlt
          have hchv := hch.out
          have hleft := chLeft_is hch.out
          rw [hcs] at hchv hleft
          rw [Nat.min_eq_left (show i ≤ t.size by omega)] at hrow
          refine wp_take (slot := 31) (pair := 32) (flag := 33) (c := gc) (twRc (by kernel_rfl) (by kernel_rfl) (by kernel_rfl)) (by rfl) (by simp) hchv ?_
          obtain ⟨wt, hwt⟩ : ∃ wt, wt = wo.setChan gc 32 (cellsK k t.size f' (i + 4)).toArray true mm (r + 1) false := ⟨_, rfl⟩
          rw [← hwt]
          have HCT : Shut (wt.heap[gc]? = some (.chan 32 (cellsK k t.size f' (i + 4)).toArray true mm (r + 1) false)) := ⟨by rw [hwt]; exact Go.Conc.heap_setChan _ _ _ _ _ _ _ _ hlc⟩
          have HBT : Shut (Below w2.heap.size w2 wt) := ⟨by rw [hwt]; exact Go.Conc.below_setChan hbo.out HGC.out _ _ _ _ _ _⟩
          have HRT : Shut (WCells wt w2.heap.size (tv (cutL k t i))) := ⟨by
            rw [hwt]
            refine ⟨by rw [Go.Conc.size_setChan]; exact hrow.out.1, fun j v hj => ?_⟩
            have e := Go.Proofs.Ytfhcpehfmecpjaa.set_other (w := wo) (c := gc) (cap := 32) (buf := (cellsK k t.size f' (i + 4)).toArray) (cl := true) (s := mm) (r := r + 1) (tm := false) hne
            have q := hrow.out.2 j v hj
            simp only [World.cell?, World.frozen?, e] at q ⊢
            exact q⟩
          have HLE : Shut (chLeft gc wo = (cellsK k t.size f' (i + 4)).length + 1) := ⟨by rw [hleft]; simp⟩
          clear hwt hch hrow hbo hchv hleft hcs
          have hul := unit_lt (show 0 < k by omega) i
          obtain ⟨j, hj⟩ : ∃ j, j = min (i + 4) t.size := ⟨_, rfl⟩
          have hst : (cutL k t i).set (unitAt k i) ((cutL k t i).getD (unitAt k i) ⟨#[]⟩ ++ t.extract i j) = cutL k t j := by
            have q := cut_cell hk3 (t := t) hi4 (j - i) (by omega) (by omega)
            rw [show i + (j - i) = j by omega] at q
            exact q
          have HCL := Shut.mk (HRT.out.2 (unitAt k i) _ (tv_get _ (unitAt k i) (by rw [cutL_len]; exact hul)))
          have HST := Shut.mk (fun (w5 : World) (hw5 : WCells w5 w2.heap.size (tv (cutL k t i))) => by
            have q := hw5.set (unitAt k i) (.string ((cutL k t i).getD (unitAt k i) ⟨#[]⟩ ++ t.extract i j)) (by rw [tv_len, cutL_len]; exact hul)
            rw [tv_set, hst] at q
            exact q)
          have hxs : ((cutL k t i).getD (unitAt k i) ⟨#[]⟩).size ≤ 32 := by rw [cutL_at hul]; exact Nat.le_trans (unitB_size k t i _) (by omega)
          have hys : (t.extract i j).size ≤ 32 := by simp; omega
          clear hst
          rw [← hj]
          generalize (cutL k t i).getD (unitAt k i) ⟨#[]⟩ = x at *
          generalize unitAt k i = u at *
          generalize placeIn k i = pl at *
          have hij : i ≤ j := by omega
          have hjn : j ≤ t.size := by omega
          have u0 : (0 : Int) ≤ (u : Int) := by omega
          have u1 : (u : Int) < (k : Int) := by omega
          have i0' : (0 : Int) ≤ (i : Int) := by omega
          have ij' : (i : Int) ≤ (j : Int) := by omega
          have jn' : (j : Int) ≤ (t.size : Int) := by omega
          have HJ := Shut.mk hj
          have HFB : Shut (t.size ≤ i + 4 + 4 * f') := ⟨hfu'⟩
          clear hj hfu' hfu hlt hi0 hz0 hz1 hz2 hz' hz
          have hc4 := C4.new wt i j u pl 48
          have hcu : CU (wt.alloc (.cells #[.int .i64 (i : Nat), .int .i64 (j : Nat), .int .i64 (u : Nat), .int .i64 (pl : Nat)] 48)) w2.heap.size u x := CU.alloc HCL.out _
          have hbt := HBT.out.size
          have hgl : w2.heap.size < wt.heap.size := HRT.out.1
          have HC4 := Shut.mk hc4
          have HCU := Shut.mk hcu
          clear HCL hc4 hcu
          unfold cellV
          go_wp2_with fail
          obtain ⟨wa, hwa⟩ : ∃ wa, wa = wt.alloc (.cells #[.int .i64 (i : Nat), .int .i64 (j : Nat), .int .i64 (u : Nat), .int .i64 (pl : Nat)] 48) := ⟨_, rfl⟩
          rw [← hwa] at HC4 HCU ⊢
          have HRA : Shut (WCells wa w2.heap.size (tv (cutL k t i))) := ⟨by rw [hwa]; exact (HRT.out.alloc _)⟩
          have HBA : Shut (Below w2.heap.size w2 wa) := ⟨by rw [hwa]; exact (HBT.out.alloc HBT.out.size _)⟩
          have HCA : Shut (wa.heap[gc]? = some (.chan 32 (cellsK k t.size f' (i + 4)).toArray true mm (r + 1) false)) := ⟨by rw [hwa]; exact chan_alloc HCT.out⟩
          clear hwa HRT HBT HCT hbt
          generalize wt.heap.size = gl at *
          have HGL : Shut (gl ≠ w2.heap.size) := ⟨by omega⟩
          have yU := HCU.out.1
          have hys' : (t.extract i j).size = j - i := by simp; omega
          obtain ⟨y0, y1, y2, y3⟩ := HC4.out
          have yF := HCU.out.2
          go_region_with (first | (go_at_call 25; refine (twClone _ _ ?_).mono ?_; (show (t.extract i j).size ≤ 281474976710656; omega); rintro e w6 ⟨rfl, hbA⟩; obtain ⟨yU6, yF6⟩ := CU.below (w := wa.drew) HCU.out hbA; obtain ⟨z0, z1, z2, z3⟩ := C4.below (w := wa.drew) HC4.out hbA))
          all_goals
            have F1 : Shut ((w6.setCell ⟨w2.heap.size, u, none⟩ (.string (x ++ t.extract i j))).heap[gc]? = some (.chan 32 (cellsK k t.size f' (i + 4)).toArray true mm (r + 1) false)) := ⟨(Below.heap_setCell _ _ _ _ (fun e => hne e.symm)).trans ((hbA.block gc (chan_lt HCA.out)).trans HCA.out)⟩
            have F2 : Shut (WCells (w6.setCell ⟨w2.heap.size, u, none⟩ (.string (x ++ t.extract i j))) w2.heap.size (tv (cutL k t (min (i + 4) t.size)))) := ⟨by rw [← HJ.out]; exact HST.out _ (WCells.grow (w := wa.drew) HRA.out.drawn hbA)⟩
            have F3 : Shut (Below w2.heap.size w2 (w6.setCell ⟨w2.heap.size, u, none⟩ (.string (x ++ t.extract i j)))) := ⟨((Below.drew HBA.out).trans (hbA.mono (Below.drew HBA.out).size)).setCell (p := ⟨w2.heap.size, u, none⟩) (Nat.le_refl _) _⟩
            clear hbA
            go_wp2_with fail
            exact ⟨⟨i + 4, f', r + 1, by omega, HFB.out, F1, F2, F3⟩, by rw [chLeft_is F1.out, HLE.out]; simp⟩
        · have e0 : cellsK k t.size f i = [] := cellsK_none (by omega) f
          have hchv := hch.out
          rw [e0] at hchv
          rw [Nat.min_eq_right (show t.size ≤ i by omega)] at hrow
          refine wp_shut (slot := 31) (pair := 32) (flag := 33) (c := gc) (twRc (by kernel_rfl) (by kernel_rfl) (by kernel_rfl)) (by rfl) (by simp) hchv ?_
          have HF : Shut (SAns wo (.slice (some ⟨w2.heap.size, 0, none⟩) k k) (cutL k t t.size) w2.heap.size wo.heap.size) := ⟨⟨_, k, by rw [cutL_len], by rw [cutL_len]; exact Nat.le_refl _, .inr ⟨_, rfl, Nat.le_refl _, hrow.out.1, hrow.out⟩⟩⟩
          clear hrow hch hchv e0
          go_wp2_with fail
          go_ret2
          exact ⟨_, rfl, HF.out, hbo.out⟩
    · have e0 : cutX s t = ([], false) := by unfold cutX; rw [if_neg (fun q => hz q.2)]
      unfold TPost8
      rw [e0]
      have hz' : (groupN s : Int) < (t.size : Int) := by omega
      clear h e0 hz
      generalize schK s = k at *
      generalize schM s = m at *
      generalize groupN s = S at *
      go_enter Tw.func8, Tw.ntmps8
      go_wp2_with fail
      refine (HS.out _).mono ?_
      rintro e w1 ⟨rfl, rfl⟩
      go_wp2_with fail
      refine (HG.out _).mono ?_
      rintro e w2 ⟨rfl, rfl⟩
      go_wp2_with fail
      go_ret2
      exact ⟨_, rfl, ⟨none, 0, rfl, Nat.le_refl _, .inl rfl⟩, Below.refl _ _⟩
end Go.Proofs.YtfhcpehfmecpjaaT
