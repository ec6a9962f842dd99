/- Texts of ours, laid one behind the other: LtG, LsAm, LawLs, LawLe. -/
import Derived.Test.YtcnjjbgilpgceaaPm7
import Derived.Deep.RegionHeld3
/- LtG: The program's own TakeLease (written by gen/mkltg.py). -/
namespace Go.Proofs.Ytcnjjbgilpgceaa
set_option maxRecDepth 100000
open Go.RowKit BigFrame
attribute [local go_sem ↓] Go.wp_at_zero Go.wp_at_succ

/-- A region that does not panic, in a function that defers. -/
theorem wp_region_calm {P : Program} {id : Nat} {ops : Array Oper} {dr : Bool} {Q : Exit → Act → World → Prop} {a : Act} {w : World} (h : (Code.region id ops dr).wp P (fun e b y => e = .normal ∧ Q .normal b y) a w) : (Code.region id ops dr).wp P Q a w :=
  Code.wp_mono (fun e b y h => by obtain ⟨rfl, h⟩ := h; exact h) h
theorem calm_no {c : List PanicEntry} {X Y : Prop} (h : Exit.panic c = .normal ∧ X) : Exit.panic c = .normal ∧ Y := by cases h.1
/-- What take leaves: whether it was taken; the table. -/
def TkPost (w0 : World) (tb : Nat) (R : List LsM × Bool) (e : Ending) (w' : World) : Prop := e = .returned (.bool R.2) ∧ ∃ v' m, OwS w0 w' [tbS tb 0 v'] 35 3 v' m (lsS R.1) ∧ m = R.1.length
theorem TkPost.mk {w0 : World} {tb : Nat} {R : List LsM × Bool} {e : Ending} {w' : World} {v : Value} {m : Nat} (h1 : e = .returned (.bool R.2)) (h2 : OwS w0 w' [tbS tb 0 v] 35 3 v m (lsS R.1)) (h3 : m = R.1.length) : TkPost w0 tb R e w' := ⟨h1, v, m, h2, h3⟩
theorem take_ok (L : List LsM) (p : ByteArray) (who now : Int) : takeOk L p who now = (leasesOk L && lsOne ⟨p, who, now⟩) := by
  unfold takeOk lsOne
  simp [Bool.and_assoc]
set_option maxRecDepth 100000 in
set_option maxHeartbeats 8000000 in
theorem implTakeT {w0 W : World} {tb n : Nat} {v : Value} {L : List LsM} (h : OwS w0 W [tbS tb 0 v] 35 3 v n (lsS L)) (hn : n = L.length) (hl : n ≤ 1048576) (hz : ∀ u ∈ L, u.path.size ≤ 1048576) (p : ByteArray) (who now : Int) (hp : p.size ≤ 1048576) :
    Calls Try.prog 39 #[.pointer (some ⟨tb, 0, none⟩), lsv ⟨p, who, now⟩] W fun e W' => TkPost w0 tb (takeX L p who now) e W' := by
  obtain ⟨av, cv, rfl⟩ := own_row_slice h.own
  have HN := Shut.mk hn
  have HX := Shut.mk (h.box #[.string p, .int .i64 who, .int .i64 now] 35)
  have HLO : Shut (∀ V a, LsRow V a L → Calls Try.prog 18 #[.slice a n cv] V fun e w' => e = .returned (.bool (leasesOk L)) ∧ Below V.heap.size V w') := ⟨fun V a hr => by rw [hn]; exact implLeasesOk L a cv V hr (by omega) hz⟩
  have HL1 := Shut.mk (fun V => implLeaseOk ⟨p, who, now⟩ V hp)
  have HTK := Shut.mk (take_ok L p who now)
  have HUP : Shut (leasesOk L = true → UpL L ∧ n ≤ 8) := ⟨fun h => ⟨upl_of_ok h, by have := leasesOk_len h; omega⟩⟩
  have HTI := Shut.mk (take_is (L := L) p who now)
  have HNO : Shut (takeOk L p who now = false → takeX L p who now = (L, false)) := ⟨fun h => by unfold takeX; rw [h]; rfl⟩
  obtain ⟨RR, hRR⟩ : ∃ q, q = takeX L p who now := ⟨_, rfl⟩
  rw [← hRR] at HTI HNO ⊢
  obtain ⟨lo, hlo⟩ : ∃ q, q = leasesOk L := ⟨_, rfl⟩
  obtain ⟨l1, hl1⟩ : ∃ q, q = lsOne ⟨p, who, now⟩ := ⟨_, rfl⟩
  rw [← hlo] at HLO HTK HUP
  rw [← hl1] at HL1 HTK
  rw [HTK.out] at HTI HNO
  obtain ⟨xb, hxb⟩ : ∃ q, q = W.heap.size := ⟨_, rfl⟩
  rw [← hxb] at HX
  clear h hn hz hp hRR hlo hl1 HTK
  go_enter_defers Try.func39, Try.ntmps39
  go_upto_region 1 with fail
  refine wp_shade (fun V => OwS w0 V [bxS xb [.string p, .int .i64 who, .int .i64 now], tbS tb 0 (.slice av n cv)] 35 3 (.slice av n cv) n (lsS L)) HX.out ?_
  intro V0 hV0
  rw [← hxb]
  obtain ⟨x0, z0⟩ := hV0.sl.bx 1 rfl 0 _ rfl
  have HW1 := Shut.mk (hV0.put 1 rfl 0 (.int .i32 1) (by simp))
  simp only [List.set_cons_zero, List.set_cons_succ] at HW1
  clear hV0 hxb HX
  go_upto_region 3 with (go_at_call 56; refine (Go.MuLone.lock_free muLib ⟨tb, 0, none⟩ _ x0 z0).mono ?_; rintro e w1 ⟨rfl, rfl⟩)
  refine wp_shade (fun V => OwS w0 V [bxS xb [.string p, .int .i64 who, .int .i64 now], tbS tb 1 (.slice av n cv)] 35 3 (.slice av n cv) n (lsS L)) HW1.out ?_
  intro W1 hW1
  have H1 := Shut.mk hW1
  have y2 := (hW1.sl.bx 1 rfl 2 _ rfl).1
  have hrow := (FRw.of_own hW1.own).1.crow
  have HRW := Shut.mk hrow
  clear HW1 hW1 x0 z0 hrow
  cases lo with
  | false =>
    have HE : Shut (RR = (L, false)) := ⟨HNO.out rfl⟩
    go_wp2_with (go_at_call 18; (with_reducible refine (HLO.out _ _ HRW.out).mono ?_); rintro e w2 ⟨rfl, hb⟩; have H2 := Shut.mk (H1.out.below hb); have q0 := (H2.out.sl.bx 0 rfl 0 _ rfl).1; have q1 := (H2.out.sl.bx 0 rfl 1 _ rfl).1; have q2 := (H2.out.sl.bx 0 rfl 2 _ rfl).1; clear hb y2)
    obtain ⟨r0, r1, r2⟩ := at_door2 H2.out.tail
    have HR : Shut (OwS w0 _ [tbS tb 0 _] 35 3 _ _ (lsS RR.1)) := ⟨by rw [HE.out]; exact r2⟩
    have HM : Shut (n = RR.1.length) := ⟨by rw [HE.out]; exact HN.out⟩
    clear r2
    refine leaves_cons (f := 57) (args := #[.pointer (some ⟨tb, 0, none⟩)]) (by simp) (by simp [go_sem]) ?_
    refine (Go.MuLone.unlock_deferred muLib ⟨tb, 0, none⟩ .returning _ r0 r1).mono ?_
    rintro e u' w'' ⟨rfl, rfl, rfl⟩
    exact ⟨_, results_tmp rfl _ _ _, TkPost.mk (by rw [HE.out]; rfl) HR.out HM.out⟩
  | true =>
  cases l1 with
  | false =>
    have HE : Shut (RR = (L, false)) := ⟨HNO.out rfl⟩
    go_wp2_with (first | (go_at_call 18; (with_reducible refine (HLO.out _ _ HRW.out).mono ?_); rintro e w2 ⟨rfl, hb⟩; have H2 := Shut.mk (H1.out.below hb); have q0 := (H2.out.sl.bx 0 rfl 0 _ rfl).1; have q1 := (H2.out.sl.bx 0 rfl 1 _ rfl).1; have q2 := (H2.out.sl.bx 0 rfl 2 _ rfl).1; clear hb y2) | (go_at_call 45; (with_reducible refine (HL1.out _).mono ?_); rintro e w3 ⟨rfl, hb⟩; have H3 := Shut.mk (H2.out.below hb); clear hb q0 q1 q2))
    obtain ⟨r0, r1, r2⟩ := at_door2 H3.out.tail
    have HR : Shut (OwS w0 _ [tbS tb 0 _] 35 3 _ _ (lsS RR.1)) := ⟨by rw [HE.out]; exact r2⟩
    have HM : Shut (n = RR.1.length) := ⟨by rw [HE.out]; exact HN.out⟩
    clear r2
    refine leaves_cons (f := 57) (args := #[.pointer (some ⟨tb, 0, none⟩)]) (by simp) (by simp [go_sem]) ?_
    refine (Go.MuLone.unlock_deferred muLib ⟨tb, 0, none⟩ .returning _ r0 r1).mono ?_
    rintro e u' w'' ⟨rfl, rfl, rfl⟩
    exact ⟨_, results_tmp rfl _ _ _, TkPost.mk (by rw [HE.out]; rfl) HR.out HM.out⟩
  | true =>
  replace HTI := Shut.mk (HTI.out rfl)
  obtain ⟨hup, hn8⟩ := HUP.out rfl
  have HUP9 := Shut.mk hup
  have HPL := Shut.mk (pos_low hup p)
  have HHI := Shut.mk (here_iff hup p)
  clear hup HNO HUP
  go_upto_region 5 with (first | (go_at_call 18; (with_reducible refine (HLO.out _ _ HRW.out).mono ?_); rintro e w2 ⟨rfl, hb⟩; have H2 := Shut.mk (H1.out.below hb); have q0 := (H2.out.sl.bx 0 rfl 0 _ rfl).1; have q1 := (H2.out.sl.bx 0 rfl 1 _ rfl).1; have q2 := (H2.out.sl.bx 0 rfl 2 _ rfl).1; clear hb y2) | (go_at_call 45; (with_reducible refine (HL1.out _).mono ?_); rintro e w3 ⟨rfl, hb⟩; have H3 := Shut.mk (H2.out.below hb); clear hb q0 q1 q2))
  have y2 := (H3.out.sl.bx 1 rfl 2 _ rfl).1
  have q0 := (H3.out.sl.bx 0 rfl 0 _ rfl).1
  have q1 := (H3.out.sl.bx 0 rfl 1 _ rfl).1
  have q2 := (H3.out.sl.bx 0 rfl 2 _ rfl).1
  have l3 : tb < w3.heap.size := (H3.out.sl.at 1 rfl).1
  have l4 : xb < w3.heap.size := (H3.out.sl.at 0 rfl).1
  have g2 : ∀ X : Grow w3, X.val.cell? ⟨tb, 2, none⟩ = some (.slice av n cv) := fun X => X.cell y2 l3
  have h0 : ∀ X : Grow w3, X.val.cell? ⟨xb, 0, none⟩ = some (.string p) := fun X => X.cell q0 l4
  have h1 : ∀ X : Grow w3, X.val.cell? ⟨xb, 1, none⟩ = some (.int .i64 who) := fun X => X.cell q1 l4
  have h2 : ∀ X : Grow w3, X.val.cell? ⟨xb, 2, none⟩ = some (.int .i64 now) := fun X => X.cell q2 l4
  have HBS := Shut.mk (fun X => calls_grow (w := w3) (fun W' (hb : Below w3.heap.size w3 W') => searchLease L av n cv ⟨p, who, now⟩ W' (FRw.of_own (H3.out.below hb).own).1.crow HN.out (by omega) HUP9.out) X)
  have HGR : Shut (∀ X : Grow w3, OwS w0 X.val [bxS xb [.string p, .int .i64 who, .int .i64 now], tbS tb 1 (.slice av n cv)] 35 3 (.slice av n cv) n (lsS L)) := ⟨fun X => H3.out.below X.bel⟩
  obtain ⟨at9, hat⟩ : ∃ q, q = posL L p := ⟨_, rfl⟩
  obtain ⟨hr9, hhr⟩ : ∃ q, q = hereL L p := ⟨_, rfl⟩
  rw [← hat] at HPL HHI HTI
  rw [← hhr] at HHI HTI
  have HBT : Shut (∀ X : Grow w3, _) := ⟨fun X => HBS.out X⟩
  dsimp only at HBT
  rw [← hat, ← hhr] at HBT
  clear y2 q0 q1 q2 l3 l4 HBS hat hhr
  refine wp_region_grow (by kernel_rfl) (by kernel_rfl) ?_
  repeat (go_big_quiet_step (first | (go_at_call 58; with_reducible exact HBT.out _)))
  refine wpQuiet_nil ?_
  rintro _ ⟨X, rfl⟩
  obtain ⟨w5, hw5⟩ : ∃ q, q = X.val := ⟨_, rfl⟩
  have H5 := Shut.mk (HGR.out X)
  rw [← hw5] at H5 ⊢
  clear g2 h0 h1 h2 HBT HGR hw5
  have hat0 : (0 : Int) ≤ (at9 : Int) := by omega
  have HAL : Shut (at9 ≤ n) := ⟨by rw [HN.out]; exact HPL.out.2.2⟩
  go_upto_region 6 with fail
  have y2 := (H5.out.sl.bx 1 rfl 2 _ rfl).1
  have q0 := (H5.out.sl.bx 0 rfl 0 _ rfl).1
  have q1 := (H5.out.sl.bx 0 rfl 1 _ rfl).1
  have q2 := (H5.out.sl.bx 0 rfl 2 _ rfl).1
  have l3 : tb < w5.heap.size := (H5.out.sl.at 1 rfl).1
  have l4 : xb < w5.heap.size := (H5.out.sl.at 0 rfl).1
  have g2 : ∀ X : Grow w5, X.val.cell? ⟨tb, 2, none⟩ = some (.slice av n cv) := fun X => X.cell y2 l3
  have h0 : ∀ X : Grow w5, X.val.cell? ⟨xb, 0, none⟩ = some (.string p) := fun X => X.cell q0 l4
  have h1 : ∀ X : Grow w5, X.val.cell? ⟨xb, 1, none⟩ = some (.int .i64 who) := fun X => X.cell q1 l4
  have h2 : ∀ X : Grow w5, X.val.cell? ⟨xb, 2, none⟩ = some (.int .i64 now) := fun X => X.cell q2 l4
  have HGR : Shut (∀ X : Grow w5, OwS w0 X.val [bxS xb [.string p, .int .i64 who, .int .i64 now], tbS tb 1 (.slice av n cv)] 35 3 (.slice av n cv) n (lsS L)) := ⟨fun X => H5.out.below X.bel⟩
  clear y2 q0 q1 q2 l3 l4
  cases hr9 with
  | true =>
    obtain ⟨hlt, -⟩ := HHI.out.1 rfl
    have hltn : at9 < n := by rw [HN.out]; exact hlt
    have hlti : (at9 : Int) < (n : Int) := by omega
    obtain ⟨g, rfl, g1, -, hw⟩ := frw_row (FRw.of_own H5.out.own).1 hlt
    have lg : g < w5.heap.size := hw.1
    have p0 : ∀ X : Grow w5, X.val.cell? ⟨g, at9 * 3, none⟩ = some (.string L[at9].path) := fun X => X.cell (hw.2 (at9 * 3) _ (flat_get lsC_len L at9 hlt 0 (by omega))).1 lg
    have p1 : ∀ X : Grow w5, X.val.cell? ⟨g, at9 * 3 + 1, none⟩ = some (.int .i64 L[at9].who) := fun X => X.cell (hw.2 (at9 * 3 + 1) _ (flat_get lsC_len L at9 hlt 1 (by omega))).1 lg
    have p2 : ∀ X : Grow w5, X.val.cell? ⟨g, at9 * 3 + 2, none⟩ = some (.int .i64 L[at9].seen) := fun X => X.cell (hw.2 (at9 * 3 + 2) _ (flat_get lsC_len L at9 hlt 2 (by omega))).1 lg
    have HTI2 : Shut (RR = if mayX L[at9] who now = true then (L.set at9 ⟨p, who, now⟩, true) else (L, false)) := ⟨by rw [HTI.out, if_pos rfl, getD_ls L at9 hlt]⟩
    have HML : Shut (at9 < L.length) := ⟨hlt⟩
    obtain ⟨u, hu⟩ : ∃ u, u = L[at9] := ⟨_, rfl⟩
    rw [← hu] at p0 p1 p2 HTI2
    have HMG := Shut.mk (fun X => calls_grow (w := w5) (fun W' (_ : Below w5.heap.size w5 W') => implMayGoTo u ⟨p, who, now⟩ W') X)
    dsimp only at HMG
    obtain ⟨mv, hmv⟩ : ∃ q, q = mayX u who now := ⟨_, rfl⟩
    rw [← hmv] at HTI2 HMG
    clear hw hu hmv hlt HTI g1 lg
    cases mv with
    | false =>
      have HE : Shut (RR = (L, false)) := ⟨by rw [HTI2.out]; rfl⟩
      refine wp_region_grow (by kernel_rfl) (by kernel_rfl) ?_
      repeat (go_big_quiet_step (first | (go_at_call 59; with_reducible exact HMG.out _)))
      refine wpQuiet_nil ?_
      rintro _ ⟨X, rfl⟩
      have H6 := Shut.mk (HGR.out X)
      clear g2 h0 h1 h2 p0 p1 p2
      go_wp2_with fail
      obtain ⟨r0, r1, r2⟩ := at_door2 H6.out.tail
      have HR : Shut (OwS w0 _ [tbS tb 0 _] 35 3 _ _ (lsS RR.1)) := ⟨by rw [HE.out]; exact r2⟩
      have HM : Shut (n = RR.1.length) := ⟨by rw [HE.out]; exact HN.out⟩
      clear r2
      refine leaves_cons (f := 57) (args := #[.pointer (some ⟨tb, 0, none⟩)]) (by simp) (by simp [go_sem]) ?_
      refine (Go.MuLone.unlock_deferred muLib ⟨tb, 0, none⟩ .returning _ r0 r1).mono ?_
      rintro e u' w'' ⟨rfl, rfl, rfl⟩
      exact ⟨_, results_tmp rfl _ _ _, TkPost.mk (by rw [HE.out]; rfl) HR.out HM.out⟩
    | true =>
      have HE : Shut (RR = (L.set at9 ⟨p, who, now⟩, true)) := ⟨by rw [HTI2.out]; rfl⟩
      refine wp_region_grow (by kernel_rfl) (by kernel_rfl) ?_
      repeat (go_big_quiet_step (first | (go_at_call 59; with_reducible exact HMG.out _)))
      refine wpQuiet_nil ?_
      rintro _ ⟨X, rfl⟩
      obtain ⟨w6, hw6⟩ : ∃ q, q = X.val := ⟨_, rfl⟩
      have H6 := Shut.mk (HGR.out X)
      rw [← hw6] at H6 ⊢
      clear g2 h0 h1 h2 p0 p1 p2 HGR hw6
      go_upto_region 7 with fail
      have HTX : Shut (∀ x, Later w6.drew x → OwS w0 x [bxS xb [.string p, .int .i64 who, .int .i64 now], tbS tb 1 (.slice (some ⟨g, 0, none⟩) n cv)] 35 3 (.slice (some ⟨g, 0, none⟩) n cv) n (lsS L)) := ⟨fun x hx => H6.out.below ((Below.drew (Below.refl _ _)).trans hx)⟩
      have HLE : Shut (∀ x, Later w6.drew x → x.cell? ⟨tb, 2, none⟩ = some (.slice (some ⟨g, 0, none⟩) n cv) ∧ x.cell? ⟨xb, 0, none⟩ = some (.string p) ∧ x.cell? ⟨xb, 1, none⟩ = some (.int .i64 who) ∧ x.cell? ⟨xb, 2, none⟩ = some (.int .i64 now)) := ⟨fun x hx => ⟨((HTX.out x hx).sl.bx 1 rfl 2 _ rfl).1, ((HTX.out x hx).sl.bx 0 rfl 0 _ rfl).1, ((HTX.out x hx).sl.bx 0 rfl 1 _ rfl).1, ((HTX.out x hx).sl.bx 0 rfl 2 _ rfl).1⟩⟩
      refine wp_region_calm ?_
      refine wp_region_tail 7 (by kernel_rfl) ?_
      refine wpK_val (i := 0) (v := ?vr70) rfl (by kernel_rfl) (by kernel_rfl) (by kernel_rfl) (by kernel_rfl) (fun _ _ _ h => calm_no h) (by rfl) ?hyr70 ?restr70
      case hyr70 => (intro x hx; obtain ⟨d0, e0, e1, e2⟩ := HLE.out x hx; go_simp; try with_reducible rfl)
      try simp only [Act.put, List.setIfInBounds_toArray, List.set_cons_zero, List.set_cons_succ]
      refine wpK_val (i := 1) (v := ?vr71) rfl (by kernel_rfl) (by kernel_rfl) (by kernel_rfl) (by kernel_rfl) (fun _ _ _ h => calm_no h) (by rfl) ?hyr71 ?restr71
      case hyr71 => (intro x hx; obtain ⟨d0, e0, e1, e2⟩ := HLE.out x hx; go_simp; try with_reducible rfl)
      try simp only [Act.put, List.setIfInBounds_toArray, List.set_cons_zero, List.set_cons_succ]
      refine wpK_val (i := 2) (v := ?vr72) rfl (by kernel_rfl) (by kernel_rfl) (by kernel_rfl) (by kernel_rfl) (fun _ _ _ h => calm_no h) (by rfl) ?hyr72 ?restr72
      case hyr72 => (intro x hx; obtain ⟨d0, e0, e1, e2⟩ := HLE.out x hx; go_simp; try with_reducible rfl)
      try simp only [Act.put, List.setIfInBounds_toArray, List.set_cons_zero, List.set_cons_succ]
      refine wpK_val (i := 3) (v := ?vr73) rfl (by kernel_rfl) (by kernel_rfl) (by kernel_rfl) (by kernel_rfl) (fun _ _ _ h => calm_no h) (by rfl) ?hyr73 ?restr73
      case hyr73 => (intro x hx; obtain ⟨d0, e0, e1, e2⟩ := HLE.out x hx; go_simp; try with_reducible rfl)
      try simp only [Act.put, List.setIfInBounds_toArray, List.set_cons_zero, List.set_cons_succ]
      refine wpK_val (i := 4) (v := ?vr74) rfl (by kernel_rfl) (by kernel_rfl) (by kernel_rfl) (by kernel_rfl) (fun _ _ _ h => calm_no h) (by rfl) ?hyr74 ?restr74
      case hyr74 => (intro x hx; obtain ⟨d0, e0, e1, e2⟩ := HLE.out x hx; go_simp; try with_reducible rfl)
      try simp only [Act.put, List.setIfInBounds_toArray, List.set_cons_zero, List.set_cons_succ]
      refine wpK_val (i := 5) (v := ?vr75) rfl (by kernel_rfl) (by kernel_rfl) (by kernel_rfl) (by kernel_rfl) (fun _ _ _ h => calm_no h) (by rfl) ?hyr75 ?restr75
      case hyr75 => (intro x hx; obtain ⟨d0, e0, e1, e2⟩ := HLE.out x hx; go_simp; try with_reducible rfl)
      try simp only [Act.put, List.setIfInBounds_toArray, List.set_cons_zero, List.set_cons_succ]
      refine wpK_val (i := 6) (v := ?vr76) rfl (by kernel_rfl) (by kernel_rfl) (by kernel_rfl) (by kernel_rfl) (fun _ _ _ h => calm_no h) (by rfl) ?hyr76 ?restr76
      case hyr76 => (intro x hx; obtain ⟨d0, e0, e1, e2⟩ := HLE.out x hx; go_simp; try with_reducible rfl)
      try simp only [Act.put, List.setIfInBounds_toArray, List.set_cons_zero, List.set_cons_succ]
      refine wpK_tail (by kernel_rfl) ?_
      intro y hy
      have HY := Shut.mk (HTX.out y hy)
      have hwy := own_wcells HY.out.own
      have hlt := HML.out
      obtain ⟨z0, zf0⟩ := hwy.2 (at9 * 3) _ (flat_get lsC_len L at9 hlt 0 (by omega))
      obtain ⟨z1, zf1⟩ := hwy.2 (at9 * 3 + 1) _ (flat_get lsC_len L at9 hlt 1 (by omega))
      obtain ⟨z2, zf2⟩ := hwy.2 (at9 * 3 + 2) _ (flat_get lsC_len L at9 hlt 2 (by omega))
      have HS := Shut.mk (HY.out.lease at9 hlt ⟨p, who, now⟩)
      have HSL : Shut (n = (L.set at9 (⟨p, who, now⟩ : LsM)).length) := ⟨by rw [List.length_set]; exact HN.out⟩
      clear hwy hy
      refine wpA_store (y := ((y.setCell ⟨g, at9 * 3, none⟩ (.string p)).setCell ⟨g, at9 * 3 + 1, none⟩ (.int .i64 who)).setCell ⟨g, at9 * 3 + 2, none⟩ (.int .i64 now)) (i := 7) (by kernel_rfl) rfl (by rfl) (by go_simp) (by kernel_rfl) ?_
      try simp only [Act.put]
      refine ⟨by trivial, ?_⟩
      clear z0 zf0 z1 zf1 z2 zf2
      go_wp2_with fail
      obtain ⟨r0, r1, r2⟩ := at_door2 HS.out.tail
      have HR : Shut (OwS w0 _ [tbS tb 0 _] 35 3 _ _ (lsS RR.1)) := ⟨by rw [HE.out]; exact r2⟩
      have HM : Shut (n = RR.1.length) := ⟨by rw [HE.out]; exact HSL.out⟩
      clear r2
      refine leaves_cons (f := 57) (args := #[.pointer (some ⟨tb, 0, none⟩)]) (by simp) (by simp [go_sem]) ?_
      refine (Go.MuLone.unlock_deferred muLib ⟨tb, 0, none⟩ .returning _ r0 r1).mono ?_
      rintro e u' w'' ⟨rfl, rfl, rfl⟩
      exact ⟨_, results_tmp rfl _ _ _, TkPost.mk (by rw [HE.out]; rfl) HR.out HM.out⟩
  | false =>
    have HTI2 : Shut (RR = if L.length = 8 then (L, false) else (L.take at9 ++ [(⟨p, who, now⟩ : LsM)] ++ L.drop at9, true)) := ⟨by rw [HTI.out]; rfl⟩
    refine wp_region_grow (by kernel_rfl) (by kernel_rfl) ?_
    repeat (go_big_quiet_step (fail))
    refine wpQuiet_nil ?_
    rintro _ ⟨X, rfl⟩
    obtain ⟨w6, hw6⟩ : ∃ q, q = X.val := ⟨_, rfl⟩
    have H6 := Shut.mk (HGR.out X)
    rw [← hw6] at H6 ⊢
    have y2 := (H6.out.sl.bx 1 rfl 2 _ rfl).1
    clear g2 h0 h1 h2 HGR hw6
    by_cases h8 : n < 8
    · have h8' : decide ((n : Int) < 8) = true := by simp; omega
      have h8i : (n : Int) < 8 := by omega
      have HE : Shut (RR = (L.take at9 ++ [(⟨p, who, now⟩ : LsM)] ++ L.drop at9, true)) := ⟨by rw [HTI2.out, if_neg (by have := HN.out; omega)]⟩
      have HSL : Shut (n + 1 = (L.take at9 ++ [(⟨p, who, now⟩ : LsM)] ++ L.drop at9).length) := ⟨by
        have h1 := HAL.out
        have h2 := HN.out
        simp only [List.length_append, List.length_take, List.length_drop, List.length_cons, List.length_nil]
        omega⟩
      go_upto_region 10 with fail
      clear y2
      have HTX : Shut (∀ x, Later w6.drew x → OwS w0 x [bxS xb [.string p, .int .i64 who, .int .i64 now], tbS tb 1 (.slice av n cv)] 35 3 (.slice av n cv) n (lsS L)) := ⟨fun x hx => H6.out.below ((Below.drew (Below.refl _ _)).trans hx)⟩
      have HLE : Shut (∀ x, Later w6.drew x → x.cell? ⟨tb, 2, none⟩ = some (.slice av n cv) ∧ x.cell? ⟨xb, 0, none⟩ = some (.string p) ∧ x.cell? ⟨xb, 1, none⟩ = some (.int .i64 who) ∧ x.cell? ⟨xb, 2, none⟩ = some (.int .i64 now)) := ⟨fun x hx => ⟨((HTX.out x hx).sl.bx 1 rfl 2 _ rfl).1, ((HTX.out x hx).sl.bx 0 rfl 0 _ rfl).1, ((HTX.out x hx).sl.bx 0 rfl 1 _ rfl).1, ((HTX.out x hx).sl.bx 0 rfl 2 _ rfl).1⟩⟩
      refine wp_region_calm ?_
      refine wp_region_set (fun j => decide (j = 0) || decide (8 ≤ j)) (by kernel_rfl) ?_
      refine wpD_pure (i := 0) (v := ?vz0) rfl (by kernel_rfl) (by kernel_rfl) (by kernel_rfl) (by kernel_rfl) (fun _ _ _ h => calm_no h) (by rfl) ?hyz0 ?restz0
      case hyz0 => (intro x; go_simp; try with_reducible rfl)
      try simp only [Act.put, List.setIfInBounds_toArray, List.set_cons_zero, List.set_cons_succ]
      refine wpD_val (i := 1) (v := ?vz1) rfl (by kernel_rfl) (by kernel_rfl) (by kernel_rfl) (by kernel_rfl) (fun _ _ _ h => calm_no h) (by rfl) ?hyz1 ?restz1
      case hyz1 => (intro x hx; obtain ⟨d0, e0, e1, e2⟩ := HLE.out x hx; go_simp; try with_reducible rfl)
      try simp only [Act.put, List.setIfInBounds_toArray, List.set_cons_zero, List.set_cons_succ]
      refine wpD_val (i := 2) (v := ?vz2) rfl (by kernel_rfl) (by kernel_rfl) (by kernel_rfl) (by kernel_rfl) (fun _ _ _ h => calm_no h) (by rfl) ?hyz2 ?restz2
      case hyz2 => (intro x hx; obtain ⟨d0, e0, e1, e2⟩ := HLE.out x hx; go_simp; try with_reducible rfl)
      try simp only [Act.put, List.setIfInBounds_toArray, List.set_cons_zero, List.set_cons_succ]
      refine wpD_val (i := 3) (v := ?vz3) rfl (by kernel_rfl) (by kernel_rfl) (by kernel_rfl) (by kernel_rfl) (fun _ _ _ h => calm_no h) (by rfl) ?hyz3 ?restz3
      case hyz3 => (intro x hx; obtain ⟨d0, e0, e1, e2⟩ := HLE.out x hx; go_simp; try with_reducible rfl)
      try simp only [Act.put, List.setIfInBounds_toArray, List.set_cons_zero, List.set_cons_succ]
      refine wpD_val (i := 4) (v := ?vz4) rfl (by kernel_rfl) (by kernel_rfl) (by kernel_rfl) (by kernel_rfl) (fun _ _ _ h => calm_no h) (by rfl) ?hyz4 ?restz4
      case hyz4 => (intro x hx; obtain ⟨d0, e0, e1, e2⟩ := HLE.out x hx; go_simp; try with_reducible rfl)
      try simp only [Act.put, List.setIfInBounds_toArray, List.set_cons_zero, List.set_cons_succ]
      refine wpD_val (i := 5) (v := ?vz5) rfl (by kernel_rfl) (by kernel_rfl) (by kernel_rfl) (by kernel_rfl) (fun _ _ _ h => calm_no h) (by rfl) ?hyz5 ?restz5
      case hyz5 => (intro x hx; obtain ⟨d0, e0, e1, e2⟩ := HLE.out x hx; go_simp; try with_reducible rfl)
      try simp only [Act.put, List.setIfInBounds_toArray, List.set_cons_zero, List.set_cons_succ]
      refine wpD_val (i := 6) (v := ?vz6) rfl (by kernel_rfl) (by kernel_rfl) (by kernel_rfl) (by kernel_rfl) (fun _ _ _ h => calm_no h) (by rfl) ?hyz6 ?restz6
      case hyz6 => (intro x hx; obtain ⟨d0, e0, e1, e2⟩ := HLE.out x hx; go_simp; try with_reducible rfl)
      try simp only [Act.put, List.setIfInBounds_toArray, List.set_cons_zero, List.set_cons_succ]
      refine wpD_one (i := 7) (by kernel_rfl) rfl (by rfl) (fun x2 hx2 => ⟨.slice (some ⟨x2.heap.size, 0, none⟩) 1 1, x2.alloc (.cells #[.string p, .int .i64 who, .int .i64 now] 35), by go_simp, (Below.refl _ _).alloc (Nat.le_refl _) _, ?_⟩)
      have HY2 := Shut.mk ((HTX.out x2 hx2).box #[.string p, .int .i64 who, .int .i64 now] 35)
      have HVB := Shut.mk (heap_alloc_new x2 (.cells #[.string p, .int .i64 who, .int .i64 now] 35 (0, 0)))
      obtain ⟨vb, hvb⟩ : ∃ q, q = x2.heap.size := ⟨_, rfl⟩
      have hlb : vb < (x2.alloc (.cells #[.string p, .int .i64 who, .int .i64 now] 35)).heap.size := by rw [hvb]; simp
      rw [← hvb] at HY2 HVB ⊢
      clear hx2 hvb HLE HTX
      try simp only [Act.put, List.setIfInBounds_toArray, List.set_cons_zero, List.set_cons_succ]
      refine wpD_tail (by kernel_rfl) ?_
      intro y hy
      have HY := Shut.mk (HY2.out.below hy)
      have HVY := Shut.mk ((hy.block vb hlb).trans HVB.out)
      have hwx : ([.string p, .int .i64 who, .int .i64 now] : List Value) = lsC ⟨p, who, now⟩ := rfl
      rw [hwx] at HY
      have HIN := Shut.mk (insertLease HY.out HVY.out HN.out (by omega) HAL.out)
      clear hy hlb HY2 HVB HVY hwx
      refine wpA_mid (f := 60) (args := #[.slice av n cv, .int .i64 (at9 : Nat), .slice (some ⟨vb, 0, none⟩) 1 1]) (i := 8) (by kernel_rfl) rfl (by rfl) (by go_simp) (HIN.out.mono ?_)
      rintro e z ⟨v', rfl, hz⟩
      refine ⟨_, rfl, ?_⟩
      have HZ := Shut.mk hz
      obtain ⟨z2, zf2⟩ := hz.sl.bx 2 rfl 2 _ rfl
      have HP := Shut.mk (hz.tail.put 1 rfl 2 v' (by simp))
      simp only [List.set_cons_zero, List.set_cons_succ] at HP
      obtain ⟨av', cv', rfl⟩ := own_row_slice hz.own
      clear hz HIN HY
      try simp only [Act.put, List.setIfInBounds_toArray, List.set_cons_zero, List.set_cons_succ]
      refine wpA_val (i := 9) (v := .pointer (some ⟨tb, 0, none⟩)) rfl (by kernel_rfl) (by kernel_rfl) (by kernel_rfl) (fun _ _ _ h => calm_no h) (by rfl) (fun x => by go_simp) ?_
      try simp only [Act.put, List.setIfInBounds_toArray, List.set_cons_zero, List.set_cons_succ]
      refine wpA_val (i := 10) (v := .pointer (some ⟨tb, 2, none⟩)) rfl (by kernel_rfl) (by kernel_rfl) (by kernel_rfl) (fun _ _ _ h => calm_no h) (by rfl) (fun x => by go_simp) ?_
      try simp only [Act.put, List.setIfInBounds_toArray, List.set_cons_zero, List.set_cons_succ]
      refine wpA_store (y := z.setCell ⟨tb, 2, none⟩ (.slice av' (n + 1) cv')) (i := 11) (by kernel_rfl) rfl (by rfl) (by go_simp) (by kernel_rfl) ?_
      try simp only [Act.put]
      refine ⟨by trivial, ?_⟩
      clear z2 zf2 HZ
      go_wp2_with fail
      obtain ⟨r0, r1, r2⟩ := at_door2 HP.out.tail
      have HR : Shut (OwS w0 _ [tbS tb 0 _] 35 3 _ _ (lsS RR.1)) := ⟨by rw [HE.out]; exact r2⟩
      have HM : Shut (n + 1 = RR.1.length) := ⟨by rw [HE.out]; exact HSL.out⟩
      clear r2
      refine leaves_cons (f := 57) (args := #[.pointer (some ⟨tb, 0, none⟩)]) (by simp) (by simp [go_sem]) ?_
      refine (Go.MuLone.unlock_deferred muLib ⟨tb, 0, none⟩ .returning _ r0 r1).mono ?_
      rintro e u' w'' ⟨rfl, rfl, rfl⟩
      exact ⟨_, results_tmp rfl _ _ _, TkPost.mk (by rw [HE.out]; rfl) HR.out HM.out⟩
    · have h8' : decide ((n : Int) < 8) = false := by simp; omega
      have h8i : ¬ (n : Int) < 8 := by omega
      have HE : Shut (RR = (L, false)) := ⟨by rw [HTI2.out, if_pos (by have := HN.out; omega)]⟩
      go_wp2_with fail
      obtain ⟨r0, r1, r2⟩ := at_door2 H6.out.tail
      have HR : Shut (OwS w0 _ [tbS tb 0 _] 35 3 _ _ (lsS RR.1)) := ⟨by rw [HE.out]; exact r2⟩
      have HM : Shut (n = RR.1.length) := ⟨by rw [HE.out]; exact HN.out⟩
      clear r2
      refine leaves_cons (f := 57) (args := #[.pointer (some ⟨tb, 0, none⟩)]) (by simp) (by simp [go_sem]) ?_
      refine (Go.MuLone.unlock_deferred muLib ⟨tb, 0, none⟩ .returning _ r0 r1).mono ?_
      rintro e u' w'' ⟨rfl, rfl, rfl⟩
      exact ⟨_, results_tmp rfl _ _ _, TkPost.mk (by rw [HE.out]; rfl) HR.out HM.out⟩
set_option maxRecDepth 100000 in
theorem implTakeLease (us : List LsM) (a : Option Addr) (cap : Nat) (p : ByteArray) (who now : Int) (w : World) (hr : LsRow w a us) (hl : us.length ≤ 1048576) (hz : ∀ u ∈ us, u.path.size ≤ 1048576) (hp : p.size ≤ 1048576) (_ : -9223372036854775808 ≤ who ∧ who ≤ 9223372036854775807) (_ : -9223372036854775808 ≤ now ∧ now ≤ 9223372036854775807) :
    Calls Try.prog 13 #[.slice a us.length cap, .string p, .int .i64 who, .int .i64 now] w fun e w' => LbPost (takeX us p who now) w e w' := by
  have HT := Shut.mk (implTableOf us a cap w hr hl)
  have HZ0 := Shut.mk hz
  have HZ : Shut (∀ u ∈ (takeX us p who now).1, u.path.size ≤ 1048576) := ⟨fun u hu => by
    unfold takeX at hu
    split at hu
    · split at hu
      · split at hu
        · exact hz u hu
        · rcases List.mem_or_eq_of_mem_set hu with h | h
          · exact hz u h
          · rw [h]
            rename_i hlt _
            show (us.getD (lsIdx us p) default).path.size ≤ 1048576
            rw [getD_ls us _ hlt]
            exact hz _ (List.getElem_mem hlt)
      · split at hu
        · exact hz u hu
        · simp only [List.mem_append, List.mem_singleton] at hu
          rcases hu with (h | h) | h
          · exact hz u (List.mem_filter.1 h).1
          · rw [h]; exact hp
          · exact hz u (List.mem_filter.1 h).1
    · exact hz u hu⟩
  have HLE := Shut.mk (takeX_len us p who now)
  obtain ⟨n, hn⟩ : ∃ n, n = us.length := ⟨_, rfl⟩
  have HN := Shut.mk hn
  have HTK : Shut (∀ (W : World) (tb : Nat) (v : Value), OwS w W [tbS tb 0 v] 35 3 v n (lsS us) → Calls Try.prog 39 #[.pointer (some ⟨tb, 0, none⟩), lsv ⟨p, who, now⟩] W fun e W' => TkPost w tb (takeX us p who now) e W') := ⟨fun W tb v h => implTakeT h hn (by omega) hz p who now hp⟩
  rw [← hn] at HT hl HLE ⊢
  generalize takeX us p who now = RR at HZ HLE HTK ⊢
  clear hr hn hz hp
  go_enter Try.func13, Try.ntmps13
  go_wp2_with (first
    | (go_at_call 38; refine HT.out.mono ?_; rintro e w1 ⟨tb, v, rfl, ho⟩; have HO := Shut.mk ho; clear ho)
    | (go_at_call 39; refine (HTK.out _ _ _ HO.out).mono ?_; rintro e w2 ⟨rfl, v2, m2, ho, hm⟩; have HO2 := Shut.mk ho; have HM2 := Shut.mk hm; clear ho hm)
    | (go_at_call 40; refine (implTold HO2.out HM2.out (by have := HLE.out; have := HM2.out; omega) HZ.out).mono ?_; rintro e w3 ⟨a3, c3, rfl, hp⟩; have HP := Shut.mk hp; clear hp))
  go_ret2
  exact ⟨a3, c3, rfl, HP.out⟩
end Go.Proofs.Ytcnjjbgilpgceaa
/- LsAm: Rows of Leases: marks that are laid into one, and found again (written by gen/mkflat.py). -/
namespace Go.Proofs.Ytcnjjbgilpgceaa
set_option maxRecDepth 100000
open Go.RowKit
attribute [local go_sem ↓] Go.wp_at_zero Go.wp_at_succ

def markL (k : Nat) : LsM := ⟨mt (k), ((k + 1 : Nat) : Int), ((k + 2 : Nat) : Int)⟩
def marksL (k n : Nat) : List LsM := (List.range n).map fun j => markL (k + 3 * j)
theorem marksL_len (k n : Nat) : (marksL k n).length = n := by simp [marksL]
theorem marksL_at (k n j : Nat) (h : j < (marksL k n).length) : (marksL k n)[j] = markL (k + 3 * j) := by simp [marksL]
theorem marksL_all {k n : Nat} {ys : List LsM} (hl : ys.length = n) (h : ∀ t, t < n → ys[t]? = some (markL (k + 3 * t))) : ys = marksL k n := by
  apply List.ext_getElem
  · rw [hl, marksL_len]
  · intro i h1 h2
    rw [marksL_at]
    have := h i (by omega)
    rw [List.getElem?_eq_getElem h1] at this
    exact Option.some.inj this
theorem markLeaseS_zero (a : Option Addr) (k ca : Nat) (w : World) :
    Calls Try.prog 26 #[.slice a 0 ca, .int .i64 k] w fun e w' => e = .returned (.int .i64 k) ∧ w' = w := by
  go_enter Try.func26, Try.ntmps26
  go_wp2_with fail
  go_rounds 1
  go_ret
  exact ⟨rfl, rfl⟩
set_option maxHeartbeats 1000000 in
theorem markLeaseS_all (g : Nat) (xs : List LsM) (k ca : Nat) (w : World) (ha : WCells w g (lsS xs)) (hk : 0 < k) (hn : k + 3 * xs.length ≤ 1000000000) (hca : xs.length ≤ ca) :
    Calls Try.prog 26 #[.slice (some ⟨g, 0, none⟩) xs.length ca, .int .i64 k] w fun e w' => e = .returned (.int .i64 (k + 3 * xs.length : Nat)) ∧ WCells w' g (lsS (marksL k xs.length)) ∧ w.grownBy w' (some g) := by
  obtain ⟨n, hnx⟩ : ∃ n, n = xs.length := ⟨_, rfl⟩
  have HN := Shut.mk hnx
  rw [← hnx]
  rw [← hnx] at hn hca
  clear hnx
  have HA := Shut.mk ha
  clear ha
  go_enter Try.func26, Try.ntmps26
  go_wp2_with fail
  go_loopw [1, 5] (fun c i wr => ∃ (j : Nat) (ys : List LsM), i = .int .i64 j ∧ c = .int .i64 (k + 3 * j : Nat) ∧ j ≤ n ∧ Shut (ys.length = n ∧ (∀ t, t < j → ys[t]? = some (markL (k + 3 * t))) ∧ WCells wr g (lsS ys) ∧ w.grownBy wr (some g))) (fun _ i _ => n - (intOf i).toNat)
  case atStart => exact ⟨0, xs, rfl, rfl, Nat.zero_le _, ⟨HN.out.symm, fun t ht => by omega, HA.out, grownBy_below (Below.refl _ _)⟩⟩
  case round =>
    obtain ⟨j, ys, rfl, rfl, hj, HH⟩ := hrel
    by_cases hlt : j < n
    · have j0 : (0 : Int) ≤ (j : Int) := by omega
      have j1 : (j : Int) < (n : Int) := by omega
      have hly : (lsS ys).length = n * 3 := by rw [lsS_len, HH.out.1]
      have hw0 := HH.out.2.2.1
      have Q0 : Shut (∀ W : World, Calls Try.prog 53 #[.int .i64 ((k : Int) + 3 * (j : Int))] W fun e w' => e = .returned (.string (mt (k + 3 * j))) ∧ Below W.heap.size W w') := ⟨fun W => by
        have q := markText_any (k + 3 * j) W (by omega) (by omega)
        rwa [show ((k + 3 * j : Nat) : Int) = (k : Int) + 3 * (j : Int) by push_cast; omega] at q⟩
      go_wp2_with fail
      refine (Q0.out _).mono ?_
      rintro e w0 ⟨rfl, hb0⟩
      have hv0 := hw0.grow hb0
      obtain ⟨c0, z0⟩ := hv0.2 (j * 3) _ (List.getElem?_eq_getElem (by first | omega | (simp only [List.length_set]; omega)))
      have HS0 : Shut (WCells (w0.setCell ⟨g, j * 3, none⟩ (.string (mt (k + 3 * j)))) g ((lsS ys).set (j * 3) (.string (mt (k + 3 * j))))) := ⟨hv0.set (j * 3) _ (by first | omega | (simp only [List.length_set]; omega))⟩
      have HG0 : Shut (w.grownBy (w0.setCell ⟨g, j * 3, none⟩ (.string (mt (k + 3 * j)))) (some g)) := ⟨(grownBy_two (grownBy_two HH.out.2.2.2 (grownBy_below hb0)) (grownBy_setCell _ g _ _))⟩
      obtain ⟨c1, z1⟩ := HS0.out.2 (j * 3 + 1) _ (List.getElem?_eq_getElem (by first | omega | (simp only [List.length_set]; omega)))
      have HS1 : Shut (WCells ((w0.setCell ⟨g, j * 3, none⟩ (.string (mt (k + 3 * j)))).setCell ⟨g, j * 3 + 1, none⟩ (.int .i64 ((k : Int) + 3 * (j : Int) + 1))) g (((lsS ys).set (j * 3) (.string (mt (k + 3 * j)))).set (j * 3 + 1) (.int .i64 ((k : Int) + 3 * (j : Int) + 1)))) := ⟨HS0.out.set (j * 3 + 1) _ (by first | omega | (simp only [List.length_set]; omega))⟩
      have HG1 : Shut (w.grownBy ((w0.setCell ⟨g, j * 3, none⟩ (.string (mt (k + 3 * j)))).setCell ⟨g, j * 3 + 1, none⟩ (.int .i64 ((k : Int) + 3 * (j : Int) + 1))) (some g)) := ⟨(grownBy_two HG0.out (grownBy_setCell _ g _ _))⟩
      obtain ⟨c2, z2⟩ := HS1.out.2 (j * 3 + 2) _ (List.getElem?_eq_getElem (by first | omega | (simp only [List.length_set]; omega)))
      have HS2 : Shut (WCells (((w0.setCell ⟨g, j * 3, none⟩ (.string (mt (k + 3 * j)))).setCell ⟨g, j * 3 + 1, none⟩ (.int .i64 ((k : Int) + 3 * (j : Int) + 1))).setCell ⟨g, j * 3 + 2, none⟩ (.int .i64 ((k : Int) + 3 * (j : Int) + 1 + 1))) g ((((lsS ys).set (j * 3) (.string (mt (k + 3 * j)))).set (j * 3 + 1) (.int .i64 ((k : Int) + 3 * (j : Int) + 1))).set (j * 3 + 2) (.int .i64 ((k : Int) + 3 * (j : Int) + 1 + 1)))) := ⟨HS1.out.set (j * 3 + 2) _ (by first | omega | (simp only [List.length_set]; omega))⟩
      have HG2 : Shut (w.grownBy (((w0.setCell ⟨g, j * 3, none⟩ (.string (mt (k + 3 * j)))).setCell ⟨g, j * 3 + 1, none⟩ (.int .i64 ((k : Int) + 3 * (j : Int) + 1))).setCell ⟨g, j * 3 + 2, none⟩ (.int .i64 ((k : Int) + 3 * (j : Int) + 1 + 1))) (some g)) := ⟨(grownBy_two HG1.out (grownBy_setCell _ g _ _))⟩
      have hE : (⟨mt (k + 3 * j), (k : Int) + 3 * (j : Int) + 1, (k : Int) + 3 * (j : Int) + 1 + 1⟩ : LsM) = markL (k + 3 * j) := by
        unfold markL
        congr 1 <;> (push_cast; omega)
      have HF : Shut (WCells (((w0.setCell ⟨g, j * 3, none⟩ (.string (mt (k + 3 * j)))).setCell ⟨g, j * 3 + 1, none⟩ (.int .i64 ((k : Int) + 3 * (j : Int) + 1))).setCell ⟨g, j * 3 + 2, none⟩ (.int .i64 ((k : Int) + 3 * (j : Int) + 1 + 1))) g (lsS (ys.set j ⟨mt (k + 3 * j), (k : Int) + 3 * (j : Int) + 1, (k : Int) + 3 * (j : Int) + 1 + 1⟩))) := ⟨by
        have hfin : ((((lsS ys).set (j * 3) (.string (mt (k + 3 * j)))).set (j * 3 + 1) (.int .i64 ((k : Int) + 3 * (j : Int) + 1))).set (j * 3 + 2) (.int .i64 ((k : Int) + 3 * (j : Int) + 1 + 1))) = lsS (ys.set j ⟨mt (k + 3 * j), (k : Int) + 3 * (j : Int) + 1, (k : Int) + 3 * (j : Int) + 1 + 1⟩) := flat_setL lsC_len ys j (by have := HH.out.1; omega) (⟨mt (k + 3 * j), (k : Int) + 3 * (j : Int) + 1, (k : Int) + 3 * (j : Int) + 1 + 1⟩ : LsM)
        have q := HS2.out
        rw [hfin] at q
        exact q⟩
      rw [hE] at HF
      clear HS0 HS1 HS2 HG0 HG1 hw0 hb0 hv0 hE
      go_wp2_with fail
      go_roundw
      case rel =>
        refine ⟨j + 1, ys.set j (markL (k + 3 * j)), by go_num, congrArg (Value.int .i64) (by omega), by omega, ⟨by rw [List.length_set]; exact HH.out.1, fun t ht => ?_, ?_, ?_⟩⟩
        rotate_left
        · exact HF.out
        · exact HG2.out
        by_cases hjt : t = j
        · subst hjt
          rw [List.getElem?_set_self (by have := HH.out.1; omega)]
        · rw [List.getElem?_set_ne (Ne.symm hjt)]
          exact HH.out.2.1 t (by omega)
      case measure => simp [intOf]; omega
    · have e : j = n := by omega
      subst e
      have hfin := marksL_all HH.out.1 HH.out.2.1
      subst hfin
      go_wp2_with fail
      go_ret
      exact ⟨rfl, HH.out.2.2.1, HH.out.2.2.2⟩
/-- Marks in a row between two places, or in none. -/
theorem markLeaseS_row (va : Option Addr) (xs : List LsM) (k ca lo hi : Nat) (w : World) (h : FRw w va (lsS xs) lo hi) (hk : 0 < k) (hn : k + 3 * xs.length ≤ 1000000000) (hca : xs.length ≤ ca) :
    Calls Try.prog 26 #[.slice va xs.length ca, .int .i64 k] w fun e w' => e = .returned (.int .i64 (k + 3 * xs.length : Nat)) ∧ FRw w' va (lsS (marksL k xs.length)) lo hi ∧ ∃ row, w.grownBy w' row ∧ ∀ g, row = some g → lo ≤ g ∧ g < hi := by
  rcases h with ⟨rfl, hX⟩ | ⟨g, rfl, h1, h2, h3⟩
  · have e : xs = [] := by
      have := congrArg List.length hX
      rw [lsS_len] at this
      exact List.eq_nil_of_length_eq_zero (by simp at this; omega)
    subst e
    refine (markLeaseS_zero none k ca w).mono ?_
    rintro e w' ⟨rfl, rfl⟩
    exact ⟨by simp, .inl ⟨rfl, by simp [marksL, lsS]⟩, none, ⟨rfl, rfl, rfl, Nat.le_refl _, fun _ _ _ => rfl⟩, by simp⟩
  · refine (markLeaseS_all g xs k ca w h3 hk hn hca).mono ?_
    rintro e w' ⟨rfl, h4, h5⟩
    exact ⟨rfl, .inr ⟨g, rfl, h1, h2, h4⟩, some g, h5, fun g' e => by simp at e; omega⟩
set_option maxHeartbeats 1000000 in
theorem heldLeaseS_any (a : Option Addr) (k n ca : Nat) (w : World) (ha : LsRow w a (marksL k n)) (hk : 0 < k) (hn : k + 3 * n ≤ 1000000000) :
    Calls Try.prog 27 #[.slice a n ca, .int .i64 k] w fun e w' => e = .returned (.int .i64 (k + 3 * n : Nat)) ∧ Below w.heap.size w w' := by
  have HA := Shut.mk ha
  clear ha
  go_enter Try.func27, Try.ntmps27
  go_wp2_with fail
  go_loopw [1, 5] (fun c i wr => ∃ (j : Nat), i = .int .i64 j ∧ c = .int .i64 (k + 3 * j : Nat) ∧ j ≤ n ∧ Below w.heap.size w wr) (fun _ i _ => n - (intOf i).toNat)
  case atStart => exact ⟨0, rfl, rfl, Nat.zero_le _, Below.refl _ _⟩
  case round =>
    obtain ⟨j, rfl, rfl, hj, hb⟩ := hrel
    have HB := Shut.mk hb
    by_cases hlt : j < n
    · obtain ⟨b, off, rfl, lb, hc⟩ := LsRow.at (HA.out.stays hb) (by rw [marksL_len]; omega)
      obtain ⟨d0, d1, d2⟩ := hc j (by rw [marksL_len]; omega)
      rw [marksL_at] at d0 d1 d2
      rw [show (markL (k + 3 * j)).path = mt (k + 3 * j) from rfl] at d0
      rw [show (markL (k + 3 * j)).who = (k : Int) + 3 * (j : Int) + 1 by show ((k + 3 * j + 1 : Nat) : Int) = _; push_cast; omega] at d1
      rw [show (markL (k + 3 * j)).seen = (k : Int) + 3 * (j : Int) + 1 + 1 by show ((k + 3 * j + 2 : Nat) : Int) = _; push_cast; omega] at d2
      have j0 : (0 : Int) ≤ (j : Int) := by omega
      have j1 : (j : Int) < (n : Int) := by omega
      have Q0 : Shut (∀ W : World, Calls Try.prog 53 #[.int .i64 ((k : Int) + 3 * (j : Int))] W fun e w' => e = .returned (.string (mt (k + 3 * j))) ∧ Below W.heap.size W w') := ⟨fun W => by
        have q := markText_any (k + 3 * j) W (by omega) (by omega)
        rwa [show ((k + 3 * j : Nat) : Int) = (k : Int) + 3 * (j : Int) by push_cast; omega] at q⟩
      have hs0 : ((mt (k + 3 * j)).toList == (mt (k + 3 * j)).toList) = true := by simp
      clear hc hb
      go_wp2_with fail
      go_region_held3 (fun w' => w'.cell? ⟨b, off + j * 3, none⟩ = some (.string (mt (k + 3 * j)))) (first | go_keep | (rw [hb0.cell (p := ⟨b, off + j * 3, none⟩) (by exact lb)]; assumption)) ((go_at_call 53; refine (Q0.out _).mono ?_; rintro e w0 ⟨rfl, hb0⟩))
      all_goals
        have lb0 : b < w0.heap.size := Nat.lt_of_lt_of_le lb hb0.size
        replace d1 := (hb0.cell (p := ⟨b, off + j * 3 + 1, none⟩) lb).trans d1
        replace d2 := (hb0.cell (p := ⟨b, off + j * 3 + 2, none⟩) lb).trans d2
        have HB0 : Shut (Below w.heap.size w w0) := ⟨HB.out.trans ((Below.drew (Below.refl _ _)).trans (hb0.mono HB.out.size))⟩
        clear hb0 d0
        go_wp2_with fail
        exact ⟨⟨j + 1, by go_num, congrArg (Value.int .i64) (by omega), by omega, HB0.out⟩, by simp [intOf]; omega⟩
    · have e : j = n := by omega
      subst e
      go_wp2_with fail
      go_ret
      exact ⟨rfl, hb⟩
end Go.Proofs.Ytcnjjbgilpgceaa
/- LawLs: The exact laws of LeasesOk, TakeLease, RenewLeases, DropLease (written by gen/mklawls.py). -/
namespace Go.Proofs.Ytcnjjbgilpgceaa
set_option maxRecDepth 100000
open Go.RowKit BigFrame
attribute [local go_sem ↓] Go.wp_at_zero Go.wp_at_succ
/-- The ends of a new stretch are named. -/
theorem hide_rw {w W : World} {S : List Str} {a : Option Addr} {X : List Value} {lo hi : Nat} (h : Shut (SL w W (rwS a X lo hi :: S))) : ∃ l h, Shut (SL w W (rwS a X l h :: S)) := ⟨lo, hi, h⟩
theorem turned_rw8 {W W' : World} {lo hi : Nat} {row : Option Nat} (hg : W.grownBy W' row) (hr : ∀ g, row = some g → lo ≤ g ∧ g < hi) : Turned W W' lo hi := by
  cases row with
  | none => exact Turned.of_below ⟨hg.os, hg.tape, hg.output, hg.size, fun k hk => hg.block k hk (by simp)⟩ _ _
  | some g => exact Turned.of_grown hg (hr g rfl).1 (hr g rfl).2
set_option maxRecDepth 100000 in
set_option maxHeartbeats 8000000 in
theorem lawLeasesOk (us : List LsM) (a : Option Addr) (cap : Nat) (ok : Bool) (w : World) (hr : LsRow w a us) (hf : LsFits us)
    (hsp : us.length ≤ 1048576 → lsSum us ≤ 1048576 → ∀ (W : World) (b : Option Addr) (c : Nat), LsRow W b us → Calls Try.prog 22 #[.slice b us.length c] W fun e w' => e = .returned (.bool ok) ∧ Below W.heap.size W w')
    (him : us.length ≤ 1048576 → lsSum us ≤ 1048576 → ∀ (W : World) (b : Option Addr) (c : Nat), LsRow W b us → Below w.heap.size w W → Calls Try.prog 18 #[.slice b us.length c] W fun e w' => e = .returned (.bool ok) ∧ Below W.heap.size W w') :
    Calls Try.prog 4 #[.slice a us.length cap] w fun e w' => e = .returned (.bool true) ∧ Below w.heap.size w w' := by
  have HSZ := Shut.mk (szLeaseS_any a us cap 1048576 w hr hf (by omega) (by omega))
  have HTO := Shut.mk (fun (hl : us.length ≤ 1048576) (W : World) (hb : Below w.heap.size w W) => toLeaseS_any a us cap W (hr.stays hb) hl)
  have HSP := Shut.mk hsp
  have HIM := Shut.mk him
  have HEQ := Shut.mk (fun (hl : us.length ≤ 1048576) (W : World) (b c : Option Addr) (cb cc : Nat) (h1 : LsRow W b us) (h2 : LsRow W c us) => eqLeaseS_same b c us cb cc W h1 h2 (by omega))
  have HMH := Shut.mk (fun (hl : us.length ≤ 1048576) (W : World) (g lo hi : Nat) (h : FRw W (some ⟨g, 0, none⟩) (lsS us) lo hi) => markLeaseS_row (some ⟨g, 0, none⟩) us 1 us.length lo hi W h (by omega) (by omega) (Nat.le_refl _))
  unfold ToPostLs at HTO
  obtain ⟨n, hn⟩ : ∃ n, n = us.length := ⟨_, rfl⟩
  rw [← hn] at HSZ HTO HSP HIM HEQ HMH ⊢
  clear hr hf hsp him hn
  have hdd : (ok != ok) = false := by simp
  go_enter Try.func4, Try.ntmps4
  go_wp2_with fail
  refine HSZ.out.mono ?_
  rintro e w1 ⟨r, rfl, r0, r1, hb⟩
  have H := Shut.mk ((SL.start w).below hb)
  clear hb
  by_cases hq : r < 0
  · clear r1
    go_wp2_with fail
    go_ret
    exact ⟨rfl, H.out.bel⟩
  have hr1 := r1 (by omega)
  have hnl : n ≤ 1048576 := by omega
  replace HTO := Shut.mk (HTO.out (by omega))
  replace HSP := Shut.mk (HSP.out (by omega) (by omega))
  replace HIM := Shut.mk (HIM.out (by omega) (by omega))
  replace HEQ := Shut.mk (HEQ.out (by omega))
  replace HMH := Shut.mk (HMH.out (by omega))
  clear r1 hr1 r0 HSZ
  go_wp2_with fail
  refine (HTO.out _ H.out.bel).mono ?_
  rintro e w2 ⟨gw2, rfl, hg, hw, hb⟩
  replace H := Shut.mk (H.out.below hb)
  have HW := Shut.mk hw.crow
  clear hb hw hg
  go_wp2_with fail
  refine (HSP.out _ _ _ HW.out).mono ?_
  rintro e w3 ⟨rfl, hb⟩
  replace H := Shut.mk (H.out.below hb)
  clear hb HW
  go_wp2_with fail
  refine (HTO.out _ H.out.bel).mono ?_
  rintro e w5 ⟨g5, rfl, hg, hw, hb⟩
  replace H := Shut.mk (H.out.add (s := rwS (some ⟨g5, 0, none⟩) (lsS us) _ w5.heap.size) hb (FRw.of_wcells hw hg hw.1) (rwS.loc _ _ _ _) (Nat.le_refl _) (Nat.le_refl _))
  obtain ⟨l5, h5, H⟩ := hide_rw H
  clear hb hw hg
  go_wp2_with fail
  refine (HIM.out _ _ _ (show FRw _ _ _ _ _ from H.out.at 0 rfl).crow H.out.bel).mono ?_
  rintro e w7 ⟨rfl, hb⟩
  replace H := Shut.mk (H.out.below hb)
  clear hb
  go_wp2_with fail
  refine (HTO.out _ H.out.bel).mono ?_
  rintro e w9 ⟨gw9, rfl, hg, hw, hb⟩
  replace H := Shut.mk (H.out.below hb)
  have HW := Shut.mk hw.crow
  clear hb hw hg
  go_wp2_with fail
  refine (HEQ.out _ _ _ _ _ (show FRw _ _ _ _ _ from H.out.at 0 rfl).crow HW.out).mono ?_
  rintro e w10 ⟨rfl, hb⟩
  replace H := Shut.mk (H.out.below hb)
  clear hb HW
  go_wp2_with fail
  go_ret
  exact ⟨rfl, H.out.bel⟩
set_option maxRecDepth 100000 in
set_option maxHeartbeats 8000000 in
theorem lawTakeLease (us : List LsM) (a : Option Addr) (cap : Nat) (p : ByteArray) (who : Int) (now : Int) (R : List LsM × Bool) (w : World) (hr : LsRow w a us) (hf : LsFits us) (hrl : R.1.length ≤ 3000000 ∨ 1048576 < us.length)
    (hsp : p.size ≤ 1048576 → us.length ≤ 1048576 → lsSum us ≤ 1048576 → ∀ (W : World) (b : Option Addr) (c : Nat), LsRow W b us → Calls Try.prog 25 #[.slice b us.length c, .string p, .int .i64 who, .int .i64 now] W fun e w' => LbPost R W e w')
    (him : p.size ≤ 1048576 → us.length ≤ 1048576 → lsSum us ≤ 1048576 → ∀ (W : World) (b : Option Addr) (c : Nat), LsRow W b us → Below w.heap.size w W → Calls Try.prog 13 #[.slice b us.length c, .string p, .int .i64 who, .int .i64 now] W fun e w' => LbPost R W e w') :
    Calls Try.prog 5 #[.slice a us.length cap, .string p, .int .i64 who, .int .i64 now] w fun e w' => e = .returned (.bool true) ∧ Below w.heap.size w w' := by
  by_cases hs : 1048576 < p.size
  · clear hr hf hsp him hrl
    go_enter Try.func5, Try.ntmps5
    go_wp2_with fail
    go_ret
    exact ⟨rfl, Below.refl _ _⟩
  replace hsp := hsp (by omega)
  replace him := him (by omega)
  have HSZ := Shut.mk (szLeaseS_any a us cap 1048576 w hr hf (by omega) (by omega))
  have HTO := Shut.mk (fun (hl : us.length ≤ 1048576) (W : World) (hb : Below w.heap.size w W) => toLeaseS_any a us cap W (hr.stays hb) hl)
  have HSP := Shut.mk hsp
  have HIM := Shut.mk him
  have HEQ := Shut.mk (fun (hl : us.length ≤ 1048576) (W : World) (b c : Option Addr) (cb cc : Nat) (h1 : LsRow W b us) (h2 : LsRow W c us) => eqLeaseS_same b c us cb cc W h1 h2 (by omega))
  have HMH := Shut.mk (fun (hl : us.length ≤ 1048576) (W : World) (g lo hi : Nat) (h : FRw W (some ⟨g, 0, none⟩) (lsS us) lo hi) => markLeaseS_row (some ⟨g, 0, none⟩) us 1 us.length lo hi W h (by omega) (by omega) (Nat.le_refl _))
  unfold ToPostLs at HTO
  have HER := Shut.mk (fun (hrl : R.1.length ≤ 3000000) (W : World) (b c : Option Addr) (cb cc : Nat) (h1 : LsRow W b R.1) (h2 : LsRow W c R.1) => eqLeaseS_same b c R.1 cb cc W h1 h2 (by omega))
  have HMR := Shut.mk (fun (hrl : R.1.length ≤ 3000000) (W : World) (b : Option Addr) (c lo hi : Nat) (h : FRw W b (lsS R.1) lo hi) (hc : R.1.length ≤ c) => markLeaseS_row b R.1 1 c lo hi W h (by omega) (by omega) hc)
  have HHR := Shut.mk (fun (hrl : R.1.length ≤ 3000000) (W : World) (b : Option Addr) (c : Nat) (h : LsRow W b (marksL 1 R.1.length)) => heldLeaseS_any b 1 R.1.length c W h (by omega) (by omega))
  unfold LbPost at HSP HIM
  obtain ⟨RL, ok⟩ := R
  dsimp only at *
  have hdd : (ok != ok) = false := by simp
  obtain ⟨n, hn⟩ : ∃ n, n = us.length := ⟨_, rfl⟩
  obtain ⟨m, hm⟩ : ∃ m, m = RL.length := ⟨_, rfl⟩
  rw [← hm] at HSP HIM HER HMR HHR hrl
  rw [← hn] at HSZ HTO HSP HIM HEQ HMH hrl ⊢
  clear hr hf hsp him hn hm
  go_enter Try.func5, Try.ntmps5
  go_wp2_with fail
  refine HSZ.out.mono ?_
  rintro e w1 ⟨r, rfl, r0, r1, hb⟩
  have H := Shut.mk ((SL.start w).below hb)
  clear hb
  by_cases hq : r < 0
  · clear r1
    go_wp2_with fail
    go_ret
    exact ⟨rfl, H.out.bel⟩
  have hr1 := r1 (by omega)
  have hnl : n ≤ 1048576 := by omega
  replace HTO := Shut.mk (HTO.out (by omega))
  replace HSP := Shut.mk (HSP.out (by omega) (by omega))
  replace HIM := Shut.mk (HIM.out (by omega) (by omega))
  replace HEQ := Shut.mk (HEQ.out (by omega))
  replace HMH := Shut.mk (HMH.out (by omega))
  have hml : m ≤ 3000000 := by omega
  replace HER := Shut.mk (HER.out (by omega))
  replace HMR := Shut.mk (HMR.out (by omega))
  replace HHR := Shut.mk (HHR.out (by omega))
  clear r1 hr1 r0 HSZ hrl
  go_wp2_with fail
  refine (HTO.out _ H.out.bel).mono ?_
  rintro e w2 ⟨gw2, rfl, hg, hw, hb⟩
  replace H := Shut.mk (H.out.below hb)
  have HW := Shut.mk hw.crow
  clear hb hw hg
  go_wp2_with fail
  refine (HSP.out _ _ _ HW.out).mono ?_
  rintro e w3 ⟨a3, c3, rfl, hF, hc3, hb⟩
  replace H := Shut.mk (H.out.add (s := rwS a3 (lsS RL) _ w3.heap.size) hb hF (rwS.loc _ _ _ _) (Nat.le_refl _) (Nat.le_refl _))
  obtain ⟨l3, h3, H⟩ := hide_rw H
  clear hF hb HW
  go_wp2_with fail
  refine (HTO.out _ H.out.bel).mono ?_
  rintro e w5 ⟨g5, rfl, hg, hw, hb⟩
  replace H := Shut.mk (H.out.add (s := rwS (some ⟨g5, 0, none⟩) (lsS us) _ w5.heap.size) hb (FRw.of_wcells hw hg hw.1) (rwS.loc _ _ _ _) (Nat.le_refl _) (Nat.le_refl _))
  obtain ⟨l5, h5, H⟩ := hide_rw H
  clear hb hw hg
  go_wp2_with fail
  refine (HIM.out _ _ _ (show FRw _ _ _ _ _ from H.out.at 0 rfl).crow H.out.bel).mono ?_
  rintro e w7 ⟨a7, c7, rfl, hF, hc7, hb⟩
  replace H := Shut.mk (H.out.add (s := rwS a7 (lsS RL) _ w7.heap.size) hb hF (rwS.loc _ _ _ _) (Nat.le_refl _) (Nat.le_refl _))
  obtain ⟨l7, h7, H⟩ := hide_rw H
  clear hF hb
  go_wp2_with fail
  refine (HER.out _ _ _ _ _ (show FRw _ _ _ _ _ from H.out.at 0 rfl).crow (show FRw _ _ _ _ _ from H.out.at 2 rfl).crow).mono ?_
  rintro e w8 ⟨rfl, hb⟩
  replace H := Shut.mk (H.out.below hb)
  clear hb
  go_wp2_with fail
  refine (HTO.out _ H.out.bel).mono ?_
  rintro e w9 ⟨gw9, rfl, hg, hw, hb⟩
  replace H := Shut.mk (H.out.below hb)
  have HW := Shut.mk hw.crow
  clear hb hw hg
  go_wp2_with fail
  refine (HEQ.out _ _ _ _ _ (show FRw _ _ _ _ _ from H.out.at 1 rfl).crow HW.out).mono ?_
  rintro e w10 ⟨rfl, hb⟩
  replace H := Shut.mk (H.out.below hb)
  clear hb HW
  go_wp2_with fail
  refine (HMH.out _ _ _ _ (H.out.at 1 rfl)).mono ?_
  rintro e w11 ⟨rfl, hF, row, hg8, hr8⟩
  replace H := Shut.mk (H.out.turn 1 rfl (turned_rw8 hg8 hr8) hF (rwS.loc _ _ _ _))
  clear hF hg8 hr8
  go_wp2_with fail
  refine (HER.out _ _ _ _ _ (show FRw _ _ _ _ _ from H.out.at 0 rfl).crow (show FRw _ _ _ _ _ from H.out.at 2 rfl).crow).mono ?_
  rintro e w12 ⟨rfl, hb⟩
  replace H := Shut.mk (H.out.below hb)
  clear hb
  go_wp2_with fail
  refine (HMR.out _ _ _ _ _ (H.out.at 0 rfl) hc7).mono ?_
  rintro e w13 ⟨rfl, hF, row, hg8, hr8⟩
  replace H := Shut.mk (H.out.turn 0 rfl (turned_rw8 hg8 hr8) hF (rwS.loc _ _ _ _))
  clear hF hg8 hr8
  go_wp2_with fail
  refine (HHR.out _ _ _ (show FRw _ _ _ _ _ from H.out.at 0 rfl).crow).mono ?_
  rintro e w14 ⟨rfl, hb⟩
  replace H := Shut.mk (H.out.below hb)
  clear hb
  go_wp2_with fail
  refine (HTO.out _ H.out.bel).mono ?_
  rintro e w15 ⟨gw15, rfl, hg, hw, hb⟩
  replace H := Shut.mk (H.out.below hb)
  have HW := Shut.mk hw.crow
  clear hb hw hg
  go_wp2_with fail
  refine (HIM.out _ _ _ HW.out H.out.bel).mono ?_
  rintro e w16 ⟨a16, c16, rfl, hF, hc16, hb⟩
  replace H := Shut.mk (H.out.add (s := rwS a16 (lsS RL) _ w16.heap.size) hb hF (rwS.loc _ _ _ _) (Nat.le_refl _) (Nat.le_refl _))
  obtain ⟨l16, h16, H⟩ := hide_rw H
  clear hF hb HW
  go_wp2_with fail
  refine (HER.out _ _ _ _ _ (show FRw _ _ _ _ _ from H.out.at 0 rfl).crow (show FRw _ _ _ _ _ from H.out.at 3 rfl).crow).mono ?_
  rintro e w17 ⟨rfl, hb⟩
  replace H := Shut.mk (H.out.below hb)
  clear hb
  go_wp2_with fail
  refine (HHR.out _ _ _ (show FRw _ _ _ _ _ from H.out.at 1 rfl).crow).mono ?_
  rintro e w18 ⟨rfl, hb⟩
  replace H := Shut.mk (H.out.below hb)
  clear hb
  go_wp2_with fail
  go_ret
  exact ⟨rfl, H.out.bel⟩
set_option maxRecDepth 100000 in
set_option maxHeartbeats 8000000 in
theorem lawRenewLeases (us : List LsM) (a : Option Addr) (cap : Nat) (who : Int) (now : Int) (RL : List LsM) (w : World) (hr : LsRow w a us) (hf : LsFits us) (hrl : RL.length ≤ 3000000 ∨ 1048576 < us.length)
    (hsp : us.length ≤ 1048576 → lsSum us ≤ 1048576 → ∀ (W : World) (b : Option Addr) (c : Nat), LsRow W b us → Calls Try.prog 28 #[.slice b us.length c, .int .i64 who, .int .i64 now] W fun e w' => LsPost RL W e w')
    (him : us.length ≤ 1048576 → lsSum us ≤ 1048576 → ∀ (W : World) (b : Option Addr) (c : Nat), LsRow W b us → Below w.heap.size w W → Calls Try.prog 14 #[.slice b us.length c, .int .i64 who, .int .i64 now] W fun e w' => LsPost RL W e w') :
    Calls Try.prog 6 #[.slice a us.length cap, .int .i64 who, .int .i64 now] w fun e w' => e = .returned (.bool true) ∧ Below w.heap.size w w' := by
  have HSZ := Shut.mk (szLeaseS_any a us cap 1048576 w hr hf (by omega) (by omega))
  have HTO := Shut.mk (fun (hl : us.length ≤ 1048576) (W : World) (hb : Below w.heap.size w W) => toLeaseS_any a us cap W (hr.stays hb) hl)
  have HSP := Shut.mk hsp
  have HIM := Shut.mk him
  have HEQ := Shut.mk (fun (hl : us.length ≤ 1048576) (W : World) (b c : Option Addr) (cb cc : Nat) (h1 : LsRow W b us) (h2 : LsRow W c us) => eqLeaseS_same b c us cb cc W h1 h2 (by omega))
  have HMH := Shut.mk (fun (hl : us.length ≤ 1048576) (W : World) (g lo hi : Nat) (h : FRw W (some ⟨g, 0, none⟩) (lsS us) lo hi) => markLeaseS_row (some ⟨g, 0, none⟩) us 1 us.length lo hi W h (by omega) (by omega) (Nat.le_refl _))
  unfold ToPostLs at HTO
  have HER := Shut.mk (fun (hrl : RL.length ≤ 3000000) (W : World) (b c : Option Addr) (cb cc : Nat) (h1 : LsRow W b RL) (h2 : LsRow W c RL) => eqLeaseS_same b c RL cb cc W h1 h2 (by omega))
  have HMR := Shut.mk (fun (hrl : RL.length ≤ 3000000) (W : World) (b : Option Addr) (c lo hi : Nat) (h : FRw W b (lsS RL) lo hi) (hc : RL.length ≤ c) => markLeaseS_row b RL 1 c lo hi W h (by omega) (by omega) hc)
  have HHR := Shut.mk (fun (hrl : RL.length ≤ 3000000) (W : World) (b : Option Addr) (c : Nat) (h : LsRow W b (marksL 1 RL.length)) => heldLeaseS_any b 1 RL.length c W h (by omega) (by omega))
  unfold LsPost at HSP HIM
  obtain ⟨n, hn⟩ : ∃ n, n = us.length := ⟨_, rfl⟩
  obtain ⟨m, hm⟩ : ∃ m, m = RL.length := ⟨_, rfl⟩
  rw [← hm] at HSP HIM HER HMR HHR hrl
  rw [← hn] at HSZ HTO HSP HIM HEQ HMH hrl ⊢
  clear hr hf hsp him hn hm
  go_enter Try.func6, Try.ntmps6
  go_wp2_with fail
  refine HSZ.out.mono ?_
  rintro e w1 ⟨r, rfl, r0, r1, hb⟩
  have H := Shut.mk ((SL.start w).below hb)
  clear hb
  by_cases hq : r < 0
  · clear r1
    go_wp2_with fail
    go_ret
    exact ⟨rfl, H.out.bel⟩
  have hr1 := r1 (by omega)
  have hnl : n ≤ 1048576 := by omega
  replace HTO := Shut.mk (HTO.out (by omega))
  replace HSP := Shut.mk (HSP.out (by omega) (by omega))
  replace HIM := Shut.mk (HIM.out (by omega) (by omega))
  replace HEQ := Shut.mk (HEQ.out (by omega))
  replace HMH := Shut.mk (HMH.out (by omega))
  have hml : m ≤ 3000000 := by omega
  replace HER := Shut.mk (HER.out (by omega))
  replace HMR := Shut.mk (HMR.out (by omega))
  replace HHR := Shut.mk (HHR.out (by omega))
  clear r1 hr1 r0 HSZ hrl
  go_wp2_with fail
  refine (HTO.out _ H.out.bel).mono ?_
  rintro e w2 ⟨gw2, rfl, hg, hw, hb⟩
  replace H := Shut.mk (H.out.below hb)
  have HW := Shut.mk hw.crow
  clear hb hw hg
  go_wp2_with fail
  refine (HSP.out _ _ _ HW.out).mono ?_
  rintro e w3 ⟨a3, c3, rfl, hF, hc3, hb⟩
  replace H := Shut.mk (H.out.add (s := rwS a3 (lsS RL) _ w3.heap.size) hb hF (rwS.loc _ _ _ _) (Nat.le_refl _) (Nat.le_refl _))
  obtain ⟨l3, h3, H⟩ := hide_rw H
  clear hF hb HW
  go_wp2_with fail
  refine (HTO.out _ H.out.bel).mono ?_
  rintro e w5 ⟨g5, rfl, hg, hw, hb⟩
  replace H := Shut.mk (H.out.add (s := rwS (some ⟨g5, 0, none⟩) (lsS us) _ w5.heap.size) hb (FRw.of_wcells hw hg hw.1) (rwS.loc _ _ _ _) (Nat.le_refl _) (Nat.le_refl _))
  obtain ⟨l5, h5, H⟩ := hide_rw H
  clear hb hw hg
  go_wp2_with fail
  refine (HIM.out _ _ _ (show FRw _ _ _ _ _ from H.out.at 0 rfl).crow H.out.bel).mono ?_
  rintro e w7 ⟨a7, c7, rfl, hF, hc7, hb⟩
  replace H := Shut.mk (H.out.add (s := rwS a7 (lsS RL) _ w7.heap.size) hb hF (rwS.loc _ _ _ _) (Nat.le_refl _) (Nat.le_refl _))
  obtain ⟨l7, h7, H⟩ := hide_rw H
  clear hF hb
  go_wp2_with fail
  refine (HER.out _ _ _ _ _ (show FRw _ _ _ _ _ from H.out.at 0 rfl).crow (show FRw _ _ _ _ _ from H.out.at 2 rfl).crow).mono ?_
  rintro e w8 ⟨rfl, hb⟩
  replace H := Shut.mk (H.out.below hb)
  clear hb
  go_wp2_with fail
  refine (HTO.out _ H.out.bel).mono ?_
  rintro e w9 ⟨gw9, rfl, hg, hw, hb⟩
  replace H := Shut.mk (H.out.below hb)
  have HW := Shut.mk hw.crow
  clear hb hw hg
  go_wp2_with fail
  refine (HEQ.out _ _ _ _ _ (show FRw _ _ _ _ _ from H.out.at 1 rfl).crow HW.out).mono ?_
  rintro e w10 ⟨rfl, hb⟩
  replace H := Shut.mk (H.out.below hb)
  clear hb HW
  go_wp2_with fail
  refine (HMH.out _ _ _ _ (H.out.at 1 rfl)).mono ?_
  rintro e w11 ⟨rfl, hF, row, hg8, hr8⟩
  replace H := Shut.mk (H.out.turn 1 rfl (turned_rw8 hg8 hr8) hF (rwS.loc _ _ _ _))
  clear hF hg8 hr8
  go_wp2_with fail
  refine (HER.out _ _ _ _ _ (show FRw _ _ _ _ _ from H.out.at 0 rfl).crow (show FRw _ _ _ _ _ from H.out.at 2 rfl).crow).mono ?_
  rintro e w12 ⟨rfl, hb⟩
  replace H := Shut.mk (H.out.below hb)
  clear hb
  go_wp2_with fail
  refine (HMR.out _ _ _ _ _ (H.out.at 0 rfl) hc7).mono ?_
  rintro e w13 ⟨rfl, hF, row, hg8, hr8⟩
  replace H := Shut.mk (H.out.turn 0 rfl (turned_rw8 hg8 hr8) hF (rwS.loc _ _ _ _))
  clear hF hg8 hr8
  go_wp2_with fail
  refine (HHR.out _ _ _ (show FRw _ _ _ _ _ from H.out.at 0 rfl).crow).mono ?_
  rintro e w14 ⟨rfl, hb⟩
  replace H := Shut.mk (H.out.below hb)
  clear hb
  go_wp2_with fail
  refine (HTO.out _ H.out.bel).mono ?_
  rintro e w15 ⟨gw15, rfl, hg, hw, hb⟩
  replace H := Shut.mk (H.out.below hb)
  have HW := Shut.mk hw.crow
  clear hb hw hg
  go_wp2_with fail
  refine (HIM.out _ _ _ HW.out H.out.bel).mono ?_
  rintro e w16 ⟨a16, c16, rfl, hF, hc16, hb⟩
  replace H := Shut.mk (H.out.add (s := rwS a16 (lsS RL) _ w16.heap.size) hb hF (rwS.loc _ _ _ _) (Nat.le_refl _) (Nat.le_refl _))
  obtain ⟨l16, h16, H⟩ := hide_rw H
  clear hF hb HW
  go_wp2_with fail
  refine (HER.out _ _ _ _ _ (show FRw _ _ _ _ _ from H.out.at 0 rfl).crow (show FRw _ _ _ _ _ from H.out.at 3 rfl).crow).mono ?_
  rintro e w17 ⟨rfl, hb⟩
  replace H := Shut.mk (H.out.below hb)
  clear hb
  go_wp2_with fail
  refine (HHR.out _ _ _ (show FRw _ _ _ _ _ from H.out.at 1 rfl).crow).mono ?_
  rintro e w18 ⟨rfl, hb⟩
  replace H := Shut.mk (H.out.below hb)
  clear hb
  go_wp2_with fail
  go_ret
  exact ⟨rfl, H.out.bel⟩
set_option maxRecDepth 100000 in
set_option maxHeartbeats 8000000 in
theorem lawDropLease (us : List LsM) (a : Option Addr) (cap : Nat) (p : ByteArray) (RL : List LsM) (w : World) (hr : LsRow w a us) (hf : LsFits us) (hrl : RL.length ≤ 3000000 ∨ 1048576 < us.length)
    (hsp : p.size ≤ 1048576 → us.length ≤ 1048576 → lsSum us ≤ 1048576 → ∀ (W : World) (b : Option Addr) (c : Nat), LsRow W b us → Calls Try.prog 29 #[.slice b us.length c, .string p] W fun e w' => LsPost RL W e w')
    (him : p.size ≤ 1048576 → us.length ≤ 1048576 → lsSum us ≤ 1048576 → ∀ (W : World) (b : Option Addr) (c : Nat), LsRow W b us → Below w.heap.size w W → Calls Try.prog 15 #[.slice b us.length c, .string p] W fun e w' => LsPost RL W e w') :
    Calls Try.prog 7 #[.slice a us.length cap, .string p] w fun e w' => e = .returned (.bool true) ∧ Below w.heap.size w w' := by
  by_cases hs : 1048576 < p.size
  · clear hr hf hsp him hrl
    go_enter Try.func7, Try.ntmps7
    go_wp2_with fail
    go_ret
    exact ⟨rfl, Below.refl _ _⟩
  replace hsp := hsp (by omega)
  replace him := him (by omega)
  have HSZ := Shut.mk (szLeaseS_any a us cap 1048576 w hr hf (by omega) (by omega))
  have HTO := Shut.mk (fun (hl : us.length ≤ 1048576) (W : World) (hb : Below w.heap.size w W) => toLeaseS_any a us cap W (hr.stays hb) hl)
  have HSP := Shut.mk hsp
  have HIM := Shut.mk him
  have HEQ := Shut.mk (fun (hl : us.length ≤ 1048576) (W : World) (b c : Option Addr) (cb cc : Nat) (h1 : LsRow W b us) (h2 : LsRow W c us) => eqLeaseS_same b c us cb cc W h1 h2 (by omega))
  have HMH := Shut.mk (fun (hl : us.length ≤ 1048576) (W : World) (g lo hi : Nat) (h : FRw W (some ⟨g, 0, none⟩) (lsS us) lo hi) => markLeaseS_row (some ⟨g, 0, none⟩) us 1 us.length lo hi W h (by omega) (by omega) (Nat.le_refl _))
  unfold ToPostLs at HTO
  have HER := Shut.mk (fun (hrl : RL.length ≤ 3000000) (W : World) (b c : Option Addr) (cb cc : Nat) (h1 : LsRow W b RL) (h2 : LsRow W c RL) => eqLeaseS_same b c RL cb cc W h1 h2 (by omega))
  have HMR := Shut.mk (fun (hrl : RL.length ≤ 3000000) (W : World) (b : Option Addr) (c lo hi : Nat) (h : FRw W b (lsS RL) lo hi) (hc : RL.length ≤ c) => markLeaseS_row b RL 1 c lo hi W h (by omega) (by omega) hc)
  have HHR := Shut.mk (fun (hrl : RL.length ≤ 3000000) (W : World) (b : Option Addr) (c : Nat) (h : LsRow W b (marksL 1 RL.length)) => heldLeaseS_any b 1 RL.length c W h (by omega) (by omega))
  unfold LsPost at HSP HIM
  obtain ⟨n, hn⟩ : ∃ n, n = us.length := ⟨_, rfl⟩
  obtain ⟨m, hm⟩ : ∃ m, m = RL.length := ⟨_, rfl⟩
  rw [← hm] at HSP HIM HER HMR HHR hrl
  rw [← hn] at HSZ HTO HSP HIM HEQ HMH hrl ⊢
  clear hr hf hsp him hn hm
  go_enter Try.func7, Try.ntmps7
  go_wp2_with fail
  refine HSZ.out.mono ?_
  rintro e w1 ⟨r, rfl, r0, r1, hb⟩
  have H := Shut.mk ((SL.start w).below hb)
  clear hb
  by_cases hq : r < 0
  · clear r1
    go_wp2_with fail
    go_ret
    exact ⟨rfl, H.out.bel⟩
  have hr1 := r1 (by omega)
  have hnl : n ≤ 1048576 := by omega
  replace HTO := Shut.mk (HTO.out (by omega))
  replace HSP := Shut.mk (HSP.out (by omega) (by omega))
  replace HIM := Shut.mk (HIM.out (by omega) (by omega))
  replace HEQ := Shut.mk (HEQ.out (by omega))
  replace HMH := Shut.mk (HMH.out (by omega))
  have hml : m ≤ 3000000 := by omega
  replace HER := Shut.mk (HER.out (by omega))
  replace HMR := Shut.mk (HMR.out (by omega))
  replace HHR := Shut.mk (HHR.out (by omega))
  clear r1 hr1 r0 HSZ hrl
  go_wp2_with fail
  refine (HTO.out _ H.out.bel).mono ?_
  rintro e w2 ⟨gw2, rfl, hg, hw, hb⟩
  replace H := Shut.mk (H.out.below hb)
  have HW := Shut.mk hw.crow
  clear hb hw hg
  go_wp2_with fail
  refine (HSP.out _ _ _ HW.out).mono ?_
  rintro e w3 ⟨a3, c3, rfl, hF, hc3, hb⟩
  replace H := Shut.mk (H.out.add (s := rwS a3 (lsS RL) _ w3.heap.size) hb hF (rwS.loc _ _ _ _) (Nat.le_refl _) (Nat.le_refl _))
  obtain ⟨l3, h3, H⟩ := hide_rw H
  clear hF hb HW
  go_wp2_with fail
  refine (HTO.out _ H.out.bel).mono ?_
  rintro e w5 ⟨g5, rfl, hg, hw, hb⟩
  replace H := Shut.mk (H.out.add (s := rwS (some ⟨g5, 0, none⟩) (lsS us) _ w5.heap.size) hb (FRw.of_wcells hw hg hw.1) (rwS.loc _ _ _ _) (Nat.le_refl _) (Nat.le_refl _))
  obtain ⟨l5, h5, H⟩ := hide_rw H
  clear hb hw hg
  go_wp2_with fail
  refine (HIM.out _ _ _ (show FRw _ _ _ _ _ from H.out.at 0 rfl).crow H.out.bel).mono ?_
  rintro e w7 ⟨a7, c7, rfl, hF, hc7, hb⟩
  replace H := Shut.mk (H.out.add (s := rwS a7 (lsS RL) _ w7.heap.size) hb hF (rwS.loc _ _ _ _) (Nat.le_refl _) (Nat.le_refl _))
  obtain ⟨l7, h7, H⟩ := hide_rw H
  clear hF hb
  go_wp2_with fail
  refine (HER.out _ _ _ _ _ (show FRw _ _ _ _ _ from H.out.at 0 rfl).crow (show FRw _ _ _ _ _ from H.out.at 2 rfl).crow).mono ?_
  rintro e w8 ⟨rfl, hb⟩
  replace H := Shut.mk (H.out.below hb)
  clear hb
  go_wp2_with fail
  refine (HTO.out _ H.out.bel).mono ?_
  rintro e w9 ⟨gw9, rfl, hg, hw, hb⟩
  replace H := Shut.mk (H.out.below hb)
  have HW := Shut.mk hw.crow
  clear hb hw hg
  go_wp2_with fail
  refine (HEQ.out _ _ _ _ _ (show FRw _ _ _ _ _ from H.out.at 1 rfl).crow HW.out).mono ?_
  rintro e w10 ⟨rfl, hb⟩
  replace H := Shut.mk (H.out.below hb)
  clear hb HW
  go_wp2_with fail
  refine (HMH.out _ _ _ _ (H.out.at 1 rfl)).mono ?_
  rintro e w11 ⟨rfl, hF, row, hg8, hr8⟩
  replace H := Shut.mk (H.out.turn 1 rfl (turned_rw8 hg8 hr8) hF (rwS.loc _ _ _ _))
  clear hF hg8 hr8
  go_wp2_with fail
  refine (HER.out _ _ _ _ _ (show FRw _ _ _ _ _ from H.out.at 0 rfl).crow (show FRw _ _ _ _ _ from H.out.at 2 rfl).crow).mono ?_
  rintro e w12 ⟨rfl, hb⟩
  replace H := Shut.mk (H.out.below hb)
  clear hb
  go_wp2_with fail
  refine (HMR.out _ _ _ _ _ (H.out.at 0 rfl) hc7).mono ?_
  rintro e w13 ⟨rfl, hF, row, hg8, hr8⟩
  replace H := Shut.mk (H.out.turn 0 rfl (turned_rw8 hg8 hr8) hF (rwS.loc _ _ _ _))
  clear hF hg8 hr8
  go_wp2_with fail
  refine (HHR.out _ _ _ (show FRw _ _ _ _ _ from H.out.at 0 rfl).crow).mono ?_
  rintro e w14 ⟨rfl, hb⟩
  replace H := Shut.mk (H.out.below hb)
  clear hb
  go_wp2_with fail
  refine (HTO.out _ H.out.bel).mono ?_
  rintro e w15 ⟨gw15, rfl, hg, hw, hb⟩
  replace H := Shut.mk (H.out.below hb)
  have HW := Shut.mk hw.crow
  clear hb hw hg
  go_wp2_with fail
  refine (HIM.out _ _ _ HW.out H.out.bel).mono ?_
  rintro e w16 ⟨a16, c16, rfl, hF, hc16, hb⟩
  replace H := Shut.mk (H.out.add (s := rwS a16 (lsS RL) _ w16.heap.size) hb hF (rwS.loc _ _ _ _) (Nat.le_refl _) (Nat.le_refl _))
  obtain ⟨l16, h16, H⟩ := hide_rw H
  clear hF hb HW
  go_wp2_with fail
  refine (HER.out _ _ _ _ _ (show FRw _ _ _ _ _ from H.out.at 0 rfl).crow (show FRw _ _ _ _ _ from H.out.at 3 rfl).crow).mono ?_
  rintro e w17 ⟨rfl, hb⟩
  replace H := Shut.mk (H.out.below hb)
  clear hb
  go_wp2_with fail
  refine (HHR.out _ _ _ (show FRw _ _ _ _ _ from H.out.at 1 rfl).crow).mono ?_
  rintro e w18 ⟨rfl, hb⟩
  replace H := Shut.mk (H.out.below hb)
  clear hb
  go_wp2_with fail
  go_ret
  exact ⟨rfl, H.out.bel⟩
end Go.Proofs.Ytcnjjbgilpgceaa
/- LawLe: The law of leases (written by gen/mklawle.py). -/
namespace Go.Proofs.Ytcnjjbgilpgceaa
set_option maxRecDepth 100000
open Go.RowKit BigFrame
attribute [local go_sem ↓] Go.wp_at_zero Go.wp_at_succ

theorem code_at9 {w W : World} {a : Option Addr} {len : Nat} (h : CodeAt w w.heap.size a len) (hb : Below w.heap.size w W) : CodeAt W W.heap.size a len :=
  ⟨h.1, fun hp => by obtain ⟨b, off, e, lb, hx⟩ := h.2 hp; exact ⟨b, off, e, Nat.lt_of_lt_of_le lb hb.size, fun j hj => by obtain ⟨x, h1, h2⟩ := hx j hj; exact ⟨x, (hb.cell (p := ⟨b, off + j, none⟩) lb).trans h1, h2⟩⟩⟩
theorem srow_of {W : World} {a : Option Addr} {X : List ByteArray} {lo hi : Nat} (h : FRw W a (tv X) lo hi) : SRow W a X := fun hp => by
  rcases h with e | ⟨g, e, h1, h2, hw⟩
  · have e2 : (tv X).length = X.length := by unfold tv; exact List.length_map _
    rw [e.2] at e2
    simp at e2
    omega
  · refine ⟨g, e, hw.1, fun j hj => ?_⟩
    refine (hw.2 j _ ?_).1
    unfold tv
    rw [List.getElem?_map, List.getElem?_eq_getElem hj]
    simp [List.getD, hj]
theorem same9 (a b : Option Addr) (X : List ByteArray) (n ca cb : Nat) (w : World) (hn : n = X.length) (ha : SRow w a X) (hb : SRow w b X) (hl : n ≤ 100000000) :
    Calls Try.prog 19 #[.slice a n ca, .slice b n cb] w fun e w' => e = .returned (.bool true) ∧ Below w.heap.size w w' := by
  subst hn
  have q := sameTexts_any a b X X ca cb w ha hb hl hl
  rw [show eqS X X = true by unfold eqS; simp] at q
  refine q.mono ?_
  rintro e w' ⟨rfl, m, rfl⟩
  exact ⟨rfl, (Below.refl _ _).trans ⟨rfl, rfl, rfl, Nat.le_refl _, fun _ _ => rfl⟩⟩
set_option maxRecDepth 1000000 in
set_option maxHeartbeats 16000000 in
theorem leases_walk (a : Option Addr) (len cap : Nat) (w : World) (hcode : CodeAt w w.heap.size a len) :
    Calls Try.prog 3 #[.slice a len cap] w fun e w' => e = .returned (.bool true) ∧ Below w.heap.size w w' := by
  have hbig : decide ((1048576 : Int) < (len : Int)) = false := by have := hcode.1; simp; omega
  have HC := Shut.mk hcode
  clear hcode
  go_enter Try.func3, Try.ntmps3
  go_wp2_with fail
  refine (big_any a len cap _).mono ?_
  rintro e wb ⟨rfl, rfl⟩
  rw [hbig]
  go_upto_region 4 with (go_at_call 11; refine (drawLeases_any _ a len cap HC.out).mono ?_; rintro e w1 ⟨L, bL, cL, rfl, hg, hlc, hF, hb⟩; have H := Shut.mk ((SL.start _).add (s := rwS bL (lsS L) _ w1.heap.size) hb hF (rwS.loc _ _ _ _) (Nat.le_refl _) (Nat.le_refl _)); have HG := Shut.mk hg; have HLC := Shut.mk hlc; clear hg hlc hF hb)
  obtain ⟨l0, h0, H⟩ := hide_rw H
  go_upto_region 5 with (go_at_call 12; refine (drawPlaces_any _ a len cap (code_at9 HC.out H.out.bel)).mono ?_; rintro e w2 ⟨gp, pc, pl, rfl, -, -, hpl, hpx, hpc, hb⟩; have x0 := hpc 0 (by omega); have HPX : Shut (0 ≤ pl.getD 0 0 ∧ pl.getD 0 0 < 10000) := ⟨by rw [show pl.getD 0 0 = pl[0]'(by omega) by simp [List.getD, hpl]]; exact hpx _ (List.getElem_mem _)⟩; replace H := Shut.mk (H.out.below hb); generalize pl.getD 0 0 = p0 at x0 HPX; obtain ⟨hp0, hp1⟩ := HPX.out; clear hpl hpx hpc hb)
  obtain ⟨nw, hnw⟩ : ∃ q, q = 30 + p0 % 20 := ⟨_, rfl⟩
  have hn30 : 30 ≤ nw ∧ nw ≤ 49 := by rw [hnw]; omega
  obtain ⟨hn0, hn1⟩ := hn30
  obtain ⟨A, B, C, hall⟩ := leases_all HG.out hn0 hn1
  have HA := Shut.mk hall
  have HTK : Shut (∀ (M : List LsM) (who now : Int), M.length ≤ 7 → (∀ f ∈ M, f.path.size ≤ 12) → (1 ≤ who ∧ who ≤ 9) → (0 ≤ now ∧ now ≤ 1000) → ∀ W b c, LsRow W b M → Calls Try.prog 13 #[.slice b M.length c, .string ⟨#[47, 108, 101, 97, 115, 101]⟩, .int .i64 who, .int .i64 now] W fun e w' => LbPost (takeX M pathQ9 who now) W e w') := ⟨fun M who now h1 h2 h3 h4 W b c h => implTakeLease M b c pathQ9 who now W h (by omega) (fun f hf => by have := h2 f hf; omega) (by decide) (by omega) (by omega)⟩
  have hLL : L.length ≤ 7 := by have := HG.out.few; omega
  have hLS : ∀ f ∈ L, f.path.size ≤ 12 := fun f hf => (HG.out.all f hf).2.1
  have T1 := Shut.mk (HTK.out L 4 nw hLL hLS (by omega) (by omega))
  have T2 := Shut.mk (HTK.out A 5 (nw + 4) hall.lenA hall.szA (by omega) (by omega))
  have T3 := Shut.mk (HTK.out A 5 (nw + 5) hall.lenA hall.szA (by omega) (by omega))
  have T4 := Shut.mk (HTK.out C 5 (nw + 5) hall.lenC hall.szC (by omega) (by omega))
  rw [hall.a] at T1
  rw [hall.no] at T2
  rw [hall.b] at T3
  rw [hall.young] at T4
  have lsA := lsum_le hall.szA
  have lsB := lsum_le hall.szB
  have lsL := lsum_le hLS
  have T5 : Shut (∀ W b c, LsRow W b A → Calls Try.prog 14 #[.slice b A.length c, .int .i64 4, .int .i64 (nw + 5)] W fun e w' => LsPost C W e w') := ⟨fun W b c h => by
    have q := implRenew A b c 4 (nw + 5) W h (by have := hall.lenA; omega) (by have := hall.lenA; omega) (by omega) (by omega)
    rw [hall.c] at q
    exact q⟩
  have T6 : Shut (∀ W b c, LsRow W b A → Calls Try.prog 15 #[.slice b A.length c, .string ⟨#[47, 108, 101, 97, 115, 101]⟩] W fun e w' => LsPost L W e w') := ⟨fun W b c h => by
    have q := implDropLease A b c pathQ9 W h (by have := hall.lenA; omega) (by have := hall.lenA; omega) (by decide)
    rw [hall.d] at q
    exact q⟩
  have T7 : Shut (∀ W b c, LsRow W b L → Calls Try.prog 16 #[.slice b L.length c, .int .i64 nw] W fun e w' => TxPost (expiredX L nw) W e w') := ⟨fun W b c h => implExpired L b c nw W h (by omega) (by omega) (by omega)⟩
  have T8 : Shut (∀ W b c, LsRow W b L → Calls Try.prog 20 #[.slice b L.length c, .int .i64 nw] W fun e w' => TxPost (expiredX L nw) W e w') := ⟨fun W b c h => specExpired L b c nw W h (by omega)⟩
  have T9 : Shut (∀ p, p.size ≤ 12 → ∀ W b c, LsRow W b A → Calls Try.prog 17 #[.slice b A.length c, .string p] W fun e w' => e = .returned (.int .i64 (holderX A p)) ∧ Below W.heap.size W w') := ⟨fun p hp W b c h => implHolderOf A b c p W h (by have := hall.lenA; omega) (by have := hall.lenA; omega) (by omega)⟩
  have U1 : Shut (∀ W b c, LsRow W b A → Calls Try.prog 17 #[.slice b A.length c, .string ⟨#[47, 108, 101, 97, 115, 101]⟩] W fun e w' => e = .returned (.int .i64 4) ∧ Below W.heap.size W w') := ⟨fun W b c h => by have q := T9.out pathQ9 (by decide) W b c h; rw [hall.ha] at q; exact q⟩
  have U2 : Shut (∀ W b c, LsRow W b B → Calls Try.prog 17 #[.slice b B.length c, .string ⟨#[47, 108, 101, 97, 115, 101]⟩] W fun e w' => e = .returned (.int .i64 5) ∧ Below W.heap.size W w') := ⟨fun W b c h => by have q := implHolderOf B b c pathQ9 W h (by have := hall.lenB; omega) (by have := hall.lenB; omega) (by decide); rw [hall.hb] at q; exact q⟩
  have U3 : Shut (∀ W b c, LsRow W b L → Calls Try.prog 17 #[.slice b L.length c, .string ⟨#[47, 108, 101, 97, 115, 101]⟩] W fun e w' => e = .returned (.int .i64 0) ∧ Below W.heap.size W w') := ⟨fun W b c h => by have q := implHolderOf L b c pathQ9 W h (by omega) (by omega) (by decide); rw [hall.hl] at q; exact q⟩
  have V1 : Shut (∀ W b c, LsRow W b L → Calls Try.prog 18 #[.slice b L.length c] W fun e w' => e = .returned (.bool true) ∧ Below W.heap.size W w') := ⟨fun W b c h => by have q := implLeasesOk L b c W h (by omega) (fun f hf => by have := hLS f hf; omega); rw [HG.out.ok] at q; exact q⟩
  have V2 : Shut (∀ W b c, LsRow W b A → Calls Try.prog 18 #[.slice b A.length c] W fun e w' => e = .returned (.bool true) ∧ Below W.heap.size W w') := ⟨fun W b c h => by have q := implLeasesOk A b c W h (by have := hall.lenA; omega) (fun f hf => by have := hall.szA f hf; omega); rw [hall.la] at q; exact q⟩
  have V3 : Shut (∀ W b c, LsRow W b B → Calls Try.prog 18 #[.slice b B.length c] W fun e w' => e = .returned (.bool true) ∧ Below W.heap.size W w') := ⟨fun W b c h => by have q := implLeasesOk B b c W h (by have := hall.lenB; omega) (fun f hf => by have := hall.szB f hf; omega); rw [hall.lb] at q; exact q⟩
  obtain ⟨nL, hnL⟩ : ∃ q, q = L.length := ⟨_, rfl⟩
  obtain ⟨nA, hnA⟩ : ∃ q, q = A.length := ⟨_, rfl⟩
  obtain ⟨nB, hnB⟩ : ∃ q, q = B.length := ⟨_, rfl⟩
  obtain ⟨nC, hnC⟩ : ∃ q, q = C.length := ⟨_, rfl⟩
  have HNL := Shut.mk hnL
  have HLZ := Shut.mk hLS
  have hA7 := hall.lenA
  have hB7 := hall.lenB
  have hC7 := hall.lenC
  unfold LbPost at T1 T2 T3 T4
  unfold LsPost at T5 T6
  unfold TxPost at T7 T8
  dsimp only at T1 T2 T3 T4
  obtain ⟨nE, hnE⟩ : ∃ q, q = (expiredX L nw).length := ⟨_, rfl⟩
  have hE7 : nE ≤ 7 := by rw [hnE]; have := expiredX_len L nw; omega
  rw [← hnL] at T1 T6 T7 T8 U3 V1 hLL HLC ⊢
  rw [← hnA] at T1 T2 T3 T5 T6 T9 U1 V2 hA7
  rw [← hnB] at T3 U2 V3 hB7
  rw [← hnC] at T4 T5 hC7
  rw [← hnE] at T7 T8
  have HNE := Shut.mk hnE
  have HNW := Shut.mk hnw
  clear HTK hall lsA lsB lsL hLS hnL hnA hnB hnC hnE hnw
  go_upto_region 5 with fail
  rw [← HNW.out]
  have hn4 : nw + 5 - 1 = nw + 4 := by omega
  clear x0 hp0 hp1 HPX HNW
  go_upto_region 6 with (go_at_call 13; refine (T1.out _ _ _ ((show FRw _ _ _ _ _ from H.out.at 0 rfl).crow)).mono ?_; rintro e wA ⟨bA, cA, rfl, hF, hc, hb⟩; replace H := Shut.mk (H.out.add (s := rwS bA (lsS A) _ wA.heap.size) hb hF (rwS.loc _ _ _ _) (Nat.le_refl _) (Nat.le_refl _)); have HCA := Shut.mk hc; clear hF hc hb)
  obtain ⟨l1, h1, H⟩ := hide_rw H
  go_upto_region 7 with (go_at_call 13; refine (T2.out _ _ _ ((show FRw _ _ _ _ _ from H.out.at 0 rfl).crow)).mono ?_; rintro e wX ⟨bX, cX, rfl, hF, hc, hb⟩; replace H := Shut.mk (H.out.below hb); clear hF hc hb)
  go_upto_region 8 with (go_at_call 13; refine (T3.out _ _ _ ((show FRw _ _ _ _ _ from H.out.at 0 rfl).crow)).mono ?_; rintro e wB ⟨bB, cB, rfl, hF, hc, hb⟩; replace H := Shut.mk (H.out.add (s := rwS bB (lsS B) _ wB.heap.size) hb hF (rwS.loc _ _ _ _) (Nat.le_refl _) (Nat.le_refl _)); have HCB := Shut.mk hc; clear hF hc hb)
  obtain ⟨l2, h2, H⟩ := hide_rw H
  go_upto_region 9 with (go_at_call 14; refine (T5.out _ _ _ ((show FRw _ _ _ _ _ from H.out.at 1 rfl).crow)).mono ?_; rintro e wC ⟨bC, cC, rfl, hF, hc, hb⟩; replace H := Shut.mk (H.out.add (s := rwS bC (lsS C) _ wC.heap.size) hb hF (rwS.loc _ _ _ _) (Nat.le_refl _) (Nat.le_refl _)); have HCC := Shut.mk hc; clear hF hc hb)
  obtain ⟨l3, h3, H⟩ := hide_rw H
  go_upto_region 10 with (go_at_call 13; refine (T4.out _ _ _ ((show FRw _ _ _ _ _ from H.out.at 0 rfl).crow)).mono ?_; rintro e wY ⟨bY, cY, rfl, hF, hc, hb⟩; replace H := Shut.mk (H.out.below hb); clear hF hc hb)
  go_upto_region 11 with (go_at_call 15; refine (T6.out _ _ _ ((show FRw _ _ _ _ _ from H.out.at 2 rfl).crow)).mono ?_; rintro e wD ⟨bD, cD, rfl, hF, hc, hb⟩; replace H := Shut.mk (H.out.add (s := rwS bD (lsS L) _ wD.heap.size) hb hF (rwS.loc _ _ _ _) (Nat.le_refl _) (Nat.le_refl _)); have HCD := Shut.mk hc; clear hF hc hb)
  obtain ⟨l4, h4, H⟩ := hide_rw H
  go_upto_region 12 with (go_at_call 16; refine (T7.out _ _ _ ((show FRw _ _ _ _ _ from H.out.at 4 rfl).crow)).mono ?_; rintro e wO ⟨bO, cO, rfl, hF, hc, hb⟩; replace H := Shut.mk (H.out.add (s := rwS bO (tv (expiredX L nw)) _ wO.heap.size) hb hF (rwS.loc _ _ _ _) (Nat.le_refl _) (Nat.le_refl _)); have HCO := Shut.mk hc; clear hF hc hb)
  obtain ⟨l5, h5, H⟩ := hide_rw H
  clear T1 T2 T3 T4 T5 T6 T7
  go_wp2_with fail
  go_loopw [16, 17] (fun v16 v17 wr => ∃ (k n : Nat), v16 = .int .i64 n ∧ v17 = .int .i64 k ∧ k ≤ nL ∧ n ≤ k ∧ Shut (n = ((L.take k).filter (fun f => isOld f nw)).length) ∧ Shut (SL wb wr [rwS bO (tv (expiredX L nw)) l5 h5, rwS bD (lsS L) l4 h4, rwS bC (lsS C) l3 h3, rwS bB (lsS B) l2 h2, rwS bA (lsS A) l1 h1, rwS bL (lsS L) l0 h0])) (fun _ v17 _ => nL - (intOf v17).toNat)
  case atStart => exact ⟨0, 0, rfl, rfl, Nat.zero_le _, Nat.le_refl _, ⟨rfl⟩, H⟩
  case round =>
    clear H
    obtain ⟨k, n, rfl, rfl, hk, hnk, HCN, H⟩ := hrel
    by_cases hlt : k < nL
    · have hku : k < L.length := by rw [← HNL.out]; exact hlt
      obtain ⟨g, rfl, -, -, hw⟩ := frw_row (show FRw wr bL (lsS L) l0 h0 from H.out.at 5 rfl) hku
      have lg : g < wr.heap.size := hw.1
      have q0 : wr.cell? ⟨g, k * 3, none⟩ = some (.string L[k].path) := (hw.2 (k * 3) _ (flat_get lsC_len L k hku 0 (by omega))).1
      have q1 : wr.cell? ⟨g, k * 3 + 1, none⟩ = some (.int .i64 L[k].who) := (hw.2 (k * 3 + 1) _ (flat_get lsC_len L k hku 1 (by omega))).1
      have q2 : wr.cell? ⟨g, k * 3 + 2, none⟩ = some (.int .i64 L[k].seen) := (hw.2 (k * 3 + 2) _ (flat_get lsC_len L k hku 2 (by omega))).1
      have k0 : (0 : Int) ≤ (k : Int) := by omega
      have k1 : (k : Int) < (nL : Int) := by omega
      have hsb := (HG.out.all _ (List.getElem_mem hku)).2.2.2
      have HNX : Shut (((L.take (k + 1)).filter (fun f => isOld f nw)).length = ((L.take k).filter (fun f => isOld f nw)).length + if 12 ≤ nw - L[k].seen then 1 else 0) := ⟨by
        rw [filter_take _ L k hku, List.length_append, old_is HG.out hn0 hn1 (List.getElem_mem hku)]
        congr 1
        by_cases h : 12 ≤ nw - L[k].seen
        · rw [if_pos h, if_pos (by simpa using h)]; rfl
        · rw [if_neg h, if_neg (by simpa using h)]; rfl⟩
      have HHD : Shut (∀ W, Below wr.heap.size wr W → Calls Try.prog 17 #[.slice bA nA cA, .string L[k].path] W fun e w' => e = .returned (.int .i64 L[k].who) ∧ Below W.heap.size W w') := ⟨fun W hb => by
        have q := T9.out L[k].path (HLZ.out _ (List.getElem_mem hku)) W bA cA ((show FRw _ _ _ _ _ from (H.out.below hb).at 4 rfl).crow)
        rw [HA.out.hold k hku] at q
        exact q⟩
      obtain ⟨u, hu⟩ : ∃ u, u = L[k] := ⟨_, rfl⟩
      rw [← hu] at q0 q1 q2 HNX HHD hsb
      obtain ⟨hs0, hs1⟩ := hsb
      have hne : (u.who != u.who) = false := by simp
      clear hw hu
      by_cases hold : 12 ≤ nw - u.seen
      · have HNY : Shut (n + 1 = ((L.take (k + 1)).filter (fun f => isOld f nw)).length) := ⟨by rw [HNX.out, if_pos hold, HCN.out]⟩
        go_upto_region 18 with fail
        have g0 : ∀ X : Grow wr, X.val.cell? ⟨g, k * 3, none⟩ = some (.string u.path) := fun X => X.cell q0 lg
        have g1 : ∀ X : Grow wr, X.val.cell? ⟨g, k * 3 + 1, none⟩ = some (.int .i64 u.who) := fun X => X.cell q1 lg
        have HGW := Shut.mk (fun X => calls_grow (w := wr) HHD.out X)
        have HGR : Shut (∀ X : Grow wr, SL wb X.val _) := ⟨fun X => H.out.below X.bel⟩
        clear q0 q1 q2
        refine wp_region_grow (by kernel_rfl) (by kernel_rfl) ?_
        repeat (go_big_quiet_step (first | (go_at_call 17; with_reducible exact HGW.out _)))
        refine wpQuiet_nil ?_
        rintro _ ⟨X, rfl⟩
        clear g0 g1
        go_wp2_with fail
        go_roundw
        case rel => exact ⟨k + 1, n + 1, by go_num, by go_num, by omega, by omega, HNY, ⟨HGR.out X⟩⟩
        case measure => simp [intOf]; omega
      · have HNY : Shut (n = ((L.take (k + 1)).filter (fun f => isOld f nw)).length) := ⟨by rw [HNX.out, if_neg hold, HCN.out, Nat.add_zero]⟩
        go_upto_region 18 with fail
        have g0 : ∀ X : Grow wr, X.val.cell? ⟨g, k * 3, none⟩ = some (.string u.path) := fun X => X.cell q0 lg
        have g1 : ∀ X : Grow wr, X.val.cell? ⟨g, k * 3 + 1, none⟩ = some (.int .i64 u.who) := fun X => X.cell q1 lg
        have HGW := Shut.mk (fun X => calls_grow (w := wr) HHD.out X)
        have HGR : Shut (∀ X : Grow wr, SL wb X.val _) := ⟨fun X => H.out.below X.bel⟩
        clear q0 q1 q2
        refine wp_region_grow (by kernel_rfl) (by kernel_rfl) ?_
        repeat (go_big_quiet_step (first | (go_at_call 17; with_reducible exact HGW.out _)))
        refine wpQuiet_nil ?_
        rintro _ ⟨X, rfl⟩
        clear g0 g1
        go_wp2_with fail
        go_roundw
        case rel => exact ⟨k + 1, n, rfl, by go_num, by omega, by omega, HNY, ⟨HGR.out X⟩⟩
        case measure => simp [intOf]; omega
    · obtain rfl : k = nL := by omega
      have hnE : n = nE := by
        rw [HCN.out, HNE.out, List.take_of_length_le (by have := HNL.out; omega)]
        unfold expiredX
        rw [List.length_map]
      subst hnE
      have hE : ((n : Int) == (n : Int)) = true := by simp
      have hL9 : ((k : Int) == (k : Int)) = true := by simp
      have hXX : Shut (eqS (expiredX L nw) (expiredX L nw) = true) := ⟨by unfold eqS; simp⟩
      obtain ⟨XX, hX9⟩ : ∃ q, q = expiredX L nw := ⟨_, rfl⟩
      rw [← hX9] at H HNE hXX T8
      clear hX9
      go_wp2_with (first
        | (go_at_call 18; first | ((with_reducible refine (V1.out _ _ _ ((show FRw _ _ _ _ _ from H.out.at 5 rfl).crow)).mono ?_); rintro e wq ⟨rfl, hb⟩; replace H := Shut.mk (H.out.below hb); clear hb) | ((with_reducible refine (V2.out _ _ _ ((show FRw _ _ _ _ _ from H.out.at 4 rfl).crow)).mono ?_); rintro e wq ⟨rfl, hb⟩; replace H := Shut.mk (H.out.below hb); clear hb) | ((with_reducible refine (V3.out _ _ _ ((show FRw _ _ _ _ _ from H.out.at 3 rfl).crow)).mono ?_); rintro e wq ⟨rfl, hb⟩; replace H := Shut.mk (H.out.below hb); clear hb))
        | (go_at_call 17; first | ((with_reducible refine (U1.out _ _ _ ((show FRw _ _ _ _ _ from H.out.at 4 rfl).crow)).mono ?_); rintro e wq ⟨rfl, hb⟩; replace H := Shut.mk (H.out.below hb); clear hb) | ((with_reducible refine (U2.out _ _ _ ((show FRw _ _ _ _ _ from H.out.at 3 rfl).crow)).mono ?_); rintro e wq ⟨rfl, hb⟩; replace H := Shut.mk (H.out.below hb); clear hb) | ((with_reducible refine (U3.out _ _ _ ((show FRw _ _ _ _ _ from H.out.at 1 rfl).crow)).mono ?_); rintro e wq ⟨rfl, hb⟩; replace H := Shut.mk (H.out.below hb); clear hb))
        | (go_at_call 20; refine (T8.out _ _ _ ((show FRw _ _ _ _ _ from H.out.at 5 rfl).crow)).mono ?_; rintro e wn ⟨bN, cN, rfl, hF, hc, hb⟩; have HO9 := Shut.mk (srow_of (show FRw _ _ _ _ _ from (H.out.below hb).at 0 rfl)); have HN9 := Shut.mk (srow_of hF); replace H := Shut.mk (H.out.below hb); clear hF hc hb)
        | (go_at_call 19; refine (same9 bO bN XX n cO cN _ HNE.out HO9.out HN9.out (by omega)).mono ?_; rintro e wz ⟨rfl, hb⟩; replace H := Shut.mk (H.out.below hb); clear hb))
      go_ret
      exact ⟨rfl, H.out.bel⟩
end Go.Proofs.Ytcnjjbgilpgceaa
