/- Texts of ours, laid one behind the other: TApRow, TSpI, TSpJ, TUoS, TClS, TSpK. -/
import Derived.Test.YtbkimmbfepjodaaDoorPfT14
import Derived.Deep.Upon
import Derived.Handy
set_option linter.unusedVariables false
set_option linter.unusedSimpArgs false
/- 'append' of a whole row, empty or not, to a row of one's own; and one element more, beside stretches. -/
namespace Go.Proofs.YtbkimmbfepjodaaDoorT
set_option maxRecDepth 100000
open Go.RowKit

end Go.Proofs.YtbkimmbfepjodaaDoorT
/- The models' l14Copy, l14At, GetUnit. -/
namespace Go.Proofs.YtbkimmbfepjodaaDoorT
set_option maxRecDepth 100000
open Go.RowKit BigFrame
attribute [local go_sem ↓] Go.wp_at_zero Go.wp_at_succ

/-- The place of a unit. -/
def atN (us : List UnM) (g i : Int) : Int := if unIdx us g i < us.length then (unIdx us g i : Int) else -1
theorem unIdx_found {L : List UnM} {g i : Int} {k : Nat} (hk : k < L.length) (h : (L[k].group == g && L[k].index == i) = true) (hb : ∀ j (hj : j < L.length), j < k → (L[j].group == g && L[j].index == i) = false) : unIdx L g i = k := by
  unfold unIdx
  rw [List.findIdx_eq hk]
  exact ⟨h, fun j hj => hb j (by omega) hj⟩
theorem unIdx_none {L : List UnM} {g i : Int} (hb : ∀ j (hj : j < L.length), (L[j].group == g && L[j].index == i) = false) : unIdx L g i = L.length := by
  unfold unIdx
  rw [List.findIdx_eq_length]
  intro x hx
  obtain ⟨j, hj, rfl⟩ := List.getElem_of_mem hx
  exact hb j hj
theorem atN_found {L : List UnM} {g i : Int} {k : Nat} (hk : k < L.length) (h : (L[k].group == g && L[k].index == i) = true) (hb : ∀ j (hj : j < L.length), j < k → (L[j].group == g && L[j].index == i) = false) : atN L g i = (k : Int) := by
  unfold atN; rw [unIdx_found hk h hb, if_pos hk]
theorem atN_none {L : List UnM} {g i : Int} (hb : ∀ j (hj : j < L.length), (L[j].group == g && L[j].index == i) = false) : atN L g i = -1 := by
  unfold atN; rw [unIdx_none hb, if_neg (Nat.lt_irrefl _)]
set_option maxHeartbeats 1000000 in
theorem specAt14 (H : HM) (a : Option Addr) (cap : Nat) (g i : Int) (w : World) (hr : UnRow w a H.us) (hl : H.us.length ≤ 1048576) :
    Calls Tw.prog 40 #[hov H a cap, .int .i64 g, .int .i64 i] w fun e w' => e = .returned (.int .i64 (atN H.us g i)) ∧ Below w.heap.size w w' := by
  have HS0 := Shut.mk ((SL.start w).new #[.int .i64 H.id, .bool H.up, .slice a H.us.length cap] 43)
  have HR := Shut.mk hr
  clear hr
  obtain ⟨id, up, us⟩ := H
  show Calls Tw.prog 40 #[.agg #[.int .i64 id, .bool up, .slice a us.length cap], .int .i64 g, .int .i64 i] w fun e w' => e = .returned (.int .i64 (atN us g i)) ∧ Below w.heap.size w w'
  dsimp only at *
  obtain ⟨n, hn⟩ : ∃ n, n = us.length := ⟨_, rfl⟩
  have HN := Shut.mk hn
  rw [← hn] at HS0 hl ⊢
  clear hn
  obtain ⟨R, hR⟩ : ∃ R, R = atN us g i := ⟨_, rfl⟩
  rw [← hR]
  have HQ := Shut.mk hR
  clear hR
  go_enter Tw.func40, Tw.ntmps40
  go_upto_region 1 with fail
  refine wp_shade (fun W => SL w W [bxS w.heap.size [.int .i64 id, .bool up, .slice a n cap]]) HS0.out ?_
  intro W0 hW
  have HW := Shut.mk hW
  clear HS0 hW
  have x2 := (HW.out.bx 0 rfl 2 _ rfl).1
  go_wp2_with fail
  go_loop [7] (fun i9 => ∃ (k : Nat), i9 = .int .i64 k ∧ k ≤ n ∧ Shut (∀ j (hj : j < us.length), j < k → (us[j].group == g && us[j].index == i) = false)) (fun i9 => n - (intOf i9).toNat)
  case atStart => exact ⟨0, rfl, Nat.zero_le _, ⟨fun j _ hj => by omega⟩⟩
  case round =>
    obtain ⟨k, rfl, hk, HG⟩ := hrel
    by_cases hlt : k < n
    · have hku : k < us.length := by rw [← HN.out]; exact hlt
      obtain ⟨b, off, rfl, lb, hc⟩ := UnRow.at (HR.out.stays HW.out.bel) (by omega)
      obtain ⟨d0, d1, d2, d3⟩ := hc k hku
      have HF : Shut ((us[k].group == g && us[k].index == i) = true → R = (k : Int)) := ⟨fun h => HQ.out.trans (atN_found hku h HG.out)⟩
      have HNX : Shut ((us[k].group == g && us[k].index == i) = false → ∀ j (hj : j < us.length), j < k + 1 → (us[j].group == g && us[j].index == i) = false) := ⟨fun h j hj hjk => by
        rcases Nat.lt_succ_iff_lt_or_eq.1 hjk with e | e
        · exact HG.out j hj e
        · subst e; exact h⟩
      obtain ⟨u, hu⟩ : ∃ u, u = us[k] := ⟨_, rfl⟩
      rw [← hu] at d0 d1 d2 d3 HF HNX
      have k0 : (0 : Int) ≤ (k : Int) := by omega
      have k1 : (k : Int) < (n : Int) := by omega
      clear hc hu d2 d3
      cases h1 : u.group == g with
      | false =>
        have HX := Shut.mk (HNX.out (by rw [h1]; rfl))
        go_wp2_with fail
        go_round
        case rel => exact ⟨k + 1, by go_num, by omega, HX⟩
        case measure => simp [intOf]; omega
      | true =>
        cases h2 : u.index == i with
        | false =>
          have HX := Shut.mk (HNX.out (by rw [h1, h2]; rfl))
          go_wp2_with fail
          go_round
          case rel => exact ⟨k + 1, by go_num, by omega, HX⟩
          case measure => simp [intOf]; omega
        | true =>
          have HX := Shut.mk (HF.out (by rw [h1, h2]; rfl))
          go_wp2_with fail
          go_ret
          exact ⟨by rw [HX.out]; rfl, HW.out.bel⟩
    · have HX : Shut (R = -1) := ⟨HQ.out.trans (atN_none fun j hj => HG.out j hj (by have := HN.out; omega))⟩
      obtain rfl : k = n := by omega
      go_wp2_with fail
      go_ret
      exact ⟨by rw [HX.out]; rfl, HW.out.bel⟩
end Go.Proofs.YtbkimmbfepjodaaDoorT
/- The model's GetUnit. -/
namespace Go.Proofs.YtbkimmbfepjodaaDoorT
set_option maxRecDepth 100000
open Go.RowKit BigFrame
attribute [local go_sem ↓] Go.wp_at_zero Go.wp_at_succ

theorem idx_lt {us : List UnM} {g i : Int} (h : unIdx us g i < us.length) : atN us g i = (unIdx us g i : Int) := by unfold atN; rw [if_pos h]
theorem idx_no {us : List UnM} {g i : Int} (h : ¬ unIdx us g i < us.length) : atN us g i = -1 := by unfold atN; rw [if_neg h]
/-- The unit at a place, in every later world. -/
theorem un_at {w W : World} {a : Option Addr} {us : List UnM} (hr : UnRow w a us) (hb : Below w.heap.size w W) {k : Nat} (hk : k < us.length) : ∃ b off u, a = some ⟨b, off, none⟩ ∧ u = us[k] ∧ b < w.heap.size ∧ ∀ X, Below W.heap.size W X → X.cell? ⟨b, off + k * 4, none⟩ = some (.int .i64 u.group) ∧ X.cell? ⟨b, off + k * 4 + 1, none⟩ = some (.int .i64 u.index) ∧ X.cell? ⟨b, off + k * 4 + 2, none⟩ = some (.string u.text) ∧ X.cell? ⟨b, off + k * 4 + 3, none⟩ = some (.int .i64 u.sum) := by
  obtain ⟨b, off, e, lb, _⟩ := UnRow.at hr (by omega)
  refine ⟨b, off, us[k], e, rfl, lb, fun X hX => ?_⟩
  obtain ⟨b', off', e', _, hc⟩ := UnRow.at (hr.stays (hb.trans (hX.mono hb.size))) (by omega)
  rw [e] at e'
  simp only [Option.some.injEq, Addr.mk.injEq, and_true] at e'
  obtain ⟨rfl, rfl⟩ := e'
  exact hc k hk
set_option maxRecDepth 100000 in
set_option maxHeartbeats 2000000 in
theorem specGetUnit (H : HM) (a : Option Addr) (cap : Nat) (g i : Int) (w : World) (hr : UnRow w a H.us) (hl : H.us.length ≤ 1048576) (hz : unSum H.us ≤ 1048576) :
    Calls Tw.prog 20 #[hov H a cap, .int .i64 g, .int .i64 i] w fun e w' => e = .returned (.tuple #[.string (getX H g i).1, .bool (getX H g i).2]) ∧ Below w.heap.size w w' := by
  have HS0 := Shut.mk ((SL.start w).new #[.int .i64 H.id, .bool H.up, .slice a H.us.length cap] 43)
  have HR := Shut.mk hr
  have HA := Shut.mk (fun (W : World) (hb : Below w.heap.size w W) => specAt14 H a cap g i W (hr.stays hb) hl)
  have HZ : Shut (∀ u ∈ H.us, u.text.size ≤ 1048576) := ⟨fun u hu => by have := unSum_mem hu; omega⟩
  clear hr hz
  obtain ⟨id, up, us⟩ := H
  obtain ⟨R, hR⟩ : ∃ R, R = getX ⟨id, up, us⟩ g i := ⟨_, rfl⟩
  rw [← hR]
  obtain ⟨t0, b0⟩ := R
  have HQ := Shut.mk hR
  clear hR
  show Calls Tw.prog 20 #[.agg #[.int .i64 id, .bool up, .slice a us.length cap], .int .i64 g, .int .i64 i] w fun e w' => e = .returned (.tuple #[.string t0, .bool b0]) ∧ Below w.heap.size w w'
  dsimp only [hov] at *
  obtain ⟨n, hn⟩ : ∃ n, n = us.length := ⟨_, rfl⟩
  have HN := Shut.mk hn
  rw [← hn] at HS0 HA hl ⊢
  clear hn
  obtain ⟨ki, hki⟩ : ∃ q, q = atN us g i := ⟨_, rfl⟩
  rw [← hki] at HA
  have HK := Shut.mk hki
  clear hki
  go_enter Tw.func20, Tw.ntmps20
  go_upto_region 1 with fail
  refine wp_shade (fun W => SL w W [bxS w.heap.size [.int .i64 id, .bool up, .slice a n cap]]) HS0.out ?_
  intro W0 hW
  have HW := Shut.mk hW
  clear HS0 hW
  have x0 := (HW.out.bx 0 rfl 0 _ rfl).1
  have x1 := (HW.out.bx 0 rfl 1 _ rfl).1
  have x2 := (HW.out.bx 0 rfl 2 _ rfl).1
  go_upto_region 2 with (go_at_call 40; refine (HA.out _ HW.out.bel).mono ?_; rintro e w1 ⟨rfl, hb⟩; replace HW := Shut.mk (HW.out.below hb); clear hb x0 x1 x2)
  have lw := (show WCells w1 w.heap.size _ from HW.out.at 0 rfl).1
  have g1 : ∀ X : Grow w1, X.val.cell? ⟨w.heap.size, 1, none⟩ = some (.bool up) := fun X => X.cell (HW.out.bx 0 rfl 1 _ rfl).1 lw
  have g2 : ∀ X : Grow w1, X.val.cell? ⟨w.heap.size, 2, none⟩ = some (.slice a n cap) := fun X => X.cell (HW.out.bx 0 rfl 2 _ rfl).1 lw
  have HGR : Shut (∀ X : Grow w1, SL w X.val [bxS w.heap.size [.int .i64 id, .bool up, .slice a n cap]]) := ⟨fun X => HW.out.below X.bel⟩
  cases hup : up with
  | false =>
    have HE : Shut ((t0, b0) = ((⟨#[]⟩ : ByteArray), false)) := ⟨by rw [HQ.out]; unfold getX; rw [hup]; simp⟩
    rw [hup] at g1 HGR
    refine wp_region_grow (by kernel_rfl) (by kernel_rfl) ?_
    repeat (go_big_quiet_step (fail))
    refine wpQuiet_nil ?_
    rintro _ ⟨X, rfl⟩
    go_wp2_with fail
    go_ret2
    have e1 := HE.out
    simp only [Prod.mk.injEq] at e1
    exact ⟨by rw [e1.1, e1.2]; rfl, (HGR.out X).bel⟩
  | true =>
    rw [hup] at g1 HGR HQ
    by_cases hf : unIdx us g i < us.length
    · obtain ⟨k, hk⟩ : ∃ k, k = unIdx us g i := ⟨_, rfl⟩
      have hki : ki = (k : Int) := by rw [HK.out, idx_lt hf, hk]
      rw [← hk] at hf
      obtain ⟨b, off, u, rfl, hu, lb, hc⟩ := un_at HR.out HW.out.bel hf
      have HE : Shut ((t0, b0) = if unSound u then (u.text, true) else ((⟨#[]⟩ : ByteArray), false)) := ⟨by
        rw [HQ.out]; unfold getX; dsimp only; rw [← hk, getD_un us k hf, ← hu]; simp [hf]⟩
      have HSU := Shut.mk (fun X : Grow w1 => calls_same (w := w1) (fun W' (_ : Below w1.heap.size w1 W') => specSumText u.text W' (by rw [hu]; exact HZ.out _ (List.getElem_mem hf))) X)
      unfold unSound at HE
      generalize sumN u.text = sn at HE HSU
      subst hki
      have k0 : (0 : Int) ≤ (k : Int) := by omega
      have k1 : (k : Int) < (n : Int) := by have := HN.out; omega
      have k2 : decide ((k : Int) < 0) = false := by simp
      have p2 : ∀ X : Grow w1, X.val.cell? ⟨b, off + k * 4 + 2, none⟩ = some (.string u.text) := fun X => (hc X.val X.bel).2.2.1
      have p3 : ∀ X : Grow w1, X.val.cell? ⟨b, off + k * 4 + 3, none⟩ = some (.int .i64 u.sum) := fun X => (hc X.val X.bel).2.2.2
      have HC := Shut.mk hc
      clear hc hk hu hf
      cases hs : u.sum == sn with
      | false =>
        have hs' : (u.sum != sn) = true := by rw [bne, hs]; rfl
        rw [hs] at HE
        refine wp_region_grow (by kernel_rfl) (by kernel_rfl) ?_
        repeat (go_big_quiet_step (first | (go_at_call 41; with_reducible exact HSU.out _)))
        refine wpQuiet_nil ?_
        rintro _ ⟨X, rfl⟩
        go_wp2_with fail
        go_ret2
        have e1 := HE.out
        simp only [Bool.false_eq_true, if_false, Prod.mk.injEq] at e1
        exact ⟨by rw [e1.1, e1.2]; rfl, (HGR.out X).bel⟩
      | true =>
        have hs' : (u.sum != sn) = false := by rw [bne, hs]; rfl
        rw [hs] at HE
        refine wp_region_grow (by kernel_rfl) (by kernel_rfl) ?_
        repeat (go_big_quiet_step (first | (go_at_call 41; with_reducible exact HSU.out _)))
        refine wpQuiet_nil ?_
        rintro _ ⟨X, rfl⟩
        have y2 := g2 X
        have y3 := p2 X
        clear g1 g2 p2 p3
        go_wp2_with fail
        go_ret2
        have e1 := HE.out
        simp only [if_true, Prod.mk.injEq] at e1
        exact ⟨by rw [e1.1, e1.2]; rfl, (HGR.out X).bel⟩
    · have hki : ki = -1 := by rw [HK.out, idx_no hf]
      have HE : Shut ((t0, b0) = ((⟨#[]⟩ : ByteArray), false)) := ⟨by rw [HQ.out]; unfold getX; simp [hf]⟩
      subst hki
      clear hf
      refine wp_region_grow (by kernel_rfl) (by kernel_rfl) ?_
      repeat (go_big_quiet_step (fail))
      refine wpQuiet_nil ?_
      rintro _ ⟨X, rfl⟩
      go_wp2_with fail
      go_ret2
      have e1 := HE.out
      simp only [Prod.mk.injEq] at e1
      exact ⟨by rw [e1.1, e1.2]; rfl, (HGR.out X).bel⟩
end Go.Proofs.YtbkimmbfepjodaaDoorT
/- The models' UnitsOf and LeftOf. -/
namespace Go.Proofs.YtbkimmbfepjodaaDoorT
set_option maxRecDepth 100000
open Go.RowKit BigFrame
attribute [local go_sem ↓] Go.wp_at_zero Go.wp_at_succ

theorem infoStrU : (Tw.prog.info? 9).map (fun i => (i.zero, i.size, i.bytes)) = some (some (.string ⟨#[]⟩), 1, 16) := by kernel_rfl
set_option maxRecDepth 100000 in
set_option maxHeartbeats 4000000 in
theorem specUnitsOf (a : Option Addr) (rs : List HoR) (cap : Nat) (s g : Int) (w : World) (hr : HsRow w a rs) (hl : rs.length ≤ 1048576) (hz : hsSum (hms rs) ≤ 1048576) :
    Calls Tw.prog 10 #[.slice a rs.length cap, .int .i64 s, .int .i64 g] w fun e w' => UPost (unitsT (hms rs) s g) (unitsB (hms rs) s g) w e w' := by
  obtain ⟨i0, hi, hz0, hz1, hz2⟩ := info_parts infoStrU
  obtain ⟨i1, hi', hy0, hy1, hy2⟩ := info_parts infoBoolG
  have HSC := Shut.mk (fun W => specSchema s W)
  obtain ⟨n, hn⟩ : ∃ n, n = rs.length := ⟨_, rfl⟩
  have HN := Shut.mk hn
  have HR := Shut.mk (And.intro hr hz)
  obtain ⟨T, hT⟩ : ∃ q, q = unitsT (hms rs) s g := ⟨_, rfl⟩
  obtain ⟨Bs, hBs⟩ : ∃ q, q = unitsB (hms rs) s g := ⟨_, rfl⟩
  obtain ⟨m, hm⟩ : ∃ q, q = schN s := ⟨_, rfl⟩
  have hm6 : m ≤ 6 := by rw [hm]; exact schN_le s
  have HTL : Shut (T.length = m ∧ Bs.length = m) := ⟨by rw [hT, hBs, hm]; exact ⟨unitsT_len _ _ _, unitsB_len _ _ _⟩⟩
  have HTA : Shut (∀ k, k < m → T[k]? = some (firstU (hms rs) g (k : Nat)).1 ∧ Bs[k]? = some (firstU (hms rs) g (k : Nat)).2) := ⟨fun k hk => by rw [hT, hBs]; unfold unitsT unitsB unitsL; simp [← hm, hk]⟩
  rw [← hn, ← hT, ← hBs]
  rw [← hn] at hl
  have HM : Shut (m = schK s + schM s) := ⟨by rw [hm]; rfl⟩
  unfold SchPost at HSC
  generalize schK s = ka at *
  generalize schM s = kb at *
  generalize schOk s = kc at *
  have hkm : (ka : Int) + (kb : Int) = (m : Int) := by have := HM.out; omega
  clear hr hz hT hBs hm hn
  go_enter Tw.func10, Tw.ntmps10
  go_upto_region 2 with (go_at_call 19; refine (HSC.out _).mono ?_; rintro e w1 ⟨rfl, hw1⟩; subst hw1)
  go_wp2_with (at_make; refine wpList_make_full _ rfl _ _ 34 rfl w1.heap.size 9 i0 _ 1 Tw.underlying34 hi hz0 hz1 .i64 .i64 _ _ m rfl rfl (by omega) (by omega) ?b2 ?b3 ?b4 ?_)
  case b2 => rw [hz2]; omega
  case b3 => unfold maxLen; omega
  case b4 => omega
  intro wm hownm hgrm
  have hbm : Below w1.heap.size w1 wm := (Below.refl _ _).grown hgrm (Nat.le_refl _) (fun j hj => by simp at hj)
  have hrow : WCells wm w1.heap.size (tv (filT T 0 m)) := by
    have h := own_wcells hownm
    have e : (madeCells #[Value.string ⟨#[]⟩] (m * 1)).toList = tv (filT T 0 m) := by rw [toList_madeCells_one]; simp [tv, filT]
    rw [Nat.mul_one] at e
    first | (rw [e] at h; exact h) | (rw [Nat.mul_one, e] at h; exact h)
  have H1 := Shut.mk ((SL.start w1).add (s := bxS w1.heap.size (tv (filT T 0 m))) hbm hrow (bxS.loc _ _) (Nat.le_refl _) hrow.1)
  clear hownm hgrm hrow hbm
  go_wp2_with (at_make; refine wpList_make_full _ rfl _ _ 35 rfl wm.heap.size 4 i1 _ 1 Tw.underlying35 hi' hy0 hy1 .i64 .i64 _ _ m rfl rfl (by omega) (by omega) ?b2 ?b3 ?b4 ?_)
  case b2 => rw [hy2]; omega
  case b3 => unfold maxLen; omega
  case b4 => omega
  intro wb hownm hgrm
  have hbm : Below wm.heap.size wm wb := (Below.refl _ _).grown hgrm (Nat.le_refl _) (fun j hj => by simp at hj)
  have hrow : WCells wb wm.heap.size (bcs (filB Bs 0 m)) := by
    have h := own_wcells hownm
    have e : (madeCells #[Value.bool false] (m * 1)).toList = bcs (filB Bs 0 m) := by rw [toList_madeCells_one]; simp [bcs, filB]
    rw [Nat.mul_one] at e
    first | (rw [e] at h; exact h) | (rw [Nat.mul_one, e] at h; exact h)
  have H2 := Shut.mk (H1.out.add (s := bxS wm.heap.size (bcs (filB Bs 0 m))) hbm hrow (bxS.loc _ _) (Nat.le_refl _) hrow.1)
  have lne : w1.heap.size < wm.heap.size := (H1.out.at 0 rfl).1
  clear hownm hgrm hrow hbm H1
  go_wp2_with fail
  go_loopw [13] (fun i9 wr => ∃ (k : Nat), i9 = .int .i64 (k : Nat) ∧ k ≤ m ∧ Shut (SL w1 wr [bxS wm.heap.size (bcs (filB Bs k m)), bxS w1.heap.size (tv (filT T k m))])) (fun i9 _ => m - (intOf i9).toNat)
  case atStart => exact ⟨0, rfl, Nat.zero_le _, H2⟩
  case round =>
    clear H2
    obtain ⟨k, rfl, hk, HW⟩ := hrel
    by_cases hlt : k < m
    case neg =>
      obtain rfl : m = k := by omega
      have HE : Shut (filT T m m = T ∧ filB Bs m m = Bs) := ⟨by unfold filT filB; rw [Nat.sub_self, ← HTL.out.1, List.take_length, HTL.out.1, ← HTL.out.2, List.take_length]; simp⟩
      have hke : ¬ (m : Int) < (ka : Int) + (kb : Int) := by omega
      go_wp2_with fail
      go_ret2
      refine upost_mk HTL.out.1 HTL.out.2 (Nat.le_refl _) HW.out.bel (.inr ⟨_, _, rfl, rfl, by omega, Nat.le_refl _, by omega, ?_, ?_⟩)
      · have q := HW.out.at 1 rfl; rw [HE.out.1] at q; exact q
      · have q := HW.out.at 0 rfl; rw [HE.out.2] at q; exact q
    have k1 : (k : Int) < (m : Int) := by omega
    have hkl : k < (filT T k m).length ∧ k < (filB Bs k m).length := by rw [filT_len HTL.out.1 hk, filB_len HTL.out.2 hk]; exact ⟨hlt, hlt⟩
    have HKL := Shut.mk hkl
    have HJ0 : Shut (SL w1 wr [bxS wm.heap.size (bcs ((filB Bs k m).set k (firstU ((hms rs).take 0) g (k : Nat)).2)), bxS w1.heap.size (tv ((filT T k m).set k (firstU ((hms rs).take 0) g (k : Nat)).1))]) := ⟨by
      have e : firstU ((hms rs).take 0) g (k : Nat) = (⟨#[]⟩, false) := by simp [firstU]
      rw [e]
      dsimp only
      unfold filT filB
      rw [fil_same T ⟨#[]⟩ k m hlt HTL.out.1, fil_same Bs false k m hlt HTL.out.2]
      exact HW.out⟩
    have k0 : (0 : Int) ≤ (k : Int) := by omega
    clear HW hkl
    go_upto_region 8 with fail
    go_loopw [14] (fun j9 wr => ∃ (j : Nat), j9 = .int .i64 (j : Nat) ∧ j ≤ n ∧ Shut (SL w1 wr [bxS wm.heap.size (bcs ((filB Bs k m).set k (firstU ((hms rs).take j) g (k : Nat)).2)), bxS w1.heap.size (tv ((filT T k m).set k (firstU ((hms rs).take j) g (k : Nat)).1))])) (fun j9 _ => n - (intOf j9).toNat)
    case atStart => exact ⟨0, rfl, Nat.zero_le _, HJ0⟩
    case round =>
      clear HJ0
      obtain ⟨j, rfl, hj, HW⟩ := hrel
      have HST : Shut (∀ f, f = firstU (hms rs) g (k : Nat) → (filT T k m).set k f.1 = filT T (k + 1) m ∧ (filB Bs k m).set k f.2 = filB Bs (k + 1) m) := ⟨fun f hf => by
        obtain ⟨q1, q2⟩ := HTA.out k hlt
        rw [← hf] at q1 q2
        exact ⟨fil_next T _ _ k m hlt HTL.out.1 q1, fil_next Bs _ _ k m hlt HTL.out.2 q2⟩⟩
      by_cases hjn : j < n
      case neg =>
        obtain rfl : n = j := by omega
        have HE := HST.out (firstU ((hms rs).take n) g (k : Nat)) (by rw [List.take_of_length_le (by rw [hms_len, HN.out]; exact Nat.le_refl _)])
        replace HW := HW.out
        rw [HE.1, HE.2] at HW
        replace HW := Shut.mk HW
        clear HE HST
        go_wp2_with fail
        go_roundw
        case rel => exact ⟨k + 1, by go_num, by omega, HW⟩
        case measure => simp [intOf]; omega
      have hjr : j < rs.length := by rw [← HN.out]; exact hjn
      have j0 : (0 : Int) ≤ (j : Int) := by omega
      have j1 : (j : Int) < (n : Int) := by omega
      have hcell := HW.out.bx 0 rfl k (.bool (firstU ((hms rs).take j) g (k : Nat)).2) (by rw [bcs_get _ _ (by rw [List.length_set]; exact HKL.out.2)]; simp [List.getD, HKL.out.2])
      cases hf : (firstU ((hms rs).take j) g (k : Nat)).2 with
      | true =>
        have HE := HST.out (firstU ((hms rs).take j) g (k : Nat)) (firstU_stop g (k : Nat) hf).symm
        rw [hf] at hcell HE
        obtain ⟨c0, z0⟩ := hcell
        replace HW := HW.out
        rw [hf, HE.1, HE.2] at HW
        replace HW := Shut.mk HW
        clear HE HST z0 hf
        go_wp2_with fail
        go_roundw
        case rel => exact ⟨k + 1, by go_num, by omega, HW⟩
        case measure => simp [intOf]; omega
      | false =>
        have e0 := firstU_none hf
        have HNX := Shut.mk (firstU_take (hs := hms rs) (k := j) (by rw [hms_len]; exact hjr) g (k : Nat) hf)
        rw [hf] at hcell
        obtain ⟨c0, z0⟩ := hcell
        obtain ⟨b, off, r, rfl, hre, lb, hc⟩ := hs_at HR.out.1 HW.out.bel hjr
        obtain ⟨d0, d1, d2, d3⟩ := hc wr (Below.refl _ _)
        have hme : (hms rs)[j]'(by rw [hms_len]; exact hjr) = r.h := by rw [hre]; simp [hms]
        rw [hme] at HNX
        have hsm := hsSum_mem (hs := hms rs) (h := r.h) (by rw [← hme]; exact List.getElem_mem _)
        have hsz := HR.out.2
        have HGU := Shut.mk (specGetUnit r.h r.loc r.cap g (k : Nat) wr d3 (by omega) (by omega))
        have hcellT := HW.out.bx 1 rfl k (.string (firstU ((hms rs).take j) g (k : Nat)).1) (by rw [tv_get _ _ (by rw [List.length_set]; exact HKL.out.1)]; simp [List.getD, HKL.out.1])
        rw [e0] at hcellT
        obtain ⟨c1, z1⟩ := hcellT
        obtain ⟨⟨rid, rup, rus⟩, rl, rc⟩ := r
        dsimp only [hov] at *
        obtain ⟨q, hq⟩ : ∃ q, q = rus.length := ⟨_, rfl⟩
        rw [← hq] at d2 HGU
        cases hgb : (getX ⟨rid, rup, rus⟩ g (k : Nat)).2 with
        | false =>
          have hgn := getX_none hgb
          have HSM : Shut ((firstU ((hms rs).take (j + 1)) g (k : Nat)) = (firstU ((hms rs).take j) g (k : Nat))) := ⟨by rw [HNX.out, hgn, e0]⟩
          rw [hgn] at HGU
          clear hc hre hme hq hsm hsz d3 e0 HST HNX hgb hgn hf z0 z1 c1
          go_wp2_with (go_at_call 20; refine HGU.out.mono ?_; rintro e w2 ⟨rfl, hb2⟩; have HW2 := Shut.mk (HW.out.below hb2); clear hb2)
          go_roundw
          case rel => exact ⟨j + 1, by go_num, by omega, ⟨by rw [HSM.out]; exact HW2.out⟩⟩
          case measure => simp [intOf]; omega
        | true =>
          rw [hgb] at HGU
          generalize hgt : (getX ⟨rid, rup, rus⟩ g (k : Nat)).1 = gt at HGU
          have HSM : Shut ((firstU ((hms rs).take (j + 1)) g (k : Nat)) = (gt, true)) := ⟨by rw [HNX.out, ← hgt, ← hgb]⟩
          have HPT : Shut (∀ W, SL w1 W [bxS wm.heap.size (bcs ((filB Bs k m).set k (firstU ((hms rs).take j) g (k : Nat)).2)), bxS w1.heap.size (tv ((filT T k m).set k (firstU ((hms rs).take j) g (k : Nat)).1))] → SL w1 ((W.setCell ⟨w1.heap.size, k, none⟩ (.string gt)).setCell ⟨wm.heap.size, k, none⟩ (.bool true)) [bxS wm.heap.size (bcs ((filB Bs k m).set k (firstU ((hms rs).take (j + 1)) g (k : Nat)).2)), bxS w1.heap.size (tv ((filT T k m).set k (firstU ((hms rs).take (j + 1)) g (k : Nat)).1))]) := ⟨fun W h => by
            have q := (h.put 1 rfl k (.string gt) (by rw [tv_len, List.length_set]; exact HKL.out.1)).put 0 rfl k (.bool true) (by rw [bcs_len, List.length_set]; exact HKL.out.2)
            rw [HSM.out]
            dsimp only [List.set_cons_zero, List.set_cons_succ] at q
            rw [tv_set, bcs_set, List.set_set, List.set_set] at q
            exact q⟩
          have HCS : Shut (∀ W, SL w1 W [bxS wm.heap.size (bcs ((filB Bs k m).set k (firstU ((hms rs).take j) g (k : Nat)).2)), bxS w1.heap.size (tv ((filT T k m).set k (firstU ((hms rs).take j) g (k : Nat)).1))] → W.cell? ⟨w1.heap.size, k, none⟩ = some (.string ⟨#[]⟩) ∧ W.frozen? ⟨w1.heap.size, k, none⟩ = false ∧ W.cell? ⟨wm.heap.size, k, none⟩ = some (.bool false) ∧ W.frozen? ⟨wm.heap.size, k, none⟩ = false) := ⟨fun W h => by
            have t1 := h.bx 1 rfl k (.string (firstU ((hms rs).take j) g (k : Nat)).1) (by rw [tv_get _ _ (by rw [List.length_set]; exact HKL.out.1)]; simp [List.getD, HKL.out.1])
            have t2 := h.bx 0 rfl k (.bool (firstU ((hms rs).take j) g (k : Nat)).2) (by rw [bcs_get _ _ (by rw [List.length_set]; exact HKL.out.2)]; simp [List.getD, HKL.out.2])
            rw [e0] at t1
            rw [hf] at t2
            exact ⟨t1.1, t1.2, t2.1, t2.2⟩⟩
          have hne1 : ¬ wm.heap.size = w1.heap.size := by omega
          have hne2 : ¬ w1.heap.size = wm.heap.size := by omega
          clear hc hre hme hq hsm hsz d3 e0 HST HNX hgb hgt hf z0 z1 c1
          go_wp2_with (go_at_call 20; refine HGU.out.mono ?_; rintro e w2 ⟨rfl, hb2⟩; have HW2 := Shut.mk (HW.out.below hb2); obtain ⟨p0, p1, p2, p3⟩ := HCS.out w2 HW2.out; clear hb2)
          have HW3 := Shut.mk (HPT.out w2 HW2.out)
          go_roundw
          case rel => exact ⟨j + 1, by go_num, by omega, HW3⟩
          case measure => simp [intOf]; omega
end Go.Proofs.YtbkimmbfepjodaaDoorT
/- The library's strings.Clone. -/
namespace Go.Proofs.YtbkimmbfepjodaaDoorT
set_option maxRecDepth 100000
open Go.RowKit BigFrame
attribute [local go_sem ↓] Go.wp_at_zero Go.wp_at_succ

set_option maxRecDepth 100000 in
theorem implClone (s : ByteArray) (w : World) (hs : s.size ≤ 281474976710656) : Calls Tw.prog 68 #[.string s] w fun e w' => e = .returned (.string s) ∧ Below w.heap.size w w' := by
  have HC := Shut.mk (fun W => Tw.stringslite_Clone s W hs)
  go_enter Tw.func68, Tw.ntmps68
  go_wp2_with fail
  refine (HC.out _).mono ?_
  rintro e w1 ⟨rfl, hb⟩
  go_wp2_with fail
  go_ret
  exact ⟨rfl, hb⟩
end Go.Proofs.YtbkimmbfepjodaaDoorT
/- The model's PutUnit (written by gen/mkput.py). -/
namespace Go.Proofs.YtbkimmbfepjodaaDoorT
set_option maxRecDepth 100000
open Go.RowKit BigFrame
attribute [local go_sem ↓] Go.wp_at_zero Go.wp_at_succ

end Go.Proofs.YtbkimmbfepjodaaDoorT
