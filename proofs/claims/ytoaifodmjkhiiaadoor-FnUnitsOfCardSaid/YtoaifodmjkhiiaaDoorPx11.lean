/- Texts of ours, laid one behind the other: UoS, SpM, HpA, HpB, HpC, HpD, HpE. -/
import Derived.Test.YtoaifodmjkhiiaaDoorPx10
import Derived.Handy
import Derived.Test.YtoaifodmjkhiiaaDoorShelf
import Derived.Laws.MakeOwn
import Derived.Deep.AppendLies
import Derived.Laws.StructEq
/- UoS: The models' UnitsOf and LeftOf. -/
namespace Go.Proofs.YtoaifodmjkhiiaaDoor
set_option maxRecDepth 100000
open Go.RowKit BigFrame
attribute [local go_sem ↓] Go.wp_at_zero Go.wp_at_succ

theorem infoStrU : (Tryd.prog.info? 9).map (fun i => (i.zero, i.size, i.bytes)) = some (some (.string ⟨#[]⟩), 1, 16) := by kernel_rfl
set_option maxRecDepth 100000 in
set_option maxHeartbeats 4000000 in
theorem specUnitsOf (a : Option Addr) (rs : List HoR) (cap : Nat) (s g : Int) (w : World) (hr : HsRow w a rs) (hl : rs.length ≤ 1048576) (hz : hsSum (hms rs) ≤ 1048576) :
    Calls Tryd.prog 7 #[.slice a rs.length cap, .int .i64 s, .int .i64 g] w fun e w' => UPost (unitsT (hms rs) s g) (unitsB (hms rs) s g) w e w' := by
  obtain ⟨i0, hi, hz0, hz1, hz2⟩ := info_parts infoStrU
  obtain ⟨i1, hi', hy0, hy1, hy2⟩ := info_parts infoBoolG
  have HSC := Shut.mk (fun W => specSchema s W)
  obtain ⟨n, hn⟩ : ∃ n, n = rs.length := ⟨_, rfl⟩
  have HN := Shut.mk hn
  have HR := Shut.mk (And.intro hr hz)
  obtain ⟨T, hT⟩ : ∃ q, q = unitsT (hms rs) s g := ⟨_, rfl⟩
  obtain ⟨Bs, hBs⟩ : ∃ q, q = unitsB (hms rs) s g := ⟨_, rfl⟩
  obtain ⟨m, hm⟩ : ∃ q, q = schN s := ⟨_, rfl⟩
  have hm6 : m ≤ 6 := by rw [hm]; exact schN_le s
  have HTL : Shut (T.length = m ∧ Bs.length = m) := ⟨by rw [hT, hBs, hm]; exact ⟨unitsT_len _ _ _, unitsB_len _ _ _⟩⟩
  have HTA : Shut (∀ k, k < m → T[k]? = some (firstU (hms rs) g (k : Nat)).1 ∧ Bs[k]? = some (firstU (hms rs) g (k : Nat)).2) := ⟨fun k hk => by rw [hT, hBs]; unfold unitsT unitsB unitsL; simp [← hm, hk]⟩
  rw [← hn, ← hT, ← hBs]
  rw [← hn] at hl
  have HM : Shut (m = schK s + schM s) := ⟨by rw [hm]; rfl⟩
  unfold SchPost at HSC
  generalize schK s = ka at *
  generalize schM s = kb at *
  generalize schOk s = kc at *
  have hkm : (ka : Int) + (kb : Int) = (m : Int) := by have := HM.out; omega
  clear hr hz hT hBs hm hn
  go_enter Tryd.func7, Tryd.ntmps7
  go_upto_region 2 with (go_at_call 28; refine (HSC.out _).mono ?_; rintro e w1 ⟨rfl, hw1⟩; subst hw1)
  go_wp2_with (at_make; refine wpList_make_full _ rfl _ _ 24 rfl w1.heap.size 9 i0 _ 1 Tryd.underlying24 hi hz0 hz1 .i64 .i64 _ _ m rfl rfl (by omega) (by omega) ?b2 ?b3 ?b4 ?_)
  case b2 => rw [hz2]; omega
  case b3 => unfold maxLen; omega
  case b4 => omega
  intro wm hownm hgrm
  have hbm : Below w1.heap.size w1 wm := (Below.refl _ _).grown hgrm (Nat.le_refl _) (fun j hj => by simp at hj)
  have hrow : WCells wm w1.heap.size (tv (filT T 0 m)) := by
    have h := own_wcells hownm
    have e : (madeCells #[Value.string ⟨#[]⟩] (m * 1)).toList = tv (filT T 0 m) := by rw [toList_madeCells_one]; simp [tv, filT]
    rw [Nat.mul_one] at e
    first | (rw [e] at h; exact h) | (rw [Nat.mul_one, e] at h; exact h)
  have H1 := Shut.mk ((SL.start w1).add (s := bxS w1.heap.size (tv (filT T 0 m))) hbm hrow (bxS.loc _ _) (Nat.le_refl _) hrow.1)
  clear hownm hgrm hrow hbm
  go_wp2_with (at_make; refine wpList_make_full _ rfl _ _ 25 rfl wm.heap.size 4 i1 _ 1 Tryd.underlying25 hi' hy0 hy1 .i64 .i64 _ _ m rfl rfl (by omega) (by omega) ?b2 ?b3 ?b4 ?_)
  case b2 => rw [hy2]; omega
  case b3 => unfold maxLen; omega
  case b4 => omega
  intro wb hownm hgrm
  have hbm : Below wm.heap.size wm wb := (Below.refl _ _).grown hgrm (Nat.le_refl _) (fun j hj => by simp at hj)
  have hrow : WCells wb wm.heap.size (bcs (filB Bs 0 m)) := by
    have h := own_wcells hownm
    have e : (madeCells #[Value.bool false] (m * 1)).toList = bcs (filB Bs 0 m) := by rw [toList_madeCells_one]; simp [bcs, filB]
    rw [Nat.mul_one] at e
    first | (rw [e] at h; exact h) | (rw [Nat.mul_one, e] at h; exact h)
  have H2 := Shut.mk (H1.out.add (s := bxS wm.heap.size (bcs (filB Bs 0 m))) hbm hrow (bxS.loc _ _) (Nat.le_refl _) hrow.1)
  have lne : w1.heap.size < wm.heap.size := (H1.out.at 0 rfl).1
  clear hownm hgrm hrow hbm H1
  go_wp2_with fail
  go_loopw [13] (fun i9 wr => ∃ (k : Nat), i9 = .int .i64 (k : Nat) ∧ k ≤ m ∧ Shut (SL w1 wr [bxS wm.heap.size (bcs (filB Bs k m)), bxS w1.heap.size (tv (filT T k m))])) (fun i9 _ => m - (intOf i9).toNat)
  case atStart => exact ⟨0, rfl, Nat.zero_le _, H2⟩
  case round =>
    clear H2
    obtain ⟨k, rfl, hk, HW⟩ := hrel
    by_cases hlt : k < m
    case neg =>
      obtain rfl : m = k := by omega
      have HE : Shut (filT T m m = T ∧ filB Bs m m = Bs) := ⟨by unfold filT filB; rw [Nat.sub_self, ← HTL.out.1, List.take_length, HTL.out.1, ← HTL.out.2, List.take_length]; simp⟩
      have hke : ¬ (m : Int) < (ka : Int) + (kb : Int) := by omega
      go_wp2_with fail
      go_ret2
      refine upost_mk HTL.out.1 HTL.out.2 (Nat.le_refl _) HW.out.bel (.inr ⟨_, _, rfl, rfl, by omega, Nat.le_refl _, by omega, ?_, ?_⟩)
      · have q := HW.out.at 1 rfl; rw [HE.out.1] at q; exact q
      · have q := HW.out.at 0 rfl; rw [HE.out.2] at q; exact q
    have k1 : (k : Int) < (m : Int) := by omega
    have hkl : k < (filT T k m).length ∧ k < (filB Bs k m).length := by rw [filT_len HTL.out.1 hk, filB_len HTL.out.2 hk]; exact ⟨hlt, hlt⟩
    have HKL := Shut.mk hkl
    have HJ0 : Shut (SL w1 wr [bxS wm.heap.size (bcs ((filB Bs k m).set k (firstU ((hms rs).take 0) g (k : Nat)).2)), bxS w1.heap.size (tv ((filT T k m).set k (firstU ((hms rs).take 0) g (k : Nat)).1))]) := ⟨by
      have e : firstU ((hms rs).take 0) g (k : Nat) = (⟨#[]⟩, false) := by simp [firstU]
      rw [e]
      dsimp only
      unfold filT filB
      rw [fil_same T ⟨#[]⟩ k m hlt HTL.out.1, fil_same Bs false k m hlt HTL.out.2]
      exact HW.out⟩
    have k0 : (0 : Int) ≤ (k : Int) := by omega
    clear HW hkl
    go_upto_region 8 with fail
    go_loopw [14] (fun j9 wr => ∃ (j : Nat), j9 = .int .i64 (j : Nat) ∧ j ≤ n ∧ Shut (SL w1 wr [bxS wm.heap.size (bcs ((filB Bs k m).set k (firstU ((hms rs).take j) g (k : Nat)).2)), bxS w1.heap.size (tv ((filT T k m).set k (firstU ((hms rs).take j) g (k : Nat)).1))])) (fun j9 _ => n - (intOf j9).toNat)
    case atStart => exact ⟨0, rfl, Nat.zero_le _, HJ0⟩
    case round =>
      clear HJ0
      obtain ⟨j, rfl, hj, HW⟩ := hrel
      have HST : Shut (∀ f, f = firstU (hms rs) g (k : Nat) → (filT T k m).set k f.1 = filT T (k + 1) m ∧ (filB Bs k m).set k f.2 = filB Bs (k + 1) m) := ⟨fun f hf => by
        obtain ⟨q1, q2⟩ := HTA.out k hlt
        rw [← hf] at q1 q2
        exact ⟨fil_next T _ _ k m hlt HTL.out.1 q1, fil_next Bs _ _ k m hlt HTL.out.2 q2⟩⟩
      by_cases hjn : j < n
      case neg =>
        obtain rfl : n = j := by omega
        have HE := HST.out (firstU ((hms rs).take n) g (k : Nat)) (by rw [List.take_of_length_le (by rw [hms_len, HN.out]; exact Nat.le_refl _)])
        replace HW := HW.out
        rw [HE.1, HE.2] at HW
        replace HW := Shut.mk HW
        clear HE HST
        go_wp2_with fail
        go_roundw
        case rel => exact ⟨k + 1, by go_num, by omega, HW⟩
        case measure => simp [intOf]; omega
      have hjr : j < rs.length := by rw [← HN.out]; exact hjn
      have j0 : (0 : Int) ≤ (j : Int) := by omega
      have j1 : (j : Int) < (n : Int) := by omega
      have hcell := HW.out.bx 0 rfl k (.bool (firstU ((hms rs).take j) g (k : Nat)).2) (by rw [bcs_get _ _ (by rw [List.length_set]; exact HKL.out.2)]; simp [List.getD, HKL.out.2])
      cases hf : (firstU ((hms rs).take j) g (k : Nat)).2 with
      | true =>
        have HE := HST.out (firstU ((hms rs).take j) g (k : Nat)) (firstU_stop g (k : Nat) hf).symm
        rw [hf] at hcell HE
        obtain ⟨c0, z0⟩ := hcell
        replace HW := HW.out
        rw [hf, HE.1, HE.2] at HW
        replace HW := Shut.mk HW
        clear HE HST z0 hf
        go_wp2_with fail
        go_roundw
        case rel => exact ⟨k + 1, by go_num, by omega, HW⟩
        case measure => simp [intOf]; omega
      | false =>
        have e0 := firstU_none hf
        have HNX := Shut.mk (firstU_take (hs := hms rs) (k := j) (by rw [hms_len]; exact hjr) g (k : Nat) hf)
        rw [hf] at hcell
        obtain ⟨c0, z0⟩ := hcell
        obtain ⟨b, off, r, rfl, hre, lb, hc⟩ := hs_at HR.out.1 HW.out.bel hjr
        obtain ⟨d0, d1, d2, d3⟩ := hc wr (Below.refl _ _)
        have hme : (hms rs)[j]'(by rw [hms_len]; exact hjr) = r.h := by rw [hre]; simp [hms]
        rw [hme] at HNX
        have hsm := hsSum_mem (hs := hms rs) (h := r.h) (by rw [← hme]; exact List.getElem_mem _)
        have hsz := HR.out.2
        have HGU := Shut.mk (specGetUnit r.h r.loc r.cap g (k : Nat) wr d3 (by omega) (by omega))
        have hcellT := HW.out.bx 1 rfl k (.string (firstU ((hms rs).take j) g (k : Nat)).1) (by rw [tv_get _ _ (by rw [List.length_set]; exact HKL.out.1)]; simp [List.getD, HKL.out.1])
        rw [e0] at hcellT
        obtain ⟨c1, z1⟩ := hcellT
        obtain ⟨⟨rid, rup, rus⟩, rl, rc⟩ := r
        dsimp only [hov] at *
        obtain ⟨q, hq⟩ : ∃ q, q = rus.length := ⟨_, rfl⟩
        rw [← hq] at d2 HGU
        cases hgb : (getX ⟨rid, rup, rus⟩ g (k : Nat)).2 with
        | false =>
          have hgn := getX_none hgb
          have HSM : Shut ((firstU ((hms rs).take (j + 1)) g (k : Nat)) = (firstU ((hms rs).take j) g (k : Nat))) := ⟨by rw [HNX.out, hgn, e0]⟩
          rw [hgn] at HGU
          clear hc hre hme hq hsm hsz d3 e0 HST HNX hgb hgn hf z0 z1 c1
          go_wp2_with (go_at_call 22; refine HGU.out.mono ?_; rintro e w2 ⟨rfl, hb2⟩; have HW2 := Shut.mk (HW.out.below hb2); clear hb2)
          go_roundw
          case rel => exact ⟨j + 1, by go_num, by omega, ⟨by rw [HSM.out]; exact HW2.out⟩⟩
          case measure => simp [intOf]; omega
        | true =>
          rw [hgb] at HGU
          generalize hgt : (getX ⟨rid, rup, rus⟩ g (k : Nat)).1 = gt at HGU
          have HSM : Shut ((firstU ((hms rs).take (j + 1)) g (k : Nat)) = (gt, true)) := ⟨by rw [HNX.out, ← hgt, ← hgb]⟩
          have HPT : Shut (∀ W, SL w1 W [bxS wm.heap.size (bcs ((filB Bs k m).set k (firstU ((hms rs).take j) g (k : Nat)).2)), bxS w1.heap.size (tv ((filT T k m).set k (firstU ((hms rs).take j) g (k : Nat)).1))] → SL w1 ((W.setCell ⟨w1.heap.size, k, none⟩ (.string gt)).setCell ⟨wm.heap.size, k, none⟩ (.bool true)) [bxS wm.heap.size (bcs ((filB Bs k m).set k (firstU ((hms rs).take (j + 1)) g (k : Nat)).2)), bxS w1.heap.size (tv ((filT T k m).set k (firstU ((hms rs).take (j + 1)) g (k : Nat)).1))]) := ⟨fun W h => by
            have q := (h.put 1 rfl k (.string gt) (by rw [tv_len, List.length_set]; exact HKL.out.1)).put 0 rfl k (.bool true) (by rw [bcs_len, List.length_set]; exact HKL.out.2)
            rw [HSM.out]
            dsimp only [List.set_cons_zero, List.set_cons_succ] at q
            rw [tv_set, bcs_set, List.set_set, List.set_set] at q
            exact q⟩
          have HCS : Shut (∀ W, SL w1 W [bxS wm.heap.size (bcs ((filB Bs k m).set k (firstU ((hms rs).take j) g (k : Nat)).2)), bxS w1.heap.size (tv ((filT T k m).set k (firstU ((hms rs).take j) g (k : Nat)).1))] → W.cell? ⟨w1.heap.size, k, none⟩ = some (.string ⟨#[]⟩) ∧ W.frozen? ⟨w1.heap.size, k, none⟩ = false ∧ W.cell? ⟨wm.heap.size, k, none⟩ = some (.bool false) ∧ W.frozen? ⟨wm.heap.size, k, none⟩ = false) := ⟨fun W h => by
            have t1 := h.bx 1 rfl k (.string (firstU ((hms rs).take j) g (k : Nat)).1) (by rw [tv_get _ _ (by rw [List.length_set]; exact HKL.out.1)]; simp [List.getD, HKL.out.1])
            have t2 := h.bx 0 rfl k (.bool (firstU ((hms rs).take j) g (k : Nat)).2) (by rw [bcs_get _ _ (by rw [List.length_set]; exact HKL.out.2)]; simp [List.getD, HKL.out.2])
            rw [e0] at t1
            rw [hf] at t2
            exact ⟨t1.1, t1.2, t2.1, t2.2⟩⟩
          have hne1 : ¬ wm.heap.size = w1.heap.size := by omega
          have hne2 : ¬ w1.heap.size = wm.heap.size := by omega
          clear hc hre hme hq hsm hsz d3 e0 HST HNX hgb hgt hf z0 z1 c1
          go_wp2_with (go_at_call 22; refine HGU.out.mono ?_; rintro e w2 ⟨rfl, hb2⟩; have HW2 := Shut.mk (HW.out.below hb2); obtain ⟨p0, p1, p2, p3⟩ := HCS.out w2 HW2.out; clear hb2)
          have HW3 := Shut.mk (HPT.out w2 HW2.out)
          go_roundw
          case rel => exact ⟨j + 1, by go_num, by omega, HW3⟩
          case measure => simp [intOf]; omega
set_option maxRecDepth 100000 in
set_option maxHeartbeats 2000000 in
theorem specLeftOf (a : Option Addr) (rs : List HoR) (cap : Nat) (s g : Int) (w : World) (hr : HsRow w a rs) (hl : rs.length ≤ 1048576) (hz : hsSum (hms rs) ≤ 1048576) :
    Calls Tryd.prog 18 #[.slice a rs.length cap, .int .i64 s, .int .i64 g] w fun e w' => e = .returned (.int .i64 (leftX (hms rs) s g : Nat)) ∧ Below w.heap.size w w' := by
  have HU := Shut.mk (specUnitsOf a rs cap s g w hr hl hz)
  have HBL := Shut.mk (unitsB_len (hms rs) s g)
  have hm6 := schN_le s
  unfold leftX
  generalize unitsB (hms rs) s g = Bs at *
  generalize unitsT (hms rs) s g = T at *
  generalize schN s = m at *
  generalize rs.length = n at *
  unfold UPost at HU
  clear hr hl hz
  go_enter Tryd.func18, Tryd.ntmps18
  go_wp2_with (go_at_call 7; refine HU.out.mono ?_; rintro e w1 ⟨v, u, l1, h1, l2, h2, rfl, _, hB, _, _, _, _, _, hb⟩; obtain ⟨bv, dv, rfl, hrow⟩ := hB.see; have HB := Shut.mk (And.intro hrow.crow hb); clear hB hrow hb; rw [HBL.out])
  go_loopw [9, 10] (fun c9 i9 wr => ∃ (k z : Nat), i9 = .int .i64 (k : Nat) ∧ c9 = .int .i64 (z : Nat) ∧ k ≤ m ∧ z ≤ k ∧ wr = w1 ∧ Shut (z = (Bs.take k).count true)) (fun _ i9 _ => m - (intOf i9).toNat)
  case atStart => exact ⟨0, 0, rfl, rfl, Nat.zero_le _, Nat.zero_le _, rfl, ⟨by simp⟩⟩
  case round =>
    obtain ⟨k, z, rfl, rfl, hk, hzk, rfl, HZ⟩ := hrel
    by_cases hlt : k < m
    case neg =>
      obtain rfl : m = k := by omega
      have HE : Shut (z = Bs.count true) := ⟨by rw [HZ.out, List.take_of_length_le (Nat.le_of_eq HBL.out)]⟩
      go_wp2_with fail
      go_ret
      exact ⟨by rw [← HE.out]; rfl, HB.out.2⟩
    have k0 : (0 : Int) ≤ (k : Int) := by omega
    have k1 : (k : Int) < (m : Int) := by omega
    have hkb : k < Bs.length := by rw [HBL.out]; exact hlt
    obtain ⟨b, off, rfl, lb, hc⟩ := crow_bool HB.out.1 (by omega)
    have d0 := hc k hkb
    have HST := Shut.mk (count_step Bs k hkb)
    cases hq : Bs.getD k false with
    | true =>
      rw [hq] at d0 HST
      have HZ2 : Shut (z + 1 = (Bs.take (k + 1)).count true) := ⟨by rw [HST.out, HZ.out]; simp⟩
      clear hc hq HST
      go_wp2_with fail
      go_roundw
      case rel => exact ⟨k + 1, z + 1, by go_num, by go_num, by omega, by omega, by first | rfl | trivial, HZ2⟩
      case measure => simp [intOf]; omega
    | false =>
      rw [hq] at d0 HST
      have HZ2 : Shut (z = (Bs.take (k + 1)).count true) := ⟨by rw [HST.out, HZ.out]; simp⟩
      clear hc hq HST
      go_wp2_with fail
      go_roundw
      case rel => exact ⟨k + 1, z, by go_num, rfl, by omega, by omega, by first | rfl | trivial, HZ2⟩
      case measure => simp [intOf]; omega
end Go.Proofs.YtoaifodmjkhiiaaDoor
/- SpM: The model's DropUnit (written by gen/mkdrop.py). -/
namespace Go.Proofs.YtoaifodmjkhiiaaDoor
set_option maxRecDepth 100000
open Go.RowKit BigFrame
attribute [local go_sem ↓] Go.wp_at_zero Go.wp_at_succ

theorem run_append_op {P : Program} {w y : World} {o : Oper} {a : Act} {s x : Operand} {t : TypeId} {v1 v2 v : Value} (ho : o.op = .call { callee := .builtin .append, args := #[s, x], argTypes := #[t, t] }) (hs : a.eval s = v1) (hx : a.eval x = v2) (hr : ∀ ty, (Builtin.append_ #[t, t] ty #[v1, v2]).run P w = .ok v y) : (execOp a.eval o).run P w = .ok (.value v) y := by
  simp [execOp, ho, resolve, invoke, builtin, hs, hx, hr, Result.andThen]
theorem setCells_setW (w : World) (g off : Nat) (vs : List Value) : w.setCells g off vs = setW w g off vs := by
  induction vs generalizing w off with
  | nil => rfl
  | cons v vs ih => exact ih _ _
theorem WCells.pre {w : World} {g : Nat} {A B : List Value} (h : WCells w g (A ++ B)) : WCells w g A :=
  ⟨h.1, fun i v hv => h.2 i v (by rw [List.getElem?_append_left (List.getElem?_eq_some_iff.1 hv).1]; exact hv)⟩
theorem turned_setW (w : World) (g off : Nat) (vs : List Value) {lo hi : Nat} (h1 : lo ≤ g) (h2 : g < hi) : Turned w (setW w g off vs) lo hi := by
  induction vs generalizing w off with
  | nil => exact Turned.refl _ _ _
  | cons v vs ih => exact (Turned.of_grown (gb_set' w g off v) h1 h2).trans (ih _ _)
theorem uns_app (a b : List UnM) : unS (a ++ b) = unS a ++ unS b := by simp [unS]
/-- What stands behind a place moves up by one. -/
theorem uns_shift (us : List UnM) (k : Nat) (h : k < us.length) : ∃ R, setL (unS us) (k * 4) (unS (us.drop (k + 1))) = unS (us.take k ++ us.drop (k + 1)) ++ R := by
  refine ⟨unS ((us.drop k).drop (us.length - k - 1)), ?_⟩
  have e1 : unS us = unS (us.take k) ++ unS (us.drop k) := by rw [← uns_app, List.take_append_drop]
  have e2 : unS (us.drop k) = unS ((us.drop k).take (us.length - k - 1)) ++ unS ((us.drop k).drop (us.length - k - 1)) := by rw [← uns_app, List.take_append_drop]
  have l1 : (unS (us.take k)).length = k * 4 := by rw [unS_len, List.length_take, Nat.min_eq_left (by omega)]
  rw [e1, show k * 4 = (unS (us.take k)).length + 0 by omega, setL_app, e2, setL_head _ _ _ (by rw [unS_len, unS_len, List.length_take, List.length_drop, List.length_drop, Nat.min_eq_left (by omega)]; congr 1), uns_app, List.append_assoc]
end Go.Proofs.YtoaifodmjkhiiaaDoor
/- HpA: The program's own: one unit held against another; units and hosts that are right (written by gen/mkhpa.py). -/
namespace Go.Proofs.YtoaifodmjkhiiaaDoor
set_option maxRecDepth 100000
open Go.RowKit BigFrame
attribute [local go_sem ↓] Go.wp_at_zero Go.wp_at_succ

def cmpI (x y : Int) : Int := if x < y then -1 else if y < x then 1 else 0
def cmpU (a b : UnM) : Int := if cmpI a.group b.group = 0 then cmpI a.index b.index else cmpI a.group b.group
theorem cmpI_is (x y : Int) : (x < y ∧ cmpI x y = -1) ∨ (y < x ∧ cmpI x y = 1) ∨ (x = y ∧ cmpI x y = 0) := by
  unfold cmpI
  split
  · exact .inl ⟨by assumption, rfl⟩
  · split
    · exact .inr (.inl ⟨by assumption, rfl⟩)
    · exact .inr (.inr ⟨by omega, rfl⟩)
theorem cmpU_neg (a b : UnM) : cmpU a b < 0 ↔ unLt a b = true := by
  rw [lt_iff]
  unfold cmpU
  have h1 := cmpI_is a.group b.group
  have h2 := cmpI_is a.index b.index
  split <;> omega
theorem cmpU_zero (a b : UnM) : cmpU a b = 0 ↔ unSame a b = true := by
  rw [same_iff]
  unfold cmpU
  have h1 := cmpI_is a.group b.group
  have h2 := cmpI_is a.index b.index
  split <;> omega
end Go.Proofs.YtoaifodmjkhiiaaDoor
/- HpB: The program's own copyHost (written by gen/mkhpb.py). -/
namespace Go.Proofs.YtoaifodmjkhiiaaDoor
set_option maxRecDepth 100000
open Go.RowKit BigFrame
attribute [local go_sem ↓] Go.wp_at_zero Go.wp_at_succ

set_option maxRecDepth 100000 in
theorem implClone (s : ByteArray) (w : World) (hs : s.size ≤ 281474976710656) : Calls Tryd.prog 56 #[.string s] w fun e w' => e = .returned (.string s) ∧ Below w.heap.size w w' := by
  have HC := Shut.mk (fun W => Tryd.stringslite_Clone s W hs)
  go_enter Tryd.func56, Tryd.ntmps56
  go_wp2_with fail
  refine (HC.out _).mono ?_
  rintro e w1 ⟨rfl, hb⟩
  go_wp2_with fail
  go_ret
  exact ⟨rfl, hb⟩
end Go.Proofs.YtoaifodmjkhiiaaDoor
/- HpC: The program's own: a unit's key, keys and units that are compared, the place of a unit. -/
namespace Go.Proofs.YtoaifodmjkhiiaaDoor
set_option maxRecDepth 100000
open Go.RowKit BigFrame
attribute [local go_sem ↓] Go.wp_at_zero Go.wp_at_succ

theorem eqgKey (x y : Operand) (a b c d : Int) (W : World) : Sem.run Tryd.prog (eqGuard BinOp.eql 89 x y (.agg #[.int .i64 a, .int .i64 b]) (.agg #[.int .i64 c, .int .i64 d])) W = .ok () W := by kernel_rfl
theorem eqKey (a b c d : Int) (W : World) : Sem.run Tryd.prog (binOp BinOp.eql 89 (.agg #[.int .i64 a, .int .i64 b]) (.agg #[.int .i64 c, .int .i64 d])) W = .ok (.bool (a == c && b == d)) W := by
  rw [run_eql_struct, run_equalIn_agg W 9999 89 _ _ (by kernel_rfl) (by kernel_rfl)]
  simp [Op.eqFields, go_sem]
  by_cases h1 : a = c <;> by_cases h2 : b = d <;> simp [h1, h2]
set_option maxRecDepth 100000 in
theorem implKey (u : UnM) (w : World) : Calls Tryd.prog 70 #[unv u] w fun e w' => e = .returned (.agg #[.int .i64 u.group, .int .i64 u.index]) ∧ Below w.heap.size w w' := by
  have HS0 := Shut.mk (((SL.start w).new #[.int .i64 u.group, .int .i64 u.index, .string u.text, .int .i64 u.sum] 65).new #[.int .i64 0, .int .i64 0] 89)
  simp only [World.size_alloc] at HS0
  go_enter Tryd.func70, Tryd.ntmps70
  go_upto_region 1 with fail
  refine wp_shade (fun W => SL w W [bxS (w.heap.size + 1) [.int .i64 0, .int .i64 0], bxS w.heap.size [.int .i64 u.group, .int .i64 u.index, .string u.text, .int .i64 u.sum]]) HS0.out ?_
  intro W hW
  have H := Shut.mk hW
  clear HS0 hW
  have x0 := (H.out.bx 1 rfl 0 _ rfl).1
  have x1 := (H.out.bx 1 rfl 1 _ rfl).1
  obtain ⟨r0, r0z⟩ := H.out.bx 0 rfl 0 _ rfl
  obtain ⟨r1, r1z⟩ := H.out.bx 0 rfl 1 _ rfl
  go_wp2_with fail
  have HE := Shut.mk ((H.out.put 0 rfl 0 (.int .i64 u.group) (by simp)).put 0 rfl 1 (.int .i64 u.index) (by simp))
  exact bodyPost_ret (v := .agg #[.int .i64 u.group, .int .i64 u.index]) (by simp [results, Tryd.results70, go_sem, r0, r1]) rfl ⟨rfl, HE.out.bel⟩
set_option maxRecDepth 100000 in
set_option maxHeartbeats 1000000 in
theorem testKey (u : UnM) (kb : Nat) (g i : Int) (w : World) (h0 : w.cell? ⟨kb, 0, none⟩ = some (.int .i64 g)) (h1 : w.cell? ⟨kb, 1, none⟩ = some (.int .i64 i)) (hl : kb < w.heap.size) :
    Calls Tryd.prog 69 #[unv u, .pointer (some ⟨kb, 0, none⟩)] w fun e w' => e = .returned (.bool (keyIs g i u)) ∧ Below w.heap.size w w' := by
  have HS0 := Shut.mk ((SL.start w).new #[.int .i64 u.group, .int .i64 u.index, .string u.text, .int .i64 u.sum] 65)
  have HQ : Shut (keyIs g i u = (u.group == g && u.index == i)) := ⟨rfl⟩
  have hek := eqKey u.group u.index g i
  have heg := fun x y => eqgKey x y u.group u.index g i
  have HBW := Shut.mk ((Below.refl w.heap.size w).alloc (Nat.le_refl _) (.cells #[.int .i64 u.group, .int .i64 u.index, .string u.text, .int .i64 u.sum] 65))
  generalize keyIs g i u = R at HQ ⊢
  rw [← HQ.out] at hek
  go_enter Tryd.func69, Tryd.ntmps69
  go_upto_region 1 with fail
  refine wp_shade (fun W => SL w W [bxS w.heap.size [.int .i64 u.group, .int .i64 u.index, .string u.text, .int .i64 u.sum]]) HS0.out ?_
  intro W hW
  have H := Shut.mk hW
  clear HS0 hW
  have lq : w.heap.size < W.heap.size := (H.out.at 0 rfl).1
  have lk : kb < W.heap.size := Nat.lt_of_lt_of_le hl H.out.bel.size
  have g0 : ∀ X : Grow W, X.val.cell? ⟨w.heap.size, 0, none⟩ = some (.int .i64 u.group) := fun X => X.cell (H.out.bx 0 rfl 0 _ rfl).1 lq
  have g1 : ∀ X : Grow W, X.val.cell? ⟨w.heap.size, 1, none⟩ = some (.int .i64 u.index) := fun X => X.cell (H.out.bx 0 rfl 1 _ rfl).1 lq
  have g2 : ∀ X : Grow W, X.val.cell? ⟨w.heap.size, 2, none⟩ = some (.string u.text) := fun X => X.cell (H.out.bx 0 rfl 2 _ rfl).1 lq
  have g3 : ∀ X : Grow W, X.val.cell? ⟨w.heap.size, 3, none⟩ = some (.int .i64 u.sum) := fun X => X.cell (H.out.bx 0 rfl 3 _ rfl).1 lq
  have p0 : ∀ X : Grow W, X.val.cell? ⟨kb, 0, none⟩ = some (.int .i64 g) := fun X => X.cell ((H.out.bel.cell (p := ⟨kb, 0, none⟩) hl).trans h0) lk
  have p1 : ∀ X : Grow W, X.val.cell? ⟨kb, 1, none⟩ = some (.int .i64 i) := fun X => X.cell ((H.out.bel.cell (p := ⟨kb, 1, none⟩) hl).trans h1) lk
  have HK := Shut.mk (fun X => calls_grow (w := W) (fun W' (_ : Below W.heap.size W W') => implKey u W') X)
  have HGR : Shut (∀ X : Grow W, Below w.heap.size w X.val) := ⟨fun X => (H.out.below X.bel).bel⟩
  clear h0 h1
  refine wp_region_grow (by kernel_rfl) (by kernel_rfl) ?_
  repeat (go_big_quiet_step (first | (go_at_call 70; with_reducible exact HK.out _)))
  refine wpQuiet_nil ?_
  rintro _ ⟨X, rfl⟩
  go_wp2_with fail
  go_ret
  exact ⟨rfl, HGR.out X⟩
set_option maxRecDepth 100000 in
set_option maxHeartbeats 1000000 in
theorem indexKey (us : List UnM) (a : Option Addr) (n cap kb : Nat) (g i : Int) (w : World) (hr : UnRow w a us) (hn : n = us.length) (hl : n ≤ 9000000) (h0 : w.cell? ⟨kb, 0, none⟩ = some (.int .i64 g)) (h1 : w.cell? ⟨kb, 1, none⟩ = some (.int .i64 i)) (hk : kb < w.heap.size) :
    Calls Tryd.prog 68 #[.slice a n cap, .func (.func 69) #[] #[.pointer (some ⟨kb, 0, none⟩)]] w fun e w' => e = .returned (.int .i64 (atN us g i)) ∧ Below w.heap.size w w' := by
  obtain ⟨R, hR⟩ : ∃ R, R = atN us g i := ⟨_, rfl⟩
  rw [← hR]
  have HR := Shut.mk hR
  have HT := Shut.mk hr
  have HN := Shut.mk hn
  have HCC : Shut (∀ (W : World) (u : UnM), Below w.heap.size w W → Calls Tryd.prog 69 #[unv u, .pointer (some ⟨kb, 0, none⟩)] W fun e w' => e = .returned (.bool (keyIs g i u)) ∧ Below W.heap.size W w') := ⟨fun W u hb => testKey u kb g i W ((hb.cell (p := ⟨kb, 0, none⟩) hk).trans h0) ((hb.cell (p := ⟨kb, 1, none⟩) hk).trans h1) (Nat.lt_of_lt_of_le hk hb.size)⟩
  clear hR hr hn h0 h1
  go_enter Tryd.func68, Tryd.ntmps68
  go_wp2_with fail
  go_loopw [8] (fun iv wr => ∃ k : Nat, iv = .int .i64 k ∧ k ≤ n ∧ Shut (∀ j (hj : j < us.length), j < k → (us[j].group == g && us[j].index == i) = false) ∧ Shut (Below w.heap.size w wr)) (fun iv _ => n - (intOf iv).toNat)
  case atStart => exact ⟨0, rfl, Nat.zero_le _, ⟨fun _ _ h => absurd h (Nat.not_lt_zero _)⟩, ⟨Below.refl _ _⟩⟩
  case round =>
    obtain ⟨k, rfl, hk, HG, HW⟩ := hrel
    by_cases hlt : k < n
    case pos =>
      have hku : k < us.length := by have := HN.out; omega
      have k0 : (0 : Int) ≤ (k : Int) := by omega
      have k1 : (k : Int) < (n : Int) := by omega
      obtain ⟨b, off, rfl, lb, hc⟩ := UnRow.at (HT.out.stays HW.out) (by omega)
      obtain ⟨c0, c1, c2, c3⟩ := hc k hku
      have HF : Shut ((us[k].group == g && us[k].index == i) = true → R = (k : Int)) := ⟨fun h => HR.out.trans (atN_found hku h HG.out)⟩
      have HNX : Shut ((us[k].group == g && us[k].index == i) = false → ∀ j (hj : j < us.length), j < k + 1 → (us[j].group == g && us[j].index == i) = false) := ⟨fun h j hj hjk => by
        rcases Nat.lt_succ_iff_lt_or_eq.1 hjk with e | e
        · exact HG.out j hj e
        · subst e; exact h⟩
      have HCK := Shut.mk (HCC.out wr us[k] HW.out)
      unfold keyIs at HCK
      obtain ⟨u, hu⟩ : ∃ u, u = us[k] := ⟨_, rfl⟩
      rw [← hu] at c0 c1 c2 c3 HF HNX HCK
      obtain ⟨q, hq⟩ : ∃ q, q = (u.group == g && u.index == i) := ⟨_, rfl⟩
      rw [← hq] at HF HNX HCK
      clear hc hu hq
      cases q with
      | true =>
        have HE := Shut.mk (HF.out rfl)
        go_wp2_with (go_at_call 69; refine HCK.out.mono ?_; rintro e w1 ⟨rfl, hb1⟩; have HB1 := Shut.mk (HW.out.trans (hb1.mono HW.out.size)); clear hb1)
        go_ret
        exact ⟨by rw [HE.out]; rfl, HB1.out⟩
      | false =>
        have HE := Shut.mk (HNX.out rfl)
        go_wp2_with (go_at_call 69; refine HCK.out.mono ?_; rintro e w1 ⟨rfl, hb1⟩; have HB1 := Shut.mk (HW.out.trans (hb1.mono HW.out.size)); clear hb1)
        go_roundw
        case rel => exact ⟨k + 1, by go_num, by omega, HE, HB1⟩
        case measure => simp [intOf]; omega
    case neg =>
      have k1 : ¬ (k : Int) < (n : Int) := by omega
      have HE : Shut (R = -1) := ⟨HR.out.trans (atN_none fun j hj => HG.out j hj (by have := HN.out; omega))⟩
      go_wp2_with fail
      go_ret
      exact ⟨by rw [HE.out]; rfl, HW.out⟩
set_option maxRecDepth 100000 in
set_option maxHeartbeats 1000000 in
theorem implAt (H : HM) (a : Option Addr) (cap : Nat) (g i : Int) (w : World) (hr : UnRow w a H.us) (hl : H.us.length ≤ 9000000) :
    Calls Tryd.prog 54 #[hov H a cap, .agg #[.int .i64 g, .int .i64 i]] w fun e w' => e = .returned (.int .i64 (atN H.us g i)) ∧ Below w.heap.size w w' := by
  have HS0 := Shut.mk (((SL.start w).new #[.int .i64 H.id, .bool H.up, .slice a H.us.length cap] 46).new #[.int .i64 g, .int .i64 i] 89)
  simp only [World.size_alloc] at HS0
  have HR := Shut.mk hr
  clear hr
  obtain ⟨id, up, us⟩ := H
  dsimp only [hov] at *
  have HIX : Shut (∀ W, SL w W [bxS (w.heap.size + 1) [.int .i64 g, .int .i64 i], bxS w.heap.size [.int .i64 id, .bool up, .slice a us.length cap]] → Calls Tryd.prog 68 #[.slice a us.length cap, .func (.func 69) #[] #[.pointer (some ⟨w.heap.size + 1, 0, none⟩)]] W fun e w' => e = .returned (.int .i64 (atN us g i)) ∧ Below W.heap.size W w') := ⟨fun W h => indexKey us a us.length cap (w.heap.size + 1) g i W (HR.out.stays h.bel) rfl hl (h.bx 0 rfl 0 _ rfl).1 (h.bx 0 rfl 1 _ rfl).1 (h.at 0 rfl).1⟩
  generalize atN us g i = R at HIX ⊢
  generalize us.length = n at HS0 HIX ⊢
  go_enter Tryd.func54, Tryd.ntmps54
  go_upto_region 1 with fail
  refine wp_shade (fun W => SL w W [bxS (w.heap.size + 1) [.int .i64 g, .int .i64 i], bxS w.heap.size [.int .i64 id, .bool up, .slice a n cap]]) HS0.out ?_
  intro W hW
  have H := Shut.mk hW
  clear HS0 hW
  have x2 := (H.out.bx 1 rfl 2 _ rfl).1
  go_wp2_with (go_at_call 68; refine (HIX.out _ H.out).mono ?_; rintro e w1 ⟨rfl, hb1⟩; have HB1 := Shut.mk (H.out.below hb1).bel; clear hb1)
  go_ret
  exact ⟨rfl, HB1.out⟩
end Go.Proofs.YtoaifodmjkhiiaaDoor
/- HpD: The library's slices.Delete of one unit in a row of one's own; the program's own DropUnit (written by gen/mkhpd.py). -/
namespace Go.Proofs.YtoaifodmjkhiiaaDoor
set_option maxRecDepth 100000
open Go.RowKit BigFrame
attribute [local go_sem ↓] Go.wp_at_zero Go.wp_at_succ

abbrev zeroU : Array Value := #[.int .i64 0, .int .i64 0, .string ⟨#[]⟩, .int .i64 0]
theorem zeroU_one (m : Nat) : ∀ v ∈ (Builtin.zeroCells zeroU m).toList, v.oneCell' = true := by
  intro v hv
  unfold Builtin.zeroCells at hv
  simp only [Array.toList_map, List.mem_map] at hv
  obtain ⟨i, -, rfl⟩ := hv
  have : i % 4 < 4 := Nat.mod_lt _ (by decide)
  generalize i % 4 = q at this
  show (zeroU[q]!).oneCell' = true
  match q, this with
  | 0, _ => rfl
  | 1, _ => rfl
  | 2, _ => rfl
  | 3, _ => rfl
theorem zeroU_len (m : Nat) : (Builtin.zeroCells zeroU m).toList.length = m * 4 := by
  unfold Builtin.zeroCells
  simp
theorem clear_unit (g o c : Nat) (W : World) (hc : ∀ j, j < 4 → (W.cell? ⟨g, o + j, none⟩).isSome = true ∧ W.frozen? ⟨g, o + j, none⟩ = false) : Sem.run Tryd.prog (Builtin.clear_ #[44] 0 #[.slice (some ⟨g, o, none⟩) 1 c]) W = .ok (.tuple #[]) (W.setCells g o (Builtin.zeroCells zeroU 1).toList) := by
  have hz : ∀ w, Sem.run Tryd.prog (zeroValue 65) w = .ok (.agg zeroU) w := fun w => by kernel_rfl
  have hs := run_storeCells_cells (P := Tryd.prog) g o (Builtin.zeroCells zeroU 1).toList 0 W (fun j hj => by rw [Nat.add_zero]; exact (hc j (by rw [zeroU_len] at hj; omega)).1) (fun j hj => by rw [Nat.add_zero]; exact (hc j (by rw [zeroU_len] at hj; omega)).2) (zeroU_one 1)
  unfold Builtin.clear_
  simp [go_sem, hz, Value.cells, hs]
theorem frw_some {w : World} {a : Option Addr} {us : List UnM} {lo hi : Nat} (h : FRw w a (unS us) lo hi) (hp : 0 < us.length) : ∃ gc, a = some ⟨gc, 0, none⟩ := by
  rcases h with ⟨_, e⟩ | ⟨q, e, _⟩
  · have := congrArg List.length e
    rw [unS_len] at this
    simp at this
    omega
  · exact ⟨q, e⟩
end Go.Proofs.YtoaifodmjkhiiaaDoor
/- HpE: The program's own: SumText, a unit summed anew, one that is sound, one that is spoilt. -/
namespace Go.Proofs.YtoaifodmjkhiiaaDoor
set_option maxRecDepth 100000
open Go.RowKit BigFrame
attribute [local go_sem ↓] Go.wp_at_zero Go.wp_at_succ

theorem implSum (t : ByteArray) (w : World) (htab : SumTab w) (hs : t.size ≤ 1048576) : Calls Tryd.prog 79 #[.string t] w fun e w' => e = .returned (.int .i64 (sumN t)) ∧ w' = w := by
  have h := sumN_low t
  have HP := Shut.mk (implSumOf t w htab hs)
  unfold u32 at HP
  rw [show (((W.sumOf t).toNat : Nat) : Int) = sumN t from rfl] at HP
  generalize sumN t = q at *
  clear htab
  go_enter Tryd.func79, Tryd.ntmps79
  go_wp2_with fail
  refine HP.out.mono ?_
  rintro e w1 ⟨rfl, rfl⟩
  go_wp2_with fail
  go_ret
  exact ⟨rfl, rfl⟩
theorem implSumText (t : ByteArray) (w : World) (htab : SumTab w) (hs : t.size ≤ 1048576) : Calls Tryd.prog 79 #[.string t] w fun e w' => e = .returned (.int .i64 (sumN t)) ∧ Below w.heap.size w w' :=
  (implSum t w htab hs).mono (by rintro e w1 ⟨rfl, rfl⟩; exact ⟨rfl, Below.refl _ _⟩)
set_option maxRecDepth 100000 in
theorem implSummed (u : UnM) (w : World) (htab : SumTab w) (hs : u.text.size ≤ 1048576) : Calls Tryd.prog 71 #[unv u] w fun e w' => e = .returned (unv (summed u)) ∧ Below w.heap.size w w' := by
  have HS0 := Shut.mk (((SL.start w).new #[.int .i64 u.group, .int .i64 u.index, .string u.text, .int .i64 u.sum] 65).new #[.int .i64 0, .int .i64 0, .string ⟨#[]⟩, .int .i64 0] 65)
  simp only [World.size_alloc] at HS0
  have HT := Shut.mk (fun (W : World) (hb : Below w.heap.size w W) => implSum u.text W (htab.stays hb) hs)
  clear htab
  obtain ⟨g, i, t, s⟩ := u
  unfold summed
  dsimp only [unv] at *
  generalize sumN t = sn at HT ⊢
  go_enter Tryd.func71, Tryd.ntmps71
  go_upto_region 1 with fail
  refine wp_shade (fun W => SL w W [bxS (w.heap.size + 1) [.int .i64 0, .int .i64 0, .string ⟨#[]⟩, .int .i64 0], bxS w.heap.size [.int .i64 g, .int .i64 i, .string t, .int .i64 s]]) HS0.out ?_
  intro W hW
  have H := Shut.mk hW
  clear HS0 hW
  have x2 := (H.out.bx 1 rfl 2 _ rfl).1
  obtain ⟨y3, y3z⟩ := H.out.bx 1 rfl 3 _ rfl
  go_upto_region 2 with (go_at_call 79; refine (HT.out _ H.out.bel).mono ?_; rintro e w1 ⟨rfl, hw1⟩; subst hw1)
  have H2 := Shut.mk (H.out.put 1 rfl 3 (.int .i64 sn) (by simp))
  simp only [List.set_cons_zero, List.set_cons_succ] at H2
  refine wp_shade (fun W => SL w W [bxS (w.heap.size + 1) [.int .i64 0, .int .i64 0, .string ⟨#[]⟩, .int .i64 0], bxS w.heap.size [.int .i64 g, .int .i64 i, .string t, .int .i64 sn]]) H2.out ?_
  intro W3 hW
  clear H H2 x2 y3 y3z
  have H := Shut.mk hW
  clear hW
  have x0 := (H.out.bx 1 rfl 0 _ rfl).1
  have x1 := (H.out.bx 1 rfl 1 _ rfl).1
  have x2 := (H.out.bx 1 rfl 2 _ rfl).1
  have x3 := (H.out.bx 1 rfl 3 _ rfl).1
  obtain ⟨r0, r0z⟩ := H.out.bx 0 rfl 0 _ rfl
  obtain ⟨r1, r1z⟩ := H.out.bx 0 rfl 1 _ rfl
  obtain ⟨r2, r2z⟩ := H.out.bx 0 rfl 2 _ rfl
  obtain ⟨r3, r3z⟩ := H.out.bx 0 rfl 3 _ rfl
  go_wp2_with fail
  have HE := Shut.mk ((((H.out.put 0 rfl 0 (.int .i64 g) (by simp)).put 0 rfl 1 (.int .i64 i) (by simp)).put 0 rfl 2 (.string t) (by simp)).put 0 rfl 3 (.int .i64 sn) (by simp))
  exact bodyPost_ret (v := .agg #[.int .i64 g, .int .i64 i, .string t, .int .i64 sn]) (by simp [results, Tryd.results71, go_sem, r0, r1, r2, r3]) rfl ⟨rfl, HE.out.bel⟩
theorem eqgUn (x y : Operand) (g i : Int) (t : ByteArray) (s s' : Int) (W : World) : Sem.run Tryd.prog (eqGuard BinOp.eql 65 x y (.agg #[.int .i64 g, .int .i64 i, .string t, .int .i64 s]) (.agg #[.int .i64 g, .int .i64 i, .string t, .int .i64 s'])) W = .ok () W := by kernel_rfl
theorem eqUn (g i : Int) (t : ByteArray) (s s' : Int) (W : World) : Sem.run Tryd.prog (binOp BinOp.eql 65 (.agg #[.int .i64 g, .int .i64 i, .string t, .int .i64 s]) (.agg #[.int .i64 g, .int .i64 i, .string t, .int .i64 s'])) W = .ok (.bool (s == s')) W := by
  rw [run_eql_struct, run_equalIn_agg W 9999 65 _ _ (by kernel_rfl) (by kernel_rfl)]
  simp [Op.eqFields, go_sem]
  by_cases h1 : s = s' <;> simp [h1]
set_option maxRecDepth 100000 in
set_option maxHeartbeats 1000000 in
theorem implSound (u : UnM) (w : World) (htab : SumTab w) (hs : u.text.size ≤ 1048576) : Calls Tryd.prog 55 #[unv u] w fun e w' => e = .returned (.bool (unSound u)) ∧ Below w.heap.size w w' := by
  have HS0 := Shut.mk ((SL.start w).new #[.int .i64 u.group, .int .i64 u.index, .string u.text, .int .i64 u.sum] 65)
  have HT := Shut.mk (fun (W : World) (hb : Below w.heap.size w W) => implSummed u W (htab.stays hb) hs)
  clear htab
  obtain ⟨g, i, t, s⟩ := u
  unfold unSound
  unfold summed at HT
  dsimp only [unv] at *
  have hek := eqUn g i t s (sumN t)
  have heg := fun x y => eqgUn x y g i t s (sumN t)
  generalize sumN t = sn at *
  generalize (s == sn) = R at *
  go_enter Tryd.func55, Tryd.ntmps55
  go_upto_region 1 with fail
  refine wp_shade (fun W => SL w W [bxS w.heap.size [.int .i64 g, .int .i64 i, .string t, .int .i64 s]]) HS0.out ?_
  intro W hW
  have H := Shut.mk hW
  clear HS0 hW
  have lq : w.heap.size < W.heap.size := (H.out.at 0 rfl).1
  have g0 : ∀ X : Grow W, X.val.cell? ⟨w.heap.size, 0, none⟩ = some (.int .i64 g) := fun X => X.cell (H.out.bx 0 rfl 0 _ rfl).1 lq
  have g1 : ∀ X : Grow W, X.val.cell? ⟨w.heap.size, 1, none⟩ = some (.int .i64 i) := fun X => X.cell (H.out.bx 0 rfl 1 _ rfl).1 lq
  have g2 : ∀ X : Grow W, X.val.cell? ⟨w.heap.size, 2, none⟩ = some (.string t) := fun X => X.cell (H.out.bx 0 rfl 2 _ rfl).1 lq
  have g3 : ∀ X : Grow W, X.val.cell? ⟨w.heap.size, 3, none⟩ = some (.int .i64 s) := fun X => X.cell (H.out.bx 0 rfl 3 _ rfl).1 lq
  have HK := Shut.mk (fun X => calls_grow (w := W) (fun W' (hb : Below W.heap.size W W') => HT.out W' (H.out.bel.trans (hb.mono H.out.bel.size))) X)
  have HGR : Shut (∀ X : Grow W, Below w.heap.size w X.val) := ⟨fun X => (H.out.below X.bel).bel⟩
  refine wp_region_grow (by kernel_rfl) (by kernel_rfl) ?_
  repeat (go_big_quiet_step (first | (go_at_call 71; with_reducible exact HK.out _)))
  refine wpQuiet_nil ?_
  rintro _ ⟨X, rfl⟩
  go_wp2_with fail
  go_ret
  exact ⟨rfl, HGR.out X⟩
end Go.Proofs.YtoaifodmjkhiiaaDoor
