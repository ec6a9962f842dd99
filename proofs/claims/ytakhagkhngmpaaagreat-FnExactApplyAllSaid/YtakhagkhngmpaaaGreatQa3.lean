/- Texts of ours, laid one behind the other: EdB, EdD, PathS, SpnC, HexM, SpnD, NestB, NestC, SpnE, OpenM, EdC, TreB, TreF, TreG, TreH, TreI, EdZ, TreL, LkP. -/
import Derived.Test.YtakhagkhngmpaaaGreatQa2
import Derived.Test.YtakhagkhngmpaaaGreatQa1
import Derived.Deep.RegionHeld3
import Derived.PlainAid
import Derived.Deep.Slices
import Derived.Deep.Strs
import Derived.ChangeArms
import Derived.ChangeSame
import Derived.WideShapes
import Derived.OpenShut
import Derived.Deep.CutRange
import Derived.BigQuiet
/- EdB: . -/
namespace Go.Proofs.YtakhagkhngmpaaaGreat
set_option maxRecDepth 100000
open Go.RowKit BigFrame
attribute [local go_sem ↓] Go.wp_at_zero Go.wp_at_succ
set_option maxHeartbeats 2000000 in
theorem specEditOk (e : EM) (w : World) (hf : EFit e) : Calls Tryz.prog 34 #[ev e] w fun r w' => r = .returned (.bool (editOk e)) ∧ Below w.heap.size w w' := by
 have hnp := fun W => specNamed e.path W hf.1
 have hnt := fun W => specNamed e.dest W hf.2
 obtain ⟨R, hR⟩ : ∃ R, R = editOk e := ⟨_, rfl⟩
 rw [← hR]
 obtain ⟨bad, hbad⟩ : ∃ b, b = pathBad e := ⟨_, rfl⟩
 have hRR : R = (inI e.kind 1 10 && (if e.kind = 10 then (e.path.toList == [47]) && (e.dest.toList == []) && (e.num == 0) && (e.who == 0) else !bad && numsOk e)) := by rw [hR, hbad]; rfl
 obtain ⟨np, hnp'⟩ : ∃ b, b = named e.path := ⟨_, rfl⟩
 obtain ⟨nt, hnt'⟩ : ∃ b, b = named e.dest := ⟨_, rfl⟩
 rw [← hnp'] at hnp
 rw [← hnt'] at hnt
 unfold pathBad at hbad
 rw [← hnp', ← hnt'] at hbad
 unfold numsOk at hRR
 have HR := Shut.mk hRR
 have HNPC := Shut.mk hnp
 have HNTC := Shut.mk hnt
 have HBD := Shut.mk hbad
 clear hf hnp hnt hR hbad hnp' hnt' hRR
 obtain ⟨kind, path, dest, num, who⟩ := e
 dsimp only at *
 by_cases h1 : inI kind 1 10 = true
 case neg =>
  have HF : Shut (R = false) := ⟨by rw [HR.out]; simp [h1]⟩
  have HI := Shut.mk (fun W => isInI kind 1 10 W false (by simpa using h1))
  clear h1 HR
  go_enter Tryz.func34, Tryz.ntmps34
  go_wp2_with (go_at_call 61; refine (HI.out _).mono ?_; rintro r w1 ⟨rfl, rfl⟩)
  go_ret
  exact ⟨by rw [HF.out]; rfl, (Below.refl _ _).alloc (Nat.le_refl _) _⟩
 have HI := Shut.mk (fun W => isInI kind 1 10 W true h1)
 have HKB := Shut.mk (inI_iff.1 h1)
 have HIN := Shut.mk (fun x a b W => isInI x a b W _ rfl)
 rw [h1] at HR
 clear h1
 by_cases h10 : kind = 10
 ·rw [if_pos h10] at HR
  subst h10
  go_enter Tryz.func34, Tryz.ntmps34
  go_wp2_with (go_at_call 61; refine (HI.out _).mono ?_; rintro r w1 ⟨rfl, rfl⟩)
  all_goals
   go_ret
   exact ⟨by rw [HR.out]; simp [*], (Below.refl _ _).alloc (Nat.le_refl _) _⟩
 ·rw [if_neg h10] at HR
  have h10' : (kind == 10) = false := by simp [h10]
  obtain ⟨st, hst⟩ : ∃ b, b = ((kind == 5) || (kind == 6)) := ⟨_, rfl⟩
  obtain ⟨pr, hpr⟩ : ∃ b, b = (path.toList == [47]) := ⟨_, rfl⟩
  obtain ⟨k3, hk3⟩ : ∃ b, b = (kind == 3) := ⟨_, rfl⟩
  obtain ⟨te, hte⟩ : ∃ b, b = (dest.toList == []) := ⟨_, rfl⟩
  have HBD' : Shut (bad = ((!np && !(st && pr)) || (k3 != nt) || (!k3 && !te))) := ⟨by
   rw [HBD.out, ← hst, ← hpr, ← hk3]
   have e1 : (kind != 3) = !k3 := by rw [hk3]; rfl
   have e2 : (dest.toList != []) = !te := by rw [hte]; rfl
   rw [e1, e2]⟩
  have HST := Shut.mk hst
  go_enter Tryz.func34, Tryz.ntmps34
  go_upto_region 5 with (go_at_call 61; refine (HI.out _).mono ?_; rintro r w1 ⟨rfl, rfl⟩)
  refine wp_shade (fun W => Below w.heap.size w W ∧ WCells W w.heap.size [.int .i64 kind, .string path, .string dest, .int .i64 num, .int .i64 who]) ⟨(Below.refl _ _).alloc (Nat.le_refl _) _, wcells_new w #[.int .i64 kind, .string path, .string dest, .int .i64 num, .int .i64 who] 28⟩ ?_
  intro W hW
  have HW := Shut.mk hW
  have c0 := (hW.2.2 0 _ rfl).1
  have lw := hW.2.1
  have g0 : ∀ X : Grow W, X.val.cell? ⟨w.heap.size, 0, none⟩ = some (.int .i64 kind) := fun X => X.cell c0 lw
  have g1 : ∀ X : Grow W, X.val.cell? ⟨w.heap.size, 1, none⟩ = some (.string path) := fun X => X.cell (hW.2.2 1 _ rfl).1 lw
  have g2 : ∀ X : Grow W, X.val.cell? ⟨w.heap.size, 2, none⟩ = some (.string dest) := fun X => X.cell (hW.2.2 2 _ rfl).1 lw
  have HNP := Shut.mk (fun X => calls_grow (w := W) (fun W' (_ : Below W.heap.size W W') => HNPC.out W') X)
  have HNT := Shut.mk (fun X => calls_grow (w := W) (fun W' (_ : Below W.heap.size W W') => HNTC.out W') X)
  clear hW HI h10
  rw [HBD'.out] at HR
  clear HBD HBD'
  go_upto_region 5 with fail
  go_cut [3] from 29 to 36 (fun b wx => b = .bool st ∧ wx = W)
  case first =>
   by_cases h5 : kind = 5
   ·have h5' : (kind == 5) = true := by simp [h5]
    have HSE : Shut (st = true) := ⟨by rw [HST.out]; simp [h5]⟩
    clear h5
    go_wp2_with fail
    go_meet
    case rel => exact ⟨by rw [HSE.out], rfl⟩
   ·have h5' : (kind == 5) = false := by simp [h5]
    have HSE : Shut (st = (kind == 6)) := ⟨by rw [HST.out]; simp [h5]⟩
    clear h5
    go_wp2_with fail
    go_meet
    case rel => exact ⟨by rw [HSE.out], rfl⟩
  case rest =>
   obtain ⟨rfl, rfl⟩ := hcut
   have HSTT := HST
   have hpr' : (path.toList == [47]) = pr := hpr.symm
   have hk3' : (kind == 3) = k3 := hk3.symm
   have hk3n : (kind != 3) = !k3 := by rw [hk3]; rfl
   have hte' : (dest.toList == []) = te := hte.symm
   have hten : (dest.toList != []) = !te := by rw [hte]; rfl
   clear hpr hk3 hte hst c0
   go_upto_region 6 with fail
   go_cut [68] from 37 to 68 (fun b wx => b = .bool ((!np && !(st && pr)) || (k3 != nt) || (!k3 && !te)) ∧ Shut (Below w.heap.size w wx ∧ WCells wx w.heap.size [.int .i64 kind, .string path, .string dest, .int .i64 num, .int .i64 who]))
   case first =>
    clear HR HST HSTT
    cases np with
    | true =>
     cases k3 with
     | true =>
      cases nt with
      | true =>
       refine wp_region_grow (by kernel_rfl) (by kernel_rfl) ?_
       repeat (go_big_quiet_step (first | (go_at_call 86; first | with_reducible exact HNP.out _ | with_reducible exact HNT.out _)))
       refine wpQuiet_nil ?_
       rintro _ ⟨X, rfl⟩
       go_wp2_with fail
       go_meet
       case rel => exact ⟨rfl, ⟨HW.out.1.trans (X.bel.mono HW.out.1.size), HW.out.2.grow X.bel⟩⟩
      | false =>
       refine wp_region_grow (by kernel_rfl) (by kernel_rfl) ?_
       repeat (go_big_quiet_step (first | (go_at_call 86; first | with_reducible exact HNP.out _ | with_reducible exact HNT.out _)))
       refine wpQuiet_nil ?_
       rintro _ ⟨X, rfl⟩
       go_wp2_with fail
       go_meet
       case rel => exact ⟨rfl, ⟨HW.out.1.trans (X.bel.mono HW.out.1.size), HW.out.2.grow X.bel⟩⟩
     | false =>
      cases nt with
      | true =>
       refine wp_region_grow (by kernel_rfl) (by kernel_rfl) ?_
       repeat (go_big_quiet_step (first | (go_at_call 86; first | with_reducible exact HNP.out _ | with_reducible exact HNT.out _)))
       refine wpQuiet_nil ?_
       rintro _ ⟨X, rfl⟩
       go_wp2_with fail
       go_meet
       case rel => exact ⟨rfl, ⟨HW.out.1.trans (X.bel.mono HW.out.1.size), HW.out.2.grow X.bel⟩⟩
      | false =>
       cases te with
       | true =>
        refine wp_region_grow (by kernel_rfl) (by kernel_rfl) ?_
        repeat (go_big_quiet_step (first | (go_at_call 86; first | with_reducible exact HNP.out _ | with_reducible exact HNT.out _)))
        refine wpQuiet_nil ?_
        rintro _ ⟨X, rfl⟩
        go_wp2_with fail
        go_meet
        case rel => exact ⟨rfl, ⟨HW.out.1.trans (X.bel.mono HW.out.1.size), HW.out.2.grow X.bel⟩⟩
       | false =>
        refine wp_region_grow (by kernel_rfl) (by kernel_rfl) ?_
        repeat (go_big_quiet_step (first | (go_at_call 86; first | with_reducible exact HNP.out _ | with_reducible exact HNT.out _)))
        refine wpQuiet_nil ?_
        rintro _ ⟨X, rfl⟩
        go_wp2_with fail
        go_meet
        case rel => exact ⟨rfl, ⟨HW.out.1.trans (X.bel.mono HW.out.1.size), HW.out.2.grow X.bel⟩⟩
    | false =>
     cases st with
     | true =>
      cases pr with
      | true =>
       cases k3 with
       | true =>
        cases nt with
        | true =>
         refine wp_region_grow (by kernel_rfl) (by kernel_rfl) ?_
         repeat (go_big_quiet_step (first | (go_at_call 86; first | with_reducible exact HNP.out _ | with_reducible exact HNT.out _)))
         refine wpQuiet_nil ?_
         rintro _ ⟨X, rfl⟩
         go_wp2_with fail
         go_meet
         case rel => exact ⟨rfl, ⟨HW.out.1.trans (X.bel.mono HW.out.1.size), HW.out.2.grow X.bel⟩⟩
        | false =>
         refine wp_region_grow (by kernel_rfl) (by kernel_rfl) ?_
         repeat (go_big_quiet_step (first | (go_at_call 86; first | with_reducible exact HNP.out _ | with_reducible exact HNT.out _)))
         refine wpQuiet_nil ?_
         rintro _ ⟨X, rfl⟩
         go_wp2_with fail
         go_meet
         case rel => exact ⟨rfl, ⟨HW.out.1.trans (X.bel.mono HW.out.1.size), HW.out.2.grow X.bel⟩⟩
       | false =>
        cases nt with
        | true =>
         refine wp_region_grow (by kernel_rfl) (by kernel_rfl) ?_
         repeat (go_big_quiet_step (first | (go_at_call 86; first | with_reducible exact HNP.out _ | with_reducible exact HNT.out _)))
         refine wpQuiet_nil ?_
         rintro _ ⟨X, rfl⟩
         go_wp2_with fail
         go_meet
         case rel => exact ⟨rfl, ⟨HW.out.1.trans (X.bel.mono HW.out.1.size), HW.out.2.grow X.bel⟩⟩
        | false =>
         cases te with
         | true =>
          refine wp_region_grow (by kernel_rfl) (by kernel_rfl) ?_
          repeat (go_big_quiet_step (first | (go_at_call 86; first | with_reducible exact HNP.out _ | with_reducible exact HNT.out _)))
          refine wpQuiet_nil ?_
          rintro _ ⟨X, rfl⟩
          go_wp2_with fail
          go_meet
          case rel => exact ⟨rfl, ⟨HW.out.1.trans (X.bel.mono HW.out.1.size), HW.out.2.grow X.bel⟩⟩
         | false =>
          refine wp_region_grow (by kernel_rfl) (by kernel_rfl) ?_
          repeat (go_big_quiet_step (first | (go_at_call 86; first | with_reducible exact HNP.out _ | with_reducible exact HNT.out _)))
          refine wpQuiet_nil ?_
          rintro _ ⟨X, rfl⟩
          go_wp2_with fail
          go_meet
          case rel => exact ⟨rfl, ⟨HW.out.1.trans (X.bel.mono HW.out.1.size), HW.out.2.grow X.bel⟩⟩
      | false =>
       refine wp_region_grow (by kernel_rfl) (by kernel_rfl) ?_
       repeat (go_big_quiet_step (first | (go_at_call 86; first | with_reducible exact HNP.out _ | with_reducible exact HNT.out _)))
       refine wpQuiet_nil ?_
       rintro _ ⟨X, rfl⟩
       go_wp2_with fail
       go_meet
       case rel => exact ⟨rfl, ⟨HW.out.1.trans (X.bel.mono HW.out.1.size), HW.out.2.grow X.bel⟩⟩
     | false =>
      refine wp_region_grow (by kernel_rfl) (by kernel_rfl) ?_
      repeat (go_big_quiet_step (first | (go_at_call 86; first | with_reducible exact HNP.out _ | with_reducible exact HNT.out _)))
      refine wpQuiet_nil ?_
      rintro _ ⟨X, rfl⟩
      go_wp2_with fail
      go_meet
      case rel => exact ⟨rfl, ⟨HW.out.1.trans (X.bel.mono HW.out.1.size), HW.out.2.grow X.bel⟩⟩
   case rest =>
    obtain ⟨rfl, hV⟩ := hcut
    clear g0 g1 g2 HNP HNT HNPC HNTC HW HST HSTT lw hpr' hk3' hk3n hte' hten
    generalize ((!np && !(st && pr)) || (k3 != nt) || (!k3 && !te)) = bd at *
    have c0 := (hV.out.2.2 0 _ rfl).1
    have c3 := (hV.out.2.2 3 _ rfl).1
    have c4 := (hV.out.2.2 4 _ rfl).1
    cases bd with
    | true =>
     have HF : Shut (R = false) := ⟨by rw [HR.out]; rfl⟩
     clear HR
     go_wp2_with fail
     go_ret
     exact ⟨by rw [HF.out]; rfl, hV.out.1⟩
    | false =>
     by_cases k5 : kind = 5
     ·have HRR : Shut (R = (inI num 1 3 && (who == 0))) := ⟨by rw [HR.out]; simp [k5]⟩
      subst k5
      clear HR
      go_wp2_with (go_at_call 61; refine (HIN.out _ _ _ _).mono ?_; rintro r w1 ⟨rfl, rfl⟩)
      all_goals
       go_ret
       exact ⟨by rw [HRR.out]; simp [*], hV.out.1⟩
     by_cases k6 : kind = 6
     ·have HRR : Shut (R = (inI num 0 1000 && (who == 0))) := ⟨by rw [HR.out]; simp [k6]⟩
      subst k6
      clear HR
      go_wp2_with (go_at_call 61; refine (HIN.out _ _ _ _).mono ?_; rintro r w1 ⟨rfl, rfl⟩)
      all_goals
       go_ret
       exact ⟨by rw [HRR.out]; simp [*], hV.out.1⟩
     by_cases k7 : kind = 7
     ·have HRR : Shut (R = (inI num 1 200 && (who == 0))) := ⟨by rw [HR.out]; simp [k7]⟩
      subst k7
      clear HR
      go_wp2_with (go_at_call 61; refine (HIN.out _ _ _ _).mono ?_; rintro r w1 ⟨rfl, rfl⟩)
      all_goals
       go_ret
       exact ⟨by rw [HRR.out]; simp [*], hV.out.1⟩
     by_cases k2 : kind = 2
     ·have HRR : Shut (R = ((num == 0) && inI who 1 9)) := ⟨by rw [HR.out]; simp [k2]⟩
      subst k2
      clear HR
      go_wp2_with (go_at_call 61; refine (HIN.out _ _ _ _).mono ?_; rintro r w1 ⟨rfl, rfl⟩)
      all_goals
       go_ret
       exact ⟨by rw [HRR.out]; simp [*], hV.out.1⟩
     by_cases k9 : kind = 9
     ·have HRR : Shut (R = ((num == 0) && inI who 1 9)) := ⟨by rw [HR.out]; simp [k9]⟩
      subst k9
      clear HR
      go_wp2_with (go_at_call 61; refine (HIN.out _ _ _ _).mono ?_; rintro r w1 ⟨rfl, rfl⟩)
      all_goals
       go_ret
       exact ⟨by rw [HRR.out]; simp [*], hV.out.1⟩
     have HRR : Shut (R = ((num == 0) && (who == 0))) := ⟨by rw [HR.out]; simp [k5, k6, k7, k2, k9]⟩
     clear HR
     have j5 : (kind == 5) = false := by simp [k5]
     have j6 : (kind == 6) = false := by simp [k6]
     have j7 : (kind == 7) = false := by simp [k7]
     have j2 : (kind == 2) = false := by simp [k2]
     have j9 : (kind == 9) = false := by simp [k9]
     clear k5 k6 k7 k2 k9
     go_wp2_with (go_at_call 61; refine (HIN.out _ _ _ _).mono ?_; rintro r w1 ⟨rfl, rfl⟩)
     all_goals
      go_ret
      exact ⟨by rw [HRR.out]; simp [*], hV.out.1⟩
end Go.Proofs.YtakhagkhngmpaaaGreat
/- EdD: . -/
namespace Go.Proofs.YtakhagkhngmpaaaGreat
set_option maxRecDepth 100000
open Go.RowKit
attribute [local go_sem ↓] Go.wp_at_zero Go.wp_at_succ
def vb (n : Nat) : ByteArray := ⟨(W.vt n).toArray⟩
theorem edit_nums {e : EM} (h : editOk e = true) : 1 ≤ e.kind ∧ e.kind ≤ 10 ∧ 0 ≤ e.who ∧ e.who ≤ 9 ∧ 0 ≤ e.num ∧ e.num ≤ 1000 := by
 unfold editOk at h
 rw [Bool.and_eq_true, inI_iff] at h
 obtain ⟨⟨h1, h2⟩, h3⟩ := h
 refine ⟨h1, h2, ?_⟩
 by_cases h10 : e.kind = 10
 ·rw [if_pos h10] at h3
  simp only [Bool.and_eq_true, beq_iff_eq] at h3
  omega
 ·rw [if_neg h10, Bool.and_eq_true] at h3
  have h4 := h3.2
  unfold numsOk at h4
  split at h4
  ·rw [Bool.and_eq_true, inI_iff, beq_iff_eq] at h4; omega
  ·split at h4
   ·rw [Bool.and_eq_true, inI_iff, beq_iff_eq] at h4; omega
   ·split at h4
    ·rw [Bool.and_eq_true, inI_iff, beq_iff_eq] at h4; omega
    ·split at h4
     ·rw [Bool.and_eq_true, inI_iff, beq_iff_eq] at h4; omega
     ·rw [Bool.and_eq_true, beq_iff_eq, beq_iff_eq] at h4; omega
theorem cell_ltE {w : World} {p : Addr} {v : Value} (h : w.cell? p = some v) : p.block < w.heap.size := by
 by_cases c : p.block < w.heap.size
 ·exact c
 ·exfalso
  unfold World.cell? at h
  rw [Array.getElem?_eq_none (by omega)] at h
  simp at h
def EC (w0 : World) (b : Nat) (e : EM) (w : World) : Prop := w.cell? ⟨b, 0, none⟩ = some (.int .i64 e.kind) ∧ w.cell? ⟨b, 1, none⟩ = some (.string e.path) ∧ w.cell? ⟨b, 2, none⟩ = some (.string e.dest) ∧ w.cell? ⟨b, 3, none⟩ = some (.int .i64 e.num) ∧ w.cell? ⟨b, 4, none⟩ = some (.int .i64 e.who) ∧ Shut (Below w0.heap.size w0 w)
theorem EC.below {w0 : World} {b : Nat} {e : EM} {w w' : World} (h : EC w0 b e w) (hb : Below w.heap.size w w') : EC w0 b e w' :=
 ⟨(hb.cell (p := ⟨b, 0, none⟩) (cell_ltE h.1)).trans h.1, (hb.cell (p := ⟨b, 1, none⟩) (cell_ltE h.2.1)).trans h.2.1, (hb.cell (p := ⟨b, 2, none⟩) (cell_ltE h.2.2.1)).trans h.2.2.1, (hb.cell (p := ⟨b, 3, none⟩) (cell_ltE h.2.2.2.1)).trans h.2.2.2.1, (hb.cell (p := ⟨b, 4, none⟩) (cell_ltE h.2.2.2.2.1)).trans h.2.2.2.2.1, ⟨h.2.2.2.2.2.out.trans (hb.mono h.2.2.2.2.2.out.size)⟩⟩
theorem EC.alloc {w0 : World} {b : Nat} {e : EM} {w : World} (h : EC w0 b e w) (o : Obj) : EC w0 b e (w.alloc o) := h.below ((Below.refl _ _).alloc (Nat.le_refl _) o)
theorem EC.drew {w0 : World} {b : Nat} {e : EM} {w : World} (h : EC w0 b e w) : EC w0 b e w.drew := h.below (Below.drew (Below.refl _ _))
end Go.Proofs.YtakhagkhngmpaaaGreat
/- PathS: . -/
namespace Go.Proofs.YtakhagkhngmpaaaGreat
set_option maxRecDepth 100000
theorem flat_size (L : List (List UInt8)) (h : ∀ l ∈ L, nameL l = true) : ((L.map (47 :: ·)).flatten).length ≤ 9 * L.length := by
 induction L with
 | nil => simp
 | cons x L ih =>
  have h1 := (nameL_pos (h x (by simp))).2
  have h2 := ih fun l hl => h l (by simp [hl])
  simp only [List.map_cons, List.flatten_cons, List.length_append, List.length_cons]
  omega
theorem parent_small (p : ByteArray) : (parentB p).1.size ≤ 36 ∧ (parentB p).2.1.size ≤ 8 := by
 unfold parentB
 split
 ·rename_i hc
  obtain ⟨h1, h2⟩ := split_names (p := lb p)
  have hl : ∀ l ∈ (splitP (lb p)).1.dropLast, nameL l = true := fun l hl => h1 l (List.dropLast_subset _ hl)
  have e : (splitB p).1 = (splitP (lb p)).1.map ba := rfl
  dsimp only
  refine ⟨?_, ?_⟩
  ·have e2 : ((splitB p).1.dropLast.map lb) = (splitP (lb p)).1.dropLast := by
    rw [e, List.dropLast_eq_take, List.dropLast_eq_take, List.length_map, ← List.map_take, map_lb_ba]
   unfold joinB
   rw [e2]
   show (joinP _).toArray.size ≤ 36
   rw [List.size_toArray]
   unfold joinP
   split
   ·simp
   ·have h3 := flat_size _ hl
    rw [List.length_dropLast] at h3
    omega
  ·have hne := hc.2
   rcases List.eq_nil_or_concat (splitB p).1 with h0 | ⟨I, x, h0⟩
   ·exact absurd h0 hne
   ·rw [h0]
    have hx : x ∈ (splitB p).1 := by rw [h0]; simp
    have hn := (splitB_names p).1 x hx
    have := (nameL_pos (l := lb x) hn).2
    have e3 : (I ++ [x]).getLastD ⟨#[]⟩ = x := by simp [List.getLastD_eq_getLast?]
    rw [List.concat_eq_append, e3]
    exact this
 ·exact ⟨by decide, by decide⟩
end Go.Proofs.YtakhagkhngmpaaaGreat
/- SpnC: . -/
namespace Go.Proofs.YtakhagkhngmpaaaGreat
set_option maxRecDepth 100000
open Go.RowKit
attribute [local go_sem ↓] Go.wp_at_zero Go.wp_at_succ
end Go.Proofs.YtakhagkhngmpaaaGreat
/- HexM: . -/
namespace Go.Proofs.YtakhagkhngmpaaaGreat.W
open Go.PlainAid (bt)
def hfI (x : Int) : Int := if x < 10 then 48 + x else 87 + x
def hf (n : Nat) : UInt8 := UInt8.ofNat (hfI n).toNat
end Go.Proofs.YtakhagkhngmpaaaGreat.W
namespace Go.Proofs.YtakhagkhngmpaaaGreat
set_option maxRecDepth 100000
open Go.RowKit
open Go.PlainAid (bt)
end Go.Proofs.YtakhagkhngmpaaaGreat
/- SpnD: . -/
namespace Go.Proofs.YtakhagkhngmpaaaGreat
set_option maxRecDepth 100000
open Go.RowKit
attribute [local go_sem ↓] Go.wp_at_zero Go.wp_at_succ
end Go.Proofs.YtakhagkhngmpaaaGreat
/- NestB: . -/
namespace Go.Proofs.YtakhagkhngmpaaaGreat
set_option maxRecDepth 100000
open Go.RowKit
attribute [local go_sem ↓] Go.wp_at_zero Go.wp_at_succ
structure TI (w wr : World) (ss : List SR) (ts : List SR) : Prop where
 rweq : rws ts = rws (ss.take ts.length)
 out : WCells wr w.heap.size (svs ts ++ List.replicate (ss.length - ts.length) (.slice none 0 0))
 rows : ∀ s ∈ ts, ∃ b, s.loc = some ⟨b, 0, none⟩ ∧ w.heap.size ≤ b ∧ b < wr.heap.size ∧ b ≠ w.heap.size ∧ WCells wr b (ics s.row) ∧ s.row.length ≤ s.cap
 apart : (ts.map SR.loc).Nodup
 bel : Below w.heap.size w wr
theorem set_mid (A B : List Value) (x y : Value) (k : Nat) (h : A.length = k) : (A ++ x :: B).set k y = A ++ y :: B := by
 subst h
 rw [List.set_append_right _ _ (Nat.le_refl _)]
 simp
theorem TI.next {w wr w1 : World} {ss ts : List SR} {g1 : Nat} {row : List Int} {n : Nat} (h : TI w wr ss ts) (hk : ts.length < ss.length) (hrow : (ss[ts.length]).row = row) (hn : n = row.length) (hw : w.heap.size < wr.heap.size)
  (hg1 : wr.heap.size ≤ g1) (hc : WCells w1 g1 (ics row)) (hb : Below wr.heap.size wr w1) : TI w (w1.setCell ⟨w.heap.size, ts.length, none⟩ (.slice (some ⟨g1, 0, none⟩) n n)) ss (ts ++ [SR.mk (some ⟨g1, 0, none⟩) row row.length]) := by
 subst hn
 have hne : g1 ≠ w.heap.size := by omega
 have hsz : (w1.setCell ⟨w.heap.size, ts.length, none⟩ (.slice (some ⟨g1, 0, none⟩) row.length row.length)).heap.size = w1.heap.size := by simp [World.setCell]
 have hgs : w1.grownBy (w1.setCell ⟨w.heap.size, ts.length, none⟩ (.slice (some ⟨g1, 0, none⟩) row.length row.length)) (some w.heap.size) := gb_set' _ _ _ _
 refine ⟨?_, ?_, ?_, ?_, ?_⟩
 ·rw [rws_snoc, h.rweq, List.length_append, List.length_singleton, List.take_succ_eq_append_getElem hk, rws_snoc, hrow]
 ·have o := (h.out.below hb h.out.1).set ts.length (.slice (some ⟨g1, 0, none⟩) row.length row.length) (by rw [List.length_append, svs_len, List.length_replicate]; omega)
  obtain ⟨m, hm⟩ : ∃ m, ss.length - ts.length = m + 1 := ⟨ss.length - ts.length - 1, by omega⟩
  rw [hm, List.replicate_succ, set_mid _ _ _ _ _ (svs_len ts)] at o
  have e : svs (ts ++ [SR.mk (some ⟨g1, 0, none⟩) row row.length]) ++ List.replicate (ss.length - (ts ++ [SR.mk (some ⟨g1, 0, none⟩) row row.length]).length) (.slice none 0 0) = svs ts ++ .slice (some ⟨g1, 0, none⟩) row.length row.length :: List.replicate m (.slice none 0 0) := by
   rw [List.length_append, List.length_singleton, show ss.length - (ts.length + 1) = m by omega]
   simp [svs, srv]
  rw [e]
  exact o
 ·intro s hs
  rcases List.mem_append.1 hs with h1 | h1
  ·obtain ⟨b, e, q1, q2, q3, q4, q5⟩ := h.rows s h1
   exact ⟨b, e, q1, by rw [hsz]; exact Nat.lt_of_lt_of_le q2 hb.size, q3, (q4.below hb q4.1).apart hgs q3, q5⟩
  ·simp at h1
   subst h1
   exact ⟨g1, rfl, by omega, by rw [hsz]; exact hc.1, hne, hc.apart hgs hne, Nat.le_refl _⟩
 ·rw [List.map_append, List.nodup_append]
  refine ⟨h.apart, by simp, fun l hl l' hl' => ?_⟩
  obtain ⟨s, hs, rfl⟩ := List.mem_map.1 hl
  simp only [List.map_cons, List.map_nil, List.mem_singleton] at hl'
  subst hl'
  obtain ⟨b, e, _, q2, _⟩ := h.rows s hs
  rw [e]
  intro e2
  have e4 : b = g1 := congrArg Addr.block (Option.some.inj e2)
  omega
 ·exact (h.bel.trans (hb.mono h.bel.size)).setCell (p := ⟨w.heap.size, ts.length, none⟩) (Nat.le_refl _) _
theorem TI.fin {w wr : World} {ss ts : List SR} (h : TI w wr ss ts) (hl : ts.length = ss.length) : rws ts = rws ss ∧ MW wr w.heap.size ts w.heap.size wr.heap.size := by
 refine ⟨by rw [h.rweq, hl, List.take_of_length_le (Nat.le_refl _)], ?_, Nat.le_refl _, h.out.1, h.rows, h.apart⟩
 have := h.out
 rwa [hl, Nat.sub_self, List.replicate_zero, List.append_nil] at this
end Go.Proofs.YtakhagkhngmpaaaGreat
/- NestC: . -/
namespace Go.Proofs.YtakhagkhngmpaaaGreat
set_option maxRecDepth 100000
open Go.RowKit
attribute [local go_sem ↓] Go.wp_at_zero Go.wp_at_succ
end Go.Proofs.YtakhagkhngmpaaaGreat
/- SpnE: . -/
namespace Go.Proofs.YtakhagkhngmpaaaGreat
set_option maxRecDepth 100000
open Go.RowKit
theorem spansX_len (s n : Int) : (spansX s n).length ≤ 1001 := by
 unfold spansX
 split
 ·rename_i h
  unfold spanL
  rw [List.length_append, List.length_replicate, List.length_singleton]
  have := Nat.div_le_self (n.toNat - 1) (groupN s)
  omega
 ·exact Nat.zero_le _
end Go.Proofs.YtakhagkhngmpaaaGreat
/- OpenM: . -/
namespace Go.Proofs.YtakhagkhngmpaaaGreat
set_option maxRecDepth 100000
open Go.RowKit Go.Deep Go.ChangeShapes Go.WideShapes
theorem cells_int : Tryz.prog.cellsOf 3 = 1 := by kernel_rfl
theorem cells_str : Tryz.prog.cellsOf 9 = 1 := by kernel_rfl
theorem rows_from {α : Type} [Inhabited α] {en : α → List Value} {sz : Nat} (hsz : ∀ x, (en x).length = sz) (hp0 : 0 < sz) {W : World} {ad : Addr} {len : Nat} {Pr : α → Prop}
  (each : ∀ i, i < len → ∃ f : α, (∀ r v, (en f)[r]? = some v → W.cell? (ad.add (i * sz + r)) = some v) ∧ Pr f) : ∃ xs : List α, xs.length = len ∧ CRow W (some ad) (xs.flatMap en) ∧ ∀ f ∈ xs, Pr f := by
 obtain ⟨F, hF⟩ := choose_lt each
 have hlen : ((List.range len).map F).length = len := by simp
 have hget : ∀ j (hj : j < ((List.range len).map F).length), ((List.range len).map F)[j] = F j := by intro j hj; simp
 refine ⟨(List.range len).map F, hlen, ?_, ?_⟩
 ·intro hp
  rw [flat_len hsz, hlen] at hp
  have hl0 : 0 < len := Nat.pos_of_ne_zero fun e => by rw [e] at hp; simp at hp
  have h00 : ∃ v, (en (F 0))[0]? = some v := by
   have : 0 < (en (F 0)).length := by rw [hsz]; exact hp0
   exact ⟨_, List.getElem?_eq_getElem this⟩
  obtain ⟨v0, hv0⟩ := h00
  have c0 := (hF 0 hl0).1 0 v0 hv0
  have hs : ad.spot = none := by
   have := World.cell?_spot c0
   simpa [Addr.add] using this
  obtain ⟨b, off, spot⟩ := ad
  simp only at hs
  subst hs
  have hadd : ∀ i, (⟨b, off, none⟩ : Addr).add i = ⟨b, off + i, none⟩ := by intro i; cases i <;> simp [Addr.add]
  refine ⟨b, off, rfl, ?_, fun i v hv => ?_⟩
  ·by_cases hb : b < W.heap.size
   ·exact hb
   ·unfold World.cell? at c0
    rw [hadd, Array.getElem?_eq_none (by simpa using hb)] at c0
    simp at c0
  ·have hi : i < (((List.range len).map F).flatMap en).length := (List.getElem?_eq_some_iff.1 hv).1
   rw [flat_len hsz, hlen] at hi
   have hq : i / sz < len := Nat.div_lt_of_lt_mul (by rwa [Nat.mul_comm] at hi)
   have hr := Nat.mod_lt i hp0
   have ei : i = i / sz * sz + i % sz := by rw [Nat.mul_comm]; exact (Nat.div_add_mod i sz).symm
   have hj : i / sz < ((List.range len).map F).length := by rw [hlen]; exact hq
   have l1 := flat_get hsz ((List.range len).map F) (i / sz) hj (i % sz) hr
   rw [hget _ hj, ← ei] at l1
   have := (hF (i / sz) hq).1 (i % sz) v (by rw [← l1]; exact hv)
   rw [← ei, hadd] at this
   exact this
 ·intro f hf
  obtain ⟨j, hj, rfl⟩ := List.mem_map.1 hf
  exact (hF j (by simpa using hj)).2
end Go.Proofs.YtakhagkhngmpaaaGreat
/- EdC: . -/
namespace Go.Proofs.YtakhagkhngmpaaaGreat
set_option maxRecDepth 100000
open Go.RowKit Go.Deep Go.ChangeShapes Go.WideShapes
attribute [local go_sem ↓] Go.wp_at_zero Go.wp_at_succ
def EdFit (e : EM) : Prop := e.path.size ≤ 9223372036854775807 ∧ e.dest.size ≤ 9223372036854775807 ∧ (Lit.int .i64 e.kind).wf = true ∧ (Lit.int .i64 e.num).wf = true ∧ (Lit.int .i64 e.who).wf = true
theorem cells_edit : Tryz.prog.cellsOf 57 = 5 := by kernel_rfl
theorem cells_intE : Tryz.prog.cellsOf 3 = 1 := by kernel_rfl
theorem cells_strE : Tryz.prog.cellsOf 9 = 1 := by kernel_rfl
theorem open_edit_cells {H : Type} {enc : TypeId × Value → H} {W : World} {base : Nat} {spare : Nat → Bool} {held : Bool} {n : Nat} {cs : List Value} {x : DataW H × List MemPlace} (h : DataW.trod enc Tryz.prog W base spare held n 57 cs = some x) :
  ∃ e : EM, cs = ecells e ∧ EdFit e := by
 obtain ⟨xs, k, _, rfl, hl, hlen, hf⟩ := DataW.trod_struct Tryz.underlying57 h
 rw [cells_edit] at hl
 match xs, hlen, cs, hl with
 | [y0, y1, y2, y3, y4], _, [v0, v1, v2, v3, v4], _ =>
  have g0 := hf 0 _ rfl
  have g1 := hf 1 _ rfl
  have g2 := hf 2 _ rfl
  have g3 := hf 3 _ rfl
  have g4 := hf 4 _ rfl
  simp [cells_strE, cells_intE] at g0 g1 g2 g3 g4
  obtain ⟨q0, e0, _, z0⟩ := DataW.trod_int Tryz.underlying3 g0
  obtain ⟨s1, e1, _, z1⟩ := DataW.trod_string Tryz.underlying9 g1
  obtain ⟨s2, e2, _, z2⟩ := DataW.trod_string Tryz.underlying9 g2
  obtain ⟨q3, e3, _, z3⟩ := DataW.trod_int Tryz.underlying3 g3
  obtain ⟨q4, e4, _, z4⟩ := DataW.trod_int Tryz.underlying3 g4
  simp only [List.cons.injEq, and_true] at e0 e1 e2 e3 e4
  subst e0 e1 e2 e3 e4
  unfold maxLen at z1 z2
  exact ⟨⟨q0, s1, s2, q3, q4⟩, rfl, by simpa using z1, by simpa using z2, z0, z3, z4⟩
theorem open_edit {H : Type} {enc : TypeId × Value → H} {W : World} {r : Reach} {b0 base : Nat} {spare : Nat → Bool} {held : Bool} {v : Value} {d : DataW H} {p : List MemPlace}
  (hv : Value.okWide Tryz.prog W r b0 57 v) (h : DataW.Trod enc Tryz.prog W base spare held 57 v d p) : ∃ e : EM, v = ev e ∧ EdFit e := by
 obtain ⟨cs, rfl, hsz⟩ := okWide_struct Tryz.underlying57 hv
 obtain ⟨fuel, h⟩ := h
 obtain ⟨f, e, hf⟩ := open_edit_cells h
 refine ⟨f, ?_, hf⟩
 have : cs.toList = ecells f := by simpa [Value.cells] using e
 rw [show cs = (ecells f).toArray by rw [← this]]
 rfl
theorem szEdit_any (e : EM) (left : Int) (w : World) (h0 : 0 ≤ left) (h1 : left ≤ 1048576) (hf : EdFit e) :
  Calls Tryz.prog 42 #[ev e, .int .i64 left] w fun r w' => (∃ q : Int, r = .returned (.int .i64 q) ∧ -1 ≤ q ∧ (0 ≤ q → q + e.path.size + e.dest.size = left)) ∧ Below w.heap.size w w' := by
 obtain ⟨kind, path, dest, num, who⟩ := e
 obtain ⟨f1, f2, _⟩ := hf
 dsimp only at *
 by_cases c1 : left - path.size < 0
 ·go_enter Tryz.func42, Tryz.ntmps42
  go_wp2_with fail
  go_ret
  exact ⟨⟨-1, rfl, by omega, by omega⟩, (Below.refl _ _).alloc (Nat.le_refl _) _⟩
 ·by_cases c2 : left - path.size - dest.size < 0
  ·go_enter Tryz.func42, Tryz.ntmps42
   go_wp2_with fail
   go_ret
   exact ⟨⟨-1, rfl, by omega, by omega⟩, (Below.refl _ _).alloc (Nat.le_refl _) _⟩
  ·go_enter Tryz.func42, Tryz.ntmps42
   go_wp2_with fail
   go_ret
   exact ⟨⟨left - path.size - dest.size, rfl, by omega, by omega⟩, (Below.refl _ _).alloc (Nat.le_refl _) _⟩
theorem toEdit_any (e : EM) (w : World) : Calls Tryz.prog 44 #[ev e] w fun r w' => r = .returned (ev e) ∧ Below w.heap.size w w' := by
 go_enter Tryz.func44, Tryz.ntmps44
 go_wp2_with fail
 refine bodyPost_ret (v := ev e) (by simp [results, Tryz.results44, go_sem]) rfl ⟨rfl, ?_⟩
 exact (((Below.refl _ _).alloc (Nat.le_refl _) _).alloc (by simp) _).alloc (by simp; omega) _
theorem eqEdit_same (e : EM) (w : World) : Calls Tryz.prog 99 #[ev e, ev e] w fun r w' => r = .returned (.bool true) ∧ Below w.heap.size w w' := by
 go_enter Tryz.func99, Tryz.ntmps99
 go_wp2_with fail
 go_ret
 exact ⟨rfl, ((Below.refl _ _).alloc (Nat.le_refl _) _).alloc (by simp) _⟩
end Go.Proofs.YtakhagkhngmpaaaGreat
/- TreB: . -/
namespace Go.Proofs.YtakhagkhngmpaaaGreat
set_option maxRecDepth 100000
open Go.RowKit
attribute [local go_sem ↓] Go.wp_at_zero Go.wp_at_succ
def SzT (left : Int) (n : Nat) (w : World) (e : Ending) (w' : World) : Prop := ∃ r : Int, e = .returned (.int .i64 r) ∧ -1 ≤ r ∧ (0 ≤ r → r + n = left) ∧ Below w.heap.size w w'
def NInt (ns : List NM) : Prop := ∀ n ∈ ns, (Lit.int .i64 n.id).wf = true ∧ (Lit.int .i64 n.parent).wf = true
def NOk (ns : List NM) : Prop := ns.length ≤ 9223372036854775807 ∧ ∀ n ∈ ns, n.name.size ≤ 9223372036854775807 ∧ n.pieces.length ≤ 9223372036854775807
theorem szPieceS_any (a : Option Addr) (n cap : Nat) (left : Int) (w : World) (h0 : 0 ≤ left) (h1 : left ≤ 1048576) (hn : n ≤ 9223372036854775807) :
  Calls Tryz.prog 158 #[.slice a n cap, .int .i64 left] w fun e w' => SzT left n w e w' := by
 by_cases c1 : left - n < 0
 ·go_enter Tryz.func158, Tryz.ntmps158
  go_wp2_with fail
  go_ret
  exact ⟨-1, rfl, by omega, by omega, Below.refl _ _⟩
 ·go_enter Tryz.func158, Tryz.ntmps158
  go_wp2_with fail
  go_ret
  exact ⟨left - n, rfl, by omega, by omega, Below.refl _ _⟩
set_option maxHeartbeats 1000000 in
theorem szInode_any (r : NR) (left : Int) (w : World) (h0 : 0 ≤ left) (h1 : left ≤ 1048576) (hn : r.nd.name.size ≤ 9223372036854775807) (hp : r.nd.pieces.length ≤ 9223372036854775807) :
  Calls Tryz.prog 128 #[nv r, .int .i64 left] w fun e w' => SzT left (r.nd.name.size + r.nd.pieces.length) w e w' := by
 obtain ⟨⟨id, parent, name, dir, schema, quota, len, pieces, writer⟩, loc, cap⟩ := r
 dsimp only [nv] at *
 generalize pieces.length = np at *
 clear pieces
 have HB := Shut.mk (show Below w.heap.size w (w.alloc (.cells #[.int .i64 id, .int .i64 parent, .string name, .bool dir, .int .i64 schema, .int .i64 quota, .int .i64 len, .slice loc np cap, .int .i64 writer] 148)) from (Below.refl _ _).alloc (Nat.le_refl _) _)
 by_cases c1 : left - name.size < 0
 ·go_enter Tryz.func128, Tryz.ntmps128
  go_wp2_with fail
  go_ret
  exact ⟨-1, rfl, by omega, by omega, HB.out⟩
 ·go_enter Tryz.func128, Tryz.ntmps128
  go_wp2_with fail
  refine (szPieceS_any loc np cap (left - name.size) _ (by omega) (by omega) hp).mono ?_
  rintro e w2 ⟨r, rfl, hr1, hr2, hb2⟩
  have HB2 := Shut.mk (HB.out.trans (hb2.mono (by simp)))
  have HR2 := Shut.mk hr2
  clear hb2 hr2
  by_cases hr : r < 0
  ·go_wp2_with fail
   go_ret
   exact ⟨-1, rfl, by omega, by omega, HB2.out⟩
  ·have hr3 := HR2.out (by omega)
   go_wp2_with fail
   go_ret
   exact ⟨r, rfl, by omega, fun _ => by push_cast; omega, HB2.out⟩
set_option maxHeartbeats 1000000 in
theorem szInodeS_any (a : Option Addr) (rs : List NR) (cap : Nat) (left : Int) (w : World) (lo hi : Nat) (hm : TR w a rs lo hi) (hf : NOk (nds rs)) (h0 : 0 ≤ left) (h1 : left ≤ 1048576) :
  Calls Tryz.prog 94 #[.slice a rs.length cap, .int .i64 left] w fun e w' => SzT left (rs.length + nsum (nds rs)) w e w' := by
 have hl : rs.length ≤ 9223372036854775807 := by have := hf.1; rwa [nds_len] at this
 by_cases c1 : left - rs.length < 0
 ·clear hm hf
  go_enter Tryz.func94, Tryz.ntmps94
  go_wp2_with fail
  go_ret
  exact ⟨-1, rfl, by omega, by omega, Below.refl _ _⟩
 ·have HR := Shut.mk hm
  have HF := Shut.mk hf
  clear hm hf
  go_enter Tryz.func94, Tryz.ntmps94
  go_wp2_with fail
  go_loopw [1, 5] (fun v i wr => ∃ (k : Nat) (l : Int), v = .int .i64 l ∧ i = .int .i64 k ∧ k ≤ rs.length ∧ 0 ≤ l ∧ l ≤ 1048576 ∧ Shut (l + rs.length + nsum ((nds rs).take k) = left) ∧ Shut (Below w.heap.size w wr)) (fun _ i _ => rs.length - (intOf i).toNat)
  case atStart => exact ⟨0, left - rs.length, rfl, rfl, Nat.zero_le _, by omega, by omega, ⟨by simp [nsum]⟩, ⟨Below.refl _ _⟩⟩
  case round =>
   obtain ⟨k, l, rfl, rfl, hk, hl0, hl1, hsum, hb⟩ := hrel
   by_cases hlt : k < rs.length
   ·obtain ⟨b, off, rfl, hbl, hc⟩ := TR.nat (HR.out.below hb.out) (by omega)
    obtain ⟨d0, d1, d2, d3, d4, d5, d6, d7, d8⟩ := hc k hlt
    have hst := nsum_take (nds rs) k (by rw [nds_len]; exact hlt)
    have hget : (nds rs)[k]'(by rw [nds_len]; exact hlt) = rs[k].nd := by simp [nds]
    rw [hget] at hst
    have HST := Shut.mk hst
    have hfk := HF.out.2 rs[k].nd (List.mem_map.2 ⟨rs[k], List.getElem_mem hlt, rfl⟩)
    generalize rs[k] = r at *
    have k0 : (0 : Int) ≤ (k : Int) := by omega
    have k1 : (k : Int) < (rs.length : Int) := by omega
    clear hc hst hget
    go_wp2_with fail
    refine (szInode_any r l _ hl0 hl1 hfk.1 hfk.2).mono ?_
    rintro e w2 ⟨q, rfl, hr1, hr2, hb2⟩
    have HB2 := Shut.mk (hb.out.trans (hb2.mono hb.out.size))
    have HR2 := Shut.mk hr2
    clear hb2 hr2
    by_cases hr : q < 0
    ·go_wp2_with fail
     go_ret
     exact ⟨-1, rfl, by omega, by omega, HB2.out⟩
    ·have hr3 := HR2.out (by omega)
     have HR3 := Shut.mk hr3
     have hq : q ≤ 1048576 := by omega
     clear hr3 HR2
     go_wp2_with fail
     go_roundw
     case rel => exact ⟨k + 1, q, rfl, by go_num, by omega, by omega, hq, ⟨by rw [HST.out]; have := HR3.out; have := hsum.out; push_cast at *; omega⟩, HB2⟩
     case measure => simp [intOf]; omega
   ·have hk' : ¬ (k : Int) < (rs.length : Int) := by omega
    have HS : Shut (l + rs.length + nsum (nds rs) = left) := ⟨by have := hsum.out; rwa [List.take_of_length_le (by rw [nds_len]; omega)] at this⟩
    clear hsum
    go_wp2_with fail
    go_ret
    exact ⟨l, rfl, by omega, fun _ => by have := HS.out; push_cast; omega, hb.out⟩
theorem szTree_val {w : World} {v : Value} {T : TM} {lo hi : Nat} (left : Int) (h : TSee w v T lo hi) (hf : NOk T.nodes) (h0 : 0 ≤ left) (h1 : left ≤ 1048576) :
  Calls Tryz.prog 41 #[v, .int .i64 left] w fun e w' => SzT left (T.nodes.length + nsum T.nodes) w e w' := by
 obtain ⟨a, cap, rs, rfl, hr, hm⟩ := h
 have hl : T.nodes.length = rs.length := by rw [← hr, nds_len]
 rw [hl, ← hr]
 rw [← hr] at hf
 have HB := Shut.mk (show Below w.heap.size w (w.alloc (.cells #[.slice a rs.length cap, .int .i64 T.next] 56)) from (Below.refl _ _).alloc (Nat.le_refl _) _)
 have HS := Shut.mk (fun W (hW : Below w.heap.size w W) => szInodeS_any a rs cap left W lo hi (hm.below hW) hf h0 h1)
 generalize rs.length + nsum (nds rs) = N at *
 generalize rs.length = n at *
 clear hm hf hr hl
 go_enter Tryz.func41, Tryz.ntmps41
 go_wp2_with fail
 refine (HS.out _ HB.out).mono ?_
 rintro e w2 ⟨r, rfl, hr1, hr2, hb2⟩
 have HB2 := Shut.mk (HB.out.trans (hb2.mono HB.out.size))
 have HR2 := Shut.mk hr2
 clear hb2 hr2
 by_cases hr : r < 0
 ·go_wp2_with fail
  go_ret
  exact ⟨-1, rfl, by omega, by omega, HB2.out⟩
 ·go_wp2_with fail
  go_ret
  exact ⟨r, rfl, hr1, HR2.out, HB2.out⟩
end Go.Proofs.YtakhagkhngmpaaaGreat
/- TreF: . -/
namespace Go.Proofs.YtakhagkhngmpaaaGreat
set_option maxRecDepth 100000
open Go.RowKit
attribute [local go_sem ↓] Go.wp_at_zero Go.wp_at_succ
theorem eqPiece_same (p : PM) (w : World) : Calls Tryz.prog 170 #[pv p, pv p] w fun e w' => e = .returned (.bool true) ∧ Below w.heap.size w w' := by
 go_enter Tryz.func170, Tryz.ntmps170
 go_wp2_with fail
 go_ret
 exact ⟨rfl, ((Below.refl _ _).alloc (Nat.le_refl _) _).alloc (by simp) _⟩
set_option maxHeartbeats 1000000 in
theorem eqPieceS_same (a b : Option Addr) (ps : List PM) (ca cb : Nat) (w : World) (lo hi lo' hi' : Nat) (ha : RRow w a (pcs ps) lo hi) (hb : RRow w b (pcs ps) lo' hi') (hl : ps.length ≤ 1048576) :
  Calls Tryz.prog 160 #[.slice a ps.length ca, .slice b ps.length cb] w fun e w' => e = .returned (.bool true) ∧ Below w.heap.size w w' := by
 have HA := Shut.mk ha
 have HB := Shut.mk hb
 clear ha hb
 go_enter Tryz.func160, Tryz.ntmps160
 go_wp2_with fail
 go_loopw [5] (fun i wr => ∃ (k : Nat), i = .int .i64 k ∧ k ≤ ps.length ∧ Shut (Below w.heap.size w wr)) (fun i _ => ps.length - (intOf i).toNat)
 case atStart => exact ⟨0, rfl, Nat.zero_le _, ⟨Below.refl _ _⟩⟩
 case round =>
  obtain ⟨k, rfl, hk, hbl⟩ := hrel
  by_cases hlt : k < ps.length
  ·obtain ⟨b1, o1, rfl, l1, hc1⟩ := pcs_at (HA.out.below hbl.out) (by omega)
   obtain ⟨b2, o2, rfl, l2, hc2⟩ := pcs_at (HB.out.below hbl.out) (by omega)
   obtain ⟨d0, d1⟩ := hc1 k hlt
   obtain ⟨e0, e1⟩ := hc2 k hlt
   generalize ps[k] = f at *
   have k0 : (0 : Int) ≤ (k : Int) := by omega
   have k1 : (k : Int) < (ps.length : Int) := by omega
   clear hc1 hc2
   go_wp2_with fail
   go_region_held3 (fun w' => w'.cell? ⟨b1, o1 + k * 2, none⟩ = some (.int .i64 f.group) ∧ w'.cell? ⟨b1, o1 + k * 2 + 1, none⟩ = some (.int .i64 f.len) ∧ w'.cell? ⟨b2, o2 + k * 2, none⟩ = some (.int .i64 f.group) ∧ w'.cell? ⟨b2, o2 + k * 2 + 1, none⟩ = some (.int .i64 f.len))
    (first | go_keep | (refine ⟨?_, ?_, ?_, ?_⟩ <;> first | (rw [hb2.cell (by exact l1)]; simp [*]) | (rw [hb2.cell (by exact l2)]; simp [*])))
    ((go_at_call 170; refine (eqPiece_same f _).mono ?_; rintro e w2 ⟨rfl, hb2⟩))
   all_goals go_wp2_with fail
   all_goals
    have hb3 : Below w.heap.size w w2 := hbl.out.trans ((Below.drew (Below.refl _ _)).trans (hb2.mono hbl.out.size))
    exact ⟨⟨k + 1, by go_num, by omega, ⟨hb3⟩⟩, by simp [intOf]; omega⟩
  ·have hlt' : ¬ (k : Int) < (ps.length : Int) := by omega
   go_wp2_with fail
   go_ret
   exact ⟨rfl, hbl.out⟩
theorem same_text (x : ByteArray) : (x.toList != x.toList) = false := by simp
set_option maxHeartbeats 2000000 in
theorem eqInode_same (r s : NR) (w : World) (lo hi lo' hi' : Nat) (hn : r.nd = s.nd) (ha : RRow w r.loc (pcs r.nd.pieces) lo hi) (hb : RRow w s.loc (pcs s.nd.pieces) lo' hi') (hl : r.nd.pieces.length ≤ 1048576) :
  Calls Tryz.prog 130 #[nv r, nv s] w fun e w' => e = .returned (.bool true) ∧ Below w.heap.size w w' := by
 obtain ⟨n, loc, cap⟩ := r
 obtain ⟨n', loc', cap'⟩ := s
 dsimp only at hn
 subst hn
 obtain ⟨id, parent, name, dir, schema, quota, len, pieces, writer⟩ := n
 dsimp only [nv] at *
 have HP := Shut.mk (fun W (hW : Below w.heap.size w W) => eqPieceS_same loc loc' pieces cap cap' W lo hi lo' hi' (ha.below hW) (hb.below hW) hl)
 generalize pieces.length = np at *
 have HB0 := Shut.mk (show Below w.heap.size w ((w.alloc (.cells #[.int .i64 id, .int .i64 parent, .string name, .bool dir, .int .i64 schema, .int .i64 quota, .int .i64 len, .slice loc np cap, .int .i64 writer] 47)).alloc (.cells #[.int .i64 id, .int .i64 parent, .string name, .bool dir, .int .i64 schema, .int .i64 quota, .int .i64 len, .slice loc' np cap', .int .i64 writer] 47)) from ((Below.refl _ _).alloc (Nat.le_refl _) _).alloc (by simp) _)
 have hst := same_text name
 have hdd : (dir != dir) = false := by cases dir <;> rfl
 have HW1 := Shut.mk (wcells_new w #[.int .i64 id, .int .i64 parent, .string name, .bool dir, .int .i64 schema, .int .i64 quota, .int .i64 len, .slice loc np cap, .int .i64 writer] 47)
 have HW2 := Shut.mk (wcells_new (w.alloc (.cells #[.int .i64 id, .int .i64 parent, .string name, .bool dir, .int .i64 schema, .int .i64 quota, .int .i64 len, .slice loc np cap, .int .i64 writer] 47)) #[.int .i64 id, .int .i64 parent, .string name, .bool dir, .int .i64 schema, .int .i64 quota, .int .i64 len, .slice loc' np cap', .int .i64 writer] 47)
 have hz : (w.alloc (.cells #[.int .i64 id, .int .i64 parent, .string name, .bool dir, .int .i64 schema, .int .i64 quota, .int .i64 len, .slice loc np cap, .int .i64 writer] 47)).heap.size = w.heap.size + 1 := by simp
 rw [hz] at HW2
 replace HW1 := Shut.mk (HW1.out.alloc (.cells #[.int .i64 id, .int .i64 parent, .string name, .bool dir, .int .i64 schema, .int .i64 quota, .int .i64 len, .slice loc' np cap', .int .i64 writer] 47))
 clear ha hb hl hz
 go_enter Tryz.func130, Tryz.ntmps130
 go_wp2_with fail
 refine (HP.out _ HB0.out).mono ?_
 rintro e w2 ⟨rfl, hb2⟩
 have a8 := ((HW1.out.grow hb2).2 8 _ rfl).1
 have c8 := ((HW2.out.grow hb2).2 8 _ rfl).1
 have HB2 := Shut.mk (HB0.out.trans (hb2.mono HB0.out.size))
 clear hb2 HW1 HW2 HB0 HP
 go_wp2_with fail
 go_ret
 exact ⟨rfl, HB2.out⟩
set_option maxHeartbeats 4000000 in
theorem eqInodeS_same (a b : Option Addr) (rs ts : List NR) (ca cb : Nat) (w : World) (lo hi lo' hi' : Nat) (hn : nds rs = nds ts) (ha : TR w a rs lo hi) (hb : TR w b ts lo' hi') (hl : rs.length ≤ 1048576) (hp : ∀ r ∈ rs, r.nd.pieces.length ≤ 1048576) :
  Calls Tryz.prog 96 #[.slice a rs.length ca, .slice b ts.length cb] w fun e w' => e = .returned (.bool true) ∧ Below w.heap.size w w' := by
 have hlen : ts.length = rs.length := by rw [← nds_len, ← hn, nds_len]
 have HA := Shut.mk (And.intro ha hp)
 have HB := Shut.mk (And.intro hb hn)
 obtain ⟨n, hnn⟩ : ∃ n, n = rs.length := ⟨_, rfl⟩
 have HN := Shut.mk (And.intro hnn hlen)
 rw [hlen, ← hnn]
 rw [← hnn] at hl
 have hne : ((n : Int) != (n : Int)) = false := by simp
 clear ha hb hn hp hlen hnn
 go_enter Tryz.func96, Tryz.ntmps96
 go_wp2_with fail
 go_loopw [5] (fun i wr => ∃ (k : Nat), i = .int .i64 k ∧ k ≤ n ∧ Shut (Below w.heap.size w wr)) (fun i _ => n - (intOf i).toNat)
 case atStart => exact ⟨0, rfl, Nat.zero_le _, ⟨Below.refl _ _⟩⟩
 case round =>
  obtain ⟨k, rfl, hk, hbl⟩ := hrel
  by_cases hlt : k < n
  ·have hlr : k < rs.length := by have := HN.out.1; omega
   have hlt2 : k < ts.length := by have := HN.out; omega
   obtain ⟨b1, o1, rfl, l1, hc1⟩ := TR.nat (HA.out.1.below hbl.out) (by omega)
   obtain ⟨b2, o2, rfl, l2, hc2⟩ := TR.nat (HB.out.1.below hbl.out) (by omega)
   obtain ⟨d0, d1, d2, d3, d4, d5, d6, d7, d8⟩ := hc1 k hlr
   obtain ⟨e0, e1, e2, e3, e4, e5, e6, e7, e8⟩ := hc2 k hlt2
   have heq : rs[k].nd = ts[k].nd := by
    have h1 : (nds rs)[k]'(by rw [nds_len]; exact hlr) = rs[k].nd := by simp [nds]
    have h2 : (nds ts)[k]'(by rw [nds_len]; exact hlt2) = ts[k].nd := by simp [nds]
    rw [← h1, ← h2]
    simp only [HB.out.2]
   have HQ := Shut.mk (fun W (hW : Below wr.heap.size wr W) => eqInode_same rs[k] ts[k] W lo hi lo' hi' heq (((HA.out.1.below hbl.out).2 rs[k] (List.getElem_mem hlr)).below hW) (((HB.out.1.below hbl.out).2 ts[k] (List.getElem_mem hlt2)).below hW) (HA.out.2 rs[k] (List.getElem_mem hlr)))
   generalize rs[k] = r at *
   generalize ts[k] = s at *
   have k0 : (0 : Int) ≤ (k : Int) := by omega
   have k1 : (k : Int) < (n : Int) := by omega
   clear hc1 hc2 heq
   go_wp2_with fail
   go_region_held3 (fun w' => w'.cell? ⟨b1, o1 + k * 9, none⟩ = some (.int .i64 r.nd.id) ∧ w'.cell? ⟨b1, o1 + k * 9 + 1, none⟩ = some (.int .i64 r.nd.parent) ∧ w'.cell? ⟨b1, o1 + k * 9 + 2, none⟩ = some (.string r.nd.name) ∧ w'.cell? ⟨b1, o1 + k * 9 + 3, none⟩ = some (.bool r.nd.dir) ∧ w'.cell? ⟨b1, o1 + k * 9 + 4, none⟩ = some (.int .i64 r.nd.schema) ∧ w'.cell? ⟨b1, o1 + k * 9 + 5, none⟩ = some (.int .i64 r.nd.quota) ∧ w'.cell? ⟨b1, o1 + k * 9 + 6, none⟩ = some (.int .i64 r.nd.len) ∧ w'.cell? ⟨b1, o1 + k * 9 + 7, none⟩ = some (.slice r.loc r.nd.pieces.length r.cap) ∧ w'.cell? ⟨b1, o1 + k * 9 + 8, none⟩ = some (.int .i64 r.nd.writer) ∧ w'.cell? ⟨b2, o2 + k * 9, none⟩ = some (.int .i64 s.nd.id) ∧ w'.cell? ⟨b2, o2 + k * 9 + 1, none⟩ = some (.int .i64 s.nd.parent) ∧ w'.cell? ⟨b2, o2 + k * 9 + 2, none⟩ = some (.string s.nd.name) ∧ w'.cell? ⟨b2, o2 + k * 9 + 3, none⟩ = some (.bool s.nd.dir) ∧ w'.cell? ⟨b2, o2 + k * 9 + 4, none⟩ = some (.int .i64 s.nd.schema) ∧ w'.cell? ⟨b2, o2 + k * 9 + 5, none⟩ = some (.int .i64 s.nd.quota) ∧ w'.cell? ⟨b2, o2 + k * 9 + 6, none⟩ = some (.int .i64 s.nd.len) ∧ w'.cell? ⟨b2, o2 + k * 9 + 7, none⟩ = some (.slice s.loc s.nd.pieces.length s.cap) ∧ w'.cell? ⟨b2, o2 + k * 9 + 8, none⟩ = some (.int .i64 s.nd.writer))
    (first | go_keep | (refine ⟨?_, ?_, ?_, ?_, ?_, ?_, ?_, ?_, ?_, ?_, ?_, ?_, ?_, ?_, ?_, ?_, ?_, ?_⟩ <;> first | (rw [hb2.cell (by exact l1)]; simp [*]) | (rw [hb2.cell (by exact l2)]; simp [*])))
    ((go_at_call 130; refine (HQ.out _ (by first | exact Below.refl _ _ | exact Below.drew (Below.refl _ _))).mono ?_; rintro e w2 ⟨rfl, hb2⟩))
   all_goals go_wp2_with fail
   all_goals
    have hb3 : Below w.heap.size w w2 := hbl.out.trans ((Below.drew (Below.refl _ _)).trans (hb2.mono hbl.out.size))
    exact ⟨⟨k + 1, by go_num, by omega, ⟨hb3⟩⟩, by simp [intOf]; omega⟩
  ·have hlt' : ¬ (k : Int) < (n : Int) := by omega
   go_wp2_with fail
   go_ret
   exact ⟨rfl, hbl.out⟩
set_option maxHeartbeats 1000000 in
theorem eqTree_val {w : World} {v u : Value} {T : TM} {lo hi lo' hi' : Nat} (h : TSee w v T lo hi) (k : TSee w u T lo' hi') (hf : NFit T) : Calls Tryz.prog 45 #[v, u] w fun e w' => e = .returned (.bool true) ∧ Below w.heap.size w w' := by
 obtain ⟨a, cap, rs, rfl, hr, hm⟩ := h
 obtain ⟨b, cap', ts, rfl, hr', hm'⟩ := k
 have hl : rs.length ≤ 1048576 := by have : rs.length = T.nodes.length := by rw [← hr, nds_len]
                                     unfold NFit at hf; omega
 have hp : ∀ r ∈ rs, r.nd.pieces.length ≤ 1048576 := fun r hx => by
  have := nsum_mem (ns := T.nodes) (n := r.nd) (by rw [← hr]; exact List.mem_map.2 ⟨r, hx, rfl⟩)
  unfold NFit at hf
  omega
 have HS := Shut.mk (fun W (hW : Below w.heap.size w W) => eqInodeS_same a b rs ts cap cap' W lo hi lo' hi' (hr.trans hr'.symm) (hm.below hW) (hm'.below hW) hl hp)
 generalize T.next = nx at *
 generalize rs.length = n at *
 generalize ts.length = m at *
 have HB0 := Shut.mk (show Below w.heap.size w ((w.alloc (.cells #[.slice a n cap, .int .i64 nx] 26)).alloc (.cells #[.slice b m cap', .int .i64 nx] 26)) from ((Below.refl _ _).alloc (Nat.le_refl _) _).alloc (by simp) _)
 have HW1 := Shut.mk ((wcells_new w #[.slice a n cap, .int .i64 nx] 26).alloc (.cells #[.slice b m cap', .int .i64 nx] 26))
 have HW2 := Shut.mk (wcells_new (w.alloc (.cells #[.slice a n cap, .int .i64 nx] 26)) #[.slice b m cap', .int .i64 nx] 26)
 have hz : (w.alloc (.cells #[.slice a n cap, .int .i64 nx] 26)).heap.size = w.heap.size + 1 := by simp
 rw [hz] at HW2
 clear hz hm hm' hr hr' hl hp hf
 go_enter Tryz.func45, Tryz.ntmps45
 go_wp2_with fail
 refine (HS.out _ HB0.out).mono ?_
 rintro e w2 ⟨rfl, hb2⟩
 have a1 := ((HW1.out.grow hb2).2 1 _ rfl).1
 have c1 := ((HW2.out.grow hb2).2 1 _ rfl).1
 have HB2 := Shut.mk (HB0.out.trans (hb2.mono HB0.out.size))
 clear hb2 HW1 HW2 HB0 HS
 go_wp2_with fail
 go_ret
 exact ⟨rfl, HB2.out⟩
end Go.Proofs.YtakhagkhngmpaaaGreat
/- TreG: . -/
namespace Go.Proofs.YtakhagkhngmpaaaGreat
set_option maxRecDepth 100000
open Go.RowKit
def markPs (k n : Nat) : List PM := (List.range n).map fun i => ⟨((k + 2 * i : Nat) : Int), ((k + 2 * i + 1 : Nat) : Int)⟩
theorem markPs_len (k n : Nat) : (markPs k n).length = n := by simp [markPs]
def markDir (k : Nat) : Bool := decide (k % 3 = 0)
def markN (k np : Nat) : NM := ⟨(k : Int), ((k + 1 : Nat) : Int), mt (k + 2), markDir (k + 3), ((k + 4 : Nat) : Int), ((k + 5 : Nat) : Int), ((k + 6 : Nat) : Int), markPs (k + 7) np, ((k + 7 + 2 * np : Nat) : Int)⟩
def markRs (k : Nat) : List NR → List NR
 | [] => []
 | r :: rs => ⟨markN k r.nd.pieces.length, r.loc, r.cap⟩ :: markRs (k + 8 + 2 * r.nd.pieces.length) rs
def markK (k : Nat) : List NM → Nat
 | [] => k
 | n :: ns => markK (k + 8 + 2 * n.pieces.length) ns
theorem markRs_len (k : Nat) (rs : List NR) : (markRs k rs).length = rs.length := by
 induction rs generalizing k with
 | nil => rfl
 | cons r rs ih => simp only [markRs, List.length_cons, ih]
theorem markK_snoc (k : Nat) (ns : List NM) (n : NM) : markK k (ns ++ [n]) = markK k ns + 8 + 2 * n.pieces.length := by
 induction ns generalizing k with
 | nil => rfl
 | cons x ns ih => simp only [List.cons_append, markK, ih]
theorem markRs_snoc (k : Nat) (rs : List NR) (r : NR) : markRs k (rs ++ [r]) = markRs k rs ++ [⟨markN (markK k (nds rs)) r.nd.pieces.length, r.loc, r.cap⟩] := by
 induction rs generalizing k with
 | nil => rfl
 | cons x rs ih => simp only [List.cons_append, markRs, ih, nds, List.map_cons, markK]
theorem markK_le (k : Nat) (ns : List NM) : k ≤ markK k ns ∧ markK k ns ≤ k + 8 * ns.length + 2 * nsum ns := by
 induction ns generalizing k with
 | nil => simp [markK, nsum]
 | cons n ns ih => have := ih (k + 8 + 2 * n.pieces.length); simp only [markK, nsum, List.length_cons]; omega
theorem markK_low (k : Nat) (ns : List NM) : k + ns.length ≤ markK k ns := by
 induction ns generalizing k with
 | nil => simp [markK]
 | cons n ns ih => simp only [List.length_cons, markK]; have := ih (k + 8 + 2 * n.pieces.length); omega
theorem markK_part (k : Nat) (ns : List NM) (i : Nat) : markK k (ns.take i) ≤ markK k ns := by
 induction ns generalizing k i with
 | nil => simp
 | cons n ns ih =>
  cases i with
  | zero => simp only [List.take_zero]; exact (markK_le k _).1
  | succ i => simp only [List.take_succ_cons, markK]; exact ih _ _
theorem ncs_get (ts : List NR) (j : Nat) (h : j < ts.length) (i : Nat) (hi : i < 9) : (ncs ts)[j * 9 + i]? = (ncells ts[j])[i]? := flat_get ncells_len ts j h i hi
theorem ncs_set1 (ts : List NR) (i : Nat) (hi : i < ts.length) (f : Nat) (hf : f < 9) (r : NR) (v : Value) (h1 : (ncells r)[f]? = some v) (h2 : ∀ q, q < 9 → q ≠ f → (ncells r)[q]? = (ncells ts[i])[q]?) : (ncs ts).set (i * 9 + f) v = ncs (ts.set i r) := by
 have hlen : (ncs ts).length = ts.length * 9 := ncs_len ts
 apply List.ext_getElem?
 intro n
 by_cases hn : n < ts.length * 9
 ·have hs := flat_set ncells_len ts i hi r n hn
  show _ = ((ts.set i r).flatMap ncells)[n]?
  rw [hs]
  have hm := Nat.mod_lt n (show 0 < 9 by decide)
  have he : n = n / 9 * 9 + n % 9 := by omega
  by_cases e : n = i * 9 + f
  ·have e1 : n / 9 = i := by omega
   have e2 : n % 9 = f := by omega
   rw [if_pos e1, e2, h1, ← e, List.getElem?_set_self (by rw [hlen]; exact hn)]
  ·rw [List.getElem?_set_ne (by omega)]
   by_cases e1 : n / 9 = i
   ·rw [if_pos e1, h2 _ hm (by omega)]
    have := ncs_get ts i hi (n % 9) hm
    rw [← this]
    congr 1
    omega
   ·rw [if_neg e1]; rfl
 ·rw [List.getElem?_eq_none (by rw [List.length_set, hlen]; omega), List.getElem?_eq_none (by rw [ncs_len, List.length_set]; omega)]
theorem apart_set {rs : List NR} (h : rs.Pairwise fun r s => NKind.inn r ≠ [] → NKind.inn s ≠ [] → NKind.loc r ≠ NKind.loc s) (j : Nat) (hj : j < rs.length) (r : NR) (hi : pcs r.nd.pieces ≠ [] → pcs rs[j].nd.pieces ≠ []) (hl : r.loc = rs[j].loc) : (rs.set j r).Pairwise fun r s => NKind.inn r ≠ [] → NKind.inn s ≠ [] → NKind.loc r ≠ NKind.loc s := by
 have ha := List.pairwise_iff_getElem.1 h
 refine List.pairwise_iff_getElem.2 (fun a b ha' hb' hab h1 h2 => ?_)
 rw [List.length_set] at ha' hb'
 rw [List.getElem_set] at h1 ⊢
 rw [List.getElem_set] at h2 ⊢
 by_cases ea : j = a
 ·subst ea
  rw [if_pos rfl] at h1 ⊢
  rw [if_neg (by omega)] at h2 ⊢
  show r.loc ≠ _
  rw [hl]
  exact ha j b ha' hb' hab (hi h1) h2
 ·rw [if_neg ea] at h1 ⊢
  by_cases eb : j = b
  ·subst eb
   rw [if_pos rfl] at h2 ⊢
   show _ ≠ r.loc
   rw [hl]
   exact ha a j ha' hb' hab h1 (hi h2)
  ·rw [if_neg eb] at h2 ⊢
   exact ha a b ha' hb' hab h1 h2
theorem TW.cell {w : World} {g : Nat} {ts : List NR} {lo hi : Nat} (h : TW w g ts lo hi) (i : Nat) (hi' : i < ts.length) (f : Nat) (hf : f < 9) (r : NR) (v : Value) (h1 : (ncells r)[f]? = some v) (h2 : ∀ q, q < 9 → q ≠ f → (ncells r)[q]? = (ncells ts[i])[q]?)
  (hin : r.nd.pieces = ts[i].nd.pieces) (hloc : r.loc = ts[i].loc) : TW (w.setCell ⟨g, i * 9 + f, none⟩ v) g (ts.set i r) lo hi := by
 have hout := h.out.set (i * 9 + f) v (by rw [NKind.cells_len]; show i * 9 + f < ts.length * 9; omega)
 have e : (NKind.cells ts).set (i * 9 + f) v = NKind.cells (ts.set i r) := ncs_set1 ts i hi' f hf r v h1 h2
 rw [e] at hout
 refine ⟨hout, h.glo, h.ghi, fun s hs => ?_, apart_set h.apart i hi' r (fun q => by rw [← hin]; exact q) hloc⟩
 have key : ∀ s ∈ ts, NKind.inn s = [] ∨ ∃ b, NKind.loc s = some ⟨b, 0, none⟩ ∧ lo ≤ b ∧ b < hi ∧ b ≠ g ∧ WCells (w.setCell ⟨g, i * 9 + f, none⟩ v) b (NKind.inn s) := fun s hs => by
  rcases h.rows s hs with q | ⟨b, e, q1, q2, q3, q4⟩
  ·exact .inl q
  ·exact .inr ⟨b, e, q1, q2, q3, q4.other _ _ q3⟩
 rcases List.mem_or_eq_of_mem_set hs with q | q
 ·exact key s q
 ·subst q
  have := key ts[i] (List.getElem_mem hi')
  show pcs s.nd.pieces = [] ∨ ∃ b, s.loc = _ ∧ _ ∧ _ ∧ _ ∧ WCells _ b (pcs s.nd.pieces)
  rw [hin, hloc]
  exact this
theorem TW.cell' {w : World} {g : Nat} {ts : List NR} {lo hi : Nat} (h : TW w g ts lo hi) (i : Nat) (hi' : i < ts.length) (r0 : NR) (hat : ts[i] = r0) (f : Nat) (hf : f < 9) (r : NR) (v : Value) (h1 : (ncells r)[f]? = some v) (h2 : ∀ q, q < 9 → q ≠ f → (ncells r)[q]? = (ncells r0)[q]?)
  (hin : r.nd.pieces = r0.nd.pieces) (hloc : r.loc = r0.loc) : TW (w.setCell ⟨g, i * 9 + f, none⟩ v) g (ts.set i r) lo hi := by
 subst hat
 exact h.cell i hi' f hf r v h1 h2 hin hloc
theorem TW.pieces {w w2 : World} {g : Nat} {ts : List NR} {lo hi : Nat} (h : TW w g ts lo hi) (i : Nat) (hi' : i < ts.length) (b : Nat) (hb : ts[i].loc = some ⟨b, 0, none⟩) (hne : ts[i].nd.pieces ≠ []) (r : NR) (hc : ncells r = ncells ts[i]) (hloc : r.loc = ts[i].loc)
  (hw : WCells w2 b (pcs r.nd.pieces)) (hg : w.grownBy w2 (some b)) : TW w2 g (ts.set i r) lo hi := by
 obtain ⟨b', e', p1, p2, p3, p4⟩ : ∃ b, ts[i].loc = some ⟨b, 0, none⟩ ∧ lo ≤ b ∧ b < hi ∧ b ≠ g ∧ WCells w b (pcs ts[i].nd.pieces) := by
  rcases h.rows ts[i] (List.getElem_mem hi') with q | q
  ·exact absurd q (pcs_ne hne)
  ·exact q
 have eb : b' = b := congrArg Addr.block (Option.some.inj (e'.symm.trans hb))
 subst eb
 have hcs : NKind.cells (ts.set i r) = NKind.cells ts := by
  show (ts.set i r).flatMap ncells = ts.flatMap ncells
  apply List.ext_getElem?
  intro n
  by_cases hn : n < ts.length * 9
  ·rw [flat_set ncells_len ts i hi' r n hn]
   split
   ·rename_i e
    rw [hc]
    have := ncs_get ts i hi' (n % 9) (Nat.mod_lt n (by decide))
    rw [← this]
    show (ncs ts)[_]? = (ncs ts)[_]?
    congr 1
    omega
   ·rfl
  ·rw [List.getElem?_eq_none (by have := flat_len ncells_len (ts.set i r); rw [List.length_set] at this; omega), List.getElem?_eq_none (by have := flat_len ncells_len ts; omega)]
 refine ⟨by rw [hcs]; exact h.out.apart hg (Ne.symm p3), h.glo, h.ghi, fun s hs => ?_, apart_set h.apart i hi' r (fun _ => pcs_ne hne) hloc⟩
 obtain ⟨j, hj, rfl⟩ := List.mem_iff_getElem.1 hs
 rw [List.length_set] at hj
 rw [List.getElem_set]
 by_cases e : i = j
 ·rw [if_pos e]
  exact .inr ⟨b', by show r.loc = _; rw [hloc, hb], p1, p2, p3, hw⟩
 ·rw [if_neg e]
  rcases h.rows ts[j] (List.getElem_mem hj) with q | ⟨c, e2, q1, q2, q3, q4⟩
  ·exact .inl q
  ·by_cases hq : NKind.inn ts[j] = []
   ·exact .inl hq
   ·have hap : ts[i].loc ≠ ts[j].loc := by
     have ha := List.pairwise_iff_getElem.1 h.apart
     by_cases hij : i < j
     ·exact ha i j hi' hj hij (pcs_ne hne) hq
     ·exact (ha j i hj hi' (by omega) hq (pcs_ne hne)).symm
    have hcb : c ≠ b' := fun q => hap (by rw [hb, ← q]; exact e2.symm)
    exact .inr ⟨c, e2, q1, q2, q3, q4.apart hg hcb⟩
end Go.Proofs.YtakhagkhngmpaaaGreat
/- TreH: . -/
namespace Go.Proofs.YtakhagkhngmpaaaGreat
set_option maxRecDepth 100000
open Go.RowKit
attribute [local go_sem ↓] Go.wp_at_zero Go.wp_at_succ
theorem markPieceS_none (a : Option Addr) (k ca : Nat) (w : World) : Calls Tryz.prog 131 #[.slice a 0 ca, .int .i64 k] w fun e w' => e = .returned (.int .i64 k) ∧ w' = w := by
 go_enter Tryz.func131, Tryz.ntmps131
 go_wp2_with fail
 go_rounds 1
 go_ret
 exact ⟨rfl, rfl⟩
theorem markPs_at (k n j : Nat) (h : j < n) : (markPs k n)[j]'(by rw [markPs_len]; exact h) = ⟨((k + 2 * j : Nat) : Int), ((k + 2 * j + 1 : Nat) : Int)⟩ := by simp [markPs]
set_option maxHeartbeats 1000000 in
theorem markPieceS_any (g : Nat) (ps : List PM) (k ca : Nat) (w : World) (ha : WCells w g (pcs ps)) (hn : k + 2 * ps.length ≤ 1000000000) :
  Calls Tryz.prog 131 #[.slice (some ⟨g, 0, none⟩) ps.length ca, .int .i64 k] w fun e w' => e = .returned (.int .i64 (k + 2 * ps.length : Nat)) ∧ WCells w' g (pcs (markPs k ps.length)) ∧ w.grownBy w' (some g) := by
 obtain ⟨n, hnx⟩ : ∃ n, n = ps.length := ⟨_, rfl⟩
 have HN := Shut.mk hnx
 rw [← hnx] at hn ⊢
 have HA := Shut.mk ha
 clear hnx ha
 go_enter Tryz.func131, Tryz.ntmps131
 go_wp2_with fail
 go_loopw [1, 5] (fun c i wr => ∃ (j cc : Nat) (gs : List PM), i = .int .i64 j ∧ c = .int .i64 cc ∧ cc ≤ 1000000000 ∧ j ≤ n ∧ Shut (cc = k + 2 * j ∧ gs.length = n ∧ gs.take j = (markPs k n).take j) ∧ Shut (WCells wr g (pcs gs)) ∧ Shut (w.grownBy wr (some g))) (fun _ i _ => n - (intOf i).toNat)
 case atStart => exact ⟨0, k, ps, rfl, rfl, by omega, Nat.zero_le _, ⟨rfl, HN.out.symm, rfl⟩, HA, ⟨⟨rfl, rfl, rfl, Nat.le_refl _, fun _ _ _ => rfl⟩⟩⟩
 case round =>
  clear HA
  obtain ⟨j, c, gs, rfl, rfl, hc9, hj, HG, hw, hgr⟩ := hrel
  by_cases hlt : j < n
  ·have j0 : (0 : Int) ≤ (j : Int) := by omega
   have j1 : (j : Int) < (n : Int) := by omega
   have hgk : j < gs.length := by have := HG.out.2.1; omega
   obtain ⟨c1, e1⟩ : ∃ c1, c1 = c + 1 := ⟨_, rfl⟩
   obtain ⟨c2, e2⟩ : ∃ c2, c2 = c + 2 := ⟨_, rfl⟩
   have HC := Shut.mk (And.intro e1 e2)
   have i1 : (c : Int) + 1 = (c1 : Int) := by omega
   have i2 : (c1 : Int) + 1 = (c2 : Int) := by omega
   have hb1 : c1 ≤ 1000000001 := by omega
   have hb2 : c2 ≤ 1000000000 := by have := HG.out.1; omega
   obtain ⟨x0, z0⟩ := hw.out.2 (j * 2) _ (flat_get pcells_len gs j hgk 0 (by omega))
   obtain ⟨x1, z1⟩ := hw.out.2 (j * 2 + 1) _ (flat_get pcells_len gs j hgk 1 (by omega))
   have HS := Shut.mk (hw.out.setElem pcells_len j hgk ⟨(c : Int), (c1 : Int)⟩)
   have HGR := Shut.mk (gb_two' (gb_two' hgr.out (gb_set' wr g (j * 2) (.int .i64 (c : Int)))) (gb_set' _ g (j * 2 + 1) (.int .i64 (c1 : Int))))
   clear e1 e2 hw hgr
   go_wp2_with fail
   go_roundw
   case rel =>
    refine ⟨j + 1, c2, gs.set j ⟨(c : Int), (c1 : Int)⟩, by go_num, rfl, hb2, by omega, ⟨by have := HG.out.1; have := HC.out.2; omega, by rw [List.length_set]; exact HG.out.2.1, ?_⟩, HS, HGR⟩
    have hjm : j < (markPs k n).length := by rw [markPs_len]; exact hlt
    rw [List.take_succ_eq_append_getElem (by rw [List.length_set]; exact hgk), List.take_succ_eq_append_getElem hjm, List.take_set_of_le (Nat.le_refl _), HG.out.2.2, List.getElem_set_self, markPs_at k n j hlt]
    have h1 := HG.out.1
    have h2 := HC.out.1
    rw [h2, h1]
   case measure => simp [intOf]; omega
  ·have e : gs = markPs k n := by
    have h := HG.out.2.2
    rw [List.take_of_length_le (by have := HG.out.2.1; omega), List.take_of_length_le (by rw [markPs_len]; omega)] at h; exact h
   have hjn : j = n := by omega
   have HF : Shut (WCells wr g (pcs (markPs k n))) := ⟨by rw [← e]; exact hw.out⟩
   have HE : Shut (c = k + 2 * n) := ⟨by have := HG.out.1; omega⟩
   have hlt' : ¬ (j : Int) < (n : Int) := by omega
   clear e hjn hw HG
   go_wp2_with fail
   go_ret
   exact ⟨congrArg (fun x : Int => Ending.returned (.int .i64 x)) (show (c : Int) = _ by have := HE.out; omega), HF.out, hgr.out⟩
def MarkNodes (g k : Nat) (rs : List NR) (lo hi : Nat) (w : World) (e : Ending) (w' : World) : Prop := e = .returned (.int .i64 (markK k (nds rs) : Nat)) ∧ TW w' g (markRs k rs) lo hi ∧ Turned w w' lo hi
theorem dir_is (c : Nat) : ((c : Int) % 3 == 0) = markDir c := by
 unfold markDir
 rw [Bool.eq_iff_iff]
 simp only [beq_iff_eq, decide_eq_true_eq]
 omega
theorem dir_is' (c : Nat) : ((c : Int).tmod 3 == 0) = markDir c := by rw [Int.tmod_eq_emod_of_nonneg (by omega)]; exact dir_is c
set_option maxHeartbeats 8000000 in
theorem markInodeS_any (g : Nat) (rs : List NR) (k ca : Nat) (w : World) (lo hi : Nat) (hm : TW w g rs lo hi) (hk : 1 ≤ k) (hn : markK k (nds rs) ≤ 50000000) :
  Calls Tryz.prog 97 #[.slice (some ⟨g, 0, none⟩) rs.length ca, .int .i64 k] w fun e w' => MarkNodes g k rs lo hi w e w' := by
 obtain ⟨n, hnx⟩ : ∃ n, n = rs.length := ⟨_, rfl⟩
 have HN := Shut.mk hnx
 have HK := Shut.mk hn
 have hn9 : n ≤ 50000000 := by
  have := markK_low k (nds rs)
  rw [nds_len] at this
  omega
 have hglo := hm.glo
 have hghi := hm.ghi
 rw [← hnx]
 have HA := Shut.mk hm
 clear hnx hm hn
 go_enter Tryz.func97, Tryz.ntmps97
 go_wp2_with fail
 go_loopw [1, 5] (fun cv iv wr => ∃ (i c : Nat) (ts : List NR), iv = .int .i64 i ∧ cv = .int .i64 c ∧ c ≤ 50000000 ∧ 1 ≤ c ∧ i ≤ n ∧ Shut (c = markK k (nds (rs.take i)) ∧ ts = markRs k (rs.take i) ++ rs.drop i) ∧ Shut (TW wr g ts lo hi ∧ Turned w wr lo hi)) (fun _ iv _ => n - (intOf iv).toNat)
 case atStart => exact ⟨0, k, rs, rfl, rfl, by have := HK.out; have := (markK_le k (nds rs)).1; omega, hk, Nat.zero_le _, ⟨rfl, by simp [markRs]⟩, ⟨HA.out, Turned.refl _ _ _⟩⟩
 case round =>
  clear HA
  obtain ⟨i, c, ts, rfl, rfl, hc9, hc1, hin, HG, HT⟩ := hrel
  by_cases hlt : i < n
  ·have j0 : (0 : Int) ≤ (i : Int) := by omega
   have j1 : (i : Int) < (n : Int) := by omega
   have hlr : i < rs.length := by have := HN.out; omega
   have hml : (markRs k (rs.take i)).length = i := by rw [markRs_len, List.length_take]; omega
   have htl : ts.length = n := by rw [HG.out.2, List.length_append, hml, List.length_drop, HN.out]; omega
   have hits : i < ts.length := by omega
   have hat : ts[i] = rs[i] := by
    simp only [HG.out.2]
    rw [List.getElem_append_right (by omega)]
    simp only [hml, Nat.sub_self, List.getElem_drop, Nat.add_zero]
   have hset : ts = ts.set i rs[i] := by rw [← hat, List.set_getElem_self]
   have hnext : markRs k (rs.take (i + 1)) ++ rs.drop (i + 1) = ts.set i ⟨markN c rs[i].nd.pieces.length, rs[i].loc, rs[i].cap⟩ := by
    rw [List.take_succ_eq_append_getElem hlr, markRs_snoc, HG.out.2, ← HG.out.1, List.append_assoc, List.set_append, if_neg (by omega)]
    congr 1
    rw [hml, Nat.sub_self, List.drop_eq_getElem_cons hlr]
    rfl
   have hck : markK k (nds (rs.take (i + 1))) = c + 8 + 2 * rs[i].nd.pieces.length := by rw [List.take_succ_eq_append_getElem hlr, nds_snoc, markK_snoc, ← HG.out.1]
   have hcb : markK k (nds (rs.take (i + 1))) ≤ 50000000 := by
    have := markK_part k (nds rs) (i + 1)
    have e : (nds rs).take (i + 1) = nds (rs.take (i + 1)) := by unfold nds; rw [List.map_take]
    rw [e] at this
    have := HK.out
    omega
   rcases hr : rs[i] with ⟨⟨id, parent, name, dir, schema, quota, len, pieces, writer⟩, loc, cap⟩
   rw [hr] at hat hset hnext hck
   dsimp only at hnext hck
   obtain ⟨np, hnp⟩ : ∃ np, np = pieces.length := ⟨_, rfl⟩
   rw [← hnp] at hnext hck
   rw [hset] at HT
   obtain ⟨c1, e1⟩ : ∃ c1, c1 = c + 1 := ⟨_, rfl⟩
   obtain ⟨c2, e2⟩ : ∃ c2, c2 = c + 2 := ⟨_, rfl⟩
   obtain ⟨c3, e3⟩ : ∃ c3, c3 = c + 3 := ⟨_, rfl⟩
   obtain ⟨c4, e4⟩ : ∃ c4, c4 = c + 4 := ⟨_, rfl⟩
   obtain ⟨c5, e5⟩ : ∃ c5, c5 = c + 5 := ⟨_, rfl⟩
   obtain ⟨c6, e6⟩ : ∃ c6, c6 = c + 6 := ⟨_, rfl⟩
   obtain ⟨c7, e7'⟩ : ∃ c7, c7 = c + 7 := ⟨_, rfl⟩
   obtain ⟨e7, h7⟩ : ∃ e7, e7 = c + 7 + 2 * np := ⟨_, rfl⟩
   obtain ⟨e8, h8⟩ : ∃ e8, e8 = c + 8 + 2 * np := ⟨_, rfl⟩
   have i1 : (c : Int) + 1 = (c1 : Int) := by omega
   have i2 : (c1 : Int) + 1 = (c2 : Int) := by omega
   have i3 : (c2 : Int) + 1 = (c3 : Int) := by omega
   have i4 : (c3 : Int) + 1 = (c4 : Int) := by omega
   have i5 : (c4 : Int) + 1 = (c5 : Int) := by omega
   have i6 : (c5 : Int) + 1 = (c6 : Int) := by omega
   have i7 : (c6 : Int) + 1 = (c7 : Int) := by omega
   have i8 : (e7 : Int) + 1 = (e8 : Int) := by omega
   have q1 : c1 ≤ 60000000 := by omega
   have q2 : c2 ≤ 60000000 := by omega
   have q3 : c3 ≤ 60000000 := by omega
   have q4 : c4 ≤ 60000000 := by omega
   have q5 : c5 ≤ 60000000 := by omega
   have q6 : c6 ≤ 60000000 := by omega
   have q7 : c7 ≤ 60000000 := by omega
   have q8 : e7 ≤ 60000000 := by omega
   have q9 : e8 ≤ 50000000 := by omega
   have HMT := Shut.mk (fun W => markText_any c2 W (by omega) (by omega))
   have HNX : Shut (e8 = markK k (nds (rs.take (i + 1))) ∧ ts.set i ⟨⟨(c : Int), (c1 : Int), mt c2, markDir c3, (c4 : Int), (c5 : Int), (c6 : Int), markPs c7 np, (e7 : Int)⟩, loc, cap⟩ = markRs k (rs.take (i + 1)) ++ rs.drop (i + 1)) := ⟨by omega, by rw [hnext]; unfold markN; rw [e1, e2, e3, e4, e5, e6, e7', h7]⟩
   have hd1 := dir_is c3
   have hd2 := dir_is' c3
   have HE7 := Shut.mk (show e7 = c7 + 2 * np by omega)
   generalize mt c2 = T2 at *
   generalize markDir c3 = D3 at *
   have HNP := Shut.mk hnp
   clear hat hset hnext hck hcb hr htl hml e1 e2 e3 e4 e5 e6 e7' h7 h8 hnp HG
   obtain ⟨x0, z0⟩ := HT.out.1.out.2 (i * 9 + 0) _ (by rw [NKind.cells_get _ i (by rw [List.length_set]; exact hits) 0 (by decide), List.getElem_set_self]; rfl)
   rw [Nat.add_zero] at x0 z0
   go_upto_region 5 with fail
   refine wp_shade (fun W => TW W g (ts.set i (⟨⟨((c : Nat) : Int), parent, name, dir, schema, quota, len, pieces, writer⟩, loc, cap⟩ : NR)) lo hi ∧ Turned w W lo hi) ⟨by
    have q := HT.out.1.cell' i (by rw [List.length_set]; exact hits) (⟨⟨id, parent, name, dir, schema, quota, len, pieces, writer⟩, loc, cap⟩ : NR) (List.getElem_set_self _) 0 (by decide) (⟨⟨((c : Nat) : Int), parent, name, dir, schema, quota, len, pieces, writer⟩, loc, cap⟩ : NR) (.int .i64 (c : Int)) rfl (fun q hq hne => match q, hq, hne with | 0, _, h => absurd rfl h | 1, _, _ => rfl | 2, _, _ => rfl | 3, _, _ => rfl | 4, _, _ => rfl | 5, _, _ => rfl | 6, _, _ => rfl | 7, _, _ => rfl | 8, _, _ => rfl | x + 9, h, _ => absurd h (by omega)) rfl rfl
    rw [List.set_set] at q
    exact q, HT.out.2.trans (Turned.of_grown (gb_set' _ _ _ _) hglo hghi)⟩ ?_
   clear HT x0 z0
   rintro Wid ⟨ht, htu⟩
   have HT := Shut.mk (And.intro ht htu)
   clear ht htu
   obtain ⟨x1, z1⟩ := HT.out.1.out.2 (i * 9 + 1) _ (by rw [NKind.cells_get _ i (by rw [List.length_set]; exact hits) 1 (by decide), List.getElem_set_self]; rfl)
   go_upto_region 7 with fail
   refine wp_shade (fun W => TW W g (ts.set i (⟨⟨((c : Nat) : Int), ((c1 : Nat) : Int), name, dir, schema, quota, len, pieces, writer⟩, loc, cap⟩ : NR)) lo hi ∧ Turned w W lo hi) ⟨by
    have q := HT.out.1.cell' i (by rw [List.length_set]; exact hits) (⟨⟨((c : Nat) : Int), parent, name, dir, schema, quota, len, pieces, writer⟩, loc, cap⟩ : NR) (List.getElem_set_self _) 1 (by decide) (⟨⟨((c : Nat) : Int), ((c1 : Nat) : Int), name, dir, schema, quota, len, pieces, writer⟩, loc, cap⟩ : NR) (.int .i64 (c1 : Int)) rfl (fun q hq hne => match q, hq, hne with | 0, _, _ => rfl | 1, _, h => absurd rfl h | 2, _, _ => rfl | 3, _, _ => rfl | 4, _, _ => rfl | 5, _, _ => rfl | 6, _, _ => rfl | 7, _, _ => rfl | 8, _, _ => rfl | x + 9, h, _ => absurd h (by omega)) rfl rfl
    rw [List.set_set] at q
    exact q, HT.out.2.trans (Turned.of_grown (gb_set' _ _ _ _) hglo hghi)⟩ ?_
   clear HT x1 z1
   rintro Wparent ⟨ht, htu⟩
   have HT := Shut.mk (And.intro ht htu)
   clear ht htu
   go_wp2_with fail
   refine (HMT.out _).mono ?_
   rintro e wn ⟨rfl, hbn⟩
   replace HT := Shut.mk (show TW wn g (ts.set i (⟨⟨((c : Nat) : Int), ((c1 : Nat) : Int), name, dir, schema, quota, len, pieces, writer⟩, loc, cap⟩ : NR)) lo hi ∧ Turned w wn lo hi from ⟨HT.out.1.below hbn, HT.out.2.trans (Turned.of_below hbn lo hi)⟩)
   clear hbn
   obtain ⟨x2, z2⟩ := HT.out.1.out.2 (i * 9 + 2) _ (by rw [NKind.cells_get _ i (by rw [List.length_set]; exact hits) 2 (by decide), List.getElem_set_self]; rfl)
   go_upto_region 9 with fail
   refine wp_shade (fun W => TW W g (ts.set i (⟨⟨((c : Nat) : Int), ((c1 : Nat) : Int), T2, dir, schema, quota, len, pieces, writer⟩, loc, cap⟩ : NR)) lo hi ∧ Turned w W lo hi) ⟨by
    have q := HT.out.1.cell' i (by rw [List.length_set]; exact hits) (⟨⟨((c : Nat) : Int), ((c1 : Nat) : Int), name, dir, schema, quota, len, pieces, writer⟩, loc, cap⟩ : NR) (List.getElem_set_self _) 2 (by decide) (⟨⟨((c : Nat) : Int), ((c1 : Nat) : Int), T2, dir, schema, quota, len, pieces, writer⟩, loc, cap⟩ : NR) (.string T2) rfl (fun q hq hne => match q, hq, hne with | 0, _, _ => rfl | 1, _, _ => rfl | 2, _, h => absurd rfl h | 3, _, _ => rfl | 4, _, _ => rfl | 5, _, _ => rfl | 6, _, _ => rfl | 7, _, _ => rfl | 8, _, _ => rfl | x + 9, h, _ => absurd h (by omega)) rfl rfl
    rw [List.set_set] at q
    exact q, HT.out.2.trans (Turned.of_grown (gb_set' _ _ _ _) hglo hghi)⟩ ?_
   clear HT x2 z2
   rintro Wname ⟨ht, htu⟩
   have HT := Shut.mk (And.intro ht htu)
   clear ht htu
   obtain ⟨x3, z3⟩ := HT.out.1.out.2 (i * 9 + 3) _ (by rw [NKind.cells_get _ i (by rw [List.length_set]; exact hits) 3 (by decide), List.getElem_set_self]; rfl)
   go_upto_region 11 with fail
   refine wp_shade (fun W => TW W g (ts.set i (⟨⟨((c : Nat) : Int), ((c1 : Nat) : Int), T2, D3, schema, quota, len, pieces, writer⟩, loc, cap⟩ : NR)) lo hi ∧ Turned w W lo hi) ⟨by
    have q := HT.out.1.cell' i (by rw [List.length_set]; exact hits) (⟨⟨((c : Nat) : Int), ((c1 : Nat) : Int), T2, dir, schema, quota, len, pieces, writer⟩, loc, cap⟩ : NR) (List.getElem_set_self _) 3 (by decide) (⟨⟨((c : Nat) : Int), ((c1 : Nat) : Int), T2, D3, schema, quota, len, pieces, writer⟩, loc, cap⟩ : NR) (.bool D3) rfl (fun q hq hne => match q, hq, hne with | 0, _, _ => rfl | 1, _, _ => rfl | 2, _, _ => rfl | 3, _, h => absurd rfl h | 4, _, _ => rfl | 5, _, _ => rfl | 6, _, _ => rfl | 7, _, _ => rfl | 8, _, _ => rfl | x + 9, h, _ => absurd h (by omega)) rfl rfl
    rw [List.set_set] at q
    exact q, HT.out.2.trans (Turned.of_grown (gb_set' _ _ _ _) hglo hghi)⟩ ?_
   clear HT x3 z3
   rintro Wdir ⟨ht, htu⟩
   have HT := Shut.mk (And.intro ht htu)
   clear ht htu
   obtain ⟨x4, z4⟩ := HT.out.1.out.2 (i * 9 + 4) _ (by rw [NKind.cells_get _ i (by rw [List.length_set]; exact hits) 4 (by decide), List.getElem_set_self]; rfl)
   go_upto_region 13 with fail
   refine wp_shade (fun W => TW W g (ts.set i (⟨⟨((c : Nat) : Int), ((c1 : Nat) : Int), T2, D3, ((c4 : Nat) : Int), quota, len, pieces, writer⟩, loc, cap⟩ : NR)) lo hi ∧ Turned w W lo hi) ⟨by
    have q := HT.out.1.cell' i (by rw [List.length_set]; exact hits) (⟨⟨((c : Nat) : Int), ((c1 : Nat) : Int), T2, D3, schema, quota, len, pieces, writer⟩, loc, cap⟩ : NR) (List.getElem_set_self _) 4 (by decide) (⟨⟨((c : Nat) : Int), ((c1 : Nat) : Int), T2, D3, ((c4 : Nat) : Int), quota, len, pieces, writer⟩, loc, cap⟩ : NR) (.int .i64 (c4 : Int)) rfl (fun q hq hne => match q, hq, hne with | 0, _, _ => rfl | 1, _, _ => rfl | 2, _, _ => rfl | 3, _, _ => rfl | 4, _, h => absurd rfl h | 5, _, _ => rfl | 6, _, _ => rfl | 7, _, _ => rfl | 8, _, _ => rfl | x + 9, h, _ => absurd h (by omega)) rfl rfl
    rw [List.set_set] at q
    exact q, HT.out.2.trans (Turned.of_grown (gb_set' _ _ _ _) hglo hghi)⟩ ?_
   clear HT x4 z4
   rintro Wschema ⟨ht, htu⟩
   have HT := Shut.mk (And.intro ht htu)
   clear ht htu
   obtain ⟨x5, z5⟩ := HT.out.1.out.2 (i * 9 + 5) _ (by rw [NKind.cells_get _ i (by rw [List.length_set]; exact hits) 5 (by decide), List.getElem_set_self]; rfl)
   go_upto_region 15 with fail
   refine wp_shade (fun W => TW W g (ts.set i (⟨⟨((c : Nat) : Int), ((c1 : Nat) : Int), T2, D3, ((c4 : Nat) : Int), ((c5 : Nat) : Int), len, pieces, writer⟩, loc, cap⟩ : NR)) lo hi ∧ Turned w W lo hi) ⟨by
    have q := HT.out.1.cell' i (by rw [List.length_set]; exact hits) (⟨⟨((c : Nat) : Int), ((c1 : Nat) : Int), T2, D3, ((c4 : Nat) : Int), quota, len, pieces, writer⟩, loc, cap⟩ : NR) (List.getElem_set_self _) 5 (by decide) (⟨⟨((c : Nat) : Int), ((c1 : Nat) : Int), T2, D3, ((c4 : Nat) : Int), ((c5 : Nat) : Int), len, pieces, writer⟩, loc, cap⟩ : NR) (.int .i64 (c5 : Int)) rfl (fun q hq hne => match q, hq, hne with | 0, _, _ => rfl | 1, _, _ => rfl | 2, _, _ => rfl | 3, _, _ => rfl | 4, _, _ => rfl | 5, _, h => absurd rfl h | 6, _, _ => rfl | 7, _, _ => rfl | 8, _, _ => rfl | x + 9, h, _ => absurd h (by omega)) rfl rfl
    rw [List.set_set] at q
    exact q, HT.out.2.trans (Turned.of_grown (gb_set' _ _ _ _) hglo hghi)⟩ ?_
   clear HT x5 z5
   rintro Wquota ⟨ht, htu⟩
   have HT := Shut.mk (And.intro ht htu)
   clear ht htu
   obtain ⟨x6, z6⟩ := HT.out.1.out.2 (i * 9 + 6) _ (by rw [NKind.cells_get _ i (by rw [List.length_set]; exact hits) 6 (by decide), List.getElem_set_self]; rfl)
   go_upto_region 17 with fail
   refine wp_shade (fun W => TW W g (ts.set i (⟨⟨((c : Nat) : Int), ((c1 : Nat) : Int), T2, D3, ((c4 : Nat) : Int), ((c5 : Nat) : Int), ((c6 : Nat) : Int), pieces, writer⟩, loc, cap⟩ : NR)) lo hi ∧ Turned w W lo hi) ⟨by
    have q := HT.out.1.cell' i (by rw [List.length_set]; exact hits) (⟨⟨((c : Nat) : Int), ((c1 : Nat) : Int), T2, D3, ((c4 : Nat) : Int), ((c5 : Nat) : Int), len, pieces, writer⟩, loc, cap⟩ : NR) (List.getElem_set_self _) 6 (by decide) (⟨⟨((c : Nat) : Int), ((c1 : Nat) : Int), T2, D3, ((c4 : Nat) : Int), ((c5 : Nat) : Int), ((c6 : Nat) : Int), pieces, writer⟩, loc, cap⟩ : NR) (.int .i64 (c6 : Int)) rfl (fun q hq hne => match q, hq, hne with | 0, _, _ => rfl | 1, _, _ => rfl | 2, _, _ => rfl | 3, _, _ => rfl | 4, _, _ => rfl | 5, _, _ => rfl | 6, _, h => absurd rfl h | 7, _, _ => rfl | 8, _, _ => rfl | x + 9, h, _ => absurd h (by omega)) rfl rfl
    rw [List.set_set] at q
    exact q, HT.out.2.trans (Turned.of_grown (gb_set' _ _ _ _) hglo hghi)⟩ ?_
   clear HT x6 z6
   rintro Wlen ⟨ht, htu⟩
   have HT := Shut.mk (And.intro ht htu)
   clear ht htu
   have hrow := HT.out.1.rows (⟨⟨((c : Nat) : Int), ((c1 : Nat) : Int), T2, D3, ((c4 : Nat) : Int), ((c5 : Nat) : Int), ((c6 : Nat) : Int), pieces, writer⟩, loc, cap⟩ : NR) (List.mem_iff_getElem.2 ⟨i, by rw [List.length_set]; exact hits, List.getElem_set_self _⟩)
   obtain ⟨x7, z7⟩ := HT.out.1.out.2 (i * 9 + 7) _ (by rw [NKind.cells_get _ i (by rw [List.length_set]; exact hits) 7 (by decide), List.getElem_set_self]; rfl)
   have hcall : ∃ W8, True := ⟨w, trivial⟩
   clear hcall
   dsimp only at x7
   rw [← HNP.out] at x7
   have HCALL : Shut (Calls Tryz.prog 131 #[.slice loc np cap, .int .i64 c7] Wlen fun e w' => e = .returned (.int .i64 e7) ∧ TW w' g (ts.set i (⟨⟨((c : Nat) : Int), ((c1 : Nat) : Int), T2, D3, ((c4 : Nat) : Int), ((c5 : Nat) : Int), ((c6 : Nat) : Int), (markPs c7 np), writer⟩, loc, cap⟩ : NR)) lo hi ∧ Turned w w' lo hi) := by
    rcases hrow with hemp | ⟨b, hb, hb1, hb2, hb3, hb4⟩
    ·have hp0 : pieces = [] := pcs_nil.1 hemp
     have hn0 : np = 0 := by rw [HNP.out, hp0]; rfl
     subst hn0
     refine ⟨(markPieceS_none loc c7 cap Wlen).mono ?_⟩
     rintro e w' ⟨rfl, rfl⟩
     refine ⟨by rw [HE7.out]; rfl, ?_, HT.out.2⟩
     have : markPs c7 0 = pieces := by rw [hp0]; rfl
     rw [this]
     exact HT.out.1
    ·by_cases hp0 : pieces = []
     ·have hn0 : np = 0 := by rw [HNP.out, hp0]; rfl
      subst hn0
      refine ⟨(markPieceS_none loc c7 cap Wlen).mono ?_⟩
      rintro e w' ⟨rfl, rfl⟩
      refine ⟨by rw [HE7.out]; rfl, ?_, HT.out.2⟩
      have : markPs c7 0 = pieces := by rw [hp0]; rfl
      rw [this]
      exact HT.out.1
     ·have hlb : loc = some ⟨b, 0, none⟩ := hb
      have hcl := markPieceS_any b pieces c7 cap Wlen hb4 (by have := HNP.out; have := HE7.out; omega)
      rw [← HNP.out] at hcl
      rw [hlb]
      refine ⟨hcl.mono ?_⟩
      rintro e w' ⟨rfl, hw', hg'⟩
      refine ⟨by rw [← HE7.out], ?_, HT.out.2.trans (Turned.of_grown hg' hb1 hb2)⟩
      have q := HT.out.1.pieces i (by rw [List.length_set]; exact hits) b (by rw [List.getElem_set_self]; exact hlb) (by rw [List.getElem_set_self]; exact hp0) (⟨⟨((c : Nat) : Int), ((c1 : Nat) : Int), T2, D3, ((c4 : Nat) : Int), ((c5 : Nat) : Int), ((c6 : Nat) : Int), (markPs c7 np), writer⟩, loc, cap⟩ : NR) (by rw [List.getElem_set_self]; unfold ncells; dsimp only; rw [markPs_len, HNP.out]) (by rw [List.getElem_set_self]) hw' hg'
      rw [List.set_set, hlb] at q
      exact q
   clear hrow HT
   go_wp2_with fail
   refine HCALL.out.mono ?_
   rintro e Wp ⟨rfl, ht, htu⟩
   have HT := Shut.mk (And.intro ht htu)
   clear ht htu HCALL
   obtain ⟨x8, z8⟩ := HT.out.1.out.2 (i * 9 + 8) _ (by rw [NKind.cells_get _ i (by rw [List.length_set]; exact hits) 8 (by decide), List.getElem_set_self]; rfl)
   go_upto_region 20 with fail
   refine wp_shade (fun W => TW W g (ts.set i (⟨⟨((c : Nat) : Int), ((c1 : Nat) : Int), T2, D3, ((c4 : Nat) : Int), ((c5 : Nat) : Int), ((c6 : Nat) : Int), (markPs c7 np), ((e7 : Nat) : Int)⟩, loc, cap⟩ : NR)) lo hi ∧ Turned w W lo hi) ⟨by
    have q := HT.out.1.cell' i (by rw [List.length_set]; exact hits) (⟨⟨((c : Nat) : Int), ((c1 : Nat) : Int), T2, D3, ((c4 : Nat) : Int), ((c5 : Nat) : Int), ((c6 : Nat) : Int), (markPs c7 np), writer⟩, loc, cap⟩ : NR) (List.getElem_set_self _) 8 (by decide) (⟨⟨((c : Nat) : Int), ((c1 : Nat) : Int), T2, D3, ((c4 : Nat) : Int), ((c5 : Nat) : Int), ((c6 : Nat) : Int), (markPs c7 np), ((e7 : Nat) : Int)⟩, loc, cap⟩ : NR) (.int .i64 (e7 : Int)) rfl (fun q hq hne => match q, hq, hne with | 0, _, _ => rfl | 1, _, _ => rfl | 2, _, _ => rfl | 3, _, _ => rfl | 4, _, _ => rfl | 5, _, _ => rfl | 6, _, _ => rfl | 7, _, _ => rfl | 8, _, h => absurd rfl h | x + 9, h, _ => absurd h (by omega)) rfl rfl
    rw [List.set_set] at q
    exact q, HT.out.2.trans (Turned.of_grown (gb_set' _ _ _ _) hglo hghi)⟩ ?_
   clear HT x8 z8
   rintro Wwriter ⟨ht, htu⟩
   have HT := Shut.mk (And.intro ht htu)
   clear ht htu
   go_wp2_with fail
   go_roundw
   case rel => exact ⟨i + 1, e8, ts.set i (⟨⟨((c : Nat) : Int), ((c1 : Nat) : Int), T2, D3, ((c4 : Nat) : Int), ((c5 : Nat) : Int), ((c6 : Nat) : Int), (markPs c7 np), ((e7 : Nat) : Int)⟩, loc, cap⟩ : NR), by go_num, rfl, q9, by omega, by omega, ⟨HNX.out.1, HNX.out.2⟩, HT⟩
   case measure => simp [intOf]; omega
  ·have e : i = n := by omega
   have hall : rs.take i = rs := List.take_of_length_le (by have := HN.out; omega)
   have hnil : rs.drop i = [] := List.drop_eq_nil_of_le (by have := HN.out; omega)
   have hlt' : ¬ (i : Int) < (n : Int) := by omega
   have HF : Shut (c = markK k (nds rs) ∧ ts = markRs k rs) := ⟨by have := HG.out.1; rwa [hall] at this, by have := HG.out.2; rwa [hall, hnil, List.append_nil] at this⟩
   clear hall hnil HG e
   go_wp2_with fail
   go_ret
   exact ⟨by rw [← HF.out.1]; rfl, by rw [← HF.out.2]; exact HT.out.1, HT.out.2⟩
end Go.Proofs.YtakhagkhngmpaaaGreat
/- TreI: . -/
namespace Go.Proofs.YtakhagkhngmpaaaGreat
set_option maxRecDepth 100000
open Go.RowKit
attribute [local go_sem ↓] Go.wp_at_zero Go.wp_at_succ
set_option maxHeartbeats 1000000 in
theorem heldPieceS_any (a : Option Addr) (k n ca : Nat) (w : World) (lo hi : Nat) (ha : RRow w a (pcs (markPs k n)) lo hi) (hn : k + 2 * n ≤ 1000000000) :
  Calls Tryz.prog 132 #[.slice a n ca, .int .i64 k] w fun e w' => e = .returned (.int .i64 (k + 2 * n : Nat)) ∧ Below w.heap.size w w' := by
 have HA := Shut.mk ha
 clear ha
 go_enter Tryz.func132, Tryz.ntmps132
 go_wp2_with fail
 go_loopw [1, 5] (fun c i wr => ∃ (j cc : Nat), i = .int .i64 j ∧ c = .int .i64 cc ∧ cc ≤ 1000000000 ∧ j ≤ n ∧ Shut (cc = k + 2 * j) ∧ Shut (Below w.heap.size w wr)) (fun _ i _ => n - (intOf i).toNat)
 case atStart => exact ⟨0, k, rfl, rfl, by omega, Nat.zero_le _, ⟨rfl⟩, ⟨Below.refl _ _⟩⟩
 case round =>
  obtain ⟨j, c, rfl, rfl, hc9, hj, HC, hb⟩ := hrel
  by_cases hlt : j < n
  ·have j0 : (0 : Int) ≤ (j : Int) := by omega
   have j1 : (j : Int) < (n : Int) := by omega
   obtain ⟨b, off, rfl, lb, hcell⟩ := pcs_at (HA.out.below hb.out) (by rw [markPs_len]; omega)
   obtain ⟨d0, d1⟩ := hcell j (by rw [markPs_len]; exact hlt)
   rw [markPs_at k n j hlt] at d0 d1
   obtain ⟨c1, e1⟩ : ∃ c1, c1 = c + 1 := ⟨_, rfl⟩
   obtain ⟨c2, e2⟩ : ∃ c2, c2 = c + 2 := ⟨_, rfl⟩
   dsimp only at d0 d1
   rw [show k + 2 * j = c from HC.out.symm] at d0
   rw [show k + 2 * j + 1 = c1 by rw [e1, HC.out]] at d1
   have HCC : Shut (c2 = k + 2 * (j + 1)) := ⟨by have := HC.out; omega⟩
   have i1 : (c : Int) + 1 = (c1 : Int) := by omega
   have i2 : (c1 : Int) + 1 = (c2 : Int) := by omega
   have hb1 : c1 ≤ 1000000001 := by omega
   have hb2 : c2 ≤ 1000000000 := by have := HC.out; omega
   have h1 : ((c : Int) != (c : Int)) = false := by simp
   have h2 : ((c1 : Int) != (c1 : Int)) = false := by simp
   clear e1 e2 hcell
   go_wp2_with fail
   go_roundw
   case rel => exact ⟨j + 1, c2, by go_num, rfl, hb2, by omega, HCC, hb⟩
   case measure => simp [intOf]; omega
  ·have HE : Shut (c = k + 2 * n) := ⟨by have := HC.out; omega⟩
   have hlt' : ¬ (j : Int) < (n : Int) := by omega
   go_wp2_with fail
   go_ret
   exact ⟨congrArg (fun x : Int => Ending.returned (.int .i64 x)) (show (c : Int) = _ by have := HE.out; omega), hb.out⟩
theorem markRs_at (k : Nat) (rs : List NR) (i : Nat) (h : i < rs.length) : (markRs k rs)[i]'(by rw [markRs_len]; exact h) = ⟨markN (markK k (nds (rs.take i))) rs[i].nd.pieces.length, rs[i].loc, rs[i].cap⟩ := by
 induction rs generalizing k i with
 | nil => simp at h
 | cons r rs ih =>
  cases i with
  | zero => rfl
  | succ i =>
   simp only [markRs, List.getElem_cons_succ, List.take_succ_cons, nds, List.map_cons, markK]
   exact ih _ i (by simpa using h)
set_option maxHeartbeats 8000000 in
theorem heldInodeS_any (a : Option Addr) (rs : List NR) (k ca : Nat) (w : World) (lo hi : Nat) (hm : TR w a (markRs k rs) lo hi) (hk : 1 ≤ k) (hn : markK k (nds rs) ≤ 50000000) :
  Calls Tryz.prog 98 #[.slice a rs.length ca, .int .i64 k] w fun e w' => e = .returned (.int .i64 (markK k (nds rs) : Nat)) ∧ Below w.heap.size w w' := by
 obtain ⟨n, hnx⟩ : ∃ n, n = rs.length := ⟨_, rfl⟩
 have HN := Shut.mk hnx
 have HK := Shut.mk hn
 have hn9 : n ≤ 50000000 := by
  have := markK_low k (nds rs)
  rw [nds_len] at this
  omega
 rw [← hnx]
 have HA := Shut.mk hm
 obtain ⟨K, hKe⟩ : ∃ K, K = markK k (nds rs) := ⟨_, rfl⟩
 rw [← hKe]
 have HKE := Shut.mk hKe
 clear hnx hm hn hKe
 go_enter Tryz.func98, Tryz.ntmps98
 go_wp2_with fail
 go_loopw [1, 5] (fun cv iv wr => ∃ (i c : Nat), iv = .int .i64 i ∧ cv = .int .i64 c ∧ c ≤ 50000000 ∧ 1 ≤ c ∧ i ≤ n ∧ Shut (c = markK k (nds (rs.take i))) ∧ Shut (Below w.heap.size w wr)) (fun _ iv _ => n - (intOf iv).toNat)
 case atStart => exact ⟨0, k, rfl, rfl, by have := HK.out; have := (markK_le k (nds rs)).1; omega, hk, Nat.zero_le _, ⟨rfl⟩, ⟨Below.refl _ _⟩⟩
 case round =>
  obtain ⟨i, c, rfl, rfl, hc9, hc1, hin, HC, hbl⟩ := hrel
  by_cases hlt : i < n
  ·have j0 : (0 : Int) ≤ (i : Int) := by omega
   have j1 : (i : Int) < (n : Int) := by omega
   have hlr : i < rs.length := by have := HN.out; omega
   have hmr : i < (markRs k rs).length := by rw [markRs_len]; exact hlr
   obtain ⟨b, off, rfl, lb, hcell⟩ := TR.nat (HA.out.below hbl.out) (by omega)
   have hat := hcell i hmr
   have hprow := ((HA.out.below hbl.out).2 _ (List.getElem_mem hmr))
   rw [markRs_at k rs i hlr, ← HC.out] at hat hprow
   have hck : markK k (nds (rs.take (i + 1))) = c + 8 + 2 * rs[i].nd.pieces.length := by rw [List.take_succ_eq_append_getElem hlr, nds_snoc, markK_snoc, ← HC.out]
   have hcb : markK k (nds (rs.take (i + 1))) ≤ 50000000 := by
    have := markK_part k (nds rs) (i + 1)
    have e : (nds rs).take (i + 1) = nds (rs.take (i + 1)) := by unfold nds; rw [List.map_take]
    rw [e] at this
    have := HK.out
    omega
   generalize rs[i].nd.pieces.length = np at *
   generalize rs[i].loc = loc at *
   generalize rs[i].cap = cap at *
   unfold NAt markN at hat
   dsimp only at hat
   unfold markN at hprow
   dsimp only at hprow
   rw [markPs_len] at hat
   obtain ⟨c1, e1⟩ : ∃ c1, c1 = c + 1 := ⟨_, rfl⟩
   obtain ⟨c2, e2⟩ : ∃ c2, c2 = c + 2 := ⟨_, rfl⟩
   obtain ⟨c3, e3⟩ : ∃ c3, c3 = c + 3 := ⟨_, rfl⟩
   obtain ⟨c4, e4⟩ : ∃ c4, c4 = c + 4 := ⟨_, rfl⟩
   obtain ⟨c5, e5⟩ : ∃ c5, c5 = c + 5 := ⟨_, rfl⟩
   obtain ⟨c6, e6⟩ : ∃ c6, c6 = c + 6 := ⟨_, rfl⟩
   obtain ⟨c7, e7'⟩ : ∃ c7, c7 = c + 7 := ⟨_, rfl⟩
   obtain ⟨e7, h7⟩ : ∃ e7, e7 = c + 7 + 2 * np := ⟨_, rfl⟩
   obtain ⟨e8, h8⟩ : ∃ e8, e8 = c + 8 + 2 * np := ⟨_, rfl⟩
   rw [← e1, ← e2, ← e3, ← e4, ← e5, ← e6, ← h7] at hat
   rw [← e7'] at hprow
   have i1 : (c : Int) + 1 = (c1 : Int) := by omega
   have i2 : (c1 : Int) + 1 = (c2 : Int) := by omega
   have i3 : (c2 : Int) + 1 = (c3 : Int) := by omega
   have i4 : (c3 : Int) + 1 = (c4 : Int) := by omega
   have i5 : (c4 : Int) + 1 = (c5 : Int) := by omega
   have i6 : (c5 : Int) + 1 = (c6 : Int) := by omega
   have i7 : (c6 : Int) + 1 = (c7 : Int) := by omega
   have i8 : (e7 : Int) + 1 = (e8 : Int) := by omega
   have q1 : c1 ≤ 60000000 := by omega
   have q2 : c2 ≤ 60000000 := by omega
   have q3 : c3 ≤ 60000000 := by omega
   have q4 : c4 ≤ 60000000 := by omega
   have q5 : c5 ≤ 60000000 := by omega
   have q6 : c6 ≤ 60000000 := by omega
   have q7 : c7 ≤ 60000000 := by omega
   have q8 : e7 ≤ 60000000 := by omega
   have q9 : e8 ≤ 50000000 := by omega
   have q10 : ¬ (e7 : Int) < 0 := by omega
   have n0 : ((c : Int) != (c : Int)) = false := by simp
   have n1 : ((c1 : Int) != (c1 : Int)) = false := by simp
   have n4 : ((c4 : Int) != (c4 : Int)) = false := by simp
   have n5 : ((c5 : Int) != (c5 : Int)) = false := by simp
   have n6 : ((c6 : Int) != (c6 : Int)) = false := by simp
   have n7 : ((e7 : Int) != (e7 : Int)) = false := by simp
   have HMT := Shut.mk (fun W => markText_any c2 W (by omega) (by omega))
   have HPS := Shut.mk (fun W (hW : Below wr.heap.size wr W) => heldPieceS_any loc c7 np cap W lo hi (hprow.below hW) (by omega))
   rw [show c7 + 2 * np = e7 by omega] at HPS
   have HNX : Shut (e8 = markK k (nds (rs.take (i + 1)))) := ⟨by omega⟩
   have hd1 := dir_is c3
   have hd2 := dir_is' c3
   have n2 := same_text (mt c2)
   have n3 : (markDir c3 != markDir c3) = false := by cases markDir c3 <;> rfl
   generalize mt c2 = T2 at *
   generalize markDir c3 = D3 at *
   have HAT := Shut.mk hat
   obtain ⟨d0, d1, d2, _, _, _, _, _, _⟩ := hat
   clear hcell hprow hck hcb e1 e2 e3 e4 e5 e6 e7' h7 h8 HC
   go_wp2_with fail
   go_region_held3 (fun w' => w'.cell? ⟨b, off + i * 9 + 2, none⟩ = some (.string T2))
    (first | go_keep | assumption | (rw [hb1.cell (p := ⟨b, off + i * 9 + 2, none⟩) (by exact lb)]; assumption))
    ((go_at_call 100; refine (HMT.out _).mono ?_; rintro e w1 ⟨rfl, hb1⟩))
   all_goals
    have hb2 : Below wr.heap.size wr w1 := (Below.drew (Below.refl _ _)).trans hb1
    have HB2 := Shut.mk hb2
    have k3 := (hb2.cell (p := ⟨b, off + i * 9 + 3, none⟩) lb).trans HAT.out.2.2.2.1
    have k4 := (hb2.cell (p := ⟨b, off + i * 9 + 4, none⟩) lb).trans HAT.out.2.2.2.2.1
    have k5 := (hb2.cell (p := ⟨b, off + i * 9 + 5, none⟩) lb).trans HAT.out.2.2.2.2.2.1
    have k6 := (hb2.cell (p := ⟨b, off + i * 9 + 6, none⟩) lb).trans HAT.out.2.2.2.2.2.2.1
    have k7 := (hb2.cell (p := ⟨b, off + i * 9 + 7, none⟩) lb).trans HAT.out.2.2.2.2.2.2.2.1
    clear hb1 hb2 d0 d1 d2
    go_wp2_with fail
    refine (HPS.out _ HB2.out).mono ?_
    rintro e w2 ⟨rfl, hb3⟩
    have HB3 := Shut.mk (HB2.out.trans (hb3.mono HB2.out.size))
    have k8 := (HB3.out.cell (p := ⟨b, off + i * 9 + 8, none⟩) lb).trans HAT.out.2.2.2.2.2.2.2.2
    have HB4 := Shut.mk (hbl.out.trans (HB3.out.mono hbl.out.size))
    clear hb3 HB2 HB3 k3 k4 k5 k6 k7
    go_wp2_with fail
    go_roundw
    case rel => exact ⟨i + 1, e8, by go_num, rfl, q9, by omega, by omega, HNX, HB4⟩
    case measure => simp [intOf]; omega
  ·have hall : rs.take i = rs := List.take_of_length_le (by have := HN.out; omega)
   have hlt' : ¬ (i : Int) < (n : Int) := by omega
   have HF : Shut (c = K) := ⟨by have := HC.out; rw [hall] at this; rw [this, HKE.out]⟩
   clear hall HC
   go_wp2_with fail
   go_ret
   exact ⟨congrArg (fun x : Nat => Ending.returned (.int .i64 (x : Int))) HF.out, hbl.out⟩
def THeld (w : World) (v : Value) (k : Nat) (T : TM) (lo hi : Nat) : Prop := ∃ (a : Option Addr) (cap : Nat) (rs : List NR), v = .agg #[.slice a rs.length cap, .int .i64 T.next] ∧ nds rs = T.nodes ∧ TR w a (markRs k rs) lo hi
theorem THeld.turned {w w' : World} {v : Value} {k : Nat} {T : TM} {lo hi lo' hi' : Nat} (h : THeld w v k T lo hi) (t : Turned w w' lo' hi') (hd : hi ≤ lo' ∨ hi' ≤ lo) : THeld w' v k T lo hi := by
 obtain ⟨a, cap, rs, e, hr, h1⟩ := h
 exact ⟨a, cap, rs, e, hr, h1.turned t hd⟩
theorem THeld.below {w w' : World} {v : Value} {k : Nat} {T : TM} {lo hi : Nat} (h : THeld w v k T lo hi) (hb : Below w.heap.size w w') : THeld w' v k T lo hi := by
 obtain ⟨a, cap, rs, e, hr, h1⟩ := h
 exact ⟨a, cap, rs, e, hr, h1.below hb⟩
theorem markInodeS_nil (a : Option Addr) (k ca : Nat) (w : World) : Calls Tryz.prog 97 #[.slice a 0 ca, .int .i64 k] w fun e w' => e = .returned (.int .i64 k) ∧ w' = w := by
 go_enter Tryz.func97, Tryz.ntmps97
 go_wp2_with fail
 go_rounds 1
 go_ret
 exact ⟨rfl, rfl⟩
theorem mark_fit {T : TM} (hf : NFit T) (k : Nat) (hk : k ≤ 1000) : markK k T.nodes ≤ 50000000 := by
 have := (markK_le k T.nodes).2
 unfold NFit at hf
 omega
set_option maxHeartbeats 1000000 in
theorem markTree_val {w : World} {v : Value} {T : TM} {lo hi : Nat} (k : Nat) (h : TAns w v T lo hi) (hf : NFit T) (h1 : 1 ≤ k) (hk : k ≤ 1000) :
  Calls Tryz.prog 46 #[v, .int .i64 k] w fun e w' => e = .returned (.int .i64 (markK k T.nodes : Nat)) ∧ THeld w' v k T lo hi ∧ Turned w w' lo hi := by
 obtain ⟨a, cap, rs, rfl, hr, hc, h2⟩ := h
 have hmf := mark_fit hf k hk
 rw [← hr] at hmf
 have hsz : ∀ W, W = w.alloc (.cells #[.slice a rs.length cap, .int .i64 T.next] 26) → Below w.heap.size w W := fun W e => by rw [e]; exact (Below.refl _ _).alloc (Nat.le_refl _) _
 have HB := Shut.mk (hsz _ rfl)
 have HC : Shut (Calls Tryz.prog 97 #[.slice a rs.length cap, .int .i64 k] (w.alloc (.cells #[.slice a rs.length cap, .int .i64 T.next] 26)) fun e w' => e = .returned (.int .i64 (markK k T.nodes : Nat)) ∧ TR w' a (markRs k rs) lo hi ∧ Turned w w' lo hi) := by
  rcases h2 with rfl | ⟨g, rfl, hm⟩
  ·refine ⟨(markInodeS_nil a k cap _).mono ?_⟩
   rintro e w' ⟨rfl, rfl⟩
   have hx : T.nodes = [] := by rw [← hr]; rfl
   exact ⟨by rw [hx]; rfl, GR.nil _ _ _ _ _, Turned.of_below HB.out lo hi⟩
  ·refine ⟨(markInodeS_any g rs k cap _ lo hi (hm.below HB.out) h1 hmf).mono ?_⟩
   rintro e w' ⟨rfl, hw', ht⟩
   exact ⟨by rw [hr], hw'.gr, (Turned.of_below HB.out lo hi).trans ht⟩
 have HR := Shut.mk hr
 obtain ⟨m, hme⟩ : ∃ m, m = markK k T.nodes := ⟨_, rfl⟩
 have HME : m ≤ 50000000 := by rw [hme, ← hr]; exact hmf
 rw [← hme] at HC ⊢
 obtain ⟨nx, hnx⟩ : ∃ nx, nx = T.next := ⟨_, rfl⟩
 have HNX := Shut.mk hnx
 rw [← hnx] at HC HB ⊢
 obtain ⟨n, hnl⟩ : ∃ n, n = rs.length := ⟨_, rfl⟩
 have HNL := Shut.mk hnl
 rw [← hnl] at HC HB ⊢
 clear hmf hsz h2 hr hc hf hme hnx hnl
 go_enter Tryz.func46, Tryz.ntmps46
 go_wp2_with fail
 refine HC.out.mono ?_
 rintro e w2 ⟨rfl, ht, htu⟩
 have HT := Shut.mk (And.intro ht htu)
 clear ht htu HC
 go_wp2_with fail
 go_ret
 exact ⟨rfl, ⟨a, cap, rs, by rw [HNX.out, HNL.out], HR.out, HT.out.1⟩, HT.out.2⟩
set_option maxHeartbeats 1000000 in
theorem heldTree_val {w : World} {v : Value} {k : Nat} {T : TM} {lo hi : Nat} (h : THeld w v k T lo hi) (hf : NFit T) (h1 : 1 ≤ k) (hk : k ≤ 1000) :
  Calls Tryz.prog 47 #[v, .int .i64 k] w fun e w' => e = .returned (.int .i64 (markK k T.nodes : Nat)) ∧ Below w.heap.size w w' := by
 obtain ⟨a, cap, rs, rfl, hr, hm⟩ := h
 have hmf := mark_fit hf k hk
 rw [← hr] at hmf
 have HB := Shut.mk (show Below w.heap.size w (w.alloc (.cells #[.slice a rs.length cap, .int .i64 T.next] 26)) from (Below.refl _ _).alloc (Nat.le_refl _) _)
 have HC := Shut.mk (heldInodeS_any a rs k cap _ lo hi (hm.below HB.out) h1 hmf)
 rw [hr] at HC hmf
 obtain ⟨m, hme⟩ : ∃ m, m = markK k T.nodes := ⟨_, rfl⟩
 rw [← hme] at HC hmf ⊢
 generalize T.next = nx at *
 generalize rs.length = n at *
 have hm0 : ¬ (m : Int) < 0 := by omega
 clear hm hr hf hme
 go_enter Tryz.func47, Tryz.ntmps47
 go_wp2_with fail
 refine HC.out.mono ?_
 rintro e w2 ⟨rfl, hb⟩
 have HB2 := Shut.mk (HB.out.trans (hb.mono HB.out.size))
 clear hb HC
 go_wp2_with fail
 go_ret
 exact ⟨rfl, HB2.out⟩
end Go.Proofs.YtakhagkhngmpaaaGreat
/- EdZ: . -/
namespace Go.Proofs.YtakhagkhngmpaaaGreat
set_option maxRecDepth 100000
open Go.RowKit
def zeroE : EM := ⟨0, ⟨#[]⟩, ⟨#[]⟩, 0, 0⟩
def put5 (w : World) (A : Nat) (X : EM) : World := ((((w.setCell ⟨A, 0, none⟩ (.int .i64 X.kind)).setCell ⟨A, 1, none⟩ (.string X.path)).setCell ⟨A, 2, none⟩ (.string X.dest)).setCell ⟨A, 3, none⟩ (.int .i64 X.num)).setCell ⟨A, 4, none⟩ (.int .i64 X.who)
end Go.Proofs.YtakhagkhngmpaaaGreat
/- TreL: . -/
namespace Go.Proofs.YtakhagkhngmpaaaGreat
set_option maxRecDepth 100000
open Go.RowKit
attribute [local go_sem ↓] Go.wp_at_zero Go.wp_at_succ
end Go.Proofs.YtakhagkhngmpaaaGreat
/- LkP: . -/
namespace Go.Proofs.YtakhagkhngmpaaaGreat
set_option maxRecDepth 100000
def fid (ns : List NM) (id : Int) : Option Nat := ns.findIdx? (fun n => n.id == id)
def fnm (ns : List NM) (p : Int) (s : ByteArray) : Option Nat := ns.findIdx? (fun n => n.parent == p && decide (n.name = s))
theorem find_take {α : Type} (P : α → Bool) (xs : List α) (k : Nat) (h : k < xs.length) : (xs.take (k + 1)).findIdx? P = match (xs.take k).findIdx? P with
  | some i => some i
  | none => if P xs[k] = true then some k else none := by
 rw [List.take_succ_eq_append_getElem h, List.findIdx?_append]
 cases hf : (xs.take k).findIdx? P with
 | some i => simp
 | none =>
  simp only [List.findIdx?_cons, List.findIdx?_nil, Option.none_or]
  have : (xs.take k).length = k := by simp; omega
  by_cases hp : P xs[k] = true
  ·simp [hp, this]
  ·simp [hp]
theorem fid_lt {ns : List NM} {id : Int} {i : Nat} (h : fid ns id = some i) : ∃ hi : i < ns.length, ns[i].id = id := by
 obtain ⟨hi, h1, _⟩ := List.findIdx?_eq_some_iff_getElem.1 h
 exact ⟨hi, by simpa using h1⟩
theorem fid_none {ns : List NM} {id : Int} (h : fid ns id = none) : ∀ n ∈ ns, n.id ≠ id := fun n hn => by simpa using List.findIdx?_eq_none_iff.1 h n hn
theorem fid_of {ns : List NM} {i : Nat} (hi : i < ns.length) (h : ∀ j, j < i → ∀ hj : j < ns.length, ns[j].id ≠ ns[i].id) : fid ns ns[i].id = some i :=
 List.findIdx?_eq_some_iff_getElem.2 ⟨hi, by simp, fun j hj => by simpa using h j hj (by omega)⟩
theorem fnm_lt {ns : List NM} {p : Int} {s : ByteArray} {i : Nat} (h : fnm ns p s = some i) : ∃ hi : i < ns.length, ns[i].parent = p ∧ ns[i].name = s := by
 obtain ⟨hi, h1, _⟩ := List.findIdx?_eq_some_iff_getElem.1 h
 exact ⟨hi, by simpa using h1⟩
theorem fnm_none {ns : List NM} {p : Int} {s : ByteArray} (h : fnm ns p s = none) : ∀ n ∈ ns, n.parent = p → n.name ≠ s := fun n hn => by simpa using List.findIdx?_eq_none_iff.1 h n hn
theorem fnm_first {ns : List NM} {p : Int} {s : ByteArray} {i : Nat} (h : fnm ns p s = some i) : ∀ j, j < i → ∀ hj : j < ns.length, ns[j].parent = p → ns[j].name ≠ s := by
 obtain ⟨hi, h1, h2⟩ := List.findIdx?_eq_some_iff_getElem.1 h
 exact fun j hj hjl => by simpa using h2 j hj
theorem at_fid (ns : List NM) (id : Int) : atI ns id = match fid ns id with
  | some i => (i : Int)
  | none => -1 := rfl
inductive Ups (ns : List NM) : Nat → Nat → Prop
 | root : Ups ns 0 0
 | step {i k d : Nat} : i < ns.length → i ≠ 0 → fid ns (ns.getD i default).parent = some k → Ups ns k d → Ups ns i (d + 1)
def Asc (ns : List NM) : Prop := (∀ i (hi : i < ns.length), 0 < i → (ns.getD (i - 1) default).id < ns[i].id) ∧ 0 < ns.length ∧ (ns.getD 0 default).id = 1 ∧ (ns.getD 0 default).parent = 0
theorem Asc.lt {ns : List NM} (h : Asc ns) : ∀ j (hj : j < ns.length) i, i < j → (ns.getD i default).id < ns[j].id := by
 intro j
 induction j with
 | zero => intro _ i hi; omega
 | succ j ih =>
  intro hj i hi
  have h1 := h.1 (j + 1) hj (by omega)
  simp only [Nat.add_sub_cancel] at h1
  rcases Nat.lt_or_ge i j with hl | hg
  ·have h2 := ih (by omega) i hl
   have e : (ns.getD j default) = ns[j] := by simp [List.getD, (by omega : j < ns.length)]
   rw [e] at h1
   omega
  ·obtain rfl : i = j := by omega
   exact h1
theorem getD_in {ns : List NM} {i : Nat} (hi : i < ns.length) : ns.getD i default = ns[i] := by simp [List.getD, hi]
theorem Asc.fid {ns : List NM} (h : Asc ns) {i : Nat} (hi : i < ns.length) : fid ns ns[i].id = some i :=
 fid_of hi fun j hj hjl => by have := h.lt i hi j hj; rw [getD_in hjl] at this; omega
theorem Asc.pos {ns : List NM} (h : Asc ns) {i : Nat} (hi : i < ns.length) : 1 ≤ ns[i].id := by
 rcases Nat.eq_zero_or_pos i with rfl | hp
 ·have := h.2.2.1
  rw [getD_in hi] at this
  omega
 ·have := h.lt i hi 0 hp
  rw [h.2.2.1] at this
  omega
theorem Asc.zero {ns : List NM} (h : Asc ns) : Go.Proofs.YtakhagkhngmpaaaGreat.fid ns 0 = none := by
 cases hf : Go.Proofs.YtakhagkhngmpaaaGreat.fid ns 0 with
 | none => rfl
 | some i =>
  obtain ⟨hi, e⟩ := fid_lt hf
  have := h.pos hi
  omega
theorem Asc.one {ns : List NM} (h : Asc ns) : Go.Proofs.YtakhagkhngmpaaaGreat.fid ns 1 = some 0 := by
 have := h.fid h.2.1
 rw [← getD_in h.2.1, h.2.2.1] at this
 exact this
theorem climbs_ups {ns : List NM} (h : Asc ns) : ∀ (f : Nat) (id : Int) (i : Nat), climbs ns f id = true → Go.Proofs.YtakhagkhngmpaaaGreat.fid ns id = some i → i ≠ 0 → ∃ d, d ≤ f ∧ Ups ns i d := by
 intro f
 induction f with
 | zero => intro id i hc; simp [climbs] at hc
 | succ f ih =>
  intro id i hc hi h0
  unfold climbs at hc
  unfold Go.Proofs.YtakhagkhngmpaaaGreat.fid at hi
  rw [hi] at hc
  dsimp only at hc
  obtain ⟨hil, _⟩ := fid_lt (ns := ns) hi
  by_cases h1 : (ns.getD i default).parent = 1
  ·exact ⟨1, by omega, Ups.step hil h0 (by rw [h1]; exact h.one) Ups.root⟩
  ·rw [if_neg h1] at hc
   cases hk : Go.Proofs.YtakhagkhngmpaaaGreat.fid ns (ns.getD i default).parent with
   | none =>
    cases f with
    | zero => simp [climbs] at hc
    | succ f =>
     unfold climbs at hc
     unfold Go.Proofs.YtakhagkhngmpaaaGreat.fid at hk
     rw [hk] at hc
     cases hc
   | some k =>
    by_cases hk0 : k = 0
    ·subst hk0
     have := fid_lt hk
     obtain ⟨hl, e⟩ := this
     rw [← getD_in hl, h.2.2.1] at e
     exact absurd e.symm h1
    ·obtain ⟨d, hd, hu⟩ := ih _ k hc hk hk0
     exact ⟨d + 1, by omega, Ups.step hil h0 hk hu⟩
theorem ups_climbs {ns : List NM} (h : Asc ns) : ∀ (f i d : Nat), Ups ns i d → i ≠ 0 → d ≤ f → climbs ns f (ns.getD i default).id = true := by
 intro f
 induction f with
 | zero =>
  intro i d hu h0 hd
  cases hu with
  | root => exact absurd rfl h0
  | step => omega
 | succ f ih =>
  intro i d hu h0 hd
  cases hu with
  | root => exact absurd rfl h0
  | @step _ k d' hil _ hk hu' =>
   unfold climbs
   have e := h.fid hil
   rw [← getD_in hil] at e
   unfold Go.Proofs.YtakhagkhngmpaaaGreat.fid at e
   rw [e]
   dsimp only
   split
   ·rfl
   ·rename_i hne
    obtain ⟨hkl, ek⟩ := fid_lt hk
    rw [← ek, ← getD_in hkl]
    refine ih k d' hu' (fun e0 => hne ?_) (by omega)
    subst e0
    rw [← ek, ← getD_in hkl]
    exact h.2.2.1
theorem Ups.lt {ns : List NM} (h : Asc ns) {i d : Nat} (hu : Ups ns i d) : i < ns.length := by
 cases hu with
 | root => exact h.2.1
 | step hl => exact hl
theorem Ups.det {ns : List NM} {i d e : Nat} (h : Ups ns i d) (h' : Ups ns i e) : d = e := by
 induction h generalizing e with
 | root =>
  cases h' with
  | root => rfl
  | step _ h0 => exact absurd rfl h0
 | step _ h0 hk _ ih =>
  cases h' with
  | root => exact absurd rfl h0
  | step _ _ hk' hu' =>
   rw [hk] at hk'
   cases hk'
   rw [ih hu']
end Go.Proofs.YtakhagkhngmpaaaGreat
