/- Texts of ours, laid one behind the other: EdB, GrwB, EdD, DrEdA, LkN, LawPth, FrT, OpenC, LawPts, PaL, TreF, TreG. -/
import Derived.Test.YthfmjjaollekiaaGreatPf2
import Derived.Test.YthfmjjaollekiaaGreatPf1
import Derived.Test.YthfmjjaollekiaaGreatPf4
import Derived.BigQuiet
import Derived.OrdersHeld
import Derived.Deep.RegionHeld3
import Derived.OpenShut
/- EdB: The model's EditOk. -/
namespace Go.Proofs.YthfmjjaollekiaaGreat
set_option maxRecDepth 100000
open Go.RowKit BigFrame
attribute [local go_sem ↓] Go.wp_at_zero Go.wp_at_succ

set_option maxRecDepth 100000 in
set_option maxHeartbeats 2000000 in
theorem specEditOk (e : EM) (w : World) (hf : EFit e) : Calls Tryz.prog 41 #[ev e] w fun r w' => r = .returned (.bool (editOk e)) ∧ Below w.heap.size w w' := by
  have hnp := fun W => specNamed e.path W hf.1
  have hnt := fun W => specNamed e.dest W hf.2
  obtain ⟨R, hR⟩ : ∃ R, R = editOk e := ⟨_, rfl⟩
  rw [← hR]
  obtain ⟨bad, hbad⟩ : ∃ b, b = pathBad e := ⟨_, rfl⟩
  have hRR : R = (inI e.kind 1 10 && (if e.kind = 10 then (e.path.toList == [47]) && (e.dest.toList == []) && (e.num == 0) && (e.who == 0) else !bad && numsOk e)) := by rw [hR, hbad]; rfl
  obtain ⟨np, hnp'⟩ : ∃ b, b = named e.path := ⟨_, rfl⟩
  obtain ⟨nt, hnt'⟩ : ∃ b, b = named e.dest := ⟨_, rfl⟩
  rw [← hnp'] at hnp
  rw [← hnt'] at hnt
  unfold pathBad at hbad
  rw [← hnp', ← hnt'] at hbad
  unfold numsOk at hRR
  have HR := Shut.mk hRR
  have HNPC := Shut.mk hnp
  have HNTC := Shut.mk hnt
  have HBD := Shut.mk hbad
  clear hf hnp hnt hR hbad hnp' hnt' hRR
  obtain ⟨kind, path, dest, num, who⟩ := e
  dsimp only at *
  by_cases h1 : inI kind 1 10 = true
  case neg =>
    have HF : Shut (R = false) := ⟨by rw [HR.out]; simp [h1]⟩
    have HI := Shut.mk (fun W => isInI kind 1 10 W false (by simpa using h1))
    clear h1 HR
    go_enter Tryz.func41, Tryz.ntmps41
    go_wp2_with (go_at_call 80; refine (HI.out _).mono ?_; rintro r w1 ⟨rfl, rfl⟩)
    go_ret
    exact ⟨by rw [HF.out]; rfl, (Below.refl _ _).alloc (Nat.le_refl _) _⟩
  have HI := Shut.mk (fun W => isInI kind 1 10 W true h1)
  have HKB := Shut.mk (inI_iff.1 h1)
  have HIN := Shut.mk (fun x a b W => isInI x a b W _ rfl)
  rw [h1] at HR
  clear h1
  by_cases h10 : kind = 10
  · rw [if_pos h10] at HR
    subst h10
    go_enter Tryz.func41, Tryz.ntmps41
    go_wp2_with (go_at_call 80; refine (HI.out _).mono ?_; rintro r w1 ⟨rfl, rfl⟩)
    all_goals
      go_ret
      exact ⟨by rw [HR.out]; simp [*], (Below.refl _ _).alloc (Nat.le_refl _) _⟩
  · rw [if_neg h10] at HR
    have h10' : (kind == 10) = false := by simp [h10]
    obtain ⟨st, hst⟩ : ∃ b, b = ((kind == 5) || (kind == 6)) := ⟨_, rfl⟩
    obtain ⟨pr, hpr⟩ : ∃ b, b = (path.toList == [47]) := ⟨_, rfl⟩
    obtain ⟨k3, hk3⟩ : ∃ b, b = (kind == 3) := ⟨_, rfl⟩
    obtain ⟨te, hte⟩ : ∃ b, b = (dest.toList == []) := ⟨_, rfl⟩
    have HBD' : Shut (bad = ((!np && !(st && pr)) || (k3 != nt) || (!k3 && !te))) := ⟨by
      rw [HBD.out, ← hst, ← hpr, ← hk3]
      have e1 : (kind != 3) = !k3 := by rw [hk3]; rfl
      have e2 : (dest.toList != []) = !te := by rw [hte]; rfl
      rw [e1, e2]⟩
    have HST := Shut.mk hst
    go_enter Tryz.func41, Tryz.ntmps41
    go_upto_region 5 with (go_at_call 80; refine (HI.out _).mono ?_; rintro r w1 ⟨rfl, rfl⟩)
    refine wp_shade (fun W => Below w.heap.size w W ∧ WCells W w.heap.size [.int .i64 kind, .string path, .string dest, .int .i64 num, .int .i64 who]) ⟨(Below.refl _ _).alloc (Nat.le_refl _) _, wcells_new w #[.int .i64 kind, .string path, .string dest, .int .i64 num, .int .i64 who] 42⟩ ?_
    intro W hW
    have HW := Shut.mk hW
    have c0 := (hW.2.2 0 _ rfl).1
    have lw := hW.2.1
    have g0 : ∀ X : Grow W, X.val.cell? ⟨w.heap.size, 0, none⟩ = some (.int .i64 kind) := fun X => X.cell c0 lw
    have g1 : ∀ X : Grow W, X.val.cell? ⟨w.heap.size, 1, none⟩ = some (.string path) := fun X => X.cell (hW.2.2 1 _ rfl).1 lw
    have g2 : ∀ X : Grow W, X.val.cell? ⟨w.heap.size, 2, none⟩ = some (.string dest) := fun X => X.cell (hW.2.2 2 _ rfl).1 lw
    have HNP := Shut.mk (fun X => calls_grow (w := W) (fun W' (_ : Below W.heap.size W W') => HNPC.out W') X)
    have HNT := Shut.mk (fun X => calls_grow (w := W) (fun W' (_ : Below W.heap.size W W') => HNTC.out W') X)
    clear hW HI h10
    rw [HBD'.out] at HR
    clear HBD HBD'
    go_upto_region 5 with fail
    go_cut [3] from 29 to 36 (fun b wx => b = .bool st ∧ wx = W)
    case first =>
      by_cases h5 : kind = 5
      · have h5' : (kind == 5) = true := by simp [h5]
        have HSE : Shut (st = true) := ⟨by rw [HST.out]; simp [h5]⟩
        clear h5
        go_wp2_with fail
        go_meet
        case rel => exact ⟨by rw [HSE.out], rfl⟩
      · have h5' : (kind == 5) = false := by simp [h5]
        have HSE : Shut (st = (kind == 6)) := ⟨by rw [HST.out]; simp [h5]⟩
        clear h5
        go_wp2_with fail
        go_meet
        case rel => exact ⟨by rw [HSE.out], rfl⟩
    case rest =>
      obtain ⟨rfl, rfl⟩ := hcut
      have HSTT := HST
      have hpr' : (path.toList == [47]) = pr := hpr.symm
      have hk3' : (kind == 3) = k3 := hk3.symm
      have hk3n : (kind != 3) = !k3 := by rw [hk3]; rfl
      have hte' : (dest.toList == []) = te := hte.symm
      have hten : (dest.toList != []) = !te := by rw [hte]; rfl
      clear hpr hk3 hte hst c0
      go_upto_region 6 with fail
      go_cut [68] from 37 to 68 (fun b wx => b = .bool ((!np && !(st && pr)) || (k3 != nt) || (!k3 && !te)) ∧ Shut (Below w.heap.size w wx ∧ WCells wx w.heap.size [.int .i64 kind, .string path, .string dest, .int .i64 num, .int .i64 who]))
      case first =>
        clear HR HST HSTT
        cases np with
        | true =>
          cases k3 with
          | true =>
            cases nt with
            | true =>
              refine wp_region_grow (by kernel_rfl) (by kernel_rfl) ?_
              repeat (go_big_quiet_step (first | (go_at_call 97; first | with_reducible exact HNP.out _ | with_reducible exact HNT.out _)))
              refine wpQuiet_nil ?_
              rintro _ ⟨X, rfl⟩
              go_wp2_with fail
              go_meet
              case rel => exact ⟨rfl, ⟨HW.out.1.trans (X.bel.mono HW.out.1.size), HW.out.2.grow X.bel⟩⟩
            | false =>
              refine wp_region_grow (by kernel_rfl) (by kernel_rfl) ?_
              repeat (go_big_quiet_step (first | (go_at_call 97; first | with_reducible exact HNP.out _ | with_reducible exact HNT.out _)))
              refine wpQuiet_nil ?_
              rintro _ ⟨X, rfl⟩
              go_wp2_with fail
              go_meet
              case rel => exact ⟨rfl, ⟨HW.out.1.trans (X.bel.mono HW.out.1.size), HW.out.2.grow X.bel⟩⟩
          | false =>
            cases nt with
            | true =>
              refine wp_region_grow (by kernel_rfl) (by kernel_rfl) ?_
              repeat (go_big_quiet_step (first | (go_at_call 97; first | with_reducible exact HNP.out _ | with_reducible exact HNT.out _)))
              refine wpQuiet_nil ?_
              rintro _ ⟨X, rfl⟩
              go_wp2_with fail
              go_meet
              case rel => exact ⟨rfl, ⟨HW.out.1.trans (X.bel.mono HW.out.1.size), HW.out.2.grow X.bel⟩⟩
            | false =>
              cases te with
              | true =>
                refine wp_region_grow (by kernel_rfl) (by kernel_rfl) ?_
                repeat (go_big_quiet_step (first | (go_at_call 97; first | with_reducible exact HNP.out _ | with_reducible exact HNT.out _)))
                refine wpQuiet_nil ?_
                rintro _ ⟨X, rfl⟩
                go_wp2_with fail
                go_meet
                case rel => exact ⟨rfl, ⟨HW.out.1.trans (X.bel.mono HW.out.1.size), HW.out.2.grow X.bel⟩⟩
              | false =>
                refine wp_region_grow (by kernel_rfl) (by kernel_rfl) ?_
                repeat (go_big_quiet_step (first | (go_at_call 97; first | with_reducible exact HNP.out _ | with_reducible exact HNT.out _)))
                refine wpQuiet_nil ?_
                rintro _ ⟨X, rfl⟩
                go_wp2_with fail
                go_meet
                case rel => exact ⟨rfl, ⟨HW.out.1.trans (X.bel.mono HW.out.1.size), HW.out.2.grow X.bel⟩⟩
        | false =>
          cases st with
          | true =>
            cases pr with
            | true =>
              cases k3 with
              | true =>
                cases nt with
                | true =>
                  refine wp_region_grow (by kernel_rfl) (by kernel_rfl) ?_
                  repeat (go_big_quiet_step (first | (go_at_call 97; first | with_reducible exact HNP.out _ | with_reducible exact HNT.out _)))
                  refine wpQuiet_nil ?_
                  rintro _ ⟨X, rfl⟩
                  go_wp2_with fail
                  go_meet
                  case rel => exact ⟨rfl, ⟨HW.out.1.trans (X.bel.mono HW.out.1.size), HW.out.2.grow X.bel⟩⟩
                | false =>
                  refine wp_region_grow (by kernel_rfl) (by kernel_rfl) ?_
                  repeat (go_big_quiet_step (first | (go_at_call 97; first | with_reducible exact HNP.out _ | with_reducible exact HNT.out _)))
                  refine wpQuiet_nil ?_
                  rintro _ ⟨X, rfl⟩
                  go_wp2_with fail
                  go_meet
                  case rel => exact ⟨rfl, ⟨HW.out.1.trans (X.bel.mono HW.out.1.size), HW.out.2.grow X.bel⟩⟩
              | false =>
                cases nt with
                | true =>
                  refine wp_region_grow (by kernel_rfl) (by kernel_rfl) ?_
                  repeat (go_big_quiet_step (first | (go_at_call 97; first | with_reducible exact HNP.out _ | with_reducible exact HNT.out _)))
                  refine wpQuiet_nil ?_
                  rintro _ ⟨X, rfl⟩
                  go_wp2_with fail
                  go_meet
                  case rel => exact ⟨rfl, ⟨HW.out.1.trans (X.bel.mono HW.out.1.size), HW.out.2.grow X.bel⟩⟩
                | false =>
                  cases te with
                  | true =>
                    refine wp_region_grow (by kernel_rfl) (by kernel_rfl) ?_
                    repeat (go_big_quiet_step (first | (go_at_call 97; first | with_reducible exact HNP.out _ | with_reducible exact HNT.out _)))
                    refine wpQuiet_nil ?_
                    rintro _ ⟨X, rfl⟩
                    go_wp2_with fail
                    go_meet
                    case rel => exact ⟨rfl, ⟨HW.out.1.trans (X.bel.mono HW.out.1.size), HW.out.2.grow X.bel⟩⟩
                  | false =>
                    refine wp_region_grow (by kernel_rfl) (by kernel_rfl) ?_
                    repeat (go_big_quiet_step (first | (go_at_call 97; first | with_reducible exact HNP.out _ | with_reducible exact HNT.out _)))
                    refine wpQuiet_nil ?_
                    rintro _ ⟨X, rfl⟩
                    go_wp2_with fail
                    go_meet
                    case rel => exact ⟨rfl, ⟨HW.out.1.trans (X.bel.mono HW.out.1.size), HW.out.2.grow X.bel⟩⟩
            | false =>
              refine wp_region_grow (by kernel_rfl) (by kernel_rfl) ?_
              repeat (go_big_quiet_step (first | (go_at_call 97; first | with_reducible exact HNP.out _ | with_reducible exact HNT.out _)))
              refine wpQuiet_nil ?_
              rintro _ ⟨X, rfl⟩
              go_wp2_with fail
              go_meet
              case rel => exact ⟨rfl, ⟨HW.out.1.trans (X.bel.mono HW.out.1.size), HW.out.2.grow X.bel⟩⟩
          | false =>
            refine wp_region_grow (by kernel_rfl) (by kernel_rfl) ?_
            repeat (go_big_quiet_step (first | (go_at_call 97; first | with_reducible exact HNP.out _ | with_reducible exact HNT.out _)))
            refine wpQuiet_nil ?_
            rintro _ ⟨X, rfl⟩
            go_wp2_with fail
            go_meet
            case rel => exact ⟨rfl, ⟨HW.out.1.trans (X.bel.mono HW.out.1.size), HW.out.2.grow X.bel⟩⟩
      case rest =>
        obtain ⟨rfl, hV⟩ := hcut
        clear g0 g1 g2 HNP HNT HNPC HNTC HW HST HSTT lw hpr' hk3' hk3n hte' hten
        generalize ((!np && !(st && pr)) || (k3 != nt) || (!k3 && !te)) = bd at *
        have c0 := (hV.out.2.2 0 _ rfl).1
        have c3 := (hV.out.2.2 3 _ rfl).1
        have c4 := (hV.out.2.2 4 _ rfl).1
        cases bd with
        | true =>
          have HF : Shut (R = false) := ⟨by rw [HR.out]; rfl⟩
          clear HR
          go_wp2_with fail
          go_ret
          exact ⟨by rw [HF.out]; rfl, hV.out.1⟩
        | false =>
          by_cases k5 : kind = 5
          · have HRR : Shut (R = (inI num 1 3 && (who == 0))) := ⟨by rw [HR.out]; simp [k5]⟩
            subst k5
            clear HR
            go_wp2_with (go_at_call 80; refine (HIN.out _ _ _ _).mono ?_; rintro r w1 ⟨rfl, rfl⟩)
            all_goals
              go_ret
              exact ⟨by rw [HRR.out]; simp [*], hV.out.1⟩
          by_cases k6 : kind = 6
          · have HRR : Shut (R = (inI num 0 1000 && (who == 0))) := ⟨by rw [HR.out]; simp [k6]⟩
            subst k6
            clear HR
            go_wp2_with (go_at_call 80; refine (HIN.out _ _ _ _).mono ?_; rintro r w1 ⟨rfl, rfl⟩)
            all_goals
              go_ret
              exact ⟨by rw [HRR.out]; simp [*], hV.out.1⟩
          by_cases k7 : kind = 7
          · have HRR : Shut (R = (inI num 1 200 && (who == 0))) := ⟨by rw [HR.out]; simp [k7]⟩
            subst k7
            clear HR
            go_wp2_with (go_at_call 80; refine (HIN.out _ _ _ _).mono ?_; rintro r w1 ⟨rfl, rfl⟩)
            all_goals
              go_ret
              exact ⟨by rw [HRR.out]; simp [*], hV.out.1⟩
          by_cases k2 : kind = 2
          · have HRR : Shut (R = ((num == 0) && inI who 1 9)) := ⟨by rw [HR.out]; simp [k2]⟩
            subst k2
            clear HR
            go_wp2_with (go_at_call 80; refine (HIN.out _ _ _ _).mono ?_; rintro r w1 ⟨rfl, rfl⟩)
            all_goals
              go_ret
              exact ⟨by rw [HRR.out]; simp [*], hV.out.1⟩
          by_cases k9 : kind = 9
          · have HRR : Shut (R = ((num == 0) && inI who 1 9)) := ⟨by rw [HR.out]; simp [k9]⟩
            subst k9
            clear HR
            go_wp2_with (go_at_call 80; refine (HIN.out _ _ _ _).mono ?_; rintro r w1 ⟨rfl, rfl⟩)
            all_goals
              go_ret
              exact ⟨by rw [HRR.out]; simp [*], hV.out.1⟩
          have HRR : Shut (R = ((num == 0) && (who == 0))) := ⟨by rw [HR.out]; simp [k5, k6, k7, k2, k9]⟩
          clear HR
          have j5 : (kind == 5) = false := by simp [k5]
          have j6 : (kind == 6) = false := by simp [k6]
          have j7 : (kind == 7) = false := by simp [k7]
          have j2 : (kind == 2) = false := by simp [k2]
          have j9 : (kind == 9) = false := by simp [k9]
          clear k5 k6 k7 k2 k9
          go_wp2_with (go_at_call 80; refine (HIN.out _ _ _ _).mono ?_; rintro r w1 ⟨rfl, rfl⟩)
          all_goals
            go_ret
            exact ⟨by rw [HRR.out]; simp [*], hV.out.1⟩
end Go.Proofs.YthfmjjaollekiaaGreat
/- GrwB: A region that draws its order, some of whose operations make memory: what answers one value in every later world is taken first, calls that only make memory too. The way of the proof is that of the library's Derived.OrdersHeld, which is imported; the class of worlds is ours. -/
namespace Go.Proofs.YthfmjjaollekiaaGreat
set_option maxRecDepth 100000
open Go.RowKit

/-- A later world: more memory, what was there untouched. -/
def Later (w w' : World) : Prop := Below w.heap.size w w'
theorem Later.refl (w : World) : Later w w := Below.refl _ _
theorem Later.trans {a b c : World} (h : Later a b) (g : Later b c) : Later a c := Below.trans h (Below.mono g (Below.size h))
section
variable {P : Program} {ops : Array Oper} {Q : Exit → Act → World → Prop} {md : Region.Mode}
/-- Whatever order is picked from here on, in whatever later world. -/
def wpL (P : Program) (md : Region.Mode) (ops : Array Oper) (Q : Exit → Act → World → Prop) : Nat → Array Bool → Act → World → Prop
  | 0, l, a, w => Region.ready md ops l = [] ∧ ∀ x, Later w x → Q .normal a x
  | n + 1, l, a, w => ∀ x, Later w x → (Region.ready md ops l = [] → Q .normal a x) ∧
      ∀ i ∈ Region.ready md ops l, wpOp P ops Q i (fun a' y => Later x y ∧ wpL P md ops Q n (l.setIfInBounds i true) a' y) a x
theorem wpL_later : ∀ (n : Nat) (l : Array Bool) (a : Act) (w y : World), Later w y → wpL P md ops Q n l a w → wpL P md ops Q n l a y
  | 0, _, _, _, _, hy, h => ⟨h.1, fun x hx => h.2 x (hy.trans hx)⟩
  | _ + 1, _, _, _, _, hy, h => fun x hx => h x (hy.trans hx)
theorem wpAny_of_L : ∀ (n : Nat) (l : Array Bool) (a : Act) (w : World), wpL P md ops Q n l a w → wpAny P md ops Q n l a w
  | 0, _, _, w, h => ⟨h.1, h.2 w (Later.refl w)⟩
  | n + 1, _, _, w, h => ⟨(h w (Later.refl w)).1, fun i hi => wpOp_mono (fun a' y hh => wpAny_of_L n _ a' y hh.2) ((h w (Later.refl w)).2 i hi)⟩
/-- One value, in every later world; a call may make memory. -/
def YL (P : Program) (ops : Array Oper) (o : Oper) (v : Value) (a : Act) (w : World) : Prop :=
  (Region.wanted o (yielded ops a.tmps) = true ∧ ∀ x, Later w x → o.quietAt P a (Later x) x v) ∨ (Region.wanted o (yielded ops a.tmps) = false ∧ v = undef)
theorem YL.later {o : Oper} {v : Value} {a : Act} {w y : World} (h : YL P ops o v a w) (hy : Later w y) : YL P ops o v a y :=
  h.imp (fun q => ⟨q.1, fun x hx => q.2 x (hy.trans hx)⟩) id
theorem YL.same {o : Oper} {v : Value} {a b : Act} {w : World} (h : YL P ops o v a w) (he : execOp b.eval o = execOp a.eval o) (hw : Region.wanted o (yielded ops b.tmps) = Region.wanted o (yielded ops a.tmps)) : YL P ops o v b w := by
  unfold YL Oper.quietAt at *
  rw [he, hw]
  exact h
theorem YL.op {i : Nat} {o : Oper} {v : Value} {a : Act} {w x : World} {K : Act → World → Prop} (hi : ops[i]? = some o) (h : YL P ops o v a w) (hx : Later w x) (hk : ∀ y, Later x y → K (a.put o.dst v) y) : wpOp P ops Q i K a x := by
  unfold wpOp
  rw [hi]
  dsimp only
  rcases h with ⟨hw, hq⟩ | ⟨hw, hv⟩
  · rw [if_pos hw]
    refine Or.inl ?_
    have q := hq x hx
    unfold Oper.quietAt at q
    unfold Oper.wp
    revert q
    cases (execOp a.eval o).run P x with
    | halt _ _ => exact False.elim
    | ok r y =>
      cases r with
      | value u => rintro ⟨rfl, rfl⟩; exact hk _ (Later.refl _)
      | skip => rintro ⟨rfl, rfl⟩; exact hk _ (Later.refl _)
      | enter f args => rintro ⟨rfl, hc⟩; exact hc.mono (by rintro _ z ⟨rfl, hz⟩; exact hk _ hz)
      | _ => exact False.elim
  · rw [if_neg (by rw [hw]; exact Bool.false_ne_true), ← hv]
    exact hk _ (Later.refl _)
/-- What an operation may do to the frame: its own slot, or a call that is put off. -/
def Fr (d : Option Tmp) (a b : Act) : Prop := ∃ u, b = a.put d u ∨ ∃ f, b = { a with defers := f :: a.defers }.put d u
theorem op_frame {j : Nat} {oj : Oper} {K : Act → World → Prop} {a : Act} {x : World} (hj : ops[j]? = some oj) (h : wpOp P ops Q j K a x) : wpOp P ops Q j (fun b y => Fr oj.dst a b ∧ K b y) a x := by
  unfold wpOp at h ⊢
  rw [hj] at h ⊢
  dsimp only at h ⊢
  split
  · rename_i hw
    rw [if_pos hw] at h
    refine h.imp_left fun q => ?_
    unfold Oper.wp at q ⊢
    revert q
    cases (execOp a.eval oj).run P x with
    | halt r y => cases r <;> exact id
    | ok r y =>
      cases r with
      | value u => exact fun q => ⟨⟨u, .inl rfl⟩, q⟩
      | skip => exact fun q => ⟨⟨undef, .inl rfl⟩, q⟩
      | defer f => exact fun q => ⟨⟨undef, .inr ⟨f, rfl⟩⟩, q⟩
      | enter f args => exact fun q => Calls.mono q fun e z hz => by cases e <;> first | exact ⟨⟨_, .inl rfl⟩, hz⟩ | exact hz
      | row r args => exact fun q => Rows.mono q fun u z hz => ⟨⟨u, .inl rfl⟩, hz⟩
      | _ => exact id
  · rename_i hw
    rw [if_neg hw] at h
    exact ⟨⟨undef, .inl rfl⟩, h⟩
/-- An operation beside another that has its value already: the library's law for no world at all, and what the frame may be behind it. -/
theorem op_beside {j : Nat} {oi oj : Oper} {v : Value} {w : World} (hj : ops[j]? = some oj) (hap : oi.apart ops oj = true) (hsi : ∀ cs b, oi.op ≠ .select cs b) (hsj : ∀ cs b, oj.op ≠ .select cs b)
    (hQ : ∀ c a w, Q (.panic c) (a.put oi.dst v) w → Q (.panic c) a w) {K : Act → World → Prop} {a : Act} {x : World} (hy : YL P ops oi v a w) (h : wpOp P ops Q j K (a.put oi.dst v) x) :
    wpOp P ops Q j (fun a' y => YL P ops oi v a' w ∧ K (a'.put oi.dst v) y) a x := by
  have h3 := (Oper.apart_spec hap).2.2
  refine wpOp_mono ?_ (op_frame hj (wpOp_putIf (S := fun _ => False) hj hap hsi hsj hQ (hy.imp (fun q => ⟨q.1, fun _ hf => hf.elim⟩) id) h))
  rintro b y ⟨⟨u, rfl | ⟨f, rfl⟩⟩, -, hk⟩
  · exact ⟨hy.same (execOp_put oi hsi a oj.dst u h3) (wanted_put oi a oj.dst u h3), hk⟩
  · have q : YL P ops oi v { a with defers := f :: a.defers } w := hy.same rfl rfl
    exact ⟨q.same (execOp_put oi hsi _ oj.dst u h3) (wanted_put oi _ oj.dst u h3), hk⟩
/-- Who may come up waits for nobody who has not come up. -/
theorem ready_free {l : Array Bool} {i j : Nat} {oj : Oper} (hi : i ∈ Region.ready md ops l) (hj : j ∈ Region.ready md ops l) (ho : ops[j]? = some oj) : ∀ e ∈ oj.after, Region.binds md e = true → e.on ≠ i := by
  obtain ⟨-, o', ho', hall⟩ := mem_ready.1 hj
  obtain rfl : oj = o' := Option.some.inj (ho.symm.trans ho')
  rintro e he hb rfl
  have q := hall e he hb
  have z := (mem_ready.1 hi).1
  grind
theorem wpL_first {i : Nat} {oi : Oper} {v : Value} (hi : ops[i]? = some oi) (hsel : ∀ (j : Nat) (o : Oper) cs b, ops[j]? = some o → o.op ≠ .select cs b) (hQ : ∀ c a w, Q (.panic c) (a.put oi.dst v) w → Q (.panic c) a w) :
    ∀ (n : Nat) (l : Array Bool) (a : Act) (w : World), (∀ j oj, ops[j]? = some oj → j ≠ i → l.getD j true = false → (∀ e ∈ oj.after, Region.binds md e = true → e.on ≠ i) → oi.apart ops oj = true) →
      i ∈ Region.ready md ops l → YL P ops oi v a w → wpL P md ops Q n (l.setIfInBounds i true) (a.put oi.dst v) w → wpL P md ops Q (n + 1) l a w := by
  intro n
  induction n with
  | zero =>
    intro l a w _ hr hy H x hx
    refine ⟨fun h => (by rw [h] at hr; cases hr), fun j hj => ?_⟩
    by_cases hji : j = i
    · subst hji
      exact hy.op hi hx fun y hxy => ⟨hxy, wpL_later 0 _ _ _ _ (hx.trans hxy) H⟩
    · have q := ready_mono hj hji
      rw [H.1] at q
      cases q
  | succ n ih =>
    intro l a w hfree hr hy H x hx
    refine ⟨fun h => (by rw [h] at hr; cases hr), fun j hj => ?_⟩
    by_cases hji : j = i
    · subst hji
      exact hy.op hi hx fun y hxy => ⟨hxy, wpL_later (n + 1) _ _ _ _ (hx.trans hxy) H⟩
    · obtain ⟨hun, oj, hoj, -⟩ := mem_ready.1 hj
      have q := op_beside hoj (hfree j oj hoj hji hun (ready_free hr hj hoj)) (fun cs b => hsel i oi cs b hi) (fun cs b => hsel j oj cs b hoj) hQ hy ((H x hx).2 j (ready_mono hj hji))
      refine wpOp_mono (fun b y hb => ⟨hb.2.1, ih (l.setIfInBounds j true) b y (fun k ok hk hki hku hno => hfree k ok hk hki ?_ hno) (ready_mono hr (Ne.symm hji)) (hb.1.later (hx.trans hb.2.1)) ?_⟩) q
      · by_cases hjk : j = k
        · subst hjk; exact hun
        · rw [getD_set_ne true hjk] at hku; exact hku
      · rw [Array.setIfInBounds_comm _ _ hji]
        exact hb.2.2
theorem at_drop {L r : List Oper} {i : Nat} {o : Oper} (h : L.drop i = o :: r) : L.toArray[i]? = some o := by
  have q : (L.drop i)[0]? = some o := by rw [h]; rfl
  simpa using q
/-- Take number i: a value. -/
theorem wpL_val {L r : List Oper} {i : Nat} {oi : Oper} {v : Value} {n : Nat} {l : Array Bool} {a : Act} {w : World} (hi : L.drop i = oi :: r) (hs : Region.noSelect L.toArray = true) (hf : Region.free md L.toArray l i = true) (hr : (Region.ready md L.toArray l).contains i = true)
    (hQ : ∀ c a w, Q (.panic c) (a.put oi.dst v) w → Q (.panic c) a w) (hw : Region.wanted oi (yielded L.toArray a.tmps) = true) (hy : ∀ x, Later w x → (execOp a.eval oi).run P x = .ok (.value v) x)
    (h : wpL P md L.toArray Q n (l.setIfInBounds i true) (a.put oi.dst v) w) : wpL P md L.toArray Q (n + 1) l a w :=
  wpL_first (at_drop hi) (Region.noSelect_spec hs) hQ n l a w (Region.free_spec (at_drop hi) hf) (by simpa using hr) (Or.inl ⟨hw, fun x hx => by unfold Oper.quietAt; rw [hy x hx]; exact ⟨rfl, rfl⟩⟩) h
/-- Take number i: a call. -/
theorem wpL_call {L r : List Oper} {i : Nat} {oi : Oper} {v : Value} {f : FuncId} {args : Array Value} {n : Nat} {l : Array Bool} {a : Act} {w : World} (hi : L.drop i = oi :: r) (hs : Region.noSelect L.toArray = true) (hf : Region.free md L.toArray l i = true) (hr : (Region.ready md L.toArray l).contains i = true)
    (hQ : ∀ c a w, Q (.panic c) (a.put oi.dst v) w → Q (.panic c) a w) (hw : Region.wanted oi (yielded L.toArray a.tmps) = true) (hy : ∀ x, Later w x → (execOp a.eval oi).run P x = .ok (.enter f args) x)
    (hc : ∀ x, Later w x → Calls P f args x fun e y => e = .returned v ∧ Below x.heap.size x y)
    (h : wpL P md L.toArray Q n (l.setIfInBounds i true) (a.put oi.dst v) w) : wpL P md L.toArray Q (n + 1) l a w :=
  wpL_first (at_drop hi) (Region.noSelect_spec hs) hQ n l a w (Region.free_spec (at_drop hi) hf) (by simpa using hr) (Or.inl ⟨hw, fun x hx => by unfold Oper.quietAt; rw [hy x hx]; exact ⟨rfl, hc x hx⟩⟩) h
/-- One alone may come up: it is carried out in a later world. -/
theorem wpL_one {L r : List Oper} {i : Nat} {oi : Oper} {n : Nat} {l : Array Bool} {a : Act} {w : World} (hr : Region.ready md L.toArray l = [i]) (hi : L.drop i = oi :: r) (hw : Region.wanted oi (yielded L.toArray a.tmps) = true)
    (h : ∀ x, Later w x → ∃ (v : Value) (y : World), (execOp a.eval oi).run P x = .ok (.value v) y ∧ Later x y ∧ wpL P md L.toArray Q n (l.setIfInBounds i true) (a.put oi.dst v) y) : wpL P md L.toArray Q (n + 1) l a w := by
  intro x hx
  rw [hr]
  refine ⟨fun h => (by cases h), fun j hj => ?_⟩
  rw [List.mem_singleton] at hj
  subst hj
  obtain ⟨v, y, h1, h2, h3⟩ := h x hx
  unfold wpOp
  rw [at_drop hi]
  dsimp only
  rw [if_pos hw]
  refine Or.inl ?_
  unfold Oper.wp
  rw [h1]
  exact ⟨h2, h3⟩
theorem wpL_done {l : Array Bool} {a : Act} {w : World} (hr : Region.ready md ops l = []) (h : ∀ x, Later w x → Q .normal a x) : ∀ n, wpL P md ops Q n l a w
  | 0 => ⟨hr, h⟩
  | _ + 1 => fun x hx => ⟨fun _ => h x hx, by rw [hr]; simp⟩
theorem wp_region_later {id : Nat} {a : Act} {w : World} (hm : P.follows .mixedOrders = true) (h : wpL P .any ops Q ops.size (Array.replicate ops.size false) a w.drew) : (Code.region id ops true).wp P Q a w :=
  wp_region_any hm (wpAny_of_L _ _ _ _ h)
end
section
variable {P : Program} {Q : Exit → Act → World → Prop} {md : Region.Mode}
/-- One alone may come up, and its call panics. -/
theorem wpL_panics {L r : List Oper} {i : Nat} {oi : Oper} {f : FuncId} {args : Array Value} {chain : List PanicEntry} {n : Nat} {l : Array Bool} {a : Act} {w : World} (hr : Region.ready md L.toArray l = [i]) (hi : L.drop i = oi :: r) (hw : Region.wanted oi (yielded L.toArray a.tmps) = true)
    (hy : ∀ x, Later w x → (execOp a.eval oi).run P x = .ok (.enter f args) x) (hc : ∀ x, Later w x → Calls P f args x fun e y => e = .panicked chain ∧ Q (.panic chain) a y) : wpL P md L.toArray Q (n + 1) l a w := by
  intro x hx
  rw [hr]
  refine ⟨fun h => (by cases h), fun j hj => ?_⟩
  rw [List.mem_singleton] at hj
  subst hj
  unfold wpOp
  rw [at_drop hi]
  dsimp only
  rw [if_pos hw]
  refine Or.inl ?_
  unfold Oper.wp
  rw [hy x hx]
  exact (hc x hx).mono (by rintro e y ⟨rfl, hq⟩; exact hq)
end
section
variable {P : Program} {Q : Exit → Act → World → Prop} {md : Region.Mode}
/-- Take number i: it is not wanted. -/
theorem wpL_skip {L r : List Oper} {i : Nat} {oi : Oper} {n : Nat} {l : Array Bool} {a : Act} {w : World} (hi : L.drop i = oi :: r) (hs : Region.noSelect L.toArray = true) (hf : Region.free md L.toArray l i = true) (hr : (Region.ready md L.toArray l).contains i = true)
    (hQ : ∀ c a w, Q (.panic c) (a.put oi.dst undef) w → Q (.panic c) a w) (hw : Region.wanted oi (yielded L.toArray a.tmps) = false)
    (h : wpL P md L.toArray Q n (l.setIfInBounds i true) (a.put oi.dst undef) w) : wpL P md L.toArray Q (n + 1) l a w :=
  wpL_first (at_drop hi) (Region.noSelect_spec hs) hQ n l a w (Region.free_spec (at_drop hi) hf) (by simpa using hr) (Or.inr ⟨hw, rfl⟩) h
end
end Go.Proofs.YthfmjjaollekiaaGreat
/- EdD: The model's EditText. -/
namespace Go.Proofs.YthfmjjaollekiaaGreat
set_option maxRecDepth 100000
open Go.RowKit
attribute [local go_sem ↓] Go.wp_at_zero Go.wp_at_succ

/-- A number in bytes. -/
def vb (n : Nat) : ByteArray := ⟨(W.vt n).toArray⟩
/-- The text of a record. -/
def editT (e : EM) : ByteArray := ⟨#[UInt8.ofNat e.kind.toNat, UInt8.ofNat e.who.toNat]⟩ ++ vb e.path.size ++ e.path ++ vb e.dest.size ++ e.dest ++ vb e.num.toNat
/-- What is known of a right record's numbers. -/
theorem edit_nums {e : EM} (h : editOk e = true) : 1 ≤ e.kind ∧ e.kind ≤ 10 ∧ 0 ≤ e.who ∧ e.who ≤ 9 ∧ 0 ≤ e.num ∧ e.num ≤ 1000 := by
  unfold editOk at h
  rw [Bool.and_eq_true, inI_iff] at h
  obtain ⟨⟨h1, h2⟩, h3⟩ := h
  refine ⟨h1, h2, ?_⟩
  by_cases h10 : e.kind = 10
  · rw [if_pos h10] at h3
    simp only [Bool.and_eq_true, beq_iff_eq] at h3
    omega
  · rw [if_neg h10, Bool.and_eq_true] at h3
    have h4 := h3.2
    unfold numsOk at h4
    split at h4
    · rw [Bool.and_eq_true, inI_iff, beq_iff_eq] at h4; omega
    · split at h4
      · rw [Bool.and_eq_true, inI_iff, beq_iff_eq] at h4; omega
      · split at h4
        · rw [Bool.and_eq_true, inI_iff, beq_iff_eq] at h4; omega
        · split at h4
          · rw [Bool.and_eq_true, inI_iff, beq_iff_eq] at h4; omega
          · rw [Bool.and_eq_true, beq_iff_eq, beq_iff_eq] at h4; omega
theorem cell_ltE {w : World} {p : Addr} {v : Value} (h : w.cell? p = some v) : p.block < w.heap.size := by
  by_cases c : p.block < w.heap.size
  · exact c
  · exfalso
    unfold World.cell? at h
    rw [Array.getElem?_eq_none (by omega)] at h
    simp at h
/-- A record's cells, behind a world. -/
def EC (w0 : World) (b : Nat) (e : EM) (w : World) : Prop := w.cell? ⟨b, 0, none⟩ = some (.int .i64 e.kind) ∧ w.cell? ⟨b, 1, none⟩ = some (.string e.path) ∧ w.cell? ⟨b, 2, none⟩ = some (.string e.dest) ∧ w.cell? ⟨b, 3, none⟩ = some (.int .i64 e.num) ∧ w.cell? ⟨b, 4, none⟩ = some (.int .i64 e.who) ∧ Shut (Below w0.heap.size w0 w)
theorem EC.below {w0 : World} {b : Nat} {e : EM} {w w' : World} (h : EC w0 b e w) (hb : Below w.heap.size w w') : EC w0 b e w' :=
  ⟨(hb.cell (p := ⟨b, 0, none⟩) (cell_ltE h.1)).trans h.1, (hb.cell (p := ⟨b, 1, none⟩) (cell_ltE h.2.1)).trans h.2.1, (hb.cell (p := ⟨b, 2, none⟩) (cell_ltE h.2.2.1)).trans h.2.2.1, (hb.cell (p := ⟨b, 3, none⟩) (cell_ltE h.2.2.2.1)).trans h.2.2.2.1, (hb.cell (p := ⟨b, 4, none⟩) (cell_ltE h.2.2.2.2.1)).trans h.2.2.2.2.1, ⟨h.2.2.2.2.2.out.trans (hb.mono h.2.2.2.2.2.out.size)⟩⟩
theorem EC.alloc {w0 : World} {b : Nat} {e : EM} {w : World} (h : EC w0 b e w) (o : Obj) : EC w0 b e (w.alloc o) := h.below ((Below.refl _ _).alloc (Nat.le_refl _) o)
theorem EC.drew {w0 : World} {b : Nat} {e : EM} {w : World} (h : EC w0 b e w) : EC w0 b e w.drew := h.below (Below.drew (Below.refl _ _))
theorem two_cells (w : World) (b : Nat) (c1 c2 : UInt8) (h0 : w.cell? ⟨b, 0, none⟩ = some (.int .u8 (c1.toNat : Int))) (h1 : w.cell? ⟨b, 1, none⟩ = some (.int .u8 (c2.toNat : Int))) : (convert 22 9 (.slice (some ⟨b, 0, none⟩) 2 2)).run Tryz.prog w = .ok (.string ⟨#[c1, c2]⟩) w := by
  refine run_convert_bytes_back _ 22 9 5 ⟨b, 0, none⟩ 2 [c1, c2] Tryz.underlying22 Tryz.underlying5 Tryz.underlying9 (fun j hj => ?_)
  have e : (⟨b, 0, none⟩ : Addr).add j = ⟨b, j, none⟩ := by cases j <;> simp [Addr.add]
  rw [e]
  match j, hj with
  | 0, _ => exact h0
  | 1, _ => exact h1
theorem two_later (x y : World) (c1 c2 : UInt8) (hy : Later (x.alloc (.cells #[.int .u8 (c1.toNat : Int), .int .u8 (c2.toNat : Int)] 5)) y) : (convert 22 9 (.slice (some ⟨x.heap.size, 0, none⟩) 2 2)).run Tryz.prog y = .ok (.string ⟨#[c1, c2]⟩) y :=
  two_cells _ _ c1 c2 ((Below.cell hy (p := ⟨x.heap.size, 0, none⟩) (by simp)).trans (by rw [World.cell?_alloc_mark]; rfl)) ((Below.cell hy (p := ⟨x.heap.size, 1, none⟩) (by simp)).trans (by rw [World.cell?_alloc_mark]; rfl))
theorem u8_byte (x : Int) (h0 : 0 ≤ x) (h1 : x < 256) : IntKind.u8.wrap x = ((UInt8.ofNat x.toNat).toNat : Int) := by
  rw [IntKind.wrap_u8]
  simp
  omega
end Go.Proofs.YthfmjjaollekiaaGreat
/- DrEdA: Draws of records: what is kept while one is made. -/
namespace Go.Proofs.YthfmjjaollekiaaGreat
set_option maxRecDepth 100000
open Go.RowKit
attribute [local go_sem ↓] Go.wp_at_zero Go.wp_at_succ

theorem Cur.other {w : World} {g B len cap : Nat} {a : Option Addr} (h : Cur w g B a len cap) (p : Addr) (v : Value) (hp : p.block ≠ g) (hB : B ≤ p.block) : Cur (w.setCell p v) g B a len cap := by
  obtain ⟨h1, h2, h3, h4, ⟨i, h5, h5'⟩, ⟨k, h6⟩, h7⟩ := h
  have hblk : ∀ q, q ≠ p.block → (w.setCell p v).heap[q]? = w.heap[q]? := fun q hq => Below.heap_setCell _ _ _ _ hq
  have hb : Below 0 w (w.setCell p v) := (Below.refl _ _).setCell (Nat.zero_le _) v
  refine ⟨h1, Nat.lt_of_lt_of_le h2 hb.size, ⟨h3.1, fun hp' => ?_⟩, (World.cell?_of_block (a := ⟨g, 0, none⟩) (hblk g (Ne.symm hp))).trans h4, ⟨i, (World.cell?_of_block (a := ⟨g, 1, none⟩) (hblk g (Ne.symm hp))).trans h5, h5'⟩, ⟨k, (World.cell?_of_block (a := ⟨g, 2, none⟩) (hblk g (Ne.symm hp))).trans h6⟩, fun j hj => (World.frozen?_of_block (a := ⟨g, j, none⟩) (hblk g (Ne.symm hp))).trans (h7 j hj)⟩
  obtain ⟨b, off, e, hbB, hx⟩ := h3.2 hp'
  exact ⟨b, off, e, hbB, fun j hj => (hx j hj).imp fun x hx => ⟨(World.cell?_of_block (a := ⟨b, off + j, none⟩) (hblk b (by omega))).trans hx.1, hx.2⟩⟩
/-- Numbers that were laid into a new row. -/
theorem new_ints (w : World) (t : TypeId) (L : List Int) (j : Nat) (hj : j < L.length) :
    ∃ y : Int, (w.alloc (.cells (L.map (Value.int .i64 ·)).toArray t)).cell? ⟨w.heap.size, j, none⟩ = some (.int .i64 y) := by
  rw [World.cell?_alloc_mark]
  exact ⟨L[j], by simp [hj]⟩
/-- A record that was drawn: its texts are short, and no z is in them. -/
def EPl (e : EM) : Prop := (e.path.size ≤ 16 ∧ noZ e.path = true) ∧ (e.dest.size ≤ 16 ∧ noZ e.dest = true)
theorem EPl.fit {e : EM} (h : EPl e) : EFit e := ⟨Nat.le_trans h.1.1 (by omega), Nat.le_trans h.2.1 (by omega)⟩
/-- A record in the making: the cursor, the answer's box, the record's box. -/
structure DE (w0 w : World) (g B : Nat) (a : Option Addr) (len cap A E : Nat) (X : EM) : Prop where
  cur : Cur w g B a len cap
  ans : WCells w A (ecells zeroE)
  box : WCells w E (ecells X)
  gr : w0.grownBy w (some g)
  ne : A ≠ E
  hA : w0.heap.size ≤ A
  hE : w0.heap.size ≤ E
  hg : g < w0.heap.size
  pl : EPl X
theorem DE.turn {w0 w w' : World} {g B len cap A E : Nat} {a : Option Addr} {X : EM} (h : DE w0 w g B a len cap A E X) (hc : Cur w' g B a len cap) (hg : w.grownBy w' (some g)) : DE w0 w' g B a len cap A E X :=
  ⟨hc, h.ans.apart hg (by have := h.hA; have := h.hg; omega), h.box.apart hg (by have := h.hE; have := h.hg; omega), gb_two h.gr hg, h.ne, h.hA, h.hE, h.hg, h.pl⟩
theorem gb_fresh {w0 w : World} {g : Nat} (h : w0.grownBy w (some g)) (p : Addr) (v : Value) (hp : w0.heap.size ≤ p.block) : w0.grownBy (w.setCell p v) (some g) := by
  have hb : Below 0 w (w.setCell p v) := (Below.refl _ _).setCell (Nat.zero_le _) v
  exact ⟨hb.os.trans h.os, hb.tape.trans h.tape, hb.output.trans h.output, Nat.le_trans h.size hb.size, fun k hk hn => (Below.heap_setCell _ _ _ _ (by omega)).trans (h.block k hk hn)⟩
theorem DE.set {w0 w : World} {g B len cap A E : Nat} {a : Option Addr} {X : EM} (h : DE w0 w g B a len cap A E X) (i : Nat) (v : Value) (Y : EM) (hi : i < 5) (hz : (ecells X).set i v = ecells Y) (hp : EPl Y) : DE w0 (w.setCell ⟨E, i, none⟩ v) g B a len cap A E Y :=
  ⟨h.cur.other _ _ (by have := h.hE; have := h.hg; show E ≠ g; omega) (by have := h.hE; have := h.hg; have := h.cur.1; show B ≤ E; omega), h.ans.other _ _ h.ne, by rw [← hz]; exact h.box.set i v (by rw [ecells_len]; exact hi), gb_fresh h.gr _ _ h.hE, h.ne, h.hA, h.hE, h.hg, hp⟩
theorem DE.got {w0 w : World} {g B len cap A E : Nat} {a : Option Addr} {X : EM} (h : DE w0 w g B a len cap A E X) : w.cell? ⟨E, 0, none⟩ = some (.int .i64 X.kind) ∧ w.cell? ⟨E, 1, none⟩ = some (.string X.path) ∧ w.cell? ⟨E, 2, none⟩ = some (.string X.dest) ∧ w.cell? ⟨E, 3, none⟩ = some (.int .i64 X.num) ∧ w.cell? ⟨E, 4, none⟩ = some (.int .i64 X.who) :=
  ⟨(h.box.2 0 _ rfl).1, (h.box.2 1 _ rfl).1, (h.box.2 2 _ rfl).1, (h.box.2 3 _ rfl).1, (h.box.2 4 _ rfl).1⟩
theorem DE.may {w0 w : World} {g B len cap A E : Nat} {a : Option Addr} {X : EM} (h : DE w0 w g B a len cap A E X) : w.frozen? ⟨E, 0, none⟩ = false ∧ w.frozen? ⟨E, 1, none⟩ = false ∧ w.frozen? ⟨E, 2, none⟩ = false ∧ w.frozen? ⟨E, 3, none⟩ = false ∧ w.frozen? ⟨E, 4, none⟩ = false :=
  ⟨(h.box.2 0 _ rfl).2, (h.box.2 1 _ rfl).2, (h.box.2 2 _ rfl).2, (h.box.2 3 _ rfl).2, (h.box.2 4 _ rfl).2⟩
theorem DE.room {w0 w : World} {g B len cap A E : Nat} {a : Option Addr} {X : EM} (h : DE w0 w g B a len cap A E X) : (w.cell? ⟨A, 0, none⟩ = some (.int .i64 0) ∧ w.frozen? ⟨A, 0, none⟩ = false) ∧ (w.cell? ⟨A, 1, none⟩ = some (.string ⟨#[]⟩) ∧ w.frozen? ⟨A, 1, none⟩ = false) ∧ (w.cell? ⟨A, 2, none⟩ = some (.string ⟨#[]⟩) ∧ w.frozen? ⟨A, 2, none⟩ = false) ∧ (w.cell? ⟨A, 3, none⟩ = some (.int .i64 0) ∧ w.frozen? ⟨A, 3, none⟩ = false) ∧ (w.cell? ⟨A, 4, none⟩ = some (.int .i64 0) ∧ w.frozen? ⟨A, 4, none⟩ = false) :=
  ⟨h.ans.2 0 _ rfl, h.ans.2 1 _ rfl, h.ans.2 2 _ rfl, h.ans.2 3 _ rfl, h.ans.2 4 _ rfl⟩
/-- What a draw of a record answers. -/
def EdDrawn (w : World) (g B : Nat) (a : Option Addr) (len cap : Nat) (e : Ending) (w' : World) : Prop :=
  ∃ X : EM, e = .returned (ev X) ∧ EPl X ∧ Cur w' g B a len cap ∧ w.grownBy w' (some g)
theorem DE.done {w0 w : World} {g B len cap A E : Nat} {a : Option Addr} {X : EM} (h : DE w0 w g B a len cap A E X) : EPl X ∧ WCells (put5 w A X) A (ecells X) ∧ Cur (put5 w A X) g B a len cap ∧ w0.grownBy (put5 w A X) (some g) := by
  have hAg : A ≠ g := by have := h.hA; have := h.hg; omega
  have hBA : B ≤ A := by have := h.hA; have := h.hg; have := h.cur.1; omega
  refine ⟨h.pl, ?_, ?_, ?_⟩
  · exact ((((h.ans.set 0 (.int .i64 X.kind) (by simp [ecells])).set 1 (.string X.path) (by simp [ecells])).set 2 (.string X.dest) (by simp [ecells])).set 3 (.int .i64 X.num) (by simp [ecells])).set 4 (.int .i64 X.who) (by simp [ecells])
  · exact ((((h.cur.other ⟨A, 0, none⟩ _ hAg hBA).other ⟨A, 1, none⟩ _ hAg hBA).other ⟨A, 2, none⟩ _ hAg hBA).other ⟨A, 3, none⟩ _ hAg hBA).other ⟨A, 4, none⟩ _ hAg hBA
  · exact gb_fresh (gb_fresh (gb_fresh (gb_fresh (gb_fresh h.gr ⟨A, 0, none⟩ _ h.hA) ⟨A, 1, none⟩ _ h.hA) ⟨A, 2, none⟩ _ h.hA) ⟨A, 3, none⟩ _ h.hA) ⟨A, 4, none⟩ _ h.hA
end Go.Proofs.YthfmjjaollekiaaGreat
/- LkN: The program's own TreeNew. -/
namespace Go.Proofs.YthfmjjaollekiaaGreat
set_option maxRecDepth 100000
open Go.RowKit
attribute [local go_sem ↓] Go.wp_at_zero Go.wp_at_succ

set_option maxRecDepth 100000 in
set_option maxHeartbeats 2000000 in
theorem implTreeNew (w : World) : Calls Tryz.prog 22 #[] w fun e w' => TrPost newX w e w' := by
  go_enter Tryz.func22, Tryz.ntmps22
  go_wp2_with fail
  refine body_shade (fun W => WCells W w.heap.size [.slice (some ⟨w.heap.size + 1, 0, none⟩) 1 1, .int .i64 2] ∧ WCells W (w.heap.size + 1) (ncells newR) ∧ Below w.heap.size w W) ⟨(wcells_new w #[.slice (some ⟨w.heap.size + 1, 0, none⟩) 1 1, .int .i64 2] 26).alloc _, ?h2, ((Below.refl _ _).alloc (Nat.le_refl _) _).alloc (by simp) _⟩ ?_
  case h2 =>
    have := wcells_new (w.alloc (.cells #[.slice (some ⟨w.heap.size + 1, 0, none⟩) 1 1, .int .i64 2] 26)) (ncells newR).toArray 31
    rw [show (w.alloc (.cells #[.slice (some ⟨w.heap.size + 1, 0, none⟩) 1 1, .int .i64 2] 26)).heap.size = w.heap.size + 1 by simp] at this
    exact this
  rintro W ⟨h1, h2, hb⟩
  have x0 := (h1.2 0 _ rfl).1
  have x1 := (h1.2 1 _ rfl).1
  refine bodyPost_ret (v := .agg #[.slice (some ⟨w.heap.size + 1, 0, none⟩) 1 1, .int .i64 2]) (by simp [results, Tryz.results22, go_sem, x0, x1]) rfl ⟨_, rfl, ⟨_, 1, [newR], rfl, rfl, Nat.le_refl _, .inr ⟨_, rfl, ?_⟩⟩, hb⟩
  exact ⟨by simpa [NK.cells] using h2, by omega, h2.1, fun r hr => .inl (by rw [List.mem_singleton.1 hr]; rfl), by simp⟩
end Go.Proofs.YthfmjjaollekiaaGreat
/- LawPth: The walks of the exact laws over paths, over what is told of the program's own functions at every argument (first written by gen/mklawpath.py). -/
namespace Go.Proofs.YthfmjjaollekiaaGreat
set_option maxRecDepth 100000
open Go.RowKit
attribute [local irreducible] nameB splitB joinB parentB tsum

/-- What an answer of texts and a flag is. -/
def TPost9 (R : List ByteArray × Bool) (w : World) (e : Ending) (w' : World) : Prop := ∃ v, e = .returned (.tuple #[v, .bool R.2]) ∧ OAns w' v R.1 w.heap.size w'.heap.size ∧ Below w.heap.size w w'
theorem OPost.tp {R : List ByteArray × Bool} {w w' : World} {e : Ending} (h : OPost R w e w') : TPost9 R w e w' := by
  obtain ⟨v, he, ho, hb⟩ := h
  exact ⟨v, he, (own_sans rfl ho).oans, hb⟩
theorem QPost.tp {R : List ByteArray × Bool} {w w' : World} {e : Ending} (h : QPost R w e w') : TPost9 R w e w' := by
  obtain ⟨v, he, ho, hb⟩ := h
  exact ⟨v, he, ho.oans, hb⟩
theorem same_toList (x : ByteArray) : (x.toList != x.toList) = false := by simp
end Go.Proofs.YthfmjjaollekiaaGreat
/- FrT: The laws' own comparison of two rows of texts. -/
namespace Go.Proofs.YthfmjjaollekiaaGreat
set_option maxRecDepth 100000
open Go.RowKit

end Go.Proofs.YthfmjjaollekiaaGreat
/- OpenC: The code that a drawn law is handed: what came in. -/
namespace Go.Proofs.YthfmjjaollekiaaGreat
set_option maxRecDepth 100000
open Go.RowKit Go.ChangeShapes Go.WideShapes
set_option maxRecDepth 100000 in
theorem open_code {H : Type} {enc : TypeId × Value → H} {W : World} {r : Reach} {b0 base : Nat} {held : Bool} {v : Value} {d : DataW H} {p : List MemPlace}
    (hv : Value.okWide Tryz.prog W r b0 22 v) (h : DataW.Trod enc Tryz.prog W base (fun _ => true) held 22 v d p) : ∃ a len cap, v = .slice a len cap ∧ (len ≤ 1048576 → CodeAt W W.heap.size a len) := by
  obtain ⟨a0, l0, c0, rfl⟩ := okWide_slice Tryz.underlying22 hv
  refine ⟨a0, l0, c0, rfl, fun hl => ?_⟩
  obtain ⟨fuel, hf⟩ := h
  rcases open_ints Tryz.underlying22 Tryz.underlying5 (by kernel_rfl) hf with ⟨hcs, _⟩ | ⟨x, l, c, zs, hcs, _, hl', hm, hz, _, hcell, hwz⟩
  · simp [Value.cells] at hcs
    obtain ⟨rfl, rfl, rfl⟩ := hcs
    exact code_at (cap := 0) (zs := []) hl (.inl ⟨rfl, rfl⟩)
  · simp [Value.cells] at hcs
    obtain ⟨rfl, rfl, rfl⟩ := hcs
    exact code_at (cap := c0) (zs := zs) hl (.inr ⟨_, rfl, hl', by simpa using hz, hcell, hwz⟩)
end Go.Proofs.YthfmjjaollekiaaGreat
/- LawPts: The walk of the law over paths, over what is told of the program's own functions. -/
namespace Go.Proofs.YthfmjjaollekiaaGreat
set_option maxRecDepth 100000
open Go.RowKit
attribute [local go_sem ↓] Go.wp_at_zero Go.wp_at_succ

structure PathsAll : Prop where
  name : ∀ (t : ByteArray) (w : World), t.size ≤ 1048576 → Calls Tryz.prog 114 #[.string t] w fun e w' => e = .returned (.bool (nameB t)) ∧ Below w.heap.size w w'
  split : ∀ (t : ByteArray) (w : World), t.size ≤ 1048576 → Calls Tryz.prog 67 #[.string t] w fun e w' => QPost (splitB t) w e w'
  join : ∀ (w : World) (u : Value) (L : List ByteArray) (lo hi : Nat), CSee w u L lo hi → TFit L → Calls Tryz.prog 66 #[u] w fun e w' => e = .returned (.string (joinB L)) ∧ Below w.heap.size w w'
  parent : ∀ (t : ByteArray) (w : World), t.size ≤ 1048576 → Calls Tryz.prog 179 #[.string t] w fun e w' => ParPost t w e w'
theorem eq_toList (x : ByteArray) : (x.toList == x.toList) = true := by simp
theorem slash_toList : ((⟨#[47]⟩ : ByteArray).toList == [47]) = true := by rw [Go.ByteArray.toList_eq]; rfl
theorem none_toList : ((⟨#[]⟩ : ByteArray).toList == []) = true := by rw [Go.ByteArray.toList_eq]; rfl
theorem join_size {I : List ByteArray} (h : TFit I) : (joinB I).size ≤ 1048576 := by
  by_cases e : I = []
  · subst e; decide
  · rw [joinB_ne e, joinA_size]; exact h
end Go.Proofs.YthfmjjaollekiaaGreat
/- PaL: The program's own JoinPath and ParentPath; all four together. -/
namespace Go.Proofs.YthfmjjaollekiaaGreat
set_option maxRecDepth 100000
open Go.RowKit
open Go.PlainAid (bt)
attribute [local go_sem ↓] Go.wp_at_zero Go.wp_at_succ

theorem lib_join (L : List (List UInt8)) : (47 :: Lib.join L [47]) = joinP L := by
  cases L with
  | nil => rfl
  | cons x L =>
    unfold joinP
    rw [if_neg (by simp)]
    induction L generalizing x with
    | nil => simp [Lib.join]
    | cons y L ih =>
      have := ih y
      simp only [List.map_cons, List.flatten_cons, List.cons_append, List.cons.injEq, true_and] at this ⊢
      rw [← this]
      simp [Lib.join]
theorem joinP_len (L : List ByteArray) (h : TFit L) : (Lib.join (L.map lb) [47]).length ≤ 2097152 := by
  have e := congrArg List.length (lib_join (L.map lb))
  have := join_size h
  have hb : (joinB L).size = (joinP (L.map lb)).length := by
    unfold joinB
    show (joinP (L.map lb)).toArray.size = _
    simp
  rw [List.length_cons] at e
  omega
set_option maxRecDepth 100000 in
set_option maxHeartbeats 1000000 in
theorem implJoinPath (w : World) (u : Value) (L : List ByteArray) (lo hi : Nat) (hu : CSee w u L lo hi) (hf : TFit L) : Calls Tryz.prog 66 #[u] w fun e w' => e = .returned (.string (joinB L)) ∧ Below w.heap.size w w' := by
  obtain ⟨a, cap, rfl, hc, hr⟩ := hu
  have hjl := joinP_len L hf
  have HJ : Shut (joinB L = (⟨#[47]⟩ : ByteArray) ++ ⟨(Lib.join (L.map lb) [47]).toArray⟩) := ⟨by
    unfold joinB
    rw [← lib_join]
    apply ByteArray.ext
    simp⟩
  by_cases h0 : L = []
  · subst h0
    have HN := Shut.mk (fun W => Tryz.strings_Join_none a cap ⟨#[47]⟩ W)
    clear hr hf hjl
    go_enter Tryz.func66, Tryz.ntmps66
    go_wp2_with fail
    refine (HN.out _).mono ?_
    rintro e w1 ⟨rfl, hw⟩
    subst hw
    go_wp2_with fail
    go_ret
    exact ⟨rfl, Below.refl _ _⟩
  · obtain ⟨b, off, rfl, hb, hcs⟩ := units_at hr (List.length_pos_iff.2 h0)
    have hn : L.length ≤ 1048576 := by unfold TFit at hf; omega
    have HN := Shut.mk (Tryz.strings_Join b off cap L ⟨#[47]⟩ w (fun j x hx => by
      obtain ⟨hj, e⟩ := List.getElem?_eq_some_iff.1 hx
      have := hcs j hj
      rw [this]
      simp [List.getD, hj, e]) hb (by omega) hc (by
        show (Lib.join (L.map lb) [47]).length ≤ _
        omega))
    have hsz : ((⟨(Lib.join (L.map lb) [47]).toArray⟩ : ByteArray)).size ≤ 2097152 := by
      show (Lib.join (L.map lb) [47]).toArray.size ≤ _
      simpa using hjl
    have HN' : Shut (Calls Tryz.prog 116 #[.slice (some ⟨b, off, none⟩) L.length cap, .string ⟨#[47]⟩] w fun e w' => e = .returned (.string ⟨(Lib.join (L.map lb) [47]).toArray⟩) ∧ Below w.heap.size w w') := HN
    generalize (⟨(Lib.join (L.map lb) [47]).toArray⟩ : ByteArray) = J at *
    clear hr hf hjl hcs HN h0
    go_enter Tryz.func66, Tryz.ntmps66
    go_wp2_with fail
    refine HN'.out.mono ?_
    rintro e w1 ⟨rfl, hb1⟩
    go_wp2_with fail
    go_ret
    exact ⟨by rw [HJ.out]; rfl, hb1⟩
theorem OwnAt.form {w : World} {base n : Nat} {v : Value} {L : List ByteArray} (h : OwnAt w base v n L) : ∃ a cap, v = .slice a n cap := by
  obtain ⟨_, ⟨e, h0⟩ | ⟨g, off, cap, e, _⟩⟩ := h
  · exact ⟨none, 0, by rw [e, h0]⟩
  · exact ⟨_, cap, e⟩
theorem OwnAt.some' {w : World} {base n : Nat} {v : Value} {L : List ByteArray} (h : OwnAt w base v n L) (hp : 0 < n) : ∃ g off cap, v = .slice (some ⟨g, off, none⟩) n cap ∧ n ≤ cap ∧ g < w.heap.size ∧ ∀ j, j < L.length → w.cell? ⟨g, off + j, none⟩ = some (.string (L.getD j ⟨#[]⟩)) := by
  obtain ⟨_, ⟨_, h0⟩ | ⟨g, off, cap, e, _, hn, _, hc⟩⟩ := h
  · omega
  · exact ⟨g, off, cap, e, hn, hc.1, fun j hj => (hc.2 j hj).1⟩
theorem CSee.below {w w' : World} {v : Value} {L : List ByteArray} {lo hi : Nat} (h : CSee w v L lo hi) (hb : Below w.heap.size w w') : CSee w' v L lo hi := by
  obtain ⟨a, cap, e, hc, hr⟩ := h
  obtain ⟨a', cap', e', hr'⟩ := (show SSee w v L lo hi from ⟨a, cap, e, hr⟩).below hb
  rw [e] at e'
  cases e'
  exact ⟨a, cap, e, hc, hr'⟩
set_option maxRecDepth 100000 in
set_option maxHeartbeats 2000000 in
theorem implParentPath (p : ByteArray) (w : World) (hs : p.size ≤ 1048576) : Calls Tryz.prog 179 #[.string p] w fun e w' => ParPost p w e w' := by
  have HS := Shut.mk (fun W => implSplitPath p W hs)
  have hnm := splitB_names p
  unfold QPost at HS
  unfold ParPost
  obtain ⟨L, ok, hre⟩ : ∃ L ok, splitB p = (L, ok) := ⟨_, _, rfl⟩
  rw [hre] at HS hnm
  have HN := Shut.mk hnm
  clear hnm
  cases ok with
  | false =>
    rw [parent_no hre (.inl rfl)]
    clear hre
    go_enter Tryz.func179, Tryz.ntmps179
    go_wp2_with fail
    refine (HS.out _).mono ?_
    rintro e w1 ⟨v, rfl, ho, hb⟩
    obtain ⟨a, cap, rfl⟩ := ho.form
    have HB := Shut.mk hb
    clear ho hb
    go_wp2_with fail
    go_ret3
    exact ⟨rfl, HB.out⟩
  | true =>
    rcases List.eq_nil_or_concat L with rfl | ⟨I, x, rfl⟩
    · rw [parent_no hre (.inr rfl)]
      clear hre
      go_enter Tryz.func179, Tryz.ntmps179
      go_wp2_with fail
      refine (HS.out _).mono ?_
      rintro e w1 ⟨v, rfl, ho, hb⟩
      obtain ⟨a, cap, rfl⟩ := ho.form
      have HB := Shut.mk hb
      clear ho hb
      go_wp2_with fail
      go_ret3
      exact ⟨rfl, HB.out⟩
    · rw [List.concat_eq_append] at *
      rw [parent_yes hre]
      obtain ⟨J, hJ⟩ : ∃ J, J = joinB I := ⟨_, rfl⟩
      have HJE := Shut.mk hJ
      rw [← hJ]
      clear hJ
      have h4 := HN.out.2
      have HF : Shut (TFit I) := ⟨names_fit (fun s h => HN.out.1 s (List.mem_append.2 (.inl h))) (by rw [List.length_append] at h4; omega)⟩
      obtain ⟨m, hm⟩ : ∃ m, m = I.length := ⟨_, rfl⟩
      have HM := Shut.mk hm
      have hm4 : m ≤ 4 := by rw [List.length_append] at h4; omega
      rw [show (I ++ [x], true).1.length = m + 1 by simp [hm]] at HS
      clear hre h4 hm
      go_enter Tryz.func179, Tryz.ntmps179
      go_wp2_with fail
      refine (HS.out _).mono ?_
      rintro e w1 ⟨v, rfl, ho, hb⟩
      obtain ⟨g, off, cap, rfl, hcap, hg, hcs⟩ := ho.some' (by omega)
      have d0 : w1.cell? ⟨g, off + m, none⟩ = some (.string x) := by
        rw [hcs m (by rw [List.length_append, HM.out]; simp)]
        simp [List.getD, HM.out]
      have hsee : CSee w1 (.slice (some ⟨g, off, none⟩) m cap) I 0 w1.heap.size := ⟨_, cap, by rw [HM.out], by rw [← HM.out]; omega, fun _ => ⟨g, off, rfl, Nat.zero_le _, hg, hg, fun i u hu => by
        have hi : i < I.length := by
          have := (List.getElem?_eq_some_iff.1 hu).1
          rwa [tv_len] at this
        rw [tv_get I i hi] at hu
        cases hu
        rw [hcs i (by rw [List.length_append]; omega)]
        simp [List.getD, List.getElem?_append_left hi]⟩⟩
      have HJ := Shut.mk (fun W (hW : Below w1.heap.size w1 W) => implJoinPath W _ _ _ _ (hsee.below hW) HF.out)
      have HB := Shut.mk hb
      have hm0 : (((m + 1 : Nat) : Int) == 0) = false := by rw [beq_eq_false_iff_ne]; omega
      obtain ⟨n, hn⟩ : ∃ n, n = m + 1 := ⟨_, rfl⟩
      rw [← hn] at hcap hm0 ⊢
      have hnm : (n : Int) - 1 = (m : Int) := by omega
      have hmn : (m : Int) < (n : Int) := by omega
      have hmc : (m : Int) ≤ (cap : Int) := by omega
      have hm9 : (0 : Int) ≤ (m : Int) := by omega
      have hwr : IntKind.i64.wrap ((n : Int) - 1) = (m : Int) := by rw [hnm]; exact IntWalk.i64_in _ ⟨by omega, by omega⟩
      rw [← HJE.out] at HJ
      clear ho hb hcs hsee hn HN HM hnm
      go_wp2_with fail
      go_region_held3 (fun w' => w'.cell? ⟨g, off + m, none⟩ = some (.string x))
        (first | assumption | (exact (hb9.cell (p := ⟨g, off + m, none⟩) hg).trans (by assumption)) | go_keep)
        (first | (go_at_call 66; refine (HJ.out _ (by first | exact Below.refl _ _ | exact Below.drew (Below.refl _ _))).mono ?_; rintro e w9 ⟨rfl, hb9⟩))
      all_goals
        go_wp2_with fail
        go_ret3
        exact ⟨rfl, by first | exact HB.out.trans (hb9.mono HB.out.size) | exact HB.out.trans (((Below.drew (Below.refl w1.heap.size w1)).trans hb9).mono HB.out.size)⟩
theorem pathsAll : PathsAll := ⟨implNameOk, implSplitPath, implJoinPath, implParentPath⟩
end Go.Proofs.YthfmjjaollekiaaGreat
/- TreF: Trees that are the same are told so (written by gen/mktref.py). -/
namespace Go.Proofs.YthfmjjaollekiaaGreat
set_option maxRecDepth 100000
open Go.RowKit
attribute [local go_sem ↓] Go.wp_at_zero Go.wp_at_succ

theorem eqPiece_same (p : PM) (w : World) : Calls Tryz.prog 197 #[pv p, pv p] w fun e w' => e = .returned (.bool true) ∧ Below w.heap.size w w' := by
  go_enter Tryz.func197, Tryz.ntmps197
  go_wp2_with fail
  go_ret
  exact ⟨rfl, ((Below.refl _ _).alloc (Nat.le_refl _) _).alloc (by simp) _⟩
set_option maxHeartbeats 1000000 in
theorem eqPieceS_same (a b : Option Addr) (ps : List PM) (ca cb : Nat) (w : World) (lo hi lo' hi' : Nat) (ha : RRow w a (pcs ps) lo hi) (hb : RRow w b (pcs ps) lo' hi') (hl : ps.length ≤ 1048576) :
    Calls Tryz.prog 182 #[.slice a ps.length ca, .slice b ps.length cb] w fun e w' => e = .returned (.bool true) ∧ Below w.heap.size w w' := by
  have HA := Shut.mk ha
  have HB := Shut.mk hb
  clear ha hb
  go_enter Tryz.func182, Tryz.ntmps182
  go_wp2_with fail
  go_loopw [5] (fun i wr => ∃ (k : Nat), i = .int .i64 k ∧ k ≤ ps.length ∧ Shut (Below w.heap.size w wr)) (fun i _ => ps.length - (intOf i).toNat)
  case atStart => exact ⟨0, rfl, Nat.zero_le _, ⟨Below.refl _ _⟩⟩
  case round =>
    obtain ⟨k, rfl, hk, hbl⟩ := hrel
    by_cases hlt : k < ps.length
    · obtain ⟨b1, o1, rfl, l1, hc1⟩ := pcs_at (HA.out.below hbl.out) (by omega)
      obtain ⟨b2, o2, rfl, l2, hc2⟩ := pcs_at (HB.out.below hbl.out) (by omega)
      obtain ⟨d0, d1⟩ := hc1 k hlt
      obtain ⟨e0, e1⟩ := hc2 k hlt
      generalize ps[k] = f at *
      have k0 : (0 : Int) ≤ (k : Int) := by omega
      have k1 : (k : Int) < (ps.length : Int) := by omega
      clear hc1 hc2
      go_wp2_with fail
      go_region_held3 (fun w' => w'.cell? ⟨b1, o1 + k * 2, none⟩ = some (.int .i64 f.group) ∧ w'.cell? ⟨b1, o1 + k * 2 + 1, none⟩ = some (.int .i64 f.len) ∧ w'.cell? ⟨b2, o2 + k * 2, none⟩ = some (.int .i64 f.group) ∧ w'.cell? ⟨b2, o2 + k * 2 + 1, none⟩ = some (.int .i64 f.len))
        (first | go_keep | (refine ⟨?_, ?_, ?_, ?_⟩ <;> first | (rw [hb2.cell (by exact l1)]; simp [*]) | (rw [hb2.cell (by exact l2)]; simp [*])))
        ((go_at_call 197; refine (eqPiece_same f _).mono ?_; rintro e w2 ⟨rfl, hb2⟩))
      all_goals go_wp2_with fail
      all_goals
        have hb3 : Below w.heap.size w w2 := hbl.out.trans ((Below.drew (Below.refl _ _)).trans (hb2.mono hbl.out.size))
        exact ⟨⟨k + 1, by go_num, by omega, ⟨hb3⟩⟩, by simp [intOf]; omega⟩
    · have hlt' : ¬ (k : Int) < (ps.length : Int) := by omega
      go_wp2_with fail
      go_ret
      exact ⟨rfl, hbl.out⟩
theorem same_text (x : ByteArray) : (x.toList != x.toList) = false := by simp
set_option maxRecDepth 100000 in
set_option maxHeartbeats 2000000 in
theorem eqInode_same (r s : NR) (w : World) (lo hi lo' hi' : Nat) (hn : r.nd = s.nd) (ha : RRow w r.loc (pcs r.nd.pieces) lo hi) (hb : RRow w s.loc (pcs s.nd.pieces) lo' hi') (hl : r.nd.pieces.length ≤ 1048576) :
    Calls Tryz.prog 141 #[nv r, nv s] w fun e w' => e = .returned (.bool true) ∧ Below w.heap.size w w' := by
  obtain ⟨n, loc, cap⟩ := r
  obtain ⟨n', loc', cap'⟩ := s
  dsimp only at hn
  subst hn
  obtain ⟨id, parent, name, dir, schema, quota, len, pieces, writer⟩ := n
  dsimp only [nv] at *
  have HP := Shut.mk (fun W (hW : Below w.heap.size w W) => eqPieceS_same loc loc' pieces cap cap' W lo hi lo' hi' (ha.below hW) (hb.below hW) hl)
  generalize pieces.length = np at *
  have HB0 := Shut.mk (show Below w.heap.size w ((w.alloc (.cells #[.int .i64 id, .int .i64 parent, .string name, .bool dir, .int .i64 schema, .int .i64 quota, .int .i64 len, .slice loc np cap, .int .i64 writer] 31)).alloc (.cells #[.int .i64 id, .int .i64 parent, .string name, .bool dir, .int .i64 schema, .int .i64 quota, .int .i64 len, .slice loc' np cap', .int .i64 writer] 31)) from ((Below.refl _ _).alloc (Nat.le_refl _) _).alloc (by simp) _)
  have hst := same_text name
  have hdd : (dir != dir) = false := by cases dir <;> rfl
  have HW1 := Shut.mk (wcells_new w #[.int .i64 id, .int .i64 parent, .string name, .bool dir, .int .i64 schema, .int .i64 quota, .int .i64 len, .slice loc np cap, .int .i64 writer] 31)
  have HW2 := Shut.mk (wcells_new (w.alloc (.cells #[.int .i64 id, .int .i64 parent, .string name, .bool dir, .int .i64 schema, .int .i64 quota, .int .i64 len, .slice loc np cap, .int .i64 writer] 31)) #[.int .i64 id, .int .i64 parent, .string name, .bool dir, .int .i64 schema, .int .i64 quota, .int .i64 len, .slice loc' np cap', .int .i64 writer] 31)
  have hz : (w.alloc (.cells #[.int .i64 id, .int .i64 parent, .string name, .bool dir, .int .i64 schema, .int .i64 quota, .int .i64 len, .slice loc np cap, .int .i64 writer] 31)).heap.size = w.heap.size + 1 := by simp
  rw [hz] at HW2
  replace HW1 := Shut.mk (HW1.out.alloc (.cells #[.int .i64 id, .int .i64 parent, .string name, .bool dir, .int .i64 schema, .int .i64 quota, .int .i64 len, .slice loc' np cap', .int .i64 writer] 31))
  clear ha hb hl hz
  go_enter Tryz.func141, Tryz.ntmps141
  go_wp2_with fail
  refine (HP.out _ HB0.out).mono ?_
  rintro e w2 ⟨rfl, hb2⟩
  have a8 := ((HW1.out.grow hb2).2 8 _ rfl).1
  have c8 := ((HW2.out.grow hb2).2 8 _ rfl).1
  have HB2 := Shut.mk (HB0.out.trans (hb2.mono HB0.out.size))
  clear hb2 HW1 HW2 HB0 HP
  go_wp2_with fail
  go_ret
  exact ⟨rfl, HB2.out⟩
set_option maxRecDepth 100000 in
set_option maxHeartbeats 4000000 in
theorem eqInodeS_same (a b : Option Addr) (rs ts : List NR) (ca cb : Nat) (w : World) (lo hi lo' hi' : Nat) (hn : nds rs = nds ts) (ha : TR w a rs lo hi) (hb : TR w b ts lo' hi') (hl : rs.length ≤ 1048576) (hp : ∀ r ∈ rs, r.nd.pieces.length ≤ 1048576) :
    Calls Tryz.prog 105 #[.slice a rs.length ca, .slice b ts.length cb] w fun e w' => e = .returned (.bool true) ∧ Below w.heap.size w w' := by
  have hlen : ts.length = rs.length := by rw [← nds_len, ← hn, nds_len]
  have HA := Shut.mk (And.intro ha hp)
  have HB := Shut.mk (And.intro hb hn)
  obtain ⟨n, hnn⟩ : ∃ n, n = rs.length := ⟨_, rfl⟩
  have HN := Shut.mk (And.intro hnn hlen)
  rw [hlen, ← hnn]
  rw [← hnn] at hl
  have hne : ((n : Int) != (n : Int)) = false := by simp
  clear ha hb hn hp hlen hnn
  go_enter Tryz.func105, Tryz.ntmps105
  go_wp2_with fail
  go_loopw [5] (fun i wr => ∃ (k : Nat), i = .int .i64 k ∧ k ≤ n ∧ Shut (Below w.heap.size w wr)) (fun i _ => n - (intOf i).toNat)
  case atStart => exact ⟨0, rfl, Nat.zero_le _, ⟨Below.refl _ _⟩⟩
  case round =>
    obtain ⟨k, rfl, hk, hbl⟩ := hrel
    by_cases hlt : k < n
    · have hlr : k < rs.length := by have := HN.out.1; omega
      have hlt2 : k < ts.length := by have := HN.out; omega
      obtain ⟨b1, o1, rfl, l1, hc1⟩ := TR.nat (HA.out.1.below hbl.out) (by omega)
      obtain ⟨b2, o2, rfl, l2, hc2⟩ := TR.nat (HB.out.1.below hbl.out) (by omega)
      obtain ⟨d0, d1, d2, d3, d4, d5, d6, d7, d8⟩ := hc1 k hlr
      obtain ⟨e0, e1, e2, e3, e4, e5, e6, e7, e8⟩ := hc2 k hlt2
      have heq : rs[k].nd = ts[k].nd := by
        have h1 : (nds rs)[k]'(by rw [nds_len]; exact hlr) = rs[k].nd := by simp [nds]
        have h2 : (nds ts)[k]'(by rw [nds_len]; exact hlt2) = ts[k].nd := by simp [nds]
        rw [← h1, ← h2]
        simp only [HB.out.2]
      have HQ := Shut.mk (fun W (hW : Below wr.heap.size wr W) => eqInode_same rs[k] ts[k] W lo hi lo' hi' heq (((HA.out.1.below hbl.out).2 rs[k] (List.getElem_mem hlr)).below hW) (((HB.out.1.below hbl.out).2 ts[k] (List.getElem_mem hlt2)).below hW) (HA.out.2 rs[k] (List.getElem_mem hlr)))
      generalize rs[k] = r at *
      generalize ts[k] = s at *
      have k0 : (0 : Int) ≤ (k : Int) := by omega
      have k1 : (k : Int) < (n : Int) := by omega
      clear hc1 hc2 heq
      go_wp2_with fail
      go_region_held3 (fun w' => w'.cell? ⟨b1, o1 + k * 9, none⟩ = some (.int .i64 r.nd.id) ∧ w'.cell? ⟨b1, o1 + k * 9 + 1, none⟩ = some (.int .i64 r.nd.parent) ∧ w'.cell? ⟨b1, o1 + k * 9 + 2, none⟩ = some (.string r.nd.name) ∧ w'.cell? ⟨b1, o1 + k * 9 + 3, none⟩ = some (.bool r.nd.dir) ∧ w'.cell? ⟨b1, o1 + k * 9 + 4, none⟩ = some (.int .i64 r.nd.schema) ∧ w'.cell? ⟨b1, o1 + k * 9 + 5, none⟩ = some (.int .i64 r.nd.quota) ∧ w'.cell? ⟨b1, o1 + k * 9 + 6, none⟩ = some (.int .i64 r.nd.len) ∧ w'.cell? ⟨b1, o1 + k * 9 + 7, none⟩ = some (.slice r.loc r.nd.pieces.length r.cap) ∧ w'.cell? ⟨b1, o1 + k * 9 + 8, none⟩ = some (.int .i64 r.nd.writer) ∧ w'.cell? ⟨b2, o2 + k * 9, none⟩ = some (.int .i64 s.nd.id) ∧ w'.cell? ⟨b2, o2 + k * 9 + 1, none⟩ = some (.int .i64 s.nd.parent) ∧ w'.cell? ⟨b2, o2 + k * 9 + 2, none⟩ = some (.string s.nd.name) ∧ w'.cell? ⟨b2, o2 + k * 9 + 3, none⟩ = some (.bool s.nd.dir) ∧ w'.cell? ⟨b2, o2 + k * 9 + 4, none⟩ = some (.int .i64 s.nd.schema) ∧ w'.cell? ⟨b2, o2 + k * 9 + 5, none⟩ = some (.int .i64 s.nd.quota) ∧ w'.cell? ⟨b2, o2 + k * 9 + 6, none⟩ = some (.int .i64 s.nd.len) ∧ w'.cell? ⟨b2, o2 + k * 9 + 7, none⟩ = some (.slice s.loc s.nd.pieces.length s.cap) ∧ w'.cell? ⟨b2, o2 + k * 9 + 8, none⟩ = some (.int .i64 s.nd.writer))
        (first | go_keep | (refine ⟨?_, ?_, ?_, ?_, ?_, ?_, ?_, ?_, ?_, ?_, ?_, ?_, ?_, ?_, ?_, ?_, ?_, ?_⟩ <;> first | (rw [hb2.cell (by exact l1)]; simp [*]) | (rw [hb2.cell (by exact l2)]; simp [*])))
        ((go_at_call 141; refine (HQ.out _ (by first | exact Below.refl _ _ | exact Below.drew (Below.refl _ _))).mono ?_; rintro e w2 ⟨rfl, hb2⟩))
      all_goals go_wp2_with fail
      all_goals
        have hb3 : Below w.heap.size w w2 := hbl.out.trans ((Below.drew (Below.refl _ _)).trans (hb2.mono hbl.out.size))
        exact ⟨⟨k + 1, by go_num, by omega, ⟨hb3⟩⟩, by simp [intOf]; omega⟩
    · have hlt' : ¬ (k : Int) < (n : Int) := by omega
      go_wp2_with fail
      go_ret
      exact ⟨rfl, hbl.out⟩
set_option maxHeartbeats 1000000 in
theorem eqTree_val {w : World} {v u : Value} {T : TM} {lo hi lo' hi' : Nat} (h : TSee w v T lo hi) (k : TSee w u T lo' hi') (hf : NFit T) : Calls Tryz.prog 50 #[v, u] w fun e w' => e = .returned (.bool true) ∧ Below w.heap.size w w' := by
  obtain ⟨a, cap, rs, rfl, hr, hm⟩ := h
  obtain ⟨b, cap', ts, rfl, hr', hm'⟩ := k
  have hl : rs.length ≤ 1048576 := by have : rs.length = T.nodes.length := by rw [← hr, nds_len]
                                      unfold NFit at hf; omega
  have hp : ∀ r ∈ rs, r.nd.pieces.length ≤ 1048576 := fun r hx => by
    have := nsum_mem (ns := T.nodes) (n := r.nd) (by rw [← hr]; exact List.mem_map.2 ⟨r, hx, rfl⟩)
    unfold NFit at hf
    omega
  have HS := Shut.mk (fun W (hW : Below w.heap.size w W) => eqInodeS_same a b rs ts cap cap' W lo hi lo' hi' (hr.trans hr'.symm) (hm.below hW) (hm'.below hW) hl hp)
  generalize T.next = nx at *
  generalize rs.length = n at *
  generalize ts.length = m at *
  have HB0 := Shut.mk (show Below w.heap.size w ((w.alloc (.cells #[.slice a n cap, .int .i64 nx] 26)).alloc (.cells #[.slice b m cap', .int .i64 nx] 26)) from ((Below.refl _ _).alloc (Nat.le_refl _) _).alloc (by simp) _)
  have HW1 := Shut.mk ((wcells_new w #[.slice a n cap, .int .i64 nx] 26).alloc (.cells #[.slice b m cap', .int .i64 nx] 26))
  have HW2 := Shut.mk (wcells_new (w.alloc (.cells #[.slice a n cap, .int .i64 nx] 26)) #[.slice b m cap', .int .i64 nx] 26)
  have hz : (w.alloc (.cells #[.slice a n cap, .int .i64 nx] 26)).heap.size = w.heap.size + 1 := by simp
  rw [hz] at HW2
  clear hz hm hm' hr hr' hl hp hf
  go_enter Tryz.func50, Tryz.ntmps50
  go_wp2_with fail
  refine (HS.out _ HB0.out).mono ?_
  rintro e w2 ⟨rfl, hb2⟩
  have a1 := ((HW1.out.grow hb2).2 1 _ rfl).1
  have c1 := ((HW2.out.grow hb2).2 1 _ rfl).1
  have HB2 := Shut.mk (HB0.out.trans (hb2.mono HB0.out.size))
  clear hb2 HW1 HW2 HB0 HS
  go_wp2_with fail
  go_ret
  exact ⟨rfl, HB2.out⟩
end Go.Proofs.YthfmjjaollekiaaGreat
/- TreG: Marks over trees: plain, and what marking turns in memory. -/
namespace Go.Proofs.YthfmjjaollekiaaGreat
set_option maxRecDepth 100000
open Go.RowKit

def markPs (k n : Nat) : List PM := (List.range n).map fun i => ⟨((k + 2 * i : Nat) : Int), ((k + 2 * i + 1 : Nat) : Int)⟩
theorem markPs_len (k n : Nat) : (markPs k n).length = n := by simp [markPs]
def markDir (k : Nat) : Bool := decide (k % 3 = 0)
def markN (k np : Nat) : NM := ⟨(k : Int), ((k + 1 : Nat) : Int), mt (k + 2), markDir (k + 3), ((k + 4 : Nat) : Int), ((k + 5 : Nat) : Int), ((k + 6 : Nat) : Int), markPs (k + 7) np, ((k + 7 + 2 * np : Nat) : Int)⟩
/-- A row of nodes, marked from k on. -/
def markRs (k : Nat) : List NR → List NR
  | [] => []
  | r :: rs => ⟨markN k r.nd.pieces.length, r.loc, r.cap⟩ :: markRs (k + 8 + 2 * r.nd.pieces.length) rs
/-- Where the marks end. -/
def markK (k : Nat) : List NM → Nat
  | [] => k
  | n :: ns => markK (k + 8 + 2 * n.pieces.length) ns
theorem markRs_len (k : Nat) (rs : List NR) : (markRs k rs).length = rs.length := by
  induction rs generalizing k with
  | nil => rfl
  | cons r rs ih => simp only [markRs, List.length_cons, ih]
theorem markK_snoc (k : Nat) (ns : List NM) (n : NM) : markK k (ns ++ [n]) = markK k ns + 8 + 2 * n.pieces.length := by
  induction ns generalizing k with
  | nil => rfl
  | cons x ns ih => simp only [List.cons_append, markK, ih]
theorem markRs_snoc (k : Nat) (rs : List NR) (r : NR) : markRs k (rs ++ [r]) = markRs k rs ++ [⟨markN (markK k (nds rs)) r.nd.pieces.length, r.loc, r.cap⟩] := by
  induction rs generalizing k with
  | nil => rfl
  | cons x rs ih => simp only [List.cons_append, markRs, ih, nds, List.map_cons, markK]
theorem markK_le (k : Nat) (ns : List NM) : k ≤ markK k ns ∧ markK k ns ≤ k + 8 * ns.length + 2 * nsum ns := by
  induction ns generalizing k with
  | nil => simp [markK, nsum]
  | cons n ns ih => have := ih (k + 8 + 2 * n.pieces.length); simp only [markK, nsum, List.length_cons]; omega
theorem markK_low (k : Nat) (ns : List NM) : k + ns.length ≤ markK k ns := by
  induction ns generalizing k with
  | nil => simp [markK]
  | cons n ns ih => simp only [List.length_cons, markK]; have := ih (k + 8 + 2 * n.pieces.length); omega
theorem markK_part (k : Nat) (ns : List NM) (i : Nat) : markK k (ns.take i) ≤ markK k ns := by
  induction ns generalizing k i with
  | nil => simp
  | cons n ns ih =>
    cases i with
    | zero => simp only [List.take_zero]; exact (markK_le k _).1
    | succ i => simp only [List.take_succ_cons, markK]; exact ih _ _
theorem ncs_get (ts : List NR) (j : Nat) (h : j < ts.length) (i : Nat) (hi : i < 9) : (ncs ts)[j * 9 + i]? = (ncells ts[j])[i]? := flat_get ncells_len ts j h i hi
/-- One cell of one node is another. -/
theorem ncs_set1 (ts : List NR) (i : Nat) (hi : i < ts.length) (f : Nat) (hf : f < 9) (r : NR) (v : Value) (h1 : (ncells r)[f]? = some v) (h2 : ∀ q, q < 9 → q ≠ f → (ncells r)[q]? = (ncells ts[i])[q]?) : (ncs ts).set (i * 9 + f) v = ncs (ts.set i r) := by
  have hlen : (ncs ts).length = ts.length * 9 := ncs_len ts
  apply List.ext_getElem?
  intro n
  by_cases hn : n < ts.length * 9
  · have hs := flat_set ncells_len ts i hi r n hn
    show _ = ((ts.set i r).flatMap ncells)[n]?
    rw [hs]
    have hm := Nat.mod_lt n (show 0 < 9 by decide)
    have he : n = n / 9 * 9 + n % 9 := by omega
    by_cases e : n = i * 9 + f
    · have e1 : n / 9 = i := by omega
      have e2 : n % 9 = f := by omega
      rw [if_pos e1, e2, h1, ← e, List.getElem?_set_self (by rw [hlen]; exact hn)]
    · rw [List.getElem?_set_ne (by omega)]
      by_cases e1 : n / 9 = i
      · rw [if_pos e1, h2 _ hm (by omega)]
        have := ncs_get ts i hi (n % 9) hm
        rw [← this]
        congr 1
        omega
      · rw [if_neg e1]; rfl
  · rw [List.getElem?_eq_none (by rw [List.length_set, hlen]; omega), List.getElem?_eq_none (by rw [ncs_len, List.length_set]; omega)]
theorem apart_set {rs : List NR} (h : rs.Pairwise fun r s => NKind.inn r ≠ [] → NKind.inn s ≠ [] → NKind.loc r ≠ NKind.loc s) (j : Nat) (hj : j < rs.length) (r : NR) (hi : pcs r.nd.pieces ≠ [] → pcs rs[j].nd.pieces ≠ []) (hl : r.loc = rs[j].loc) : (rs.set j r).Pairwise fun r s => NKind.inn r ≠ [] → NKind.inn s ≠ [] → NKind.loc r ≠ NKind.loc s := by
  have ha := List.pairwise_iff_getElem.1 h
  refine List.pairwise_iff_getElem.2 (fun a b ha' hb' hab h1 h2 => ?_)
  rw [List.length_set] at ha' hb'
  rw [List.getElem_set] at h1 ⊢
  rw [List.getElem_set] at h2 ⊢
  by_cases ea : j = a
  · subst ea
    rw [if_pos rfl] at h1 ⊢
    rw [if_neg (by omega)] at h2 ⊢
    show r.loc ≠ _
    rw [hl]
    exact ha j b ha' hb' hab (hi h1) h2
  · rw [if_neg ea] at h1 ⊢
    by_cases eb : j = b
    · subst eb
      rw [if_pos rfl] at h2 ⊢
      show _ ≠ r.loc
      rw [hl]
      exact ha a j ha' hb' hab h1 (hi h2)
    · rw [if_neg eb] at h2 ⊢
      exact ha a b ha' hb' hab h1 h2
theorem TW.cell {w : World} {g : Nat} {ts : List NR} {lo hi : Nat} (h : TW w g ts lo hi) (i : Nat) (hi' : i < ts.length) (f : Nat) (hf : f < 9) (r : NR) (v : Value) (h1 : (ncells r)[f]? = some v) (h2 : ∀ q, q < 9 → q ≠ f → (ncells r)[q]? = (ncells ts[i])[q]?)
    (hin : r.nd.pieces = ts[i].nd.pieces) (hloc : r.loc = ts[i].loc) : TW (w.setCell ⟨g, i * 9 + f, none⟩ v) g (ts.set i r) lo hi := by
  have hout := h.out.set (i * 9 + f) v (by rw [NKind.cells_len]; show i * 9 + f < ts.length * 9; omega)
  have e : (NKind.cells ts).set (i * 9 + f) v = NKind.cells (ts.set i r) := ncs_set1 ts i hi' f hf r v h1 h2
  rw [e] at hout
  refine ⟨hout, h.glo, h.ghi, fun s hs => ?_, apart_set h.apart i hi' r (fun q => by rw [← hin]; exact q) hloc⟩
  have key : ∀ s ∈ ts, NKind.inn s = [] ∨ ∃ b, NKind.loc s = some ⟨b, 0, none⟩ ∧ lo ≤ b ∧ b < hi ∧ b ≠ g ∧ WCells (w.setCell ⟨g, i * 9 + f, none⟩ v) b (NKind.inn s) := fun s hs => by
    rcases h.rows s hs with q | ⟨b, e, q1, q2, q3, q4⟩
    · exact .inl q
    · exact .inr ⟨b, e, q1, q2, q3, q4.other _ _ q3⟩
  rcases List.mem_or_eq_of_mem_set hs with q | q
  · exact key s q
  · subst q
    have := key ts[i] (List.getElem_mem hi')
    show pcs s.nd.pieces = [] ∨ ∃ b, s.loc = _ ∧ _ ∧ _ ∧ _ ∧ WCells _ b (pcs s.nd.pieces)
    rw [hin, hloc]
    exact this
theorem TW.cell' {w : World} {g : Nat} {ts : List NR} {lo hi : Nat} (h : TW w g ts lo hi) (i : Nat) (hi' : i < ts.length) (r0 : NR) (hat : ts[i] = r0) (f : Nat) (hf : f < 9) (r : NR) (v : Value) (h1 : (ncells r)[f]? = some v) (h2 : ∀ q, q < 9 → q ≠ f → (ncells r)[q]? = (ncells r0)[q]?)
    (hin : r.nd.pieces = r0.nd.pieces) (hloc : r.loc = r0.loc) : TW (w.setCell ⟨g, i * 9 + f, none⟩ v) g (ts.set i r) lo hi := by
  subst hat
  exact h.cell i hi' f hf r v h1 h2 hin hloc
theorem TW.pieces {w w2 : World} {g : Nat} {ts : List NR} {lo hi : Nat} (h : TW w g ts lo hi) (i : Nat) (hi' : i < ts.length) (b : Nat) (hb : ts[i].loc = some ⟨b, 0, none⟩) (hne : ts[i].nd.pieces ≠ []) (r : NR) (hc : ncells r = ncells ts[i]) (hloc : r.loc = ts[i].loc)
    (hw : WCells w2 b (pcs r.nd.pieces)) (hg : w.grownBy w2 (some b)) : TW w2 g (ts.set i r) lo hi := by
  obtain ⟨b', e', p1, p2, p3, p4⟩ : ∃ b, ts[i].loc = some ⟨b, 0, none⟩ ∧ lo ≤ b ∧ b < hi ∧ b ≠ g ∧ WCells w b (pcs ts[i].nd.pieces) := by
    rcases h.rows ts[i] (List.getElem_mem hi') with q | q
    · exact absurd q (pcs_ne hne)
    · exact q
  have eb : b' = b := congrArg Addr.block (Option.some.inj (e'.symm.trans hb))
  subst eb
  have hcs : NKind.cells (ts.set i r) = NKind.cells ts := by
    show (ts.set i r).flatMap ncells = ts.flatMap ncells
    apply List.ext_getElem?
    intro n
    by_cases hn : n < ts.length * 9
    · rw [flat_set ncells_len ts i hi' r n hn]
      split
      · rename_i e
        rw [hc]
        have := ncs_get ts i hi' (n % 9) (Nat.mod_lt n (by decide))
        rw [← this]
        show (ncs ts)[_]? = (ncs ts)[_]?
        congr 1
        omega
      · rfl
    · rw [List.getElem?_eq_none (by have := flat_len ncells_len (ts.set i r); rw [List.length_set] at this; omega), List.getElem?_eq_none (by have := flat_len ncells_len ts; omega)]
  refine ⟨by rw [hcs]; exact h.out.apart hg (Ne.symm p3), h.glo, h.ghi, fun s hs => ?_, apart_set h.apart i hi' r (fun _ => pcs_ne hne) hloc⟩
  obtain ⟨j, hj, rfl⟩ := List.mem_iff_getElem.1 hs
  rw [List.length_set] at hj
  rw [List.getElem_set]
  by_cases e : i = j
  · rw [if_pos e]
    exact .inr ⟨b', by show r.loc = _; rw [hloc, hb], p1, p2, p3, hw⟩
  · rw [if_neg e]
    rcases h.rows ts[j] (List.getElem_mem hj) with q | ⟨c, e2, q1, q2, q3, q4⟩
    · exact .inl q
    · by_cases hq : NKind.inn ts[j] = []
      · exact .inl hq
      · have hap : ts[i].loc ≠ ts[j].loc := by
          have ha := List.pairwise_iff_getElem.1 h.apart
          by_cases hij : i < j
          · exact ha i j hi' hj hij (pcs_ne hne) hq
          · exact (ha j i hj hi' (by omega) hq (pcs_ne hne)).symm
        have hcb : c ≠ b' := fun q => hap (by rw [hb, ← q]; exact e2.symm)
        exact .inr ⟨c, e2, q1, q2, q3, q4.apart hg hcb⟩
end Go.Proofs.YthfmjjaollekiaaGreat
