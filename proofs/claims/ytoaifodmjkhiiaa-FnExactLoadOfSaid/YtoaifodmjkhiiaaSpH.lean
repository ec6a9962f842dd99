/- The models' SumText, l14Ahead, HostOk, l14At, GetUnit. -/
import Derived.Test.YtoaifodmjkhiiaaHoA
import Derived.Test.YtoaifodmjkhiiaaTreQ
import Derived.Test.YtoaifodmjkhiiaaGrwA
namespace Go.Proofs.Ytoaifodmjkhiiaa
set_option maxRecDepth 100000
open Go.RowKit BigFrame
attribute [local go_sem ↓] Go.wp_at_zero Go.wp_at_succ

theorem sumN_low (t : ByteArray) : 0 ≤ sumN t ∧ sumN t ≤ 4294967295 := by
  unfold sumN
  have := (W.sumOf t).isLt
  omega
theorem specSumText (t : ByteArray) (w : World) (hs : t.size ≤ 1048576) : Calls Try.prog 58 #[.string t] w fun e w' => e = .returned (.int .i64 (sumN t)) ∧ w' = w := by
  have h := sumN_low t
  have HP := Shut.mk (specSumOf t w hs)
  unfold u32 at HP
  rw [show (((W.sumOf t).toNat : Nat) : Int) = sumN t from rfl] at HP
  generalize sumN t = q at *
  go_enter Try.func58, Try.ntmps58
  go_wp2_with fail
  refine HP.out.mono ?_
  rintro e w1 ⟨rfl, rfl⟩
  go_wp2_with fail
  go_ret
  exact ⟨rfl, rfl⟩
theorem specAhead (a b : UnM) (w : World) : Calls Try.prog 63 #[unv a, unv b] w fun e w' => e = .returned (.bool (unLt a b)) ∧ Below w.heap.size w w' := by
  have hb : Below w.heap.size w ((w.alloc (.cells #[.int .i64 a.group, .int .i64 a.index, .string a.text, .int .i64 a.sum] 70)).alloc (.cells #[.int .i64 b.group, .int .i64 b.index, .string b.text, .int .i64 b.sum] 70)) := ((Below.refl _ _).alloc (Nat.le_refl _) _).alloc (by simp) _
  have HB := Shut.mk hb
  clear hb
  by_cases h1 : a.group < b.group
  · have HE : Shut (unLt a b = true) := ⟨by simp [unLt, h1]⟩
    go_enter Try.func63, Try.ntmps63
    go_wp2_with fail
    go_ret
    exact ⟨by rw [HE.out]; rfl, HB.out⟩
  · have h1' : decide (a.group < b.group) = false := by simpa using h1
    by_cases h2 : a.group = b.group
    · have h2' : (a.group == b.group) = true := by simpa using h2
      have HE : Shut (unLt a b = decide (a.index < b.index)) := ⟨by unfold unLt; rw [h1', h2']; simp⟩
      clear h2 h1
      go_enter Try.func63, Try.ntmps63
      go_wp2_with fail
      go_ret
      exact ⟨by rw [HE.out]; rfl, HB.out⟩
    · have h2' : (a.group == b.group) = false := by simpa using h2
      have HE : Shut (unLt a b = false) := ⟨by unfold unLt; rw [h1', h2']; simp⟩
      clear h2 h1
      go_enter Try.func63, Try.ntmps63
      go_wp2_with fail
      go_ret
      exact ⟨by rw [HE.out]; rfl, HB.out⟩
theorem getD_un (L : List UnM) (k : Nat) (h : k < L.length) : L.getD k default = L[k] := by simp [List.getD, h]
theorem unitsOk_no {L : List UnM} {k : Nat} (hk : k < L.length) (h : unAt L k = false) : unitsOk L = false := by
  cases hb : unitsOk L with
  | false => rfl
  | true => have := List.all_eq_true.1 hb k (by simpa using hk); rw [h] at this; cases this
theorem unitsOk_yes {L : List UnM} (h : ∀ k, k < L.length → unAt L k = true) : unitsOk L = true := List.all_eq_true.2 fun k hk => h k (by simpa using hk)
set_option maxRecDepth 100000 in
set_option maxHeartbeats 4000000 in
theorem specHostOk (H : HM) (a : Option Addr) (cap : Nat) (w : World) (hr : UnRow w a H.us) (hl : H.us.length ≤ 9000000) (hf : UnFits H.us) :
    Calls Try.prog 64 #[hov H a cap] w fun e w' => e = .returned (.bool (hostOk H)) ∧ Below w.heap.size w w' := by
  have HS0 := Shut.mk ((SL.start w).new #[.int .i64 H.id, .bool H.up, .slice a H.us.length cap] 29)
  have HR := Shut.mk hr
  have HF := Shut.mk hf
  clear hr hf
  obtain ⟨id, up, us⟩ := H
  show Calls Try.prog 64 #[.agg #[.int .i64 id, .bool up, .slice a us.length cap]] w fun e w' => e = .returned (.bool (unitsOk us && inI id 1 7)) ∧ Below w.heap.size w w'
  dsimp only at *
  obtain ⟨n, hn⟩ : ∃ n, n = us.length := ⟨_, rfl⟩
  have HN := Shut.mk hn
  rw [← hn] at HS0 hl ⊢
  clear hn
  go_enter Try.func64, Try.ntmps64
  go_upto_region 1 with fail
  refine wp_shade (fun W => SL w W [bxS w.heap.size [.int .i64 id, .bool up, .slice a n cap]]) HS0.out ?_
  intro W0 hW
  have HW := Shut.mk hW
  clear HS0 hW
  go_wp2_with fail
  go_loopw [3] (fun i wr => ∃ (k : Nat), i = .int .i64 k ∧ k ≤ n ∧ Shut (∀ j, j < k → unAt us j = true) ∧ Shut (SL w wr [bxS w.heap.size [.int .i64 id, .bool up, .slice a n cap]])) (fun i _ => n - (intOf i).toNat)
  case atStart => exact ⟨0, rfl, Nat.zero_le _, ⟨fun j hj => by omega⟩, HW⟩
  case round =>
    clear HW
    obtain ⟨k, rfl, hk, HG, HW⟩ := hrel
    have x2 := (HW.out.bx 0 rfl 2 _ rfl).1
    by_cases hlt : k < n
    · have hku : k < us.length := by rw [← HN.out]; exact hlt
      obtain ⟨b, off, rfl, lb, hc⟩ := UnRow.at (HR.out.stays HW.out.bel) (by omega)
      obtain ⟨d0, d1, d2, d3⟩ := hc k hku
      obtain ⟨u, hu⟩ : ∃ u, u = us[k] := ⟨_, rfl⟩
      rw [← hu] at d0 d1 d2 d3
      have HU : Shut (us.getD k default = u) := ⟨(getD_un us k hku).trans hu.symm⟩
      have k0 : (0 : Int) ≤ (k : Int) := by omega
      have k1 : (k : Int) < (n : Int) := by omega
      have HC := Shut.mk hc
      have HS := Shut.mk (HW.out.new #[.int .i64 u.group, .int .i64 u.index, .string u.text, .int .i64 u.sum] 70)
      have HSZ : Shut (u.text.size ≤ 9223372036854775807) := ⟨by rw [hu]; exact (HF.out.2 _ (List.getElem_mem hku)).1⟩
      clear hc hu
      go_upto_region 5 with fail
      obtain ⟨bb, hbb⟩ : ∃ q, q = wr.heap.size := ⟨_, rfl⟩
      rw [← hbb] at HS
      rw [← hbb] at lb
      refine wp_shade (fun W => SL w W [bxS bb [.int .i64 u.group, .int .i64 u.index, .string u.text, .int .i64 u.sum], bxS w.heap.size [.int .i64 id, .bool up, .slice (some ⟨b, off, none⟩) n cap]] ∧ Below wr.heap.size wr W) ⟨HS.out, (Below.refl _ _).alloc (Nat.le_refl _) _⟩ ?_
      intro W hW
      rw [← hbb]
      have H := Shut.mk hW.1
      have HBW := Shut.mk hW.2
      have HBB := Shut.mk hbb
      have lw : w.heap.size < W.heap.size := (hW.1.at 1 rfl).1
      have lq : bb < W.heap.size := (hW.1.at 0 rfl).1
      have lbW : b < W.heap.size := Nat.lt_of_lt_of_le (by rw [← hbb]; exact lb) hW.2.size
      have g0 : ∀ X : Grow W, X.val.cell? ⟨bb, 0, none⟩ = some (.int .i64 u.group) := fun X => X.cell (hW.1.bx 0 rfl 0 _ rfl).1 lq
      have g1 : ∀ X : Grow W, X.val.cell? ⟨bb, 1, none⟩ = some (.int .i64 u.index) := fun X => X.cell (hW.1.bx 0 rfl 1 _ rfl).1 lq
      have g2 : ∀ X : Grow W, X.val.cell? ⟨bb, 2, none⟩ = some (.string u.text) := fun X => X.cell (hW.1.bx 0 rfl 2 _ rfl).1 lq
      have g3 : ∀ X : Grow W, X.val.cell? ⟨bb, 3, none⟩ = some (.int .i64 u.sum) := fun X => X.cell (hW.1.bx 0 rfl 3 _ rfl).1 lq
      have gx : ∀ X : Grow W, X.val.cell? ⟨w.heap.size, 2, none⟩ = some (.slice (some ⟨b, off, none⟩) n cap) := fun X => X.cell (hW.1.bx 1 rfl 2 _ rfl).1 lw
      have HGR : Shut (∀ X : Grow W, SL w X.val [bxS w.heap.size [.int .i64 id, .bool up, .slice (some ⟨b, off, none⟩) n cap]]) := ⟨fun X => (SL.tail H.out).below X.bel⟩
      have HNO : Shut (unAt us k = false → unitsOk us = false) := ⟨unitsOk_no hku⟩
      have HONE : Shut (unAt us k = (inI u.group 1 100000 && inI u.index 0 5 && decide (u.text.size ≤ 200) && inI u.sum 0 4294967295 && (decide (k = 0) || unLt (us.getD (k - 1) default) u))) := ⟨by unfold unAt unOne; rw [HU.out]⟩
      clear hW hbb d0 d1 d2 d3 HW HS x2
      cases h_t1 : inI u.group 1 100000 with
      | false =>
        have It1 := Shut.mk (fun X => calls_same (w := W) (fun W' (_ : Below W.heap.size W W') => isInI u.group 1 100000 W' false h_t1) X)
        refine wp_region_grow (by kernel_rfl) (by kernel_rfl) ?_
        repeat (go_big_quiet_step (first | (go_at_call 66; first | with_reducible exact It1.out _ | fail)))
        refine wpQuiet_nil ?_
        rintro _ ⟨X, rfl⟩
        go_wp2_with fail
        go_ret
        exact ⟨by rw [HNO.out (by rw [HONE.out]; simp [*])]; rfl, HGR.out X |>.bel⟩
      | true =>
        have It1 := Shut.mk (fun X => calls_same (w := W) (fun W' (_ : Below W.heap.size W W') => isInI u.group 1 100000 W' true h_t1) X)
        cases h_t2 : inI u.index 0 5 with
        | false =>
          have It2 := Shut.mk (fun X => calls_same (w := W) (fun W' (_ : Below W.heap.size W W') => isInI u.index 0 5 W' false h_t2) X)
          refine wp_region_grow (by kernel_rfl) (by kernel_rfl) ?_
          repeat (go_big_quiet_step (first | (go_at_call 66; first | with_reducible exact It1.out _ | with_reducible exact It2.out _ | fail)))
          refine wpQuiet_nil ?_
          rintro _ ⟨X, rfl⟩
          go_wp2_with fail
          go_ret
          exact ⟨by rw [HNO.out (by rw [HONE.out]; simp [*])]; rfl, HGR.out X |>.bel⟩
        | true =>
          have It2 := Shut.mk (fun X => calls_same (w := W) (fun W' (_ : Below W.heap.size W W') => isInI u.index 0 5 W' true h_t2) X)
          by_cases h_t3 : u.text.size ≤ 200
          case neg =>
            have hd : decide (u.text.size ≤ 200) = false := by simpa using h_t3
            have h2 : decide ((200 : Int) < (u.text.size : Int)) = true := by simp; omega
            refine wp_region_grow (by kernel_rfl) (by kernel_rfl) ?_
            repeat (go_big_quiet_step (first | (go_at_call 66; first | with_reducible exact It1.out _ | with_reducible exact It2.out _ | fail)))
            refine wpQuiet_nil ?_
            rintro _ ⟨X, rfl⟩
            go_wp2_with fail
            go_ret
            exact ⟨by rw [HNO.out (by rw [HONE.out]; simp [*])]; rfl, HGR.out X |>.bel⟩
          have hd : decide (u.text.size ≤ 200) = true := by simpa using h_t3
          have h2 : decide ((200 : Int) < (u.text.size : Int)) = false := by simp; omega
          cases h_t4 : inI u.sum 0 4294967295 with
          | false =>
            have It4 := Shut.mk (fun X => calls_same (w := W) (fun W' (_ : Below W.heap.size W W') => isInI u.sum 0 4294967295 W' false h_t4) X)
            refine wp_region_grow (by kernel_rfl) (by kernel_rfl) ?_
            repeat (go_big_quiet_step (first | (go_at_call 66; first | with_reducible exact It1.out _ | with_reducible exact It2.out _ | with_reducible exact It4.out _ | fail)))
            refine wpQuiet_nil ?_
            rintro _ ⟨X, rfl⟩
            go_wp2_with fail
            go_ret
            exact ⟨by rw [HNO.out (by rw [HONE.out]; simp [*])]; rfl, HGR.out X |>.bel⟩
          | true =>
            have It4 := Shut.mk (fun X => calls_same (w := W) (fun W' (_ : Below W.heap.size W W') => isInI u.sum 0 4294967295 W' true h_t4) X)
            by_cases hz : k = 0
            case pos =>
              have hz' : decide ((0 : Int) < (k : Int)) = false := by simp; omega
              refine wp_region_grow (by kernel_rfl) (by kernel_rfl) ?_
              repeat (go_big_quiet_step (first | (go_at_call 66; first | with_reducible exact It1.out _ | with_reducible exact It2.out _ | with_reducible exact It4.out _ | fail)))
              refine wpQuiet_nil ?_
              rintro _ ⟨X, rfl⟩
              go_wp2_with fail
              go_roundw
              case rel => exact ⟨k + 1, by go_num, by omega, ⟨fun j hj => by rcases Nat.lt_succ_iff_lt_or_eq.1 hj with h | h; exact HG.out j h; subst h; rw [HONE.out]; simp [*]⟩, ⟨HGR.out X⟩⟩
              case measure => simp [intOf]; omega
            have hzd : decide (k = 0) = false := by simpa using hz
            have hz' : decide (0 < k) = true := by simp; omega
            have hz3 : 0 < k := by omega
            obtain ⟨e0, e1, e2, e3⟩ := HC.out (k - 1) (by omega)
            obtain ⟨y, hy⟩ : ∃ y, y = us[k - 1]'(by omega) := ⟨_, rfl⟩
            rw [← hy] at e0 e1 e2 e3
            have HY : Shut (us.getD (k - 1) default = y) := ⟨(getD_un us (k - 1) (by omega)).trans hy.symm⟩
            have p0 : ∀ X : Grow W, X.val.cell? ⟨b, off + (k - 1) * 4, none⟩ = some (.int .i64 y.group) := fun X => X.cell ((HBW.out.cell (p := ⟨b, off + (k - 1) * 4, none⟩) (by rw [← HBB.out]; exact lb)).trans e0) lbW
            have p1 : ∀ X : Grow W, X.val.cell? ⟨b, off + (k - 1) * 4 + 1, none⟩ = some (.int .i64 y.index) := fun X => X.cell ((HBW.out.cell (p := ⟨b, off + (k - 1) * 4 + 1, none⟩) (by rw [← HBB.out]; exact lb)).trans e1) lbW
            have p2 : ∀ X : Grow W, X.val.cell? ⟨b, off + (k - 1) * 4 + 2, none⟩ = some (.string y.text) := fun X => X.cell ((HBW.out.cell (p := ⟨b, off + (k - 1) * 4 + 2, none⟩) (by rw [← HBB.out]; exact lb)).trans e2) lbW
            have p3 : ∀ X : Grow W, X.val.cell? ⟨b, off + (k - 1) * 4 + 3, none⟩ = some (.int .i64 y.sum) := fun X => X.cell ((HBW.out.cell (p := ⟨b, off + (k - 1) * 4 + 3, none⟩) (by rw [← HBB.out]; exact lb)).trans e3) lbW
            have hk1 : (k : Int) - 1 = ((k - 1 : Nat) : Int) := by omega
            have hk2 : (0 : Int) ≤ ((k - 1 : Nat) : Int) := by omega
            have hk3 : ((k - 1 : Nat) : Int) < (n : Int) := by omega
            rw [HY.out] at HONE
            have HAH := Shut.mk (fun X => calls_grow (w := W) (fun W' (_ : Below W.heap.size W W') => specAhead y u W') X)
            clear hy e0 e1 e2 e3 hz
            cases hal : unLt y u with
            | false =>
              rw [hal] at HAH HONE
              refine wp_region_grow (by kernel_rfl) (by kernel_rfl) ?_
              repeat (go_big_quiet_step (first | (go_at_call 66; first | with_reducible exact It1.out _ | with_reducible exact It2.out _ | with_reducible exact It4.out _ | fail) | (go_at_call 63; with_reducible exact HAH.out _)))
              refine wpQuiet_nil ?_
              rintro _ ⟨X, rfl⟩
              go_wp2_with fail
              go_ret
              exact ⟨by rw [HNO.out (by rw [HONE.out]; simp [*])]; rfl, HGR.out X |>.bel⟩
            | true =>
              rw [hal] at HAH HONE
              refine wp_region_grow (by kernel_rfl) (by kernel_rfl) ?_
              repeat (go_big_quiet_step (first | (go_at_call 66; first | with_reducible exact It1.out _ | with_reducible exact It2.out _ | with_reducible exact It4.out _ | fail) | (go_at_call 63; with_reducible exact HAH.out _)))
              refine wpQuiet_nil ?_
              rintro _ ⟨X, rfl⟩
              go_wp2_with fail
              go_roundw
              case rel => exact ⟨k + 1, by go_num, by omega, ⟨fun j hj => by rcases Nat.lt_succ_iff_lt_or_eq.1 hj with h | h; exact HG.out j h; subst h; rw [HONE.out]; simp [*]⟩, ⟨HGR.out X⟩⟩
              case measure => simp [intOf]; omega
    · have e : k = n := by omega
      have HT : Shut (unitsOk us = true) := ⟨unitsOk_yes fun j hj => HG.out j (by have := HN.out; omega)⟩
      have x0 := (HW.out.bx 0 rfl 0 _ rfl).1
      have HI := Shut.mk (fun W => isInI id 1 7 W _ rfl)
      subst e
      go_wp2_with (go_at_call 66; refine (HI.out _).mono ?_; rintro e w1 ⟨rfl, rfl⟩)
      go_ret
      exact ⟨by rw [HT.out]; rfl, HW.out.bel⟩
end Go.Proofs.Ytoaifodmjkhiiaa
