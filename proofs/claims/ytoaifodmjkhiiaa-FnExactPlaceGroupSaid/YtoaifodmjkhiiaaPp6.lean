/- Texts of ours, laid one behind the other: TreE, TreP, TreQ, SpH, UnP, HpA, HeA. -/
import Derived.Test.YtoaifodmjkhiiaaPp5
import Derived.BigQuiet
import Derived.Deep.RegionHeld3
import Derived.Handy
/- TreE: Copies of trees. -/
namespace Go.Proofs.Ytoaifodmjkhiiaa
set_option maxRecDepth 100000
open Go.RowKit
attribute [local go_sem ↓] Go.wp_at_zero Go.wp_at_succ

end Go.Proofs.Ytoaifodmjkhiiaa
/- TreP: The walks of the models' TreeNew, l10At, l10File. -/
namespace Go.Proofs.Ytoaifodmjkhiiaa
set_option maxRecDepth 100000
open Go.RowKit
attribute [local go_sem ↓] Go.wp_at_zero Go.wp_at_succ

theorem nds_at (rs : List NR) (i : Nat) (h : i < rs.length) : (nds rs)[i]'(by rw [nds_len]; exact h) = rs[i].nd := by simp [nds]
end Go.Proofs.Ytoaifodmjkhiiaa
/- TreQ: The walk of the model's l10File. -/
namespace Go.Proofs.Ytoaifodmjkhiiaa
set_option maxRecDepth 100000
open Go.RowKit
attribute [local go_sem ↓] Go.wp_at_zero Go.wp_at_succ

theorem isInI (x a b : Int) (w : World) (r : Bool) (h : inI x a b = r) : Calls Try.prog 66 #[.int .i64 x, .int .i64 a, .int .i64 b] w fun e w' => e = .returned (.bool r) ∧ w' = w := isIn x a b w r h
theorem fileOk_no1 {n : NM} (h : inI n.schema 1 3 = false) : fileOk n = false := by unfold fileOk; rw [h]; rfl
theorem fileOk_no2 {n : NM} (h : n.quota ≠ 0) : fileOk n = false := by unfold fileOk; rw [show (n.quota == 0) = false by simpa using h]; simp
theorem fileOk_no3 {n : NM} (h : ¬ n.pieces.length ≤ 40) : fileOk n = false := by unfold fileOk; rw [decide_eq_false h]; simp
theorem fileOk_no4 {n : NM} (h : inI n.writer 0 9 = false) : fileOk n = false := by unfold fileOk; rw [h]; simp
theorem fileOk_no5 {n : NM} {p : PM} (hp : p ∈ n.pieces) (h : pieceOk n.schema p = false) : fileOk n = false := by
  have : n.pieces.all (pieceOk n.schema) = false := by
    cases e : n.pieces.all (pieceOk n.schema) with
    | false => rfl
    | true => rw [List.all_eq_true] at e; rw [e p hp] at h; cases h
  unfold fileOk; rw [this]; simp
theorem fileOk_yes {n : NM} (h1 : inI n.schema 1 3 = true) (h2 : n.quota = 0) (h3 : n.pieces.length ≤ 40) (h4 : inI n.writer 0 9 = true) (h5 : ∀ p ∈ n.pieces, pieceOk n.schema p = true) : fileOk n = ((sumP n.pieces == n.len) && decide (sumP n.pieces ≤ 1000)) := by
  unfold fileOk
  rw [h1, h2, decide_eq_true h3, h4, show n.pieces.all (pieceOk n.schema) = true from List.all_eq_true.2 h5]
  simp
end Go.Proofs.Ytoaifodmjkhiiaa
/- SpH: The models' SumText, l14Ahead, HostOk, l14At, GetUnit. -/
namespace Go.Proofs.Ytoaifodmjkhiiaa
set_option maxRecDepth 100000
open Go.RowKit BigFrame
attribute [local go_sem ↓] Go.wp_at_zero Go.wp_at_succ

theorem sumN_low (t : ByteArray) : 0 ≤ sumN t ∧ sumN t ≤ 4294967295 := by
  unfold sumN
  have := (W.sumOf t).isLt
  omega
theorem specSumText (t : ByteArray) (w : World) (hs : t.size ≤ 1048576) : Calls Try.prog 58 #[.string t] w fun e w' => e = .returned (.int .i64 (sumN t)) ∧ w' = w := by
  have h := sumN_low t
  have HP := Shut.mk (specSumOf t w hs)
  unfold u32 at HP
  rw [show (((W.sumOf t).toNat : Nat) : Int) = sumN t from rfl] at HP
  generalize sumN t = q at *
  go_enter Try.func58, Try.ntmps58
  go_wp2_with fail
  refine HP.out.mono ?_
  rintro e w1 ⟨rfl, rfl⟩
  go_wp2_with fail
  go_ret
  exact ⟨rfl, rfl⟩
theorem specAhead (a b : UnM) (w : World) : Calls Try.prog 63 #[unv a, unv b] w fun e w' => e = .returned (.bool (unLt a b)) ∧ Below w.heap.size w w' := by
  have hb : Below w.heap.size w ((w.alloc (.cells #[.int .i64 a.group, .int .i64 a.index, .string a.text, .int .i64 a.sum] 70)).alloc (.cells #[.int .i64 b.group, .int .i64 b.index, .string b.text, .int .i64 b.sum] 70)) := ((Below.refl _ _).alloc (Nat.le_refl _) _).alloc (by simp) _
  have HB := Shut.mk hb
  clear hb
  by_cases h1 : a.group < b.group
  · have HE : Shut (unLt a b = true) := ⟨by simp [unLt, h1]⟩
    go_enter Try.func63, Try.ntmps63
    go_wp2_with fail
    go_ret
    exact ⟨by rw [HE.out]; rfl, HB.out⟩
  · have h1' : decide (a.group < b.group) = false := by simpa using h1
    by_cases h2 : a.group = b.group
    · have h2' : (a.group == b.group) = true := by simpa using h2
      have HE : Shut (unLt a b = decide (a.index < b.index)) := ⟨by unfold unLt; rw [h1', h2']; simp⟩
      clear h2 h1
      go_enter Try.func63, Try.ntmps63
      go_wp2_with fail
      go_ret
      exact ⟨by rw [HE.out]; rfl, HB.out⟩
    · have h2' : (a.group == b.group) = false := by simpa using h2
      have HE : Shut (unLt a b = false) := ⟨by unfold unLt; rw [h1', h2']; simp⟩
      clear h2 h1
      go_enter Try.func63, Try.ntmps63
      go_wp2_with fail
      go_ret
      exact ⟨by rw [HE.out]; rfl, HB.out⟩
theorem getD_un (L : List UnM) (k : Nat) (h : k < L.length) : L.getD k default = L[k] := by simp [List.getD, h]
theorem unitsOk_no {L : List UnM} {k : Nat} (hk : k < L.length) (h : unAt L k = false) : unitsOk L = false := by
  cases hb : unitsOk L with
  | false => rfl
  | true => have := List.all_eq_true.1 hb k (by simpa using hk); rw [h] at this; cases this
theorem unitsOk_yes {L : List UnM} (h : ∀ k, k < L.length → unAt L k = true) : unitsOk L = true := List.all_eq_true.2 fun k hk => h k (by simpa using hk)
set_option maxRecDepth 100000 in
set_option maxHeartbeats 4000000 in
theorem specHostOk (H : HM) (a : Option Addr) (cap : Nat) (w : World) (hr : UnRow w a H.us) (hl : H.us.length ≤ 9000000) (hf : UnFits H.us) :
    Calls Try.prog 64 #[hov H a cap] w fun e w' => e = .returned (.bool (hostOk H)) ∧ Below w.heap.size w w' := by
  have HS0 := Shut.mk ((SL.start w).new #[.int .i64 H.id, .bool H.up, .slice a H.us.length cap] 29)
  have HR := Shut.mk hr
  have HF := Shut.mk hf
  clear hr hf
  obtain ⟨id, up, us⟩ := H
  show Calls Try.prog 64 #[.agg #[.int .i64 id, .bool up, .slice a us.length cap]] w fun e w' => e = .returned (.bool (unitsOk us && inI id 1 7)) ∧ Below w.heap.size w w'
  dsimp only at *
  obtain ⟨n, hn⟩ : ∃ n, n = us.length := ⟨_, rfl⟩
  have HN := Shut.mk hn
  rw [← hn] at HS0 hl ⊢
  clear hn
  go_enter Try.func64, Try.ntmps64
  go_upto_region 1 with fail
  refine wp_shade (fun W => SL w W [bxS w.heap.size [.int .i64 id, .bool up, .slice a n cap]]) HS0.out ?_
  intro W0 hW
  have HW := Shut.mk hW
  clear HS0 hW
  go_wp2_with fail
  go_loopw [3] (fun i wr => ∃ (k : Nat), i = .int .i64 k ∧ k ≤ n ∧ Shut (∀ j, j < k → unAt us j = true) ∧ Shut (SL w wr [bxS w.heap.size [.int .i64 id, .bool up, .slice a n cap]])) (fun i _ => n - (intOf i).toNat)
  case atStart => exact ⟨0, rfl, Nat.zero_le _, ⟨fun j hj => by omega⟩, HW⟩
  case round =>
    clear HW
    obtain ⟨k, rfl, hk, HG, HW⟩ := hrel
    have x2 := (HW.out.bx 0 rfl 2 _ rfl).1
    by_cases hlt : k < n
    · have hku : k < us.length := by rw [← HN.out]; exact hlt
      obtain ⟨b, off, rfl, lb, hc⟩ := UnRow.at (HR.out.stays HW.out.bel) (by omega)
      obtain ⟨d0, d1, d2, d3⟩ := hc k hku
      obtain ⟨u, hu⟩ : ∃ u, u = us[k] := ⟨_, rfl⟩
      rw [← hu] at d0 d1 d2 d3
      have HU : Shut (us.getD k default = u) := ⟨(getD_un us k hku).trans hu.symm⟩
      have k0 : (0 : Int) ≤ (k : Int) := by omega
      have k1 : (k : Int) < (n : Int) := by omega
      have HC := Shut.mk hc
      have HS := Shut.mk (HW.out.new #[.int .i64 u.group, .int .i64 u.index, .string u.text, .int .i64 u.sum] 70)
      have HSZ : Shut (u.text.size ≤ 9223372036854775807) := ⟨by rw [hu]; exact (HF.out.2 _ (List.getElem_mem hku)).1⟩
      clear hc hu
      go_upto_region 5 with fail
      obtain ⟨bb, hbb⟩ : ∃ q, q = wr.heap.size := ⟨_, rfl⟩
      rw [← hbb] at HS
      rw [← hbb] at lb
      refine wp_shade (fun W => SL w W [bxS bb [.int .i64 u.group, .int .i64 u.index, .string u.text, .int .i64 u.sum], bxS w.heap.size [.int .i64 id, .bool up, .slice (some ⟨b, off, none⟩) n cap]] ∧ Below wr.heap.size wr W) ⟨HS.out, (Below.refl _ _).alloc (Nat.le_refl _) _⟩ ?_
      intro W hW
      rw [← hbb]
      have H := Shut.mk hW.1
      have HBW := Shut.mk hW.2
      have HBB := Shut.mk hbb
      have lw : w.heap.size < W.heap.size := (hW.1.at 1 rfl).1
      have lq : bb < W.heap.size := (hW.1.at 0 rfl).1
      have lbW : b < W.heap.size := Nat.lt_of_lt_of_le (by rw [← hbb]; exact lb) hW.2.size
      have g0 : ∀ X : Grow W, X.val.cell? ⟨bb, 0, none⟩ = some (.int .i64 u.group) := fun X => X.cell (hW.1.bx 0 rfl 0 _ rfl).1 lq
      have g1 : ∀ X : Grow W, X.val.cell? ⟨bb, 1, none⟩ = some (.int .i64 u.index) := fun X => X.cell (hW.1.bx 0 rfl 1 _ rfl).1 lq
      have g2 : ∀ X : Grow W, X.val.cell? ⟨bb, 2, none⟩ = some (.string u.text) := fun X => X.cell (hW.1.bx 0 rfl 2 _ rfl).1 lq
      have g3 : ∀ X : Grow W, X.val.cell? ⟨bb, 3, none⟩ = some (.int .i64 u.sum) := fun X => X.cell (hW.1.bx 0 rfl 3 _ rfl).1 lq
      have gx : ∀ X : Grow W, X.val.cell? ⟨w.heap.size, 2, none⟩ = some (.slice (some ⟨b, off, none⟩) n cap) := fun X => X.cell (hW.1.bx 1 rfl 2 _ rfl).1 lw
      have HGR : Shut (∀ X : Grow W, SL w X.val [bxS w.heap.size [.int .i64 id, .bool up, .slice (some ⟨b, off, none⟩) n cap]]) := ⟨fun X => (SL.tail H.out).below X.bel⟩
      have HNO : Shut (unAt us k = false → unitsOk us = false) := ⟨unitsOk_no hku⟩
      have HONE : Shut (unAt us k = (inI u.group 1 100000 && inI u.index 0 5 && decide (u.text.size ≤ 200) && inI u.sum 0 4294967295 && (decide (k = 0) || unLt (us.getD (k - 1) default) u))) := ⟨by unfold unAt unOne; rw [HU.out]⟩
      clear hW hbb d0 d1 d2 d3 HW HS x2
      cases h_t1 : inI u.group 1 100000 with
      | false =>
        have It1 := Shut.mk (fun X => calls_same (w := W) (fun W' (_ : Below W.heap.size W W') => isInI u.group 1 100000 W' false h_t1) X)
        refine wp_region_grow (by kernel_rfl) (by kernel_rfl) ?_
        repeat (go_big_quiet_step (first | (go_at_call 66; first | with_reducible exact It1.out _ | fail)))
        refine wpQuiet_nil ?_
        rintro _ ⟨X, rfl⟩
        go_wp2_with fail
        go_ret
        exact ⟨by rw [HNO.out (by rw [HONE.out]; simp [*])]; rfl, HGR.out X |>.bel⟩
      | true =>
        have It1 := Shut.mk (fun X => calls_same (w := W) (fun W' (_ : Below W.heap.size W W') => isInI u.group 1 100000 W' true h_t1) X)
        cases h_t2 : inI u.index 0 5 with
        | false =>
          have It2 := Shut.mk (fun X => calls_same (w := W) (fun W' (_ : Below W.heap.size W W') => isInI u.index 0 5 W' false h_t2) X)
          refine wp_region_grow (by kernel_rfl) (by kernel_rfl) ?_
          repeat (go_big_quiet_step (first | (go_at_call 66; first | with_reducible exact It1.out _ | with_reducible exact It2.out _ | fail)))
          refine wpQuiet_nil ?_
          rintro _ ⟨X, rfl⟩
          go_wp2_with fail
          go_ret
          exact ⟨by rw [HNO.out (by rw [HONE.out]; simp [*])]; rfl, HGR.out X |>.bel⟩
        | true =>
          have It2 := Shut.mk (fun X => calls_same (w := W) (fun W' (_ : Below W.heap.size W W') => isInI u.index 0 5 W' true h_t2) X)
          by_cases h_t3 : u.text.size ≤ 200
          case neg =>
            have hd : decide (u.text.size ≤ 200) = false := by simpa using h_t3
            have h2 : decide ((200 : Int) < (u.text.size : Int)) = true := by simp; omega
            refine wp_region_grow (by kernel_rfl) (by kernel_rfl) ?_
            repeat (go_big_quiet_step (first | (go_at_call 66; first | with_reducible exact It1.out _ | with_reducible exact It2.out _ | fail)))
            refine wpQuiet_nil ?_
            rintro _ ⟨X, rfl⟩
            go_wp2_with fail
            go_ret
            exact ⟨by rw [HNO.out (by rw [HONE.out]; simp [*])]; rfl, HGR.out X |>.bel⟩
          have hd : decide (u.text.size ≤ 200) = true := by simpa using h_t3
          have h2 : decide ((200 : Int) < (u.text.size : Int)) = false := by simp; omega
          cases h_t4 : inI u.sum 0 4294967295 with
          | false =>
            have It4 := Shut.mk (fun X => calls_same (w := W) (fun W' (_ : Below W.heap.size W W') => isInI u.sum 0 4294967295 W' false h_t4) X)
            refine wp_region_grow (by kernel_rfl) (by kernel_rfl) ?_
            repeat (go_big_quiet_step (first | (go_at_call 66; first | with_reducible exact It1.out _ | with_reducible exact It2.out _ | with_reducible exact It4.out _ | fail)))
            refine wpQuiet_nil ?_
            rintro _ ⟨X, rfl⟩
            go_wp2_with fail
            go_ret
            exact ⟨by rw [HNO.out (by rw [HONE.out]; simp [*])]; rfl, HGR.out X |>.bel⟩
          | true =>
            have It4 := Shut.mk (fun X => calls_same (w := W) (fun W' (_ : Below W.heap.size W W') => isInI u.sum 0 4294967295 W' true h_t4) X)
            by_cases hz : k = 0
            case pos =>
              have hz' : decide ((0 : Int) < (k : Int)) = false := by simp; omega
              refine wp_region_grow (by kernel_rfl) (by kernel_rfl) ?_
              repeat (go_big_quiet_step (first | (go_at_call 66; first | with_reducible exact It1.out _ | with_reducible exact It2.out _ | with_reducible exact It4.out _ | fail)))
              refine wpQuiet_nil ?_
              rintro _ ⟨X, rfl⟩
              go_wp2_with fail
              go_roundw
              case rel => exact ⟨k + 1, by go_num, by omega, ⟨fun j hj => by rcases Nat.lt_succ_iff_lt_or_eq.1 hj with h | h; exact HG.out j h; subst h; rw [HONE.out]; simp [*]⟩, ⟨HGR.out X⟩⟩
              case measure => simp [intOf]; omega
            have hzd : decide (k = 0) = false := by simpa using hz
            have hz' : decide (0 < k) = true := by simp; omega
            have hz3 : 0 < k := by omega
            obtain ⟨e0, e1, e2, e3⟩ := HC.out (k - 1) (by omega)
            obtain ⟨y, hy⟩ : ∃ y, y = us[k - 1]'(by omega) := ⟨_, rfl⟩
            rw [← hy] at e0 e1 e2 e3
            have HY : Shut (us.getD (k - 1) default = y) := ⟨(getD_un us (k - 1) (by omega)).trans hy.symm⟩
            have p0 : ∀ X : Grow W, X.val.cell? ⟨b, off + (k - 1) * 4, none⟩ = some (.int .i64 y.group) := fun X => X.cell ((HBW.out.cell (p := ⟨b, off + (k - 1) * 4, none⟩) (by rw [← HBB.out]; exact lb)).trans e0) lbW
            have p1 : ∀ X : Grow W, X.val.cell? ⟨b, off + (k - 1) * 4 + 1, none⟩ = some (.int .i64 y.index) := fun X => X.cell ((HBW.out.cell (p := ⟨b, off + (k - 1) * 4 + 1, none⟩) (by rw [← HBB.out]; exact lb)).trans e1) lbW
            have p2 : ∀ X : Grow W, X.val.cell? ⟨b, off + (k - 1) * 4 + 2, none⟩ = some (.string y.text) := fun X => X.cell ((HBW.out.cell (p := ⟨b, off + (k - 1) * 4 + 2, none⟩) (by rw [← HBB.out]; exact lb)).trans e2) lbW
            have p3 : ∀ X : Grow W, X.val.cell? ⟨b, off + (k - 1) * 4 + 3, none⟩ = some (.int .i64 y.sum) := fun X => X.cell ((HBW.out.cell (p := ⟨b, off + (k - 1) * 4 + 3, none⟩) (by rw [← HBB.out]; exact lb)).trans e3) lbW
            have hk1 : (k : Int) - 1 = ((k - 1 : Nat) : Int) := by omega
            have hk2 : (0 : Int) ≤ ((k - 1 : Nat) : Int) := by omega
            have hk3 : ((k - 1 : Nat) : Int) < (n : Int) := by omega
            rw [HY.out] at HONE
            have HAH := Shut.mk (fun X => calls_grow (w := W) (fun W' (_ : Below W.heap.size W W') => specAhead y u W') X)
            clear hy e0 e1 e2 e3 hz
            cases hal : unLt y u with
            | false =>
              rw [hal] at HAH HONE
              refine wp_region_grow (by kernel_rfl) (by kernel_rfl) ?_
              repeat (go_big_quiet_step (first | (go_at_call 66; first | with_reducible exact It1.out _ | with_reducible exact It2.out _ | with_reducible exact It4.out _ | fail) | (go_at_call 63; with_reducible exact HAH.out _)))
              refine wpQuiet_nil ?_
              rintro _ ⟨X, rfl⟩
              go_wp2_with fail
              go_ret
              exact ⟨by rw [HNO.out (by rw [HONE.out]; simp [*])]; rfl, HGR.out X |>.bel⟩
            | true =>
              rw [hal] at HAH HONE
              refine wp_region_grow (by kernel_rfl) (by kernel_rfl) ?_
              repeat (go_big_quiet_step (first | (go_at_call 66; first | with_reducible exact It1.out _ | with_reducible exact It2.out _ | with_reducible exact It4.out _ | fail) | (go_at_call 63; with_reducible exact HAH.out _)))
              refine wpQuiet_nil ?_
              rintro _ ⟨X, rfl⟩
              go_wp2_with fail
              go_roundw
              case rel => exact ⟨k + 1, by go_num, by omega, ⟨fun j hj => by rcases Nat.lt_succ_iff_lt_or_eq.1 hj with h | h; exact HG.out j h; subst h; rw [HONE.out]; simp [*]⟩, ⟨HGR.out X⟩⟩
              case measure => simp [intOf]; omega
    · have e : k = n := by omega
      have HT : Shut (unitsOk us = true) := ⟨unitsOk_yes fun j hj => HG.out j (by have := HN.out; omega)⟩
      have x0 := (HW.out.bx 0 rfl 0 _ rfl).1
      have HI := Shut.mk (fun W => isInI id 1 7 W _ rfl)
      subst e
      go_wp2_with (go_at_call 66; refine (HI.out _).mono ?_; rintro e w1 ⟨rfl, rfl⟩)
      go_ret
      exact ⟨by rw [HT.out]; rfl, HW.out.bel⟩
end Go.Proofs.Ytoaifodmjkhiiaa
/- UnP: Units that go up by their keys, plain: what is put lies in its place; what is put is got, until it is spoilt or gone; all others stay. -/
namespace Go.Proofs.Ytoaifodmjkhiiaa
set_option maxRecDepth 100000
open Go.RowKit

theorem sum_turned (t : ByteArray) (i : Nat) (h : i < t.size) : sumN (turnAt t i) ≠ sumN t := by
  intro e
  have hl : t.data.toList.length = t.size := Array.length_toList
  have e1 : W.sumOf (turnAt t i) = W.sumOf t := by
    unfold sumN at e
    exact BitVec.eq_of_toNat_eq (by omega)
  have hi : i < t.data.toList.length := by omega
  have e2 : t.data.toList = t.data.toList.take i ++ t.data.toList[i] :: t.data.toList.drop (i + 1) := by
    rw [← List.drop_eq_getElem_cons hi, List.take_append_drop]
  have e3 : (turnAt t i).data.toList = t.data.toList.take i ++ (t.data.toList[i] ^^^ 1) :: t.data.toList.drop (i + 1) := by
    unfold turnAt
    have : t.data.toList.getD i 0 = t.data.toList[i] := by simp only [List.getD, List.getElem?_eq_getElem hi, Option.getD_some]
    rw [this]
    show (t.data.toList.set i _).toArray.toList = _
    rw [List.set_eq_take_append_cons_drop, if_pos hi]
  unfold W.sumOf at e1
  rw [e3] at e1
  conv at e1 => rhs; rw [e2]
  have k := W.crc_turned _ _ _ _ _ e1
  generalize t.data.toList[i] = b at k
  have all : ∀ y : Fin 256, (UInt8.ofNat y.val ^^^ 1) ≠ UInt8.ofNat y.val := by decide +kernel
  have := all ⟨b.toNat, b.toNat_lt⟩
  simp at this
  exact this k
/-- One key. -/
def unSame (a b : UnM) : Bool := a.group == b.group && a.index == b.index
def keyIs (g i : Int) (u : UnM) : Bool := u.group == g && u.index == i
theorem lt_iff (a b : UnM) : unLt a b = true ↔ (a.group < b.group ∨ (a.group = b.group ∧ a.index < b.index)) := by
  unfold unLt
  simp
theorem lt_not (a b : UnM) : unLt a b = false ↔ ¬ (a.group < b.group ∨ (a.group = b.group ∧ a.index < b.index)) := by
  rw [← lt_iff]
  simp
theorem lt_trans9 {a b c : UnM} (h : unLt a b = true) (k : unLt b c = true) : unLt a c = true := by
  rw [lt_iff] at *
  omega
theorem lt_asymm9 {a b : UnM} (h : unLt a b = true) : unLt b a = false := by
  rw [lt_iff] at h
  rw [lt_not]
  omega
theorem same_iff (a b : UnM) : unSame a b = true ↔ a.group = b.group ∧ a.index = b.index := by
  unfold unSame
  simp
theorem lt_tri {a b : UnM} (h : unLt a b = false) (k : unSame a b = false) : unLt b a = true := by
  rw [lt_not] at h
  rw [lt_iff]
  have : ¬ (a.group = b.group ∧ a.index = b.index) := by rw [← same_iff]; simp [k]
  omega
theorem same_lt {a b c : UnM} (h : unSame a b = true) (k : unLt a c = true) : unLt b c = true := by
  rw [same_iff] at h
  rw [lt_iff] at *
  omega
theorem same_irr {a b : UnM} (h : unSame a b = true) : unLt b a = false := by
  rw [same_iff] at h
  rw [lt_not]
  omega
/-- Units go up. -/
def UpU (L : List UnM) : Prop := L.Pairwise fun a b => unLt a b = true
theorem unAt_get {L : List UnM} {k : Nat} (hk : k < L.length) : unAt L k = (unOne L[k] && (decide (k = 0) || unLt (L.getD (k - 1) default) L[k])) := by
  unfold unAt
  have : L.getD k default = L[k] := by simp [List.getD, hk]
  rw [this]
theorem up_of_ok {L : List UnM} (h : unitsOk L = true) : UpU L := by
  have hk : ∀ k (hk : k + 1 < L.length), unLt L[k] L[k + 1] = true := fun k hk => by
    have := List.all_eq_true.1 h (k + 1) (by simpa using hk)
    rw [unAt_get hk] at this
    simp only [Bool.and_eq_true, Bool.or_eq_true, decide_eq_true_eq, Nat.add_one_ne_zero, false_or, Nat.add_sub_cancel] at this
    have e : L.getD k default = L[k] := by simp [List.getD, show k < L.length by omega]
    rw [e] at this
    exact this.2
  refine List.pairwise_iff_getElem.2 fun i j hi hj hij => ?_
  induction j with
  | zero => omega
  | succ j ih =>
    rcases Nat.lt_or_eq_of_le (Nat.le_of_lt_succ hij) with e | e
    · exact lt_trans9 (ih (by omega) e) (hk j hj)
    · subst e
      exact hk i hj
theorem one_of_ok {L : List UnM} (h : unitsOk L = true) : ∀ u ∈ L, unOne u = true := fun u hu => by
  obtain ⟨k, hk, rfl⟩ := List.getElem_of_mem hu
  have := List.all_eq_true.1 h k (by simpa using hk)
  rw [unAt_get hk] at this
  simp only [Bool.and_eq_true] at this
  exact this.1
theorem ok_of_up {L : List UnM} (h : UpU L) (h1 : ∀ u ∈ L, unOne u = true) : unitsOk L = true := by
  refine List.all_eq_true.2 fun k hk => ?_
  have hk : k < L.length := by simpa using hk
  rw [unAt_get hk, h1 _ (List.getElem_mem hk)]
  by_cases h0 : k = 0
  · simp [h0]
  · have e : L.getD (k - 1) default = L[k - 1] := by simp [List.getD, show k - 1 < L.length by omega]
    rw [e, List.pairwise_iff_getElem.1 h (k - 1) k (by omega) hk (by omega)]
    simp
/-- What is put lies between what is ahead of it and what is behind it. -/
theorem putL_cut {L : List UnM} {u : UnM} {i : Nat} (h1 : ∀ j (hj : j < L.length), j < i → unLt L[j] u = true) (h2 : ∀ j (hj : j < L.length), i ≤ j → unLt L[j] u = false) (hs : UpU L) :
    putL L u = L.take i ++ [u] ++ L.drop (if ∃ h : i < L.length, unSame L[i] u = true then i + 1 else i) := by
  have a1 : ∀ x ∈ L.take i, unLt x u = true := fun x hx => by
    obtain ⟨j, hj, rfl⟩ := List.getElem_of_mem hx
    rw [List.length_take] at hj
    rw [List.getElem_take]
    exact h1 j (by omega) (by omega)
  have a2 : ∀ x ∈ L.drop i, unLt x u = false := fun x hx => by
    obtain ⟨j, hj, rfl⟩ := List.getElem_of_mem hx
    rw [List.length_drop] at hj
    rw [List.getElem_drop]
    exact h2 (i + j) (by omega) (by omega)
  have e1 : L.filter (unLt · u) = L.take i := by
    conv => lhs; rw [← List.take_append_drop i L]
    rw [List.filter_append, List.filter_eq_self.2 a1, List.filter_eq_nil_iff.2 (fun x hx => by rw [a2 x hx]; simp), List.append_nil]
  have e2 : L.filter (unLt u ·) = (L.drop i).filter (unLt u ·) := by
    conv => lhs; rw [← List.take_append_drop i L]
    rw [List.filter_append, List.filter_eq_nil_iff.2 (fun x hx => by rw [lt_asymm9 (a1 x hx)]; simp), List.nil_append]
  unfold putL
  rw [e1, e2]
  congr 1
  by_cases hi : i < L.length
  · have hd : L.drop i = L[i] :: L.drop (i + 1) := List.drop_eq_getElem_cons hi
    have hr : ∀ x ∈ L.drop (i + 1), unLt L[i] x = true := fun x hx => by
      have hs' : UpU (L.drop i) := List.Pairwise.sublist (List.drop_sublist _ _) hs
      unfold UpU at hs'
      rw [hd] at hs'
      exact (List.pairwise_cons.1 hs').1 x hx
    cases hq : unSame L[i] u with
    | true =>
      rw [if_pos ⟨hi, hq⟩, hd, List.filter_cons, same_irr hq]
      simp only [Bool.false_eq_true, if_false]
      exact List.filter_eq_self.2 fun x hx => same_lt hq (hr x hx)
    | false =>
      rw [if_neg (fun ⟨_, h⟩ => by rw [hq] at h; cases h)]
      have hlt : unLt u L[i] = true := lt_tri (h2 i hi (Nat.le_refl _)) hq
      refine List.filter_eq_self.2 fun x hx => ?_
      rw [hd] at hx
      rcases List.mem_cons.1 hx with rfl | hx
      · exact hlt
      · exact lt_trans9 hlt (hr x hx)
  · rw [if_neg (fun ⟨h, _⟩ => hi h), List.drop_of_length_le (by omega)]
    rfl
/-- What is got, by the first one of a key. -/
theorem getX_find (h : HM) (g i : Int) : getX h g i = match h.us.find? (keyIs g i) with
    | some u => if h.up && unSound u then (u.text, true) else (⟨#[]⟩, false)
    | none => (⟨#[]⟩, false) := by
  have hk : ∀ L : List UnM, L.find? (keyIs g i) = if unIdx L g i < L.length then some (L.getD (unIdx L g i) default) else none := by
    intro L
    induction L with
    | nil => rfl
    | cons a L ih =>
      unfold unIdx at *
      rw [List.find?_cons, List.findIdx_cons]
      show (match keyIs g i a with | true => some a | false => L.find? (keyIs g i)) = if (bif keyIs g i a then 0 else L.findIdx (keyIs g i) + 1) < (a :: L).length then some ((a :: L).getD (bif keyIs g i a then 0 else L.findIdx (keyIs g i) + 1) default) else none
      cases keyIs g i a with
      | true => simp
      | false =>
        have e : L.findIdx (fun u => u.group == g && u.index == i) = L.findIdx (keyIs g i) := rfl
        rw [e] at ih
        dsimp only
        rw [ih]
        simp
  rw [hk]
  unfold getX
  by_cases hl : unIdx h.us g i < h.us.length
  · rw [if_pos hl]
    simp [hl]
  · rw [if_neg hl]
    simp [hl]
theorem putX_parts {L : List UnM} {u : UnM} (hs : UpU L) : ∃ A M Z, L = A ++ M ++ Z ∧ putL L u = A ++ [u] ++ Z ∧ (∀ x ∈ A, unLt x u = true) ∧ (∀ x ∈ Z, unLt u x = true) ∧ (∀ x ∈ M, unSame x u = true) := by
  refine ⟨L.filter (unLt · u), L.filter (unSame · u), L.filter (unLt u ·), ?_, rfl, fun x hx => (List.mem_filter.1 hx).2, fun x hx => (List.mem_filter.1 hx).2, fun x hx => (List.mem_filter.1 hx).2⟩
  induction L with
  | nil => rfl
  | cons a L ih =>
    have h1 := List.pairwise_cons.1 hs
    have ih := ih h1.2
    rw [List.filter_cons, List.filter_cons, List.filter_cons]
    cases ha : unLt a u with
    | true =>
      have hb : unLt u a = false := lt_asymm9 ha
      have hc : unSame a u = false := by cases hc : unSame a u with
        | false => rfl
        | true =>
          have h2 := (same_iff _ _).1 hc
          have h3 := (lt_iff _ _).1 ha
          omega
      rw [hb, hc]
      simp only [if_true, Bool.false_eq_true, if_false, List.cons_append, List.cons.injEq, true_and]
      exact ih
    | false =>
      have n1 : L.filter (unLt · u) = [] := by
        refine List.filter_eq_nil_iff.2 fun x hx => ?_
        have := h1.1 x hx
        have h4 := (lt_iff _ _).1 this
        have h5 := (lt_not _ _).1 ha
        have : ¬ unLt x u = true := by rw [lt_iff]; omega
        exact this
      rw [n1] at ih ⊢
      cases hb : unSame a u with
      | true =>
        rw [same_irr hb]
        simp only [if_true, Bool.false_eq_true, if_false, List.cons_append, List.nil_append, List.cons.injEq, true_and] at *
        exact ih
      | false =>
        have hc : unLt u a = true := lt_tri ha hb
        have n2 : L.filter (unSame · u) = [] := by
          refine List.filter_eq_nil_iff.2 fun x hx => ?_
          have h4 := (lt_iff _ _).1 (h1.1 x hx)
          have h5 := (lt_iff _ _).1 hc
          have : ¬ unSame x u = true := by rw [same_iff]; omega
          exact this
        rw [n2] at ih ⊢
        rw [hc]
        simp only [if_true, Bool.false_eq_true, if_false, List.nil_append, List.cons.injEq, true_and] at *
        exact ih
theorem key_same {u x : UnM} : keyIs u.group u.index x = unSame x u := rfl
theorem lt_nokey {u x : UnM} (h : unLt x u = true ∨ unLt u x = true) : unSame x u = false := by
  cases hc : unSame x u with
  | false => rfl
  | true =>
    have h2 := (same_iff _ _).1 hc
    rw [lt_iff, lt_iff] at h
    omega
theorem find_mid {A Z : List UnM} {u v : UnM} (hA : ∀ x ∈ A, unSame x u = false) (hv : unSame v u = true) : (A ++ [v] ++ Z).find? (keyIs u.group u.index) = some v := by
  rw [List.append_assoc, List.find?_append, List.find?_eq_none.2 (fun x hx => by rw [key_same, hA x hx]; simp)]
  simp [key_same, hv]
theorem idx_mid {A Z : List UnM} {u v : UnM} (hA : ∀ x ∈ A, unSame x u = false) (hv : unSame v u = true) : unIdx (A ++ [v] ++ Z) u.group u.index = A.length := by
  unfold unIdx
  rw [List.findIdx_eq (by simp)]
  refine ⟨?_, fun j hj => ?_⟩
  · simp only [List.append_assoc, List.cons_append, List.nil_append, List.getElem_append_right (Nat.le_refl _), Nat.sub_self, List.getElem_cons_zero]
    exact hv
  · have : (A ++ [v] ++ Z)[j]'(by simp; omega) = A[j] := by
      simp [List.getElem_append_left, hj]
    rw [this]
    exact hA _ (List.getElem_mem hj)
theorem get_mid {A Z : List UnM} {v : UnM} : (A ++ [v] ++ Z).getD A.length default = v := by simp [List.getD]
theorem set_midU {A Z : List UnM} {v x : UnM} : (A ++ [v] ++ Z).set A.length x = A ++ [x] ++ Z := by simp
theorem cut_mid {A Z : List UnM} {v : UnM} : (A ++ [v] ++ Z).take A.length ++ (A ++ [v] ++ Z).drop (A.length + 1) = A ++ Z := by
  have : A ++ [v] ++ Z = A ++ (v :: Z) := by simp
  rw [this, List.take_left, ← List.drop_drop, List.drop_left]
  rfl
theorem lt_mid {A Z : List UnM} {v : UnM} : A.length < (A ++ [v] ++ Z).length := by simp
theorem size_list (t : ByteArray) (h : 0 < t.size) : (t.toList == []) = false := by
  rw [Go.ByteArray.toList_eq]
  cases hq : t.data.toList with
  | cons a l => rfl
  | nil =>
    have : t.data.toList.length = t.size := rfl
    rw [hq] at this
    simp at this
    omega
/-- Nothing that FnUnits asks of plain hosts is otherwise. -/
structure UnitsAll (H : HM) (u : UnM) (p : Int) (N B D : HM) : Prop where
  put : putX H u = (N, true)
  up : N.up = true
  okN : hostOk N = true
  got : getX N u.group u.index = (u.text, true)
  spoil : spoilX N u.group u.index p = (B, true)
  okB : hostOk B = true
  bad : (getX B u.group u.index).2 = false
  again : spoilX B u.group u.index p = (B, false)
  drop : dropU N u.group u.index = (D, true)
  okD : hostOk D = true
  none : (getX D u.group u.index).2 = false
  others : ∀ x ∈ H.us, unSame x u = false → getX H x.group x.index = getX D x.group x.index
  down : (getX ⟨N.id, false, N.us⟩ u.group u.index).2 = false
  len : D.us.length + 1 = N.us.length
  low : N.us.length ≤ H.us.length + 1
theorem up_mid {A Z : List UnM} {v : UnM} (hs : UpU (A ++ Z)) (h1 : ∀ x ∈ A, unLt x v = true) (h2 : ∀ x ∈ Z, unLt v x = true) : UpU (A ++ [v] ++ Z) := by
  unfold UpU at *
  rw [List.pairwise_append] at hs
  rw [List.append_assoc, List.pairwise_append]
  refine ⟨hs.1, ?_, fun x hx y hy => ?_⟩
  · rw [List.cons_append, List.nil_append, List.pairwise_cons]
    exact ⟨h2, hs.2.1⟩
  · rcases List.mem_append.1 hy with h | h
    · simp at h; subst h; exact h1 x hx
    · exact hs.2.2 x hx y h
theorem units_all (H : HM) (u : UnM) (p : Int) (hup : H.up = true) (hok : hostOk H = true) (hg : 1 ≤ u.group ∧ u.group ≤ 100000) (hi : 0 ≤ u.index ∧ u.index ≤ 5) (ht : u.text.size ≤ 200) (ht0 : 0 < u.text.size) (hp : 0 ≤ p) : ∃ N B D, UnitsAll H u p N B D := by
  have hu : unitsOk H.us = true ∧ inI H.id 1 7 = true := by unfold hostOk at hok; simpa using hok
  have hs := up_of_ok hu.1
  have hone := one_of_ok hu.1
  have so : summed u = ⟨u.group, u.index, u.text, sumN u.text⟩ := rfl
  obtain ⟨A, M, Z, hL, hput, hA, hZ, hM⟩ := putX_parts (u := summed u) hs
  have hAs : ∀ x ∈ A, unSame x u = false := fun x hx => lt_nokey (u := summed u) (.inl (hA x hx))
  have hZs : ∀ x ∈ Z, unSame x u = false := fun x hx => lt_nokey (u := summed u) (.inr (hZ x hx))
  have same : ∀ t s, unSame ⟨u.group, u.index, t, s⟩ u = true := fun t s => by unfold unSame; simp
  have hlow := sumN_low u.text
  have hAZ : UpU (A ++ Z) := by
    have : (A ++ Z).Sublist H.us := by
      rw [hL, List.append_assoc]
      exact List.Sublist.append (List.Sublist.refl _) (List.sublist_append_right _ _)
    exact List.Pairwise.sublist this hs
  have h1A : ∀ x ∈ A ++ Z, unOne x = true := fun x hx => hone x (by
    rw [hL]
    rcases List.mem_append.1 hx with h | h
    · exact List.mem_append_left _ (List.mem_append_left _ h)
    · exact List.mem_append_right _ h)
  have ok3 : ∀ t : ByteArray, t.size ≤ 200 → hostOk ⟨H.id, H.up, A ++ [⟨u.group, u.index, t, sumN u.text⟩] ++ Z⟩ = true := fun t ht => by
    unfold hostOk
    dsimp only
    rw [hu.2, Bool.and_true]
    refine ok_of_up (up_mid hAZ (fun x hx => ?_) (fun x hx => ?_)) fun x hx => ?_
    · have := (lt_iff _ _).1 (hA x hx); rw [lt_iff]; exact this
    · have := (lt_iff _ _).1 (hZ x hx); rw [lt_iff]; exact this
    · rcases List.mem_append.1 hx with h | h
      · rcases List.mem_append.1 h with h | h
        · exact h1A x (List.mem_append_left _ h)
        · simp at h
          subst h
          unfold unOne inI
          simp [hg, hi, hlow, ht]
      · exact h1A x (List.mem_append_right _ h)
  have idx : ∀ t s, unIdx (A ++ [⟨u.group, u.index, t, s⟩] ++ Z) u.group u.index = A.length := fun t s => idx_mid hAs (same t s)
  have hsize : ∀ k, (turnAt u.text k).size = u.text.size := fun k => by
    unfold turnAt
    show (u.text.data.toList.set k _).toArray.size = u.text.data.size
    simp
  have hnone : (A ++ Z).find? (keyIs u.group u.index) = none := List.find?_eq_none.2 fun x hx => by
    rw [key_same]
    rcases List.mem_append.1 hx with h | h
    · rw [hAs x h]; simp
    · rw [hZs x h]; simp
  have hturn := sum_turned u.text (p.toNat % u.text.size) (Nat.mod_lt _ ht0)
  refine ⟨⟨H.id, H.up, A ++ [⟨u.group, u.index, u.text, sumN u.text⟩] ++ Z⟩, ⟨H.id, H.up, A ++ [⟨u.group, u.index, turnAt u.text (p.toNat % u.text.size), sumN u.text⟩] ++ Z⟩, ⟨H.id, H.up, A ++ Z⟩, ?_⟩
  constructor
  · unfold putX
    rw [hput, so, hok, hup, ← hup, ok3 _ ht, hup]
    rfl
  · exact hup
  · exact ok3 _ ht
  · rw [getX_find, find_mid hAs (same _ _)]
    unfold unSound
    simp [hup]
  · unfold spoilX
    dsimp only
    rw [idx, get_mid, set_midU]
    dsimp only
    rw [size_list _ ht0]
    unfold unSound
    simp [hp]
  · exact ok3 _ (by rw [hsize]; exact ht)
  · rw [getX_find, find_mid hAs (same _ _)]
    unfold unSound
    have : (sumN u.text == sumN (turnAt u.text (p.toNat % u.text.size))) = false := by
      cases hq : sumN u.text == sumN (turnAt u.text (p.toNat % u.text.size)) with
      | false => rfl
      | true => exact absurd (by simpa using hq : sumN u.text = _).symm hturn
    dsimp only
    rw [this]
    simp
  · unfold spoilX
    dsimp only
    rw [idx, get_mid]
    unfold unSound
    have : (sumN u.text == sumN (turnAt u.text (p.toNat % u.text.size))) = false := by
      cases hq : sumN u.text == sumN (turnAt u.text (p.toNat % u.text.size)) with
      | false => rfl
      | true => exact absurd (by simpa using hq : sumN u.text = _).symm hturn
    dsimp only
    rw [this]
    simp
  · unfold dropU
    dsimp only
    rw [idx, if_pos lt_mid, cut_mid]
  · unfold hostOk
    dsimp only
    rw [ok_of_up hAZ h1A, hu.2]
    rfl
  · rw [getX_find]
    dsimp only
    rw [hnone]
  · intro x hx hxu
    rw [getX_find, getX_find]
    have e : H.us.find? (keyIs x.group x.index) = (A ++ Z).find? (keyIs x.group x.index) := by
      rw [hL, List.find?_append, List.find?_append, List.find?_append, (show M.find? (keyIs x.group x.index) = none from List.find?_eq_none.2 fun y hy => ?_), Option.or_none]
      have h1 := (same_iff _ _).1 (hM y hy)
      have h2 : ¬ unSame x u = true := by rw [hxu]; simp
      rw [same_iff] at h2
      intro h3
      have h4 : unSame y x = true := h3
      rw [same_iff] at h4
      rw [so] at h1
      dsimp only at h1
      omega
    rw [e]
  · rw [getX_find]
    dsimp only
    split <;> simp
  · simp
    omega
  · show (A ++ [_] ++ Z).length ≤ _
    rw [hL]
    simp
    omega
end Go.Proofs.Ytoaifodmjkhiiaa
/- HpA: The program's own: one unit held against another; units and hosts that are right (written by gen/mkhpa.py). -/
namespace Go.Proofs.Ytoaifodmjkhiiaa
set_option maxRecDepth 100000
open Go.RowKit BigFrame
attribute [local go_sem ↓] Go.wp_at_zero Go.wp_at_succ

def cmpI (x y : Int) : Int := if x < y then -1 else if y < x then 1 else 0
def cmpU (a b : UnM) : Int := if cmpI a.group b.group = 0 then cmpI a.index b.index else cmpI a.group b.group
theorem cmpI_is (x y : Int) : (x < y ∧ cmpI x y = -1) ∨ (y < x ∧ cmpI x y = 1) ∨ (x = y ∧ cmpI x y = 0) := by
  unfold cmpI
  split
  · exact .inl ⟨by assumption, rfl⟩
  · split
    · exact .inr (.inl ⟨by assumption, rfl⟩)
    · exact .inr (.inr ⟨by omega, rfl⟩)
theorem cmpU_neg (a b : UnM) : cmpU a b < 0 ↔ unLt a b = true := by
  rw [lt_iff]
  unfold cmpU
  have h1 := cmpI_is a.group b.group
  have h2 := cmpI_is a.index b.index
  split <;> omega
theorem cmpU_zero (a b : UnM) : cmpU a b = 0 ↔ unSame a b = true := by
  rw [same_iff]
  unfold cmpU
  have h1 := cmpI_is a.group b.group
  have h2 := cmpI_is a.index b.index
  split <;> omega
theorem nan_int (x : Int) (w : World) : Calls Try.prog 99 #[.int .i64 x] w fun e w' => e = .returned (.bool false) ∧ w' = w := by
  have h : (x != x) = false := by simp
  go_enter Try.func99, Try.ntmps99
  go_wp2_with fail
  go_ret
  exact ⟨rfl, rfl⟩
theorem cmp_int (x y : Int) (w : World) : Calls Try.prog 98 #[.int .i64 x, .int .i64 y] w fun e w' => e = .returned (.int .i64 (cmpI x y)) ∧ w' = w := by
  have HN := Shut.mk (fun z => nan_int z w)
  rcases cmpI_is x y with ⟨h, e⟩ | ⟨h, e⟩ | ⟨h, e⟩
  · rw [e]
    clear e
    go_enter Try.func98, Try.ntmps98
    go_wp2_with (go_at_call 99; refine (HN.out _).mono ?_; rintro e w1 ⟨rfl, hw1⟩; subst hw1)
    go_ret
    exact ⟨rfl, rfl⟩
  · rw [e]
    have h1 : ¬ x < y := by omega
    clear e
    go_enter Try.func98, Try.ntmps98
    go_wp2_with (go_at_call 99; refine (HN.out _).mono ?_; rintro e w1 ⟨rfl, hw1⟩; subst hw1)
    go_ret
    exact ⟨rfl, rfl⟩
  · rw [e]
    have h1 : ¬ x < y := by omega
    have h2 : ¬ y < x := by omega
    clear e h
    go_enter Try.func98, Try.ntmps98
    go_wp2_with (go_at_call 99; refine (HN.out _).mono ?_; rintro e w1 ⟨rfl, hw1⟩; subst hw1)
    go_ret
    exact ⟨rfl, rfl⟩
theorem or_two (g : Nat) (x y : Int) (c : Nat) (w : World) (h0 : w.cell? ⟨g, 0, none⟩ = some (.int .i64 x)) (h1 : w.cell? ⟨g, 1, none⟩ = some (.int .i64 y)) :
    Calls Try.prog 97 #[.slice (some ⟨g, 0, none⟩) 2 c] w fun e w' => e = .returned (.int .i64 (if x = 0 then y else x)) ∧ w' = w := by
  obtain ⟨R, hR⟩ : ∃ R, R = if x = 0 then y else x := ⟨_, rfl⟩
  rw [← hR]
  have HR := Shut.mk hR
  clear hR
  go_enter Try.func97, Try.ntmps97
  go_wp2_with fail
  go_loop [8] (fun i9 => ∃ (k : Nat), i9 = .int .i64 k ∧ k ≤ 2 ∧ Shut (1 ≤ k → x = 0) ∧ Shut (2 ≤ k → y = 0)) (fun i9 => 2 - (intOf i9).toNat)
  case atStart => exact ⟨0, rfl, by omega, ⟨by omega⟩, ⟨by omega⟩⟩
  case round =>
    obtain ⟨k, rfl, hk, HX, HY⟩ := hrel
    match k, hk with
    | 0, _ =>
      by_cases hx : x = 0
      · have hx1 : (x != 0) = false := by simp [hx]
        have HX0 := Shut.mk hx
        clear hx
        go_wp2_with fail
        go_round
        case rel => exact ⟨1, by go_num, by omega, ⟨fun _ => HX0.out⟩, ⟨by omega⟩⟩
        case measure => simp [intOf]
      · have hx1 : (x != 0) = true := by simp [hx]
        have HE : Shut (R = x) := ⟨by rw [HR.out, if_neg hx]⟩
        clear hx
        go_wp2_with fail
        go_ret
        exact ⟨by rw [HE.out]; rfl, rfl⟩
    | 1, _ =>
      have HE : Shut (R = y) := ⟨by rw [HR.out, if_pos (HX.out (Nat.le_refl _))]⟩
      by_cases hy : y = 0
      · have hy1 : (y != 0) = false := by simp [hy]
        have HY0 := Shut.mk hy
        clear hy
        go_wp2_with fail
        go_round
        case rel => exact ⟨2, by go_num, by omega, ⟨fun _ => HX.out (Nat.le_refl _)⟩, ⟨fun _ => HY0.out⟩⟩
        case measure => simp [intOf]
      · have hy1 : (y != 0) = true := by simp [hy]
        clear hy
        go_wp2_with fail
        go_ret
        exact ⟨by rw [HE.out]; rfl, rfl⟩
    | 2, _ =>
      have HE : Shut (R = 0) := ⟨by rw [HR.out, if_pos (HX.out (by omega)), HY.out (Nat.le_refl _)]⟩
      go_wp2_with fail
      go_ret
      exact ⟨by rw [HE.out]; rfl, rfl⟩
end Go.Proofs.Ytoaifodmjkhiiaa
/- HeA: The program's own: a host's load; one seat held against another (written by gen/mkhea.py). -/
namespace Go.Proofs.Ytoaifodmjkhiiaa
set_option maxRecDepth 100000
open Go.RowKit BigFrame
attribute [local go_sem ↓] Go.wp_at_zero Go.wp_at_succ

theorem implLoad (H : HM) (a : Option Addr) (cap : Nat) (w : World) : Calls Try.prog 9 #[hov H a cap] w fun e w' => e = .returned (.int .i64 (H.us.length : Nat)) ∧ Below w.heap.size w w' := by
  obtain ⟨id, up, us⟩ := H
  dsimp only [hov]
  generalize us.length = n
  go_enter Try.func9, Try.ntmps9
  go_wp2_with fail
  go_ret
  exact ⟨rfl, (Below.refl _ _).alloc (Nat.le_refl _) _⟩
theorem implLoadOf (H : HM) (a : Option Addr) (cap : Nat) (w : World) (_ : UnRow w a H.us) (_ : H.us.length ≤ 1048576) (_ : unSum H.us ≤ 1048576) : Calls Try.prog 9 #[hov H a cap] w fun e w' => e = .returned (.int .i64 (H.us.length : Nat)) ∧ Below w.heap.size w w' := implLoad H a cap w
def or3 (x y z : Int) : Int := if x = 0 then (if y = 0 then z else y) else x
theorem or_three (g : Nat) (x y z : Int) (c : Nat) (w : World) (h0 : w.cell? ⟨g, 0, none⟩ = some (.int .i64 x)) (h1 : w.cell? ⟨g, 1, none⟩ = some (.int .i64 y)) (h2 : w.cell? ⟨g, 2, none⟩ = some (.int .i64 z)) :
    Calls Try.prog 97 #[.slice (some ⟨g, 0, none⟩) 3 c] w fun e w' => e = .returned (.int .i64 (or3 x y z)) ∧ w' = w := by
  obtain ⟨R, hR⟩ : ∃ R, R = or3 x y z := ⟨_, rfl⟩
  rw [← hR]
  have HR := Shut.mk hR
  unfold or3 at HR
  clear hR
  go_enter Try.func97, Try.ntmps97
  go_wp2_with fail
  go_loop [8] (fun i9 => ∃ (k : Nat), i9 = .int .i64 k ∧ k ≤ 3 ∧ Shut (1 ≤ k → x = 0) ∧ Shut (2 ≤ k → y = 0) ∧ Shut (3 ≤ k → z = 0)) (fun i9 => 3 - (intOf i9).toNat)
  case atStart => exact ⟨0, rfl, by omega, ⟨by omega⟩, ⟨by omega⟩, ⟨by omega⟩⟩
  case round =>
    obtain ⟨k, rfl, hk, HX, HY, HZ⟩ := hrel
    match k, hk with
    | 0, _ =>
      by_cases h : x = 0
      · have hx1 : (x != 0) = false := by simp [h]
        have HV0 := Shut.mk h
        clear h
        go_wp2_with fail
        go_round
        case rel => exact ⟨1, by go_num, by omega, ⟨fun _ => HV0.out⟩, ⟨by omega⟩, ⟨by omega⟩⟩
        case measure => simp [intOf]
      · have hx1 : (x != 0) = true := by simp [h]
        have HE : Shut (R = x) := ⟨by rw [HR.out, if_neg h]⟩
        clear h
        go_wp2_with fail
        go_ret
        exact ⟨by rw [HE.out]; rfl, rfl⟩
    | 1, _ =>
      by_cases h : y = 0
      · have hx1 : (y != 0) = false := by simp [h]
        have HV0 := Shut.mk h
        clear h
        go_wp2_with fail
        go_round
        case rel => exact ⟨2, by go_num, by omega, ⟨fun _ => HX.out (by omega)⟩, ⟨fun _ => HV0.out⟩, ⟨by omega⟩⟩
        case measure => simp [intOf]
      · have hx1 : (y != 0) = true := by simp [h]
        have HE : Shut (R = y) := ⟨by rw [HR.out, if_pos (HX.out (Nat.le_refl _)), if_neg h]⟩
        clear h
        go_wp2_with fail
        go_ret
        exact ⟨by rw [HE.out]; rfl, rfl⟩
    | 2, _ =>
      by_cases h : z = 0
      · have hx1 : (z != 0) = false := by simp [h]
        have HV0 := Shut.mk h
        clear h
        go_wp2_with fail
        go_round
        case rel => exact ⟨3, by go_num, by omega, ⟨fun _ => HX.out (by omega)⟩, ⟨fun _ => HY.out (by omega)⟩, ⟨fun _ => HV0.out⟩⟩
        case measure => simp [intOf]
      · have hx1 : (z != 0) = true := by simp [h]
        have HE : Shut (R = z) := ⟨by rw [HR.out, if_pos (HX.out (by omega)), if_pos (HY.out (Nat.le_refl _))]⟩
        clear h
        go_wp2_with fail
        go_ret
        exact ⟨by rw [HE.out]; rfl, rfl⟩
    | 3, _ =>
      have HE : Shut (R = 0) := ⟨by rw [HR.out, if_pos (HX.out (by omega)), if_pos (HY.out (by omega)), HZ.out (Nat.le_refl _)]⟩
      go_wp2_with fail
      go_ret
      exact ⟨by rw [HE.out]; rfl, rfl⟩
/-- A seat: where the host of a place lies, and the place. -/
def seC (b off t : Nat) : List Value := [.pointer (some ⟨b, off + t * 3, none⟩), .int .i64 (t : Nat)]
theorem seC_len (b off t : Nat) : (seC b off t).length = 2 := rfl
abbrev sev (b off t : Nat) : Value := .agg #[.pointer (some ⟨b, off + t * 3, none⟩), .int .i64 (t : Nat)]
def seS (b off : Nat) (Q : List Nat) : List Value := Q.flatMap (seC b off)
theorem seS_len (b off : Nat) (Q : List Nat) : (seS b off Q).length = Q.length * 2 := flat_len (seC_len b off) Q
/-- How one seat compares to another. -/
def cmpS (hs : List HM) (s t : Nat) : Int := or3 (cmpI (pk hs s).1 (pk hs t).1) (cmpI (pk hs s).2 (pk hs t).2) (cmpI s t)
theorem cmpS_neg (hs : List HM) (s t : Nat) : cmpS hs s t < 0 ↔ lt3 (pk hs) s t := by
  unfold cmpS or3 lt3
  have h1 := cmpI_is (pk hs s).1 (pk hs t).1
  have h2 := cmpI_is (pk hs s).2 (pk hs t).2
  have h3 := cmpI_is s t
  split <;> (try split) <;> omega
set_option maxRecDepth 100000 in
set_option maxHeartbeats 2000000 in
theorem implCmpS (b off : Nat) (rs : List HoR) (s t : Nat) (w : World) (hr : HsRow w (some ⟨b, off, none⟩) rs) (hs : s < rs.length) (ht : t < rs.length) :
    Calls Try.prog 96 #[sev b off s, sev b off t] w fun e w' => e = .returned (.int .i64 (cmpS (hms rs) s t)) ∧ Below w.heap.size w w' := by
  have HS0 := Shut.mk (((SL.start w).new #[.pointer (some ⟨b, off + s * 3, none⟩), .int .i64 (s : Nat)] 77).new #[.pointer (some ⟨b, off + t * 3, none⟩), .int .i64 (t : Nat)] 77)
  simp only [World.size_alloc] at HS0
  obtain ⟨b1, o1, r, e1, hre, lb1, hcr⟩ := hs_at hr (Below.refl _ _) hs
  obtain ⟨b2, o2, q, e2, hqe, lb2, hcq⟩ := hs_at hr (Below.refl _ _) ht
  simp only [Option.some.injEq, Addr.mk.injEq, and_true] at e1 e2
  obtain ⟨rfl, rfl⟩ := e1
  obtain ⟨rfl, rfl⟩ := e2
  have p1 : pk (hms rs) s = (r.h.us.length, r.h.id) := by unfold pk keyP; simp [hms, List.getD, hs, hre]
  have p2 : pk (hms rs) t = (q.h.us.length, q.h.id) := by unfold pk keyP; simp [hms, List.getD, ht, hqe]
  have HQ : Shut (cmpS (hms rs) s t = or3 (cmpI r.h.us.length q.h.us.length) (cmpI r.h.id q.h.id) (cmpI s t)) := ⟨by unfold cmpS; rw [p1, p2]⟩
  generalize cmpS (hms rs) s t = R at HQ ⊢
  have HL1 := Shut.mk (fun x => implLoad r.h r.loc r.cap x)
  have HL2 := Shut.mk (fun x => implLoad q.h q.loc q.cap x)
  obtain ⟨⟨rid, rup, rus⟩, rl, rc⟩ := r
  obtain ⟨⟨qid, qup, qus⟩, ql, qc⟩ := q
  dsimp only [hov] at *
  clear hre hqe p1 p2
  generalize rus.length = n1 at *
  generalize qus.length = n2 at *
  have HC1 := Shut.mk (fun x => cmp_int n1 n2 x)
  have HC2 := Shut.mk (fun x => cmp_int rid qid x)
  have HC3 := Shut.mk (fun x => cmp_int s t x)
  generalize cmpI n1 n2 = c1 at HQ HC1
  generalize cmpI rid qid = c2 at HQ HC2
  generalize cmpI s t = c3 at HQ HC3
  go_enter Try.func96, Try.ntmps96
  go_upto_region 1 with fail
  refine wp_shade (fun W => SL w W [bxS (w.heap.size + 1) [.pointer (some ⟨b, off + t * 3, none⟩), .int .i64 (t : Nat)], bxS w.heap.size [.pointer (some ⟨b, off + s * 3, none⟩), .int .i64 (s : Nat)]]) HS0.out ?_
  intro W0 hW
  have HT : Shut (∀ x, Later W0.drew x → SL w x [bxS (w.heap.size + 1) [.pointer (some ⟨b, off + t * 3, none⟩), .int .i64 (t : Nat)], bxS w.heap.size [.pointer (some ⟨b, off + s * 3, none⟩), .int .i64 (s : Nat)]]) := ⟨fun x hx => hW.drew.below hx⟩
  have HLE : Shut (∀ x, Later W0.drew x → x.cell? ⟨w.heap.size, 0, none⟩ = some (.pointer (some ⟨b, off + s * 3, none⟩)) ∧ x.cell? ⟨w.heap.size, 1, none⟩ = some (.int .i64 (s : Nat)) ∧ x.cell? ⟨w.heap.size + 1, 0, none⟩ = some (.pointer (some ⟨b, off + t * 3, none⟩)) ∧ x.cell? ⟨w.heap.size + 1, 1, none⟩ = some (.int .i64 (t : Nat)) ∧
      x.cell? ⟨b, off + s * 3, none⟩ = some (.int .i64 rid) ∧ x.cell? ⟨b, off + s * 3 + 1, none⟩ = some (.bool rup) ∧ x.cell? ⟨b, off + s * 3 + 2, none⟩ = some (.slice rl n1 rc) ∧ x.cell? ⟨b, off + t * 3, none⟩ = some (.int .i64 qid) ∧ x.cell? ⟨b, off + t * 3 + 1, none⟩ = some (.bool qup) ∧ x.cell? ⟨b, off + t * 3 + 2, none⟩ = some (.slice ql n2 qc)) := ⟨fun x hx => by
    have hb := (HT.out x hx).bel
    obtain ⟨a0, a1, a2, _⟩ := hcr x hb
    obtain ⟨a3, a4, a5, _⟩ := hcq x hb
    exact ⟨((HT.out x hx).bx 1 rfl 0 _ rfl).1, ((HT.out x hx).bx 1 rfl 1 _ rfl).1, ((HT.out x hx).bx 0 rfl 0 _ rfl).1, ((HT.out x hx).bx 0 rfl 1 _ rfl).1, a0, a1, a2, a3, a4, a5⟩⟩
  clear HS0 hW hcr hcq
  refine wp_region_later (by kernel_rfl) ?_
  refine wpL_val (i := 0) (v := ?v0) rfl (by kernel_rfl) (by kernel_rfl) (by kernel_rfl) (fun _ _ _ h => h) (by rfl) ?hy0 ?rest0
  case hy0 => (intro x hx; obtain ⟨d0, d1, d2, d3, d4, d5, d6, d7, d8, d9⟩ := HLE.out x hx; go_simp; try with_reducible rfl)
  try simp only [Act.put, List.setIfInBounds_toArray, List.set_cons_zero, List.set_cons_succ]
  refine wpL_val (i := 1) (v := ?v1) rfl (by kernel_rfl) (by kernel_rfl) (by kernel_rfl) (fun _ _ _ h => h) (by rfl) ?hy1 ?rest1
  case hy1 => (intro x hx; obtain ⟨d0, d1, d2, d3, d4, d5, d6, d7, d8, d9⟩ := HLE.out x hx; go_simp; try with_reducible rfl)
  try simp only [Act.put, List.setIfInBounds_toArray, List.set_cons_zero, List.set_cons_succ]
  refine wpL_val (i := 2) (v := ?v2) rfl (by kernel_rfl) (by kernel_rfl) (by kernel_rfl) (fun _ _ _ h => h) (by rfl) ?hy2 ?rest2
  case hy2 => (intro x hx; obtain ⟨d0, d1, d2, d3, d4, d5, d6, d7, d8, d9⟩ := HLE.out x hx; go_simp; try with_reducible rfl)
  try simp only [Act.put, List.setIfInBounds_toArray, List.set_cons_zero, List.set_cons_succ]
  refine wpL_val (i := 3) (v := ?v3) rfl (by kernel_rfl) (by kernel_rfl) (by kernel_rfl) (fun _ _ _ h => h) (by rfl) ?hy3 ?rest3
  case hy3 => (intro x hx; obtain ⟨d0, d1, d2, d3, d4, d5, d6, d7, d8, d9⟩ := HLE.out x hx; go_simp; try with_reducible rfl)
  try simp only [Act.put, List.setIfInBounds_toArray, List.set_cons_zero, List.set_cons_succ]
  refine wpL_call (i := 4) (v := .int .i64 (n1 : Nat)) (f := 9) (args := #[.agg #[.int .i64 rid, .bool rup, .slice rl n1 rc]]) rfl (by kernel_rfl) (by kernel_rfl) (by kernel_rfl) (fun _ _ _ h => h) (by rfl) ?hy4 (fun x _ => HL1.out x) ?rest4
  case hy4 => (intro x hx; obtain ⟨d0, d1, d2, d3, d4, d5, d6, d7, d8, d9⟩ := HLE.out x hx; go_simp; try with_reducible rfl)
  try simp only [Act.put, List.setIfInBounds_toArray, List.set_cons_zero, List.set_cons_succ]
  refine wpL_val (i := 5) (v := ?v5) rfl (by kernel_rfl) (by kernel_rfl) (by kernel_rfl) (fun _ _ _ h => h) (by rfl) ?hy5 ?rest5
  case hy5 => (intro x hx; obtain ⟨d0, d1, d2, d3, d4, d5, d6, d7, d8, d9⟩ := HLE.out x hx; go_simp; try with_reducible rfl)
  try simp only [Act.put, List.setIfInBounds_toArray, List.set_cons_zero, List.set_cons_succ]
  refine wpL_val (i := 6) (v := ?v6) rfl (by kernel_rfl) (by kernel_rfl) (by kernel_rfl) (fun _ _ _ h => h) (by rfl) ?hy6 ?rest6
  case hy6 => (intro x hx; obtain ⟨d0, d1, d2, d3, d4, d5, d6, d7, d8, d9⟩ := HLE.out x hx; go_simp; try with_reducible rfl)
  try simp only [Act.put, List.setIfInBounds_toArray, List.set_cons_zero, List.set_cons_succ]
  refine wpL_val (i := 7) (v := ?v7) rfl (by kernel_rfl) (by kernel_rfl) (by kernel_rfl) (fun _ _ _ h => h) (by rfl) ?hy7 ?rest7
  case hy7 => (intro x hx; obtain ⟨d0, d1, d2, d3, d4, d5, d6, d7, d8, d9⟩ := HLE.out x hx; go_simp; try with_reducible rfl)
  try simp only [Act.put, List.setIfInBounds_toArray, List.set_cons_zero, List.set_cons_succ]
  refine wpL_val (i := 8) (v := ?v8) rfl (by kernel_rfl) (by kernel_rfl) (by kernel_rfl) (fun _ _ _ h => h) (by rfl) ?hy8 ?rest8
  case hy8 => (intro x hx; obtain ⟨d0, d1, d2, d3, d4, d5, d6, d7, d8, d9⟩ := HLE.out x hx; go_simp; try with_reducible rfl)
  try simp only [Act.put, List.setIfInBounds_toArray, List.set_cons_zero, List.set_cons_succ]
  refine wpL_call (i := 9) (v := .int .i64 (n2 : Nat)) (f := 9) (args := #[.agg #[.int .i64 qid, .bool qup, .slice ql n2 qc]]) rfl (by kernel_rfl) (by kernel_rfl) (by kernel_rfl) (fun _ _ _ h => h) (by rfl) ?hy9 (fun x _ => HL2.out x) ?rest9
  case hy9 => (intro x hx; obtain ⟨d0, d1, d2, d3, d4, d5, d6, d7, d8, d9⟩ := HLE.out x hx; go_simp; try with_reducible rfl)
  try simp only [Act.put, List.setIfInBounds_toArray, List.set_cons_zero, List.set_cons_succ]
  refine wpL_call (i := 10) (v := .int .i64 c1) (f := 98) (args := #[.int .i64 (n1 : Nat), .int .i64 (n2 : Nat)]) rfl (by kernel_rfl) (by kernel_rfl) (by kernel_rfl) (fun _ _ _ h => h) (by rfl) ?hy10 (fun x _ => (HC1.out x).mono (by rintro e y ⟨rfl, hy⟩; subst hy; exact ⟨rfl, Later.refl _⟩)) ?rest10
  case hy10 => (intro x hx; obtain ⟨d0, d1, d2, d3, d4, d5, d6, d7, d8, d9⟩ := HLE.out x hx; go_simp; try with_reducible rfl)
  try simp only [Act.put, List.setIfInBounds_toArray, List.set_cons_zero, List.set_cons_succ]
  refine wpL_val (i := 11) (v := ?v11) rfl (by kernel_rfl) (by kernel_rfl) (by kernel_rfl) (fun _ _ _ h => h) (by rfl) ?hy11 ?rest11
  case hy11 => (intro x hx; obtain ⟨d0, d1, d2, d3, d4, d5, d6, d7, d8, d9⟩ := HLE.out x hx; go_simp; try with_reducible rfl)
  try simp only [Act.put, List.setIfInBounds_toArray, List.set_cons_zero, List.set_cons_succ]
  refine wpL_val (i := 12) (v := ?v12) rfl (by kernel_rfl) (by kernel_rfl) (by kernel_rfl) (fun _ _ _ h => h) (by rfl) ?hy12 ?rest12
  case hy12 => (intro x hx; obtain ⟨d0, d1, d2, d3, d4, d5, d6, d7, d8, d9⟩ := HLE.out x hx; go_simp; try with_reducible rfl)
  try simp only [Act.put, List.setIfInBounds_toArray, List.set_cons_zero, List.set_cons_succ]
  refine wpL_val (i := 13) (v := ?v13) rfl (by kernel_rfl) (by kernel_rfl) (by kernel_rfl) (fun _ _ _ h => h) (by rfl) ?hy13 ?rest13
  case hy13 => (intro x hx; obtain ⟨d0, d1, d2, d3, d4, d5, d6, d7, d8, d9⟩ := HLE.out x hx; go_simp; try with_reducible rfl)
  try simp only [Act.put, List.setIfInBounds_toArray, List.set_cons_zero, List.set_cons_succ]
  refine wpL_val (i := 14) (v := ?v14) rfl (by kernel_rfl) (by kernel_rfl) (by kernel_rfl) (fun _ _ _ h => h) (by rfl) ?hy14 ?rest14
  case hy14 => (intro x hx; obtain ⟨d0, d1, d2, d3, d4, d5, d6, d7, d8, d9⟩ := HLE.out x hx; go_simp; try with_reducible rfl)
  try simp only [Act.put, List.setIfInBounds_toArray, List.set_cons_zero, List.set_cons_succ]
  refine wpL_val (i := 15) (v := ?v15) rfl (by kernel_rfl) (by kernel_rfl) (by kernel_rfl) (fun _ _ _ h => h) (by rfl) ?hy15 ?rest15
  case hy15 => (intro x hx; obtain ⟨d0, d1, d2, d3, d4, d5, d6, d7, d8, d9⟩ := HLE.out x hx; go_simp; try with_reducible rfl)
  try simp only [Act.put, List.setIfInBounds_toArray, List.set_cons_zero, List.set_cons_succ]
  refine wpL_val (i := 16) (v := ?v16) rfl (by kernel_rfl) (by kernel_rfl) (by kernel_rfl) (fun _ _ _ h => h) (by rfl) ?hy16 ?rest16
  case hy16 => (intro x hx; obtain ⟨d0, d1, d2, d3, d4, d5, d6, d7, d8, d9⟩ := HLE.out x hx; go_simp; try with_reducible rfl)
  try simp only [Act.put, List.setIfInBounds_toArray, List.set_cons_zero, List.set_cons_succ]
  refine wpL_val (i := 17) (v := ?v17) rfl (by kernel_rfl) (by kernel_rfl) (by kernel_rfl) (fun _ _ _ h => h) (by rfl) ?hy17 ?rest17
  case hy17 => (intro x hx; obtain ⟨d0, d1, d2, d3, d4, d5, d6, d7, d8, d9⟩ := HLE.out x hx; go_simp; try with_reducible rfl)
  try simp only [Act.put, List.setIfInBounds_toArray, List.set_cons_zero, List.set_cons_succ]
  refine wpL_val (i := 18) (v := ?v18) rfl (by kernel_rfl) (by kernel_rfl) (by kernel_rfl) (fun _ _ _ h => h) (by rfl) ?hy18 ?rest18
  case hy18 => (intro x hx; obtain ⟨d0, d1, d2, d3, d4, d5, d6, d7, d8, d9⟩ := HLE.out x hx; go_simp; try with_reducible rfl)
  try simp only [Act.put, List.setIfInBounds_toArray, List.set_cons_zero, List.set_cons_succ]
  refine wpL_val (i := 19) (v := ?v19) rfl (by kernel_rfl) (by kernel_rfl) (by kernel_rfl) (fun _ _ _ h => h) (by rfl) ?hy19 ?rest19
  case hy19 => (intro x hx; obtain ⟨d0, d1, d2, d3, d4, d5, d6, d7, d8, d9⟩ := HLE.out x hx; go_simp; try with_reducible rfl)
  try simp only [Act.put, List.setIfInBounds_toArray, List.set_cons_zero, List.set_cons_succ]
  refine wpL_val (i := 20) (v := ?v20) rfl (by kernel_rfl) (by kernel_rfl) (by kernel_rfl) (fun _ _ _ h => h) (by rfl) ?hy20 ?rest20
  case hy20 => (intro x hx; obtain ⟨d0, d1, d2, d3, d4, d5, d6, d7, d8, d9⟩ := HLE.out x hx; go_simp; try with_reducible rfl)
  try simp only [Act.put, List.setIfInBounds_toArray, List.set_cons_zero, List.set_cons_succ]
  refine wpL_call (i := 21) (v := .int .i64 c2) (f := 98) (args := #[.int .i64 rid, .int .i64 qid]) rfl (by kernel_rfl) (by kernel_rfl) (by kernel_rfl) (fun _ _ _ h => h) (by rfl) ?hy21 (fun x _ => (HC2.out x).mono (by rintro e y ⟨rfl, hy⟩; subst hy; exact ⟨rfl, Later.refl _⟩)) ?rest21
  case hy21 => (intro x hx; obtain ⟨d0, d1, d2, d3, d4, d5, d6, d7, d8, d9⟩ := HLE.out x hx; go_simp; try with_reducible rfl)
  try simp only [Act.put, List.setIfInBounds_toArray, List.set_cons_zero, List.set_cons_succ]
  refine wpL_val (i := 22) (v := ?v22) rfl (by kernel_rfl) (by kernel_rfl) (by kernel_rfl) (fun _ _ _ h => h) (by rfl) ?hy22 ?rest22
  case hy22 => (intro x hx; obtain ⟨d0, d1, d2, d3, d4, d5, d6, d7, d8, d9⟩ := HLE.out x hx; go_simp; try with_reducible rfl)
  try simp only [Act.put, List.setIfInBounds_toArray, List.set_cons_zero, List.set_cons_succ]
  refine wpL_val (i := 23) (v := ?v23) rfl (by kernel_rfl) (by kernel_rfl) (by kernel_rfl) (fun _ _ _ h => h) (by rfl) ?hy23 ?rest23
  case hy23 => (intro x hx; obtain ⟨d0, d1, d2, d3, d4, d5, d6, d7, d8, d9⟩ := HLE.out x hx; go_simp; try with_reducible rfl)
  try simp only [Act.put, List.setIfInBounds_toArray, List.set_cons_zero, List.set_cons_succ]
  refine wpL_val (i := 24) (v := ?v24) rfl (by kernel_rfl) (by kernel_rfl) (by kernel_rfl) (fun _ _ _ h => h) (by rfl) ?hy24 ?rest24
  case hy24 => (intro x hx; obtain ⟨d0, d1, d2, d3, d4, d5, d6, d7, d8, d9⟩ := HLE.out x hx; go_simp; try with_reducible rfl)
  try simp only [Act.put, List.setIfInBounds_toArray, List.set_cons_zero, List.set_cons_succ]
  refine wpL_val (i := 25) (v := ?v25) rfl (by kernel_rfl) (by kernel_rfl) (by kernel_rfl) (fun _ _ _ h => h) (by rfl) ?hy25 ?rest25
  case hy25 => (intro x hx; obtain ⟨d0, d1, d2, d3, d4, d5, d6, d7, d8, d9⟩ := HLE.out x hx; go_simp; try with_reducible rfl)
  try simp only [Act.put, List.setIfInBounds_toArray, List.set_cons_zero, List.set_cons_succ]
  refine wpL_call (i := 26) (v := .int .i64 c3) (f := 98) (args := #[.int .i64 (s : Nat), .int .i64 (t : Nat)]) rfl (by kernel_rfl) (by kernel_rfl) (by kernel_rfl) (fun _ _ _ h => h) (by rfl) ?hy26 (fun x _ => (HC3.out x).mono (by rintro e y ⟨rfl, hy⟩; subst hy; exact ⟨rfl, Later.refl _⟩)) ?rest26
  case hy26 => (intro x hx; obtain ⟨d0, d1, d2, d3, d4, d5, d6, d7, d8, d9⟩ := HLE.out x hx; go_simp; try with_reducible rfl)
  try simp only [Act.put, List.setIfInBounds_toArray, List.set_cons_zero, List.set_cons_succ]
  refine wpL_one (i := 27) (by kernel_rfl) rfl (by rfl) ?_
  intro x hx
  refine ⟨.slice (some ⟨x.heap.size, 0, none⟩) 3 3, x.alloc (.cells #[.int .i64 c1, .int .i64 c2, .int .i64 c3] 3), ?_, (Below.refl _ _).alloc (Nat.le_refl _) _, ?_⟩
  · go_simp
  have hwx := wcells_new x #[.int .i64 c1, .int .i64 c2, .int .i64 c3] 3
  have HBX : Shut (Below w.heap.size w (x.alloc (.cells #[.int .i64 c1, .int .i64 c2, .int .i64 c3] 3))) := ⟨((HT.out x hx).below ((Below.refl _ _).alloc (Nat.le_refl _) _)).bel⟩
  have HOR : Shut (∀ y, Later (x.alloc (.cells #[.int .i64 c1, .int .i64 c2, .int .i64 c3] 3)) y → Calls Try.prog 97 #[.slice (some ⟨x.heap.size, 0, none⟩) 3 3] y fun e z => e = .returned (.int .i64 R) ∧ Later y z) := ⟨fun y hy => by
    rw [HQ.out]
    refine (or_three x.heap.size c1 c2 c3 3 y ((hwx.grow hy).2 0 _ rfl).1 ((hwx.grow hy).2 1 _ rfl).1 ((hwx.grow hy).2 2 _ rfl).1).mono ?_
    rintro e z ⟨rfl, hz⟩
    subst hz
    exact ⟨rfl, Later.refl _⟩⟩
  clear hwx
  try simp only [Act.put, List.setIfInBounds_toArray, List.set_cons_zero, List.set_cons_succ]
  refine wpL_call (i := 28) (v := .int .i64 R) (f := 97) (args := #[.slice (some ⟨x.heap.size, 0, none⟩) 3 3]) rfl (by kernel_rfl) (by kernel_rfl) (by kernel_rfl) (fun _ _ _ h => h) (by rfl) ?hyq28 (fun y hy => HOR.out y hy) ?restq28
  case hyq28 => (intro x hx; go_simp; try with_reducible rfl)
  try simp only [Act.put, List.setIfInBounds_toArray, List.set_cons_zero, List.set_cons_succ]
  refine wpL_val (i := 29) (v := ?vq29) rfl (by kernel_rfl) (by kernel_rfl) (by kernel_rfl) (fun _ _ _ h => h) (by rfl) ?hyq29 ?restq29
  case hyq29 => (intro x hx; go_simp; try with_reducible rfl)
  try simp only [Act.put, List.setIfInBounds_toArray, List.set_cons_zero, List.set_cons_succ]
  refine wpL_done (by kernel_rfl) ?_ _
  intro y hy
  have HB := Shut.mk (HBX.out.trans (Below.mono hy HBX.out.size))
  go_wp2_with fail
  go_ret
  exact ⟨rfl, HB.out⟩
/-- The queue's own order. -/
theorem seS_at {w : World} {g b off : Nat} {Q : List Nat} (h : CRow w (some ⟨g, 0, none⟩) (seS b off Q)) {i : Nat} (hi : i < Q.length) : w.cell? ⟨g, i * 2, none⟩ = some (.pointer (some ⟨b, off + Q.getD i 0 * 3, none⟩)) ∧ w.cell? ⟨g, i * 2 + 1, none⟩ = some (.int .i64 (Q.getD i 0 : Nat)) ∧ g < w.heap.size := by
  obtain ⟨b', o', e, lb, hc⟩ := h (by rw [seS_len]; omega)
  simp only [Option.some.injEq, Addr.mk.injEq, and_true] at e
  obtain ⟨rfl, rfl⟩ := e
  have e9 : Q.getD i 0 = Q[i] := by simp [List.getD, hi]
  have q0 := hc (i * 2 + 0) _ (flat_get (seC_len b off) Q i hi 0 (by omega))
  have q1 := hc (i * 2 + 1) _ (flat_get (seC_len b off) Q i hi 1 (by omega))
  rw [Nat.zero_add] at q0 q1
  rw [e9]
  exact ⟨q0, q1, lb⟩
set_option maxRecDepth 100000 in
set_option maxHeartbeats 2000000 in
theorem implLess (b off g : Nat) (rs : List HoR) (Q : List Nat) (c i j : Nat) (w : World) (hr : HsRow w (some ⟨b, off, none⟩) rs) (hq : CRow w (some ⟨g, 0, none⟩) (seS b off Q)) (hQ : ∀ x ∈ Q, x < rs.length) (hi : i < Q.length) (hj : j < Q.length) :
    Calls Try.prog 92 #[.slice (some ⟨g, 0, none⟩) Q.length c, .int .i64 (i : Nat), .int .i64 (j : Nat)] w fun e w' => e = .returned (.bool (decide (cmpS (hms rs) (Q.getD i 0) (Q.getD j 0) < 0))) ∧ Below w.heap.size w w' := by
  obtain ⟨a0, a1, lg⟩ := seS_at hq hi
  obtain ⟨a2, a3, _⟩ := seS_at hq hj
  have hm : ∀ k, k < Q.length → Q.getD k 0 < rs.length := fun k hk => hQ _ (by simp [List.getD, hk])
  have HCS := Shut.mk (fun W (hW : Below w.heap.size w W) => implCmpS b off rs (Q.getD i 0) (Q.getD j 0) W (hr.stays hW) (hm i hi) (hm j hj))
  generalize Q.getD i 0 = s at *
  generalize Q.getD j 0 = t at *
  generalize cmpS (hms rs) s t = R at *
  generalize Q.length = n at *
  have HLE : Shut (∀ x, Later w.drew x → x.cell? ⟨g, i * 2, none⟩ = some (.pointer (some ⟨b, off + s * 3, none⟩)) ∧ x.cell? ⟨g, i * 2 + 1, none⟩ = some (.int .i64 (s : Nat)) ∧ x.cell? ⟨g, j * 2, none⟩ = some (.pointer (some ⟨b, off + t * 3, none⟩)) ∧ x.cell? ⟨g, j * 2 + 1, none⟩ = some (.int .i64 (t : Nat))) := ⟨fun x hx => by
    have hb : Below w.heap.size w x := (Below.drew (Below.refl _ _)).trans hx
    exact ⟨(hb.cell (p := ⟨g, i * 2, none⟩) lg).trans a0, (hb.cell (p := ⟨g, i * 2 + 1, none⟩) lg).trans a1, (hb.cell (p := ⟨g, j * 2, none⟩) lg).trans a2, (hb.cell (p := ⟨g, j * 2 + 1, none⟩) lg).trans a3⟩⟩
  have HBX : Shut (∀ x, Later w.drew x → Below w.heap.size w x) := ⟨fun x hx => (Below.drew (Below.refl _ _)).trans hx⟩
  have i0 : (0 : Int) ≤ (i : Int) := by omega
  have j0 : (0 : Int) ≤ (j : Int) := by omega
  have i1 : (i : Int) < (n : Int) := by omega
  have j1 : (j : Int) < (n : Int) := by omega
  clear hr hq hQ hm a0 a1 a2 a3
  go_enter Try.func92, Try.ntmps92
  go_upto_region 1 with fail
  refine wp_region_later (by kernel_rfl) ?_
  refine wpL_val (i := 0) (v := ?v0) rfl (by kernel_rfl) (by kernel_rfl) (by kernel_rfl) (fun _ _ _ h => h) (by rfl) ?hy0 ?rest0
  case hy0 => (intro x hx; obtain ⟨d0, d1, d2, d3⟩ := HLE.out x hx; go_simp; try with_reducible rfl)
  try simp only [Act.put, List.setIfInBounds_toArray, List.set_cons_zero, List.set_cons_succ]
  refine wpL_val (i := 1) (v := ?v1) rfl (by kernel_rfl) (by kernel_rfl) (by kernel_rfl) (fun _ _ _ h => h) (by rfl) ?hy1 ?rest1
  case hy1 => (intro x hx; obtain ⟨d0, d1, d2, d3⟩ := HLE.out x hx; go_simp; try with_reducible rfl)
  try simp only [Act.put, List.setIfInBounds_toArray, List.set_cons_zero, List.set_cons_succ]
  refine wpL_val (i := 2) (v := ?v2) rfl (by kernel_rfl) (by kernel_rfl) (by kernel_rfl) (fun _ _ _ h => h) (by rfl) ?hy2 ?rest2
  case hy2 => (intro x hx; obtain ⟨d0, d1, d2, d3⟩ := HLE.out x hx; go_simp; try with_reducible rfl)
  try simp only [Act.put, List.setIfInBounds_toArray, List.set_cons_zero, List.set_cons_succ]
  refine wpL_val (i := 3) (v := ?v3) rfl (by kernel_rfl) (by kernel_rfl) (by kernel_rfl) (fun _ _ _ h => h) (by rfl) ?hy3 ?rest3
  case hy3 => (intro x hx; obtain ⟨d0, d1, d2, d3⟩ := HLE.out x hx; go_simp; try with_reducible rfl)
  try simp only [Act.put, List.setIfInBounds_toArray, List.set_cons_zero, List.set_cons_succ]
  refine wpL_val (i := 4) (v := ?v4) rfl (by kernel_rfl) (by kernel_rfl) (by kernel_rfl) (fun _ _ _ h => h) (by rfl) ?hy4 ?rest4
  case hy4 => (intro x hx; obtain ⟨d0, d1, d2, d3⟩ := HLE.out x hx; go_simp; try with_reducible rfl)
  try simp only [Act.put, List.setIfInBounds_toArray, List.set_cons_zero, List.set_cons_succ]
  refine wpL_val (i := 5) (v := ?v5) rfl (by kernel_rfl) (by kernel_rfl) (by kernel_rfl) (fun _ _ _ h => h) (by rfl) ?hy5 ?rest5
  case hy5 => (intro x hx; obtain ⟨d0, d1, d2, d3⟩ := HLE.out x hx; go_simp; try with_reducible rfl)
  try simp only [Act.put, List.setIfInBounds_toArray, List.set_cons_zero, List.set_cons_succ]
  refine wpL_val (i := 6) (v := ?v6) rfl (by kernel_rfl) (by kernel_rfl) (by kernel_rfl) (fun _ _ _ h => h) (by rfl) ?hy6 ?rest6
  case hy6 => (intro x hx; obtain ⟨d0, d1, d2, d3⟩ := HLE.out x hx; go_simp; try with_reducible rfl)
  try simp only [Act.put, List.setIfInBounds_toArray, List.set_cons_zero, List.set_cons_succ]
  refine wpL_val (i := 7) (v := ?v7) rfl (by kernel_rfl) (by kernel_rfl) (by kernel_rfl) (fun _ _ _ h => h) (by rfl) ?hy7 ?rest7
  case hy7 => (intro x hx; obtain ⟨d0, d1, d2, d3⟩ := HLE.out x hx; go_simp; try with_reducible rfl)
  try simp only [Act.put, List.setIfInBounds_toArray, List.set_cons_zero, List.set_cons_succ]
  refine wpL_call (i := 8) (v := .int .i64 R) (f := 96) (args := #[.agg #[.pointer (some ⟨b, off + s * 3, none⟩), .int .i64 (s : Nat)], .agg #[.pointer (some ⟨b, off + t * 3, none⟩), .int .i64 (t : Nat)]]) rfl (by kernel_rfl) (by kernel_rfl) (by kernel_rfl) (fun _ _ _ h => h) (by rfl) ?hy8 (fun x hx => HCS.out x (HBX.out x hx)) ?rest8
  case hy8 => (intro x hx; obtain ⟨d0, d1, d2, d3⟩ := HLE.out x hx; go_simp; try with_reducible rfl)
  try simp only [Act.put, List.setIfInBounds_toArray, List.set_cons_zero, List.set_cons_succ]
  refine wpL_val (i := 9) (v := ?v9) rfl (by kernel_rfl) (by kernel_rfl) (by kernel_rfl) (fun _ _ _ h => h) (by rfl) ?hy9 ?rest9
  case hy9 => (intro x hx; obtain ⟨d0, d1, d2, d3⟩ := HLE.out x hx; go_simp; try with_reducible rfl)
  try simp only [Act.put, List.setIfInBounds_toArray, List.set_cons_zero, List.set_cons_succ]
  refine wpL_val (i := 10) (v := ?v10) rfl (by kernel_rfl) (by kernel_rfl) (by kernel_rfl) (fun _ _ _ h => h) (by rfl) ?hy10 ?rest10
  case hy10 => (intro x hx; obtain ⟨d0, d1, d2, d3⟩ := HLE.out x hx; go_simp; try with_reducible rfl)
  try simp only [Act.put, List.setIfInBounds_toArray, List.set_cons_zero, List.set_cons_succ]
  refine wpL_done (by kernel_rfl) ?_ _
  intro y hy
  have HB := Shut.mk (HBX.out y hy)
  go_wp2_with fail
  go_ret
  exact ⟨rfl, HB.out⟩
end Go.Proofs.Ytoaifodmjkhiiaa
