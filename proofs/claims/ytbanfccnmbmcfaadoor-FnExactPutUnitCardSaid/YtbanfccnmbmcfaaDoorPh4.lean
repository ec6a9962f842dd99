/- Texts of ours, laid one behind the other: TreQ, GrwA, SpH, OwS, ApRow, SpI, SpJ, SpK, LawHs. -/
import Derived.Test.YtbanfccnmbmcfaaDoorPh3
import Derived.BigQuiet
import Derived.Maps.AppendAt
import Derived.Deep.Upon
/- TreQ: The walk of the model's l10File. -/
namespace Go.Proofs.YtbanfccnmbmcfaaDoor
set_option maxRecDepth 100000
open Go.RowKit
attribute [local go_sem ↓] Go.wp_at_zero Go.wp_at_succ

theorem isInI (x a b : Int) (w : World) (r : Bool) (h : inI x a b = r) : Calls Tryd.prog 67 #[.int .i64 x, .int .i64 a, .int .i64 b] w fun e w' => e = .returned (.bool r) ∧ w' = w := isIn x a b w r h
theorem fileOk_no1 {n : NM} (h : inI n.schema 1 3 = false) : fileOk n = false := by unfold fileOk; rw [h]; rfl
theorem fileOk_no2 {n : NM} (h : n.quota ≠ 0) : fileOk n = false := by unfold fileOk; rw [show (n.quota == 0) = false by simpa using h]; simp
theorem fileOk_no3 {n : NM} (h : ¬ n.pieces.length ≤ 40) : fileOk n = false := by unfold fileOk; rw [decide_eq_false h]; simp
theorem fileOk_no4 {n : NM} (h : inI n.writer 0 9 = false) : fileOk n = false := by unfold fileOk; rw [h]; simp
theorem fileOk_no5 {n : NM} {p : PM} (hp : p ∈ n.pieces) (h : pieceOk n.schema p = false) : fileOk n = false := by
  have : n.pieces.all (pieceOk n.schema) = false := by
    cases e : n.pieces.all (pieceOk n.schema) with
    | false => rfl
    | true => rw [List.all_eq_true] at e; rw [e p hp] at h; cases h
  unfold fileOk; rw [this]; simp
theorem fileOk_yes {n : NM} (h1 : inI n.schema 1 3 = true) (h2 : n.quota = 0) (h3 : n.pieces.length ≤ 40) (h4 : inI n.writer 0 9 = true) (h5 : ∀ p ∈ n.pieces, pieceOk n.schema p = true) : fileOk n = ((sumP n.pieces == n.len) && decide (sumP n.pieces ≤ 1000)) := by
  unfold fileOk
  rw [h1, h2, decide_eq_true h3, h4, show n.pieces.all (pieceOk n.schema) = true from List.all_eq_true.2 h5]
  simp
end Go.Proofs.YtbanfccnmbmcfaaDoor
/- GrwA: A region that draws its order, whose operations only read and whose callees make new memory alone and answer one value wherever they are called: one walk, in the text's order. -/
namespace Go.Proofs.YtbanfccnmbmcfaaDoor
set_option maxRecDepth 100000
open Go.RowKit

/-- A world with more memory. -/
structure Grow (w : World) where
  val : World
  bel : Below w.heap.size w val
instance {w : World} : Nonempty (Grow w) := ⟨⟨w, Below.refl _ _⟩⟩
theorem wp_region_grow {P : Program} {id : Nat} {Q : Exit → Act → World → Prop} {a : Act} {w : World} {l : List Oper} (hm : P.follows .mixedOrders = true) (hB : Region.lexB .any l.toArray = true)
    (h : wpQuiet P l.toArray (fun W => ∃ X : Grow w, W = X.val) (fun a' => ∀ w', (∃ X : Grow w, w' = X.val) → Q .normal a' w') l a) : (Code.region id l.toArray true).wp P Q a w :=
  wp_region_quiet (C := fun W => ∃ X : Grow w, W = X.val) hm hB ⟨⟨w.drew, Below.drew (Below.refl _ _)⟩, rfl⟩ (by simpa using h)
theorem Grow.cell {w : World} (X : Grow w) {p : Addr} {v : Value} (h : w.cell? p = some v) (hl : p.block < w.heap.size) : X.val.cell? p = some v := (X.bel.cell hl).trans h
theorem calls_grow {P : Program} {f : FuncId} {args : Array Value} {w : World} {v : Value} (h : ∀ W, Below w.heap.size w W → Calls P f args W fun e w' => e = .returned v ∧ Below W.heap.size W w') (X : Grow w) :
    Calls P f args X.val fun e w'' => e = .returned v ∧ ∃ Y : Grow w, w'' = Y.val :=
  (h X.val X.bel).mono fun _ w'' ⟨he, hb⟩ => ⟨he, ⟨w'', X.bel.trans (hb.mono X.bel.size)⟩, rfl⟩
theorem calls_same {P : Program} {f : FuncId} {args : Array Value} {w : World} {v : Value} (h : ∀ W, Below w.heap.size w W → Calls P f args W fun e w' => e = .returned v ∧ w' = W) (X : Grow w) :
    Calls P f args X.val fun e w'' => e = .returned v ∧ ∃ Y : Grow w, w'' = Y.val :=
  (h X.val X.bel).mono fun _ _ ⟨he, hb⟩ => ⟨he, X, hb⟩
end Go.Proofs.YtbanfccnmbmcfaaDoor
/- SpH: The models' SumText, l14Ahead, HostOk, l14At, GetUnit. -/
namespace Go.Proofs.YtbanfccnmbmcfaaDoor
set_option maxRecDepth 100000
open Go.RowKit BigFrame
attribute [local go_sem ↓] Go.wp_at_zero Go.wp_at_succ

theorem sumN_low (t : ByteArray) : 0 ≤ sumN t ∧ sumN t ≤ 4294967295 := by
  unfold sumN
  have := (W.sumOf t).isLt
  omega
theorem specSumText (t : ByteArray) (w : World) (hs : t.size ≤ 1048576) : Calls Tryd.prog 19 #[.string t] w fun e w' => e = .returned (.int .i64 (sumN t)) ∧ w' = w := by
  have h := sumN_low t
  have HP := Shut.mk (specSumOf t w hs)
  unfold u32 at HP
  rw [show (((W.sumOf t).toNat : Nat) : Int) = sumN t from rfl] at HP
  generalize sumN t = q at *
  go_enter Tryd.func19, Tryd.ntmps19
  go_wp2_with fail
  refine HP.out.mono ?_
  rintro e w1 ⟨rfl, rfl⟩
  go_wp2_with fail
  go_ret
  exact ⟨rfl, rfl⟩
theorem specAhead (a b : UnM) (w : World) : Calls Tryd.prog 49 #[unv a, unv b] w fun e w' => e = .returned (.bool (unLt a b)) ∧ Below w.heap.size w w' := by
  have hb : Below w.heap.size w ((w.alloc (.cells #[.int .i64 a.group, .int .i64 a.index, .string a.text, .int .i64 a.sum] 32)).alloc (.cells #[.int .i64 b.group, .int .i64 b.index, .string b.text, .int .i64 b.sum] 32)) := ((Below.refl _ _).alloc (Nat.le_refl _) _).alloc (by simp) _
  have HB := Shut.mk hb
  clear hb
  by_cases h1 : a.group < b.group
  · have HE : Shut (unLt a b = true) := ⟨by simp [unLt, h1]⟩
    go_enter Tryd.func49, Tryd.ntmps49
    go_wp2_with fail
    go_ret
    exact ⟨by rw [HE.out]; rfl, HB.out⟩
  · have h1' : decide (a.group < b.group) = false := by simpa using h1
    by_cases h2 : a.group = b.group
    · have h2' : (a.group == b.group) = true := by simpa using h2
      have HE : Shut (unLt a b = decide (a.index < b.index)) := ⟨by unfold unLt; rw [h1', h2']; simp⟩
      clear h2 h1
      go_enter Tryd.func49, Tryd.ntmps49
      go_wp2_with fail
      go_ret
      exact ⟨by rw [HE.out]; rfl, HB.out⟩
    · have h2' : (a.group == b.group) = false := by simpa using h2
      have HE : Shut (unLt a b = false) := ⟨by unfold unLt; rw [h1', h2']; simp⟩
      clear h2 h1
      go_enter Tryd.func49, Tryd.ntmps49
      go_wp2_with fail
      go_ret
      exact ⟨by rw [HE.out]; rfl, HB.out⟩
theorem getD_un (L : List UnM) (k : Nat) (h : k < L.length) : L.getD k default = L[k] := by simp [List.getD, h]
theorem unitsOk_no {L : List UnM} {k : Nat} (hk : k < L.length) (h : unAt L k = false) : unitsOk L = false := by
  cases hb : unitsOk L with
  | false => rfl
  | true => have := List.all_eq_true.1 hb k (by simpa using hk); rw [h] at this; cases this
theorem unitsOk_yes {L : List UnM} (h : ∀ k, k < L.length → unAt L k = true) : unitsOk L = true := List.all_eq_true.2 fun k hk => h k (by simpa using hk)
set_option maxRecDepth 100000 in
set_option maxHeartbeats 4000000 in
theorem specHostOk (H : HM) (a : Option Addr) (cap : Nat) (w : World) (hr : UnRow w a H.us) (hl : H.us.length ≤ 9000000) (hf : UnFits H.us) :
    Calls Tryd.prog 50 #[hov H a cap] w fun e w' => e = .returned (.bool (hostOk H)) ∧ Below w.heap.size w w' := by
  have HS0 := Shut.mk ((SL.start w).new #[.int .i64 H.id, .bool H.up, .slice a H.us.length cap] 26)
  have HR := Shut.mk hr
  have HF := Shut.mk hf
  clear hr hf
  obtain ⟨id, up, us⟩ := H
  show Calls Tryd.prog 50 #[.agg #[.int .i64 id, .bool up, .slice a us.length cap]] w fun e w' => e = .returned (.bool (unitsOk us && inI id 1 7)) ∧ Below w.heap.size w w'
  dsimp only at *
  obtain ⟨n, hn⟩ : ∃ n, n = us.length := ⟨_, rfl⟩
  have HN := Shut.mk hn
  rw [← hn] at HS0 hl ⊢
  clear hn
  go_enter Tryd.func50, Tryd.ntmps50
  go_upto_region 1 with fail
  refine wp_shade (fun W => SL w W [bxS w.heap.size [.int .i64 id, .bool up, .slice a n cap]]) HS0.out ?_
  intro W0 hW
  have HW := Shut.mk hW
  clear HS0 hW
  go_wp2_with fail
  go_loopw [3] (fun i wr => ∃ (k : Nat), i = .int .i64 k ∧ k ≤ n ∧ Shut (∀ j, j < k → unAt us j = true) ∧ Shut (SL w wr [bxS w.heap.size [.int .i64 id, .bool up, .slice a n cap]])) (fun i _ => n - (intOf i).toNat)
  case atStart => exact ⟨0, rfl, Nat.zero_le _, ⟨fun j hj => by omega⟩, HW⟩
  case round =>
    clear HW
    obtain ⟨k, rfl, hk, HG, HW⟩ := hrel
    have x2 := (HW.out.bx 0 rfl 2 _ rfl).1
    by_cases hlt : k < n
    · have hku : k < us.length := by rw [← HN.out]; exact hlt
      obtain ⟨b, off, rfl, lb, hc⟩ := UnRow.at (HR.out.stays HW.out.bel) (by omega)
      obtain ⟨d0, d1, d2, d3⟩ := hc k hku
      obtain ⟨u, hu⟩ : ∃ u, u = us[k] := ⟨_, rfl⟩
      rw [← hu] at d0 d1 d2 d3
      have HU : Shut (us.getD k default = u) := ⟨(getD_un us k hku).trans hu.symm⟩
      have k0 : (0 : Int) ≤ (k : Int) := by omega
      have k1 : (k : Int) < (n : Int) := by omega
      have HC := Shut.mk hc
      have HS := Shut.mk (HW.out.new #[.int .i64 u.group, .int .i64 u.index, .string u.text, .int .i64 u.sum] 32)
      have HSZ : Shut (u.text.size ≤ 9223372036854775807) := ⟨by rw [hu]; exact (HF.out.2 _ (List.getElem_mem hku)).1⟩
      clear hc hu
      go_upto_region 5 with fail
      obtain ⟨bb, hbb⟩ : ∃ q, q = wr.heap.size := ⟨_, rfl⟩
      rw [← hbb] at HS
      rw [← hbb] at lb
      refine wp_shade (fun W => SL w W [bxS bb [.int .i64 u.group, .int .i64 u.index, .string u.text, .int .i64 u.sum], bxS w.heap.size [.int .i64 id, .bool up, .slice (some ⟨b, off, none⟩) n cap]] ∧ Below wr.heap.size wr W) ⟨HS.out, (Below.refl _ _).alloc (Nat.le_refl _) _⟩ ?_
      intro W hW
      rw [← hbb]
      have H := Shut.mk hW.1
      have HBW := Shut.mk hW.2
      have HBB := Shut.mk hbb
      have lw : w.heap.size < W.heap.size := (hW.1.at 1 rfl).1
      have lq : bb < W.heap.size := (hW.1.at 0 rfl).1
      have lbW : b < W.heap.size := Nat.lt_of_lt_of_le (by rw [← hbb]; exact lb) hW.2.size
      have g0 : ∀ X : Grow W, X.val.cell? ⟨bb, 0, none⟩ = some (.int .i64 u.group) := fun X => X.cell (hW.1.bx 0 rfl 0 _ rfl).1 lq
      have g1 : ∀ X : Grow W, X.val.cell? ⟨bb, 1, none⟩ = some (.int .i64 u.index) := fun X => X.cell (hW.1.bx 0 rfl 1 _ rfl).1 lq
      have g2 : ∀ X : Grow W, X.val.cell? ⟨bb, 2, none⟩ = some (.string u.text) := fun X => X.cell (hW.1.bx 0 rfl 2 _ rfl).1 lq
      have g3 : ∀ X : Grow W, X.val.cell? ⟨bb, 3, none⟩ = some (.int .i64 u.sum) := fun X => X.cell (hW.1.bx 0 rfl 3 _ rfl).1 lq
      have gx : ∀ X : Grow W, X.val.cell? ⟨w.heap.size, 2, none⟩ = some (.slice (some ⟨b, off, none⟩) n cap) := fun X => X.cell (hW.1.bx 1 rfl 2 _ rfl).1 lw
      have HGR : Shut (∀ X : Grow W, SL w X.val [bxS w.heap.size [.int .i64 id, .bool up, .slice (some ⟨b, off, none⟩) n cap]]) := ⟨fun X => (SL.tail H.out).below X.bel⟩
      have HNO : Shut (unAt us k = false → unitsOk us = false) := ⟨unitsOk_no hku⟩
      have HONE : Shut (unAt us k = (inI u.group 1 100000 && inI u.index 0 5 && decide (u.text.size ≤ 200) && inI u.sum 0 4294967295 && (decide (k = 0) || unLt (us.getD (k - 1) default) u))) := ⟨by unfold unAt unOne; rw [HU.out]⟩
      clear hW hbb d0 d1 d2 d3 HW HS x2
      cases h_t1 : inI u.group 1 100000 with
      | false =>
        have It1 := Shut.mk (fun X => calls_same (w := W) (fun W' (_ : Below W.heap.size W W') => isInI u.group 1 100000 W' false h_t1) X)
        refine wp_region_grow (by kernel_rfl) (by kernel_rfl) ?_
        repeat (go_big_quiet_step (first | (go_at_call 67; first | with_reducible exact It1.out _ | fail)))
        refine wpQuiet_nil ?_
        rintro _ ⟨X, rfl⟩
        go_wp2_with fail
        go_ret
        exact ⟨by rw [HNO.out (by rw [HONE.out]; simp [*])]; rfl, HGR.out X |>.bel⟩
      | true =>
        have It1 := Shut.mk (fun X => calls_same (w := W) (fun W' (_ : Below W.heap.size W W') => isInI u.group 1 100000 W' true h_t1) X)
        cases h_t2 : inI u.index 0 5 with
        | false =>
          have It2 := Shut.mk (fun X => calls_same (w := W) (fun W' (_ : Below W.heap.size W W') => isInI u.index 0 5 W' false h_t2) X)
          refine wp_region_grow (by kernel_rfl) (by kernel_rfl) ?_
          repeat (go_big_quiet_step (first | (go_at_call 67; first | with_reducible exact It1.out _ | with_reducible exact It2.out _ | fail)))
          refine wpQuiet_nil ?_
          rintro _ ⟨X, rfl⟩
          go_wp2_with fail
          go_ret
          exact ⟨by rw [HNO.out (by rw [HONE.out]; simp [*])]; rfl, HGR.out X |>.bel⟩
        | true =>
          have It2 := Shut.mk (fun X => calls_same (w := W) (fun W' (_ : Below W.heap.size W W') => isInI u.index 0 5 W' true h_t2) X)
          by_cases h_t3 : u.text.size ≤ 200
          case neg =>
            have hd : decide (u.text.size ≤ 200) = false := by simpa using h_t3
            have h2 : decide ((200 : Int) < (u.text.size : Int)) = true := by simp; omega
            refine wp_region_grow (by kernel_rfl) (by kernel_rfl) ?_
            repeat (go_big_quiet_step (first | (go_at_call 67; first | with_reducible exact It1.out _ | with_reducible exact It2.out _ | fail)))
            refine wpQuiet_nil ?_
            rintro _ ⟨X, rfl⟩
            go_wp2_with fail
            go_ret
            exact ⟨by rw [HNO.out (by rw [HONE.out]; simp [*])]; rfl, HGR.out X |>.bel⟩
          have hd : decide (u.text.size ≤ 200) = true := by simpa using h_t3
          have h2 : decide ((200 : Int) < (u.text.size : Int)) = false := by simp; omega
          cases h_t4 : inI u.sum 0 4294967295 with
          | false =>
            have It4 := Shut.mk (fun X => calls_same (w := W) (fun W' (_ : Below W.heap.size W W') => isInI u.sum 0 4294967295 W' false h_t4) X)
            refine wp_region_grow (by kernel_rfl) (by kernel_rfl) ?_
            repeat (go_big_quiet_step (first | (go_at_call 67; first | with_reducible exact It1.out _ | with_reducible exact It2.out _ | with_reducible exact It4.out _ | fail)))
            refine wpQuiet_nil ?_
            rintro _ ⟨X, rfl⟩
            go_wp2_with fail
            go_ret
            exact ⟨by rw [HNO.out (by rw [HONE.out]; simp [*])]; rfl, HGR.out X |>.bel⟩
          | true =>
            have It4 := Shut.mk (fun X => calls_same (w := W) (fun W' (_ : Below W.heap.size W W') => isInI u.sum 0 4294967295 W' true h_t4) X)
            by_cases hz : k = 0
            case pos =>
              have hz' : decide ((0 : Int) < (k : Int)) = false := by simp; omega
              refine wp_region_grow (by kernel_rfl) (by kernel_rfl) ?_
              repeat (go_big_quiet_step (first | (go_at_call 67; first | with_reducible exact It1.out _ | with_reducible exact It2.out _ | with_reducible exact It4.out _ | fail)))
              refine wpQuiet_nil ?_
              rintro _ ⟨X, rfl⟩
              go_wp2_with fail
              go_roundw
              case rel => exact ⟨k + 1, by go_num, by omega, ⟨fun j hj => by rcases Nat.lt_succ_iff_lt_or_eq.1 hj with h | h; exact HG.out j h; subst h; rw [HONE.out]; simp [*]⟩, ⟨HGR.out X⟩⟩
              case measure => simp [intOf]; omega
            have hzd : decide (k = 0) = false := by simpa using hz
            have hz' : decide (0 < k) = true := by simp; omega
            have hz3 : 0 < k := by omega
            obtain ⟨e0, e1, e2, e3⟩ := HC.out (k - 1) (by omega)
            obtain ⟨y, hy⟩ : ∃ y, y = us[k - 1]'(by omega) := ⟨_, rfl⟩
            rw [← hy] at e0 e1 e2 e3
            have HY : Shut (us.getD (k - 1) default = y) := ⟨(getD_un us (k - 1) (by omega)).trans hy.symm⟩
            have p0 : ∀ X : Grow W, X.val.cell? ⟨b, off + (k - 1) * 4, none⟩ = some (.int .i64 y.group) := fun X => X.cell ((HBW.out.cell (p := ⟨b, off + (k - 1) * 4, none⟩) (by rw [← HBB.out]; exact lb)).trans e0) lbW
            have p1 : ∀ X : Grow W, X.val.cell? ⟨b, off + (k - 1) * 4 + 1, none⟩ = some (.int .i64 y.index) := fun X => X.cell ((HBW.out.cell (p := ⟨b, off + (k - 1) * 4 + 1, none⟩) (by rw [← HBB.out]; exact lb)).trans e1) lbW
            have p2 : ∀ X : Grow W, X.val.cell? ⟨b, off + (k - 1) * 4 + 2, none⟩ = some (.string y.text) := fun X => X.cell ((HBW.out.cell (p := ⟨b, off + (k - 1) * 4 + 2, none⟩) (by rw [← HBB.out]; exact lb)).trans e2) lbW
            have p3 : ∀ X : Grow W, X.val.cell? ⟨b, off + (k - 1) * 4 + 3, none⟩ = some (.int .i64 y.sum) := fun X => X.cell ((HBW.out.cell (p := ⟨b, off + (k - 1) * 4 + 3, none⟩) (by rw [← HBB.out]; exact lb)).trans e3) lbW
            have hk1 : (k : Int) - 1 = ((k - 1 : Nat) : Int) := by omega
            have hk2 : (0 : Int) ≤ ((k - 1 : Nat) : Int) := by omega
            have hk3 : ((k - 1 : Nat) : Int) < (n : Int) := by omega
            rw [HY.out] at HONE
            have HAH := Shut.mk (fun X => calls_grow (w := W) (fun W' (_ : Below W.heap.size W W') => specAhead y u W') X)
            clear hy e0 e1 e2 e3 hz
            cases hal : unLt y u with
            | false =>
              rw [hal] at HAH HONE
              refine wp_region_grow (by kernel_rfl) (by kernel_rfl) ?_
              repeat (go_big_quiet_step (first | (go_at_call 67; first | with_reducible exact It1.out _ | with_reducible exact It2.out _ | with_reducible exact It4.out _ | fail) | (go_at_call 49; with_reducible exact HAH.out _)))
              refine wpQuiet_nil ?_
              rintro _ ⟨X, rfl⟩
              go_wp2_with fail
              go_ret
              exact ⟨by rw [HNO.out (by rw [HONE.out]; simp [*])]; rfl, HGR.out X |>.bel⟩
            | true =>
              rw [hal] at HAH HONE
              refine wp_region_grow (by kernel_rfl) (by kernel_rfl) ?_
              repeat (go_big_quiet_step (first | (go_at_call 67; first | with_reducible exact It1.out _ | with_reducible exact It2.out _ | with_reducible exact It4.out _ | fail) | (go_at_call 49; with_reducible exact HAH.out _)))
              refine wpQuiet_nil ?_
              rintro _ ⟨X, rfl⟩
              go_wp2_with fail
              go_roundw
              case rel => exact ⟨k + 1, by go_num, by omega, ⟨fun j hj => by rcases Nat.lt_succ_iff_lt_or_eq.1 hj with h | h; exact HG.out j h; subst h; rw [HONE.out]; simp [*]⟩, ⟨HGR.out X⟩⟩
              case measure => simp [intOf]; omega
    · have e : k = n := by omega
      have HT : Shut (unitsOk us = true) := ⟨unitsOk_yes fun j hj => HG.out j (by have := HN.out; omega)⟩
      have x0 := (HW.out.bx 0 rfl 0 _ rfl).1
      have HI := Shut.mk (fun W => isInI id 1 7 W _ rfl)
      subst e
      go_wp2_with (go_at_call 67; refine (HI.out _).mono ?_; rintro e w1 ⟨rfl, rfl⟩)
      go_ret
      exact ⟨by rw [HT.out]; rfl, HW.out.bel⟩
end Go.Proofs.YtbanfccnmbmcfaaDoor
/- OwS: A row of one's own that is made longer, beside stretches of memory. -/
namespace Go.Proofs.YtbanfccnmbmcfaaDoor
set_option maxRecDepth 100000
open Go.RowKit

structure OwS (w0 W : World) (S : List Str) (ty sz : Nat) (v : Value) (n : Nat) (L : List Value) : Prop where
  sl : SL w0 W S
  own : W.ownsRow w0.heap.size ty sz v n L
  far : ∀ q, v.ownBlock = some q → ∀ s ∈ S, s.hi ≤ q ∨ q < s.lo
section
variable {w0 W W' : World} {S : List Str} {s : Str} {ty sz n : Nat} {v : Value} {L : List Value}
theorem own_row_slice (h : W.ownsRow w0.heap.size ty sz v n L) : ∃ a c, v = .slice a n c := by
  rcases h.2 with ⟨rfl, h0⟩ | ⟨g, cap, cur, e, _⟩
  · exact ⟨none, 0, by rw [h0]⟩
  · exact ⟨_, _, e⟩
theorem OwS.new (h : SL w0 W S) : OwS w0 (W.alloc (.cells #[] ty)) S ty sz (.slice (some ⟨W.heap.size, 0, none⟩) 0 0) 0 [] := by
  refine ⟨h.below ((Below.refl _ _).alloc (Nat.le_refl _) _), World.ownsRow_made (e := ty) (size := sz) (base := w0.heap.size) W #[] 0 h.bel.size (by decide) (by simp), fun q e s hs => ?_⟩
  have eq : W.heap.size = q := by simpa [Value.ownBlock] using e
  have := (h.is s hs).2.2.2
  omega
theorem OwS.nil (h : SL w0 W S) : OwS w0 W S ty sz (.slice none 0 0) 0 [] := ⟨h, World.ownsRow_nil _ _ _ _, fun q e => by cases e⟩
theorem OwS.below (h : OwS w0 W S ty sz v n L) (hb : Below W.heap.size W W') : OwS w0 W' S ty sz v n L :=
  ⟨h.sl.below hb, h.own.kept (row := none) ⟨hb.os, hb.tape, hb.output, hb.size, fun k hk _ => hb.block k hk⟩ (Classical.em _), h.far⟩
theorem OwS.alloc (h : OwS w0 W S ty sz v n L) (o : Obj) : OwS w0 (W.alloc o) S ty sz v n L := h.below ((Below.refl _ _).alloc (Nat.le_refl _) o)
theorem OwS.lt (h : OwS w0 W S ty sz v n L) (q : Nat) (e : v.ownBlock = some q) : w0.heap.size ≤ q ∧ q < W.heap.size := h.own.lt q e
theorem OwS.add (h : OwS w0 W S ty sz v n L) (hb : Below W.heap.size W W') (hp : s.p W') (hl : s.Loc) (h1 : W.heap.size ≤ s.lo) (h2 : s.hi ≤ W'.heap.size) : OwS w0 W' (s :: S) ty sz v n L := by
  have k := h.below hb
  refine ⟨h.sl.add hb hp hl h1 h2, k.own, fun q e x hx => ?_⟩
  rcases List.mem_cons.1 hx with rfl | hx
  · exact .inr (by have := (h.lt q e).2; omega)
  · exact h.far q e x hx
theorem OwS.box (h : OwS w0 W S ty sz v n L) (cs : Array Value) (t : TypeId) : OwS w0 (W.alloc (.cells cs t)) (bxS W.heap.size cs.toList :: S) ty sz v n L :=
  h.add ((Below.refl _ _).alloc (Nat.le_refl _) _) (wcells_new W cs t) (bxS.loc _ _) (Nat.le_refl _) (by simp)
theorem OwS.tail (h : OwS w0 W (s :: S) ty sz v n L) : OwS w0 W S ty sz v n L := ⟨h.sl.tail, h.own, fun q e x hx => h.far q e x (List.mem_cons_of_mem _ hx)⟩
theorem OwS.put (h : OwS w0 W S ty sz v n L) (i : Nat) {b : Nat} {X : List Value} (hs : S[i]? = some (bxS b X)) (j : Nat) (x : Value) (hj : j < X.length) : OwS w0 (W.setCell ⟨b, j, none⟩ x) (S.set i (bxS b (X.set j x))) ty sz v n L := by
  have hm := List.mem_of_getElem? hs
  have hne : ∀ q, v.ownBlock = some q → q ≠ b := fun q e hq => by
    have := h.far q e _ hm
    dsimp only [bxS] at this
    omega
  refine ⟨h.sl.put i hs j x hj, h.own.kept (gb_set' W b j x) ?_, fun q e s hq => ?_⟩
  · cases e : v.ownBlock with
    | none => exact .inl rfl
    | some k => exact .inr fun e2 => hne k e (by cases e2; rfl)
  · obtain ⟨k, hk, rfl⟩ := List.getElem_of_mem hq
    rw [List.length_set] at hk
    by_cases ek : k = i
    · subst ek
      rw [List.getElem_set_self]
      have := h.far q e _ hm
      exact this
    · rw [List.getElem_set_ne (Ne.symm ek)]
      exact h.far q e _ (List.getElem_mem hk)
/-- More is put behind it. -/
theorem OwS.more {Wa : World} {v' : Value} {m : Nat} {L' : List Value} (h : OwS w0 W S ty sz v n L) (hb : Below W.heap.size W Wa) (ho : W'.ownsRow w0.heap.size ty sz v' m L') (hg : Wa.grownBy W' v.ownBlock) (hat : v'.ownBlock = v.ownBlock ∨ v'.ownBlock = some Wa.heap.size) : OwS w0 W' S ty sz v' m L' := by
  have k := h.below hb
  refine ⟨k.sl.grown hg fun q e => ⟨(k.lt q e).1, k.far q e⟩, ho, fun q e s hs => ?_⟩
  rcases hat with e2 | e2
  · exact h.far q (by rw [← e2]; exact e) s hs
  · rw [e2] at e
    have eq : Wa.heap.size = q := by simpa using e
    have := (k.sl.is s hs).2.2.2
    omega
theorem OwS.frw (h : OwS w0 W S ty sz v n L) : ∃ a c, v = .slice a n c ∧ FRw W a L w0.heap.size W.heap.size ∧ n ≤ c := by
  obtain ⟨a, c, rfl⟩ := own_row_slice h.own
  exact ⟨a, c, rfl, (FRw.of_own h.own).1, (FRw.of_own h.own).2⟩
theorem OwS.row (h : OwS w0 W S ty sz v n L) : ∃ a c, v = .slice a n c ∧ CRow W a L ∧ n ≤ c := by
  obtain ⟨a, c, e, h1, h2⟩ := h.frw
  exact ⟨a, c, e, h1.crow, h2⟩
end
end Go.Proofs.YtbanfccnmbmcfaaDoor
/- ApRow: 'append' of a whole row, empty or not, to a row of one's own; and one element more, beside stretches. -/
namespace Go.Proofs.YtbanfccnmbmcfaaDoor
set_option maxRecDepth 100000
open Go.RowKit

theorem wpList_append_row {P : Program} (w : World) {ops : Array Oper} {rest : List Oper} {o : Oper} {a : Act} {Q : Exit → Act → World → Prop} (hgd : o.guard = none) (s x : Operand) (t : TypeId)
    (ho : o.op = .call { callee := .builtin .append, args := #[s, x], argTypes := #[t, t] })
    (base : Nat) (e : TypeId) (i : TypeInfo) (z : Value) (size bytes : Nat) (ht : P.underlying t = some (.slice e)) (hi : P.info? e = some i) (hz : i.zero = some z)
    (hsize : i.size = size) (hby : i.bytes = bytes) (hzs : z.cells.size = size) (hsz : 0 < size)
    (v : Value) (n : Nat) (xs : List Value) (hs : a.eval s = v) (hown : w.ownsRow base e size v n xs)
    (ra : Option Addr) (m c : Nat) (news : List Value) (hx : a.eval x = .slice ra m c) (hl : news.length = m * size) (hrow : CRow w ra news) (h1 : ∀ u ∈ news, u.oneCell' = true)
    (h63 : n + m ≤ maxLen) (hbytes : (n + m) * bytes ≤ 140737488355328) (hbase : base ≤ w.heap.size)
    (h : ∀ v' w', w'.ownsRow base e size v' (n + m) (xs ++ news) → w.grownBy w' v.ownBlock → (v'.ownBlock = v.ownBlock ∨ v'.ownBlock = some w.heap.size) → wpList P ops Q rest (a.put o.dst v') w') :
    wpList P ops Q (o :: rest) a w := by
  by_cases hm : m = 0
  · subst hm
    have hn : news = [] := List.eq_nil_of_length_eq_zero (by rw [hl]; simp)
    subst hn
    have hv : ∃ av cv, v = .slice av n cv ∧ n ≤ cv := by
      rcases hown.2 with ⟨rfl, h0⟩ | ⟨g, cap, cur, e1, _, _, h3, _⟩
      · exact ⟨none, 0, by rw [h0], by omega⟩
      · exact ⟨_, _, e1, h3⟩
    obtain ⟨av, cv, rfl, hcv⟩ := hv
    have hsrc : Src P i.size t (.slice ra 0 c) 0 [] w := by
      cases ra with
      | none => exact Src.ofNil w ht c
      | some q => exact Src.ofSlice w ht q 0 c [] (by simp) (by simp) (by simp)
    refine wpList_plain hgd fun K' hK' => ?_
    unfold Oper.wp
    simp [execOp, ho, resolve, invoke, builtin, hs, hx, run_append_nothing w t t o.type e i ht hi av n cv hcv _ hsrc, Result.andThen]
    exact hK' _ _ (h _ w (by simpa using hown) ⟨rfl, rfl, rfl, Nat.le_refl _, fun _ _ _ => rfl⟩ (.inl rfl))
  · obtain ⟨b, off, rfl, _, hc⟩ := hrow (by rw [hl]; exact Nat.mul_pos (Nat.pos_of_ne_zero hm) hsz)
    refine wpList_append_own_at _ hgd s x t ho base e i z size bytes ht hi hz hsize hby hzs hsz v n xs hs hown ⟨b, off, none⟩ m c news hx hl (fun j u hj => ?_) h1 h63 hbytes hbase (fun v' w' h2 h3 _ h5 => h v' w' h2 h3 h5)
    have e2 : (⟨b, off, none⟩ : Addr).add j = ⟨b, off + j, none⟩ := by cases j <;> simp [Addr.add]
    rw [e2]
    exact hc j u hj
end Go.Proofs.YtbanfccnmbmcfaaDoor
/- SpI: The models' l14Copy, l14At, GetUnit. -/
namespace Go.Proofs.YtbanfccnmbmcfaaDoor
set_option maxRecDepth 100000
open Go.RowKit BigFrame
attribute [local go_sem ↓] Go.wp_at_zero Go.wp_at_succ

theorem uns_one (us : List UnM) : ∀ u ∈ unS us, u.oneCell' = true := by
  intro u hu
  unfold unS at hu
  obtain ⟨x, _, hx⟩ := List.mem_flatMap.1 hu
  simp only [unC, List.mem_cons, List.not_mem_nil, or_false] at hx
  rcases hx with rfl | rfl | rfl | rfl <;> rfl
set_option maxHeartbeats 1000000 in
theorem specCopy14 (H : HM) (a : Option Addr) (cap : Nat) (w : World) (hr : UnRow w a H.us) (hl : H.us.length ≤ 1048576) :
    Calls Tryd.prog 48 #[hov H a cap] w fun e w' => HoPost H w e w' := by
  obtain ⟨i0, hin, hz0, hz1, hz2⟩ := info_parts infoUnit
  have HS0 := Shut.mk (((SL.start w).new #[.int .i64 H.id, .bool H.up, .slice a H.us.length cap] 26).new #[.int .i64 0, .bool false, .slice none 0 0] 26)
  simp only [World.size_alloc] at HS0
  have HR := Shut.mk hr
  clear hr
  obtain ⟨id, up, us⟩ := H
  show Calls Tryd.prog 48 #[.agg #[.int .i64 id, .bool up, .slice a us.length cap]] w fun e w' => HoPost ⟨id, up, us⟩ w e w'
  dsimp only at *
  obtain ⟨n, hn⟩ : ∃ n, n = us.length := ⟨_, rfl⟩
  have HN := Shut.mk hn
  rw [← hn] at HS0 hl ⊢
  clear hn
  go_enter Tryd.func48, Tryd.ntmps48
  go_upto_region 1 with fail
  refine wp_shade (fun W => SL w W [bxS (w.heap.size + 1) [.int .i64 0, .bool false, .slice none 0 0], bxS w.heap.size [.int .i64 id, .bool up, .slice a n cap]]) HS0.out ?_
  intro W hW
  have HW := Shut.mk hW
  clear HS0 hW
  have HO := Shut.mk (OwS.new (ty := 32) (sz := 4) HW.out)
  have hsz := HW.out.bel.size
  have lw := (show WCells W w.heap.size _ from HW.out.at 1 rfl).1
  have x2 := (HW.out.bx 1 rfl 2 _ rfl).1
  go_upto_region 2 with (at_builtin; refine wpList_append_row _ rfl _ _ 24 rfl w.heap.size 32 i0 _ 4 40 Tryd.underlying24 hin hz0 hz1 hz2 rfl (by decide) _ _ _ rfl HO.out.own a n cap (unS us) rfl (by rw [unS_len, HN.out]) (HR.out.stays HO.out.sl.bel) (uns_one us) (by unfold maxLen; omega) (by omega) HO.out.sl.bel.size ?_; intro v6 w6 ho6 hg6 ha6; obtain ⟨a7, c7, rfl⟩ := own_row_slice ho6; have H6 := Shut.mk (HO.out.more (Below.refl _ _) ho6 hg6 ha6); obtain ⟨y2, y2z⟩ := H6.out.sl.bx 1 rfl 2 _ rfl; clear ho6 hg6 ha6 x2 HO; simp only [Nat.zero_add, List.nil_append] at H6)
  have HP := Shut.mk (H6.out.put 1 rfl 2 (.slice a7 n c7) (by simp))
  simp only [List.set_cons_zero, List.set_cons_succ] at HP
  refine wp_shade (fun W' => OwS w W' [bxS (w.heap.size + 1) [.int .i64 0, .bool false, .slice none 0 0], bxS w.heap.size [.int .i64 id, .bool up, .slice a7 n c7]] 32 4 (.slice a7 n c7) n (unS us)) HP.out ?_
  intro W7 h7
  have H7 := Shut.mk h7
  clear h7 HP H6 y2 y2z
  have z0 := (H7.out.sl.bx 1 rfl 0 _ rfl).1
  have z1 := (H7.out.sl.bx 1 rfl 1 _ rfl).1
  have z2 := (H7.out.sl.bx 1 rfl 2 _ rfl).1
  obtain ⟨r0, r0z⟩ := H7.out.sl.bx 0 rfl 0 _ rfl
  obtain ⟨r1, r1z⟩ := H7.out.sl.bx 0 rfl 1 _ rfl
  obtain ⟨r2, r2z⟩ := H7.out.sl.bx 0 rfl 2 _ rfl
  go_wp2_with fail
  have HE := Shut.mk ((((H7.out.put 0 rfl 0 (.int .i64 id) (by simp)).put 0 rfl 1 (.bool up) (by simp)).put 0 rfl 2 (.slice a7 n c7) (by simp)))
  obtain ⟨a8, c8, e8, hf8, hc8⟩ := HE.out.frw
  obtain ⟨rfl, rfl⟩ : a7 = a8 ∧ c7 = c8 := by simpa using e8
  refine bodyPost_ret (v := .agg #[.int .i64 id, .bool up, .slice a7 n c7]) (by simp [results, Tryd.results48, go_sem, r0, r1, r2]) rfl ⟨a7, c7, by rw [HN.out], hf8, by have := HN.out; show us.length ≤ c7; omega, HE.out.sl.bel⟩
/-- The place of a unit. -/
def atN (us : List UnM) (g i : Int) : Int := if unIdx us g i < us.length then (unIdx us g i : Int) else -1
theorem unIdx_found {L : List UnM} {g i : Int} {k : Nat} (hk : k < L.length) (h : (L[k].group == g && L[k].index == i) = true) (hb : ∀ j (hj : j < L.length), j < k → (L[j].group == g && L[j].index == i) = false) : unIdx L g i = k := by
  unfold unIdx
  rw [List.findIdx_eq hk]
  exact ⟨h, fun j hj => hb j (by omega) hj⟩
theorem unIdx_none {L : List UnM} {g i : Int} (hb : ∀ j (hj : j < L.length), (L[j].group == g && L[j].index == i) = false) : unIdx L g i = L.length := by
  unfold unIdx
  rw [List.findIdx_eq_length]
  intro x hx
  obtain ⟨j, hj, rfl⟩ := List.getElem_of_mem hx
  exact hb j hj
theorem atN_found {L : List UnM} {g i : Int} {k : Nat} (hk : k < L.length) (h : (L[k].group == g && L[k].index == i) = true) (hb : ∀ j (hj : j < L.length), j < k → (L[j].group == g && L[j].index == i) = false) : atN L g i = (k : Int) := by
  unfold atN; rw [unIdx_found hk h hb, if_pos hk]
theorem atN_none {L : List UnM} {g i : Int} (hb : ∀ j (hj : j < L.length), (L[j].group == g && L[j].index == i) = false) : atN L g i = -1 := by
  unfold atN; rw [unIdx_none hb, if_neg (Nat.lt_irrefl _)]
set_option maxHeartbeats 1000000 in
theorem specAt14 (H : HM) (a : Option Addr) (cap : Nat) (g i : Int) (w : World) (hr : UnRow w a H.us) (hl : H.us.length ≤ 1048576) :
    Calls Tryd.prog 44 #[hov H a cap, .int .i64 g, .int .i64 i] w fun e w' => e = .returned (.int .i64 (atN H.us g i)) ∧ Below w.heap.size w w' := by
  have HS0 := Shut.mk ((SL.start w).new #[.int .i64 H.id, .bool H.up, .slice a H.us.length cap] 26)
  have HR := Shut.mk hr
  clear hr
  obtain ⟨id, up, us⟩ := H
  show Calls Tryd.prog 44 #[.agg #[.int .i64 id, .bool up, .slice a us.length cap], .int .i64 g, .int .i64 i] w fun e w' => e = .returned (.int .i64 (atN us g i)) ∧ Below w.heap.size w w'
  dsimp only at *
  obtain ⟨n, hn⟩ : ∃ n, n = us.length := ⟨_, rfl⟩
  have HN := Shut.mk hn
  rw [← hn] at HS0 hl ⊢
  clear hn
  obtain ⟨R, hR⟩ : ∃ R, R = atN us g i := ⟨_, rfl⟩
  rw [← hR]
  have HQ := Shut.mk hR
  clear hR
  go_enter Tryd.func44, Tryd.ntmps44
  go_upto_region 1 with fail
  refine wp_shade (fun W => SL w W [bxS w.heap.size [.int .i64 id, .bool up, .slice a n cap]]) HS0.out ?_
  intro W0 hW
  have HW := Shut.mk hW
  clear HS0 hW
  have x2 := (HW.out.bx 0 rfl 2 _ rfl).1
  go_wp2_with fail
  go_loop [7] (fun i9 => ∃ (k : Nat), i9 = .int .i64 k ∧ k ≤ n ∧ Shut (∀ j (hj : j < us.length), j < k → (us[j].group == g && us[j].index == i) = false)) (fun i9 => n - (intOf i9).toNat)
  case atStart => exact ⟨0, rfl, Nat.zero_le _, ⟨fun j _ hj => by omega⟩⟩
  case round =>
    obtain ⟨k, rfl, hk, HG⟩ := hrel
    by_cases hlt : k < n
    · have hku : k < us.length := by rw [← HN.out]; exact hlt
      obtain ⟨b, off, rfl, lb, hc⟩ := UnRow.at (HR.out.stays HW.out.bel) (by omega)
      obtain ⟨d0, d1, d2, d3⟩ := hc k hku
      have HF : Shut ((us[k].group == g && us[k].index == i) = true → R = (k : Int)) := ⟨fun h => HQ.out.trans (atN_found hku h HG.out)⟩
      have HNX : Shut ((us[k].group == g && us[k].index == i) = false → ∀ j (hj : j < us.length), j < k + 1 → (us[j].group == g && us[j].index == i) = false) := ⟨fun h j hj hjk => by
        rcases Nat.lt_succ_iff_lt_or_eq.1 hjk with e | e
        · exact HG.out j hj e
        · subst e; exact h⟩
      obtain ⟨u, hu⟩ : ∃ u, u = us[k] := ⟨_, rfl⟩
      rw [← hu] at d0 d1 d2 d3 HF HNX
      have k0 : (0 : Int) ≤ (k : Int) := by omega
      have k1 : (k : Int) < (n : Int) := by omega
      clear hc hu d2 d3
      cases h1 : u.group == g with
      | false =>
        have HX := Shut.mk (HNX.out (by rw [h1]; rfl))
        go_wp2_with fail
        go_round
        case rel => exact ⟨k + 1, by go_num, by omega, HX⟩
        case measure => simp [intOf]; omega
      | true =>
        cases h2 : u.index == i with
        | false =>
          have HX := Shut.mk (HNX.out (by rw [h1, h2]; rfl))
          go_wp2_with fail
          go_round
          case rel => exact ⟨k + 1, by go_num, by omega, HX⟩
          case measure => simp [intOf]; omega
        | true =>
          have HX := Shut.mk (HF.out (by rw [h1, h2]; rfl))
          go_wp2_with fail
          go_ret
          exact ⟨by rw [HX.out]; rfl, HW.out.bel⟩
    · have HX : Shut (R = -1) := ⟨HQ.out.trans (atN_none fun j hj => HG.out j hj (by have := HN.out; omega))⟩
      obtain rfl : k = n := by omega
      go_wp2_with fail
      go_ret
      exact ⟨by rw [HX.out]; rfl, HW.out.bel⟩
end Go.Proofs.YtbanfccnmbmcfaaDoor
/- SpJ: The model's GetUnit. -/
namespace Go.Proofs.YtbanfccnmbmcfaaDoor
set_option maxRecDepth 100000
open Go.RowKit BigFrame
attribute [local go_sem ↓] Go.wp_at_zero Go.wp_at_succ

theorem idx_lt {us : List UnM} {g i : Int} (h : unIdx us g i < us.length) : atN us g i = (unIdx us g i : Int) := by unfold atN; rw [if_pos h]
theorem idx_no {us : List UnM} {g i : Int} (h : ¬ unIdx us g i < us.length) : atN us g i = -1 := by unfold atN; rw [if_neg h]
/-- The unit at a place, in every later world. -/
theorem un_at {w W : World} {a : Option Addr} {us : List UnM} (hr : UnRow w a us) (hb : Below w.heap.size w W) {k : Nat} (hk : k < us.length) : ∃ b off u, a = some ⟨b, off, none⟩ ∧ u = us[k] ∧ b < w.heap.size ∧ ∀ X, Below W.heap.size W X → X.cell? ⟨b, off + k * 4, none⟩ = some (.int .i64 u.group) ∧ X.cell? ⟨b, off + k * 4 + 1, none⟩ = some (.int .i64 u.index) ∧ X.cell? ⟨b, off + k * 4 + 2, none⟩ = some (.string u.text) ∧ X.cell? ⟨b, off + k * 4 + 3, none⟩ = some (.int .i64 u.sum) := by
  obtain ⟨b, off, e, lb, _⟩ := UnRow.at hr (by omega)
  refine ⟨b, off, us[k], e, rfl, lb, fun X hX => ?_⟩
  obtain ⟨b', off', e', _, hc⟩ := UnRow.at (hr.stays (hb.trans (hX.mono hb.size))) (by omega)
  rw [e] at e'
  simp only [Option.some.injEq, Addr.mk.injEq, and_true] at e'
  obtain ⟨rfl, rfl⟩ := e'
  exact hc k hk
set_option maxRecDepth 100000 in
set_option maxHeartbeats 2000000 in
theorem specGetUnit (H : HM) (a : Option Addr) (cap : Nat) (g i : Int) (w : World) (hr : UnRow w a H.us) (hl : H.us.length ≤ 1048576) (hz : unSum H.us ≤ 1048576) :
    Calls Tryd.prog 17 #[hov H a cap, .int .i64 g, .int .i64 i] w fun e w' => e = .returned (.tuple #[.string (getX H g i).1, .bool (getX H g i).2]) ∧ Below w.heap.size w w' := by
  have HS0 := Shut.mk ((SL.start w).new #[.int .i64 H.id, .bool H.up, .slice a H.us.length cap] 26)
  have HR := Shut.mk hr
  have HA := Shut.mk (fun (W : World) (hb : Below w.heap.size w W) => specAt14 H a cap g i W (hr.stays hb) hl)
  have HZ : Shut (∀ u ∈ H.us, u.text.size ≤ 1048576) := ⟨fun u hu => by have := unSum_mem hu; omega⟩
  clear hr hz
  obtain ⟨id, up, us⟩ := H
  obtain ⟨R, hR⟩ : ∃ R, R = getX ⟨id, up, us⟩ g i := ⟨_, rfl⟩
  rw [← hR]
  obtain ⟨t0, b0⟩ := R
  have HQ := Shut.mk hR
  clear hR
  show Calls Tryd.prog 17 #[.agg #[.int .i64 id, .bool up, .slice a us.length cap], .int .i64 g, .int .i64 i] w fun e w' => e = .returned (.tuple #[.string t0, .bool b0]) ∧ Below w.heap.size w w'
  dsimp only [hov] at *
  obtain ⟨n, hn⟩ : ∃ n, n = us.length := ⟨_, rfl⟩
  have HN := Shut.mk hn
  rw [← hn] at HS0 HA hl ⊢
  clear hn
  obtain ⟨ki, hki⟩ : ∃ q, q = atN us g i := ⟨_, rfl⟩
  rw [← hki] at HA
  have HK := Shut.mk hki
  clear hki
  go_enter Tryd.func17, Tryd.ntmps17
  go_upto_region 1 with fail
  refine wp_shade (fun W => SL w W [bxS w.heap.size [.int .i64 id, .bool up, .slice a n cap]]) HS0.out ?_
  intro W0 hW
  have HW := Shut.mk hW
  clear HS0 hW
  have x0 := (HW.out.bx 0 rfl 0 _ rfl).1
  have x1 := (HW.out.bx 0 rfl 1 _ rfl).1
  have x2 := (HW.out.bx 0 rfl 2 _ rfl).1
  go_upto_region 2 with (go_at_call 44; refine (HA.out _ HW.out.bel).mono ?_; rintro e w1 ⟨rfl, hb⟩; replace HW := Shut.mk (HW.out.below hb); clear hb x0 x1 x2)
  have lw := (show WCells w1 w.heap.size _ from HW.out.at 0 rfl).1
  have g1 : ∀ X : Grow w1, X.val.cell? ⟨w.heap.size, 1, none⟩ = some (.bool up) := fun X => X.cell (HW.out.bx 0 rfl 1 _ rfl).1 lw
  have g2 : ∀ X : Grow w1, X.val.cell? ⟨w.heap.size, 2, none⟩ = some (.slice a n cap) := fun X => X.cell (HW.out.bx 0 rfl 2 _ rfl).1 lw
  have HGR : Shut (∀ X : Grow w1, SL w X.val [bxS w.heap.size [.int .i64 id, .bool up, .slice a n cap]]) := ⟨fun X => HW.out.below X.bel⟩
  cases hup : up with
  | false =>
    have HE : Shut ((t0, b0) = ((⟨#[]⟩ : ByteArray), false)) := ⟨by rw [HQ.out]; unfold getX; rw [hup]; simp⟩
    rw [hup] at g1 HGR
    refine wp_region_grow (by kernel_rfl) (by kernel_rfl) ?_
    repeat (go_big_quiet_step (fail))
    refine wpQuiet_nil ?_
    rintro _ ⟨X, rfl⟩
    go_wp2_with fail
    go_ret2
    have e1 := HE.out
    simp only [Prod.mk.injEq] at e1
    exact ⟨by rw [e1.1, e1.2]; rfl, (HGR.out X).bel⟩
  | true =>
    rw [hup] at g1 HGR HQ
    by_cases hf : unIdx us g i < us.length
    · obtain ⟨k, hk⟩ : ∃ k, k = unIdx us g i := ⟨_, rfl⟩
      have hki : ki = (k : Int) := by rw [HK.out, idx_lt hf, hk]
      rw [← hk] at hf
      obtain ⟨b, off, u, rfl, hu, lb, hc⟩ := un_at HR.out HW.out.bel hf
      have HE : Shut ((t0, b0) = if unSound u then (u.text, true) else ((⟨#[]⟩ : ByteArray), false)) := ⟨by
        rw [HQ.out]; unfold getX; dsimp only; rw [← hk, getD_un us k hf, ← hu]; simp [hf]⟩
      have HSU := Shut.mk (fun X : Grow w1 => calls_same (w := w1) (fun W' (_ : Below w1.heap.size w1 W') => specSumText u.text W' (by rw [hu]; exact HZ.out _ (List.getElem_mem hf))) X)
      unfold unSound at HE
      generalize sumN u.text = sn at HE HSU
      subst hki
      have k0 : (0 : Int) ≤ (k : Int) := by omega
      have k1 : (k : Int) < (n : Int) := by have := HN.out; omega
      have k2 : decide ((k : Int) < 0) = false := by simp
      have p2 : ∀ X : Grow w1, X.val.cell? ⟨b, off + k * 4 + 2, none⟩ = some (.string u.text) := fun X => (hc X.val X.bel).2.2.1
      have p3 : ∀ X : Grow w1, X.val.cell? ⟨b, off + k * 4 + 3, none⟩ = some (.int .i64 u.sum) := fun X => (hc X.val X.bel).2.2.2
      have HC := Shut.mk hc
      clear hc hk hu hf
      cases hs : u.sum == sn with
      | false =>
        have hs' : (u.sum != sn) = true := by rw [bne, hs]; rfl
        rw [hs] at HE
        refine wp_region_grow (by kernel_rfl) (by kernel_rfl) ?_
        repeat (go_big_quiet_step (first | (go_at_call 19; with_reducible exact HSU.out _)))
        refine wpQuiet_nil ?_
        rintro _ ⟨X, rfl⟩
        go_wp2_with fail
        go_ret2
        have e1 := HE.out
        simp only [Bool.false_eq_true, if_false, Prod.mk.injEq] at e1
        exact ⟨by rw [e1.1, e1.2]; rfl, (HGR.out X).bel⟩
      | true =>
        have hs' : (u.sum != sn) = false := by rw [bne, hs]; rfl
        rw [hs] at HE
        refine wp_region_grow (by kernel_rfl) (by kernel_rfl) ?_
        repeat (go_big_quiet_step (first | (go_at_call 19; with_reducible exact HSU.out _)))
        refine wpQuiet_nil ?_
        rintro _ ⟨X, rfl⟩
        have y2 := g2 X
        have y3 := p2 X
        clear g1 g2 p2 p3
        go_wp2_with fail
        go_ret2
        have e1 := HE.out
        simp only [if_true, Prod.mk.injEq] at e1
        exact ⟨by rw [e1.1, e1.2]; rfl, (HGR.out X).bel⟩
    · have hki : ki = -1 := by rw [HK.out, idx_no hf]
      have HE : Shut ((t0, b0) = ((⟨#[]⟩ : ByteArray), false)) := ⟨by rw [HQ.out]; unfold getX; simp [hf]⟩
      subst hki
      clear hf
      refine wp_region_grow (by kernel_rfl) (by kernel_rfl) ?_
      repeat (go_big_quiet_step (fail))
      refine wpQuiet_nil ?_
      rintro _ ⟨X, rfl⟩
      go_wp2_with fail
      go_ret2
      have e1 := HE.out
      simp only [Prod.mk.injEq] at e1
      exact ⟨by rw [e1.1, e1.2]; rfl, (HGR.out X).bel⟩
end Go.Proofs.YtbanfccnmbmcfaaDoor
/- SpK: The model's PutUnit (written by gen/mkput.py). -/
namespace Go.Proofs.YtbanfccnmbmcfaaDoor
set_option maxRecDepth 100000
open Go.RowKit BigFrame
attribute [local go_sem ↓] Go.wp_at_zero Go.wp_at_succ

theorem uns_snoc (us : List UnM) (u : UnM) : unS (us ++ [u]) = unS us ++ unC u := by simp [unS]
theorem filter_tk {α : Type} (f : α → Bool) (L : List α) (k : Nat) (h : k < L.length) : (L.take (k + 1)).filter f = (L.take k).filter f ++ if f L[k] = true then [L[k]] else [] := by
  rw [List.take_succ_eq_append_getElem h, List.filter_append]
  congr 1
  split <;> simp [*]
/-- A host and a flag: a host whose row is its own. -/
def HbPost (r : HM × Bool) (w : World) (e : Ending) (w' : World) : Prop := ∃ a cap, e = .returned (.tuple #[hov r.1 a cap, .bool r.2]) ∧ FRw w' a (unS r.1.us) w.heap.size w'.heap.size ∧ r.1.us.length ≤ cap ∧ Below w.heap.size w w'
theorem put_fits {us : List UnM} {u : UnM} (h : UnFits us) (hu : UnFit u) (hl : us.length ≤ 1048576) : UnFits (putL us u) := by
  unfold putL
  have l1 := List.length_filter_le (unLt · u) us
  have l2 := List.length_filter_le (unLt u ·) us
  refine ⟨by simp only [List.length_append, List.length_singleton]; omega, fun x hx => ?_⟩
  simp only [List.mem_append, List.mem_filter, List.mem_singleton] at hx
  rcases hx with (hx | rfl) | hx
  · exact h.2 x hx.1
  · exact hu
  · exact h.2 x hx.1
theorem frw_wide {W : World} {va : Option Addr} {X : List Value} {lo hi lo' hi' : Nat} (h : FRw W va X lo hi) (h1 : lo' ≤ lo) (h2 : hi ≤ hi') : FRw W va X lo' hi' := by
  rcases h with e | ⟨g, e, q1, q2, q3⟩
  · exact .inl e
  · exact .inr ⟨g, e, by omega, by omega, q3⟩
set_option maxRecDepth 100000 in
set_option maxHeartbeats 8000000 in
theorem specPutUnit (H : HM) (a : Option Addr) (cap : Nat) (u : UnM) (w : World) (hr : UnRow w a H.us) (hl : H.us.length ≤ 1048576) (hf : UnFits H.us) (hu : UnFit u) (ht : u.text.size ≤ 1048576) :
    Calls Tryd.prog 22 #[hov H a cap, unv u] w fun e w' => HbPost (putX H u) w e w' := by
  obtain ⟨i0, hin, hz0, hz1, hz2⟩ := info_parts infoUnit
  have HR := Shut.mk hr
  have HCP := Shut.mk (fun (W : World) (hb : Below w.heap.size w W) => specCopy14 H a cap W (hr.stays hb) (by omega))
  have HO1 := Shut.mk (fun (W : World) (hb : Below w.heap.size w W) => specHostOk H a cap W (hr.stays hb) (by omega) hf)
  have HPF := Shut.mk (put_fits (u := summed u) hf ⟨hu.1, hu.2.1, hu.2.2.1, by have := sumN_low u.text; show -9223372036854775808 ≤ sumN u.text ∧ sumN u.text ≤ 9223372036854775807; omega⟩ (by omega))
  have HSU := Shut.mk (fun W => specSumText u.text W ht)
  unfold HoPost at HCP
  obtain ⟨id, up, us⟩ := H
  obtain ⟨ug, ui, ut, us0⟩ := u
  obtain ⟨RR, hRR⟩ : ∃ q, q = putX ⟨id, up, us⟩ ⟨ug, ui, ut, us0⟩ := ⟨_, rfl⟩
  rw [← hRR]
  have HQ := Shut.mk hRR
  unfold putX summed at HQ
  dsimp only [summed] at HPF HQ
  show Calls Tryd.prog 22 #[.agg #[.int .i64 id, .bool up, .slice a us.length cap], .agg #[.int .i64 ug, .int .i64 ui, .string ut, .int .i64 us0]] w fun e w' => HbPost RR w e w'
  dsimp only [hov] at *
  generalize sumN ut = sn at *
  obtain ⟨P, hP⟩ : ∃ q, q = putL us ⟨ug, ui, ut, sn⟩ := ⟨_, rfl⟩
  rw [← hP] at HQ HPF
  have HO2 := Shut.mk (fun (W : World) (b : Option Addr) (c : Nat) (hp : P.length ≤ 9000000) (h : UnRow W b P) => specHostOk ⟨id, up, P⟩ b c W h hp HPF.out)
  obtain ⟨ok1, hk1⟩ : ∃ q, q = hostOk ⟨id, up, us⟩ := ⟨_, rfl⟩
  obtain ⟨ok2, hk2⟩ : ∃ q, q = hostOk ⟨id, up, P⟩ := ⟨_, rfl⟩
  rw [← hk1] at HQ HO1
  rw [← hk2] at HQ HO2
  have HP := Shut.mk hP
  obtain ⟨n, hn⟩ : ∃ n, n = us.length := ⟨_, rfl⟩
  have HN := Shut.mk hn
  dsimp only [hov] at HO2
  rw [← hn] at HCP HO1 hl ⊢
  clear hr hf hu ht hRR hP hk1 hk2 hn HPF
  have HS0 := Shut.mk ((((SL.start w).new #[.int .i64 id, .bool up, .slice a n cap] 26).new #[.int .i64 ug, .int .i64 ui, .string ut, .int .i64 us0] 32).new #[.int .i64 0, .bool false, .slice none 0 0] 26)
  simp only [World.size_alloc] at HS0
  go_enter Tryd.func22, Tryd.ntmps22
  go_upto_region 1 with fail
  refine wp_shade (fun W => SL w W [bxS (w.heap.size + 1 + 1) [.int .i64 0, .bool false, .slice none 0 0], bxS (w.heap.size + 1) [.int .i64 ug, .int .i64 ui, .string ut, .int .i64 us0], bxS w.heap.size [.int .i64 id, .bool up, .slice a n cap]]) HS0.out ?_
  intro W0 hW
  have H := Shut.mk hW
  clear HS0 hW
  have x0 := (H.out.bx 2 rfl 0 _ rfl).1
  have x1 := (H.out.bx 2 rfl 1 _ rfl).1
  have x2 := (H.out.bx 2 rfl 2 _ rfl).1
  go_upto_region 2 with (go_at_call 48; refine (HCP.out _ H.out.bel).mono ?_; rintro e w1 ⟨ac, cc, rfl, hF, hcc, hb⟩; have HS1 := Shut.mk (H.out.add (s := rwS ac (unS us) W0.heap.size w1.heap.size) hb hF (rwS.loc _ _ _ _) (Nat.le_refl _) (Nat.le_refl _)); clear hF hb H x0 x1 x2)
  generalize W0.heap.size = lc at HS1
  obtain ⟨hc9, hhc⟩ : ∃ q, q = w1.heap.size := ⟨_, rfl⟩
  rw [← hhc] at HS1
  clear hhc
  obtain ⟨b6, hb6⟩ : ∃ q, q = w1.heap.size := ⟨_, rfl⟩
  refine wp_shade (fun W => SL w W [bxS b6 [.int .i64 id, .bool up, .slice ac n cc], rwS ac (unS us) lc hc9, bxS (w.heap.size + 1 + 1) [.int .i64 0, .bool false, .slice none 0 0], bxS (w.heap.size + 1) [.int .i64 ug, .int .i64 ui, .string ut, .int .i64 us0], bxS w.heap.size [.int .i64 id, .bool up, .slice a n cap]]) (by rw [hb6]; exact HS1.out.new _ _) ?_
  intro W2 hW
  have H := Shut.mk hW
  rw [← hb6]
  clear hW hb6 HS1
  have x2 := (H.out.bx 3 rfl 2 _ rfl).1
  have z3 := H.out.bx 3 rfl 3 _ rfl
  obtain ⟨z3, z3z⟩ := z3
  go_upto_region 3 with (go_at_call 19; refine (HSU.out _).mono ?_; rintro e w2 ⟨rfl, rfl⟩)
  have HS3 := Shut.mk (H.out.put 3 rfl 3 (.int .i64 sn) (by simp))
  simp only [List.set_cons_zero, List.set_cons_succ] at HS3
  refine wp_shade (fun W => SL w W [bxS b6 [.int .i64 id, .bool up, .slice ac n cc], rwS ac (unS us) lc hc9, bxS (w.heap.size + 1 + 1) [.int .i64 0, .bool false, .slice none 0 0], bxS (w.heap.size + 1) [.int .i64 ug, .int .i64 ui, .string ut, .int .i64 sn], bxS w.heap.size [.int .i64 id, .bool up, .slice a n cap]]) HS3.out ?_
  intro W3 hW
  have H := Shut.mk hW
  clear hW HS3 x2 z3 z3z
  have HOLD := Shut.mk (OwS.new (ty := 32) (sz := 4) H.out)
  clear H
  go_upto_region 4 with fail
  refine wp_shade (fun W => OwS w W [bxS b6 [.int .i64 id, .bool up, .slice ac n cc], rwS ac (unS us) lc hc9, bxS (w.heap.size + 1 + 1) [.int .i64 0, .bool false, .slice none 0 0], bxS (w.heap.size + 1) [.int .i64 ug, .int .i64 ui, .string ut, .int .i64 sn], bxS w.heap.size [.int .i64 id, .bool up, .slice a n cap]] 32 4 (.slice (some ⟨W3.heap.size, 0, none⟩) 0 0) 0 []) HOLD.out ?_
  intro W4 hW
  clear HOLD
  have HOLD := Shut.mk hW
  clear hW
  go_wp2_with fail
  go_loopw [7, 8] (fun v9 i9 wr => ∃ (k m : Nat) (L : List UnM), i9 = .int .i64 k ∧ k ≤ n ∧ m ≤ k ∧ Shut (L = ((us.take k).filter (unLt · ⟨ug, ui, ut, sn⟩)) ∧ m = L.length) ∧ Shut (OwS w wr [bxS b6 [.int .i64 id, .bool up, .slice ac n cc], rwS ac (unS us) lc hc9, bxS (w.heap.size + 1 + 1) [.int .i64 0, .bool false, .slice none 0 0], bxS (w.heap.size + 1) [.int .i64 ug, .int .i64 ui, .string ut, .int .i64 sn], bxS w.heap.size [.int .i64 id, .bool up, .slice a n cap]] 32 4 v9 m (unS L))) (fun _ i9 _ => n - (intOf i9).toNat)
  case atStart => exact ⟨0, 0, [], rfl, Nat.zero_le _, Nat.le_refl _, ⟨by simp⟩, HOLD⟩
  case round =>
    clear HOLD
    obtain ⟨k, m, L, rfl, hk, hm, HL, HW⟩ := hrel
    obtain ⟨av, cv, rfl⟩ := own_row_slice HW.out.own
    have x2 := (HW.out.sl.bx 4 rfl 2 _ rfl).1
    by_cases hlt : k < n
    · have hku : k < us.length := by rw [← HN.out]; exact hlt
      obtain ⟨b, off, x, rfl, hx, lb, hc⟩ := un_at HR.out HW.out.sl.bel hku
      have lw := (show WCells wr w.heap.size _ from HW.out.sl.at 4 rfl).1
      have lu := (show WCells wr (w.heap.size + 1) _ from HW.out.sl.at 3 rfl).1
      have k0 : (0 : Int) ≤ (k : Int) := by omega
      have k1 : (k : Int) < (n : Int) := by omega
      have gx : ∀ X : Grow wr, X.val.cell? ⟨w.heap.size, 2, none⟩ = some (.slice (some ⟨b, off, none⟩) n cap) := fun X => X.cell x2 lw
      have u0 : ∀ X : Grow wr, X.val.cell? ⟨w.heap.size + 1, 0, none⟩ = some (.int .i64 ug) := fun X => X.cell (HW.out.sl.bx 3 rfl 0 _ rfl).1 lu
      have u1 : ∀ X : Grow wr, X.val.cell? ⟨w.heap.size + 1, 1, none⟩ = some (.int .i64 ui) := fun X => X.cell (HW.out.sl.bx 3 rfl 1 _ rfl).1 lu
      have u2 : ∀ X : Grow wr, X.val.cell? ⟨w.heap.size + 1, 2, none⟩ = some (.string ut) := fun X => X.cell (HW.out.sl.bx 3 rfl 2 _ rfl).1 lu
      have u3 : ∀ X : Grow wr, X.val.cell? ⟨w.heap.size + 1, 3, none⟩ = some (.int .i64 sn) := fun X => X.cell (HW.out.sl.bx 3 rfl 3 _ rfl).1 lu
      have p0 : ∀ X : Grow wr, X.val.cell? ⟨b, off + k * 4, none⟩ = some (.int .i64 x.group) := fun X => (hc X.val X.bel).1
      have p1 : ∀ X : Grow wr, X.val.cell? ⟨b, off + k * 4 + 1, none⟩ = some (.int .i64 x.index) := fun X => (hc X.val X.bel).2.1
      have p2 : ∀ X : Grow wr, X.val.cell? ⟨b, off + k * 4 + 2, none⟩ = some (.string x.text) := fun X => (hc X.val X.bel).2.2.1
      have p3 : ∀ X : Grow wr, X.val.cell? ⟨b, off + k * 4 + 3, none⟩ = some (.int .i64 x.sum) := fun X => (hc X.val X.bel).2.2.2
      have HAH := Shut.mk (fun X => calls_grow (w := wr) (fun W' (_ : Below wr.heap.size wr W') => specAhead x ⟨ug, ui, ut, sn⟩ W') X)
      have HNX : Shut ((us.take (k + 1)).filter (unLt · ⟨ug, ui, ut, sn⟩) = (us.take k).filter (unLt · ⟨ug, ui, ut, sn⟩) ++ if unLt x ⟨ug, ui, ut, sn⟩ = true then [x] else []) := ⟨by rw [hx]; exact filter_tk _ us k hku⟩
      have HC := Shut.mk hc
      clear hc hx lw lu
      go_upto_region 7 with fail
      clear x2
      cases hal : unLt x ⟨ug, ui, ut, sn⟩ with
      | false =>
        rw [hal] at HAH HNX
        refine wp_region_grow (by kernel_rfl) (by kernel_rfl) ?_
        repeat (go_big_quiet_step (first | (go_at_call 49; with_reducible exact HAH.out _)))
        refine wpQuiet_nil ?_
        rintro _ ⟨X, rfl⟩
        have H2 := Shut.mk (HW.out.below X.bel)
        clear gx u0 u1 u2 u3 p0 p1 p2 p3
        go_wp2_with fail
        go_roundw
        case rel => exact ⟨k + 1, m, L, by go_num, by omega, by omega, ⟨by rw [HNX.out]; simpa using HL.out⟩, H2⟩
        case measure => simp [intOf]; omega
      | true =>
        rw [hal] at HAH HNX
        refine wp_region_grow (by kernel_rfl) (by kernel_rfl) ?_
        repeat (go_big_quiet_step (first | (go_at_call 49; with_reducible exact HAH.out _)))
        refine wpQuiet_nil ?_
        rintro _ ⟨X, rfl⟩
        have H2 := Shut.mk (HW.out.below X.bel)
        have y2 := gx X
        have d0 := p0 X
        have d1 := p1 X
        have d2 := p2 X
        have d3 := p3 X
        have lbX : b < X.val.heap.size := Nat.lt_of_lt_of_le lb (Nat.le_trans HW.out.sl.bel.size X.bel.size)
        clear gx u0 u1 u2 u3 p0 p1 p2 p3
        obtain ⟨W2, hb2⟩ := X
        dsimp only at *
        have hown := H2.out.own
        have hbs := H2.out.sl.bel.size
        go_wp2_with (at_builtin; refine wpList_append_own_at _ rfl _ _ 24 rfl w.heap.size 32 i0 _ 4 40 Tryd.underlying24 hin hz0 hz1 hz2 rfl (by decide) _ _ _ rfl (hown.alloc _) ⟨W2.heap.size, 0, none⟩ 1 1 [.int .i64 x.group, .int .i64 x.index, .string x.text, .int .i64 x.sum] rfl rfl (World.news_of_block (cs := #[.int .i64 x.group, .int .i64 x.index, .string x.text, .int .i64 x.sum]) (t := 32) (fr := (0, 0)) (heap_alloc_new W2 _)) ?c25 ?c35 ?c45 ?c55 ?_)
        case c25 => simp [Value.oneCell']
        case c35 => unfold maxLen; omega
        case c45 => omega
        case c55 => first | omega | (simp; omega)
        intro v5 w5 ho hg _ hat
        have HL5 := Shut.mk (H2.out.more ((Below.refl _ _).alloc (Nat.le_refl _) _) ho hg (by simpa using hat))
        clear ho hg hat hown hbs
        go_wp2_with fail
        go_roundw
        case rel => exact ⟨k + 1, m + 1, L ++ [x], by go_num, by omega, by omega, ⟨⟨by rw [HNX.out]; simp only [if_true]; rw [← HL.out.1], by rw [List.length_append, ← HL.out.2]; rfl⟩⟩, ⟨by rw [uns_snoc]; exact HL5.out⟩⟩
        case measure => simp [intOf]; omega
    · obtain rfl : n = k := by omega
      have HLN : Shut (L = (us.filter (unLt · ⟨ug, ui, ut, sn⟩)) ∧ m = L.length) := ⟨by have := HL.out; rwa [List.take_of_length_le (by have := HN.out; omega)] at this⟩
      clear HL hlt
      have HL1N := HLN
      clear HLN
      obtain ⟨L1, hL1⟩ : ∃ q, q = L ++ [(⟨ug, ui, ut, sn⟩ : UnM)] := ⟨_, rfl⟩
      obtain ⟨m1, hm1⟩ : ∃ q, q = m + 1 := ⟨_, rfl⟩
      have u0 := (HW.out.sl.bx 3 rfl 0 _ rfl).1
      have u1 := (HW.out.sl.bx 3 rfl 1 _ rfl).1
      have u2 := (HW.out.sl.bx 3 rfl 2 _ rfl).1
      have u3 := (HW.out.sl.bx 3 rfl 3 _ rfl).1
      have hown := HW.out.own
      have hbs := HW.out.sl.bel.size
      go_wp2_with (at_builtin; refine wpList_append_own_at _ rfl _ _ 24 rfl w.heap.size 32 i0 _ 4 40 Tryd.underlying24 hin hz0 hz1 hz2 rfl (by decide) _ _ _ rfl (hown.alloc _) ⟨wr.heap.size, 0, none⟩ 1 1 [.int .i64 ug, .int .i64 ui, .string ut, .int .i64 sn] rfl rfl (World.news_of_block (cs := #[.int .i64 ug, .int .i64 ui, .string ut, .int .i64 sn]) (t := 32) (fr := (0, 0)) (heap_alloc_new wr _)) ?c27 ?c37 ?c47 ?c57 ?_)
      case c27 => simp [Value.oneCell']
      case c37 => unfold maxLen; omega
      case c47 => omega
      case c57 => first | omega | (simp; omega)
      intro v7 w7 ho hg _ hat
      have HL7 := Shut.mk (HW.out.more ((Below.refl _ _).alloc (Nat.le_refl _) _) ho hg (by simpa using hat))
      clear ho hg hat hown hbs
      replace HL1N : Shut (L1 = us.filter (unLt · ⟨ug, ui, ut, sn⟩) ++ [(⟨ug, ui, ut, sn⟩ : UnM)] ∧ m1 = L1.length) := ⟨by rw [hL1, hm1, List.length_append, ← HL1N.out.2, HL1N.out.1]; exact ⟨rfl, rfl⟩⟩
      have HOLD : Shut (OwS w w7 [bxS b6 [.int .i64 id, .bool up, .slice ac n cc], rwS ac (unS us) lc hc9, bxS (w.heap.size + 1 + 1) [.int .i64 0, .bool false, .slice none 0 0], bxS (w.heap.size + 1) [.int .i64 ug, .int .i64 ui, .string ut, .int .i64 sn], bxS w.heap.size [.int .i64 id, .bool up, .slice a n cap]] 32 4 v7 m1 (unS L1)) := ⟨by rw [hL1, hm1, uns_snoc]; exact HL7.out⟩
      have hm9 : m1 ≤ n + 1 := by omega
      clear hL1 hm1 HL7 HW u0 u1 u2 u3 x2 hm
      go_wp2_with fail
      go_loopw [7, 9] (fun v9 i9 wr => ∃ (k m : Nat) (L : List UnM), i9 = .int .i64 k ∧ k ≤ n ∧ m ≤ m1 + k ∧ Shut (L = L1 ++ ((us.take k).filter (unLt ⟨ug, ui, ut, sn⟩ ·)) ∧ m = L.length) ∧ Shut (OwS w wr [bxS b6 [.int .i64 id, .bool up, .slice ac n cc], rwS ac (unS us) lc hc9, bxS (w.heap.size + 1 + 1) [.int .i64 0, .bool false, .slice none 0 0], bxS (w.heap.size + 1) [.int .i64 ug, .int .i64 ui, .string ut, .int .i64 sn], bxS w.heap.size [.int .i64 id, .bool up, .slice a n cap]] 32 4 v9 m (unS L))) (fun _ i9 _ => n - (intOf i9).toNat)
      case atStart => exact ⟨0, m1, L1, rfl, Nat.zero_le _, Nat.le_refl _, ⟨by simpa using HL1N.out.2⟩, HOLD⟩
      case round =>
        clear HOLD
        obtain ⟨k, m, L, rfl, hk, hm, HL, HW⟩ := hrel
        obtain ⟨av, cv, rfl⟩ := own_row_slice HW.out.own
        have x2 := (HW.out.sl.bx 4 rfl 2 _ rfl).1
        by_cases hlt : k < n
        · have hku : k < us.length := by rw [← HN.out]; exact hlt
          obtain ⟨b, off, x, rfl, hx, lb, hc⟩ := un_at HR.out HW.out.sl.bel hku
          have lw := (show WCells wr w.heap.size _ from HW.out.sl.at 4 rfl).1
          have lu := (show WCells wr (w.heap.size + 1) _ from HW.out.sl.at 3 rfl).1
          have k0 : (0 : Int) ≤ (k : Int) := by omega
          have k1 : (k : Int) < (n : Int) := by omega
          have gx : ∀ X : Grow wr, X.val.cell? ⟨w.heap.size, 2, none⟩ = some (.slice (some ⟨b, off, none⟩) n cap) := fun X => X.cell x2 lw
          have u0 : ∀ X : Grow wr, X.val.cell? ⟨w.heap.size + 1, 0, none⟩ = some (.int .i64 ug) := fun X => X.cell (HW.out.sl.bx 3 rfl 0 _ rfl).1 lu
          have u1 : ∀ X : Grow wr, X.val.cell? ⟨w.heap.size + 1, 1, none⟩ = some (.int .i64 ui) := fun X => X.cell (HW.out.sl.bx 3 rfl 1 _ rfl).1 lu
          have u2 : ∀ X : Grow wr, X.val.cell? ⟨w.heap.size + 1, 2, none⟩ = some (.string ut) := fun X => X.cell (HW.out.sl.bx 3 rfl 2 _ rfl).1 lu
          have u3 : ∀ X : Grow wr, X.val.cell? ⟨w.heap.size + 1, 3, none⟩ = some (.int .i64 sn) := fun X => X.cell (HW.out.sl.bx 3 rfl 3 _ rfl).1 lu
          have p0 : ∀ X : Grow wr, X.val.cell? ⟨b, off + k * 4, none⟩ = some (.int .i64 x.group) := fun X => (hc X.val X.bel).1
          have p1 : ∀ X : Grow wr, X.val.cell? ⟨b, off + k * 4 + 1, none⟩ = some (.int .i64 x.index) := fun X => (hc X.val X.bel).2.1
          have p2 : ∀ X : Grow wr, X.val.cell? ⟨b, off + k * 4 + 2, none⟩ = some (.string x.text) := fun X => (hc X.val X.bel).2.2.1
          have p3 : ∀ X : Grow wr, X.val.cell? ⟨b, off + k * 4 + 3, none⟩ = some (.int .i64 x.sum) := fun X => (hc X.val X.bel).2.2.2
          have HAH := Shut.mk (fun X => calls_grow (w := wr) (fun W' (_ : Below wr.heap.size wr W') => specAhead ⟨ug, ui, ut, sn⟩ x W') X)
          have HNX : Shut ((us.take (k + 1)).filter (unLt ⟨ug, ui, ut, sn⟩ ·) = (us.take k).filter (unLt ⟨ug, ui, ut, sn⟩ ·) ++ if unLt ⟨ug, ui, ut, sn⟩ x = true then [x] else []) := ⟨by rw [hx]; exact filter_tk _ us k hku⟩
          have HC := Shut.mk hc
          clear hc hx lw lu
          go_upto_region 13 with fail
          clear x2
          cases hal : unLt ⟨ug, ui, ut, sn⟩ x with
          | false =>
            rw [hal] at HAH HNX
            refine wp_region_grow (by kernel_rfl) (by kernel_rfl) ?_
            repeat (go_big_quiet_step (first | (go_at_call 49; with_reducible exact HAH.out _)))
            refine wpQuiet_nil ?_
            rintro _ ⟨X, rfl⟩
            have H2 := Shut.mk (HW.out.below X.bel)
            clear gx u0 u1 u2 u3 p0 p1 p2 p3
            go_wp2_with fail
            go_roundw
            case rel => exact ⟨k + 1, m, L, by go_num, by omega, by omega, ⟨by rw [HNX.out]; simpa using HL.out⟩, H2⟩
            case measure => simp [intOf]; omega
          | true =>
            rw [hal] at HAH HNX
            refine wp_region_grow (by kernel_rfl) (by kernel_rfl) ?_
            repeat (go_big_quiet_step (first | (go_at_call 49; with_reducible exact HAH.out _)))
            refine wpQuiet_nil ?_
            rintro _ ⟨X, rfl⟩
            have H2 := Shut.mk (HW.out.below X.bel)
            have y2 := gx X
            have d0 := p0 X
            have d1 := p1 X
            have d2 := p2 X
            have d3 := p3 X
            have lbX : b < X.val.heap.size := Nat.lt_of_lt_of_le lb (Nat.le_trans HW.out.sl.bel.size X.bel.size)
            clear gx u0 u1 u2 u3 p0 p1 p2 p3
            obtain ⟨W2, hb2⟩ := X
            dsimp only at *
            have hown := H2.out.own
            have hbs := H2.out.sl.bel.size
            go_wp2_with (at_builtin; refine wpList_append_own_at _ rfl _ _ 24 rfl w.heap.size 32 i0 _ 4 40 Tryd.underlying24 hin hz0 hz1 hz2 rfl (by decide) _ _ _ rfl (hown.alloc _) ⟨W2.heap.size, 0, none⟩ 1 1 [.int .i64 x.group, .int .i64 x.index, .string x.text, .int .i64 x.sum] rfl rfl (World.news_of_block (cs := #[.int .i64 x.group, .int .i64 x.index, .string x.text, .int .i64 x.sum]) (t := 32) (fr := (0, 0)) (heap_alloc_new W2 _)) ?c26 ?c36 ?c46 ?c56 ?_)
            case c26 => simp [Value.oneCell']
            case c36 => unfold maxLen; omega
            case c46 => omega
            case c56 => first | omega | (simp; omega)
            intro v6 w6 ho hg _ hat
            have HL6 := Shut.mk (H2.out.more ((Below.refl _ _).alloc (Nat.le_refl _) _) ho hg (by simpa using hat))
            clear ho hg hat hown hbs
            go_wp2_with fail
            go_roundw
            case rel => exact ⟨k + 1, m + 1, L ++ [x], by go_num, by omega, by omega, ⟨⟨by rw [HNX.out]; simp only [if_true]; rw [← List.append_assoc, ← HL.out.1], by rw [List.length_append, ← HL.out.2]; rfl⟩⟩, ⟨by rw [uns_snoc]; exact HL6.out⟩⟩
            case measure => simp [intOf]; omega
        · obtain rfl : n = k := by omega
          have HLN : Shut (L = L1 ++ (us.filter (unLt ⟨ug, ui, ut, sn⟩ ·)) ∧ m = L.length) := ⟨by have := HL.out; rwa [List.take_of_length_le (by have := HN.out; omega)] at this⟩
          clear HL hlt
          have hz := HW.out.sl.bx 4 rfl 0 _ rfl
          have x0 := (HW.out.sl.bx 4 rfl 0 _ rfl).1
          have x1 := (HW.out.sl.bx 4 rfl 1 _ rfl).1
          have HPE : Shut (P = L ∧ m = P.length) := ⟨by
            have e : P = L := by rw [HP.out, HLN.out.1, HL1N.out.1]; unfold putL; rfl
            exact ⟨e, by rw [e]; exact HLN.out.2⟩⟩
          rw [← HPE.out.1] at HW
          clear hz
          go_upto_region 16 with fail
          obtain ⟨b10, hb10⟩ : ∃ q, q = wr.heap.size := ⟨_, rfl⟩
          have HB := Shut.mk (HW.out.box #[.int .i64 id, .bool up, .slice av m cv] 26)
          rw [← hb10] at HB
          refine wp_shade (fun W => OwS w W (bxS b10 [.int .i64 id, .bool up, .slice av m cv] :: [bxS b6 [.int .i64 id, .bool up, .slice ac n cc], rwS ac (unS us) lc hc9, bxS (w.heap.size + 1 + 1) [.int .i64 0, .bool false, .slice none 0 0], bxS (w.heap.size + 1) [.int .i64 ug, .int .i64 ui, .string ut, .int .i64 sn], bxS w.heap.size [.int .i64 id, .bool up, .slice a n cap]]) 32 4 (.slice av m cv) m (unS P)) HB.out ?_
          intro W9 hW
          rw [← hb10]
          have H := Shut.mk hW
          obtain ⟨a8, c8, e8, hrow8, hc8⟩ := H.out.row
          obtain ⟨rfl, rfl⟩ : av = a8 ∧ cv = c8 := by simpa using e8
          have HRW := Shut.mk hrow8
          have HMP : Shut (P.length = m ∧ P.length ≤ 9000000) := ⟨by have := HPE.out.2; omega⟩
          replace HO2 := Shut.mk (fun (W : World) (hb : Below W9.heap.size W9 W) => HO2.out W av cv HMP.out.2 (HRW.out.stays hb))
          rw [HMP.out.1] at HO2
          clear hW hb10 HB HW hrow8 e8 x0 x1 x2
          have x0 := (H.out.sl.bx 5 rfl 0 _ rfl).1
          have x1 := (H.out.sl.bx 5 rfl 1 _ rfl).1
          have x2 := (H.out.sl.bx 5 rfl 2 _ rfl).1
          cases ok1 with
          | false =>
            have HE : Shut (RR = (⟨id, up, us⟩, false)) := ⟨by rw [HQ.out]; simp⟩
            go_upto_region 17 with (first | (go_at_call 50; refine (HO1.out _ H.out.sl.bel).mono ?_; rintro e wa ⟨rfl, hba⟩; have H1 := Shut.mk (H.out.below hba); have HBA := Shut.mk hba; clear hba H x0 x1 x2; have x1 := (H1.out.sl.bx 5 rfl 1 _ rfl).1; have y0 := (H1.out.sl.bx 0 rfl 0 _ rfl).1; have y1 := (H1.out.sl.bx 0 rfl 1 _ rfl).1; have y2 := (H1.out.sl.bx 0 rfl 2 _ rfl).1))
            have z0 := (H1.out.sl.bx 1 rfl 0 _ rfl).1
            have z1 := (H1.out.sl.bx 1 rfl 1 _ rfl).1
            have z2 := (H1.out.sl.bx 1 rfl 2 _ rfl).1
            obtain ⟨r0, r0z⟩ := H1.out.sl.bx 3 rfl 0 _ rfl
            obtain ⟨r1, r1z⟩ := H1.out.sl.bx 3 rfl 1 _ rfl
            obtain ⟨r2, r2z⟩ := H1.out.sl.bx 3 rfl 2 _ rfl
            go_wp2_with fail
            have HE3 := Shut.mk ((((H1.out.put 3 rfl 0 (.int .i64 id) (by simp)).put 3 rfl 1 (.bool up) (by simp)).put 3 rfl 2 (.slice ac n cc) (by simp)))
            refine bodyPost_ret (v := .tuple #[.agg #[.int .i64 id, .bool up, .slice ac n cc], .bool false]) (by simp [results, Tryd.results22, go_sem, r0, r1, r2]) rfl ?_
            rw [HE.out]
            have hs := HE3.out.sl.is _ (List.mem_of_getElem? (show _[2]? = some (rwS ac (unS us) lc hc9) from rfl))
            exact ⟨ac, cc, by rw [HN.out], frw_wide (show FRw _ ac (unS us) lc hc9 from hs.1) hs.2.2.1 hs.2.2.2, by have := HN.out; show us.length ≤ cc; omega, HE3.out.sl.bel⟩
          | true =>
            cases up with
            | false =>
              have HE : Shut (RR = (⟨id, false, us⟩, false)) := ⟨by rw [HQ.out]; simp⟩
              go_upto_region 17 with (first | (go_at_call 50; refine (HO1.out _ H.out.sl.bel).mono ?_; rintro e wa ⟨rfl, hba⟩; have H1 := Shut.mk (H.out.below hba); have HBA := Shut.mk hba; clear hba H x0 x1 x2; have x1 := (H1.out.sl.bx 5 rfl 1 _ rfl).1; have y0 := (H1.out.sl.bx 0 rfl 0 _ rfl).1; have y1 := (H1.out.sl.bx 0 rfl 1 _ rfl).1; have y2 := (H1.out.sl.bx 0 rfl 2 _ rfl).1))
              have z0 := (H1.out.sl.bx 1 rfl 0 _ rfl).1
              have z1 := (H1.out.sl.bx 1 rfl 1 _ rfl).1
              have z2 := (H1.out.sl.bx 1 rfl 2 _ rfl).1
              obtain ⟨r0, r0z⟩ := H1.out.sl.bx 3 rfl 0 _ rfl
              obtain ⟨r1, r1z⟩ := H1.out.sl.bx 3 rfl 1 _ rfl
              obtain ⟨r2, r2z⟩ := H1.out.sl.bx 3 rfl 2 _ rfl
              go_wp2_with fail
              have HE3 := Shut.mk ((((H1.out.put 3 rfl 0 (.int .i64 id) (by simp)).put 3 rfl 1 (.bool false) (by simp)).put 3 rfl 2 (.slice ac n cc) (by simp)))
              refine bodyPost_ret (v := .tuple #[.agg #[.int .i64 id, .bool false, .slice ac n cc], .bool false]) (by simp [results, Tryd.results22, go_sem, r0, r1, r2]) rfl ?_
              rw [HE.out]
              have hs := HE3.out.sl.is _ (List.mem_of_getElem? (show _[2]? = some (rwS ac (unS us) lc hc9) from rfl))
              exact ⟨ac, cc, by rw [HN.out], frw_wide (show FRw _ ac (unS us) lc hc9 from hs.1) hs.2.2.1 hs.2.2.2, by have := HN.out; show us.length ≤ cc; omega, HE3.out.sl.bel⟩
            | true =>
              cases ok2 with
              | false =>
                have HE : Shut (RR = (⟨id, true, us⟩, false)) := ⟨by rw [HQ.out]; simp⟩
                go_upto_region 17 with (first | (go_at_call 50; refine (HO1.out _ H.out.sl.bel).mono ?_; rintro e wa ⟨rfl, hba⟩; have H1 := Shut.mk (H.out.below hba); have HBA := Shut.mk hba; clear hba H x0 x1 x2; have x1 := (H1.out.sl.bx 5 rfl 1 _ rfl).1; have y0 := (H1.out.sl.bx 0 rfl 0 _ rfl).1; have y1 := (H1.out.sl.bx 0 rfl 1 _ rfl).1; have y2 := (H1.out.sl.bx 0 rfl 2 _ rfl).1) | (go_at_call 50; refine (HO2.out _ HBA.out).mono ?_; rintro e wb ⟨rfl, hbb⟩; have H2 := Shut.mk (H1.out.below hbb); clear hbb H1 x1 y0 y1 y2))
                have z0 := (H2.out.sl.bx 1 rfl 0 _ rfl).1
                have z1 := (H2.out.sl.bx 1 rfl 1 _ rfl).1
                have z2 := (H2.out.sl.bx 1 rfl 2 _ rfl).1
                obtain ⟨r0, r0z⟩ := H2.out.sl.bx 3 rfl 0 _ rfl
                obtain ⟨r1, r1z⟩ := H2.out.sl.bx 3 rfl 1 _ rfl
                obtain ⟨r2, r2z⟩ := H2.out.sl.bx 3 rfl 2 _ rfl
                go_wp2_with fail
                have HE3 := Shut.mk ((((H2.out.put 3 rfl 0 (.int .i64 id) (by simp)).put 3 rfl 1 (.bool true) (by simp)).put 3 rfl 2 (.slice ac n cc) (by simp)))
                refine bodyPost_ret (v := .tuple #[.agg #[.int .i64 id, .bool true, .slice ac n cc], .bool false]) (by simp [results, Tryd.results22, go_sem, r0, r1, r2]) rfl ?_
                rw [HE.out]
                have hs := HE3.out.sl.is _ (List.mem_of_getElem? (show _[2]? = some (rwS ac (unS us) lc hc9) from rfl))
                exact ⟨ac, cc, by rw [HN.out], frw_wide (show FRw _ ac (unS us) lc hc9 from hs.1) hs.2.2.1 hs.2.2.2, by have := HN.out; show us.length ≤ cc; omega, HE3.out.sl.bel⟩
              | true =>
                have HE : Shut (RR = (⟨id, true, P⟩, true)) := ⟨by rw [HQ.out]; simp⟩
                go_upto_region 18 with (first | (go_at_call 50; refine (HO1.out _ H.out.sl.bel).mono ?_; rintro e wa ⟨rfl, hba⟩; have H1 := Shut.mk (H.out.below hba); have HBA := Shut.mk hba; clear hba H x0 x1 x2; have x1 := (H1.out.sl.bx 5 rfl 1 _ rfl).1; have y0 := (H1.out.sl.bx 0 rfl 0 _ rfl).1; have y1 := (H1.out.sl.bx 0 rfl 1 _ rfl).1; have y2 := (H1.out.sl.bx 0 rfl 2 _ rfl).1) | (go_at_call 50; refine (HO2.out _ HBA.out).mono ?_; rintro e wb ⟨rfl, hbb⟩; have H2 := Shut.mk (H1.out.below hbb); clear hbb H1 x1 y0 y1 y2))
                have z0 := (H2.out.sl.bx 0 rfl 0 _ rfl).1
                have z1 := (H2.out.sl.bx 0 rfl 1 _ rfl).1
                have z2 := (H2.out.sl.bx 0 rfl 2 _ rfl).1
                obtain ⟨r0, r0z⟩ := H2.out.sl.bx 3 rfl 0 _ rfl
                obtain ⟨r1, r1z⟩ := H2.out.sl.bx 3 rfl 1 _ rfl
                obtain ⟨r2, r2z⟩ := H2.out.sl.bx 3 rfl 2 _ rfl
                go_wp2_with fail
                have HE3 := Shut.mk ((((H2.out.put 3 rfl 0 (.int .i64 id) (by simp)).put 3 rfl 1 (.bool true) (by simp)).put 3 rfl 2 (.slice av m cv) (by simp)))
                obtain ⟨a9, c9, e9, hf9, hc9'⟩ := HE3.out.frw
                obtain ⟨rfl, rfl⟩ : av = a9 ∧ cv = c9 := by simpa using e9
                refine bodyPost_ret (v := .tuple #[.agg #[.int .i64 id, .bool true, .slice av m cv], .bool true]) (by simp [results, Tryd.results22, go_sem, r0, r1, r2]) rfl ?_
                rw [HE.out]
                exact ⟨av, cv, by rw [← HMP.out.1], hf9, by have := HMP.out.1; show P.length ≤ cv; omega, HE3.out.sl.bel⟩
end Go.Proofs.YtbanfccnmbmcfaaDoor
/- LawHs: The exact law of Spoil (written by gen/mklawho.py). -/
namespace Go.Proofs.YtbanfccnmbmcfaaDoor
set_option maxRecDepth 100000
open Go.RowKit BigFrame
attribute [local go_sem ↓] Go.wp_at_zero Go.wp_at_succ
set_option maxRecDepth 100000 in
set_option maxHeartbeats 8000000 in
theorem lawSpoil (H : HM) (a : Option Addr) (cap : Nat) (g i at9 : Int) (R : HM × Bool) (w : World) (hr : UnRow w a H.us) (hf : UnFits H.us) (hrl : R.1.us.length ≤ 3000000 ∨ 1048576 < H.us.length)
    (hsp : H.us.length ≤ 1048576 → unSum H.us ≤ 1048576 → ∀ (W : World) (b : Option Addr) (c : Nat), UnRow W b H.us → Calls Tryd.prog 28 #[hov H b c, .int .i64 g, .int .i64 i, .int .i64 at9] W fun e w' => HbPost R W e w')
    (him : H.us.length ≤ 1048576 → unSum H.us ≤ 1048576 → ∀ (W : World) (b : Option Addr) (c : Nat), UnRow W b H.us → Below w.heap.size w W → Calls Tryd.prog 14 #[hov H b c, .int .i64 g, .int .i64 i, .int .i64 at9] W fun e w' => HbPost R W e w') :
    Calls Tryd.prog 7 #[hov H a cap, .int .i64 g, .int .i64 i, .int .i64 at9] w fun e w' => e = .returned (.bool true) ∧ Below w.heap.size w w' := by
  have HSZ := Shut.mk (fun (W : World) (hb : Below w.heap.size w W) => szHost_any H a cap 1048576 W (hr.stays hb) hf (by omega) (by omega))
  have HTO := Shut.mk (fun (hl : H.us.length ≤ 1048576) (W : World) (hb : Below w.heap.size w W) => toHost_any H a cap W (hr.stays hb) hl)
  have HSP := Shut.mk hsp
  have HIM := Shut.mk him
  have HEQ := Shut.mk (fun (hl : H.us.length ≤ 1048576) (W : World) (b c : Option Addr) (cb cc : Nat) (h1 : UnRow W b H.us) (h2 : UnRow W c H.us) => eqHost_same H b c cb cc W h1 h2 (by omega))
  have HMH := Shut.mk (fun (hl : H.us.length ≤ 1048576) (W : World) (b : Option Addr) (c lo hi : Nat) (h : FRw W b (unS H.us) lo hi) (hc : H.us.length ≤ c) => markHost_row H b 1 c lo hi W h (by omega) (by omega) hc)
  have HER := Shut.mk (fun (hrl : R.1.us.length ≤ 3000000) (W : World) (b c : Option Addr) (cb cc : Nat) (h1 : UnRow W b R.1.us) (h2 : UnRow W c R.1.us) => eqHost_same R.1 b c cb cc W h1 h2 (by omega))
  have HMR := Shut.mk (fun (hrl : R.1.us.length ≤ 3000000) (W : World) (b : Option Addr) (c lo hi : Nat) (h : FRw W b (unS R.1.us) lo hi) (hc : R.1.us.length ≤ c) => markHost_row R.1 b 1 c lo hi W h (by omega) (by omega) hc)
  have HHR := Shut.mk (fun (hrl : R.1.us.length ≤ 3000000) (W : World) (b : Option Addr) (c : Nat) (h : UnRow W b (marksU 1 R.1.us.length)) => heldHost_any R.1 b 1 c W h (by omega) (by omega))
  unfold HbPost at HSP HIM
  obtain ⟨⟨rid, rup, rus⟩, ok⟩ := R
  unfold HoPost at HTO
  obtain ⟨id, up, us⟩ := H
  dsimp only [hov] at *
  obtain ⟨n, hn⟩ : ∃ n, n = us.length := ⟨_, rfl⟩
  obtain ⟨m, hm⟩ : ∃ m, m = rus.length := ⟨_, rfl⟩
  rw [← hm] at HSP HIM HER HMR HHR hrl
  rw [← hn] at HSZ HTO HSP HIM HEQ HMH hrl ⊢
  clear hr hf hsp him hn hm
  have HS0 := Shut.mk ((SL.start w).new #[.int .i64 id, .bool up, .slice a n cap] 44)
  have hdd : (ok != ok) = false := by simp
  go_enter Tryd.func7, Tryd.ntmps7
  go_upto_region 2 with fail
  refine wp_shade (fun W => SL w W [bxS w.heap.size [.int .i64 id, .bool up, .slice a n cap]]) HS0.out ?_
  intro W0 hS0
  have H := Shut.mk hS0
  clear hS0 HS0
  have x0 := (H.out.bx 0 rfl 0 _ rfl).1
  have x1 := (H.out.bx 0 rfl 1 _ rfl).1
  have x2 := (H.out.bx 0 rfl 2 _ rfl).1
  go_upto_region 3 with (go_at_call 20; refine (HSZ.out _ H.out.bel).mono ?_; rintro e w1 ⟨r, rfl, r0, r1, hb⟩; replace H := Shut.mk (H.out.below hb); clear hb x0 x1 x2)
  by_cases hq : r < 0
  · clear r1
    go_wp2_with fail
    go_ret
    exact ⟨rfl, H.out.bel⟩
  have hr1 := r1 (by omega)
  have hnl : n ≤ 1048576 := by omega
  replace HTO := Shut.mk (HTO.out (by omega))
  replace HSP := Shut.mk (HSP.out (by omega) (by omega))
  replace HIM := Shut.mk (HIM.out (by omega) (by omega))
  replace HEQ := Shut.mk (HEQ.out (by omega))
  replace HMH := Shut.mk (HMH.out (by omega))
  have hml : m ≤ 3000000 := by omega
  replace HER := Shut.mk (HER.out (by omega))
  replace HMR := Shut.mk (HMR.out (by omega))
  replace HHR := Shut.mk (HHR.out (by omega))
  clear hrl
  clear r1 hr1 r0 HSZ
  have x0 := (H.out.bx 0 rfl 0 _ rfl).1
  have x1 := (H.out.bx 0 rfl 1 _ rfl).1
  have x2 := (H.out.bx 0 rfl 2 _ rfl).1
  go_upto_region 6 with (first
    | (go_at_call 23; refine (HTO.out _ H.out.bel).mono ?_; rintro e w2 ⟨aw2, cw2, rfl, hF, hc, hb⟩; replace H := Shut.mk (H.out.below hb); have HW := Shut.mk hF.crow; clear hb hF hc x0 x1 x2)
    | (go_at_call 28; refine (HSP.out _ _ _ HW.out).mono ?_; rintro e w3 ⟨a3, c3, rfl, hF, hc, hb⟩; have HS3 := Shut.mk (H.out.add (s := rwS a3 (unS rus) _ w3.heap.size) hb hF (rwS.loc _ _ _ _) (Nat.le_refl _) (Nat.le_refl _)); have hc3 := hc; clear hF hc hb H HW))
  generalize w2.heap.size = l3 at HS3
  obtain ⟨h3, hh3⟩ : ∃ q, q = w3.heap.size := ⟨_, rfl⟩
  rw [← hh3] at HS3
  clear hh3
  obtain ⟨b3, hb3⟩ : ∃ q, q = w3.heap.size := ⟨_, rfl⟩
  refine wp_shade (fun W => SL w W [bxS b3 [.int .i64 rid, .bool rup, .slice a3 m c3], rwS a3 (unS rus) l3 h3, bxS w.heap.size [.int .i64 id, .bool up, .slice a n cap]]) (by rw [hb3]; exact HS3.out.new _ _) ?_
  intro Wb3 hS
  have H := Shut.mk hS
  rw [← hb3]
  clear hS hb3 HS3
  have x0 := (H.out.bx 2 rfl 0 _ rfl).1
  have x1 := (H.out.bx 2 rfl 1 _ rfl).1
  have x2 := (H.out.bx 2 rfl 2 _ rfl).1
  go_upto_region 7 with (go_at_call 23; refine (HTO.out _ H.out.bel).mono ?_; rintro e w5 ⟨a5, c5, rfl, hF, hc5, hb⟩; have HS5 := Shut.mk (H.out.add (s := rwS a5 (unS us) _ w5.heap.size) hb hF (rwS.loc _ _ _ _) (Nat.le_refl _) (Nat.le_refl _)); clear hb hF x0 x1 x2 H)
  generalize Wb3.heap.size = l5 at HS5
  obtain ⟨h5, hh5⟩ : ∃ q, q = w5.heap.size := ⟨_, rfl⟩
  rw [← hh5] at HS5
  clear hh5
  obtain ⟨b5, hb5⟩ : ∃ q, q = w5.heap.size := ⟨_, rfl⟩
  refine wp_shade (fun W => SL w W [bxS b5 [.int .i64 id, .bool up, .slice a5 n c5], rwS a5 (unS us) l5 h5, bxS b3 [.int .i64 rid, .bool rup, .slice a3 m c3], rwS a3 (unS rus) l3 h3, bxS w.heap.size [.int .i64 id, .bool up, .slice a n cap]]) (by rw [hb5]; exact HS5.out.new _ _) ?_
  intro Wb5 hS
  have H := Shut.mk hS
  rw [← hb5]
  clear hS hb5 HS5
  have x0 := (H.out.bx 0 rfl 0 _ rfl).1
  have x1 := (H.out.bx 0 rfl 1 _ rfl).1
  have x2 := (H.out.bx 0 rfl 2 _ rfl).1
  go_upto_region 8 with (go_at_call 14; refine (HIM.out _ _ _ (show FRw _ _ _ _ _ from H.out.at 1 rfl).crow H.out.bel).mono ?_; rintro e w7 ⟨a7, c7, rfl, hF, hc, hb⟩; have HS7 := Shut.mk (H.out.add (s := rwS a7 (unS rus) _ w7.heap.size) hb hF (rwS.loc _ _ _ _) (Nat.le_refl _) (Nat.le_refl _)); have hc7 := hc; clear hF hc hb H x0 x1 x2)
  generalize Wb5.heap.size = l7 at HS7
  obtain ⟨h7, hh7⟩ : ∃ q, q = w7.heap.size := ⟨_, rfl⟩
  rw [← hh7] at HS7
  clear hh7
  obtain ⟨b7, hb7⟩ : ∃ q, q = w7.heap.size := ⟨_, rfl⟩
  refine wp_shade (fun W => SL w W [bxS b7 [.int .i64 rid, .bool rup, .slice a7 m c7], rwS a7 (unS rus) l7 h7, bxS b5 [.int .i64 id, .bool up, .slice a5 n c5], rwS a5 (unS us) l5 h5, bxS b3 [.int .i64 rid, .bool rup, .slice a3 m c3], rwS a3 (unS rus) l3 h3, bxS w.heap.size [.int .i64 id, .bool up, .slice a n cap]]) (by rw [hb7]; exact HS7.out.new _ _) ?_
  intro Wb7 hS
  have H := Shut.mk hS
  rw [← hb7]
  clear hS hb7 HS7
  have x0 := (H.out.bx 0 rfl 0 _ rfl).1
  have x1 := (H.out.bx 0 rfl 1 _ rfl).1
  have x2 := (H.out.bx 0 rfl 2 _ rfl).1
  have y0 := (H.out.bx 4 rfl 0 _ rfl).1
  have y1 := (H.out.bx 4 rfl 1 _ rfl).1
  have y2 := (H.out.bx 4 rfl 2 _ rfl).1
  go_upto_region 10 with (go_at_call 25; refine (HER.out _ _ _ _ _ (show FRw _ _ _ _ _ from H.out.at 1 rfl).crow (show FRw _ _ _ _ _ from H.out.at 5 rfl).crow).mono ?_; rintro e w8 ⟨rfl, hb⟩; replace H := Shut.mk (H.out.below hb); clear hb x0 x1 x2 y0 y1 y2)
  have HTX : Shut (∀ x, Later w8.drew x → SL w x [bxS b7 [.int .i64 rid, .bool rup, .slice a7 m c7], rwS a7 (unS rus) l7 h7, bxS b5 [.int .i64 id, .bool up, .slice a5 n c5], rwS a5 (unS us) l5 h5, bxS b3 [.int .i64 rid, .bool rup, .slice a3 m c3], rwS a3 (unS rus) l3 h3, bxS w.heap.size [.int .i64 id, .bool up, .slice a n cap]]) := ⟨fun x hx => H.out.below (Below.trans (Below.drew (Below.refl _ _)) hx)⟩
  have HLE : Shut (∀ x, Later w8.drew x → x.cell? ⟨b5, 0, none⟩ = some (.int .i64 id) ∧ x.cell? ⟨b5, 1, none⟩ = some (.bool up) ∧ x.cell? ⟨b5, 2, none⟩ = some (.slice a5 n c5) ∧ x.cell? ⟨w.heap.size, 0, none⟩ = some (.int .i64 id) ∧ x.cell? ⟨w.heap.size, 1, none⟩ = some (.bool up) ∧ x.cell? ⟨w.heap.size, 2, none⟩ = some (.slice a n cap)) := ⟨fun x hx => ⟨((HTX.out x hx).bx 2 rfl 0 _ rfl).1, ((HTX.out x hx).bx 2 rfl 1 _ rfl).1, ((HTX.out x hx).bx 2 rfl 2 _ rfl).1, ((HTX.out x hx).bx 6 rfl 0 _ rfl).1, ((HTX.out x hx).bx 6 rfl 1 _ rfl).1, ((HTX.out x hx).bx 6 rfl 2 _ rfl).1⟩⟩
  refine wp_region_set (fun _ => false) (by kernel_rfl) ?_
  refine wpD_val (i := 0) (v := ?v0) rfl (by kernel_rfl) (by kernel_rfl) (by kernel_rfl) (by kernel_rfl) (fun _ _ _ h => h) (by rfl) ?hy0 ?rest0
  case hy0 => (intro x hx; obtain ⟨d0, d1, d2, d3, d4, d5⟩ := HLE.out x hx; go_simp; try with_reducible rfl)
  try simp only [Act.put, List.setIfInBounds_toArray, List.set_cons_zero, List.set_cons_succ]
  refine wpD_val (i := 1) (v := ?v1) rfl (by kernel_rfl) (by kernel_rfl) (by kernel_rfl) (by kernel_rfl) (fun _ _ _ h => h) (by rfl) ?hy1 ?rest1
  case hy1 => (intro x hx; obtain ⟨d0, d1, d2, d3, d4, d5⟩ := HLE.out x hx; go_simp; try with_reducible rfl)
  try simp only [Act.put, List.setIfInBounds_toArray, List.set_cons_zero, List.set_cons_succ]
  refine wpD_onecall (f := 23) (args := #[.agg #[.int .i64 id, .bool up, .slice a n cap]]) (i := 2) (by kernel_rfl) rfl (by rfl) (fun x hx => by go_simp) (fun x hx => (HTO.out x (HTX.out x hx).bel).mono ?_)
  rintro e y ⟨a6, c6, rfl, hF, hc, hby⟩
  refine ⟨_, rfl, hby, ?_⟩
  have HT1 := Shut.mk ((HTX.out x hx).below hby)
  have HW := Shut.mk hF.crow
  clear hF hc hby hx
  try simp only [Act.put, List.setIfInBounds_toArray, List.set_cons_zero, List.set_cons_succ]
  refine wpD_onecall (f := 25) (args := #[.agg #[.int .i64 id, .bool up, .slice a5 n c5], .agg #[.int .i64 id, .bool up, .slice a6 n c6]]) (i := 3) (by kernel_rfl) rfl (by rfl) (fun x hx => by go_simp) (fun x hx => (HEQ.out x _ _ _ _ (show FRw _ _ _ _ _ from (HT1.out.below hx).at 3 rfl).crow (HW.out.stays hx)).mono ?_)
  rintro e y2 ⟨rfl, hby⟩
  refine ⟨_, rfl, hby, ?_⟩
  have HT2 := Shut.mk ((HT1.out.below hx).below hby)
  clear hby hx HT1 HW
  try simp only [Act.put, List.setIfInBounds_toArray, List.set_cons_zero, List.set_cons_succ]
  refine wpD_val (i := 4) (v := ?v4) rfl (by kernel_rfl) (by kernel_rfl) (by kernel_rfl) (by kernel_rfl) (fun _ _ _ h => h) (by rfl) ?hy4 ?rest4
  case hy4 => (intro x hx; go_simp; try with_reducible rfl)
  try simp only [Act.put, List.setIfInBounds_toArray, List.set_cons_zero, List.set_cons_succ]
  refine wpD_done (by kernel_rfl) ?_ _
  intro W6 hy6
  replace H := Shut.mk (HT2.out.below hy6)
  clear hy6 HT2 HTX HLE
  have x0 := (H.out.bx 2 rfl 0 _ rfl).1
  have x1 := (H.out.bx 2 rfl 1 _ rfl).1
  have x2 := (H.out.bx 2 rfl 2 _ rfl).1
  go_upto_region 14 with (go_at_call 26; refine (HMH.out _ _ _ _ _ (H.out.at 3 rfl) hc5).mono ?_; rintro e w9 ⟨rfl, hF, hg⟩; replace H := Shut.mk (H.out.turn 3 rfl hg hF (rwS.loc _ _ _ _)); clear hF hg x0 x1 x2)
  have x0 := (H.out.bx 0 rfl 0 _ rfl).1
  have x1 := (H.out.bx 0 rfl 1 _ rfl).1
  have x2 := (H.out.bx 0 rfl 2 _ rfl).1
  have y0 := (H.out.bx 4 rfl 0 _ rfl).1
  have y1 := (H.out.bx 4 rfl 1 _ rfl).1
  have y2 := (H.out.bx 4 rfl 2 _ rfl).1
  go_upto_region 17 with (go_at_call 25; refine (HER.out _ _ _ _ _ (show FRw _ _ _ _ _ from H.out.at 1 rfl).crow (show FRw _ _ _ _ _ from H.out.at 5 rfl).crow).mono ?_; rintro e w10 ⟨rfl, hb⟩; replace H := Shut.mk (H.out.below hb); clear hb x0 x1 x2 y0 y1 y2)
  have x0 := (H.out.bx 0 rfl 0 _ rfl).1
  have x1 := (H.out.bx 0 rfl 1 _ rfl).1
  have x2 := (H.out.bx 0 rfl 2 _ rfl).1
  go_upto_region 19 with (go_at_call 26; refine (HMR.out _ _ _ _ _ (H.out.at 1 rfl) hc7).mono ?_; rintro e w11 ⟨rfl, hF, hg⟩; replace H := Shut.mk (H.out.turn 1 rfl hg hF (rwS.loc _ _ _ _)); clear hF hg x0 x1 x2)
  have x0 := (H.out.bx 0 rfl 0 _ rfl).1
  have x1 := (H.out.bx 0 rfl 1 _ rfl).1
  have x2 := (H.out.bx 0 rfl 2 _ rfl).1
  go_upto_region 24 with (go_at_call 27; refine (HHR.out _ _ _ (show FRw _ _ _ _ _ from H.out.at 1 rfl).crow).mono ?_; rintro e w12 ⟨rfl, hb⟩; replace H := Shut.mk (H.out.below hb); clear hb x0 x1 x2)
  have x0 := (H.out.bx 6 rfl 0 _ rfl).1
  have x1 := (H.out.bx 6 rfl 1 _ rfl).1
  have x2 := (H.out.bx 6 rfl 2 _ rfl).1
  go_upto_region 25 with (first
    | (go_at_call 23; refine (HTO.out _ H.out.bel).mono ?_; rintro e w13 ⟨aw13, cw13, rfl, hF, hc, hb⟩; replace H := Shut.mk (H.out.below hb); have HW := Shut.mk hF.crow; clear hb hF hc x0 x1 x2)
    | (go_at_call 14; refine (HIM.out _ _ _ HW.out H.out.bel).mono ?_; rintro e w14 ⟨a14, c14, rfl, hF, hc, hb⟩; have HS14 := Shut.mk (H.out.add (s := rwS a14 (unS rus) _ w14.heap.size) hb hF (rwS.loc _ _ _ _) (Nat.le_refl _) (Nat.le_refl _)); have hc14 := hc; clear hF hc hb H HW))
  generalize w13.heap.size = l14 at HS14
  obtain ⟨h14, hh14⟩ : ∃ q, q = w14.heap.size := ⟨_, rfl⟩
  rw [← hh14] at HS14
  clear hh14
  obtain ⟨b14, hb14⟩ : ∃ q, q = w14.heap.size := ⟨_, rfl⟩
  refine wp_shade (fun W => SL w W [bxS b14 [.int .i64 rid, .bool rup, .slice a14 m c14], rwS a14 (unS rus) l14 h14, bxS b7 [.int .i64 rid, .bool rup, .slice a7 m c7], rwS a7 (unS (marksU 1 m)) l7 h7, bxS b5 [.int .i64 id, .bool up, .slice a5 n c5], rwS a5 (unS (marksU 1 n)) l5 h5, bxS b3 [.int .i64 rid, .bool rup, .slice a3 m c3], rwS a3 (unS rus) l3 h3, bxS w.heap.size [.int .i64 id, .bool up, .slice a n cap]]) (by rw [hb14]; exact HS14.out.new _ _) ?_
  intro Wb14 hS
  have H := Shut.mk hS
  rw [← hb14]
  clear hS hb14 HS14
  have x0 := (H.out.bx 0 rfl 0 _ rfl).1
  have x1 := (H.out.bx 0 rfl 1 _ rfl).1
  have x2 := (H.out.bx 0 rfl 2 _ rfl).1
  have y0 := (H.out.bx 6 rfl 0 _ rfl).1
  have y1 := (H.out.bx 6 rfl 1 _ rfl).1
  have y2 := (H.out.bx 6 rfl 2 _ rfl).1
  go_upto_region 28 with (go_at_call 25; refine (HER.out _ _ _ _ _ (show FRw _ _ _ _ _ from H.out.at 1 rfl).crow (show FRw _ _ _ _ _ from H.out.at 7 rfl).crow).mono ?_; rintro e w15 ⟨rfl, hb⟩; replace H := Shut.mk (H.out.below hb); clear hb x0 x1 x2 y0 y1 y2)
  have x0 := (H.out.bx 2 rfl 0 _ rfl).1
  have x1 := (H.out.bx 2 rfl 1 _ rfl).1
  have x2 := (H.out.bx 2 rfl 2 _ rfl).1
  go_wp2_with (go_at_call 27; refine (HHR.out _ _ _ (show FRw _ _ _ _ _ from H.out.at 3 rfl).crow).mono ?_; rintro e w16 ⟨rfl, hb⟩; replace H := Shut.mk (H.out.below hb); clear hb x0 x1 x2)
  go_ret
  exact ⟨rfl, H.out.bel⟩
end Go.Proofs.YtbanfccnmbmcfaaDoor
