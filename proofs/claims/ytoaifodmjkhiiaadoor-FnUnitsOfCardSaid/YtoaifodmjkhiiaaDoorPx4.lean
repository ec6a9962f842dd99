/- Texts of ours, laid one behind the other: TreC, TreD, TreE, TreP, TreQ, GrwA, SpH, OwS, ApRow, SpI, HcA, PlM, UnP, UnG. -/
import Derived.Test.YtoaifodmjkhiiaaDoorPx3
import Derived.Deep.RegionHeld3
import Derived.Deep.DrawnRows
import Derived.Deep.CutRange
import Derived.BigQuiet
import Derived.Maps.AppendAt
import Derived.Deep.Upon
/- TreC: Copies of trees. -/
namespace Go.Proofs.YtoaifodmjkhiiaaDoor
set_option maxRecDepth 100000
open Go.RowKit
attribute [local go_sem ↓] Go.wp_at_zero Go.wp_at_succ

/-- A copy of pieces. -/
def ToPieces (ps : List PM) (w : World) (e : Ending) (w' : World) : Prop := ∃ g, e = .returned (.slice (some ⟨g, 0, none⟩) ps.length ps.length) ∧ w.heap.size ≤ g ∧ WCells w' g (pcs ps) ∧ Below w.heap.size w w'
/-- A copy of a node. -/
def ToNode (r : NR) (w : World) (e : Ending) (w' : World) : Prop := ∃ g, e = .returned (nv ⟨r.nd, some ⟨g, 0, none⟩, r.nd.pieces.length⟩) ∧ w.heap.size ≤ g ∧ WCells w' g (pcs r.nd.pieces) ∧ Below w.heap.size w w'
/-- Three new blocks: what came in, the answer, and what is made on the way. -/
structure Tri (w W : World) (L1 L2 L3 : List Value) : Prop where
  bel : Below w.heap.size w W
  b1 : WCells W w.heap.size L1
  b2 : WCells W (w.heap.size + 1) L2
  b3 : WCells W (w.heap.size + 1 + 1) L3
theorem Tri.new (w : World) (A B C : Array Value) (tA tB tC : TypeId) : Tri w (((w.alloc (.cells A tA)).alloc (.cells B tB)).alloc (.cells C tC)) A.toList B.toList C.toList := by
  have e1 : (w.alloc (.cells A tA)).heap.size = w.heap.size + 1 := by simp
  have e2 : ((w.alloc (.cells A tA)).alloc (.cells B tB)).heap.size = w.heap.size + 1 + 1 := by simp
  refine ⟨(((Below.refl _ _).alloc (Nat.le_refl _) _).alloc (by simp) _).alloc (by simp; omega) _, ((wcells_new w A tA).alloc _).alloc _, ?_, ?_⟩
  · have := (wcells_new (w.alloc (.cells A tA)) B tB).alloc (.cells C tC)
    rw [e1] at this; exact this
  · have := wcells_new ((w.alloc (.cells A tA)).alloc (.cells B tB)) C tC
    rw [e2] at this; exact this
theorem Tri.set {w W : World} {L1 L2 L3 : List Value} (h : Tri w W L1 L2 L3) (i : Nat) (v : Value) (hi : i < L3.length) : Tri w (W.setCell ⟨w.heap.size + 1 + 1, i, none⟩ v) L1 L2 (L3.set i v) :=
  ⟨h.bel.setCell (p := ⟨w.heap.size + 1 + 1, i, none⟩) (by show w.heap.size ≤ w.heap.size + 1 + 1; omega) v, h.b1.other _ _ (by show w.heap.size ≠ w.heap.size + 1 + 1; omega), h.b2.other _ _ (by show w.heap.size + 1 ≠ w.heap.size + 1 + 1; omega), h.b3.set i v hi⟩
theorem Tri.below {w W W' : World} {L1 L2 L3 : List Value} (h : Tri w W L1 L2 L3) (hb : Below W.heap.size W W') : Tri w W' L1 L2 L3 := ⟨h.bel.trans (hb.mono h.bel.size), h.b1.grow hb, h.b2.grow hb, h.b3.grow hb⟩
end Go.Proofs.YtoaifodmjkhiiaaDoor
/- TreD: Copies of rows of nodes, and of trees. -/
namespace Go.Proofs.YtoaifodmjkhiiaaDoor
set_option maxRecDepth 100000
open Go.RowKit
attribute [local go_sem ↓] Go.wp_at_zero Go.wp_at_succ

theorem pcs_ne {ps : List PM} (h : ps ≠ []) : pcs ps ≠ [] := fun e => h (pcs_nil.1 e)
/-- A node that was copied takes its place. -/
theorem TW.copy {wr w2 : World} {g g' : Nat} {gs : List NR} {B : Nat} (h : TW wr g gs B wr.heap.size) (hb : Below wr.heap.size wr w2) (j : Nat) (hj : j < gs.length) (nd : NM) (hg : wr.heap.size ≤ g') (hw : WCells w2 g' (pcs nd.pieces)) (hB : B ≤ wr.heap.size) :
    TW (setW w2 g (j * 9) (ncells ⟨nd, some ⟨g', 0, none⟩, nd.pieces.length⟩)) g (gs.set j ⟨nd, some ⟨g', 0, none⟩, nd.pieces.length⟩) B w2.heap.size := by
  refine GW.put (K := NKind) ((h.below hb).wide (Nat.le_refl _) hb.size) j hj ⟨nd, some ⟨g', 0, none⟩, nd.pieces.length⟩ ?_ ?_
  · exact .inr ⟨g', rfl, by omega, hw.1, by have := h.out.1; omega, hw⟩
  · intro s hs h1 _ e
    rcases h.rows s hs with q | ⟨b, e2, _, q2, _, _⟩
    · exact h1 q
    · have : b = g' := congrArg Addr.block (Option.some.inj (e2.symm.trans e))
      omega
theorem setW_size (w : World) (g off : Nat) (vs : List Value) : (setW w g off vs).heap.size = w.heap.size := by
  induction vs generalizing w off with
  | nil => rfl
  | cons v vs ih => show (setW _ g (off + 1) vs).heap.size = _; rw [ih]; simp [World.setCell]
theorem setW9 (w : World) (g o : Nat) (v0 v1 v2 v3 v4 v5 v6 v7 v8 : Value) : setW w g o [v0, v1, v2, v3, v4, v5, v6, v7, v8] = ((((((((w.setCell ⟨g, o, none⟩ v0).setCell ⟨g, o + 1, none⟩ v1).setCell ⟨g, o + 2, none⟩ v2).setCell ⟨g, o + 3, none⟩ v3).setCell ⟨g, o + 4, none⟩ v4).setCell ⟨g, o + 5, none⟩ v5).setCell ⟨g, o + 6, none⟩ v6).setCell ⟨g, o + 7, none⟩ v7).setCell ⟨g, o + 8, none⟩ v8 := rfl
/-- A copy of a row of nodes. -/
def ToNodes (rs : List NR) (w : World) (e : Ending) (w' : World) : Prop := ∃ g ts, e = .returned (.slice (some ⟨g, 0, none⟩) ts.length ts.length) ∧ nds ts = nds rs ∧ TW w' g ts w.heap.size w'.heap.size ∧ Below w.heap.size w w'
end Go.Proofs.YtoaifodmjkhiiaaDoor
/- TreE: Copies of trees. -/
namespace Go.Proofs.YtoaifodmjkhiiaaDoor
set_option maxRecDepth 100000
open Go.RowKit
attribute [local go_sem ↓] Go.wp_at_zero Go.wp_at_succ

end Go.Proofs.YtoaifodmjkhiiaaDoor
/- TreP: The walks of the models' TreeNew, l10At, l10File. -/
namespace Go.Proofs.YtoaifodmjkhiiaaDoor
set_option maxRecDepth 100000
open Go.RowKit
attribute [local go_sem ↓] Go.wp_at_zero Go.wp_at_succ

theorem nds_at (rs : List NR) (i : Nat) (h : i < rs.length) : (nds rs)[i]'(by rw [nds_len]; exact h) = rs[i].nd := by simp [nds]
end Go.Proofs.YtoaifodmjkhiiaaDoor
/- TreQ: The walk of the model's l10File. -/
namespace Go.Proofs.YtoaifodmjkhiiaaDoor
set_option maxRecDepth 100000
open Go.RowKit
attribute [local go_sem ↓] Go.wp_at_zero Go.wp_at_succ

theorem isInI (x a b : Int) (w : World) (r : Bool) (h : inI x a b = r) : Calls Tryd.prog 78 #[.int .i64 x, .int .i64 a, .int .i64 b] w fun e w' => e = .returned (.bool r) ∧ w' = w := isIn x a b w r h
theorem fileOk_no1 {n : NM} (h : inI n.schema 1 3 = false) : fileOk n = false := by unfold fileOk; rw [h]; rfl
theorem fileOk_no2 {n : NM} (h : n.quota ≠ 0) : fileOk n = false := by unfold fileOk; rw [show (n.quota == 0) = false by simpa using h]; simp
theorem fileOk_no3 {n : NM} (h : ¬ n.pieces.length ≤ 40) : fileOk n = false := by unfold fileOk; rw [decide_eq_false h]; simp
theorem fileOk_no4 {n : NM} (h : inI n.writer 0 9 = false) : fileOk n = false := by unfold fileOk; rw [h]; simp
theorem fileOk_no5 {n : NM} {p : PM} (hp : p ∈ n.pieces) (h : pieceOk n.schema p = false) : fileOk n = false := by
  have : n.pieces.all (pieceOk n.schema) = false := by
    cases e : n.pieces.all (pieceOk n.schema) with
    | false => rfl
    | true => rw [List.all_eq_true] at e; rw [e p hp] at h; cases h
  unfold fileOk; rw [this]; simp
theorem fileOk_yes {n : NM} (h1 : inI n.schema 1 3 = true) (h2 : n.quota = 0) (h3 : n.pieces.length ≤ 40) (h4 : inI n.writer 0 9 = true) (h5 : ∀ p ∈ n.pieces, pieceOk n.schema p = true) : fileOk n = ((sumP n.pieces == n.len) && decide (sumP n.pieces ≤ 1000)) := by
  unfold fileOk
  rw [h1, h2, decide_eq_true h3, h4, show n.pieces.all (pieceOk n.schema) = true from List.all_eq_true.2 h5]
  simp
end Go.Proofs.YtoaifodmjkhiiaaDoor
/- GrwA: A region that draws its order, whose operations only read and whose callees make new memory alone and answer one value wherever they are called: one walk, in the text's order. -/
namespace Go.Proofs.YtoaifodmjkhiiaaDoor
set_option maxRecDepth 100000
open Go.RowKit

/-- A world with more memory. -/
structure Grow (w : World) where
  val : World
  bel : Below w.heap.size w val
instance {w : World} : Nonempty (Grow w) := ⟨⟨w, Below.refl _ _⟩⟩
theorem wp_region_grow {P : Program} {id : Nat} {Q : Exit → Act → World → Prop} {a : Act} {w : World} {l : List Oper} (hm : P.follows .mixedOrders = true) (hB : Region.lexB .any l.toArray = true)
    (h : wpQuiet P l.toArray (fun W => ∃ X : Grow w, W = X.val) (fun a' => ∀ w', (∃ X : Grow w, w' = X.val) → Q .normal a' w') l a) : (Code.region id l.toArray true).wp P Q a w :=
  wp_region_quiet (C := fun W => ∃ X : Grow w, W = X.val) hm hB ⟨⟨w.drew, Below.drew (Below.refl _ _)⟩, rfl⟩ (by simpa using h)
theorem Grow.cell {w : World} (X : Grow w) {p : Addr} {v : Value} (h : w.cell? p = some v) (hl : p.block < w.heap.size) : X.val.cell? p = some v := (X.bel.cell hl).trans h
theorem calls_grow {P : Program} {f : FuncId} {args : Array Value} {w : World} {v : Value} (h : ∀ W, Below w.heap.size w W → Calls P f args W fun e w' => e = .returned v ∧ Below W.heap.size W w') (X : Grow w) :
    Calls P f args X.val fun e w'' => e = .returned v ∧ ∃ Y : Grow w, w'' = Y.val :=
  (h X.val X.bel).mono fun _ w'' ⟨he, hb⟩ => ⟨he, ⟨w'', X.bel.trans (hb.mono X.bel.size)⟩, rfl⟩
theorem calls_same {P : Program} {f : FuncId} {args : Array Value} {w : World} {v : Value} (h : ∀ W, Below w.heap.size w W → Calls P f args W fun e w' => e = .returned v ∧ w' = W) (X : Grow w) :
    Calls P f args X.val fun e w'' => e = .returned v ∧ ∃ Y : Grow w, w'' = Y.val :=
  (h X.val X.bel).mono fun _ _ ⟨he, hb⟩ => ⟨he, X, hb⟩
end Go.Proofs.YtoaifodmjkhiiaaDoor
/- SpH: The models' SumText, l14Ahead, HostOk, l14At, GetUnit. -/
namespace Go.Proofs.YtoaifodmjkhiiaaDoor
set_option maxRecDepth 100000
open Go.RowKit BigFrame
attribute [local go_sem ↓] Go.wp_at_zero Go.wp_at_succ

theorem sumN_low (t : ByteArray) : 0 ≤ sumN t ∧ sumN t ≤ 4294967295 := by
  unfold sumN
  have := (W.sumOf t).isLt
  omega
theorem specSumText (t : ByteArray) (w : World) (hs : t.size ≤ 1048576) : Calls Tryd.prog 38 #[.string t] w fun e w' => e = .returned (.int .i64 (sumN t)) ∧ w' = w := by
  have h := sumN_low t
  have HP := Shut.mk (specSumOf t w hs)
  unfold u32 at HP
  rw [show (((W.sumOf t).toNat : Nat) : Int) = sumN t from rfl] at HP
  generalize sumN t = q at *
  go_enter Tryd.func38, Tryd.ntmps38
  go_wp2_with fail
  refine HP.out.mono ?_
  rintro e w1 ⟨rfl, rfl⟩
  go_wp2_with fail
  go_ret
  exact ⟨rfl, rfl⟩
theorem specAhead (a b : UnM) (w : World) : Calls Tryd.prog 66 #[unv a, unv b] w fun e w' => e = .returned (.bool (unLt a b)) ∧ Below w.heap.size w w' := by
  have hb : Below w.heap.size w ((w.alloc (.cells #[.int .i64 a.group, .int .i64 a.index, .string a.text, .int .i64 a.sum] 65)).alloc (.cells #[.int .i64 b.group, .int .i64 b.index, .string b.text, .int .i64 b.sum] 65)) := ((Below.refl _ _).alloc (Nat.le_refl _) _).alloc (by simp) _
  have HB := Shut.mk hb
  clear hb
  by_cases h1 : a.group < b.group
  · have HE : Shut (unLt a b = true) := ⟨by simp [unLt, h1]⟩
    go_enter Tryd.func66, Tryd.ntmps66
    go_wp2_with fail
    go_ret
    exact ⟨by rw [HE.out]; rfl, HB.out⟩
  · have h1' : decide (a.group < b.group) = false := by simpa using h1
    by_cases h2 : a.group = b.group
    · have h2' : (a.group == b.group) = true := by simpa using h2
      have HE : Shut (unLt a b = decide (a.index < b.index)) := ⟨by unfold unLt; rw [h1', h2']; simp⟩
      clear h2 h1
      go_enter Tryd.func66, Tryd.ntmps66
      go_wp2_with fail
      go_ret
      exact ⟨by rw [HE.out]; rfl, HB.out⟩
    · have h2' : (a.group == b.group) = false := by simpa using h2
      have HE : Shut (unLt a b = false) := ⟨by unfold unLt; rw [h1', h2']; simp⟩
      clear h2 h1
      go_enter Tryd.func66, Tryd.ntmps66
      go_wp2_with fail
      go_ret
      exact ⟨by rw [HE.out]; rfl, HB.out⟩
theorem getD_un (L : List UnM) (k : Nat) (h : k < L.length) : L.getD k default = L[k] := by simp [List.getD, h]
theorem unitsOk_no {L : List UnM} {k : Nat} (hk : k < L.length) (h : unAt L k = false) : unitsOk L = false := by
  cases hb : unitsOk L with
  | false => rfl
  | true => have := List.all_eq_true.1 hb k (by simpa using hk); rw [h] at this; cases this
theorem unitsOk_yes {L : List UnM} (h : ∀ k, k < L.length → unAt L k = true) : unitsOk L = true := List.all_eq_true.2 fun k hk => h k (by simpa using hk)
set_option maxRecDepth 100000 in
set_option maxHeartbeats 4000000 in
theorem specHostOk (H : HM) (a : Option Addr) (cap : Nat) (w : World) (hr : UnRow w a H.us) (hl : H.us.length ≤ 9000000) (hf : UnFits H.us) :
    Calls Tryd.prog 67 #[hov H a cap] w fun e w' => e = .returned (.bool (hostOk H)) ∧ Below w.heap.size w w' := by
  have HS0 := Shut.mk ((SL.start w).new #[.int .i64 H.id, .bool H.up, .slice a H.us.length cap] 46)
  have HR := Shut.mk hr
  have HF := Shut.mk hf
  clear hr hf
  obtain ⟨id, up, us⟩ := H
  show Calls Tryd.prog 67 #[.agg #[.int .i64 id, .bool up, .slice a us.length cap]] w fun e w' => e = .returned (.bool (unitsOk us && inI id 1 7)) ∧ Below w.heap.size w w'
  dsimp only at *
  obtain ⟨n, hn⟩ : ∃ n, n = us.length := ⟨_, rfl⟩
  have HN := Shut.mk hn
  rw [← hn] at HS0 hl ⊢
  clear hn
  go_enter Tryd.func67, Tryd.ntmps67
  go_upto_region 1 with fail
  refine wp_shade (fun W => SL w W [bxS w.heap.size [.int .i64 id, .bool up, .slice a n cap]]) HS0.out ?_
  intro W0 hW
  have HW := Shut.mk hW
  clear HS0 hW
  go_wp2_with fail
  go_loopw [3] (fun i wr => ∃ (k : Nat), i = .int .i64 k ∧ k ≤ n ∧ Shut (∀ j, j < k → unAt us j = true) ∧ Shut (SL w wr [bxS w.heap.size [.int .i64 id, .bool up, .slice a n cap]])) (fun i _ => n - (intOf i).toNat)
  case atStart => exact ⟨0, rfl, Nat.zero_le _, ⟨fun j hj => by omega⟩, HW⟩
  case round =>
    clear HW
    obtain ⟨k, rfl, hk, HG, HW⟩ := hrel
    have x2 := (HW.out.bx 0 rfl 2 _ rfl).1
    by_cases hlt : k < n
    · have hku : k < us.length := by rw [← HN.out]; exact hlt
      obtain ⟨b, off, rfl, lb, hc⟩ := UnRow.at (HR.out.stays HW.out.bel) (by omega)
      obtain ⟨d0, d1, d2, d3⟩ := hc k hku
      obtain ⟨u, hu⟩ : ∃ u, u = us[k] := ⟨_, rfl⟩
      rw [← hu] at d0 d1 d2 d3
      have HU : Shut (us.getD k default = u) := ⟨(getD_un us k hku).trans hu.symm⟩
      have k0 : (0 : Int) ≤ (k : Int) := by omega
      have k1 : (k : Int) < (n : Int) := by omega
      have HC := Shut.mk hc
      have HS := Shut.mk (HW.out.new #[.int .i64 u.group, .int .i64 u.index, .string u.text, .int .i64 u.sum] 65)
      have HSZ : Shut (u.text.size ≤ 9223372036854775807) := ⟨by rw [hu]; exact (HF.out.2 _ (List.getElem_mem hku)).1⟩
      clear hc hu
      go_upto_region 5 with fail
      obtain ⟨bb, hbb⟩ : ∃ q, q = wr.heap.size := ⟨_, rfl⟩
      rw [← hbb] at HS
      rw [← hbb] at lb
      refine wp_shade (fun W => SL w W [bxS bb [.int .i64 u.group, .int .i64 u.index, .string u.text, .int .i64 u.sum], bxS w.heap.size [.int .i64 id, .bool up, .slice (some ⟨b, off, none⟩) n cap]] ∧ Below wr.heap.size wr W) ⟨HS.out, (Below.refl _ _).alloc (Nat.le_refl _) _⟩ ?_
      intro W hW
      rw [← hbb]
      have H := Shut.mk hW.1
      have HBW := Shut.mk hW.2
      have HBB := Shut.mk hbb
      have lw : w.heap.size < W.heap.size := (hW.1.at 1 rfl).1
      have lq : bb < W.heap.size := (hW.1.at 0 rfl).1
      have lbW : b < W.heap.size := Nat.lt_of_lt_of_le (by rw [← hbb]; exact lb) hW.2.size
      have g0 : ∀ X : Grow W, X.val.cell? ⟨bb, 0, none⟩ = some (.int .i64 u.group) := fun X => X.cell (hW.1.bx 0 rfl 0 _ rfl).1 lq
      have g1 : ∀ X : Grow W, X.val.cell? ⟨bb, 1, none⟩ = some (.int .i64 u.index) := fun X => X.cell (hW.1.bx 0 rfl 1 _ rfl).1 lq
      have g2 : ∀ X : Grow W, X.val.cell? ⟨bb, 2, none⟩ = some (.string u.text) := fun X => X.cell (hW.1.bx 0 rfl 2 _ rfl).1 lq
      have g3 : ∀ X : Grow W, X.val.cell? ⟨bb, 3, none⟩ = some (.int .i64 u.sum) := fun X => X.cell (hW.1.bx 0 rfl 3 _ rfl).1 lq
      have gx : ∀ X : Grow W, X.val.cell? ⟨w.heap.size, 2, none⟩ = some (.slice (some ⟨b, off, none⟩) n cap) := fun X => X.cell (hW.1.bx 1 rfl 2 _ rfl).1 lw
      have HGR : Shut (∀ X : Grow W, SL w X.val [bxS w.heap.size [.int .i64 id, .bool up, .slice (some ⟨b, off, none⟩) n cap]]) := ⟨fun X => (SL.tail H.out).below X.bel⟩
      have HNO : Shut (unAt us k = false → unitsOk us = false) := ⟨unitsOk_no hku⟩
      have HONE : Shut (unAt us k = (inI u.group 1 100000 && inI u.index 0 5 && decide (u.text.size ≤ 200) && inI u.sum 0 4294967295 && (decide (k = 0) || unLt (us.getD (k - 1) default) u))) := ⟨by unfold unAt unOne; rw [HU.out]⟩
      clear hW hbb d0 d1 d2 d3 HW HS x2
      cases h_t1 : inI u.group 1 100000 with
      | false =>
        have It1 := Shut.mk (fun X => calls_same (w := W) (fun W' (_ : Below W.heap.size W W') => isInI u.group 1 100000 W' false h_t1) X)
        refine wp_region_grow (by kernel_rfl) (by kernel_rfl) ?_
        repeat (go_big_quiet_step (first | (go_at_call 78; first | with_reducible exact It1.out _ | fail)))
        refine wpQuiet_nil ?_
        rintro _ ⟨X, rfl⟩
        go_wp2_with fail
        go_ret
        exact ⟨by rw [HNO.out (by rw [HONE.out]; simp [*])]; rfl, HGR.out X |>.bel⟩
      | true =>
        have It1 := Shut.mk (fun X => calls_same (w := W) (fun W' (_ : Below W.heap.size W W') => isInI u.group 1 100000 W' true h_t1) X)
        cases h_t2 : inI u.index 0 5 with
        | false =>
          have It2 := Shut.mk (fun X => calls_same (w := W) (fun W' (_ : Below W.heap.size W W') => isInI u.index 0 5 W' false h_t2) X)
          refine wp_region_grow (by kernel_rfl) (by kernel_rfl) ?_
          repeat (go_big_quiet_step (first | (go_at_call 78; first | with_reducible exact It1.out _ | with_reducible exact It2.out _ | fail)))
          refine wpQuiet_nil ?_
          rintro _ ⟨X, rfl⟩
          go_wp2_with fail
          go_ret
          exact ⟨by rw [HNO.out (by rw [HONE.out]; simp [*])]; rfl, HGR.out X |>.bel⟩
        | true =>
          have It2 := Shut.mk (fun X => calls_same (w := W) (fun W' (_ : Below W.heap.size W W') => isInI u.index 0 5 W' true h_t2) X)
          by_cases h_t3 : u.text.size ≤ 200
          case neg =>
            have hd : decide (u.text.size ≤ 200) = false := by simpa using h_t3
            have h2 : decide ((200 : Int) < (u.text.size : Int)) = true := by simp; omega
            refine wp_region_grow (by kernel_rfl) (by kernel_rfl) ?_
            repeat (go_big_quiet_step (first | (go_at_call 78; first | with_reducible exact It1.out _ | with_reducible exact It2.out _ | fail)))
            refine wpQuiet_nil ?_
            rintro _ ⟨X, rfl⟩
            go_wp2_with fail
            go_ret
            exact ⟨by rw [HNO.out (by rw [HONE.out]; simp [*])]; rfl, HGR.out X |>.bel⟩
          have hd : decide (u.text.size ≤ 200) = true := by simpa using h_t3
          have h2 : decide ((200 : Int) < (u.text.size : Int)) = false := by simp; omega
          cases h_t4 : inI u.sum 0 4294967295 with
          | false =>
            have It4 := Shut.mk (fun X => calls_same (w := W) (fun W' (_ : Below W.heap.size W W') => isInI u.sum 0 4294967295 W' false h_t4) X)
            refine wp_region_grow (by kernel_rfl) (by kernel_rfl) ?_
            repeat (go_big_quiet_step (first | (go_at_call 78; first | with_reducible exact It1.out _ | with_reducible exact It2.out _ | with_reducible exact It4.out _ | fail)))
            refine wpQuiet_nil ?_
            rintro _ ⟨X, rfl⟩
            go_wp2_with fail
            go_ret
            exact ⟨by rw [HNO.out (by rw [HONE.out]; simp [*])]; rfl, HGR.out X |>.bel⟩
          | true =>
            have It4 := Shut.mk (fun X => calls_same (w := W) (fun W' (_ : Below W.heap.size W W') => isInI u.sum 0 4294967295 W' true h_t4) X)
            by_cases hz : k = 0
            case pos =>
              have hz' : decide ((0 : Int) < (k : Int)) = false := by simp; omega
              refine wp_region_grow (by kernel_rfl) (by kernel_rfl) ?_
              repeat (go_big_quiet_step (first | (go_at_call 78; first | with_reducible exact It1.out _ | with_reducible exact It2.out _ | with_reducible exact It4.out _ | fail)))
              refine wpQuiet_nil ?_
              rintro _ ⟨X, rfl⟩
              go_wp2_with fail
              go_roundw
              case rel => exact ⟨k + 1, by go_num, by omega, ⟨fun j hj => by rcases Nat.lt_succ_iff_lt_or_eq.1 hj with h | h; exact HG.out j h; subst h; rw [HONE.out]; simp [*]⟩, ⟨HGR.out X⟩⟩
              case measure => simp [intOf]; omega
            have hzd : decide (k = 0) = false := by simpa using hz
            have hz' : decide (0 < k) = true := by simp; omega
            have hz3 : 0 < k := by omega
            obtain ⟨e0, e1, e2, e3⟩ := HC.out (k - 1) (by omega)
            obtain ⟨y, hy⟩ : ∃ y, y = us[k - 1]'(by omega) := ⟨_, rfl⟩
            rw [← hy] at e0 e1 e2 e3
            have HY : Shut (us.getD (k - 1) default = y) := ⟨(getD_un us (k - 1) (by omega)).trans hy.symm⟩
            have p0 : ∀ X : Grow W, X.val.cell? ⟨b, off + (k - 1) * 4, none⟩ = some (.int .i64 y.group) := fun X => X.cell ((HBW.out.cell (p := ⟨b, off + (k - 1) * 4, none⟩) (by rw [← HBB.out]; exact lb)).trans e0) lbW
            have p1 : ∀ X : Grow W, X.val.cell? ⟨b, off + (k - 1) * 4 + 1, none⟩ = some (.int .i64 y.index) := fun X => X.cell ((HBW.out.cell (p := ⟨b, off + (k - 1) * 4 + 1, none⟩) (by rw [← HBB.out]; exact lb)).trans e1) lbW
            have p2 : ∀ X : Grow W, X.val.cell? ⟨b, off + (k - 1) * 4 + 2, none⟩ = some (.string y.text) := fun X => X.cell ((HBW.out.cell (p := ⟨b, off + (k - 1) * 4 + 2, none⟩) (by rw [← HBB.out]; exact lb)).trans e2) lbW
            have p3 : ∀ X : Grow W, X.val.cell? ⟨b, off + (k - 1) * 4 + 3, none⟩ = some (.int .i64 y.sum) := fun X => X.cell ((HBW.out.cell (p := ⟨b, off + (k - 1) * 4 + 3, none⟩) (by rw [← HBB.out]; exact lb)).trans e3) lbW
            have hk1 : (k : Int) - 1 = ((k - 1 : Nat) : Int) := by omega
            have hk2 : (0 : Int) ≤ ((k - 1 : Nat) : Int) := by omega
            have hk3 : ((k - 1 : Nat) : Int) < (n : Int) := by omega
            rw [HY.out] at HONE
            have HAH := Shut.mk (fun X => calls_grow (w := W) (fun W' (_ : Below W.heap.size W W') => specAhead y u W') X)
            clear hy e0 e1 e2 e3 hz
            cases hal : unLt y u with
            | false =>
              rw [hal] at HAH HONE
              refine wp_region_grow (by kernel_rfl) (by kernel_rfl) ?_
              repeat (go_big_quiet_step (first | (go_at_call 78; first | with_reducible exact It1.out _ | with_reducible exact It2.out _ | with_reducible exact It4.out _ | fail) | (go_at_call 66; with_reducible exact HAH.out _)))
              refine wpQuiet_nil ?_
              rintro _ ⟨X, rfl⟩
              go_wp2_with fail
              go_ret
              exact ⟨by rw [HNO.out (by rw [HONE.out]; simp [*])]; rfl, HGR.out X |>.bel⟩
            | true =>
              rw [hal] at HAH HONE
              refine wp_region_grow (by kernel_rfl) (by kernel_rfl) ?_
              repeat (go_big_quiet_step (first | (go_at_call 78; first | with_reducible exact It1.out _ | with_reducible exact It2.out _ | with_reducible exact It4.out _ | fail) | (go_at_call 66; with_reducible exact HAH.out _)))
              refine wpQuiet_nil ?_
              rintro _ ⟨X, rfl⟩
              go_wp2_with fail
              go_roundw
              case rel => exact ⟨k + 1, by go_num, by omega, ⟨fun j hj => by rcases Nat.lt_succ_iff_lt_or_eq.1 hj with h | h; exact HG.out j h; subst h; rw [HONE.out]; simp [*]⟩, ⟨HGR.out X⟩⟩
              case measure => simp [intOf]; omega
    · have e : k = n := by omega
      have HT : Shut (unitsOk us = true) := ⟨unitsOk_yes fun j hj => HG.out j (by have := HN.out; omega)⟩
      have x0 := (HW.out.bx 0 rfl 0 _ rfl).1
      have HI := Shut.mk (fun W => isInI id 1 7 W _ rfl)
      subst e
      go_wp2_with (go_at_call 78; refine (HI.out _).mono ?_; rintro e w1 ⟨rfl, rfl⟩)
      go_ret
      exact ⟨by rw [HT.out]; rfl, HW.out.bel⟩
end Go.Proofs.YtoaifodmjkhiiaaDoor
/- OwS: A row of one's own that is made longer, beside stretches of memory. -/
namespace Go.Proofs.YtoaifodmjkhiiaaDoor
set_option maxRecDepth 100000
open Go.RowKit

structure OwS (w0 W : World) (S : List Str) (ty sz : Nat) (v : Value) (n : Nat) (L : List Value) : Prop where
  sl : SL w0 W S
  own : W.ownsRow w0.heap.size ty sz v n L
  far : ∀ q, v.ownBlock = some q → ∀ s ∈ S, s.hi ≤ q ∨ q < s.lo
section
variable {w0 W W' : World} {S : List Str} {s : Str} {ty sz n : Nat} {v : Value} {L : List Value}
theorem own_row_slice (h : W.ownsRow w0.heap.size ty sz v n L) : ∃ a c, v = .slice a n c := by
  rcases h.2 with ⟨rfl, h0⟩ | ⟨g, cap, cur, e, _⟩
  · exact ⟨none, 0, by rw [h0]⟩
  · exact ⟨_, _, e⟩
theorem OwS.new (h : SL w0 W S) : OwS w0 (W.alloc (.cells #[] ty)) S ty sz (.slice (some ⟨W.heap.size, 0, none⟩) 0 0) 0 [] := by
  refine ⟨h.below ((Below.refl _ _).alloc (Nat.le_refl _) _), World.ownsRow_made (e := ty) (size := sz) (base := w0.heap.size) W #[] 0 h.bel.size (by decide) (by simp), fun q e s hs => ?_⟩
  have eq : W.heap.size = q := by simpa [Value.ownBlock] using e
  have := (h.is s hs).2.2.2
  omega
theorem OwS.nil (h : SL w0 W S) : OwS w0 W S ty sz (.slice none 0 0) 0 [] := ⟨h, World.ownsRow_nil _ _ _ _, fun q e => by cases e⟩
theorem OwS.below (h : OwS w0 W S ty sz v n L) (hb : Below W.heap.size W W') : OwS w0 W' S ty sz v n L :=
  ⟨h.sl.below hb, h.own.kept (row := none) ⟨hb.os, hb.tape, hb.output, hb.size, fun k hk _ => hb.block k hk⟩ (Classical.em _), h.far⟩
theorem OwS.alloc (h : OwS w0 W S ty sz v n L) (o : Obj) : OwS w0 (W.alloc o) S ty sz v n L := h.below ((Below.refl _ _).alloc (Nat.le_refl _) o)
theorem OwS.lt (h : OwS w0 W S ty sz v n L) (q : Nat) (e : v.ownBlock = some q) : w0.heap.size ≤ q ∧ q < W.heap.size := h.own.lt q e
theorem OwS.add (h : OwS w0 W S ty sz v n L) (hb : Below W.heap.size W W') (hp : s.p W') (hl : s.Loc) (h1 : W.heap.size ≤ s.lo) (h2 : s.hi ≤ W'.heap.size) : OwS w0 W' (s :: S) ty sz v n L := by
  have k := h.below hb
  refine ⟨h.sl.add hb hp hl h1 h2, k.own, fun q e x hx => ?_⟩
  rcases List.mem_cons.1 hx with rfl | hx
  · exact .inr (by have := (h.lt q e).2; omega)
  · exact h.far q e x hx
theorem OwS.box (h : OwS w0 W S ty sz v n L) (cs : Array Value) (t : TypeId) : OwS w0 (W.alloc (.cells cs t)) (bxS W.heap.size cs.toList :: S) ty sz v n L :=
  h.add ((Below.refl _ _).alloc (Nat.le_refl _) _) (wcells_new W cs t) (bxS.loc _ _) (Nat.le_refl _) (by simp)
theorem OwS.tail (h : OwS w0 W (s :: S) ty sz v n L) : OwS w0 W S ty sz v n L := ⟨h.sl.tail, h.own, fun q e x hx => h.far q e x (List.mem_cons_of_mem _ hx)⟩
theorem OwS.put (h : OwS w0 W S ty sz v n L) (i : Nat) {b : Nat} {X : List Value} (hs : S[i]? = some (bxS b X)) (j : Nat) (x : Value) (hj : j < X.length) : OwS w0 (W.setCell ⟨b, j, none⟩ x) (S.set i (bxS b (X.set j x))) ty sz v n L := by
  have hm := List.mem_of_getElem? hs
  have hne : ∀ q, v.ownBlock = some q → q ≠ b := fun q e hq => by
    have := h.far q e _ hm
    dsimp only [bxS] at this
    omega
  refine ⟨h.sl.put i hs j x hj, h.own.kept (gb_set' W b j x) ?_, fun q e s hq => ?_⟩
  · cases e : v.ownBlock with
    | none => exact .inl rfl
    | some k => exact .inr fun e2 => hne k e (by cases e2; rfl)
  · obtain ⟨k, hk, rfl⟩ := List.getElem_of_mem hq
    rw [List.length_set] at hk
    by_cases ek : k = i
    · subst ek
      rw [List.getElem_set_self]
      have := h.far q e _ hm
      exact this
    · rw [List.getElem_set_ne (Ne.symm ek)]
      exact h.far q e _ (List.getElem_mem hk)
/-- More is put behind it. -/
theorem OwS.more {Wa : World} {v' : Value} {m : Nat} {L' : List Value} (h : OwS w0 W S ty sz v n L) (hb : Below W.heap.size W Wa) (ho : W'.ownsRow w0.heap.size ty sz v' m L') (hg : Wa.grownBy W' v.ownBlock) (hat : v'.ownBlock = v.ownBlock ∨ v'.ownBlock = some Wa.heap.size) : OwS w0 W' S ty sz v' m L' := by
  have k := h.below hb
  refine ⟨k.sl.grown hg fun q e => ⟨(k.lt q e).1, k.far q e⟩, ho, fun q e s hs => ?_⟩
  rcases hat with e2 | e2
  · exact h.far q (by rw [← e2]; exact e) s hs
  · rw [e2] at e
    have eq : Wa.heap.size = q := by simpa using e
    have := (k.sl.is s hs).2.2.2
    omega
theorem OwS.frw (h : OwS w0 W S ty sz v n L) : ∃ a c, v = .slice a n c ∧ FRw W a L w0.heap.size W.heap.size ∧ n ≤ c := by
  obtain ⟨a, c, rfl⟩ := own_row_slice h.own
  exact ⟨a, c, rfl, (FRw.of_own h.own).1, (FRw.of_own h.own).2⟩
theorem OwS.row (h : OwS w0 W S ty sz v n L) : ∃ a c, v = .slice a n c ∧ CRow W a L ∧ n ≤ c := by
  obtain ⟨a, c, e, h1, h2⟩ := h.frw
  exact ⟨a, c, e, h1.crow, h2⟩
end
end Go.Proofs.YtoaifodmjkhiiaaDoor
/- ApRow: 'append' of a whole row, empty or not, to a row of one's own; and one element more, beside stretches. -/
namespace Go.Proofs.YtoaifodmjkhiiaaDoor
set_option maxRecDepth 100000
open Go.RowKit

theorem wpList_append_row {P : Program} (w : World) {ops : Array Oper} {rest : List Oper} {o : Oper} {a : Act} {Q : Exit → Act → World → Prop} (hgd : o.guard = none) (s x : Operand) (t : TypeId)
    (ho : o.op = .call { callee := .builtin .append, args := #[s, x], argTypes := #[t, t] })
    (base : Nat) (e : TypeId) (i : TypeInfo) (z : Value) (size bytes : Nat) (ht : P.underlying t = some (.slice e)) (hi : P.info? e = some i) (hz : i.zero = some z)
    (hsize : i.size = size) (hby : i.bytes = bytes) (hzs : z.cells.size = size) (hsz : 0 < size)
    (v : Value) (n : Nat) (xs : List Value) (hs : a.eval s = v) (hown : w.ownsRow base e size v n xs)
    (ra : Option Addr) (m c : Nat) (news : List Value) (hx : a.eval x = .slice ra m c) (hl : news.length = m * size) (hrow : CRow w ra news) (h1 : ∀ u ∈ news, u.oneCell' = true)
    (h63 : n + m ≤ maxLen) (hbytes : (n + m) * bytes ≤ 140737488355328) (hbase : base ≤ w.heap.size)
    (h : ∀ v' w', w'.ownsRow base e size v' (n + m) (xs ++ news) → w.grownBy w' v.ownBlock → (v'.ownBlock = v.ownBlock ∨ v'.ownBlock = some w.heap.size) → wpList P ops Q rest (a.put o.dst v') w') :
    wpList P ops Q (o :: rest) a w := by
  by_cases hm : m = 0
  · subst hm
    have hn : news = [] := List.eq_nil_of_length_eq_zero (by rw [hl]; simp)
    subst hn
    have hv : ∃ av cv, v = .slice av n cv ∧ n ≤ cv := by
      rcases hown.2 with ⟨rfl, h0⟩ | ⟨g, cap, cur, e1, _, _, h3, _⟩
      · exact ⟨none, 0, by rw [h0], by omega⟩
      · exact ⟨_, _, e1, h3⟩
    obtain ⟨av, cv, rfl, hcv⟩ := hv
    have hsrc : Src P i.size t (.slice ra 0 c) 0 [] w := by
      cases ra with
      | none => exact Src.ofNil w ht c
      | some q => exact Src.ofSlice w ht q 0 c [] (by simp) (by simp) (by simp)
    refine wpList_plain hgd fun K' hK' => ?_
    unfold Oper.wp
    simp [execOp, ho, resolve, invoke, builtin, hs, hx, run_append_nothing w t t o.type e i ht hi av n cv hcv _ hsrc, Result.andThen]
    exact hK' _ _ (h _ w (by simpa using hown) ⟨rfl, rfl, rfl, Nat.le_refl _, fun _ _ _ => rfl⟩ (.inl rfl))
  · obtain ⟨b, off, rfl, _, hc⟩ := hrow (by rw [hl]; exact Nat.mul_pos (Nat.pos_of_ne_zero hm) hsz)
    refine wpList_append_own_at _ hgd s x t ho base e i z size bytes ht hi hz hsize hby hzs hsz v n xs hs hown ⟨b, off, none⟩ m c news hx hl (fun j u hj => ?_) h1 h63 hbytes hbase (fun v' w' h2 h3 _ h5 => h v' w' h2 h3 h5)
    have e2 : (⟨b, off, none⟩ : Addr).add j = ⟨b, off + j, none⟩ := by cases j <;> simp [Addr.add]
    rw [e2]
    exact hc j u hj
end Go.Proofs.YtoaifodmjkhiiaaDoor
/- SpI: The models' l14Copy, l14At, GetUnit. -/
namespace Go.Proofs.YtoaifodmjkhiiaaDoor
set_option maxRecDepth 100000
open Go.RowKit BigFrame
attribute [local go_sem ↓] Go.wp_at_zero Go.wp_at_succ

theorem uns_one (us : List UnM) : ∀ u ∈ unS us, u.oneCell' = true := by
  intro u hu
  unfold unS at hu
  obtain ⟨x, _, hx⟩ := List.mem_flatMap.1 hu
  simp only [unC, List.mem_cons, List.not_mem_nil, or_false] at hx
  rcases hx with rfl | rfl | rfl | rfl <;> rfl
set_option maxHeartbeats 1000000 in
theorem specCopy14 (H : HM) (a : Option Addr) (cap : Nat) (w : World) (hr : UnRow w a H.us) (hl : H.us.length ≤ 1048576) :
    Calls Tryd.prog 64 #[hov H a cap] w fun e w' => HoPost H w e w' := by
  obtain ⟨i0, hin, hz0, hz1, hz2⟩ := info_parts infoUnit
  have HS0 := Shut.mk (((SL.start w).new #[.int .i64 H.id, .bool H.up, .slice a H.us.length cap] 46).new #[.int .i64 0, .bool false, .slice none 0 0] 46)
  simp only [World.size_alloc] at HS0
  have HR := Shut.mk hr
  clear hr
  obtain ⟨id, up, us⟩ := H
  show Calls Tryd.prog 64 #[.agg #[.int .i64 id, .bool up, .slice a us.length cap]] w fun e w' => HoPost ⟨id, up, us⟩ w e w'
  dsimp only at *
  obtain ⟨n, hn⟩ : ∃ n, n = us.length := ⟨_, rfl⟩
  have HN := Shut.mk hn
  rw [← hn] at HS0 hl ⊢
  clear hn
  go_enter Tryd.func64, Tryd.ntmps64
  go_upto_region 1 with fail
  refine wp_shade (fun W => SL w W [bxS (w.heap.size + 1) [.int .i64 0, .bool false, .slice none 0 0], bxS w.heap.size [.int .i64 id, .bool up, .slice a n cap]]) HS0.out ?_
  intro W hW
  have HW := Shut.mk hW
  clear HS0 hW
  have HO := Shut.mk (OwS.new (ty := 65) (sz := 4) HW.out)
  have hsz := HW.out.bel.size
  have lw := (show WCells W w.heap.size _ from HW.out.at 1 rfl).1
  have x2 := (HW.out.bx 1 rfl 2 _ rfl).1
  go_upto_region 2 with (at_builtin; refine wpList_append_row _ rfl _ _ 44 rfl w.heap.size 65 i0 _ 4 40 Tryd.underlying44 hin hz0 hz1 hz2 rfl (by decide) _ _ _ rfl HO.out.own a n cap (unS us) rfl (by rw [unS_len, HN.out]) (HR.out.stays HO.out.sl.bel) (uns_one us) (by unfold maxLen; omega) (by omega) HO.out.sl.bel.size ?_; intro v6 w6 ho6 hg6 ha6; obtain ⟨a7, c7, rfl⟩ := own_row_slice ho6; have H6 := Shut.mk (HO.out.more (Below.refl _ _) ho6 hg6 ha6); obtain ⟨y2, y2z⟩ := H6.out.sl.bx 1 rfl 2 _ rfl; clear ho6 hg6 ha6 x2 HO; simp only [Nat.zero_add, List.nil_append] at H6)
  have HP := Shut.mk (H6.out.put 1 rfl 2 (.slice a7 n c7) (by simp))
  simp only [List.set_cons_zero, List.set_cons_succ] at HP
  refine wp_shade (fun W' => OwS w W' [bxS (w.heap.size + 1) [.int .i64 0, .bool false, .slice none 0 0], bxS w.heap.size [.int .i64 id, .bool up, .slice a7 n c7]] 65 4 (.slice a7 n c7) n (unS us)) HP.out ?_
  intro W7 h7
  have H7 := Shut.mk h7
  clear h7 HP H6 y2 y2z
  have z0 := (H7.out.sl.bx 1 rfl 0 _ rfl).1
  have z1 := (H7.out.sl.bx 1 rfl 1 _ rfl).1
  have z2 := (H7.out.sl.bx 1 rfl 2 _ rfl).1
  obtain ⟨r0, r0z⟩ := H7.out.sl.bx 0 rfl 0 _ rfl
  obtain ⟨r1, r1z⟩ := H7.out.sl.bx 0 rfl 1 _ rfl
  obtain ⟨r2, r2z⟩ := H7.out.sl.bx 0 rfl 2 _ rfl
  go_wp2_with fail
  have HE := Shut.mk ((((H7.out.put 0 rfl 0 (.int .i64 id) (by simp)).put 0 rfl 1 (.bool up) (by simp)).put 0 rfl 2 (.slice a7 n c7) (by simp)))
  obtain ⟨a8, c8, e8, hf8, hc8⟩ := HE.out.frw
  obtain ⟨rfl, rfl⟩ : a7 = a8 ∧ c7 = c8 := by simpa using e8
  refine bodyPost_ret (v := .agg #[.int .i64 id, .bool up, .slice a7 n c7]) (by simp [results, Tryd.results64, go_sem, r0, r1, r2]) rfl ⟨a7, c7, by rw [HN.out], hf8, by have := HN.out; show us.length ≤ c7; omega, HE.out.sl.bel⟩
/-- The place of a unit. -/
def atN (us : List UnM) (g i : Int) : Int := if unIdx us g i < us.length then (unIdx us g i : Int) else -1
theorem unIdx_found {L : List UnM} {g i : Int} {k : Nat} (hk : k < L.length) (h : (L[k].group == g && L[k].index == i) = true) (hb : ∀ j (hj : j < L.length), j < k → (L[j].group == g && L[j].index == i) = false) : unIdx L g i = k := by
  unfold unIdx
  rw [List.findIdx_eq hk]
  exact ⟨h, fun j hj => hb j (by omega) hj⟩
theorem unIdx_none {L : List UnM} {g i : Int} (hb : ∀ j (hj : j < L.length), (L[j].group == g && L[j].index == i) = false) : unIdx L g i = L.length := by
  unfold unIdx
  rw [List.findIdx_eq_length]
  intro x hx
  obtain ⟨j, hj, rfl⟩ := List.getElem_of_mem hx
  exact hb j hj
theorem atN_found {L : List UnM} {g i : Int} {k : Nat} (hk : k < L.length) (h : (L[k].group == g && L[k].index == i) = true) (hb : ∀ j (hj : j < L.length), j < k → (L[j].group == g && L[j].index == i) = false) : atN L g i = (k : Int) := by
  unfold atN; rw [unIdx_found hk h hb, if_pos hk]
theorem atN_none {L : List UnM} {g i : Int} (hb : ∀ j (hj : j < L.length), (L[j].group == g && L[j].index == i) = false) : atN L g i = -1 := by
  unfold atN; rw [unIdx_none hb, if_neg (Nat.lt_irrefl _)]
set_option maxHeartbeats 1000000 in
theorem specAt14 (H : HM) (a : Option Addr) (cap : Nat) (g i : Int) (w : World) (hr : UnRow w a H.us) (hl : H.us.length ≤ 1048576) :
    Calls Tryd.prog 37 #[hov H a cap, .int .i64 g, .int .i64 i] w fun e w' => e = .returned (.int .i64 (atN H.us g i)) ∧ Below w.heap.size w w' := by
  have HS0 := Shut.mk ((SL.start w).new #[.int .i64 H.id, .bool H.up, .slice a H.us.length cap] 46)
  have HR := Shut.mk hr
  clear hr
  obtain ⟨id, up, us⟩ := H
  show Calls Tryd.prog 37 #[.agg #[.int .i64 id, .bool up, .slice a us.length cap], .int .i64 g, .int .i64 i] w fun e w' => e = .returned (.int .i64 (atN us g i)) ∧ Below w.heap.size w w'
  dsimp only at *
  obtain ⟨n, hn⟩ : ∃ n, n = us.length := ⟨_, rfl⟩
  have HN := Shut.mk hn
  rw [← hn] at HS0 hl ⊢
  clear hn
  obtain ⟨R, hR⟩ : ∃ R, R = atN us g i := ⟨_, rfl⟩
  rw [← hR]
  have HQ := Shut.mk hR
  clear hR
  go_enter Tryd.func37, Tryd.ntmps37
  go_upto_region 1 with fail
  refine wp_shade (fun W => SL w W [bxS w.heap.size [.int .i64 id, .bool up, .slice a n cap]]) HS0.out ?_
  intro W0 hW
  have HW := Shut.mk hW
  clear HS0 hW
  have x2 := (HW.out.bx 0 rfl 2 _ rfl).1
  go_wp2_with fail
  go_loop [7] (fun i9 => ∃ (k : Nat), i9 = .int .i64 k ∧ k ≤ n ∧ Shut (∀ j (hj : j < us.length), j < k → (us[j].group == g && us[j].index == i) = false)) (fun i9 => n - (intOf i9).toNat)
  case atStart => exact ⟨0, rfl, Nat.zero_le _, ⟨fun j _ hj => by omega⟩⟩
  case round =>
    obtain ⟨k, rfl, hk, HG⟩ := hrel
    by_cases hlt : k < n
    · have hku : k < us.length := by rw [← HN.out]; exact hlt
      obtain ⟨b, off, rfl, lb, hc⟩ := UnRow.at (HR.out.stays HW.out.bel) (by omega)
      obtain ⟨d0, d1, d2, d3⟩ := hc k hku
      have HF : Shut ((us[k].group == g && us[k].index == i) = true → R = (k : Int)) := ⟨fun h => HQ.out.trans (atN_found hku h HG.out)⟩
      have HNX : Shut ((us[k].group == g && us[k].index == i) = false → ∀ j (hj : j < us.length), j < k + 1 → (us[j].group == g && us[j].index == i) = false) := ⟨fun h j hj hjk => by
        rcases Nat.lt_succ_iff_lt_or_eq.1 hjk with e | e
        · exact HG.out j hj e
        · subst e; exact h⟩
      obtain ⟨u, hu⟩ : ∃ u, u = us[k] := ⟨_, rfl⟩
      rw [← hu] at d0 d1 d2 d3 HF HNX
      have k0 : (0 : Int) ≤ (k : Int) := by omega
      have k1 : (k : Int) < (n : Int) := by omega
      clear hc hu d2 d3
      cases h1 : u.group == g with
      | false =>
        have HX := Shut.mk (HNX.out (by rw [h1]; rfl))
        go_wp2_with fail
        go_round
        case rel => exact ⟨k + 1, by go_num, by omega, HX⟩
        case measure => simp [intOf]; omega
      | true =>
        cases h2 : u.index == i with
        | false =>
          have HX := Shut.mk (HNX.out (by rw [h1, h2]; rfl))
          go_wp2_with fail
          go_round
          case rel => exact ⟨k + 1, by go_num, by omega, HX⟩
          case measure => simp [intOf]; omega
        | true =>
          have HX := Shut.mk (HF.out (by rw [h1, h2]; rfl))
          go_wp2_with fail
          go_ret
          exact ⟨by rw [HX.out]; rfl, HW.out.bel⟩
    · have HX : Shut (R = -1) := ⟨HQ.out.trans (atN_none fun j hj => HG.out j hj (by have := HN.out; omega))⟩
      obtain rfl : k = n := by omega
      go_wp2_with fail
      go_ret
      exact ⟨by rw [HX.out]; rfl, HW.out.bel⟩
end Go.Proofs.YtoaifodmjkhiiaaDoor
/- HcA: Rows of hosts that are made by append; the models' l15Copy and l15Host. -/
namespace Go.Proofs.YtoaifodmjkhiiaaDoor
set_option maxRecDepth 100000
open Go.RowKit BigFrame
attribute [local go_sem ↓] Go.wp_at_zero Go.wp_at_succ

/-- A row of hosts under way, each with its units in memory of the call's own. -/
structure HApp (w W : World) (v : Value) (rs : List HoR) : Prop where
  bel : Below w.heap.size w W
  own : W.ownsRow w.heap.size 46 3 v rs.length (hS rs)
  rows : ∀ r ∈ rs, unS r.h.us = [] ∨ ∃ b, r.loc = some ⟨b, 0, none⟩ ∧ w.heap.size ≤ b ∧ b < W.heap.size ∧ v.ownBlock ≠ some b ∧ WCells W b (unS r.h.us)
  apart : rs.Pairwise fun r s => unS r.h.us ≠ [] → unS s.h.us ≠ [] → r.loc ≠ s.loc
  caps : ∀ r ∈ rs, r.h.us.length ≤ r.cap
theorem HApp.new {w W : World} (hb : Below w.heap.size w W) : HApp w (W.alloc (.cells #[] 46)) (.slice (some ⟨W.heap.size, 0, none⟩) 0 0) [] :=
  ⟨hb.trans (((Below.refl _ _).alloc (Nat.le_refl _) _).mono hb.size), World.ownsRow_made (e := 46) (size := 3) (base := w.heap.size) W #[] 0 hb.size (by decide) (by simp), fun r hr => (by cases hr), .nil, fun r hr => (by cases hr)⟩
theorem HApp.below {w W W' : World} {v : Value} {rs : List HoR} (h : HApp w W v rs) (hb : Below W.heap.size W W') : HApp w W' v rs :=
  ⟨h.bel.trans (hb.mono h.bel.size), h.own.kept (row := none) ⟨hb.os, hb.tape, hb.output, hb.size, fun k hk _ => hb.block k hk⟩ (Classical.em _), fun r hr => (h.rows r hr).imp id fun ⟨b, e, h1, h2, h3, h4⟩ => ⟨b, e, h1, Nat.lt_of_lt_of_le h2 hb.size, h3, h4.below hb h4.1⟩, h.apart, h.caps⟩
/-- One more host, with a row of units that was made behind them. -/
theorem HApp.more {w W W2 Wa W' : World} {v v' : Value} {rs : List HoR} (h : HApp w W v rs) (H : HM) (a : Option Addr) (cap : Nat) (hb2 : Below W.heap.size W W2) (hF : FRw W2 a (unS H.us) W.heap.size W2.heap.size) (hc : H.us.length ≤ cap) (hb : Below W2.heap.size W2 Wa)
    (ho : W'.ownsRow w.heap.size 46 3 v' (rs.length + 1) (hS rs ++ hC ⟨H, a, cap⟩)) (hg : Wa.grownBy W' v.ownBlock) (hat : v'.ownBlock = v.ownBlock ∨ v'.ownBlock = some Wa.heap.size) : HApp w W' v' (rs ++ [⟨H, a, cap⟩]) := by
  have k := (h.below hb2).below hb
  have keep : ∀ b X, WCells Wa b X → v.ownBlock ≠ some b → b < Wa.heap.size → WCells W' b X ∧ v'.ownBlock ≠ some b ∧ b < W'.heap.size := fun b X hw hne hl => by
    refine ⟨?_, ?_, Nat.lt_of_lt_of_le hl hg.size⟩
    · cases hv : v.ownBlock with
      | none =>
        rw [hv] at hg
        exact hw.turned (Turned.of_below ⟨hg.os, hg.tape, hg.output, hg.size, fun k hk => hg.block k hk (by simp)⟩ Wa.heap.size Wa.heap.size) (.inl hl)
      | some q =>
        rw [hv] at hg hne
        have hqb : q ≠ b := fun e => hne (by rw [e])
        exact hw.turned (Turned.of_grown hg (Nat.le_refl q) (Nat.lt_succ_self q)) (by omega)
    · rcases hat with e | e
      · rw [e]; exact hne
      · rw [e]; intro e2
        have : Wa.heap.size = b := by simpa using e2
        omega
  refine ⟨k.bel.grown hg k.bel.size (fun q e => (k.own.lt q e).1), ?_, fun r hr => ?_, ?_, fun r hr => ?_⟩
  · rw [List.length_append]
    have e : hS (rs ++ [⟨H, a, cap⟩]) = hS rs ++ hC ⟨H, a, cap⟩ := by show (rs ++ [_]).flatMap hC = _; rw [List.flatMap_append]; simp [hS, NK.cells, HK]
    rw [e]
    exact ho
  · rcases List.mem_append.1 hr with hr | hr
    · rcases k.rows r hr with e | ⟨b, e, h1, h2, h3, h4⟩
      · exact .inl e
      · obtain ⟨q1, q2, q3⟩ := keep b _ h4 h3 h2
        exact .inr ⟨b, e, h1, q3, q2, q1⟩
    · rw [List.mem_singleton] at hr
      subst hr
      rcases hF with ⟨_, e⟩ | ⟨b, e, h1, h2, h3⟩
      · exact .inl e
      · have hne : v.ownBlock ≠ some b := fun e2 => by have := (h.own.lt b e2).2; omega
        obtain ⟨q1, q2, q3⟩ := keep b _ (h3.below hb h3.1) hne (Nat.lt_of_lt_of_le h2 hb.size)
        exact .inr ⟨b, e, Nat.le_trans h.bel.size h1, q3, q2, q1⟩
  · rw [List.pairwise_append]
    refine ⟨h.apart, List.pairwise_singleton _ _, fun r hr s hs h1 h2 e => ?_⟩
    rw [List.mem_singleton] at hs
    subst hs
    rcases h.rows r hr with q | ⟨b, e1, p1, p2, -, -⟩
    · exact h1 q
    · rcases hF with ⟨_, q⟩ | ⟨b', e2, p1', p2', -⟩
      · exact h2 q
      · rw [e1] at e
        dsimp only at e
        rw [e2] at e
        simp only [Option.some.injEq, Addr.mk.injEq, and_true] at e
        omega
  · rcases List.mem_append.1 hr with hr | hr
    · exact h.caps r hr
    · rw [List.mem_singleton] at hr
      subst hr
      exact hc
theorem HApp.done {w W : World} {v : Value} {rs : List HoR} (h : HApp w W v rs) : ∃ va c, v = .slice va rs.length c ∧ rs.length ≤ c ∧ HsW W va rs w.heap.size W.heap.size := by
  rcases h.own.2 with ⟨e, h0⟩ | ⟨g, c, cur, e, hb, hg, hc, _⟩
  · obtain rfl := List.length_eq_zero_iff.1 h0
    exact ⟨none, 0, e, Nat.le_refl _, h.caps, .inl ⟨rfl, rfl⟩⟩
  · have hlt := (h.own.lt g (by rw [e]; rfl)).2
    have hw : WCells W g (hS rs) := by
      have q := h.own
      rw [e] at q
      exact own_wcells q
    refine ⟨_, c, e, hc, h.caps, .inr ⟨g, rfl, hw, hb, hlt, fun r hr => ?_, h.apart⟩⟩
    rcases h.rows r hr with q | ⟨b, e1, p1, p2, p3, p4⟩
    · exact .inl q
    · exact .inr ⟨b, e1, p1, p2, fun e2 => p3 (by rw [e, e2]; rfl), p4⟩
theorem infoHost15 : (Tryd.prog.info? 46).map (fun i => (i.zero, i.size, i.bytes)) = some (some (.agg #[.int .i64 0, .bool false, .slice none 0 0]), 3, 40) := by kernel_rfl
theorem happ_any {w W : World} {v : Value} {rs : List HoR} (h : HApp w W v rs) : ∃ a c, v = .slice a rs.length c := by
  obtain ⟨va, c, e, _⟩ := h.done
  exact ⟨va, c, e⟩
set_option maxRecDepth 100000 in
set_option maxHeartbeats 2000000 in
theorem specCopy15 (a : Option Addr) (rs : List HoR) (cap : Nat) (w : World) (hr : HsRow w a rs) (hl : rs.length ≤ 1048576) (hp : ∀ r ∈ rs, r.h.us.length ≤ 1048576) :
    Calls Tryd.prog 62 #[.slice a rs.length cap] w fun e w' => HsPost (hms rs) w e w' := by
  obtain ⟨i0, hin, hz0, hz1, hz2⟩ := info_parts infoHost15
  obtain ⟨n, hn⟩ : ∃ n, n = rs.length := ⟨_, rfl⟩
  have HN := Shut.mk hn
  have HR := Shut.mk (And.intro hr hp)
  rw [← hn]
  rw [← hn] at hl
  have H0 := Shut.mk (HApp.new (Below.refl w.heap.size w))
  clear hr hp hn
  go_enter Tryd.func62, Tryd.ntmps62
  go_wp2_with fail
  go_loopw [3, 4] (fun v i9 wr => ∃ (k : Nat), i9 = .int .i64 (k : Nat) ∧ k ≤ n ∧ Shut (∃ gs, gs.length = k ∧ hms gs = hms (rs.take k) ∧ HApp w wr v gs)) (fun _ i9 _ => n - (intOf i9).toNat)
  case atStart => exact ⟨0, rfl, Nat.zero_le _, ⟨[], rfl, by simp, H0.out⟩⟩
  case round =>
    clear H0
    obtain ⟨k, rfl, hk, HW⟩ := hrel
    obtain ⟨gs, hgl, hge, hgs⟩ := HW.out
    obtain ⟨av, cv, rfl⟩ := happ_any hgs
    have HG := Shut.mk (And.intro hgl (And.intro hge hgs))
    rw [hgl]
    clear HW hge hgs
    by_cases hlt : k < n
    case neg =>
      obtain rfl : n = k := by omega
      have HE : Shut (hms gs = hms rs) := ⟨by rw [HG.out.2.1, List.take_of_length_le (Nat.le_of_eq HN.out.symm)]⟩
      clear hgl
      go_wp2_with fail
      go_ret
      obtain ⟨va, c, e, hc, hw⟩ := HG.out.2.2.done
      exact ⟨va, c, gs, by rw [HG.out.1] at e ⊢; rw [← e]; rfl, HE.out, hw, hc, HG.out.2.2.bel⟩
    have hkr : k < rs.length := by rw [← HN.out]; exact hlt
    obtain ⟨b, off, r, rfl, hre, lb, hc⟩ := hs_at HR.out.1 HG.out.2.2.bel hkr
    obtain ⟨d0, d1, d2, d3⟩ := hc wr (Below.refl _ _)
    have hrl : r.h.us.length ≤ 1048576 := by rw [hre]; exact HR.out.2 _ (List.getElem_mem hkr)
    have HCP := Shut.mk (specCopy14 r.h r.loc r.cap wr d3 hrl)
    have HNX : Shut (hms (rs.take (k + 1)) = hms (rs.take k) ++ [r.h]) := ⟨by rw [List.take_succ_eq_append_getElem hkr, ← hre]; simp [hms]⟩
    obtain ⟨⟨rid, rup, rus⟩, rl, rc⟩ := r
    dsimp only [hov] at *
    obtain ⟨m, hm⟩ : ∃ m, m = rus.length := ⟨_, rfl⟩
    unfold HoPost at HCP
    dsimp only [hov] at HCP
    rw [← hm] at d2 HCP
    have HM := Shut.mk hm
    have k0 : (0 : Int) ≤ (k : Int) := by omega
    have k1 : (k : Int) < (n : Int) := by omega
    clear hc hre d3 hm hrl
    go_wp2_with (first
      | (go_at_call 64; refine HCP.out.mono ?_; rintro e w2 ⟨a2, c2, rfl, hF, hc2, hb2⟩; have HC2 := Shut.mk (And.intro hF (And.intro hc2 hb2)); have hown := (HG.out.2.2.below hb2).own; rw [HG.out.1] at hown; have hsz := (HG.out.2.2.below hb2).bel.size; clear hF hc2 hb2)
      | (at_builtin; refine wpList_append_own_at _ rfl _ _ 28 rfl w.heap.size 46 i0 (.agg #[.int .i64 0, .bool false, .slice none 0 0]) 3 40 Tryd.underlying28 hin hz0 hz1 hz2 rfl (by decide) _ _ _ rfl (hown.alloc _) ⟨w2.heap.size, 0, none⟩ 1 1 (hC ⟨⟨rid, rup, rus⟩, a2, c2⟩) rfl rfl ?c1 ?c2 ?c3 ?c4 ?c5 ?_))
    case c1 =>
      intro j u hu
      have q := ((wcells_new w2 #[.int .i64 rid, .bool rup, .slice a2 m c2] 46).2 j u (by rw [HM.out]; exact hu)).1
      cases j with
      | zero => exact q
      | succ j => simpa [Addr.add] using q
    case c2 =>
      intro u hu
      simp only [hC, List.mem_cons, List.not_mem_nil, or_false] at hu
      rcases hu with rfl | rfl | rfl <;> rfl
    case c3 => unfold maxLen; omega
    case c4 => omega
    case c5 => first | omega | (simp; omega)
    intro v9 w9 ho hg _ hat
    have HNW := Shut.mk (HG.out.2.2.more ⟨rid, rup, rus⟩ a2 c2 HC2.out.2.2 HC2.out.1 (by rw [← HM.out]; exact HC2.out.2.1) ((Below.refl _ _).alloc (Nat.le_refl _) _) (by rw [HG.out.1]; exact ho) (by rw [HG.out.1]; exact hg) (by rw [HG.out.1]; simpa using hat))
    clear ho hg hat hown hsz
    go_wp2_with fail
    go_roundw
    case rel => exact ⟨k + 1, by go_num, by omega, ⟨gs ++ [⟨⟨rid, rup, rus⟩, a2, c2⟩], by rw [List.length_append, HG.out.1]; rfl, by rw [HNX.out, ← HG.out.2.1]; simp [hms], HNW.out⟩⟩
    case measure => simp [intOf]; omega
end Go.Proofs.YtoaifodmjkhiiaaDoor
/- PlM: Where units go, plain: loads, the order of hosts, the hosts of a group. -/
namespace Go.Proofs.YtoaifodmjkhiiaaDoor
set_option maxRecDepth 100000
open Go.RowKit

/-- A host's load, and its number. -/
def keyP (h : HM) : Nat × Int := (h.us.length, h.id)
def plLe (a b : Nat × Int) : Bool := decide (a.1 < b.1) || (a.1 == b.1 && decide (a.2 ≤ b.2))
theorem plLe_iff (a b : Nat × Int) : plLe a b = true ↔ a.1 < b.1 ∨ (a.1 = b.1 ∧ a.2 ≤ b.2) := by
  unfold plLe
  simp
def upPairs (hs : List HM) : List (Nat × Int) := (hs.filter fun h => h.up).map keyP
def ordP (hs : List HM) : List (Nat × Int) := (upPairs hs).mergeSort plLe
theorem ordP_up (hs : List HM) : (ordP hs).Pairwise fun a b => plLe a b = true :=
  List.pairwise_mergeSort (fun a b c h k => by rw [plLe_iff] at *; omega) (fun a b => by rw [Bool.or_eq_true, plLe_iff, plLe_iff]; omega) _
theorem ordP_perm (hs : List HM) : (ordP hs).Perm (upPairs hs) := List.mergeSort_perm _ _
theorem ordP_len (hs : List HM) : (ordP hs).length = (hs.filter fun h => h.up).length := by rw [(ordP_perm hs).length_eq]; simp [upPairs]
/-- Whoever puts them in order puts them so. -/
theorem ordP_of {hs : List HM} {L : List (Nat × Int)} (hp : L.Perm (upPairs hs)) (hu : L.Pairwise fun a b => plLe a b = true) : L = ordP hs :=
  List.Perm.eq_of_pairwise (le := fun a b => plLe a b = true) (fun a b _ _ h k => by
    rw [plLe_iff] at h k
    exact Prod.ext (by omega) (by omega)) hu (ordP_up hs) (hp.trans (ordP_perm hs).symm)
/-- The hosts of a group. -/
def plcX (hs : List HM) (n : Int) : List Int × Bool :=
  if 0 ≤ n ∧ n ≤ ((ordP hs).length : Int) then (((ordP hs).take n.toNat).map Prod.snd, true) else ([], false)
theorem plc_len (hs : List HM) (n : Int) : (plcX hs n).1.length ≤ hs.length := by
  unfold plcX
  split
  · have h1 := ordP_len hs
    have h2 := List.length_filter_le (fun h : HM => h.up) hs
    simp only [List.length_map, List.length_take]
    omega
  · exact Nat.zero_le _
end Go.Proofs.YtoaifodmjkhiiaaDoor
/- UnP: Units that go up by their keys, plain: what is put lies in its place; what is put is got, until it is spoilt or gone; all others stay. -/
namespace Go.Proofs.YtoaifodmjkhiiaaDoor
set_option maxRecDepth 100000
open Go.RowKit

theorem sum_turned (t : ByteArray) (i : Nat) (h : i < t.size) : sumN (turnAt t i) ≠ sumN t := by
  intro e
  have hl : t.data.toList.length = t.size := Array.length_toList
  have e1 : W.sumOf (turnAt t i) = W.sumOf t := by
    unfold sumN at e
    exact BitVec.eq_of_toNat_eq (by omega)
  have hi : i < t.data.toList.length := by omega
  have e2 : t.data.toList = t.data.toList.take i ++ t.data.toList[i] :: t.data.toList.drop (i + 1) := by
    rw [← List.drop_eq_getElem_cons hi, List.take_append_drop]
  have e3 : (turnAt t i).data.toList = t.data.toList.take i ++ (t.data.toList[i] ^^^ 1) :: t.data.toList.drop (i + 1) := by
    unfold turnAt
    have : t.data.toList.getD i 0 = t.data.toList[i] := by simp only [List.getD, List.getElem?_eq_getElem hi, Option.getD_some]
    rw [this]
    show (t.data.toList.set i _).toArray.toList = _
    rw [List.set_eq_take_append_cons_drop, if_pos hi]
  unfold W.sumOf at e1
  rw [e3] at e1
  conv at e1 => rhs; rw [e2]
  have k := W.crc_turned _ _ _ _ _ e1
  generalize t.data.toList[i] = b at k
  have all : ∀ y : Fin 256, (UInt8.ofNat y.val ^^^ 1) ≠ UInt8.ofNat y.val := by decide +kernel
  have := all ⟨b.toNat, b.toNat_lt⟩
  simp at this
  exact this k
/-- One key. -/
def unSame (a b : UnM) : Bool := a.group == b.group && a.index == b.index
def keyIs (g i : Int) (u : UnM) : Bool := u.group == g && u.index == i
theorem lt_iff (a b : UnM) : unLt a b = true ↔ (a.group < b.group ∨ (a.group = b.group ∧ a.index < b.index)) := by
  unfold unLt
  simp
theorem lt_not (a b : UnM) : unLt a b = false ↔ ¬ (a.group < b.group ∨ (a.group = b.group ∧ a.index < b.index)) := by
  rw [← lt_iff]
  simp
theorem lt_trans9 {a b c : UnM} (h : unLt a b = true) (k : unLt b c = true) : unLt a c = true := by
  rw [lt_iff] at *
  omega
theorem lt_asymm9 {a b : UnM} (h : unLt a b = true) : unLt b a = false := by
  rw [lt_iff] at h
  rw [lt_not]
  omega
theorem same_iff (a b : UnM) : unSame a b = true ↔ a.group = b.group ∧ a.index = b.index := by
  unfold unSame
  simp
theorem lt_tri {a b : UnM} (h : unLt a b = false) (k : unSame a b = false) : unLt b a = true := by
  rw [lt_not] at h
  rw [lt_iff]
  have : ¬ (a.group = b.group ∧ a.index = b.index) := by rw [← same_iff]; simp [k]
  omega
theorem same_lt {a b c : UnM} (h : unSame a b = true) (k : unLt a c = true) : unLt b c = true := by
  rw [same_iff] at h
  rw [lt_iff] at *
  omega
theorem same_irr {a b : UnM} (h : unSame a b = true) : unLt b a = false := by
  rw [same_iff] at h
  rw [lt_not]
  omega
/-- Units go up. -/
def UpU (L : List UnM) : Prop := L.Pairwise fun a b => unLt a b = true
theorem unAt_get {L : List UnM} {k : Nat} (hk : k < L.length) : unAt L k = (unOne L[k] && (decide (k = 0) || unLt (L.getD (k - 1) default) L[k])) := by
  unfold unAt
  have : L.getD k default = L[k] := by simp [List.getD, hk]
  rw [this]
theorem up_of_ok {L : List UnM} (h : unitsOk L = true) : UpU L := by
  have hk : ∀ k (hk : k + 1 < L.length), unLt L[k] L[k + 1] = true := fun k hk => by
    have := List.all_eq_true.1 h (k + 1) (by simpa using hk)
    rw [unAt_get hk] at this
    simp only [Bool.and_eq_true, Bool.or_eq_true, decide_eq_true_eq, Nat.add_one_ne_zero, false_or, Nat.add_sub_cancel] at this
    have e : L.getD k default = L[k] := by simp [List.getD, show k < L.length by omega]
    rw [e] at this
    exact this.2
  refine List.pairwise_iff_getElem.2 fun i j hi hj hij => ?_
  induction j with
  | zero => omega
  | succ j ih =>
    rcases Nat.lt_or_eq_of_le (Nat.le_of_lt_succ hij) with e | e
    · exact lt_trans9 (ih (by omega) e) (hk j hj)
    · subst e
      exact hk i hj
theorem one_of_ok {L : List UnM} (h : unitsOk L = true) : ∀ u ∈ L, unOne u = true := fun u hu => by
  obtain ⟨k, hk, rfl⟩ := List.getElem_of_mem hu
  have := List.all_eq_true.1 h k (by simpa using hk)
  rw [unAt_get hk] at this
  simp only [Bool.and_eq_true] at this
  exact this.1
theorem ok_of_up {L : List UnM} (h : UpU L) (h1 : ∀ u ∈ L, unOne u = true) : unitsOk L = true := by
  refine List.all_eq_true.2 fun k hk => ?_
  have hk : k < L.length := by simpa using hk
  rw [unAt_get hk, h1 _ (List.getElem_mem hk)]
  by_cases h0 : k = 0
  · simp [h0]
  · have e : L.getD (k - 1) default = L[k - 1] := by simp [List.getD, show k - 1 < L.length by omega]
    rw [e, List.pairwise_iff_getElem.1 h (k - 1) k (by omega) hk (by omega)]
    simp
/-- What is put lies between what is ahead of it and what is behind it. -/
theorem putL_cut {L : List UnM} {u : UnM} {i : Nat} (h1 : ∀ j (hj : j < L.length), j < i → unLt L[j] u = true) (h2 : ∀ j (hj : j < L.length), i ≤ j → unLt L[j] u = false) (hs : UpU L) :
    putL L u = L.take i ++ [u] ++ L.drop (if ∃ h : i < L.length, unSame L[i] u = true then i + 1 else i) := by
  have a1 : ∀ x ∈ L.take i, unLt x u = true := fun x hx => by
    obtain ⟨j, hj, rfl⟩ := List.getElem_of_mem hx
    rw [List.length_take] at hj
    rw [List.getElem_take]
    exact h1 j (by omega) (by omega)
  have a2 : ∀ x ∈ L.drop i, unLt x u = false := fun x hx => by
    obtain ⟨j, hj, rfl⟩ := List.getElem_of_mem hx
    rw [List.length_drop] at hj
    rw [List.getElem_drop]
    exact h2 (i + j) (by omega) (by omega)
  have e1 : L.filter (unLt · u) = L.take i := by
    conv => lhs; rw [← List.take_append_drop i L]
    rw [List.filter_append, List.filter_eq_self.2 a1, List.filter_eq_nil_iff.2 (fun x hx => by rw [a2 x hx]; simp), List.append_nil]
  have e2 : L.filter (unLt u ·) = (L.drop i).filter (unLt u ·) := by
    conv => lhs; rw [← List.take_append_drop i L]
    rw [List.filter_append, List.filter_eq_nil_iff.2 (fun x hx => by rw [lt_asymm9 (a1 x hx)]; simp), List.nil_append]
  unfold putL
  rw [e1, e2]
  congr 1
  by_cases hi : i < L.length
  · have hd : L.drop i = L[i] :: L.drop (i + 1) := List.drop_eq_getElem_cons hi
    have hr : ∀ x ∈ L.drop (i + 1), unLt L[i] x = true := fun x hx => by
      have hs' : UpU (L.drop i) := List.Pairwise.sublist (List.drop_sublist _ _) hs
      unfold UpU at hs'
      rw [hd] at hs'
      exact (List.pairwise_cons.1 hs').1 x hx
    cases hq : unSame L[i] u with
    | true =>
      rw [if_pos ⟨hi, hq⟩, hd, List.filter_cons, same_irr hq]
      simp only [Bool.false_eq_true, if_false]
      exact List.filter_eq_self.2 fun x hx => same_lt hq (hr x hx)
    | false =>
      rw [if_neg (fun ⟨_, h⟩ => by rw [hq] at h; cases h)]
      have hlt : unLt u L[i] = true := lt_tri (h2 i hi (Nat.le_refl _)) hq
      refine List.filter_eq_self.2 fun x hx => ?_
      rw [hd] at hx
      rcases List.mem_cons.1 hx with rfl | hx
      · exact hlt
      · exact lt_trans9 hlt (hr x hx)
  · rw [if_neg (fun ⟨h, _⟩ => hi h), List.drop_of_length_le (by omega)]
    rfl
/-- What is got, by the first one of a key. -/
theorem getX_find (h : HM) (g i : Int) : getX h g i = match h.us.find? (keyIs g i) with
    | some u => if h.up && unSound u then (u.text, true) else (⟨#[]⟩, false)
    | none => (⟨#[]⟩, false) := by
  have hk : ∀ L : List UnM, L.find? (keyIs g i) = if unIdx L g i < L.length then some (L.getD (unIdx L g i) default) else none := by
    intro L
    induction L with
    | nil => rfl
    | cons a L ih =>
      unfold unIdx at *
      rw [List.find?_cons, List.findIdx_cons]
      show (match keyIs g i a with | true => some a | false => L.find? (keyIs g i)) = if (bif keyIs g i a then 0 else L.findIdx (keyIs g i) + 1) < (a :: L).length then some ((a :: L).getD (bif keyIs g i a then 0 else L.findIdx (keyIs g i) + 1) default) else none
      cases keyIs g i a with
      | true => simp
      | false =>
        have e : L.findIdx (fun u => u.group == g && u.index == i) = L.findIdx (keyIs g i) := rfl
        rw [e] at ih
        dsimp only
        rw [ih]
        simp
  rw [hk]
  unfold getX
  by_cases hl : unIdx h.us g i < h.us.length
  · rw [if_pos hl]
    simp [hl]
  · rw [if_neg hl]
    simp [hl]
theorem putX_parts {L : List UnM} {u : UnM} (hs : UpU L) : ∃ A M Z, L = A ++ M ++ Z ∧ putL L u = A ++ [u] ++ Z ∧ (∀ x ∈ A, unLt x u = true) ∧ (∀ x ∈ Z, unLt u x = true) ∧ (∀ x ∈ M, unSame x u = true) := by
  refine ⟨L.filter (unLt · u), L.filter (unSame · u), L.filter (unLt u ·), ?_, rfl, fun x hx => (List.mem_filter.1 hx).2, fun x hx => (List.mem_filter.1 hx).2, fun x hx => (List.mem_filter.1 hx).2⟩
  induction L with
  | nil => rfl
  | cons a L ih =>
    have h1 := List.pairwise_cons.1 hs
    have ih := ih h1.2
    rw [List.filter_cons, List.filter_cons, List.filter_cons]
    cases ha : unLt a u with
    | true =>
      have hb : unLt u a = false := lt_asymm9 ha
      have hc : unSame a u = false := by cases hc : unSame a u with
        | false => rfl
        | true =>
          have h2 := (same_iff _ _).1 hc
          have h3 := (lt_iff _ _).1 ha
          omega
      rw [hb, hc]
      simp only [if_true, Bool.false_eq_true, if_false, List.cons_append, List.cons.injEq, true_and]
      exact ih
    | false =>
      have n1 : L.filter (unLt · u) = [] := by
        refine List.filter_eq_nil_iff.2 fun x hx => ?_
        have := h1.1 x hx
        have h4 := (lt_iff _ _).1 this
        have h5 := (lt_not _ _).1 ha
        have : ¬ unLt x u = true := by rw [lt_iff]; omega
        exact this
      rw [n1] at ih ⊢
      cases hb : unSame a u with
      | true =>
        rw [same_irr hb]
        simp only [if_true, Bool.false_eq_true, if_false, List.cons_append, List.nil_append, List.cons.injEq, true_and] at *
        exact ih
      | false =>
        have hc : unLt u a = true := lt_tri ha hb
        have n2 : L.filter (unSame · u) = [] := by
          refine List.filter_eq_nil_iff.2 fun x hx => ?_
          have h4 := (lt_iff _ _).1 (h1.1 x hx)
          have h5 := (lt_iff _ _).1 hc
          have : ¬ unSame x u = true := by rw [same_iff]; omega
          exact this
        rw [n2] at ih ⊢
        rw [hc]
        simp only [if_true, Bool.false_eq_true, if_false, List.nil_append, List.cons.injEq, true_and] at *
        exact ih
theorem key_same {u x : UnM} : keyIs u.group u.index x = unSame x u := rfl
theorem lt_nokey {u x : UnM} (h : unLt x u = true ∨ unLt u x = true) : unSame x u = false := by
  cases hc : unSame x u with
  | false => rfl
  | true =>
    have h2 := (same_iff _ _).1 hc
    rw [lt_iff, lt_iff] at h
    omega
theorem find_mid {A Z : List UnM} {u v : UnM} (hA : ∀ x ∈ A, unSame x u = false) (hv : unSame v u = true) : (A ++ [v] ++ Z).find? (keyIs u.group u.index) = some v := by
  rw [List.append_assoc, List.find?_append, List.find?_eq_none.2 (fun x hx => by rw [key_same, hA x hx]; simp)]
  simp [key_same, hv]
theorem idx_mid {A Z : List UnM} {u v : UnM} (hA : ∀ x ∈ A, unSame x u = false) (hv : unSame v u = true) : unIdx (A ++ [v] ++ Z) u.group u.index = A.length := by
  unfold unIdx
  rw [List.findIdx_eq (by simp)]
  refine ⟨?_, fun j hj => ?_⟩
  · simp only [List.append_assoc, List.cons_append, List.nil_append, List.getElem_append_right (Nat.le_refl _), Nat.sub_self, List.getElem_cons_zero]
    exact hv
  · have : (A ++ [v] ++ Z)[j]'(by simp; omega) = A[j] := by
      simp [List.getElem_append_left, hj]
    rw [this]
    exact hA _ (List.getElem_mem hj)
theorem get_mid {A Z : List UnM} {v : UnM} : (A ++ [v] ++ Z).getD A.length default = v := by simp [List.getD]
theorem set_midU {A Z : List UnM} {v x : UnM} : (A ++ [v] ++ Z).set A.length x = A ++ [x] ++ Z := by simp
theorem cut_mid {A Z : List UnM} {v : UnM} : (A ++ [v] ++ Z).take A.length ++ (A ++ [v] ++ Z).drop (A.length + 1) = A ++ Z := by
  have : A ++ [v] ++ Z = A ++ (v :: Z) := by simp
  rw [this, List.take_left, ← List.drop_drop, List.drop_left]
  rfl
theorem lt_mid {A Z : List UnM} {v : UnM} : A.length < (A ++ [v] ++ Z).length := by simp
theorem size_list (t : ByteArray) (h : 0 < t.size) : (t.toList == []) = false := by
  rw [Go.ByteArray.toList_eq]
  cases hq : t.data.toList with
  | cons a l => rfl
  | nil =>
    have : t.data.toList.length = t.size := rfl
    rw [hq] at this
    simp at this
    omega
/-- Nothing that FnUnits asks of plain hosts is otherwise. -/
structure UnitsAll (H : HM) (u : UnM) (p : Int) (N B D : HM) : Prop where
  put : putX H u = (N, true)
  up : N.up = true
  okN : hostOk N = true
  got : getX N u.group u.index = (u.text, true)
  spoil : spoilX N u.group u.index p = (B, true)
  okB : hostOk B = true
  bad : (getX B u.group u.index).2 = false
  again : spoilX B u.group u.index p = (B, false)
  drop : dropU N u.group u.index = (D, true)
  okD : hostOk D = true
  none : (getX D u.group u.index).2 = false
  others : ∀ x ∈ H.us, unSame x u = false → getX H x.group x.index = getX D x.group x.index
  down : (getX ⟨N.id, false, N.us⟩ u.group u.index).2 = false
  len : D.us.length + 1 = N.us.length
  low : N.us.length ≤ H.us.length + 1
theorem up_mid {A Z : List UnM} {v : UnM} (hs : UpU (A ++ Z)) (h1 : ∀ x ∈ A, unLt x v = true) (h2 : ∀ x ∈ Z, unLt v x = true) : UpU (A ++ [v] ++ Z) := by
  unfold UpU at *
  rw [List.pairwise_append] at hs
  rw [List.append_assoc, List.pairwise_append]
  refine ⟨hs.1, ?_, fun x hx y hy => ?_⟩
  · rw [List.cons_append, List.nil_append, List.pairwise_cons]
    exact ⟨h2, hs.2.1⟩
  · rcases List.mem_append.1 hy with h | h
    · simp at h; subst h; exact h1 x hx
    · exact hs.2.2 x hx y h
theorem units_all (H : HM) (u : UnM) (p : Int) (hup : H.up = true) (hok : hostOk H = true) (hg : 1 ≤ u.group ∧ u.group ≤ 100000) (hi : 0 ≤ u.index ∧ u.index ≤ 5) (ht : u.text.size ≤ 200) (ht0 : 0 < u.text.size) (hp : 0 ≤ p) : ∃ N B D, UnitsAll H u p N B D := by
  have hu : unitsOk H.us = true ∧ inI H.id 1 7 = true := by unfold hostOk at hok; simpa using hok
  have hs := up_of_ok hu.1
  have hone := one_of_ok hu.1
  have so : summed u = ⟨u.group, u.index, u.text, sumN u.text⟩ := rfl
  obtain ⟨A, M, Z, hL, hput, hA, hZ, hM⟩ := putX_parts (u := summed u) hs
  have hAs : ∀ x ∈ A, unSame x u = false := fun x hx => lt_nokey (u := summed u) (.inl (hA x hx))
  have hZs : ∀ x ∈ Z, unSame x u = false := fun x hx => lt_nokey (u := summed u) (.inr (hZ x hx))
  have same : ∀ t s, unSame ⟨u.group, u.index, t, s⟩ u = true := fun t s => by unfold unSame; simp
  have hlow := sumN_low u.text
  have hAZ : UpU (A ++ Z) := by
    have : (A ++ Z).Sublist H.us := by
      rw [hL, List.append_assoc]
      exact List.Sublist.append (List.Sublist.refl _) (List.sublist_append_right _ _)
    exact List.Pairwise.sublist this hs
  have h1A : ∀ x ∈ A ++ Z, unOne x = true := fun x hx => hone x (by
    rw [hL]
    rcases List.mem_append.1 hx with h | h
    · exact List.mem_append_left _ (List.mem_append_left _ h)
    · exact List.mem_append_right _ h)
  have ok3 : ∀ t : ByteArray, t.size ≤ 200 → hostOk ⟨H.id, H.up, A ++ [⟨u.group, u.index, t, sumN u.text⟩] ++ Z⟩ = true := fun t ht => by
    unfold hostOk
    dsimp only
    rw [hu.2, Bool.and_true]
    refine ok_of_up (up_mid hAZ (fun x hx => ?_) (fun x hx => ?_)) fun x hx => ?_
    · have := (lt_iff _ _).1 (hA x hx); rw [lt_iff]; exact this
    · have := (lt_iff _ _).1 (hZ x hx); rw [lt_iff]; exact this
    · rcases List.mem_append.1 hx with h | h
      · rcases List.mem_append.1 h with h | h
        · exact h1A x (List.mem_append_left _ h)
        · simp at h
          subst h
          unfold unOne inI
          simp [hg, hi, hlow, ht]
      · exact h1A x (List.mem_append_right _ h)
  have idx : ∀ t s, unIdx (A ++ [⟨u.group, u.index, t, s⟩] ++ Z) u.group u.index = A.length := fun t s => idx_mid hAs (same t s)
  have hsize : ∀ k, (turnAt u.text k).size = u.text.size := fun k => by
    unfold turnAt
    show (u.text.data.toList.set k _).toArray.size = u.text.data.size
    simp
  have hnone : (A ++ Z).find? (keyIs u.group u.index) = none := List.find?_eq_none.2 fun x hx => by
    rw [key_same]
    rcases List.mem_append.1 hx with h | h
    · rw [hAs x h]; simp
    · rw [hZs x h]; simp
  have hturn := sum_turned u.text (p.toNat % u.text.size) (Nat.mod_lt _ ht0)
  refine ⟨⟨H.id, H.up, A ++ [⟨u.group, u.index, u.text, sumN u.text⟩] ++ Z⟩, ⟨H.id, H.up, A ++ [⟨u.group, u.index, turnAt u.text (p.toNat % u.text.size), sumN u.text⟩] ++ Z⟩, ⟨H.id, H.up, A ++ Z⟩, ?_⟩
  constructor
  · unfold putX
    rw [hput, so, hok, hup, ← hup, ok3 _ ht, hup]
    rfl
  · exact hup
  · exact ok3 _ ht
  · rw [getX_find, find_mid hAs (same _ _)]
    unfold unSound
    simp [hup]
  · unfold spoilX
    dsimp only
    rw [idx, get_mid, set_midU]
    dsimp only
    rw [size_list _ ht0]
    unfold unSound
    simp [hp]
  · exact ok3 _ (by rw [hsize]; exact ht)
  · rw [getX_find, find_mid hAs (same _ _)]
    unfold unSound
    have : (sumN u.text == sumN (turnAt u.text (p.toNat % u.text.size))) = false := by
      cases hq : sumN u.text == sumN (turnAt u.text (p.toNat % u.text.size)) with
      | false => rfl
      | true => exact absurd (by simpa using hq : sumN u.text = _).symm hturn
    dsimp only
    rw [this]
    simp
  · unfold spoilX
    dsimp only
    rw [idx, get_mid]
    unfold unSound
    have : (sumN u.text == sumN (turnAt u.text (p.toNat % u.text.size))) = false := by
      cases hq : sumN u.text == sumN (turnAt u.text (p.toNat % u.text.size)) with
      | false => rfl
      | true => exact absurd (by simpa using hq : sumN u.text = _).symm hturn
    dsimp only
    rw [this]
    simp
  · unfold dropU
    dsimp only
    rw [idx, if_pos lt_mid, cut_mid]
  · unfold hostOk
    dsimp only
    rw [ok_of_up hAZ h1A, hu.2]
    rfl
  · rw [getX_find]
    dsimp only
    rw [hnone]
  · intro x hx hxu
    rw [getX_find, getX_find]
    have e : H.us.find? (keyIs x.group x.index) = (A ++ Z).find? (keyIs x.group x.index) := by
      rw [hL, List.find?_append, List.find?_append, List.find?_append, (show M.find? (keyIs x.group x.index) = none from List.find?_eq_none.2 fun y hy => ?_), Option.or_none]
      have h1 := (same_iff _ _).1 (hM y hy)
      have h2 : ¬ unSame x u = true := by rw [hxu]; simp
      rw [same_iff] at h2
      intro h3
      have h4 : unSame y x = true := h3
      rw [same_iff] at h4
      rw [so] at h1
      dsimp only at h1
      omega
    rw [e]
  · rw [getX_find]
    dsimp only
    split <;> simp
  · simp
    omega
  · show (A ++ [_] ++ Z).length ≤ _
    rw [hL]
    simp
    omega
end Go.Proofs.YtoaifodmjkhiiaaDoor
/- UnG: Right hosts stay right when units are put or spoilt; plain. -/
namespace Go.Proofs.YtoaifodmjkhiiaaDoor
set_option maxRecDepth 100000
open Go.RowKit

/-- A right host with few units. -/
def HGood (id : Int) (us : List UnM) (m : Nat) : Prop := hostOk ⟨id, true, us⟩ = true ∧ us.length ≤ m
theorem hostOk_up (id : Int) (b c : Bool) (us : List UnM) : hostOk ⟨id, b, us⟩ = hostOk ⟨id, c, us⟩ := rfl
theorem HGood.one {id : Int} {us : List UnM} {m : Nat} (h : HGood id us m) : unitsOk us = true ∧ 1 ≤ id ∧ id ≤ 7 := by
  have := h.1
  unfold hostOk inI at this
  simpa using this
theorem HGood.fit {id : Int} {us : List UnM} {m : Nat} (h : HGood id us m) (hm : m ≤ 1000) : UnFits us ∧ unSum us ≤ us.length * 200 ∧ ∀ u ∈ us, u.text.size ≤ 200 := by
  have ho := one_of_ok h.one.1
  have h1 : ∀ u ∈ us, u.text.size ≤ 200 ∧ (1 ≤ u.group ∧ u.group ≤ 100000) ∧ (0 ≤ u.index ∧ u.index ≤ 5) ∧ (0 ≤ u.sum ∧ u.sum ≤ 4294967295) := fun u hu => by
    have := ho u hu
    unfold unOne inI at this
    simp only [Bool.and_eq_true, decide_eq_true_eq] at this
    omega
  refine ⟨⟨by have := h.2; omega, fun u hu => ?_⟩, ?_, fun u hu => (h1 u hu).1⟩
  · have := h1 u hu
    exact ⟨by omega, ⟨by omega, by omega⟩, ⟨by omega, by omega⟩, ⟨by omega, by omega⟩⟩
  · have : ∀ L : List UnM, (∀ u ∈ L, u.text.size ≤ 200) → unSum L ≤ L.length * 200 := by
      intro L
      induction L with
      | nil => intro _; exact Nat.zero_le _
      | cons a L ih =>
        intro hL
        have h2 := ih fun u hu => hL u (List.mem_cons_of_mem _ hu)
        have h3 := hL a (List.mem_cons_self ..)
        show a.text.size + unSum L ≤ (L.length + 1) * 200
        omega
    exact this us fun u hu => (h1 u hu).1
theorem put_good {id : Int} {us : List UnM} {m : Nat} (h : HGood id us m) (u : UnM) : ∃ us', (putX ⟨id, true, us⟩ u).1 = ⟨id, true, us'⟩ ∧ HGood id us' (m + 1) := by
  unfold putX
  split
  · rename_i hc
    simp only [Bool.and_eq_true] at hc
    refine ⟨putL us (summed u), rfl, hc.2, ?_⟩
    obtain ⟨A, M, Z, e1, e2, -⟩ := putX_parts (u := summed u) (up_of_ok h.one.1)
    have h2 := h.2
    rw [e1] at h2
    rw [e2]
    simp only [List.length_append, List.length_singleton] at h2 ⊢
    omega
  · exact ⟨us, rfl, h.1, by have := h.2; omega⟩
theorem up_set {us : List UnM} {k : Nat} {x : UnM} (h : UpU us) (hk : k < us.length) (hg : x.group = us[k].group) (hi : x.index = us[k].index) : UpU (us.set k x) := by
  refine List.pairwise_iff_getElem.2 fun i j hi' hj' hij => ?_
  rw [List.length_set] at hi' hj'
  have h0 := (lt_iff _ _).1 (List.pairwise_iff_getElem.1 h i j hi' hj' hij)
  rw [lt_iff, List.getElem_set, List.getElem_set]
  split <;> split
  · omega
  · rename_i e _; subst e; rw [hg, hi]; exact h0
  · rename_i _ e; subst e; rw [hg, hi]; exact h0
  · exact h0
theorem spoil_good {id : Int} {us : List UnM} {m : Nat} (h : HGood id us m) (g i p : Int) : ∃ us', (spoilX ⟨id, true, us⟩ g i p).1 = ⟨id, true, us'⟩ ∧ HGood id us' m := by
  unfold spoilX
  dsimp only
  split
  · rename_i hc
    simp only [Bool.and_eq_true, decide_eq_true_eq] at hc
    have hk := hc.1.1.1
    refine ⟨_, rfl, ?_, by rw [List.length_set]; exact h.2⟩
    have ho := one_of_ok h.one.1
    unfold hostOk
    dsimp only
    generalize unIdx us g i = k at hk
    have e : us.getD k default = us[k] := by simp [List.getD, hk]
    rw [e]
    have hz : ∀ q, (turnAt us[k].text q).size = us[k].text.size := fun q => by
      unfold turnAt
      show (us[k].text.data.toList.set q _).toArray.size = us[k].text.data.size
      simp
    rw [Bool.and_eq_true]
    refine ⟨ok_of_up (up_set (up_of_ok h.one.1) hk (by rfl) (by rfl)) fun u hu => ?_, ?_⟩
    rotate_left
    · have := h.one
      unfold inI
      simp [this.2]
    · rcases List.mem_or_eq_of_mem_set hu with q | rfl
      · exact ho u q
      · have := ho _ (List.getElem_mem hk)
        unfold unOne at this ⊢
        dsimp only
        rw [hz]
        exact this
  · exact ⟨us, rfl, h⟩
end Go.Proofs.YtoaifodmjkhiiaaDoor
