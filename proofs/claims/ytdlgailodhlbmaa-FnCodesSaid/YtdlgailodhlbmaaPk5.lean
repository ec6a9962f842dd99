/- Texts of ours, laid one behind the other: BoolA, CodD, Fits, CodE, CodF, LawDec, CodM, TbA, Draw, NestG, DrawB. -/
import Derived.Test.YtdlgailodhlbmaaPk4
import Derived.Deep.RegionHeld3
import Derived.Deep.DrawnRows
import Derived.BigQuiet
import Derived.PlainAid
import Derived.Deep.QuietTactic
import Derived.OwnWalk
/- BoolA: Rows of flags: their copies, their comparison, marks, and as values. -/
namespace Go.Proofs.Ytdlgailodhlbmaa
open Go.RowKit
attribute [local go_sem ↓] Go.wp_at_zero Go.wp_at_succ

def bcs (xs : List Bool) : List Value := xs.map Value.bool
theorem bcs_len (xs : List Bool) : (bcs xs).length = xs.length := by simp [bcs]
theorem bcs_get (xs : List Bool) (j : Nat) (h : j < xs.length) : (bcs xs)[j]? = some (.bool (xs.getD j false)) := by simp [bcs, List.getD, h]
theorem bcs_set (xs : List Bool) (j : Nat) (x : Bool) : (bcs xs).set j (.bool x) = bcs (xs.set j x) := by simp [bcs, List.map_set]
theorem crow_bool {w : World} {a : Option Addr} {xs : List Bool} (h : CRow w a (bcs xs)) (hp : 0 < xs.length) : ∃ b off, a = some ⟨b, off, none⟩ ∧ b < w.heap.size ∧ ∀ j, j < xs.length → w.cell? ⟨b, off + j, none⟩ = some (.bool (xs.getD j false)) := by
  obtain ⟨b, off, e, hb, hc⟩ := h (by rw [bcs_len]; exact hp)
  exact ⟨b, off, e, hb, fun j hj => hc j _ (bcs_get xs j hj)⟩
theorem infoBoolG : (Try.prog.info? 4).map (fun i => (i.zero, i.size, i.bytes)) = some (some (.bool false), 1, 1) := by kernel_rfl
def ToBools (xs : List Bool) (w : World) (e : Ending) (w' : World) : Prop := ∃ g, e = .returned (.slice (some ⟨g, 0, none⟩) xs.length xs.length) ∧ w.heap.size ≤ g ∧ WCells w' g (bcs xs) ∧ Below w.heap.size w w'
set_option maxHeartbeats 1000000 in
theorem toBoolS_any (a : Option Addr) (xs : List Bool) (cap : Nat) (w : World) (hr : CRow w a (bcs xs)) (hl : xs.length ≤ 1048576) :
    Calls Try.prog 34 #[.slice a xs.length cap] w fun e w' => ToBools xs w e w' := by
  obtain ⟨i0, hi, hz0, hz1, hz2⟩ := info_parts infoBoolG
  have HR : Hid (CRow w a (bcs xs)) := hr
  clear hr
  go_enter Try.func34, Try.ntmps34
  go_wp2_with (at_make; refine wpList_make_full _ rfl _ _ 34 rfl w.heap.size 4 i0 _ 1 Try.underlying34 hi hz0 hz1 .i64 .i64 _ _ xs.length rfl rfl (by omega) (by omega) ?b2 ?b3 ?b4 ?_)
  case b2 => rw [hz2]; omega
  case b3 => unfold maxLen; omega
  case b4 => omega
  intro wm hownm hgrm
  have hbm : Below w.heap.size w wm := (Below.refl _ _).grown hgrm (Nat.le_refl _) (fun j hj => by simp at hj)
  have hrow : WCells wm w.heap.size (bcs (List.replicate xs.length false)) := by
    have h := own_wcells hownm
    have e : (madeCells #[Value.bool false] (xs.length * 1)).toList = bcs (List.replicate xs.length false) := by rw [toList_madeCells_one]; simp [bcs]
    rw [Nat.mul_one] at e
    first | (rw [e] at h; exact h) | (rw [Nat.mul_one, e] at h; exact h)
  have HRW : Shut (WCells wm w.heap.size (bcs (List.replicate xs.length false))) := ⟨hrow⟩
  clear hownm hgrm hrow
  go_wp2_with fail
  go_loopw [4] (fun i wr => ∃ (k : Nat) (ys : List Bool), i = .int .i64 k ∧ k ≤ xs.length ∧ ys.length = xs.length ∧ ys.take k = xs.take k ∧ Shut (WCells wr w.heap.size (bcs ys)) ∧ Below w.heap.size w wr) (fun i _ => xs.length - (intOf i).toNat)
  case atStart => exact ⟨0, _, rfl, by omega, by simp, by simp, HRW, hbm⟩
  case round =>
    clear hbm
    obtain ⟨k, ys, rfl, hk, hyl, hyt, hw, hb⟩ := hrel
    have HY : Hid (ys.length = xs.length ∧ ys.take k = xs.take k) := ⟨hyl, hyt⟩
    have HB : Hid (Below w.heap.size w wr) := hb
    by_cases hlt : k < xs.length
    · obtain ⟨b, off, rfl, lb, hc⟩ := crow_bool HR.out (by omega)
      have d0 := hc k hlt
      rw [← hb.cell (p := ⟨b, off + k, none⟩) lb] at d0
      obtain ⟨x, hx⟩ : ∃ x, x = xs.getD k false := ⟨_, rfl⟩
      rw [← hx] at d0
      have HXE : Hid (x = xs.getD k false) := hx
      have k0 : (0 : Int) ≤ (k : Int) := by omega
      have k1 : (k : Int) < (xs.length : Int) := by omega
      obtain ⟨c0, z0⟩ := hw.out.2 k _ (bcs_get ys k (by omega))
      have hset := hw.out.set k (.bool x) (by rw [bcs_len]; omega)
      rw [bcs_set] at hset
      have HS : Shut (WCells (wr.setCell ⟨w.heap.size, k, none⟩ (.bool x)) w.heap.size (bcs (ys.set k x))) := ⟨hset⟩
      clear hc hx hset hb hyl hyt
      go_wp2_with fail
      all_goals
        refine ⟨⟨k + 1, ys.set k x, by go_num, by omega, by rw [List.length_set]; exact HY.out.1, ?_, ⟨HS.out⟩, HB.out.setCell (p := ⟨w.heap.size, k, none⟩) (Nat.le_refl _) _⟩, by simp [intOf]; omega⟩
        have hky : k < (ys.set k x).length := by rw [List.length_set]; have := HY.out.1; omega
        rw [List.take_succ_eq_append_getElem hky, List.take_succ_eq_append_getElem hlt, List.take_set_of_le (Nat.le_refl _), List.getElem_set_self]
        have e1 : x = xs[k] := by rw [HXE.out]; simp [List.getD, hlt]
        rw [e1]
        exact congrArg (· ++ [xs[k]]) HY.out.2
    · have e : ys = xs := by
        rw [List.take_of_length_le (by omega), List.take_of_length_le (by omega)] at hyt; exact hyt
      subst e
      go_wp2_with fail
      go_ret
      exact ⟨_, rfl, Nat.le_refl _, hw.out, hb⟩
set_option maxHeartbeats 1000000 in
theorem eqBoolS_same (a b : Option Addr) (xs : List Bool) (ca cb : Nat) (w : World) (ha : CRow w a (bcs xs)) (hb : CRow w b (bcs xs)) (hl : xs.length ≤ 1048576) :
    Calls Try.prog 35 #[.slice a xs.length ca, .slice b xs.length cb] w fun e w' => e = .returned (.bool true) ∧ Below w.heap.size w w' := by
  have HA : Hid (CRow w a (bcs xs)) := ha
  have HB : Hid (CRow w b (bcs xs)) := hb
  clear ha hb
  go_enter Try.func35, Try.ntmps35
  go_wp2_with fail
  go_loopw [5] (fun i wr => ∃ (k : Nat), i = .int .i64 k ∧ k ≤ xs.length ∧ Below w.heap.size w wr) (fun i _ => xs.length - (intOf i).toNat)
  case atStart => exact ⟨0, rfl, Nat.zero_le _, Below.refl _ _⟩
  case round =>
    obtain ⟨k, rfl, hk, hbl⟩ := hrel
    by_cases hlt : k < xs.length
    · obtain ⟨b1, o1, rfl, l1, hc1⟩ := crow_bool (HA.out.stays hbl) (by omega)
      obtain ⟨b2, o2, rfl, l2, hc2⟩ := crow_bool (HB.out.stays hbl) (by omega)
      have d0 := hc1 k hlt
      have e0 := hc2 k hlt
      have k0 : (0 : Int) ≤ (k : Int) := by omega
      have k1 : (k : Int) < (xs.length : Int) := by omega
      have hbn : ∀ q, Below w.heap.size w (wr.drewN q) := fun q => hbl.trans ⟨rfl, rfl, rfl, Nat.le_refl _, fun _ _ => rfl⟩
      generalize xs.getD k false = x at d0 e0
      clear hc1 hc2 hbl
      go_wp2_with fail
      go_quiet (fail)
      go_wp2_with fail
      go_roundw
      case rel => exact ⟨k + 1, by go_num, by omega, hbn _⟩
      case measure => simp [intOf]; omega
    · have e : k = xs.length := by omega
      subst e
      go_wp2_with fail
      go_ret
      exact ⟨rfl, hbl⟩
theorem markBoolS_none (a : Option Addr) (k ca : Nat) (w : World) :
    Calls Try.prog 36 #[.slice a 0 ca, .int .i64 k] w fun e w' => e = .returned (.int .i64 k) ∧ w' = w := by
  go_enter Try.func36, Try.ntmps36
  go_wp2_with fail
  go_rounds 1
  go_ret
  exact ⟨rfl, rfl⟩
def MarkBools (g k n : Nat) (w : World) (e : Ending) (w' : World) : Prop := e = .returned (.int .i64 (k + n : Nat)) ∧ w.grownBy w' (some g)
set_option maxHeartbeats 1000000 in
theorem markBoolS_any (g : Nat) (xs : List Bool) (k ca : Nat) (w : World) (ha : WCells w g (bcs xs)) (hn : k + xs.length ≤ 1000000000) :
    Calls Try.prog 36 #[.slice (some ⟨g, 0, none⟩) xs.length ca, .int .i64 k] w fun e w' => MarkBools g k xs.length w e w' := by
  obtain ⟨n, hnx⟩ : ∃ n, n = xs.length := ⟨_, rfl⟩
  have HN : Hid (n = xs.length) := hnx
  rw [← hnx]
  rw [← hnx] at hn
  clear hnx
  have HA : Shut (WCells w g (bcs xs)) := ⟨ha⟩
  clear ha
  go_enter Try.func36, Try.ntmps36
  go_wp2_with fail
  go_loopw [1, 5] (fun c i wr => ∃ (j : Nat) (ys : List Bool), i = .int .i64 j ∧ c = .int .i64 (k + j : Nat) ∧ j ≤ n ∧ ys.length = n ∧ Shut (WCells wr g (bcs ys)) ∧ Shut (w.grownBy wr (some g))) (fun _ i _ => n - (intOf i).toNat)
  case atStart => exact ⟨0, xs, rfl, rfl, Nat.zero_le _, HN.out.symm, HA, ⟨⟨rfl, rfl, rfl, Nat.le_refl _, fun _ _ _ => rfl⟩⟩⟩
  case round =>
    obtain ⟨j, ys, rfl, rfl, hj, hyl, hw, hgr⟩ := hrel
    have HL : Hid (ys.length = n) := hyl
    by_cases hlt : j < n
    · have j0 : (0 : Int) ≤ (j : Int) := by omega
      have j1 : (j : Int) < (n : Int) := by omega
      obtain ⟨c0, z0⟩ := hw.out.2 j _ (bcs_get ys j (by omega))
      have HS := Shut.mk fun x : Bool => (bcs_set ys j x) ▸ hw.out.set j (.bool x) (by rw [bcs_len]; omega)
      have HG := Shut.mk fun v : Value => gb_two' hgr.out (gb_set' wr g j v)
      clear hyl hgr hw
      go_wp2_with fail
      go_roundw
      case rel => exact ⟨j + 1, _, by go_num, congrArg (Value.int .i64) (by omega), by omega, by rw [List.length_set]; exact HL.out, ⟨HS.out _⟩, ⟨HG.out _⟩⟩
      case measure => simp [intOf]; omega
    · have e : j = n := by omega
      subst e
      go_wp2_with fail
      go_ret
      exact ⟨rfl, hgr.out⟩
/-- A value that is these flags. -/
def BSee (w : World) (v : Value) (H : List Bool) (lo hi : Nat) : Prop := ∃ (a : Option Addr) (cap : Nat), v = .slice a H.length cap ∧ RRow w a (bcs H) lo hi
/-- A value that is these flags, in memory of its own. -/
def BAns (w : World) (v : Value) (H : List Bool) (lo hi : Nat) : Prop := ∃ (a : Option Addr) (cap : Nat), v = .slice a H.length cap ∧ (H = [] ∨ ∃ g, a = some ⟨g, 0, none⟩ ∧ lo ≤ g ∧ g < hi ∧ WCells w g (bcs H))
theorem BAns.see {w : World} {v : Value} {H : List Bool} {lo hi : Nat} (h : BAns w v H lo hi) : BSee w v H lo hi := by
  obtain ⟨a, cap, e, h1⟩ := h
  refine ⟨a, cap, e, ?_⟩
  rcases h1 with rfl | ⟨g, rfl, h1, h2, h3⟩
  · intro h; simp [bcs] at h
  · exact RRow.of_wcells h3 h1 h2
theorem BSee.turned {w w' : World} {v : Value} {H : List Bool} {lo hi lo' hi' : Nat} (h : BSee w v H lo hi) (t : Turned w w' lo' hi') (hd : hi ≤ lo' ∨ hi' ≤ lo) : BSee w' v H lo hi := by
  obtain ⟨a, cap, e, h1⟩ := h
  exact ⟨a, cap, e, h1.turned t hd⟩
theorem BSee.below {w w' : World} {v : Value} {H : List Bool} {lo hi : Nat} (h : BSee w v H lo hi) (hb : Below w.heap.size w w') : BSee w' v H lo hi := by
  obtain ⟨a, cap, e, h1⟩ := h
  exact ⟨a, cap, e, h1.below hb⟩
theorem BAns.turned {w w' : World} {v : Value} {H : List Bool} {lo hi lo' hi' : Nat} (h : BAns w v H lo hi) (t : Turned w w' lo' hi') (hd : hi ≤ lo' ∨ hi' ≤ lo) : BAns w' v H lo hi := by
  obtain ⟨a, cap, e, h1⟩ := h
  refine ⟨a, cap, e, ?_⟩
  rcases h1 with rfl | ⟨g, rfl, h1, h2, h3⟩
  · exact .inl rfl
  · exact .inr ⟨g, rfl, h1, h2, h3.turned t (by omega)⟩
theorem BAns.below {w w' : World} {v : Value} {H : List Bool} {lo hi : Nat} (h : BAns w v H lo hi) (hb : Below w.heap.size w w') : BAns w' v H lo hi := by
  obtain ⟨a, cap, e, h1⟩ := h
  refine ⟨a, cap, e, ?_⟩
  rcases h1 with rfl | ⟨g, rfl, h1, h2, h3⟩
  · exact .inl rfl
  · exact .inr ⟨g, rfl, h1, h2, h3.below hb h3.1⟩
def BPost (H : List Bool) (w : World) (e : Ending) (w' : World) : Prop := ∃ v, e = .returned v ∧ BAns w' v H w.heap.size w'.heap.size ∧ Below w.heap.size w w'
theorem toBoolS_val {w : World} {v : Value} {H : List Bool} {lo hi : Nat} (h : BSee w v H lo hi) (hf : H.length ≤ 1048576) : Calls Try.prog 34 #[v] w fun e w' => BPost H w e w' := by
  obtain ⟨a, cap, rfl, h1⟩ := h
  refine (toBoolS_any a H cap w h1.crow hf).mono ?_
  rintro e w' ⟨g, rfl, hg, hc, hb⟩
  exact ⟨_, rfl, ⟨_, _, rfl, .inr ⟨g, rfl, hg, hc.1, hc⟩⟩, hb⟩
theorem eqBoolS_val {w : World} {v u : Value} {H : List Bool} {lo hi lo' hi' : Nat} (h : BSee w v H lo hi) (k : BSee w u H lo' hi') (hf : H.length ≤ 1048576) : Calls Try.prog 35 #[v, u] w fun e w' => e = .returned (.bool true) ∧ Below w.heap.size w w' := by
  obtain ⟨a, cap, rfl, h1⟩ := h
  obtain ⟨b, cap', rfl, h1'⟩ := k
  exact eqBoolS_same a b H cap cap' w h1.crow h1'.crow hf
theorem markBoolS_val {w : World} {v : Value} {H : List Bool} {lo hi : Nat} (k : Nat) (h : BAns w v H lo hi) (hk : k + H.length ≤ 1000000000) :
    Calls Try.prog 36 #[v, .int .i64 k] w fun e w' => e = .returned (.int .i64 (k + H.length : Nat)) ∧ Turned w w' lo hi := by
  obtain ⟨a, cap, rfl, h1⟩ := h
  rcases h1 with rfl | ⟨g, rfl, h1, h2, h3⟩
  · refine (markBoolS_none a k cap w).mono ?_
    rintro e w' ⟨rfl, rfl⟩
    exact ⟨rfl, Turned.refl _ _ _⟩
  · refine (markBoolS_any g H k cap w h3 hk).mono ?_
    rintro e w' ⟨rfl, hg⟩
    exact ⟨rfl, Turned.of_grown hg h1 h2⟩
end Go.Proofs.Ytdlgailodhlbmaa
/- CodD: The model's Decode: what is in memory on the way. -/
namespace Go.Proofs.Ytdlgailodhlbmaa
open Go.RowKit
open W (B8 Mx)
attribute [local irreducible] W.gm W.xs W.mm W.gi mx matOk addB mulT appX codeX

theorem RRow.grown {w w' : World} {a : Option Addr} {L : List Value} {lo hi : Nat} {r : Option Nat} (h : RRow w a L lo hi) (hg : w.grownBy w' r) (hr : ∀ q, r = some q → q < lo ∨ hi ≤ q) : RRow w' a L lo hi := fun hp => by
  obtain ⟨b, off, e, h1, h2, h3, h4⟩ := h hp
  refine ⟨b, off, e, h1, h2, Nat.lt_of_lt_of_le h3 hg.size, fun i v hv => (World.cell?_of_block (a := ⟨b, off + i, none⟩) (hg.block b h3 (fun q => ?_))).trans (h4 i v hv)⟩
  have := hr b q.symm
  omega
theorem MR.grown {w w' : World} {a : Option Addr} {ss : List SR} {lo hi : Nat} {r : Option Nat} (h : MR w a ss lo hi) (hg : w.grownBy w' r) (hr : ∀ q, r = some q → q < lo ∨ hi ≤ q) : MR w' a ss lo hi := ⟨h.1.grown hg hr, fun s hs => (h.2 s hs).grown hg hr⟩
/-- Rows and units that were picked so far; the code beside them. -/
structure DecS (C : Nat) (w0 wr : World) (gc : Nat) (css : List SR) (vr vu : Value) (ts : List SR) (U : List ByteArray) : Prop where
  ownR : wr.ownsRow w0.heap.size 32 1 vr ts.length (svs ts)
  ownU : wr.ownsRow w0.heap.size 9 1 vu U.length (tv U)
  placeR : ∀ q, vr.ownBlock = some q → q = w0.heap.size ∨ C ≤ q
  placeU : ∀ q, vu.ownBlock = some q → q = w0.heap.size + 1 ∨ C ≤ q
  apart : ∀ q, vr.ownBlock = some q → vu.ownBlock ≠ some q
  rows : ∀ s ∈ ts, RRow wr s.loc (ics s.row) (w0.heap.size + 2) C
  code : MR wr (some ⟨gc, 0, none⟩) css (w0.heap.size + 2) C
  bel : Below w0.heap.size w0 wr
  size : C ≤ wr.heap.size
theorem own_ne {a b : Option Nat} (h : ∀ q, a = some q → b ≠ some q) : b = none ∨ b ≠ a := by
  cases b with
  | none => exact .inl rfl
  | some q => exact .inr fun e => h q e.symm rfl
theorem own_ne' {a b : Option Nat} (h : ∀ q, a = some q → b ≠ some q) : a = none ∨ a ≠ b := by
  cases a with
  | none => exact .inl rfl
  | some q => exact .inr fun e => h q rfl e.symm
theorem DecS.addRow {C : Nat} {w0 wr w6 : World} {gc g cap : Nat} {css ts : List SR} {vr vu : Value} {U : List ByteArray} {o : Obj} {s0 : SR} (h : DecS C w0 wr gc css vr vu ts U) (hs : RRow wr s0.loc (ics s0.row) (w0.heap.size + 2) C)
    (hown : w6.ownsRow w0.heap.size 32 1 (.slice (some ⟨g, 0, none⟩) (ts.length + 1) cap) (ts.length + 1) (svs ts ++ [srv s0])) (hg : (wr.alloc o).grownBy w6 vr.ownBlock) (hat : vr.ownBlock = some g ∨ g = wr.heap.size + 1) :
    DecS C w0 w6 gc css (.slice (some ⟨g, 0, none⟩) (ts.length + 1) cap) vu (ts ++ [s0]) U := by
  have hal : Below wr.heap.size wr (wr.alloc o) := (Below.refl _ _).alloc (Nat.le_refl _) o
  have hS := h.bel.size
  have hp : ∀ q, vr.ownBlock = some q → q < w0.heap.size + 2 ∨ C ≤ q := fun q hq => by rcases h.placeR q hq with e | e <;> omega
  have hq : ∀ q, (Value.slice (some ⟨g, 0, none⟩) (ts.length + 1) cap).ownBlock = some q → q = g := fun q hq => by simp [Value.ownBlock] at hq; exact hq.symm
  have hsz : w0.heap.size ≤ (wr.alloc o).heap.size := Nat.le_trans hS hal.size
  refine ⟨?_, (h.ownU.alloc o).kept hg (own_ne h.apart), fun q e => ?_, h.placeU, fun q e => ?_, fun s hs' => ?_, (h.code.below hal).grown hg hp, (h.bel.alloc hS o).grown hg hsz (fun q hq => (h.ownR.lt q hq).1), by have := hg.size; have := hal.size; have := h.size; omega⟩
  · have e : svs (ts ++ [s0]) = svs ts ++ [srv s0] := by simp [svs]
    rw [e, List.length_append, List.length_singleton]
    exact hown
  · rw [hq q e]
    rcases hat with e2 | e2
    · exact h.placeR g e2
    · have := h.size; omega
  · rw [hq q e]
    rcases hat with e2 | e2
    · exact h.apart g e2
    · intro e3
      have := (h.ownU.lt g e3).2
      omega
  · rcases List.mem_append.1 hs' with q | q
    · exact ((h.rows s q).below hal).grown hg hp
    · simp at q; subst q
      exact (hs.below hal).grown hg hp
theorem DecS.addUnit {C : Nat} {w0 wr w6 : World} {gc g cap : Nat} {css ts : List SR} {vr vu : Value} {U : List ByteArray} {o : Obj} {x : ByteArray} (h : DecS C w0 wr gc css vr vu ts U)
    (hown : w6.ownsRow w0.heap.size 9 1 (.slice (some ⟨g, 0, none⟩) (U.length + 1) cap) (U.length + 1) (tv U ++ [.string x])) (hg : (wr.alloc o).grownBy w6 vu.ownBlock) (hat : vu.ownBlock = some g ∨ g = wr.heap.size + 1) :
    DecS C w0 w6 gc css vr (.slice (some ⟨g, 0, none⟩) (U.length + 1) cap) ts (U ++ [x]) := by
  have hal : Below wr.heap.size wr (wr.alloc o) := (Below.refl _ _).alloc (Nat.le_refl _) o
  have hS := h.bel.size
  have hp : ∀ q, vu.ownBlock = some q → q < w0.heap.size + 2 ∨ C ≤ q := fun q hq => by rcases h.placeU q hq with e | e <;> omega
  have hq : ∀ q, (Value.slice (some ⟨g, 0, none⟩) (U.length + 1) cap).ownBlock = some q → q = g := fun q hq => by simp [Value.ownBlock] at hq; exact hq.symm
  have hsz : w0.heap.size ≤ (wr.alloc o).heap.size := Nat.le_trans hS hal.size
  refine ⟨(h.ownR.alloc o).kept hg (own_ne' h.apart), ?_, h.placeR, fun q e => ?_, fun q e => ?_, fun s hs' => ((h.rows s hs').below hal).grown hg hp, (h.code.below hal).grown hg hp, (h.bel.alloc hS o).grown hg hsz (fun q hq => (h.ownU.lt q hq).1), by have := hg.size; have := hal.size; have := h.size; omega⟩
  · rw [← tv_snoc, List.length_append, List.length_singleton]
    exact hown
  · rw [hq q e]
    rcases hat with e2 | e2
    · exact h.placeU g e2
    · have := h.size; omega
  · intro e3
    have e4 := hq q e3
    subst e4
    rcases hat with e2 | e2
    · exact h.apart q e e2
    · have := (h.ownR.lt q e).2
      omega
/-- What is read of the rows at the end. -/
theorem DecS.see {C : Nat} {w0 wr : World} {gc : Nat} {css ts : List SR} {vr vu : Value} {U : List ByteArray} (h : DecS C w0 wr gc css vr vu ts U) (hp : 0 < ts.length) : MSee wr vr (rws ts) 0 wr.heap.size := by
  obtain ⟨g, cap, e, hc⟩ := own_some h.ownR hp
  have hown := h.ownR
  rw [e] at hown
  refine ⟨_, cap, ts, e, rfl, RRow.of_wcells (own_wcells hown) (Nat.zero_le _) (own_wcells hown).1, fun s hs' => (h.rows s hs').wide (Nat.zero_le _) h.size⟩
/-- Step by step: the places that are there. -/
theorem pick_yes {s : Int} {H : List Bool} {i : Nat} (h : H.getD i false = true) (hl : (thereI H i).length < schK s) : pickI s H (i + 1) = pickI s H i ++ [i] ∧ pickI s H i = thereI H i := by
  unfold pickI
  rw [thereI_succ, if_pos h, List.take_of_length_le (by simp; omega), List.take_of_length_le (by omega)]
  exact ⟨rfl, rfl⟩
theorem pick_full {s : Int} {H : List Bool} {i : Nat} (hl : ¬ (thereI H i).length < schK s) : pickI s H (i + 1) = pickI s H i := by
  unfold pickI
  rw [thereI_succ, List.take_append_of_le_length (by omega)]
theorem pick_no {s : Int} {H : List Bool} {i : Nat} (h : ¬ H.getD i false = true) : pickI s H (i + 1) = pickI s H i ∧ thereI H (i + 1) = thereI H i := by
  have e : thereI H (i + 1) = thereI H i := by rw [thereI_succ, if_neg h, List.append_nil]
  unfold pickI
  rw [e]
  exact ⟨rfl, rfl⟩
theorem pick_len (s : Int) (H : List Bool) (i : Nat) : (pickI s H i).length = min (schK s) (thereI H i).length := by unfold pickI; rw [List.length_take]
/-- The size that is kept on the way. -/
def SizeAt (L : List ByteArray) (H : List Bool) (i : Nat) (z : Int) : Prop := (thereI H i = [] ∧ z = -1) ∨ ((thereI H i ≠ []) ∧ 0 ≤ z ∧ ∀ j ∈ thereI H i, ((L.getD j ⟨#[]⟩).size : Int) = z)
theorem SizeAt.one {L : List ByteArray} {H : List Bool} {i : Nat} {z : Int} (h : SizeAt L H i z) : OneLen L H i := by
  intro a ha b hb
  rcases h with ⟨e, _⟩ | ⟨_, _, h⟩
  · rw [e] at ha; simp at ha
  · have h1 := h a ha
    have h2 := h b hb
    omega
theorem SizeAt.next {L : List ByteArray} {H : List Bool} {i : Nat} {z : Int} (h : SizeAt L H i z) (hh : H.getD i false = true) (hz : 0 ≤ z → ((L.getD i ⟨#[]⟩).size : Int) = z) : SizeAt L H (i + 1) ((L.getD i ⟨#[]⟩).size : Int) := by
  right
  rw [thereI_succ, if_pos hh]
  refine ⟨by simp, by omega, fun j hj => ?_⟩
  rcases List.mem_append.1 hj with q | q
  · rcases h with ⟨e, _⟩ | ⟨_, h0, h⟩
    · rw [e] at q; simp at q
    · rw [h j q, hz h0]
  · simp at q; subst q; rfl
theorem SizeAt.skip {L : List ByteArray} {H : List Bool} {i : Nat} {z : Int} (h : SizeAt L H i z) (hh : ¬ H.getD i false = true) : SizeAt L H (i + 1) z := by
  have e : thereI H (i + 1) = thereI H i := by rw [thereI_succ, if_neg hh, List.append_nil]
  unfold SizeAt
  rw [e]
  exact h
theorem SizeAt.bad {L : List ByteArray} {H : List Bool} {i n : Nat} {z : Int} (h : SizeAt L H i z) (hh : H.getD i false = true) (h0 : 0 ≤ z) (hz : ((L.getD i ⟨#[]⟩).size : Int) ≠ z) (hi : i < n) : ¬ OneLen L H n := by
  intro ho
  rcases h with ⟨_, e⟩ | ⟨hne, _, h⟩
  · omega
  · obtain ⟨j, r, hj⟩ := List.exists_cons_of_ne_nil hne
    have hjm : j ∈ thereI H i := by rw [hj]; simp
    obtain ⟨q1, q2⟩ := thereI_mem.1 hjm
    have := ho j (thereI_mem.2 ⟨by omega, q2⟩) i (thereI_mem.2 ⟨hi, hh⟩)
    have h2 := h j hjm
    omega
end Go.Proofs.Ytdlgailodhlbmaa
/- Fits: Rows that are answered are rows that a machine can hold. -/
namespace Go.Proofs.Ytdlgailodhlbmaa
open Go.RowKit
open W (B8 Mx)
attribute [local irreducible] W.gm W.xs W.mm W.gi mx mulX invX oneX matOk xsum

theorem fit_one (x : Int) : MFit (oneX x) := by
  unfold oneX
  split
  · refine fit_square (n := 8) (m := 8) (by simp; omega) (fun y hy => ?_) (by omega)
    obtain ⟨i, _, rfl⟩ := List.mem_map.1 hy
    rw [oneRow_len]; omega
  · unfold MFit; simp [xsum]
theorem fit_mul (X Y : List (List Int)) : MFit (mulX X Y) := by
  by_cases h : matOk X = true ∧ matOk Y = true ∧ colsOf X = Y.length
  · unfold mulX
    rw [if_pos h]
    obtain ⟨⟨_, h1⟩, _, _⟩ := matOk_iff h.1
    obtain ⟨_, ⟨_, h2⟩, _⟩ := matOk_iff h.2.1
    refine fit_square (n := 8) (m := 8) (by simp [rowsX]; exact h1) (fun y hy => ?_) (by omega)
    obtain ⟨i, _, rfl⟩ := List.mem_map.1 hy
    simpa using h2
  · rw [mulX_no h]; unfold MFit; simp [xsum]
theorem fit_inv (X : List (List Int)) : MFit (invX X).1 := by
  by_cases h : ∃ Y, IsInv X Y
  · obtain ⟨Y, h⟩ := h
    rw [invX_yes h]
    obtain ⟨⟨_, h1⟩, _, _⟩ := matOk_iff h.1
    exact fit_square (n := 8) (m := 8) (by rw [h.2.2.1.len]; exact h1) (fun y hy => by rw [(h.2.2.1.row y hy).1]; exact h1) (by omega)
  · rw [invX_no h]; unfold MFit; simp [xsum]
end Go.Proofs.Ytdlgailodhlbmaa
/- CodE: The walks of the models' Decode and Rebuild. -/
namespace Go.Proofs.Ytdlgailodhlbmaa
open Go.RowKit
open W (B8 Mx)
attribute [local go_sem ↓] Go.wp_at_zero Go.wp_at_succ
attribute [local irreducible] W.gm W.xs W.mm W.gi mx matOk addB mulT appX codeX invX decX

theorem own_slice {w : World} {B n sz : Nat} {t : TypeId} {v : Value} {L : List Value} (h : w.ownsRow B t sz v n L) : ∃ a cap, v = .slice a n cap := by
  rcases h.2 with ⟨e, h0⟩ | ⟨g, cap, _, rfl, _, _, _, _⟩
  · exact ⟨none, 0, by rw [e, h0]⟩
  · exact ⟨_, cap, rfl⟩
theorem rowsP_snoc (s : Int) (I : List Nat) (i : Nat) : rowsP s (I ++ [i]) = rowsP s I ++ [(codeX s).getD i []] := by simp [rowsP]
theorem unitsP_snoc (L : List ByteArray) (I : List Nat) (i : Nat) : unitsP L (I ++ [i]) = unitsP L I ++ [L.getD i ⟨#[]⟩] := by simp [unitsP]
theorem rowsP_len (s : Int) (I : List Nat) : (rowsP s I).length = I.length := by simp [rowsP]
theorem unitsP_len (L : List ByteArray) (I : List Nat) : (unitsP L I).length = I.length := by simp [unitsP]
theorem rowsP_fit {s : Int} (h : schOk s = true) {I : List Nat} (hI : I.length ≤ 8) (hm : ∀ i ∈ I, i < schK s + schM s) : MFit (rowsP s I) := by
  obtain ⟨b1, b2, b3, b4⟩ := sch_bounds h
  have h2 := xsum_le (X := rowsP s I) (m := 4) (fun x hx => by
    obtain ⟨i, hi, rfl⟩ := List.mem_map.1 hx
    have := (codeX_at h (hm i hi)).1
    omega)
  unfold MFit
  rw [rowsP_len] at *
  omega
theorem pick_mem {s : Int} {H : List Bool} {n i : Nat} (h : i ∈ pickI s H n) : i < n ∧ H.getD i false = true := thereI_mem.1 (List.mem_of_mem_take h)
theorem units_fit {L : List ByteArray} (hf : TFit L) {s : Int} {H : List Bool} {n : Nat} (hn : n ≤ L.length) (h8 : n ≤ 8) : (unitsP L (pickI s H n)).length ≤ 8 ∧ ∀ x ∈ unitsP L (pickI s H n), x.size ≤ 1048576 := by
  refine ⟨?_, fun x hx => ?_⟩
  · rw [unitsP_len, pick_len]
    have : (thereI H n).length ≤ n := by unfold thereI; have := List.length_filter_le (fun i => H.getD i false) (List.range n); simpa using this
    omega
  · obtain ⟨i, hi, rfl⟩ := List.mem_map.1 hx
    have hi' : i < L.length := by have := (pick_mem hi).1; omega
    have := tsum_mem (L := L) (x := L.getD i ⟨#[]⟩) (by simp [List.getD, hi'])
    unfold TFit at hf; omega
/-- Units that were picked are no more than all. -/
theorem tsum_sub {L M : List ByteArray} (h : M.Sublist L) : tsum M ≤ tsum L := by
  induction h with
  | slnil => exact Nat.le_refl _
  | cons a _ ih => simp only [tsum]; omega
  | cons_cons a _ ih => simp only [tsum]; omega
theorem units_sub (L : List ByteArray) {I : List Nat} (h : I.Sublist (List.range L.length)) : (unitsP L I).Sublist L := by
  have : (List.range L.length).map (fun i => L.getD i ⟨#[]⟩) = L := by
    apply List.ext_getElem (by simp)
    intro i h1 h2
    simp [List.getD, h2]
  have h2 := h.map (fun i => L.getD i ⟨#[]⟩)
  rw [this] at h2
  exact h2
theorem pick_sub (s : Int) (H : List Bool) (n : Nat) : (pickI s H n).Sublist (List.range n) := (List.take_sublist _ _).trans List.filter_sublist
theorem units_tfit {L : List ByteArray} (hf : TFit L) (s : Int) (H : List Bool) : TFit (unitsP L (pickI s H L.length)) := by
  have h1 := units_sub L (pick_sub s H L.length)
  have h2 := tsum_sub h1
  have h3 := h1.length_le
  unfold TFit at *
  omega
set_option maxRecDepth 100000 in
set_option maxHeartbeats 8000000 in
theorem specDecode_walk (s : Int) (L : List ByteArray) (H : List Bool) (k m n b2 o2 cap2 b3 o3 cap3 : Nat) (w : World) (hs : schOk s = true) (hk : schK s = k) (hm : schM s = m) (hn : n = k + m) (hl : L.length = n) (hh : H.length = n)
    (hU : b2 < w.heap.size ∧ ∀ j, j < n → w.cell? ⟨b2, o2 + j, none⟩ = some (.string (L.getD j ⟨#[]⟩))) (hV : b3 < w.heap.size ∧ ∀ j, j < n → w.cell? ⟨b3, o3 + j, none⟩ = some (.bool (H.getD j false))) (hf : TFit L) :
    Calls Try.prog 33 #[.int .i64 s, .slice (some ⟨b2, o2, none⟩) n cap2, .slice (some ⟨b3, o3, none⟩) n cap3] w fun e w' => TPost (decX s L H) w e w' := by
  obtain ⟨i0, hi0, hz0, hz1, hz2⟩ := info_parts infoTextG
  obtain ⟨i1, hi1, hy0, hy1, hy2⟩ := info_parts infoRow
  obtain ⟨c1, c2, c3, c4⟩ := sch_bounds hs
  rw [hk] at c1 c2
  rw [hm] at c3 c4
  have HS := Shut.mk (fun W => specSchema s W)
  unfold SchPost at HS
  rw [hs, hk, hm] at HS
  have HU := Shut.mk hU
  have HV := Shut.mk hV
  have HL := Shut.mk (And.intro hl hh)
  have HOK := Shut.mk (And.intro hs (And.intro hk hm))
  have HF := Shut.mk hf
  have HNN : Hid (n = k + m) := hn
  have hnk : ((n : Int) != (k : Int) + (m : Int)) = false := by rw [hn]; push_cast; simp
  have hni : (k : Int) + (m : Int) = (n : Int) := by omega
  have hn6 : n ≤ 6 := by omega
  have hn3 : 3 ≤ n := by omega
  have hkn : k ≤ n := by omega
  have HAL := Shut.mk (show Below w.heap.size w ((w.alloc (.cells #[] 32)).alloc (.cells #[] 9)) from ((Below.refl _ _).alloc (Nat.le_refl _) _).alloc (by simp) _)
  have HOR := Shut.mk ((World.ownsRow_made (base := w.heap.size) (e := 32) (size := 1) w #[] 0 (Nat.le_refl _) (by decide) rfl).alloc (.cells #[] 9))
  have HOU := Shut.mk (World.ownsRow_made (base := w.heap.size) (e := 9) (size := 1) (w.alloc (.cells #[] 32)) #[] 0 (by simp) (by decide) rfl)
  have HCO := Shut.mk (fun W => specCodeOf s W)
  clear hU hV hl hh hf hs hk hm hn
  go_enter Try.func33, Try.ntmps33
  go_wp2_with fail
  refine (HS.out _).mono ?_
  rintro e w0 ⟨rfl, rfl⟩
  go_wp2_with fail
  refine (HCO.out _).mono ?_
  rintro e wc ⟨vc, rfl, hac, hbc⟩
  have hcl : (codeX s).length = n := by rw [codeX_len HOK.out.1, HOK.out.2.1, HOK.out.2.2]; exact HNN.out.symm
  obtain ⟨ac, capc, css, rfl, hrc, hcc, qc⟩ := hac
  have hls : css.length = n := by rw [← rws_len, hrc, hcl]
  obtain ⟨gc, rfl, hmc⟩ : ∃ gc, ac = some ⟨gc, 0, none⟩ ∧ MW wc gc css ((w0.alloc (.cells #[] 32)).alloc (.cells #[] 9)).heap.size wc.heap.size := by
    rcases qc with rfl | qc
    · simp at hls; omega
    · exact qc
  have hS2 : ((w0.alloc (.cells #[] 32)).alloc (.cells #[] 9)).heap.size = w0.heap.size + 2 := by simp
  have hgn : ∀ r, ((w0.alloc (.cells #[] 32)).alloc (.cells #[] 9)).grownBy wc r := fun r => ⟨hbc.os, hbc.tape, hbc.output, hbc.size, fun k hk _ => hbc.block k hk⟩
  have hcs := hbc.size
  rw [hS2] at hmc hcs
  have HD0 : Shut (DecS wc.heap.size w0 wc gc css (.slice (some ⟨w0.heap.size, 0, none⟩) 0 0) (.slice (some ⟨w0.heap.size + 1, 0, none⟩) 0 0) [] []) := ⟨by
    refine ⟨HOR.out.kept (hgn none) (Classical.em _), ?_, fun q hq => ?_, fun q hq => ?_, fun q hq hq2 => ?_, by simp, hmc.mr, HAL.out.trans (hbc.mono (by simp; omega)), Nat.le_refl _⟩
    · have := HOU.out.kept (hgn none) (Classical.em _)
      simpa [tv] using this
    · simp [Value.ownBlock] at hq; omega
    · simp [Value.ownBlock] at hq; omega
    · simp [Value.ownBlock] at hq hq2; omega⟩
  have HRC := Shut.mk hrc
  have HLS : Hid (css.length = n) := hls
  rw [hls]
  have HBC := Shut.mk (HAL.out.trans (hbc.mono (by simp; omega)))
  clear qc hmc hrc hls hcl hgn hbc hcc HOR HOU HAL HCO hS2
  go_wp2_with fail
  go_loopw [11, 12, 13, 15] (fun vr vu zz ii wr => ∃ (i : Nat) (z : Int) (ts : List SR) (vr' vu' : Value), vr' = vr ∧ vu' = vu ∧ zz = .int .i64 z ∧ ii = .int .i64 (i : Nat) ∧ i ≤ n ∧ (-1 ≤ z ∧ z ≤ 1048576) ∧ ts.length = (pickI s H i).length ∧ Shut (rws ts = rowsP s (pickI s H i)) ∧ Shut (SizeAt L H i z) ∧ Shut (DecS wc.heap.size w0 wr gc css vr' vu' ts (unitsP L (pickI s H i)))) (fun _ _ _ ii _ => n - (intOf ii).toNat)
  case atStart => exact ⟨0, -1, [], _, _, rfl, rfl, rfl, rfl, Nat.zero_le _, ⟨by omega, by omega⟩, by simp [pickI, thereI], ⟨by simp [rws, rowsP, pickI, thereI]⟩, ⟨.inl ⟨by simp [thereI], rfl⟩⟩, ⟨by have := HD0.out; simpa [unitsP, pickI, thereI] using this⟩⟩
  case round =>
    clear HD0
    obtain ⟨i, z, ts, vr, vu, rfl, rfl, rfl, rfl, hin, hzb, htl, hrw, hsz, hD⟩ := hrel
    obtain ⟨wo, rfl⟩ : ∃ wo, wo = wr := ⟨_, rfl⟩
    obtain ⟨ar, cr, rfl⟩ := own_slice hD.out.ownR
    have htk : ts.length = min k (thereI H i).length := by rw [htl, pick_len, HOK.out.2.1]
    obtain ⟨tl, htl'⟩ : ∃ tl, tl = ts.length := ⟨_, rfl⟩
    have HTL : Hid (tl = ts.length) := htl'
    have htk' : tl = min k (thereI H i).length := by rw [htl', htk]
    rw [← htl']
    by_cases hlt : i < n
    · have hlt' : (i : Int) < (n : Int) := by omega
      have i0' : (0 : Int) ≤ (i : Int) := by omega
      have hso := hD.out.bel.size
      have d3 := (hD.out.bel.cell (p := ⟨b3, o3 + i, none⟩) HV.out.1).trans (HV.out.2 i hlt)
      have d2 := (hD.out.bel.cell (p := ⟨b2, o2 + i, none⟩) HU.out.1).trans (HU.out.2 i hlt)
      by_cases hhi : H.getD i false = true
      · rw [hhi] at d3
        have hil : i < L.length := by rw [HL.out.1]; exact hlt
        have hxz : (L.getD i ⟨#[]⟩).size ≤ 1048576 := by
          have := tsum_mem (L := L) (x := L.getD i ⟨#[]⟩) (by simp [List.getD, hil])
          have := HF.out
          unfold TFit at this; omega
        by_cases hbad : 0 ≤ z ∧ ((L.getD i ⟨#[]⟩).size : Int) ≠ z
        · have HNO := Shut.mk (decX_no (s := s) (L := L) (H := H) (fun h => (hsz.out.bad hhi hbad.1 hbad.2 (by rw [HL.out.2]; exact hlt)) h.1.2.2.2.1))
          have HB := Shut.mk hD.out.bel
          have hz0' : (0 : Int) ≤ z := hbad.1
          have hne : (((L.getD i ⟨#[]⟩).size : Int) != z) = true := by rw [bne_iff_ne]; exact hbad.2
          generalize L.getD i ⟨#[]⟩ = x at *
          clear hbad hhi hsz hD htk htk' htl htl' hrw
          go_wp2_with fail
          go_ret2
          exact tpost_no HNO.out rfl (HB.out.alloc HB.out.size _)
        · have HSZ := Shut.mk (hsz.out.next hhi (fun h0 => by
            by_cases e : ((L.getD i ⟨#[]⟩).size : Int) = z
            · exact e
            · exact absurd ⟨h0, e⟩ hbad))
          have hzz : (0 ≤ z ∧ (((L.getD i ⟨#[]⟩).size : Int) != z) = false) ∨ ¬ (0 : Int) ≤ z := by
            by_cases h0 : 0 ≤ z
            · have : ((L.getD i ⟨#[]⟩).size : Int) = z := by
                by_cases e : ((L.getD i ⟨#[]⟩).size : Int) = z
                · exact e
                · exact absurd ⟨h0, e⟩ hbad
              exact .inl ⟨h0, by rw [this]; simp⟩
            · exact .inr h0
          by_cases hful : (thereI H i).length < k
          · obtain ⟨p1, p2⟩ := pick_yes (s := s) hhi (by rw [HOK.out.2.1]; exact hful)
            have htlk : tl = (thereI H i).length := by omega
            have htk3 : (tl : Int) < (k : Int) := by omega
            have his : i < css.length := by rw [HLS.out]; exact hlt
            have hc4 := (hD.out.code.at (by omega))
            obtain ⟨bc, oc, ec, lbc, hcc⟩ := hc4
            obtain ⟨rfl, rfl⟩ : bc = gc ∧ oc = 0 := by simp at ec; exact ⟨ec.1.symm, ec.2.symm⟩
            have d4 := hcc i his
            rw [Nat.zero_add] at d4
            have hcr := hD.out.code.2 css[i] (List.getElem_mem his)
            have hrow : css[i].row = (codeX s).getD i [] := by
              have e1 := rws_get css i his
              rw [← e1]
              simp only [HRC.out]
              have : i < (codeX s).length := by rw [← HRC.out, rws_len]; exact his
              simp [List.getD, this]
            obtain ⟨s0, hs0⟩ : ∃ s0, s0 = css[i] := ⟨_, rfl⟩
            rw [← hs0] at d4 hcr hrow
            unfold srv at d4
            have HS0 := Shut.mk (And.intro hcr hrow)
            have HP := Shut.mk (And.intro p1 p2)
            rw [← htl'] at hD
            have hownR := hD.out.ownR
            rw [← htl'] at hownR
            obtain ⟨L0, hL0⟩ : ∃ l, l = s0.loc := ⟨_, rfl⟩
            obtain ⟨N0, hN0⟩ : ∃ l, l = s0.row.length := ⟨_, rfl⟩
            obtain ⟨C0, hC0⟩ : ∃ l, l = s0.cap := ⟨_, rfl⟩
            rw [← hL0, ← hN0, ← hC0] at d4
            have HS1 : Shut (srv s0 = .slice L0 N0 C0) := ⟨by unfold srv; rw [hL0, hN0, hC0]⟩
            have HTLE : Hid (tl = ts.length) := htl'
            have HHI := Shut.mk (And.intro htl hrw.out)
            have HX := Shut.mk hxz
            obtain ⟨x, hx⟩ : ∃ x, x = L.getD i ⟨#[]⟩ := ⟨_, rfl⟩
            rw [← hx] at d2 hzz hxz
            have HXX : Hid (x = L.getD i ⟨#[]⟩) := hx
            clear hbad hhi hsz htk htk' htl htl' hrw hcr hrow hs0 hcc p1 p2 hx hL0 hN0 hC0 HX ec htlk hful
            rcases hzz with ⟨h0, hne⟩ | h0
            all_goals
              go_wp2_with (at_builtin; refine wpList_append_lies _ rfl _ _ 36 rfl w0.heap.size 32 i1 (.slice none 0 0) 1 24 Try.underlying36 hi1 hy0 hy1 hy2 rfl (by decide) _ _ _ rfl (hownR.alloc _) ⟨wo.heap.size, 0, none⟩ 1 1 [.slice L0 N0 C0] rfl rfl (cell_one_new _ _ _) ?c2 (by decide) ?c3 ?c4 ?c5 (wo.heap.size + 1) (by simp) ?_)
              case c2 => first | rfl | (intro u hu; simp at hu; subst hu; rfl)
              case c3 => unfold maxLen; omega
              case c4 => omega
              case c5 => first | omega | (simp; omega)
              intro g6 cap6 w6 hown6 hgrow6 hat6 _
              have hd6 := hD.out.addRow (s0 := s0) HS0.out.1 (by rw [← HTLE.out, HS1.out]; exact hown6) hgrow6 hat6
              rw [← HTLE.out] at hd6
              have HD6 := Shut.mk hd6
              have d5 := (hd6.bel.cell (p := ⟨b2, o2 + i, none⟩) HU.out.1).trans (HU.out.2 i hlt)
              rw [← HXX.out] at d5
              have hownU := hd6.ownU
              have hso6 := hd6.bel.size
              have hul : (unitsP L (pickI s H i)).length = tl := by rw [unitsP_len, ← HHI.out.1, HTLE.out]
              rw [hul] at hownU
              have HUL : Hid ((unitsP L (pickI s H i)).length = tl) := hul
              clear hown6 hgrow6 hat6 hd6 d4 hul
              go_wp2_with (at_builtin; refine wpList_append_lies _ rfl _ _ 24 rfl w0.heap.size 9 i0 (.string ⟨#[]⟩) 1 16 Try.underlying24 hi0 hz0 hz1 hz2 rfl (by decide) _ _ _ rfl (hownU.alloc _) ⟨w6.heap.size, 0, none⟩ 1 1 [.string x] rfl rfl (cell_one_new _ _ _) ?c2 (by decide) ?c3 ?c4 ?c5 (w6.heap.size + 1) (by simp) ?_)
              case c2 => first | rfl | (intro u hu; simp at hu; subst hu; rfl)
              case c3 => unfold maxLen; omega
              case c4 => omega
              case c5 => first | omega | (simp; omega)
              intro g7 cap7 w7 hown7 hgrow7 hat7 _
              have hd7 := HD6.out.addUnit (x := x) (by rw [HUL.out]; exact hown7) hgrow7 hat7
              rw [HXX.out, ← unitsP_snoc, ← HP.out.1, HUL.out] at hd7
              have HD7 := Shut.mk hd7
              have HR7 : Shut (rws (ts ++ [s0]) = rowsP s (pickI s H (i + 1))) := ⟨by rw [rws_snoc, HHI.out.2, HP.out.1, rowsP_snoc, HS0.out.2]⟩
              have HT7 : Hid ((ts ++ [s0]).length = (pickI s H (i + 1)).length) := by rw [HP.out.1, List.length_append, List.length_append, HHI.out.1]; rfl
              clear hown7 hgrow7 hat7 hd7 HD6 d5 hownU hownR
              go_wp2_with fail
              go_roundw
              case rel => exact ⟨i + 1, _, ts ++ [s0], _, _, rfl, rfl, rfl, by go_num, by omega, ⟨by omega, by omega⟩, HT7.out, HR7, by rw [HXX.out]; exact HSZ, HD7⟩
              case measure => simp [intOf]; omega
          · have p1 := pick_full (s := s) (H := H) (i := i) (by rw [HOK.out.2.1]; exact hful)
            have htk3 : ¬ (tl : Int) < (k : Int) := by omega
            have HTS : Hid (ts.length = (pickI s H (i + 1)).length) := by rw [p1]; exact htl
            have HRW : Shut (rws ts = rowsP s (pickI s H (i + 1))) := by rw [p1]; exact hrw
            have HDD : Shut (DecS wc.heap.size w0 wo gc css (.slice ar ts.length cr) vu ts (unitsP L (pickI s H (i + 1)))) := by rw [p1]; exact hD
            rw [← htl'] at HDD
            obtain ⟨x, hx⟩ : ∃ x, x = L.getD i ⟨#[]⟩ := ⟨_, rfl⟩
            rw [← hx] at d2 hzz hxz HSZ
            clear hbad hhi hsz hD htk htk' htl htl' hrw p1 hx hful
            rcases hzz with ⟨h0, hne⟩ | h0
            all_goals
              go_wp2_with fail
              go_roundw
              case rel => exact ⟨i + 1, _, ts, _, _, rfl, rfl, rfl, by go_num, by omega, ⟨by omega, by omega⟩, HTS.out, HRW, HSZ, HDD⟩
              case measure => simp [intOf]; omega
      · have hhf : H.getD i false = false := by simpa using hhi
        rw [hhf] at d3
        obtain ⟨p1, p2⟩ := pick_no (s := s) hhi
        have HSZ := Shut.mk (hsz.out.skip hhi)
        have HTS : Hid (ts.length = (pickI s H (i + 1)).length) := by rw [p1]; exact htl
        have HRW : Shut (rws ts = rowsP s (pickI s H (i + 1))) := by rw [p1]; exact hrw
        have HDD : Shut (DecS wc.heap.size w0 wo gc css (.slice ar ts.length cr) vu ts (unitsP L (pickI s H (i + 1)))) := by rw [p1]; exact hD
        rw [← htl'] at HDD
        clear hhi hhf p1 p2 hsz hD htk htk' htl htl' hrw d2
        go_wp2_with fail
        go_roundw
        case rel => exact ⟨i + 1, z, ts, _, _, rfl, rfl, rfl, by go_num, by omega, hzb, HTS.out, HRW, HSZ, HDD⟩
        case measure => simp [intOf]; omega
    · have e : i = n := by omega
      subst e
      have hlt' : ¬ (i : Int) < (i : Int) := by omega
      have hso := hD.out.bel.size
      by_cases hen : tl < k
      · have hen' : (tl : Int) < (k : Int) := by omega
        have HNO := Shut.mk (decX_no (s := s) (L := L) (H := H) (fun h => by
          have := h.1.2.2.2.2
          rw [HL.out.2, HOK.out.2.1] at this
          omega))
        have HB := Shut.mk hD.out.bel
        clear hsz hD htk htk' htl htl' hrw
        go_wp2_with fail
        go_ret2
        exact tpost_no HNO.out rfl (HB.out.alloc HB.out.size _)
      · have hen' : ¬ (tl : Int) < (k : Int) := by omega
        have HDOK : Shut (DecOk s L H) := ⟨⟨HOK.out.1, by rw [HOK.out.2.1, HOK.out.2.2, HL.out.1]; exact HNN.out, by rw [HOK.out.2.1, HOK.out.2.2, HL.out.2]; exact HNN.out, by rw [HL.out.2]; exact hsz.out.one, by rw [HL.out.2, HOK.out.2.1]; omega⟩⟩
        have hsee := hD.out.see (by omega)
        rw [hrw.out, ← htl'] at hsee
        have hIl : (pickI s H i).length ≤ 8 := by rw [← htl]; omega
        have hfit : MFit (rowsP s (pickI s H i)) := rowsP_fit HOK.out.1 hIl (fun j hj => by have := (pick_mem hj).1; rw [HOK.out.2.1, HOK.out.2.2, ← HNN.out]; exact this)
        have HINV := Shut.mk (specInvM hsee hfit)
        have HSA := Shut.mk (own_sans (w := w0) rfl hD.out.ownU)
        have hTF := units_tfit HF.out s H
        rw [HL.out.1] at hTF
        have HTF := Shut.mk hTF
        have HB := Shut.mk hD.out.bel
        have HDEC := Shut.mk (fun hb => decX_yes (s := s) (L := L) (H := H) HDOK.out hb)
        have HDNO := Shut.mk (fun hb => decX_no (s := s) (L := L) (H := H) hb)
        rw [HL.out.2] at HDEC HDNO
        generalize rowsP s (pickI s H i) = R at *
        clear hsz hD htk htk' htl htl' hrw hsee hfit hTF hIl
        go_wp2_with fail
        refine HINV.out.mono ?_
        rintro e w8 ⟨v8, rfl, ha8, hb8⟩
        have HB8 := Shut.mk (HB.out.trans (hb8.mono HB.out.size))
        cases hb : (invX R).2 with
        | false =>
          have HNO := Shut.mk (HDNO.out (fun h => by rw [hb] at h; cases h.2))
          clear ha8 hb8 HINV HDEC HDNO hb
          go_wp2_with fail
          go_ret2
          exact tpost_no HNO.out rfl (HB8.out.alloc HB8.out.size _)
        | true =>
          have HYES := Shut.mk (HDEC.out hb)
          have HAP := Shut.mk (specApplyM ha8.see (HSA.out.see.below hb8) (fit_inv R) HTF.out)
          clear ha8 hb8 HINV HDEC HDNO hb
          go_wp2_with fail
          refine HAP.out.mono ?_
          rintro e w9 ⟨v9, rfl, ha9, hb9⟩
          have HR := Shut.mk (show TPost (decX s L H) w0 (.returned (.tuple #[v9, .bool true])) w9 from ⟨v9, by rw [HYES.out], by rw [HYES.out]; exact ha9.broad HB8.out.size (Nat.le_refl _), HB8.out.trans (hb9.mono HB8.out.size)⟩)
          clear ha9 hb9 HAP
          go_wp2_with fail
          go_ret2
          exact HR.out
/-- Decode's model, at every argument. -/
theorem specDecode {w : World} {u v : Value} {L : List ByteArray} {H : List Bool} {lo hi lo' hi' : Nat} (s : Int) (hu : SSee w u L lo hi) (hv : BSee w v H lo' hi') (hf : TFit L) (hh : H.length ≤ 1048576) : Calls Try.prog 33 #[.int .i64 s, u, v] w fun e w' => TPost (decX s L H) w e w' := by
  obtain ⟨a2, cap2, rfl, hm2⟩ := hu
  obtain ⟨a3, cap3, rfl, hm3⟩ := hv
  have hlf : L.length ≤ 1048576 := by unfold TFit at hf; omega
  have HS := Shut.mk (fun W => specSchema s W)
  unfold SchPost at HS
  cases h : schOk s with
  | false =>
    have HNO := Shut.mk (decX_no (s := s) (L := L) (H := H) (fun q => by have := q.1.1; rw [h] at this; cases this))
    rw [h] at HS
    clear h hm2 hm3 hf
    generalize schK s = k at *
    generalize schM s = m at *
    go_enter Try.func33, Try.ntmps33
    go_wp2_with fail
    refine (HS.out _).mono ?_
    rintro e w0 ⟨rfl, rfl⟩
    go_wp2_with fail
    go_ret2
    exact tpost_no HNO.out rfl ((Below.refl _ _).alloc (Nat.le_refl _) _)
  | true =>
    obtain ⟨b1, b2, b3, b4⟩ := sch_bounds h
    by_cases hl : L.length = schK s + schM s
    · by_cases hl2 : H.length = schK s + schM s
      · obtain ⟨b, off, rfl, lb, hc⟩ := units_in hm2 (by omega)
        obtain ⟨b', off', rfl, lb', hc'⟩ := crow_bool hm3.crow (by omega)
        rw [hl, hl2]
        exact specDecode_walk s L H (schK s) (schM s) (schK s + schM s) b off cap2 b' off' cap3 w h rfl rfl rfl hl hl2 ⟨lb, fun j hj => hc j (by omega)⟩ ⟨lb', fun j hj => hc' j (by omega)⟩ hf
      · have HNO := Shut.mk (decX_no (s := s) (L := L) (H := H) (fun q => hl2 q.1.2.2.1))
        have hne : ((L.length : Int) != (schK s : Int) + (schM s : Int)) = false := by rw [hl]; push_cast; simp
        have hne2 : ((H.length : Int) != (schK s : Int) + (schM s : Int)) = true := by rw [bne_iff_ne]; omega
        rw [h] at HS
        generalize schK s = k at *
        generalize schM s = m at *
        clear h hm2 hm3 hf hl hl2
        go_enter Try.func33, Try.ntmps33
        go_wp2_with fail
        refine (HS.out _).mono ?_
        rintro e w0 ⟨rfl, rfl⟩
        go_wp2_with fail
        go_ret2
        exact tpost_no HNO.out rfl ((Below.refl _ _).alloc (Nat.le_refl _) _)
    · have HNO := Shut.mk (decX_no (s := s) (L := L) (H := H) (fun q => hl q.1.2.1))
      have hne : ((L.length : Int) != (schK s : Int) + (schM s : Int)) = true := by rw [bne_iff_ne]; omega
      rw [h] at HS
      generalize schK s = k at *
      generalize schM s = m at *
      clear h hm2 hm3 hf hl
      go_enter Try.func33, Try.ntmps33
      go_wp2_with fail
      refine (HS.out _).mono ?_
      rintro e w0 ⟨rfl, rfl⟩
      go_wp2_with fail
      go_ret2
      exact tpost_no HNO.out rfl ((Below.refl _ _).alloc (Nat.le_refl _) _)
end Go.Proofs.Ytdlgailodhlbmaa
/- CodF: The walk of the model's Rebuild. -/
namespace Go.Proofs.Ytdlgailodhlbmaa
open Go.RowKit
open W (B8 Mx)
attribute [local go_sem ↓] Go.wp_at_zero Go.wp_at_succ
attribute [local irreducible] W.gm W.xs W.mm W.gi mx matOk addB mulT codeX

theorem invX_some {X : List (List Int)} (h : (invX X).2 = true) : ∃ Y, IsInv X Y ∧ invX X = (Y, true) := by
  by_cases q : ∃ Y, IsInv X Y
  · obtain ⟨Y, hY⟩ := q
    exact ⟨Y, hY, invX_yes hY⟩
  · rw [invX_no q] at h
    cases h
theorem tsum_same {L : List ByteArray} {z : Nat} (h : ∀ x ∈ L, x.size = z) : tsum L = L.length * z := by
  induction L with
  | nil => simp [tsum]
  | cons x L ih =>
    have h1 := h x (by simp)
    have h2 := ih (fun y hy => h y (by simp [hy]))
    simp only [tsum, List.length_cons]
    rw [Nat.add_mul, h2, h1]; omega
/-- What is decoded is no more than what was there. -/
theorem decX_fit {s : Int} {L : List ByteArray} {H : List Bool} (hf : TFit L) : TFit (decX s L H).1 := by
  by_cases h : DecOk s L H ∧ (invX (rowsP s (pickI s H H.length))).2 = true
  · rw [decX_yes h.1 h.2]
    obtain ⟨⟨h1, h2, h3, h4, h5⟩, h6⟩ := h
    obtain ⟨b1, b2, _, _⟩ := sch_bounds h1
    have hlh : H.length = L.length := by omega
    have hsub := units_sub L (pick_sub s H L.length)
    have hts := tsum_sub hsub
    have hln := hsub.length_le
    rw [hlh] at h4 h5 h6 ⊢
    have hpl : (pickI s H L.length).length = schK s := by rw [pick_len]; omega
    obtain ⟨j, r, hj⟩ := List.exists_cons_of_ne_nil (show pickI s H L.length ≠ [] from fun e => by rw [e] at hpl; simp at hpl; omega)
    have hall : ∀ x ∈ unitsP L (pickI s H L.length), x.size = (L.getD j ⟨#[]⟩).size := fun x hx => by
      obtain ⟨i, hi, rfl⟩ := List.mem_map.1 hx
      exact h4 i (List.mem_of_mem_take hi) j (List.mem_of_mem_take (by rw [show (thereI H L.length).take (schK s) = pickI s H L.length from rfl, hj]; simp))
    have e1 := tsum_same hall
    rw [unitsP_len, hpl] at e1
    rw [unitsP_len, hpl] at hln
    obtain ⟨Y, hY, e2⟩ := invX_some h6
    rw [e2]
    show TFit (appX Y (unitsP L (pickI s H L.length)))
    have hYl : Y.length = schK s := by rw [hY.2.2.1.len, rowsP_len, hpl]
    unfold appX
    split
    · have hb := tsum_all (L := Y.map fun row => accB row (unitsP L (pickI s H L.length)) (unitsP L (pickI s H L.length)).length) (m := (L.getD j ⟨#[]⟩).size) (fun x hx => by
        obtain ⟨row, _, rfl⟩ := List.mem_map.1 hx
        exact accB_size row _ (fun y hy => Nat.le_of_eq (hall y hy)) _)
      rw [List.length_map, hYl] at hb
      unfold TFit at *
      rw [List.length_map, hYl]
      omega
    · unfold TFit; simp [tsum]
  · rw [decX_no h]; unfold TFit; simp [tsum]
attribute [local irreducible] appX invX decX encX
set_option maxRecDepth 100000 in
set_option maxHeartbeats 1000000 in
theorem specRebuild {w : World} {u v : Value} {L : List ByteArray} {H : List Bool} {lo hi lo' hi' : Nat} (s : Int) (hu : SSee w u L lo hi) (hv : BSee w v H lo' hi') (hf : TFit L) (hh : H.length ≤ 1048576) : Calls Try.prog 37 #[.int .i64 s, u, v] w fun e w' => TPost (rebX s L H) w e w' := by
  have HD := Shut.mk (specDecode s hu hv hf hh)
  have HFD := Shut.mk (decX_fit (s := s) (H := H) hf)
  clear hu hv hf hh
  cases h : (decX s L H).2 with
  | false =>
    have HR : Shut (rebX s L H = ([], false)) := ⟨by unfold rebX; rw [if_neg (by rw [h]; decide)]⟩
    unfold TPost at HD
    rw [h] at HD
    clear h
    go_enter Try.func37, Try.ntmps37
    go_wp2_with fail
    refine HD.out.mono ?_
    rintro e w1 ⟨v1, rfl, ha1, hb1⟩
    have HB := Shut.mk hb1
    clear ha1 hb1
    go_wp2_with fail
    go_ret2
    exact tpost_no HR.out rfl (HB.out.alloc HB.out.size _)
  | true =>
    have HR : Shut (rebX s L H = encX s (decX s L H).1) := ⟨by unfold rebX; rw [if_pos h]⟩
    unfold TPost at HD
    rw [h] at HD
    clear h
    generalize (decX s L H).1 = D at *
    go_enter Try.func37, Try.ntmps37
    go_wp2_with fail
    refine HD.out.mono ?_
    rintro e w1 ⟨v1, rfl, ha1, hb1⟩
    have HB := Shut.mk hb1
    have HE := Shut.mk (specEncode s ha1.see HFD.out)
    clear ha1 hb1
    go_wp2_with fail
    refine HE.out.mono ?_
    rintro e w2 ⟨v2, rfl, ha2, hb2⟩
    have HP := Shut.mk (show TPost (rebX s L H) w (.returned (.tuple #[v2, .bool (encX s D).2])) w2 from ⟨v2, by rw [HR.out], by rw [HR.out]; exact ha2.broad HB.out.size (Nat.le_refl _), HB.out.trans (hb2.mono HB.out.size)⟩)
    generalize (encX s D).2 = b2 at *
    clear ha2 hb2 HE
    go_wp2_with fail
    go_ret2
    exact HP.out
end Go.Proofs.Ytdlgailodhlbmaa
/- LawDec: The walks of the exact laws over Decode and Rebuild, over what is told of the program's own functions at every argument (written by gen/mklawcode.py). -/
namespace Go.Proofs.Ytdlgailodhlbmaa
open Go.RowKit
open W (B8 Mx)
attribute [local irreducible] W.gm W.xs W.mm W.gi mx invX oneX matOk xsum appX tsum codeX encX decX rebX schK schM schOk

theorem decX_len (s : Int) (L : List ByteArray) (H : List Bool) : (decX s L H).1.length ≤ 8 := by
  by_cases h : DecOk s L H ∧ (invX (rowsP s (pickI s H H.length))).2 = true
  · rw [decX_yes h.1 h.2]; exact appX_len _ _
  · rw [decX_no h]; exact Nat.zero_le _
theorem rebX_len (s : Int) (L : List ByteArray) (H : List Bool) : (rebX s L H).1.length ≤ 8 := by
  unfold rebX
  split
  · exact encX_len _ _
  · exact Nat.zero_le _
set_option maxRecDepth 100000 in
set_option maxHeartbeats 4000000 in
theorem lawDecode (h : ∀ (w : World) (u v : Value) (L : List ByteArray) (H : List Bool) (lo hi lo' hi' : Nat) (s : Int), SSee w u L lo hi → BSee w v H lo' hi' → TFit L → H.length ≤ 1048576 → Calls Try.prog 17 #[.int .i64 s, u, v] w fun e w' => TPost (decX s L H) w e w') {w : World} {s : Int} {u : Value} {L : List ByteArray} (hu : SSee w u L 0 w.heap.size) (lL : L.length ≤ 9223372036854775807 ∧ ∀ x ∈ L, x.size ≤ 9223372036854775807) {v : Value} {H : List Bool} (hv : BSee w v H 0 w.heap.size) (lH : H.length ≤ 9223372036854775807) :
    Calls Try.prog 8 #[.int .i64 s, u, v] w fun e w' => e = .returned (.bool true) ∧ Below w.heap.size w w' := by
  have Fu := Shut.mk hu
  have HL := Shut.mk lL
  clear hu lL
  have Fv := Shut.mk hv
  have HH0 := Shut.mk lH
  clear hv lH
  have HB : Shut (Below w.heap.size w w) := ⟨Below.refl _ _⟩
  have HH := Shut.mk h
  clear h
  obtain ⟨a3, cap3, rfl, hm3⟩ := Fv.out
  have Fv0 := Shut.mk hm3
  clear hm3 Fv
  have hHl := HH0.out
  go_enter Try.func8, Try.ntmps8
  by_cases hbig : (1048576 : Int) < (H.length : Int)
  case pos =>
    go_wp2_with fail
    go_ret
    exact ⟨rfl, HB.out⟩
  have NH : H.length ≤ 1048576 := by omega
  have Fv : Shut (BSee w (.slice a3 H.length cap3) H 0 w.heap.size) := ⟨⟨a3, cap3, rfl, Fv0.out⟩⟩
  clear Fv0
  go_wp2_with fail
  refine (szStringS_val 1048576 Fu.out HL.out (by omega) (by omega)).mono ?_
  rintro e w1 ⟨r0, rfl, hw, q1, q2⟩
  obtain rfl : w = w1 := hw.symm
  clear hw
  by_cases hfit : ((L.length + tsum L : Nat) : Int) ≤ 1048576
  case neg =>
    have hneg : r0 < 0 := q2 (by omega)
    clear q1 q2
    go_wp2_with fail
    go_ret
    exact ⟨rfl, HB.out⟩
  have hr := q1 hfit
  have r0n : ¬ r0 < 0 := by omega
  have HFL : Shut (TFit L) := ⟨by unfold TFit; omega⟩
  have NL : L.length ≤ 1048576 := by omega
  clear q1 q2 hr hfit
  have HLR := decX_len s L H
  have HS := Shut.mk fun (w : World) (u v : Value) (lo hi lo' hi' : Nat) (hs : SSee w u L lo hi) (ht : BSee w v H lo' hi') => specDecode s hs ht HFL.out NH
  have HI := Shut.mk fun (w : World) (u v : Value) (lo hi lo' hi' : Nat) (hs : SSee w u L lo hi) (ht : BSee w v H lo' hi') => HH.out w u v L H lo hi lo' hi' s hs ht HFL.out NH
  obtain ⟨R, ok, hre⟩ : ∃ R ok, decX s L H = (R, ok) := ⟨_, _, rfl⟩
  rw [hre] at HLR HS HI
  replace HLR : R.length ≤ 8 := HLR
  have hoo : (ok != ok) = false := by cases ok <;> rfl
  clear HH hre
  go_wp2_with fail
  refine (toStringS_val Fu.out HFL.out).mono ?_
  rintro e w1 ⟨a1, rfl, hA, hb⟩
  have Fa1 := Shut.mk hA
  clear hA
  replace Fu := Shut.mk (Fu.out.below hb)
  replace Fv := Shut.mk (Fv.out.below hb)
  have z1 := hb.size
  replace HB := Shut.mk (HB.out.trans (hb.mono HB.out.size))
  clear hb
  go_wp2_with fail
  refine (toBoolS_val Fv.out NH).mono ?_
  rintro e w2 ⟨a2, rfl, hA, hb⟩
  have Fa2 := Shut.mk hA
  clear hA
  replace Fu := Shut.mk (Fu.out.below hb)
  replace Fv := Shut.mk (Fv.out.below hb)
  replace Fa1 := Shut.mk (Fa1.out.below hb)
  have z2 := hb.size
  replace HB := Shut.mk (HB.out.trans (hb.mono HB.out.size))
  clear hb
  go_wp2_with fail
  refine (HS.out _ _ _ _ _ _ _ Fa1.out.see Fa2.out.see).mono ?_
  rintro e w3 ⟨w0, rfl, hA, hb⟩
  have Fw0 := Shut.mk (show SAns w3 w0 R _ _ from hA)
  clear hA
  replace Fu := Shut.mk (Fu.out.below hb)
  replace Fv := Shut.mk (Fv.out.below hb)
  replace Fa1 := Shut.mk (Fa1.out.below hb)
  replace Fa2 := Shut.mk (Fa2.out.below hb)
  have z3 := hb.size
  replace HB := Shut.mk (HB.out.trans (hb.mono HB.out.size))
  clear hb
  clear Fa1
  clear Fa2
  go_wp2_with fail
  refine (toStringS_val Fu.out HFL.out).mono ?_
  rintro e w4 ⟨x1, rfl, hA, hb⟩
  have Fx1 := Shut.mk hA
  clear hA
  replace Fu := Shut.mk (Fu.out.below hb)
  replace Fv := Shut.mk (Fv.out.below hb)
  replace Fw0 := Shut.mk (Fw0.out.below hb)
  have z4 := hb.size
  replace HB := Shut.mk (HB.out.trans (hb.mono HB.out.size))
  clear hb
  go_wp2_with fail
  refine (toBoolS_val Fv.out NH).mono ?_
  rintro e w5 ⟨x2, rfl, hA, hb⟩
  have Fx2 := Shut.mk hA
  clear hA
  replace Fu := Shut.mk (Fu.out.below hb)
  replace Fv := Shut.mk (Fv.out.below hb)
  replace Fw0 := Shut.mk (Fw0.out.below hb)
  replace Fx1 := Shut.mk (Fx1.out.below hb)
  have z5 := hb.size
  replace HB := Shut.mk (HB.out.trans (hb.mono HB.out.size))
  clear hb
  go_wp2_with fail
  refine (HI.out _ _ _ _ _ _ _ Fx1.out.see Fx2.out.see).mono ?_
  rintro e w6 ⟨g0, rfl, hA, hb⟩
  have Fg0 := Shut.mk (show SAns w6 g0 R _ _ from hA)
  clear hA
  replace Fu := Shut.mk (Fu.out.below hb)
  replace Fv := Shut.mk (Fv.out.below hb)
  replace Fw0 := Shut.mk (Fw0.out.below hb)
  replace Fx1 := Shut.mk (Fx1.out.below hb)
  replace Fx2 := Shut.mk (Fx2.out.below hb)
  have z6 := hb.size
  replace HB := Shut.mk (HB.out.trans (hb.mono HB.out.size))
  clear hb
  go_wp2_with fail
  refine (eqStringS_val Fg0.out Fw0.out (by omega)).mono ?_
  rintro e w7 ⟨rfl, hb⟩
  replace Fu := Shut.mk (Fu.out.below hb)
  replace Fv := Shut.mk (Fv.out.below hb)
  replace Fw0 := Shut.mk (Fw0.out.below hb)
  replace Fx1 := Shut.mk (Fx1.out.below hb)
  replace Fx2 := Shut.mk (Fx2.out.below hb)
  replace Fg0 := Shut.mk (Fg0.out.below hb)
  have z7 := hb.size
  replace HB := Shut.mk (HB.out.trans (hb.mono HB.out.size))
  clear hb
  go_wp2_with fail
  refine (toStringS_val Fu.out HFL.out).mono ?_
  rintro e w8 ⟨a4, rfl, hA, hb⟩
  have Fa4 := Shut.mk hA
  clear hA
  replace Fu := Shut.mk (Fu.out.below hb)
  replace Fv := Shut.mk (Fv.out.below hb)
  replace Fw0 := Shut.mk (Fw0.out.below hb)
  replace Fx1 := Shut.mk (Fx1.out.below hb)
  replace Fx2 := Shut.mk (Fx2.out.below hb)
  replace Fg0 := Shut.mk (Fg0.out.below hb)
  have z8 := hb.size
  replace HB := Shut.mk (HB.out.trans (hb.mono HB.out.size))
  clear hb
  go_wp2_with fail
  refine (eqStringS_val Fx1.out Fa4.out (by omega)).mono ?_
  rintro e w9 ⟨rfl, hb⟩
  replace Fu := Shut.mk (Fu.out.below hb)
  replace Fv := Shut.mk (Fv.out.below hb)
  replace Fw0 := Shut.mk (Fw0.out.below hb)
  replace Fx1 := Shut.mk (Fx1.out.below hb)
  replace Fx2 := Shut.mk (Fx2.out.below hb)
  replace Fg0 := Shut.mk (Fg0.out.below hb)
  replace Fa4 := Shut.mk (Fa4.out.below hb)
  have z9 := hb.size
  replace HB := Shut.mk (HB.out.trans (hb.mono HB.out.size))
  clear hb
  clear Fa4
  go_wp2_with fail
  refine (toBoolS_val Fv.out NH).mono ?_
  rintro e w10 ⟨a5, rfl, hA, hb⟩
  have Fa5 := Shut.mk hA
  clear hA
  replace Fu := Shut.mk (Fu.out.below hb)
  replace Fv := Shut.mk (Fv.out.below hb)
  replace Fw0 := Shut.mk (Fw0.out.below hb)
  replace Fx1 := Shut.mk (Fx1.out.below hb)
  replace Fx2 := Shut.mk (Fx2.out.below hb)
  replace Fg0 := Shut.mk (Fg0.out.below hb)
  have z10 := hb.size
  replace HB := Shut.mk (HB.out.trans (hb.mono HB.out.size))
  clear hb
  go_wp2_with fail
  refine (eqBoolS_val Fx2.out.see Fa5.out.see NH).mono ?_
  rintro e w11 ⟨rfl, hb⟩
  replace Fu := Shut.mk (Fu.out.below hb)
  replace Fv := Shut.mk (Fv.out.below hb)
  replace Fw0 := Shut.mk (Fw0.out.below hb)
  replace Fx1 := Shut.mk (Fx1.out.below hb)
  replace Fx2 := Shut.mk (Fx2.out.below hb)
  replace Fg0 := Shut.mk (Fg0.out.below hb)
  replace Fa5 := Shut.mk (Fa5.out.below hb)
  have z11 := hb.size
  replace HB := Shut.mk (HB.out.trans (hb.mono HB.out.size))
  clear hb
  clear Fa5
  go_wp2_with fail
  refine (markStringS_val 1 Fx1.out (by omega) (by have := NL; omega)).mono ?_
  rintro e w12 ⟨rfl, hM, ht⟩
  obtain ⟨k1, hk⟩ : ∃ k : Nat, k = 1 + List.length L := ⟨_, rfl⟩
  rw [← hk]
  have Kk1 : k1 ≤ 1 + 1048576 := by have := NL; omega
  have Jk1 := Shut.mk hk
  clear hk
  replace Fu := Shut.mk (Fu.out.turned ht (by omega))
  replace Fv := Shut.mk (Fv.out.turned ht (by omega))
  replace Fw0 := Shut.mk (Fw0.out.turned ht (by omega))
  replace Fx2 := Shut.mk (Fx2.out.turned ht (by omega))
  replace Fg0 := Shut.mk (Fg0.out.turned ht (by omega))
  replace Fx1 := Shut.mk hM
  clear hM
  have z12 := ht.size
  replace HB := Shut.mk (HB.out.trans (ht.below (by omega) HB.out.size))
  clear ht
  clear Fx1
  go_wp2_with fail
  refine (markBoolS_val k1 Fx2.out (by have := NH; omega)).mono ?_
  rintro e w13 ⟨rfl, ht⟩
  obtain ⟨k2, hk⟩ : ∃ k : Nat, k = k1 + List.length H := ⟨_, rfl⟩
  rw [← hk]
  have Kk2 : k2 ≤ k1 + 1048576 := by have := NH; omega
  have Jk2 := Shut.mk hk
  clear hk
  clear Fx2
  replace Fu := Shut.mk (Fu.out.turned ht (by omega))
  replace Fv := Shut.mk (Fv.out.turned ht (by omega))
  replace Fw0 := Shut.mk (Fw0.out.turned ht (by omega))
  replace Fg0 := Shut.mk (Fg0.out.turned ht (by omega))
  have z13 := ht.size
  replace HB := Shut.mk (HB.out.trans (ht.below (by omega) HB.out.size))
  clear ht
  have hk0 : ¬ (k2 : Int) < 0 := by omega
  go_wp2_with fail
  refine (eqStringS_val Fg0.out Fw0.out (by omega)).mono ?_
  rintro e w14 ⟨rfl, hb⟩
  replace Fu := Shut.mk (Fu.out.below hb)
  replace Fv := Shut.mk (Fv.out.below hb)
  replace Fw0 := Shut.mk (Fw0.out.below hb)
  replace Fg0 := Shut.mk (Fg0.out.below hb)
  have z14 := hb.size
  replace HB := Shut.mk (HB.out.trans (hb.mono HB.out.size))
  clear hb
  go_wp2_with fail
  refine (markStringS_val 1 Fg0.out (by omega) (by have := HLR; omega)).mono ?_
  rintro e w15 ⟨rfl, hM, ht⟩
  obtain ⟨m1, hk⟩ : ∃ k : Nat, k = 1 + List.length R := ⟨_, rfl⟩
  rw [← hk]
  have Km1 : m1 ≤ 1 + 1048576 := by have := HLR; omega
  have Jm1 := Shut.mk hk
  clear hk
  replace Fu := Shut.mk (Fu.out.turned ht (by omega))
  replace Fv := Shut.mk (Fv.out.turned ht (by omega))
  replace Fw0 := Shut.mk (Fw0.out.turned ht (by omega))
  replace Fg0 := Shut.mk hM
  clear hM
  have z15 := ht.size
  replace HB := Shut.mk (HB.out.trans (ht.below (by omega) HB.out.size))
  clear ht
  go_wp2_with fail
  refine (heldStringS_val Fg0.out (by omega) (by have := HLR; omega)).mono ?_
  rintro e w16 ⟨rfl, hb⟩
  rw [← Jm1.out]
  replace Fu := Shut.mk (Fu.out.below hb)
  replace Fv := Shut.mk (Fv.out.below hb)
  replace Fw0 := Shut.mk (Fw0.out.below hb)
  replace Fg0 := Shut.mk (Fg0.out.below hb)
  have z16 := hb.size
  replace HB := Shut.mk (HB.out.trans (hb.mono HB.out.size))
  clear hb
  have hm0 : ¬ (m1 : Int) < 0 := by omega
  have hmm : ((m1 : Int) != (m1 : Int)) = false := by simp
  go_wp2_with fail
  refine (toStringS_val Fu.out HFL.out).mono ?_
  rintro e w17 ⟨a6, rfl, hA, hb⟩
  have Fa6 := Shut.mk hA
  clear hA
  replace Fu := Shut.mk (Fu.out.below hb)
  replace Fv := Shut.mk (Fv.out.below hb)
  replace Fw0 := Shut.mk (Fw0.out.below hb)
  replace Fg0 := Shut.mk (Fg0.out.below hb)
  have z17 := hb.size
  replace HB := Shut.mk (HB.out.trans (hb.mono HB.out.size))
  clear hb
  go_wp2_with fail
  refine (toBoolS_val Fv.out NH).mono ?_
  rintro e w18 ⟨a7, rfl, hA, hb⟩
  have Fa7 := Shut.mk hA
  clear hA
  replace Fu := Shut.mk (Fu.out.below hb)
  replace Fv := Shut.mk (Fv.out.below hb)
  replace Fw0 := Shut.mk (Fw0.out.below hb)
  replace Fg0 := Shut.mk (Fg0.out.below hb)
  replace Fa6 := Shut.mk (Fa6.out.below hb)
  have z18 := hb.size
  replace HB := Shut.mk (HB.out.trans (hb.mono HB.out.size))
  clear hb
  go_wp2_with fail
  refine (HI.out _ _ _ _ _ _ _ Fa6.out.see Fa7.out.see).mono ?_
  rintro e w19 ⟨h0, rfl, hA, hb⟩
  have Fh0 := Shut.mk (show SAns w19 h0 R _ _ from hA)
  clear hA
  replace Fu := Shut.mk (Fu.out.below hb)
  replace Fv := Shut.mk (Fv.out.below hb)
  replace Fw0 := Shut.mk (Fw0.out.below hb)
  replace Fg0 := Shut.mk (Fg0.out.below hb)
  replace Fa6 := Shut.mk (Fa6.out.below hb)
  replace Fa7 := Shut.mk (Fa7.out.below hb)
  have z19 := hb.size
  replace HB := Shut.mk (HB.out.trans (hb.mono HB.out.size))
  clear hb
  go_wp2_with fail
  refine (eqStringS_val Fh0.out Fw0.out (by omega)).mono ?_
  rintro e w20 ⟨rfl, hb⟩
  replace Fu := Shut.mk (Fu.out.below hb)
  replace Fv := Shut.mk (Fv.out.below hb)
  replace Fw0 := Shut.mk (Fw0.out.below hb)
  replace Fg0 := Shut.mk (Fg0.out.below hb)
  replace Fa6 := Shut.mk (Fa6.out.below hb)
  replace Fa7 := Shut.mk (Fa7.out.below hb)
  replace Fh0 := Shut.mk (Fh0.out.below hb)
  have z20 := hb.size
  replace HB := Shut.mk (HB.out.trans (hb.mono HB.out.size))
  clear hb
  go_wp2_with fail
  refine (heldStringS_val Fg0.out (by omega) (by have := HLR; omega)).mono ?_
  rintro e w21 ⟨rfl, hb⟩
  rw [← Jm1.out]
  replace Fu := Shut.mk (Fu.out.below hb)
  replace Fv := Shut.mk (Fv.out.below hb)
  replace Fw0 := Shut.mk (Fw0.out.below hb)
  replace Fg0 := Shut.mk (Fg0.out.below hb)
  replace Fa6 := Shut.mk (Fa6.out.below hb)
  replace Fa7 := Shut.mk (Fa7.out.below hb)
  replace Fh0 := Shut.mk (Fh0.out.below hb)
  have z21 := hb.size
  replace HB := Shut.mk (HB.out.trans (hb.mono HB.out.size))
  clear hb
  go_wp2_with fail
  go_ret
  exact ⟨rfl, HB.out⟩
set_option maxRecDepth 100000 in
set_option maxHeartbeats 4000000 in
theorem lawRebuild (h : ∀ (w : World) (u v : Value) (L : List ByteArray) (H : List Bool) (lo hi lo' hi' : Nat) (s : Int), SSee w u L lo hi → BSee w v H lo' hi' → TFit L → H.length ≤ 1048576 → Calls Try.prog 18 #[.int .i64 s, u, v] w fun e w' => TPost (rebX s L H) w e w') {w : World} {s : Int} {u : Value} {L : List ByteArray} (hu : SSee w u L 0 w.heap.size) (lL : L.length ≤ 9223372036854775807 ∧ ∀ x ∈ L, x.size ≤ 9223372036854775807) {v : Value} {H : List Bool} (hv : BSee w v H 0 w.heap.size) (lH : H.length ≤ 9223372036854775807) :
    Calls Try.prog 9 #[.int .i64 s, u, v] w fun e w' => e = .returned (.bool true) ∧ Below w.heap.size w w' := by
  have Fu := Shut.mk hu
  have HL := Shut.mk lL
  clear hu lL
  have Fv := Shut.mk hv
  have HH0 := Shut.mk lH
  clear hv lH
  have HB : Shut (Below w.heap.size w w) := ⟨Below.refl _ _⟩
  have HH := Shut.mk h
  clear h
  obtain ⟨a3, cap3, rfl, hm3⟩ := Fv.out
  have Fv0 := Shut.mk hm3
  clear hm3 Fv
  have hHl := HH0.out
  go_enter Try.func9, Try.ntmps9
  by_cases hbig : (1048576 : Int) < (H.length : Int)
  case pos =>
    go_wp2_with fail
    go_ret
    exact ⟨rfl, HB.out⟩
  have NH : H.length ≤ 1048576 := by omega
  have Fv : Shut (BSee w (.slice a3 H.length cap3) H 0 w.heap.size) := ⟨⟨a3, cap3, rfl, Fv0.out⟩⟩
  clear Fv0
  go_wp2_with fail
  refine (szStringS_val 1048576 Fu.out HL.out (by omega) (by omega)).mono ?_
  rintro e w1 ⟨r0, rfl, hw, q1, q2⟩
  obtain rfl : w = w1 := hw.symm
  clear hw
  by_cases hfit : ((L.length + tsum L : Nat) : Int) ≤ 1048576
  case neg =>
    have hneg : r0 < 0 := q2 (by omega)
    clear q1 q2
    go_wp2_with fail
    go_ret
    exact ⟨rfl, HB.out⟩
  have hr := q1 hfit
  have r0n : ¬ r0 < 0 := by omega
  have HFL : Shut (TFit L) := ⟨by unfold TFit; omega⟩
  have NL : L.length ≤ 1048576 := by omega
  clear q1 q2 hr hfit
  have HLR := rebX_len s L H
  have HS := Shut.mk fun (w : World) (u v : Value) (lo hi lo' hi' : Nat) (hs : SSee w u L lo hi) (ht : BSee w v H lo' hi') => specRebuild s hs ht HFL.out NH
  have HI := Shut.mk fun (w : World) (u v : Value) (lo hi lo' hi' : Nat) (hs : SSee w u L lo hi) (ht : BSee w v H lo' hi') => HH.out w u v L H lo hi lo' hi' s hs ht HFL.out NH
  obtain ⟨R, ok, hre⟩ : ∃ R ok, rebX s L H = (R, ok) := ⟨_, _, rfl⟩
  rw [hre] at HLR HS HI
  replace HLR : R.length ≤ 8 := HLR
  have hoo : (ok != ok) = false := by cases ok <;> rfl
  clear HH hre
  go_wp2_with fail
  refine (toStringS_val Fu.out HFL.out).mono ?_
  rintro e w1 ⟨a1, rfl, hA, hb⟩
  have Fa1 := Shut.mk hA
  clear hA
  replace Fu := Shut.mk (Fu.out.below hb)
  replace Fv := Shut.mk (Fv.out.below hb)
  have z1 := hb.size
  replace HB := Shut.mk (HB.out.trans (hb.mono HB.out.size))
  clear hb
  go_wp2_with fail
  refine (toBoolS_val Fv.out NH).mono ?_
  rintro e w2 ⟨a2, rfl, hA, hb⟩
  have Fa2 := Shut.mk hA
  clear hA
  replace Fu := Shut.mk (Fu.out.below hb)
  replace Fv := Shut.mk (Fv.out.below hb)
  replace Fa1 := Shut.mk (Fa1.out.below hb)
  have z2 := hb.size
  replace HB := Shut.mk (HB.out.trans (hb.mono HB.out.size))
  clear hb
  go_wp2_with fail
  refine (HS.out _ _ _ _ _ _ _ Fa1.out.see Fa2.out.see).mono ?_
  rintro e w3 ⟨w0, rfl, hA, hb⟩
  have Fw0 := Shut.mk (show SAns w3 w0 R _ _ from hA)
  clear hA
  replace Fu := Shut.mk (Fu.out.below hb)
  replace Fv := Shut.mk (Fv.out.below hb)
  replace Fa1 := Shut.mk (Fa1.out.below hb)
  replace Fa2 := Shut.mk (Fa2.out.below hb)
  have z3 := hb.size
  replace HB := Shut.mk (HB.out.trans (hb.mono HB.out.size))
  clear hb
  clear Fa1
  clear Fa2
  go_wp2_with fail
  refine (toStringS_val Fu.out HFL.out).mono ?_
  rintro e w4 ⟨x1, rfl, hA, hb⟩
  have Fx1 := Shut.mk hA
  clear hA
  replace Fu := Shut.mk (Fu.out.below hb)
  replace Fv := Shut.mk (Fv.out.below hb)
  replace Fw0 := Shut.mk (Fw0.out.below hb)
  have z4 := hb.size
  replace HB := Shut.mk (HB.out.trans (hb.mono HB.out.size))
  clear hb
  go_wp2_with fail
  refine (toBoolS_val Fv.out NH).mono ?_
  rintro e w5 ⟨x2, rfl, hA, hb⟩
  have Fx2 := Shut.mk hA
  clear hA
  replace Fu := Shut.mk (Fu.out.below hb)
  replace Fv := Shut.mk (Fv.out.below hb)
  replace Fw0 := Shut.mk (Fw0.out.below hb)
  replace Fx1 := Shut.mk (Fx1.out.below hb)
  have z5 := hb.size
  replace HB := Shut.mk (HB.out.trans (hb.mono HB.out.size))
  clear hb
  go_wp2_with fail
  refine (HI.out _ _ _ _ _ _ _ Fx1.out.see Fx2.out.see).mono ?_
  rintro e w6 ⟨g0, rfl, hA, hb⟩
  have Fg0 := Shut.mk (show SAns w6 g0 R _ _ from hA)
  clear hA
  replace Fu := Shut.mk (Fu.out.below hb)
  replace Fv := Shut.mk (Fv.out.below hb)
  replace Fw0 := Shut.mk (Fw0.out.below hb)
  replace Fx1 := Shut.mk (Fx1.out.below hb)
  replace Fx2 := Shut.mk (Fx2.out.below hb)
  have z6 := hb.size
  replace HB := Shut.mk (HB.out.trans (hb.mono HB.out.size))
  clear hb
  go_wp2_with fail
  refine (eqStringS_val Fg0.out Fw0.out (by omega)).mono ?_
  rintro e w7 ⟨rfl, hb⟩
  replace Fu := Shut.mk (Fu.out.below hb)
  replace Fv := Shut.mk (Fv.out.below hb)
  replace Fw0 := Shut.mk (Fw0.out.below hb)
  replace Fx1 := Shut.mk (Fx1.out.below hb)
  replace Fx2 := Shut.mk (Fx2.out.below hb)
  replace Fg0 := Shut.mk (Fg0.out.below hb)
  have z7 := hb.size
  replace HB := Shut.mk (HB.out.trans (hb.mono HB.out.size))
  clear hb
  go_wp2_with fail
  refine (toStringS_val Fu.out HFL.out).mono ?_
  rintro e w8 ⟨a4, rfl, hA, hb⟩
  have Fa4 := Shut.mk hA
  clear hA
  replace Fu := Shut.mk (Fu.out.below hb)
  replace Fv := Shut.mk (Fv.out.below hb)
  replace Fw0 := Shut.mk (Fw0.out.below hb)
  replace Fx1 := Shut.mk (Fx1.out.below hb)
  replace Fx2 := Shut.mk (Fx2.out.below hb)
  replace Fg0 := Shut.mk (Fg0.out.below hb)
  have z8 := hb.size
  replace HB := Shut.mk (HB.out.trans (hb.mono HB.out.size))
  clear hb
  go_wp2_with fail
  refine (eqStringS_val Fx1.out Fa4.out (by omega)).mono ?_
  rintro e w9 ⟨rfl, hb⟩
  replace Fu := Shut.mk (Fu.out.below hb)
  replace Fv := Shut.mk (Fv.out.below hb)
  replace Fw0 := Shut.mk (Fw0.out.below hb)
  replace Fx1 := Shut.mk (Fx1.out.below hb)
  replace Fx2 := Shut.mk (Fx2.out.below hb)
  replace Fg0 := Shut.mk (Fg0.out.below hb)
  replace Fa4 := Shut.mk (Fa4.out.below hb)
  have z9 := hb.size
  replace HB := Shut.mk (HB.out.trans (hb.mono HB.out.size))
  clear hb
  clear Fa4
  go_wp2_with fail
  refine (toBoolS_val Fv.out NH).mono ?_
  rintro e w10 ⟨a5, rfl, hA, hb⟩
  have Fa5 := Shut.mk hA
  clear hA
  replace Fu := Shut.mk (Fu.out.below hb)
  replace Fv := Shut.mk (Fv.out.below hb)
  replace Fw0 := Shut.mk (Fw0.out.below hb)
  replace Fx1 := Shut.mk (Fx1.out.below hb)
  replace Fx2 := Shut.mk (Fx2.out.below hb)
  replace Fg0 := Shut.mk (Fg0.out.below hb)
  have z10 := hb.size
  replace HB := Shut.mk (HB.out.trans (hb.mono HB.out.size))
  clear hb
  go_wp2_with fail
  refine (eqBoolS_val Fx2.out.see Fa5.out.see NH).mono ?_
  rintro e w11 ⟨rfl, hb⟩
  replace Fu := Shut.mk (Fu.out.below hb)
  replace Fv := Shut.mk (Fv.out.below hb)
  replace Fw0 := Shut.mk (Fw0.out.below hb)
  replace Fx1 := Shut.mk (Fx1.out.below hb)
  replace Fx2 := Shut.mk (Fx2.out.below hb)
  replace Fg0 := Shut.mk (Fg0.out.below hb)
  replace Fa5 := Shut.mk (Fa5.out.below hb)
  have z11 := hb.size
  replace HB := Shut.mk (HB.out.trans (hb.mono HB.out.size))
  clear hb
  clear Fa5
  go_wp2_with fail
  refine (markStringS_val 1 Fx1.out (by omega) (by have := NL; omega)).mono ?_
  rintro e w12 ⟨rfl, hM, ht⟩
  obtain ⟨k1, hk⟩ : ∃ k : Nat, k = 1 + List.length L := ⟨_, rfl⟩
  rw [← hk]
  have Kk1 : k1 ≤ 1 + 1048576 := by have := NL; omega
  have Jk1 := Shut.mk hk
  clear hk
  replace Fu := Shut.mk (Fu.out.turned ht (by omega))
  replace Fv := Shut.mk (Fv.out.turned ht (by omega))
  replace Fw0 := Shut.mk (Fw0.out.turned ht (by omega))
  replace Fx2 := Shut.mk (Fx2.out.turned ht (by omega))
  replace Fg0 := Shut.mk (Fg0.out.turned ht (by omega))
  replace Fx1 := Shut.mk hM
  clear hM
  have z12 := ht.size
  replace HB := Shut.mk (HB.out.trans (ht.below (by omega) HB.out.size))
  clear ht
  clear Fx1
  go_wp2_with fail
  refine (markBoolS_val k1 Fx2.out (by have := NH; omega)).mono ?_
  rintro e w13 ⟨rfl, ht⟩
  obtain ⟨k2, hk⟩ : ∃ k : Nat, k = k1 + List.length H := ⟨_, rfl⟩
  rw [← hk]
  have Kk2 : k2 ≤ k1 + 1048576 := by have := NH; omega
  have Jk2 := Shut.mk hk
  clear hk
  clear Fx2
  replace Fu := Shut.mk (Fu.out.turned ht (by omega))
  replace Fv := Shut.mk (Fv.out.turned ht (by omega))
  replace Fw0 := Shut.mk (Fw0.out.turned ht (by omega))
  replace Fg0 := Shut.mk (Fg0.out.turned ht (by omega))
  have z13 := ht.size
  replace HB := Shut.mk (HB.out.trans (ht.below (by omega) HB.out.size))
  clear ht
  have hk0 : ¬ (k2 : Int) < 0 := by omega
  go_wp2_with fail
  refine (eqStringS_val Fg0.out Fw0.out (by omega)).mono ?_
  rintro e w14 ⟨rfl, hb⟩
  replace Fu := Shut.mk (Fu.out.below hb)
  replace Fv := Shut.mk (Fv.out.below hb)
  replace Fw0 := Shut.mk (Fw0.out.below hb)
  replace Fg0 := Shut.mk (Fg0.out.below hb)
  have z14 := hb.size
  replace HB := Shut.mk (HB.out.trans (hb.mono HB.out.size))
  clear hb
  go_wp2_with fail
  refine (markStringS_val 1 Fg0.out (by omega) (by have := HLR; omega)).mono ?_
  rintro e w15 ⟨rfl, hM, ht⟩
  obtain ⟨m1, hk⟩ : ∃ k : Nat, k = 1 + List.length R := ⟨_, rfl⟩
  rw [← hk]
  have Km1 : m1 ≤ 1 + 1048576 := by have := HLR; omega
  have Jm1 := Shut.mk hk
  clear hk
  replace Fu := Shut.mk (Fu.out.turned ht (by omega))
  replace Fv := Shut.mk (Fv.out.turned ht (by omega))
  replace Fw0 := Shut.mk (Fw0.out.turned ht (by omega))
  replace Fg0 := Shut.mk hM
  clear hM
  have z15 := ht.size
  replace HB := Shut.mk (HB.out.trans (ht.below (by omega) HB.out.size))
  clear ht
  go_wp2_with fail
  refine (heldStringS_val Fg0.out (by omega) (by have := HLR; omega)).mono ?_
  rintro e w16 ⟨rfl, hb⟩
  rw [← Jm1.out]
  replace Fu := Shut.mk (Fu.out.below hb)
  replace Fv := Shut.mk (Fv.out.below hb)
  replace Fw0 := Shut.mk (Fw0.out.below hb)
  replace Fg0 := Shut.mk (Fg0.out.below hb)
  have z16 := hb.size
  replace HB := Shut.mk (HB.out.trans (hb.mono HB.out.size))
  clear hb
  have hm0 : ¬ (m1 : Int) < 0 := by omega
  have hmm : ((m1 : Int) != (m1 : Int)) = false := by simp
  go_wp2_with fail
  refine (toStringS_val Fu.out HFL.out).mono ?_
  rintro e w17 ⟨a6, rfl, hA, hb⟩
  have Fa6 := Shut.mk hA
  clear hA
  replace Fu := Shut.mk (Fu.out.below hb)
  replace Fv := Shut.mk (Fv.out.below hb)
  replace Fw0 := Shut.mk (Fw0.out.below hb)
  replace Fg0 := Shut.mk (Fg0.out.below hb)
  have z17 := hb.size
  replace HB := Shut.mk (HB.out.trans (hb.mono HB.out.size))
  clear hb
  go_wp2_with fail
  refine (toBoolS_val Fv.out NH).mono ?_
  rintro e w18 ⟨a7, rfl, hA, hb⟩
  have Fa7 := Shut.mk hA
  clear hA
  replace Fu := Shut.mk (Fu.out.below hb)
  replace Fv := Shut.mk (Fv.out.below hb)
  replace Fw0 := Shut.mk (Fw0.out.below hb)
  replace Fg0 := Shut.mk (Fg0.out.below hb)
  replace Fa6 := Shut.mk (Fa6.out.below hb)
  have z18 := hb.size
  replace HB := Shut.mk (HB.out.trans (hb.mono HB.out.size))
  clear hb
  go_wp2_with fail
  refine (HI.out _ _ _ _ _ _ _ Fa6.out.see Fa7.out.see).mono ?_
  rintro e w19 ⟨h0, rfl, hA, hb⟩
  have Fh0 := Shut.mk (show SAns w19 h0 R _ _ from hA)
  clear hA
  replace Fu := Shut.mk (Fu.out.below hb)
  replace Fv := Shut.mk (Fv.out.below hb)
  replace Fw0 := Shut.mk (Fw0.out.below hb)
  replace Fg0 := Shut.mk (Fg0.out.below hb)
  replace Fa6 := Shut.mk (Fa6.out.below hb)
  replace Fa7 := Shut.mk (Fa7.out.below hb)
  have z19 := hb.size
  replace HB := Shut.mk (HB.out.trans (hb.mono HB.out.size))
  clear hb
  go_wp2_with fail
  refine (eqStringS_val Fh0.out Fw0.out (by omega)).mono ?_
  rintro e w20 ⟨rfl, hb⟩
  replace Fu := Shut.mk (Fu.out.below hb)
  replace Fv := Shut.mk (Fv.out.below hb)
  replace Fw0 := Shut.mk (Fw0.out.below hb)
  replace Fg0 := Shut.mk (Fg0.out.below hb)
  replace Fa6 := Shut.mk (Fa6.out.below hb)
  replace Fa7 := Shut.mk (Fa7.out.below hb)
  replace Fh0 := Shut.mk (Fh0.out.below hb)
  have z20 := hb.size
  replace HB := Shut.mk (HB.out.trans (hb.mono HB.out.size))
  clear hb
  go_wp2_with fail
  refine (heldStringS_val Fg0.out (by omega) (by have := HLR; omega)).mono ?_
  rintro e w21 ⟨rfl, hb⟩
  rw [← Jm1.out]
  replace Fu := Shut.mk (Fu.out.below hb)
  replace Fv := Shut.mk (Fv.out.below hb)
  replace Fw0 := Shut.mk (Fw0.out.below hb)
  replace Fg0 := Shut.mk (Fg0.out.below hb)
  replace Fa6 := Shut.mk (Fa6.out.below hb)
  replace Fa7 := Shut.mk (Fa7.out.below hb)
  replace Fh0 := Shut.mk (Fh0.out.below hb)
  have z21 := hb.size
  replace HB := Shut.mk (HB.out.trans (hb.mono HB.out.size))
  clear hb
  go_wp2_with fail
  go_ret
  exact ⟨rfl, HB.out⟩
end Go.Proofs.Ytdlgailodhlbmaa
/- CodM: Any so many rows of a code as there are units have an inverse (the tables are written by gen/mkcode.py; the kernel checks them). Nothing of the program is read here. -/
namespace Go.Proofs.Ytdlgailodhlbmaa
open Go.RowKit
open W (B8 Mx)

def invT2 : List (List Nat × List (List Int)) := [([0, 1], [[1, 0], [0, 1]]), ([0, 2], [[1, 0], [143, 3]]), ([1, 2], [[245, 2], [1, 0]])]
def invT3 : List (List Nat × List (List Int)) := [([0, 1, 2], [[1, 0, 0], [0, 1, 0], [0, 0, 1]]), ([0, 1, 3], [[1, 0, 0], [0, 1, 0], [244, 142, 1]]), ([0, 1, 4], [[1, 0, 0], [0, 1, 0], [143, 245, 6]]), ([0, 2, 3], [[1, 0, 0], [245, 2, 2], [0, 1, 0]]), ([0, 2, 4], [[1, 0, 0], [70, 143, 5], [0, 1, 0]]), ([0, 3, 4], [[1, 0, 0], [1, 187, 189], [122, 210, 208]]), ([1, 2, 3], [[143, 3, 3], [1, 0, 0], [0, 1, 0]]), ([1, 2, 4], [[166, 245, 4], [1, 0, 0], [0, 1, 0]]), ([1, 3, 4], [[1, 187, 189], [1, 0, 0], [122, 104, 107]]), ([2, 3, 4], [[6, 214, 218], [6, 109, 103], [1, 0, 0]])]
def invT4 : List (List Nat × List (List Int)) := [([0, 1, 2, 3], [[1, 0, 0, 0], [0, 1, 0, 0], [0, 0, 1, 0], [0, 0, 0, 1]]), ([0, 1, 2, 4], [[1, 0, 0, 0], [0, 1, 0, 0], [0, 0, 1, 0], [200, 82, 123, 7]]), ([0, 1, 2, 5], [[1, 0, 0, 0], [0, 1, 0, 0], [0, 0, 1, 0], [245, 143, 187, 6]]), ([0, 1, 3, 4], [[1, 0, 0, 0], [0, 1, 0, 0], [143, 245, 187, 6], [0, 0, 1, 0]]), ([0, 1, 3, 5], [[1, 0, 0, 0], [0, 1, 0, 0], [82, 200, 123, 7], [0, 0, 1, 0]]), ([0, 1, 4, 5], [[1, 0, 0, 0], [0, 1, 0, 0], [141, 246, 126, 108], [246, 141, 108, 126]]), ([0, 2, 3, 4], [[1, 0, 0, 0], [70, 143, 104, 5], [0, 1, 0, 0], [0, 0, 1, 0]]), ([0, 2, 3, 5], [[1, 0, 0, 0], [166, 210, 245, 4], [0, 1, 0, 0], [0, 0, 1, 0]]), ([0, 2, 4, 5], [[1, 0, 0, 0], [143, 211, 54, 60], [0, 1, 0, 0], [179, 143, 45, 36]]), ([0, 3, 4, 5], [[1, 0, 0, 0], [245, 105, 40, 36], [41, 245, 54, 56], [0, 1, 0, 0]]), ([1, 2, 3, 4], [[166, 245, 210, 4], [1, 0, 0, 0], [0, 1, 0, 0], [0, 0, 1, 0]]), ([1, 2, 3, 5], [[70, 104, 143, 5], [1, 0, 0, 0], [0, 1, 0, 0], [0, 0, 1, 0]]), ([1, 2, 4, 5], [[245, 105, 36, 40], [1, 0, 0, 0], [0, 1, 0, 0], [41, 245, 56, 54]]), ([1, 3, 4, 5], [[143, 211, 60, 54], [1, 0, 0, 0], [179, 143, 36, 45], [0, 1, 0, 0]]), ([2, 3, 4, 5], [[208, 107, 68, 80], [107, 208, 80, 68], [1, 0, 0, 0], [0, 1, 0, 0]])]

/-- So many of a list, in their order. -/
def subs : List Nat → Nat → List (List Nat)
  | _, 0 => [[]]
  | [], _ + 1 => []
  | x :: l, k + 1 => (subs l k).map (x :: ·) ++ subs l (k + 1)
theorem mem_subs {I l : List Nat} (h : I.Sublist l) : I ∈ subs l I.length := by
  induction h with
  | slnil => simp [subs]
  | cons a h ih =>
    rename_i l1 l2
    cases l1 with
    | nil => simp [subs]
    | cons b l1 => simp only [List.length_cons, subs]; exact List.mem_append_right _ ih
  | cons_cons a h ih => simp only [List.length_cons, subs]; exact List.mem_append_left _ (List.mem_map.2 ⟨_, ih, rfl⟩)
def invOk (X Y : List (List Int)) : Bool :=
  matOk X && (decide (colsOf X = X.length) && (decide (Y.length = X.length) && (Y.all (fun r => decide (r.length = X.length) && r.all numOk) &&
    (List.range X.length).all fun i => (List.range X.length).all fun j => decide (W.mm X.length (mx Y) (mx X) i j = W.one i j) && decide (W.mm X.length (mx X) (mx Y) i j = W.one i j))))
theorem invOk_is {X Y : List (List Int)} (h : invOk X Y = true) : IsInv X Y := by
  unfold invOk at h
  simp only [Bool.and_eq_true, decide_eq_true_eq, List.all_eq_true, List.mem_range] at h
  obtain ⟨h1, h2, h3, h4, h5⟩ := h
  refine ⟨h1, h2, ⟨h3, fun x hx => ⟨(h4 x hx).1, fun y hy => ?_⟩⟩, fun i hi j hj => (h5 i hi j hj).1, fun i hi j hj => (h5 i hi j hj).2⟩
  have := (h4 x hx).2 y hy
  unfold numOk at this
  simpa using this
def chkAll (C : List (List Int)) (n k : Nat) (T : List (List Nat × List (List Int))) : Bool := (subs (List.range n) k).all fun I =>
  match T.lookup I with
  | some Y => invOk (I.map fun i => C.getD i []) Y
  | none => false
theorem chk_is {C : List (List Int)} {n k : Nat} {T : List (List Nat × List (List Int))} (h : chkAll C n k T = true) {I : List Nat} (hs : I.Sublist (List.range n)) (hl : I.length = k) : ∃ Y, IsInv (I.map fun i => C.getD i []) Y := by
  unfold chkAll at h
  rw [List.all_eq_true] at h
  have := h I (by have := mem_subs hs; rw [hl] at this; exact this)
  cases hT : T.lookup I with
  | none => rw [hT] at this; cases this
  | some Y => rw [hT] at this; exact ⟨Y, invOk_is this⟩
theorem code_1 : codeX 1 = [[1, 0], [0, 1], [142, 244]] := by decide +kernel
theorem chk_1 : chkAll [[1, 0], [0, 1], [142, 244]] 3 2 invT2 = true := by decide +kernel
theorem code_2 : codeX 2 = [[1, 0, 0], [0, 1, 0], [0, 0, 1], [244, 142, 1], [71, 167, 122]] := by decide +kernel
theorem chk_2 : chkAll [[1, 0, 0], [0, 1, 0], [0, 0, 1], [244, 142, 1], [71, 167, 122]] 5 3 invT3 = true := by decide +kernel
theorem code_3 : codeX 3 = [[1, 0, 0, 0], [0, 1, 0, 0], [0, 0, 1, 0], [0, 0, 0, 1], [71, 167, 122, 186], [167, 71, 186, 122]] := by decide +kernel
theorem chk_3 : chkAll [[1, 0, 0, 0], [0, 1, 0, 0], [0, 0, 1, 0], [0, 0, 0, 1], [71, 167, 122, 186], [167, 71, 186, 122]] 6 4 invT4 = true := by decide +kernel
/-- Any so many rows as units have an inverse. -/
theorem any_inv {s : Int} (h : schOk s = true) {I : List Nat} (hs : I.Sublist (List.range (schK s + schM s))) (hl : I.length = schK s) : ∃ Y, IsInv (rowsP s I) Y := by
  rcases sch_cases h with rfl | rfl | rfl
  · unfold rowsP; rw [code_1]; exact chk_is chk_1 hs hl
  · unfold rowsP; rw [code_2]; exact chk_is chk_2 hs hl
  · unfold rowsP; rw [code_3]; exact chk_is chk_3 hs hl
end Go.Proofs.Ytdlgailodhlbmaa
/- TbA: Texts byte by byte, plain: sums of texts, and of texts so many times. -/
namespace Go.Proofs.Ytdlgailodhlbmaa
open Go.RowKit
open W (B8 Mx)
attribute [local irreducible] W.gm W.xs W.mm W.gi

theorem addL_getD : ∀ (a b : List UInt8) (j : Nat), (W.addL a b).getD j 0 = a.getD j 0 ^^^ b.getD j 0
  | [], b, j => by simp [W.addL]
  | x :: a, [], j => by rw [W.addL_nil]; simp
  | x :: a, y :: b, 0 => by simp [W.addL]
  | x :: a, y :: b, j + 1 => by
    have := addL_getD a b j
    simpa [W.addL, List.getD] using this
theorem mulB_zero (A : B8) : W.mulB A 0 = 0 := by
  unfold W.mulB
  have : W.gm A (0 : UInt8).toBitVec = 0#8 := W.gm_zero A
  rw [this]; rfl
theorem mulL_getD (A : B8) (l : List UInt8) (j : Nat) : (W.mulL A l).getD j 0 = W.mulB A (l.getD j 0) := by
  unfold W.mulL
  rw [List.getD_eq_getElem?_getD, List.getElem?_map, List.getD_eq_getElem?_getD]
  cases l[j]? with
  | none => simp [mulB_zero]
  | some x => simp
/-- A text's byte at a place, 0 beyond its end. -/
def tb (u : ByteArray) (j : Nat) : B8 := (u.data.toList.getD j 0).toBitVec
theorem tb_add (a b : ByteArray) (j : Nat) : tb (addB a b) j = tb a j ^^^ tb b j := by
  unfold tb addB
  rw [addL_getD]; rfl
theorem tb_mul (A : B8) (u : ByteArray) (j : Nat) : tb (mulT A u) j = W.gm A (tb u j) := by
  unfold tb mulT
  rw [mulL_getD]; rfl
theorem tb_ext {a b : ByteArray} (hs : a.size = b.size) (h : ∀ j, tb a j = tb b j) : a = b := by
  apply Go.WideShapes.bytes_inj
  apply List.ext_getElem hs
  intro j h1 h2
  have e := h j
  unfold tb at e
  rw [List.getD_eq_getElem?_getD, List.getD_eq_getElem?_getD, List.getElem?_eq_getElem h1, List.getElem?_eq_getElem h2] at e
  exact UInt8.toBitVec_inj.1 e
theorem tb_acc (row : List Int) (L : List ByteArray) (j : Nat) : ∀ k, tb (accB row L k) j = W.xs k fun l => W.gm (g8 (row.getD l 0)) (tb (L.getD l ⟨#[]⟩) j)
  | 0 => by rw [W.xs_0]; rfl
  | k + 1 => by
    unfold accB
    rw [tb_add, tb_mul, tb_acc row L j k, W.xs_succ]
end Go.Proofs.Ytdlgailodhlbmaa
/- Draw: The draws of the models: a cursor over the bytes of a code. What is drawn lies within its bounds; nothing but the cursor's own block is turned. -/
namespace Go.Proofs.Ytdlgailodhlbmaa
open Go.RowKit
attribute [local go_sem ↓] Go.wp_at_zero Go.wp_at_succ

/-- The code that is drawn from: a slice of bytes that came in, below block B. -/
def CodeAt (w : World) (B : Nat) (a : Option Addr) (len : Nat) : Prop :=
  len ≤ 1048576 ∧ (0 < len → ∃ b off, a = some ⟨b, off, none⟩ ∧ b < B ∧ ∀ j, j < len → ∃ x : Int, w.cell? ⟨b, off + j, none⟩ = some (.int .u8 x) ∧ 0 ≤ x ∧ x ≤ 255)
/-- The cursor in block g. -/
def Cur (w : World) (g B : Nat) (a : Option Addr) (len cap : Nat) : Prop :=
  B ≤ g ∧ g < w.heap.size ∧ CodeAt w B a len ∧ w.cell? ⟨g, 0, none⟩ = some (.slice a len cap) ∧
  (∃ i : Nat, w.cell? ⟨g, 1, none⟩ = some (.int .i64 i) ∧ i ≤ len) ∧ (∃ h : Int, w.cell? ⟨g, 2, none⟩ = some (.int .i64 h)) ∧
  (∀ j, j < 3 → w.frozen? ⟨g, j, none⟩ = false)
def BytePost (w : World) (g B : Nat) (a : Option Addr) (len cap : Nat) (e : Ending) (w' : World) : Prop :=
  ∃ x : Int, e = .returned (.int .i64 x) ∧ 0 ≤ x ∧ x ≤ 255 ∧ Cur w' g B a len cap ∧ w.grownBy w' (some g)

theorem and255 (n : Int) : 0 ≤ bits .and .i64 n 255 ∧ bits .and .i64 n 255 ≤ 255 := by
  have h255 : (BitVec.ofInt 64 255).toNat = 2 ^ 8 - 1 := by decide
  have key : (BitVec.ofInt 64 n &&& BitVec.ofInt 64 255).toNat = (n % ((2 ^ 64 : Nat) : Int)).toNat % 2 ^ 8 := by
    rw [BitVec.toNat_and, BitVec.toNat_ofInt, h255, Nat.and_two_pow_sub_one_eq_mod]
  have e : bits .and .i64 n 255 = n % 256 := by
    show IntKind.i64.wrap ((BitVec.ofInt 64 n &&& BitVec.ofInt 64 255).toNat : Nat) = n % 256
    rw [key, IntKind.wrap_i64]
    omega
  rw [e]; omega
theorem gb_set (w : World) (g i : Nat) (v : Value) : w.grownBy (w.setCell ⟨g, i, none⟩ v) (some g) :=
  ⟨rfl, rfl, rfl, by simp [World.setCell], fun k _ hk => Below.heap_setCell _ _ _ _ (fun e => hk (by rw [e]))⟩
theorem gb_drewN (w : World) (q : Nat) (row : Option Nat) : w.grownBy (w.drewN q) row := ⟨rfl, rfl, rfl, Nat.le_refl _, fun _ _ _ => rfl⟩
theorem gb_two {a b c : World} {row : Option Nat} (h : a.grownBy b row) (k : b.grownBy c row) : a.grownBy c row :=
  ⟨k.os.trans h.os, k.tape.trans h.tape, k.output.trans h.output, Nat.le_trans h.size k.size, fun i hi hn => (k.block i (Nat.lt_of_lt_of_le hi h.size) hn).trans (h.block i hi hn)⟩
theorem gb_below {w w' : World} {row : Option Nat} (h : Below w.heap.size w w') : w.grownBy w' row := ⟨h.os, h.tape, h.output, h.size, fun k hk _ => h.block k hk⟩
theorem below_gb {w w' : World} {g B : Nat} (h : w.grownBy w' (some g)) (hB : B ≤ g) (hs : B ≤ w.heap.size) : Below B w w' :=
  ⟨h.os, h.tape, h.output, h.size, fun k hk => h.block k (by omega) (by simp; omega)⟩
theorem CodeAt.gb {w w' : World} {B g len : Nat} {a : Option Addr} (h : CodeAt w B a len) (hg : w.grownBy w' (some g)) (hB : B ≤ g) : CodeAt w' B a len := by
  refine ⟨h.1, fun hl => ?_⟩
  obtain ⟨b, off, rfl, hb, hx⟩ := h.2 hl
  refine ⟨b, off, rfl, hb, fun j hj => ?_⟩
  obtain ⟨x, hc, h0, h1⟩ := hx j hj
  exact ⟨x, hg.cell hc (by simp; omega), h0, h1⟩
theorem CodeAt.below {w w' : World} {B C len : Nat} {a : Option Addr} (h : CodeAt w B a len) (hb : Below C w w') (hC : B ≤ C) : CodeAt w' B a len := by
  refine ⟨h.1, fun hl => ?_⟩
  obtain ⟨b, off, rfl, hlt, hx⟩ := h.2 hl
  refine ⟨b, off, rfl, hlt, fun j hj => ?_⟩
  obtain ⟨x, hc, h0, h1⟩ := hx j hj
  exact ⟨x, (hb.cell (p := ⟨b, off + j, none⟩) (Nat.lt_of_lt_of_le hlt hC)).trans hc, h0, h1⟩
/-- New blocks, and what turns none of the cursor's: the cursor stands. -/
theorem Cur.below {w w' : World} {g B len cap : Nat} {a : Option Addr} (h : Cur w g B a len cap) (hb : Below w.heap.size w w') : Cur w' g B a len cap := by
  obtain ⟨hB, hg, hcode, c0, ⟨i, c1, hi⟩, ⟨k, c2⟩, hf⟩ := h
  exact ⟨hB, Nat.lt_of_lt_of_le hg hb.size, hcode.below hb (by omega), (hb.cell (p := ⟨g, 0, none⟩) hg).trans c0, ⟨i, (hb.cell (p := ⟨g, 1, none⟩) hg).trans c1, hi⟩, ⟨k, (hb.cell (p := ⟨g, 2, none⟩) hg).trans c2⟩,
    fun j hj => (hb.frozen (p := ⟨g, j, none⟩) hg).trans (hf j hj)⟩
theorem Cur.seth {w : World} {g B len cap : Nat} {a : Option Addr} (h : Cur w g B a len cap) (k : Int) : Cur (w.setCell ⟨g, 2, none⟩ (.int .i64 k)) g B a len cap := by
  obtain ⟨hB, hg, hcode, c0, ⟨i, c1, hi⟩, ⟨k', c2⟩, hf⟩ := h
  exact ⟨hB, by simpa [World.setCell] using hg, hcode.gb (gb_set _ _ _ _) hB, (World.cell?_setCell_other _ _ _ _ (by simp)).trans c0, ⟨i, (World.cell?_setCell_other _ _ _ _ (by simp)).trans c1, hi⟩, ⟨k, World.cell?_setCell_same _ _ _ c2⟩,
    fun j hj => (World.frozen?_setCell _ _ _ _).trans (hf j hj)⟩
theorem Cur.seti {w : World} {g B len cap : Nat} {a : Option Addr} (h : Cur w g B a len cap) (i : Nat) (hi : i ≤ len) : Cur (w.setCell ⟨g, 1, none⟩ (.int .i64 i)) g B a len cap := by
  obtain ⟨hB, hg, hcode, c0, ⟨i', c1, _⟩, ⟨k, c2⟩, hf⟩ := h
  exact ⟨hB, by simpa [World.setCell] using hg, hcode.gb (gb_set _ _ _ _) hB, (World.cell?_setCell_other _ _ _ _ (by simp)).trans c0, ⟨i, World.cell?_setCell_same _ _ _ c1, hi⟩, ⟨k, (World.cell?_setCell_other _ _ _ _ (by simp)).trans c2⟩,
    fun j hj => (World.frozen?_setCell _ _ _ _).trans (hf j hj)⟩
theorem drewN_bel (B : Nat) (w : World) (q : Nat) : Below B w (w.drewN q) := ⟨rfl, rfl, rfl, Nat.le_refl _, fun _ _ => rfl⟩
theorem byte_more {w : World} {g B len cap i : Nat} {a : Option Addr} (h : Cur w g B a len cap) (hi : i < len) (k : Int) (q : Nat) (y : Int) (hy : y = ((i + 1 : Nat) : Int)) (x : Int) (h0 : 0 ≤ x) (h1 : x ≤ 255) :
    BytePost w g B a len cap (.returned (.int .i64 x)) (((w.setCell ⟨g, 2, none⟩ (.int .i64 k)).drewN q).setCell ⟨g, 1, none⟩ (.int .i64 y)) := by
  subst hy
  exact ⟨x, rfl, h0, h1, (((h.seth k).below (drewN_bel _ _ _)).seti (i + 1) (by omega)), gb_two (gb_two (gb_set _ _ _ _) (gb_drewN _ _ _)) (gb_set _ _ _ _)⟩
theorem byte_over2 {w : World} {g B len cap : Nat} {a : Option Addr} (h : Cur w g B a len cap) (k : Int) (q q' : Nat) (x : Int) (h0 : 0 ≤ x) (h1 : x ≤ 255) :
    BytePost w g B a len cap (.returned (.int .i64 x)) (((w.setCell ⟨g, 2, none⟩ (.int .i64 k)).drewN q).drewN q') :=
  ⟨x, rfl, h0, h1, (((h.seth k).below (drewN_bel _ _ _)).below (drewN_bel _ _ _)), gb_two (gb_two (gb_set _ _ _ _) (gb_drewN _ _ _)) (gb_drewN _ _ _)⟩

set_option maxHeartbeats 1000000 in
theorem l01Byte_any (w : World) (g B : Nat) (a : Option Addr) (len cap : Nat) (hc : Cur w g B a len cap) :
    Calls Try.prog 45 #[.pointer (some ⟨g, 0, none⟩)] w fun e w' => BytePost w g B a len cap e w' := by
  have HC : Hid (Cur w g B a len cap) := hc
  obtain ⟨hB, hg, hcode, c0, ⟨i, c1, hi⟩, ⟨h, c2⟩, hf⟩ := hc
  have f1 := hf 1 (by omega)
  have f2 := hf 2 (by omega)
  have hl := hcode.1
  by_cases hlt : i < len
  · obtain ⟨b, off, rfl, hb, hcx⟩ := hcode.2 (by omega)
    obtain ⟨x, c3, x0, x1⟩ := hcx i hlt
    have i0 : (0 : Int) ≤ (i : Int) := by omega
    have i1 : (i : Int) < (len : Int) := by omega
    have hne : b ≠ g := by omega
    clear hcode hf hcx
    go_enter Try.func45, Try.ntmps45
    go_wp2_with fail
    go_quiet (fail)
    go_wp2_with fail
    go_quiet (fail)
    go_wp2_with fail
    go_quiet (fail)
    go_wp2_with fail
    go_ret
    exact byte_more HC.out hlt _ _ _ (by first | omega | (simp only [wrap64]; omega)) _ (and255 _).1 (and255 _).2
  · have i1 : decide ((i : Int) < (len : Int)) = false := by simp; omega
    clear hcode hf
    go_enter Try.func45, Try.ntmps45
    go_wp2_with fail
    go_quiet (fail)
    go_wp2_with fail
    go_quiet (fail)
    go_wp2_with fail
    go_ret
    exact byte_over2 HC.out _ _ _ _ (and255 _).1 (and255 _).2

def BelowPost (w : World) (g B : Nat) (a : Option Addr) (len cap : Nat) (n : Int) (e : Ending) (w' : World) : Prop :=
  ∃ x : Int, e = .returned (.int .i64 x) ∧ 0 ≤ x ∧ (x < n ∨ x = 0) ∧ Cur w' g B a len cap ∧ w.grownBy w' (some g)
set_option maxHeartbeats 1000000 in
theorem l01Below_any (w : World) (g B : Nat) (a : Option Addr) (len cap : Nat) (n : Int) (hn : n ≤ 9223372036854775807) (hc : Cur w g B a len cap) :
    Calls Try.prog 39 #[.pointer (some ⟨g, 0, none⟩), .int .i64 n] w fun e w' => BelowPost w g B a len cap n e w' := by
  have HC : Hid (Cur w g B a len cap) := hc
  clear hc
  by_cases h0 : n ≤ 0
  · go_enter Try.func39, Try.ntmps39
    go_wp2_with fail
    go_ret
    exact ⟨0, rfl, by omega, .inr rfl, HC.out, gb_drewN w 0 _⟩
  · by_cases h1 : n ≤ 256
    · have hnz : (n == 0) = false := by rw [beq_eq_false_iff_ne]; omega
      go_enter Try.func39, Try.ntmps39
      go_wp2_with fail
      refine (l01Byte_any _ g B a len cap HC.out).mono ?_
      rintro e w1 ⟨x, rfl, x0, x1, hc1, hg1⟩
      have HC1 : Hid (Cur w1 g B a len cap) := hc1
      have HG : Hid _ := hg1
      clear hc1 hg1
      go_wp2_with fail
      go_ret
      exact ⟨x % n, rfl, Int.emod_nonneg _ (by omega), .inl (Int.emod_lt_of_pos _ (by omega)), HC1.out, HG.out⟩
    · go_enter Try.func39, Try.ntmps39
      go_wp2_with fail
      refine (l01Byte_any _ g B a len cap HC.out).mono ?_
      rintro e w1 ⟨x, rfl, x0, x1, hc1, hg1⟩
      have HC1 : Hid (Cur w1 g B a len cap) := hc1
      have HG1 : Hid (w.grownBy w1 (some g)) := hg1
      clear hc1 hg1
      go_wp2_with fail
      refine (l01Byte_any _ g B a len cap HC1.out).mono ?_
      rintro e w2 ⟨y, rfl, y0, y1, hc2, hg2⟩
      have HC2 : Hid (Cur w2 g B a len cap) := hc2
      have HG2 : Hid (w.grownBy w2 (some g)) := gb_two HG1.out hg2
      clear hc2 hg2
      go_wp2_with fail
      refine (l01Byte_any _ g B a len cap HC2.out).mono ?_
      rintro e w3 ⟨z, rfl, z0, z1, hc3, hg3⟩
      have HC3 : Hid (Cur w3 g B a len cap) := hc3
      have HG3 : Hid (w.grownBy w3 (some g)) := gb_two HG2.out hg3
      clear hc3 hg3
      go_wp2_with fail
      refine (l01Byte_any _ g B a len cap HC3.out).mono ?_
      rintro e w4 ⟨u, rfl, u0, u1, hc4, hg4⟩
      have HC4 : Hid (Cur w4 g B a len cap) := hc4
      have HG4 : Hid (w.grownBy w4 (some g)) := gb_two HG3.out hg4
      clear hc4 hg4
      go_wp2_with fail
      go_ret
      exact ⟨(x * 16777216 + y * 65536 + z * 256 + u) % n, rfl, Int.emod_nonneg _ (by omega), .inl (Int.emod_lt_of_pos _ (by omega)), HC4.out, HG4.out⟩
end Go.Proofs.Ytdlgailodhlbmaa
/- NestG: A row of rows of numbers that is made row by row, while one block (a cursor) is turned. -/
namespace Go.Proofs.Ytdlgailodhlbmaa
open Go.RowKit

/-- A world's first blocks. -/
def cutW (w : World) (n : Nat) : World := { w with heap := w.heap.extract 0 n }
theorem cutW_size {w : World} {n : Nat} (h : n ≤ w.heap.size) : (cutW w n).heap.size = n := by simp [cutW]; omega
theorem cutW_below {w : World} {n : Nat} (h : n ≤ w.heap.size) : Below (cutW w n).heap.size (cutW w n) w := by
  rw [cutW_size h]
  refine ⟨rfl, rfl, rfl, by rw [cutW_size h]; exact h, fun k hk => ?_⟩
  show w.heap[k]? = (w.heap.extract 0 n)[k]?
  rw [Array.getElem?_extract]
  simp
  intro h2
  omega
/-- Where the making of a row of rows stands, while block g (older) is turned. -/
structure BJ (w wr : World) (g : Nat) (v : Value) (ts : List SR) : Prop where
  own : wr.ownsRow w.heap.size 32 1 v ts.length (svs ts)
  rows : ∀ s ∈ ts, ∃ b, s.loc = some ⟨b, 0, none⟩ ∧ w.heap.size ≤ b ∧ WCells wr b (ics s.row) ∧ s.row.length ≤ s.cap ∧ s.row ≠ []
  apart : (ts.map SR.loc).Nodup
  gb : w.grownBy wr (some g)
theorem BJ.bi {w wr : World} {g : Nat} {v : Value} {ts : List SR} (h : BJ w wr g v ts) : BI (cutW wr w.heap.size) wr v ts := by
  have hs := h.gb.size
  refine ⟨by rw [cutW_size hs]; exact h.own, fun s hs' => by rw [cutW_size hs]; exact h.rows s hs', h.apart, cutW_below hs⟩
theorem BJ.of {w wr w0 : World} {g : Nat} {v : Value} {ts : List SR} (h : BI w0 wr v ts) (e : w0.heap.size = w.heap.size) (hg : w.grownBy wr (some g)) : BJ w wr g v ts :=
  ⟨by rw [← e]; exact h.own, fun s hs => by rw [← e]; exact h.rows s hs, h.apart, hg⟩
theorem BJ.drawn {w wr w' : World} {g : Nat} {v : Value} {ts : List SR} (h : BJ w wr g v ts) (hg : wr.grownBy w' (some g)) (hgw : g < w.heap.size) : BJ w w' g v ts :=
  ⟨h.own.kept hg (.inr fun e => by have := (h.own.lt g e).1; omega), fun s hs => by
    obtain ⟨b, e, q1, q2, q3⟩ := h.rows s hs
    exact ⟨b, e, q1, q2.apart hg (by omega), q3⟩, h.apart, gb_two h.gb hg⟩
theorem BJ.fin {w wr : World} {g : Nat} {v : Value} {ts : List SR} {X : List (List Int)} (h : BJ w wr g v ts) (hX : rws ts = X) : MAns wr v X w.heap.size wr.heap.size := by
  have := h.bi.fin hX
  rw [cutW_size h.gb.size] at this
  exact this
theorem BJ.append {w wr w1 : World} {g : Nat} {v v' : Value} {ts : List SR} {o : Obj} {b : Nat} {row : List Int} {cap : Nat} (h : BJ w wr g v ts) (hb : w.heap.size ≤ b) (hrow : WCells wr b (ics row)) (hne : row ≠ []) (hcap : row.length ≤ cap)
    (hv : ∀ q, v.ownBlock = some q → q ≠ b) (hnew : ∀ s ∈ ts, s.loc ≠ some ⟨b, 0, none⟩)
    (hown : w1.ownsRow w.heap.size 32 1 v' (ts.length + 1) (svs ts ++ [.slice (some ⟨b, 0, none⟩) row.length cap])) (hg : (wr.alloc o).grownBy w1 v.ownBlock) : BJ w w1 g v' (ts ++ [SR.mk (some ⟨b, 0, none⟩) row cap]) := by
  have hs := cutW_size h.gb.size
  have := h.bi.append (cap := cap) (by rw [hs]; exact hb) hrow hne hcap hv hnew (by rw [hs]; exact hown) hg
  refine BJ.of this hs ?_
  have h1 : w.grownBy (wr.alloc o) (some g) := gb_two h.gb (gb_below ((Below.refl wr.heap.size wr).alloc (Nat.le_refl _) o))
  refine ⟨hg.os.trans h1.os, hg.tape.trans h1.tape, hg.output.trans h1.output, Nat.le_trans h1.size hg.size, fun k hk hkg => ?_⟩
  refine (hg.block k (Nat.lt_of_lt_of_le hk h1.size) (fun e => ?_)).trans (h1.block k hk hkg)
  have := (h.own.lt k e.symm).1
  omega
end Go.Proofs.Ytdlgailodhlbmaa
/- DrawB: The draws of the models, on: a new cursor, a text that is drawn, a long one, a choice. -/
namespace Go.Proofs.Ytdlgailodhlbmaa
open Go.RowKit

def NewPost (w : World) (a : Option Addr) (len cap : Nat) (e : Ending) (w' : World) : Prop :=
  ∃ g, e = .returned (.pointer (some ⟨g, 0, none⟩)) ∧ w.heap.size ≤ g ∧ Cur w' g w.heap.size a len cap ∧ Below w.heap.size w w'
theorem new_post {w : World} {a : Option Addr} {len cap : Nat} (hc : CodeAt w w.heap.size a len) (h : Int) :
    NewPost w a len cap (.returned (.pointer (some ⟨w.heap.size, 0, none⟩))) (w.alloc (.cells #[.slice a len cap, .int .i64 0, .int .i64 h] 76)) := by
  have hb : Below w.heap.size w (w.alloc (.cells #[.slice a len cap, .int .i64 0, .int .i64 h] 76)) := (Below.refl _ _).alloc (Nat.le_refl _) _
  refine ⟨_, rfl, Nat.le_refl _, ⟨Nat.le_refl _, by simp, hc.below hb (Nat.le_refl _), ?_, ⟨0, ?_, Nat.zero_le _⟩, ⟨h, ?_⟩, fun j hj => ?_⟩, hb⟩
  · rw [World.cell?_alloc_mark]; rfl
  · rw [World.cell?_alloc_mark]; rfl
  · rw [World.cell?_alloc_mark]; rfl
  · rw [World.frozen?_alloc_mark]; simp

set_option maxRecDepth 100000 in
set_option maxHeartbeats 1000000 in
theorem l01New_any (w : World) (a : Option Addr) (len cap : Nat) (hc : CodeAt w w.heap.size a len) :
    Calls Try.prog 38 #[.slice a len cap] w fun e w' => NewPost w a len cap e w' := by
  have hl := hc.1
  go_enter Try.func38, Try.ntmps38
  go_wp2_with fail
  go_loop [3, 4] (fun h i => ∃ (k : Nat) (hh : Int), h = .int .i64 hh ∧ i = .int .i64 k ∧ k ≤ len) (fun _ i => len - (intOf i).toNat)
  case atStart => exact ⟨0, _, rfl, rfl, Nat.zero_le _⟩
  case round =>
    obtain ⟨k, hh, rfl, rfl, hk⟩ := hrel
    by_cases hlt : k < len
    · by_cases h4 : k < 4000
      · obtain ⟨b, off, rfl, hb, hx⟩ := hc.2 (by omega)
        obtain ⟨x, cx, x0, x1⟩ := hx k hlt
        have k0 : (0 : Int) ≤ (k : Int) := by omega
        have k1 : (k : Int) < (len : Int) := by omega
        clear hx
        go_wp2_with fail
        go_round
        case rel => exact ⟨k + 1, _, rfl, by go_num, by omega⟩
        case measure => simp [intOf]; omega
      · have h4' : ¬ (k : Int) < 4000 := by omega
        go_wp2_with fail
        go_ret
        exact new_post hc _
    · go_wp2_with fail
      go_ret
      exact new_post hc _

def OncePost (w : World) (g B : Nat) (a : Option Addr) (len cap : Nat) (e : Ending) (w' : World) : Prop :=
  ∃ b : Bool, e = .returned (.bool b) ∧ Cur w' g B a len cap ∧ w.grownBy w' (some g)
def TextPost (w : World) (g B : Nat) (a : Option Addr) (len cap : Nat) (n : Nat) (e : Ending) (w' : World) : Prop :=
  ∃ t : ByteArray, e = .returned (.string t) ∧ t.size ≤ n ∧ Cur w' g B a len cap ∧ w.grownBy w' (some g)
def TextIs (w : World) (g B : Nat) (a : Option Addr) (len cap : Nat) (n : Nat) (e : Ending) (w' : World) : Prop :=
  ∃ t : ByteArray, e = .returned (.string t) ∧ t.size = n ∧ Cur w' g B a len cap ∧ w.grownBy w' (some g)
theorem text_step {w wr w2 w3 : World} {g B len cap : Nat} {a : Option Addr} {v v' : Value} {l : List UInt8} {x : Int} {o : Obj} (x0 : 0 ≤ x) (x1 : x ≤ 255) (hs : w.heap.size ≤ wr.heap.size) (hgw : g < w.heap.size)
    (hg : w.grownBy wr (some g)) (hg2 : wr.grownBy w2 (some g)) (hc2 : Cur w2 g B a len cap) (hown : w2.ownsRow w.heap.size 5 1 v l.length (bv l))
    (hown' : w3.ownsRow w.heap.size 5 1 v' (l.length + 1) (bv l ++ [.int .u8 x])) (hgr : (w2.alloc o).grownBy w3 v.ownBlock) :
    Cur w3 g B a len cap ∧ w.grownBy w3 (some g) ∧ w3.ownsRow w.heap.size 5 1 v' (l ++ [UInt8.ofNat x.toNat]).length (bv (l ++ [UInt8.ofNat x.toNat])) := by
  have hlt := hown.lt
  have h2s : wr.heap.size ≤ w2.heap.size := hg2.size
  have hb3 : Below w.heap.size w2 w3 := ((Below.refl _ _).alloc (by omega) o).grown hgr (by simp; omega) (fun j hj => (hlt j hj).1)
  refine ⟨?_, ⟨(hb3.os.trans hg2.os).trans hg.os, (hb3.tape.trans hg2.tape).trans hg.tape, (hb3.output.trans hg2.output).trans hg.output, by have := hb3.size; omega, fun k hk hn => (hb3.block k hk).trans ((hg2.block k (by omega) hn).trans (hg.block k hk hn))⟩, ?_⟩
  · obtain ⟨hB, hgs, hcode, c0, ⟨i, c1, hi⟩, ⟨k, c2⟩, hf⟩ := hc2
    refine ⟨hB, by have := hb3.size; omega, hcode.below hb3 (by omega), (hb3.cell (p := ⟨g, 0, none⟩) hgw).trans c0, ⟨i, (hb3.cell (p := ⟨g, 1, none⟩) hgw).trans c1, hi⟩, ⟨k, (hb3.cell (p := ⟨g, 2, none⟩) hgw).trans c2⟩, fun j hj => (hb3.frozen (p := ⟨g, j, none⟩) hgw).trans (hf j hj)⟩
  · rw [byte_of x x0 (by omega), bv_snoc] at hown'
    simpa using hown'
theorem own_gb {w w' : World} {g C : Nat} {v : Value} {l : List UInt8} (h : w.ownsRow C 5 1 v l.length (bv l)) (hg : w.grownBy w' (some g)) (hC : g < C) : w'.ownsRow C 5 1 v l.length (bv l) :=
  h.kept hg (by
    cases hv : v.ownBlock with
    | none => exact .inl rfl
    | some j => right; have := (h.lt j hv).1; simp; omega)

set_option maxHeartbeats 1000000 in
theorem l01Text_len (w : World) (g B : Nat) (a : Option Addr) (len cap : Nat) (n : Nat) (hn : n ≤ 5000) (hc : Cur w g B a len cap) :
    Calls Try.prog 40 #[.pointer (some ⟨g, 0, none⟩), .int .i64 n] w fun e w' => TextIs w g B a len cap n e w' := by
  obtain ⟨i0, hi, hz0, hz1, hz2⟩ := info_parts Try.info5
  have hgw := hc.2.1
  have HC : Hid (Cur w g B a len cap) := hc
  clear hc
  have hnd : decide ((5000 : Int) < n) = false := by simp; omega
  go_enter Try.func40, Try.ntmps40
  go_wp2_with fail
  go_loopw [5, 6] (fun v i wr => ∃ (k : Nat) (l : List UInt8), i = .int .i64 k ∧ k ≤ n ∧ l.length = k ∧ Cur wr g B a len cap ∧ w.grownBy wr (some g) ∧ wr.ownsRow w.heap.size 5 1 v l.length (bv l)) (fun _ i _ => n - (intOf i).toNat)
  case atStart => exact ⟨0, [], rfl, by omega, rfl, HC.out.below ((Below.refl _ _).alloc (Nat.le_refl _) _), gb_below ((Below.refl _ _).alloc (Nat.le_refl _) _), World.ownsRow_made w #[] 0 (Nat.le_refl _) (by decide) rfl⟩
  case round =>
    obtain ⟨k, l, rfl, hk, hlk, hc1, hg1, hown⟩ := hrel
    have HC1 : Hid (Cur wr g B a len cap) := hc1
    have HG1 : Hid (w.grownBy wr (some g)) := hg1
    have HL : Hid (l.length = k) := hlk
    have hll : l.length ≤ 5000 := by omega
    have hs1 := hg1.size
    clear hc1 hg1 hlk
    by_cases hlt : k < n
    · go_wp2_with fail
      refine (l01Byte_any _ g B a len cap HC1.out).mono ?_
      rintro e w2 ⟨x, rfl, x0, x1, hc2, hg2⟩
      have HC2 : Hid (Cur w2 g B a len cap) := hc2
      have HG2 : Hid (wr.grownBy w2 (some g)) := hg2
      have hown2 := own_gb hown hg2 hgw
      have hs2 := hg2.size
      clear hc2 hg2 hown
      go_wp2_with (at_builtin; refine wpList_append_own _ rfl _ _ 22 rfl w.heap.size 5 i0 (.int .u8 0) 1 1 Try.underlying22 hi hz0 hz1 hz2 rfl (by decide) _ _ _ rfl (hown2.alloc _) ⟨w2.heap.size, 0, none⟩ 1 1 [.int .u8 _] rfl rfl (cell_one_new _ _ _) ?c2 ?c3 ?c4 ?c5 ?_)
      case c2 => first | rfl | (intro u hu; simp at hu; subst hu; rfl)
      case c3 => unfold maxLen; omega
      case c4 => omega
      case c5 => first | omega | (simp; omega)
      · intro v' w3 hown' hgrow _
        obtain ⟨q1, q2, q3⟩ := text_step x0 x1 hs1 hgw HG1.out HG2.out HC2.out hown2 hown' hgrow
        clear hown' hgrow hown2
        go_wp2_with fail
        go_roundw
        case rel => exact ⟨k + 1, _, by go_num, by omega, by have := HL.out; simp; omega, q1, q2, q3⟩
        case measure => simp [intOf]; omega
    · have hcv := own_string hown
      go_wp2_with fail
      go_ret
      exact ⟨⟨l.toArray⟩, rfl, by have := HL.out; show l.length = n; omega, HC1.out, HG1.out⟩
theorem l01Text_any (w : World) (g B : Nat) (a : Option Addr) (len cap : Nat) (n : Nat) (hn : n ≤ 5000) (hc : Cur w g B a len cap) :
    Calls Try.prog 40 #[.pointer (some ⟨g, 0, none⟩), .int .i64 n] w fun e w' => TextPost w g B a len cap n e w' :=
  (l01Text_len w g B a len cap n hn hc).mono fun _ _ ⟨t, he, hs, h⟩ => ⟨t, he, Nat.le_of_eq hs, h⟩
end Go.Proofs.Ytdlgailodhlbmaa
