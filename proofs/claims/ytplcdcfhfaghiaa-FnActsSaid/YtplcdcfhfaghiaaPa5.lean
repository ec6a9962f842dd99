/- Texts of ours, laid one behind the other: MatH, SqA, DrPk, BRowM, DrawC, DecM, Dec, DiskT. -/
import Derived.Test.YtplcdcfhfaghiaaPa4
import Derived.Deep.CutRange
import Derived.OwnWalk
import Derived.Deep.RegionHeld3
import Derived.Deep.DrawnRows
import Derived.PlainAid
import Derived.Deep.LoopGhost
import Derived.BigQuiet
import Derived.Deep.QuietTactic
/- MatH: The walk of the model's InvM. -/
namespace Go.Proofs.Ytplcdcfhfaghiaa
set_option maxRecDepth 100000
open Go.RowKit
open W (B8 Mx)
attribute [local go_sem ↓] Go.wp_at_zero Go.wp_at_succ
attribute [local irreducible] W.gm W.xs W.mm W.gi mx

/-- Rows of numbers where they lie. -/
def Rows2 (w : World) (X : List (List Int)) (n b off : Nat) : Prop := b < w.heap.size ∧ ∀ i, i < n → ∃ b' o' cp, w.cell? ⟨b, off + i, none⟩ = some (.slice (some ⟨b', o', none⟩) n cp) ∧ b' < w.heap.size ∧ ∀ j, j < n → w.cell? ⟨b', o' + j, none⟩ = some (.int .i64 ((X.getD i []).getD j 0))
theorem Rows2.below {w w' : World} {X : List (List Int)} {n b off : Nat} (h : Rows2 w X n b off) (hb : Below w.heap.size w w') : Rows2 w' X n b off := ⟨Nat.lt_of_lt_of_le h.1 hb.size, fun i hi => by
  obtain ⟨b', o', cp, e, hl, hc⟩ := h.2 i hi
  exact ⟨b', o', cp, (hb.cell (p := ⟨b, off + i, none⟩) h.1).trans e, Nat.lt_of_lt_of_le hl hb.size, fun j hj => (hb.cell (p := ⟨b', o' + j, none⟩) hl).trans (hc j hj)⟩⟩
/-- What InvM answers. -/
def InvPost (X : List (List Int)) (w : World) (e : Ending) (w' : World) : Prop := ∃ v, e = .returned (.tuple #[v, .bool (invX X).2]) ∧ MAns w' v (invX X).1 w.heap.size w'.heap.size ∧ Below w.heap.size w w'
theorem invPost_no {X : List (List Int)} {w w' : World} {e : Ending} {a : Option Addr} {cap : Nat} (h : invX X = ([], false)) (he : e = .returned (.tuple #[.slice a 0 cap, .bool false])) (hb : Below w.heap.size w w') : InvPost X w e w' := by
  unfold InvPost
  rw [h]
  exact ⟨_, he, MAns.empty _ _ _ _ _, hb⟩
theorem invPost_yes {X Y : List (List Int)} {w w' : World} {e : Ending} {v : Value} (h : IsInv X Y) (he : e = .returned (.tuple #[v, .bool true])) (hv : MAns w' v Y w.heap.size w'.heap.size) (hb : Below w.heap.size w w') : InvPost X w e w' := by
  unfold InvPost
  rw [invX_yes h]
  exact ⟨v, he, hv, hb⟩
theorem own_wider1 {w : World} {B C n sz : Nat} {t : TypeId} {v : Value} {L : List Value} (h : w.ownsRow B t sz v n L) (hC : C ≤ B) : w.ownsRow C t sz v n L := by
  obtain ⟨h1, h | ⟨g, cap, cur, e, hB, rest⟩⟩ := h
  · exact ⟨h1, .inl h⟩
  · exact ⟨h1, .inr ⟨g, cap, cur, e, Nat.le_trans hC hB, rest⟩⟩
theorem own_some {w : World} {B n sz : Nat} {t : TypeId} {v : Value} {L : List Value} (h : w.ownsRow B t sz v n L) (hp : 0 < n) : ∃ g cap, v = .slice (some ⟨g, 0, none⟩) n cap ∧ n ≤ cap := by
  rcases h.2 with ⟨_, h0⟩ | ⟨g, cap, _, rfl, _, _, hc, _⟩
  · omega
  · exact ⟨g, cap, rfl, hc⟩
theorem BI.up {w w1 wr : World} {v : Value} {ts : List SR} (h : BI w1 wr v ts) (hb : Below w.heap.size w w1) : BI w wr v ts :=
  ⟨own_wider1 h.own hb.size, fun s hs => by
    obtain ⟨b, e, q1, q2⟩ := h.rows s hs
    exact ⟨b, e, Nat.le_trans hb.size q1, q2⟩, h.apart, hb.trans (h.bel.mono hb.size)⟩
end Go.Proofs.Ytplcdcfhfaghiaa
/- SqA: The draws of squares. -/
namespace Go.Proofs.Ytplcdcfhfaghiaa
set_option maxRecDepth 100000
open Go.RowKit
attribute [local go_sem ↓] Go.wp_at_zero Go.wp_at_succ

/-- A number that is picked out of a row is one of it. -/
def PickPost (P : Int → Prop) (w : World) (g B : Nat) (a : Option Addr) (len cap : Nat) (e : Ending) (w' : World) : Prop :=
  ∃ x : Int, e = .returned (.int .i64 x) ∧ P x ∧ Cur w' g B a len cap ∧ w.grownBy w' (some g)
set_option maxHeartbeats 400000 in
theorem l01PickInt_in (P : Int → Prop) (w : World) (g B : Nat) (a : Option Addr) (len cap : Nat) (gl m : Nat) (hm : 0 < m) (hm2 : m ≤ 1000) (hne : gl ≠ g) (hl : ∀ j, j < m → ∃ y : Int, w.cell? ⟨gl, j, none⟩ = some (.int .i64 y) ∧ P y) (hc : Cur w g B a len cap) :
    Calls Try.prog 32 #[.pointer (some ⟨g, 0, none⟩), .slice (some ⟨gl, 0, none⟩) m m] w fun e w' => PickPost P w g B a len cap e w' := by
  have HC : Hid (Cur w g B a len cap) := hc
  have HL : Hid (∀ j, j < m → ∃ y : Int, w.cell? ⟨gl, j, none⟩ = some (.int .i64 y) ∧ P y) := hl
  clear hc hl
  go_enter Try.func32, Try.ntmps32
  go_wp2_with fail
  refine (l01Below_any _ g B a len cap m (by omega) HC.out).mono ?_
  rintro e w1 ⟨x, rfl, x0, x1, hc1, hg1⟩
  have HC1 : Hid (Cur w1 g B a len cap) := hc1
  have HG : Hid (w.grownBy w1 (some g)) := hg1
  obtain ⟨j, rfl⟩ := Int.eq_ofNat_of_zero_le x0
  obtain ⟨y, hy, hp⟩ := HL.out j (by omega)
  have c1 := hg1.cell hy (by simp; omega)
  have j1 : (j : Int) < (m : Int) := by omega
  have HP : Hid (P y) := hp
  clear hc1 hg1 hy hp
  go_wp2_with fail
  go_ret
  exact ⟨y, rfl, HP.out, HC1.out, HG.out⟩
theorem five_ints (w : World) (t : TypeId) (P : Int → Prop) (y0 y1 y2 y3 y4 : Int) (h0 : P y0) (h1 : P y1) (h2 : P y2) (h3 : P y3) (h4 : P y4) (j : Nat) (hj : j < 5) :
    ∃ y : Int, (w.alloc (.cells #[.int .i64 y0, .int .i64 y1, .int .i64 y2, .int .i64 y3, .int .i64 y4] t)).cell? ⟨w.heap.size, j, none⟩ = some (.int .i64 y) ∧ P y := by
  rw [World.cell?_alloc_mark]
  match j, hj with
  | 0, _ => exact ⟨y0, rfl, h0⟩
  | 1, _ => exact ⟨y1, rfl, h1⟩
  | 2, _ => exact ⟨y2, rfl, h2⟩
  | 3, _ => exact ⟨y3, rfl, h3⟩
  | 4, _ => exact ⟨y4, rfl, h4⟩
def SquarePost (n : Nat) (w : World) (g B : Nat) (a : Option Addr) (len cap : Nat) (e : Ending) (w' : World) : Prop :=
  ∃ v X, e = .returned v ∧ Sq n X ∧ MAns w' v X w.heap.size w'.heap.size ∧ Cur w' g B a len cap ∧ w.grownBy w' (some g)
theorem cur_grown {w w' : World} {g B len cap C : Nat} {a : Option Addr} {q : Option Nat} (h : Cur w g B a len cap) (hg : w.grownBy w' q) (hC : g < C) (hCs : C ≤ w.heap.size) (hq2 : ∀ k, q = some k → C ≤ k) : Cur w' g B a len cap := by
  have hb3 : Below C w w' := ⟨hg.os, hg.tape, hg.output, hg.size, fun k hk => hg.block k (by omega) (fun e => by have := hq2 k e.symm; omega)⟩
  obtain ⟨hB, hgs, hcode, c0, ⟨i, c1, hi⟩, ⟨k, c2⟩, hf⟩ := h
  exact ⟨hB, by have := hb3.size; omega, hcode.below hb3 (by omega), (hb3.cell (p := ⟨g, 0, none⟩) hC).trans c0, ⟨i, (hb3.cell (p := ⟨g, 1, none⟩) hC).trans c1, hi⟩, ⟨k, (hb3.cell (p := ⟨g, 2, none⟩) hC).trans c2⟩, fun j hj => (hb3.frozen (p := ⟨g, j, none⟩) hC).trans (hf j hj)⟩
abbrev In8 (y : Int) : Prop := 0 ≤ y ∧ y ≤ 255
/-- Three squares that are drawn. -/
def SquaresDrawn (w : World) (e : Ending) (w' : World) : Prop :=
  ∃ (n : Nat) (v1 v2 v3 : Value) (X Y Z : List (List Int)), e = .returned (.tuple #[v1, v2, v3]) ∧ 1 ≤ n ∧ n ≤ 3 ∧ Sq n X ∧ Sq n Y ∧ Sq n Z ∧ MAns w' v1 X w.heap.size w'.heap.size ∧ MAns w' v2 Y w.heap.size w'.heap.size ∧ MAns w' v3 Z w.heap.size w'.heap.size ∧ Below w.heap.size w w'
theorem MAns.wide {w : World} {v : Value} {X : List (List Int)} {lo hi lo' hi' : Nat} (h : MAns w v X lo hi) (h1 : lo' ≤ lo) (h2 : hi ≤ hi') : MAns w v X lo' hi' := by
  obtain ⟨a, cap, ss, e, hr, hc, q⟩ := h
  refine ⟨a, cap, ss, e, hr, hc, ?_⟩
  rcases q with rfl | ⟨g, rfl, hm⟩
  · exact .inl rfl
  · exact .inr ⟨g, rfl, hm.wide h1 h2⟩
theorem MAns.drawn {w w' : World} {v : Value} {X : List (List Int)} {lo hi g : Nat} (h : MAns w v X lo hi) (hg : w.grownBy w' (some g)) (hl : g < lo) : MAns w' v X lo hi :=
  h.turned (Turned.of_grown (lo := g) (hi := g + 1) hg (Nat.le_refl _) (by omega)) (.inr hl)
end Go.Proofs.Ytplcdcfhfaghiaa
/- DrPk: A text that is picked out of a row is one of it. -/
namespace Go.Proofs.Ytplcdcfhfaghiaa
set_option maxRecDepth 100000
open Go.RowKit
attribute [local go_sem ↓] Go.wp_at_zero Go.wp_at_succ

/-- No byte of it is a z. -/
def noZ (t : ByteArray) : Bool := t.data.toList.all (· != 122)
theorem noZ_app (a b : ByteArray) : noZ (a ++ b) = (noZ a && noZ b) := by unfold noZ; rw [ByteArray.toList_data_append, List.all_append]
def PickPostS (P : ByteArray → Prop) (w : World) (g B : Nat) (a : Option Addr) (len cap : Nat) (e : Ending) (w' : World) : Prop :=
  ∃ x : ByteArray, e = .returned (.string x) ∧ P x ∧ Cur w' g B a len cap ∧ w.grownBy w' (some g)
set_option maxHeartbeats 400000 in
theorem l01Pick_in (P : ByteArray → Prop) (w : World) (g B : Nat) (a : Option Addr) (len cap : Nat) (gl m : Nat) (hm : 0 < m) (hm2 : m ≤ 1000) (hne : gl ≠ g) (hl : ∀ j, j < m → ∃ y : ByteArray, w.cell? ⟨gl, j, none⟩ = some (.string y) ∧ P y) (hc : Cur w g B a len cap) :
    Calls Try.prog 33 #[.pointer (some ⟨g, 0, none⟩), .slice (some ⟨gl, 0, none⟩) m m] w fun e w' => PickPostS P w g B a len cap e w' := by
  have HC : Hid (Cur w g B a len cap) := hc
  have HL : Hid (∀ j, j < m → ∃ y : ByteArray, w.cell? ⟨gl, j, none⟩ = some (.string y) ∧ P y) := hl
  clear hc hl
  go_enter Try.func33, Try.ntmps33
  go_wp2_with fail
  refine (l01Below_any _ g B a len cap m (by omega) HC.out).mono ?_
  rintro e w1 ⟨x, rfl, x0, x1, hc1, hg1⟩
  have HC1 : Hid (Cur w1 g B a len cap) := hc1
  have HG : Hid (w.grownBy w1 (some g)) := hg1
  obtain ⟨j, rfl⟩ := Int.eq_ofNat_of_zero_le x0
  obtain ⟨y, hy, hp⟩ := HL.out j (by omega)
  have c1 := hg1.cell hy (by simp; omega)
  have j1 : (j : Int) < (m : Int) := by omega
  have HP : Hid (P y) := hp
  clear hc1 hg1 hy hp
  go_wp2_with fail
  go_ret
  exact ⟨y, rfl, HP.out, HC1.out, HG.out⟩
/-- Texts that were laid into a new row. -/
theorem new_texts (w : World) (t : TypeId) (P : ByteArray → Prop) (L : List ByteArray) (h : ∀ y ∈ L, P y) (j : Nat) (hj : j < L.length) :
    ∃ y : ByteArray, (w.alloc (.cells (L.map Value.string).toArray t)).cell? ⟨w.heap.size, j, none⟩ = some (.string y) ∧ P y := by
  rw [World.cell?_alloc_mark]
  exact ⟨L[j], by simp [hj], h _ (List.getElem_mem hj)⟩
end Go.Proofs.Ytplcdcfhfaghiaa
/- BRowM: Rows of bytes that may be written: of a call's own, and made of a text. -/
namespace Go.Proofs.Ytplcdcfhfaghiaa
set_option maxRecDepth 100000
open Go.RowKit

/-- A row of bytes that may be written. -/
def BRow (w : World) (g : Nat) (l : List UInt8) : Prop :=
  g < w.heap.size ∧ ∀ j, j < l.length → w.cell? ⟨g, j, none⟩ = some (.int .u8 ((l.getD j 0).toNat : Int)) ∧ w.frozen? ⟨g, j, none⟩ = false
theorem BRow.set {w : World} {g : Nat} {l : List UInt8} (h : BRow w g l) (i : Nat) (x : UInt8) (hi : i < l.length) : BRow (w.setCell ⟨g, i, none⟩ (.int .u8 (x.toNat : Int))) g (l.set i x) := by
  refine ⟨by have := h.1; simpa [World.setCell] using this, fun j hj => ?_⟩
  rw [List.length_set] at hj
  refine ⟨?_, (World.frozen?_setCell _ _ _ _).trans (h.2 j hj).2⟩
  by_cases e : j = i
  · subst e
    rw [World.cell?_setCell_same _ _ _ (h.2 j hj).1]
    simp [List.getD, hi]
  · rw [World.cell?_setCell_other _ _ _ _ (by first | (simp; done) | (simp; omega)), (h.2 j hj).1]
    simp [List.getD, Ne.symm e]
theorem own_brow {w : World} {B g n cap : Nat} {l : List UInt8} (h : w.ownsRow B 5 1 (.slice (some ⟨g, 0, none⟩) n cap) n (bv l)) : BRow w g l := by
  have hc := h.cells (g := g) rfl
  have hlt := h.lt g rfl
  obtain ⟨_, ⟨h0, _⟩ | ⟨g', cap', cur, he, hB, hcur, _, _, _, _⟩⟩ := h
  · cases h0
  · have eg : g' = g := by simp at he; exact he.1.symm
    subst eg
    refine ⟨hlt.2, fun j hj => ⟨?_, ?_⟩⟩
    · have := hc j _ (show (bv l)[j]? = some _ by simp [bv, hj]; rfl)
      have e : (⟨g', 0, none⟩ : Addr).add j = ⟨g', j, none⟩ := by cases j <;> simp [Addr.add]
      rw [e] at this
      simpa [List.getD, hj] using this
    · unfold World.frozen?
      rw [hcur]; simp
theorem brow_string {w : World} {g cap : Nat} {l : List UInt8} (h : BRow w g l) :
    (convert 22 9 (.slice (some ⟨g, 0, none⟩) l.length cap)).run Try.prog w = .ok (.string ⟨l.toArray⟩) w :=
  run_convert_bytes_back w 22 9 5 ⟨g, 0, none⟩ cap l Try.underlying22 Try.underlying5 Try.underlying9 (fun j hj => by
    have e : (⟨g, 0, none⟩ : Addr).add j = ⟨g, j, none⟩ := by cases j <;> simp [Addr.add]
    rw [e, (h.2 j hj).1]
    simp [List.getD, hj])
/-- The bytes of a text, in a block of their own. -/
theorem bytes_made (w : World) (s : ByteArray) : ∃ (w' : World) (c : Nat), (convert 9 22 (.string s)).run Try.prog w = .ok (.slice (some ⟨w.heap.size, 0, none⟩) s.size c) w' ∧ BRow w' w.heap.size s.data.toList ∧ Below w.heap.size w w' := by
  refine ⟨_, _, run_bytes_of_string w 9 22 5 s Try.underlying9 Try.underlying22 Try.underlying5, ⟨?_, fun j hj => ⟨?_, ?_⟩⟩, ?_⟩
  · show w.heap.size < (w.heap.push _).size
    simp
  · rw [show w.heap.size = w.drew.heap.size from rfl, World.cell?_alloc_mark]
    have hj' : j < s.data.size := by simpa using hj
    unfold bytesRow
    rw [Array.getElem?_append_left (by simpa using hj')]
    simp only [Array.getElem?_map, List.getD, Array.getElem?_toList]
    rw [Array.getElem?_eq_getElem hj']
    rfl
  · rw [show w.heap.size = w.drew.heap.size from rfl, World.frozen?_alloc_mark]
    have hj' : j < s.data.size := by simpa using hj
    have h2 : j < (bytesRow s (grownCap w s.size 0 5)).size := by unfold bytesRow; rw [Array.size_append, Array.size_map]; omega
    rw [decide_eq_false (show ¬ (bytesRow s (grownCap w s.size 0 5)).size ≤ j by omega)]
    rfl
  · exact (Below.drew (Below.refl _ _)).alloc (Nat.le_refl _) _
end Go.Proofs.Ytplcdcfhfaghiaa
/- DrawC: The draws of chapter 1. -/
namespace Go.Proofs.Ytplcdcfhfaghiaa
set_option maxRecDepth 100000
open Go.RowKit

set_option maxHeartbeats 1000000 in
theorem l01Long_any (w : World) (n : Nat) (x : UInt8) (hn : n ≤ 1048576) :
    Calls Try.prog 35 #[.int .i64 n, .int .u8 (x.toNat : Int)] w fun e w' => ∃ t : ByteArray, e = .returned (.string t) ∧ t.size = n ∧ Below w.heap.size w w' := by
  obtain ⟨i0, hi, hz0, hz1, hz2⟩ := info_parts Try.info5
  go_enter Try.func35, Try.ntmps35
  go_wp2_with (at_make; refine wpList_make_full _ rfl _ _ 22 rfl w.heap.size 5 i0 (.int .u8 0) 1 Try.underlying22 hi hz0 hz1 .i64 .i64 _ _ n rfl rfl (by omega) (by omega) ?b2 ?b3 ?b4 ?_)
  case b2 => rw [hz2]; omega
  case b3 => unfold maxLen; omega
  case b4 => omega
  intro wm hownm hgrm
  have hbm : Below w.heap.size w wm := (Below.refl _ _).grown hgrm (Nat.le_refl _) (fun j hj => by simp at hj)
  have hrow : BRow wm w.heap.size (List.replicate n 0) := own_brow (B := w.heap.size) (cap := n) (n := n) (by
    have e : (madeCells #[Value.int IntKind.u8 0] n).toList = bv (List.replicate n 0) := by
      rw [toList_madeCells_one]; simp [bv]
    rw [e] at hownm; exact hownm)
  clear hownm hgrm
  go_wp2_with fail
  go_loopw [6] (fun i wr => ∃ (k : Nat) (l : List UInt8), i = .int .i64 k ∧ k ≤ n ∧ l.length = n ∧ BRow wr w.heap.size l ∧ Below w.heap.size w wr) (fun i _ => n - (intOf i).toNat)
  case atStart => exact ⟨0, _, rfl, by omega, by simp, hrow, hbm⟩
  case round =>
    clear hrow hbm
    obtain ⟨k, l, rfl, hk, hl, hr, hb⟩ := hrel
    have HL : Hid (l.length = n) := hl
    clear hl
    by_cases hlt : k < n
    · have k0 : (0 : Int) ≤ (k : Int) := by omega
      have k1 : (k : Int) < (n : Int) := by omega
      have c1 := (hr.2 k (by have := HL.out; omega)).1
      have c2 := (hr.2 k (by have := HL.out; omega)).2
      have hset := hr.set k x (by have := HL.out; omega)
      have hbn := hb.setCell (p := ⟨w.heap.size, k, none⟩) (Nat.le_refl _) (.int .u8 (x.toNat : Int))
      clear hr hb
      go_wp2_with fail
      go_roundw
      case rel => exact ⟨k + 1, _, by go_num, by omega, by rw [List.length_set]; exact HL.out, hset, hbn⟩
      case measure => simp [intOf]; omega
    · have hcv := brow_string (cap := n) hr
      rw [HL.out] at hcv
      go_wp2_with fail
      go_ret
      exact ⟨⟨l.toArray⟩, rfl, HL.out, hb⟩

theorem long_int (w : World) (x : Int) (c : UInt8) (h0 : 0 ≤ x) (h1 : x ≤ 1048576) :
    Calls Try.prog 35 #[.int .i64 x, .int .u8 (c.toNat : Int)] w fun e w' => ∃ t : ByteArray, e = .returned (.string t) ∧ t.size = x.toNat ∧ Below w.heap.size w w' := by
  obtain ⟨n, rfl⟩ := Int.eq_ofNat_of_zero_le h0
  exact l01Long_any w n c (by omega)
def IntPost (w : World) (g B : Nat) (a : Option Addr) (len cap : Nat) (e : Ending) (w' : World) : Prop :=
  ∃ x : Int, e = .returned (.int .i64 x) ∧ Cur w' g B a len cap ∧ w.grownBy w' (some g)
set_option maxHeartbeats 400000 in
theorem l01PickInt_any (w : World) (g B : Nat) (a : Option Addr) (len cap : Nat) (gl m : Nat) (hm : 0 < m) (hm2 : m ≤ 1000) (hne : gl ≠ g) (hl : ∀ j, j < m → ∃ y : Int, w.cell? ⟨gl, j, none⟩ = some (.int .i64 y)) (hc : Cur w g B a len cap) :
    Calls Try.prog 32 #[.pointer (some ⟨g, 0, none⟩), .slice (some ⟨gl, 0, none⟩) m m] w fun e w' => IntPost w g B a len cap e w' := by
  have HC : Hid (Cur w g B a len cap) := hc
  have HL : Hid (∀ j, j < m → ∃ y : Int, w.cell? ⟨gl, j, none⟩ = some (.int .i64 y)) := hl
  clear hc hl
  go_enter Try.func32, Try.ntmps32
  go_wp2_with fail
  refine (l01Below_any _ g B a len cap m (by omega) HC.out).mono ?_
  rintro e w1 ⟨x, rfl, x0, x1, hc1, hg1⟩
  have HC1 : Hid (Cur w1 g B a len cap) := hc1
  have HG : Hid (w.grownBy w1 (some g)) := hg1
  obtain ⟨j, rfl⟩ := Int.eq_ofNat_of_zero_le x0
  obtain ⟨y, hy⟩ := HL.out j (by omega)
  have c1 := hg1.cell hy (by simp; omega)
  have j1 : (j : Int) < (m : Int) := by omega
  clear hc1 hg1 hy
  go_wp2_with fail
  go_ret
  exact ⟨y, rfl, HC1.out, HG.out⟩

theorem ten_ints (w : World) (t : TypeId) (y0 y1 y2 y3 y4 y5 y6 y7 y8 y9 : Int) (j : Nat) (hj : j < 10) :
    ∃ y : Int, (w.alloc (.cells #[.int .i64 y0, .int .i64 y1, .int .i64 y2, .int .i64 y3, .int .i64 y4, .int .i64 y5, .int .i64 y6, .int .i64 y7, .int .i64 y8, .int .i64 y9] t)).cell? ⟨w.heap.size, j, none⟩ = some (.int .i64 y) := by
  rw [World.cell?_alloc_mark]
  match j, hj with
  | 0, _ => exact ⟨y0, rfl⟩
  | 1, _ => exact ⟨y1, rfl⟩
  | 2, _ => exact ⟨y2, rfl⟩
  | 3, _ => exact ⟨y3, rfl⟩
  | 4, _ => exact ⟨y4, rfl⟩
  | 5, _ => exact ⟨y5, rfl⟩
  | 6, _ => exact ⟨y6, rfl⟩
  | 7, _ => exact ⟨y7, rfl⟩
  | 8, _ => exact ⟨y8, rfl⟩
  | 9, _ => exact ⟨y9, rfl⟩

end Go.Proofs.Ytplcdcfhfaghiaa
/- DecM: Plain facts on figures: 'dg n' are the figures of n (none of 0), 'decS n' those that Decimal writes; the two ways of reading them back are one. -/
namespace Go.Proofs.Ytplcdcfhfaghiaa.W

def dgF : Nat → Nat → List UInt8
  | 0, _ => []
  | f + 1, n => if n = 0 then [] else dgF f (n / 10) ++ [UInt8.ofNat (48 + n % 10)]
def dg (n : Nat) : List UInt8 := dgF n n
theorem dgF_enough : ∀ (f g n : Nat), n ≤ f → n ≤ g → dgF f n = dgF g n
  | 0, 0, _, _, _ => rfl
  | 0, g + 1, n, h, _ => by have : n = 0 := (by omega); subst this; simp [dgF]
  | f + 1, 0, n, _, h => by have : n = 0 := (by omega); subst this; simp [dgF]
  | f + 1, g + 1, n, h1, h2 => by
    unfold dgF
    by_cases h : n = 0
    · rw [if_pos h, if_pos h]
    · rw [if_neg h, if_neg h, dgF_enough f g (n / 10) (by omega) (by omega)]
theorem dg_zero : dg 0 = [] := rfl
theorem dg_step (n : Nat) (h : 0 < n) : dg n = dg (n / 10) ++ [UInt8.ofNat (48 + n % 10)] := by
  unfold dg
  match n, h with
  | k + 1, _ => rw [dgF, if_neg (by omega), dgF_enough k ((k + 1) / 10) ((k + 1) / 10) (by omega) (by omega)]
def decS (n : Nat) : List UInt8 := if n = 0 then [48] else dg n
theorem dg_len : ∀ (k n : Nat), n < 10 ^ k → (dg n).length ≤ k
  | 0, n, h => by have : n = 0 := (by simpa using h); subst this; simp [dg_zero]
  | k + 1, n, h => by
    by_cases hn : n = 0
    · subst hn; simp [dg_zero]
    · rw [dg_step n (by omega)]
      have := dg_len k (n / 10) (by rw [Nat.pow_succ] at h; omega)
      simp; omega
/-- No figures begin with a nought. -/
theorem dg_head : ∀ (f n : Nat), n ≤ f → (dg n).head? ≠ some 48
  | 0, n, h => by have : n = 0 := (by omega); subst this; simp [dg_zero]
  | f + 1, n, h => by
    by_cases hn : n = 0
    · subst hn; simp [dg_zero]
    · rw [dg_step n (by omega)]
      by_cases h10 : n / 10 = 0
      · rw [h10, dg_zero]
        simp
        intro e
        have := congrArg UInt8.toNat e
        simp at this
        omega
      · have ih := dg_head f (n / 10) (by omega)
        have hne : dg (n / 10) ≠ [] := by rw [dg_step _ (by omega)]; simp
        cases hc : dg (n / 10) with
        | nil => exact absurd hc hne
        | cons a r => rw [hc] at ih; simpa using ih

abbrev isFig (c : UInt8) : Prop := 48 ≤ c.toNat ∧ c.toNat ≤ 57
def numV (l : List UInt8) : Nat := l.foldl (fun n c => 10 * n + (c.toNat - 48)) 0
theorem numV_snoc (l : List UInt8) (c : UInt8) : numV (l ++ [c]) = 10 * numV l + (c.toNat - 48) := by simp [numV]
theorem foldl_le (l : List UInt8) : ∀ n : Nat, n ≤ l.foldl (fun n c => 10 * n + (c.toNat - 48)) n := by
  induction l with
  | nil => intro n; simp
  | cons c l ih => intro n; simp only [List.foldl_cons]; have := ih (10 * n + (c.toNat - 48)); omega
theorem numV_app (l r : List UInt8) : numV l ≤ numV (l ++ r) := by
  unfold numV; rw [List.foldl_append]; exact foldl_le r _
theorem numV_bd : ∀ (l : List UInt8) (n : Nat), (∀ c ∈ l, isFig c) → l.foldl (fun n c => 10 * n + (c.toNat - 48)) n + 1 ≤ (n + 1) * 10 ^ l.length
  | [], n, _ => by simp
  | c :: l, n, h => by
    have hc := h c (by simp)
    have := numV_bd l (10 * n + (c.toNat - 48)) (fun x hx => h x (by simp [hx]))
    simp only [List.foldl_cons, List.length_cons, Nat.pow_succ]
    have h2 : (10 * n + (c.toNat - 48) + 1) * 10 ^ l.length ≤ ((n + 1) * 10) * 10 ^ l.length := Nat.mul_le_mul_right _ (by unfold isFig at hc; omega)
    have h3 : (n + 1) * 10 * 10 ^ l.length = (n + 1) * (10 ^ l.length * 10) := by rw [Nat.mul_assoc, Nat.mul_comm 10]
    omega
theorem numV_lt (l : List UInt8) (h : ∀ c ∈ l, isFig c) : numV l < 10 ^ l.length := by
  have := numV_bd l 0 h
  unfold numV; omega

/-- What ReadDecimal answers. -/
def rdS (l : List UInt8) : Option Nat :=
  if l.length ≤ 10 ∧ (∀ c ∈ l, isFig c) ∧ numV l ≤ 1000000000 ∧ decS (numV l) = l then some (numV l) else none

theorem rdS_no (l : List UInt8) (h : ¬ (l.length ≤ 10 ∧ (∀ c ∈ l, isFig c) ∧ numV l ≤ 1000000000 ∧ decS (numV l) = l)) : rdS l = none := by
  unfold rdS; rw [if_neg h]
theorem rdS_yes (l : List UInt8) (h1 : l.length ≤ 10) (h2 : ∀ c ∈ l, isFig c) (h3 : numV l ≤ 1000000000) (h4 : decS (numV l) = l) : rdS l = some (numV l) := by
  unfold rdS; rw [if_pos ⟨h1, h2, h3, h4⟩]
theorem rdS_nil : rdS [] = none := rdS_no _ (by rintro ⟨_, _, _, h⟩; simp [numV, decS] at h)
theorem rdS_bad (p r : List UInt8) (c : UInt8) (h : ¬ isFig c) : rdS (p ++ c :: r) = none := rdS_no _ (fun x => h (x.2.1 c (by simp)))
theorem rdS_great (p r : List UInt8) (h : 1000000000 < numV p) : rdS (p ++ r) = none := rdS_no _ (fun x => by have := numV_app p r; have := x.2.2.1; omega)
theorem rdS_nought (r : List UInt8) (h : r ≠ []) : rdS (48 :: r) = none := rdS_no _ (fun x => by
  have h4 := x.2.2.2
  unfold decS at h4
  split at h4
  · simp at h4; exact h h4
  · have := dg_head _ _ (Nat.le_refl (numV (48 :: r)))
    rw [h4] at this
    simp at this)

/-- Figures read so far, with no needless nought. -/
def good (p : List UInt8) : Prop := (∀ c ∈ p, isFig c) ∧ (p = [] ∨ p = [48] ∨ (0 < numV p ∧ dg (numV p) = p))
theorem good_nil : good [] := ⟨fun _ h => by simp at h, .inl rfl⟩
theorem fig_byte (c : UInt8) (h : isFig c) : UInt8.ofNat (48 + (c.toNat - 48)) = c := by
  unfold isFig at h
  have : 48 + (c.toNat - 48) = c.toNat := by omega
  rw [this]; simp
theorem good_step (p : List UInt8) (c : UInt8) (hp : good p) (hc : isFig c) (h0 : p = [] ∨ 0 < numV p) : good (p ++ [c]) := by
  have h0c : (∀ x ∈ p ++ [c], isFig x) := by
    intro x hx
    rcases List.mem_append.1 hx with h | h
    · exact hp.1 x h
    · simp at h; subst h; exact hc
  refine ⟨h0c, ?_⟩
  have hd : dg (numV p) = p := by
    rcases hp.2 with h | h | h
    · subst h; rfl
    · subst h; rcases h0 with h | h
      · simp at h
      · simp [numV] at h
    · exact h.2
  by_cases hz : numV (p ++ [c]) = 0
  · rw [numV_snoc] at hz
    have hp0 : p = [] := by
      rcases h0 with h | h
      · exact h
      · omega
    right; left
    subst hp0
    have : c.toNat = 48 := by unfold isFig at hc; omega
    have e : c = 48 := UInt8.toNat_inj.1 (by simpa using this)
    rw [e]; rfl
  · right; right
    refine ⟨by omega, ?_⟩
    have hlt : c.toNat - 48 < 10 := by unfold isFig at hc; omega
    rw [dg_step _ (by omega), numV_snoc]
    have e1 : (10 * numV p + (c.toNat - 48)) / 10 = numV p := by omega
    have e2 : (10 * numV p + (c.toNat - 48)) % 10 = c.toNat - 48 := by omega
    rw [e1, e2, hd, fig_byte c hc]
theorem good_yes (p : List UInt8) (hp : good p) (hne : p ≠ []) (h : numV p ≤ 1000000000) : rdS p = some (numV p) := by
  have h4 : decS (numV p) = p := by
    rcases hp.2 with e | e | e
    · exact absurd e hne
    · subst e; rfl
    · unfold decS; rw [if_neg (by omega)]; exact e.2
  refine rdS_yes p ?_ hp.1 h h4
  rcases hp.2 with e | e | e
  · subst e; simp
  · subst e; simp
  · rw [← e.2]; exact dg_len 10 _ (by omega)
theorem good_again (p r : List UInt8) (hp : good p) (hne : p ≠ []) (hr : r ≠ []) (h : numV p = 0) : rdS (p ++ r) = none := by
  rcases hp.2 with e | e | e
  · exact absurd e hne
  · subst e; exact rdS_nought r hr
  · omega
end Go.Proofs.Ytplcdcfhfaghiaa.W
/- Dec: The walks of the models' Decimal, and of the two ReadDecimal. -/
namespace Go.Proofs.Ytplcdcfhfaghiaa
set_option maxRecDepth 100000
open Go.RowKit
open Go.PlainAid (bt)

theorem fig_low (x : Int) (w : World) (h0 : 0 ≤ x) (h1 : x < 10) :
    Calls Try.prog 51 #[.int .i64 x] w fun e w' => e = .returned (.int .u8 (48 + x)) ∧ w' = w := by
  go_enter Try.func51, Try.ntmps51
  go_wp2
  go_ret
  exact ⟨rfl, rfl⟩

/-- The text of one byte. -/
def oneB (c : Int) : ByteArray := ⟨#[UInt8.ofNat c.toNat]⟩
theorem oneB_size (c : Int) : (oneB c).size = 1 := rfl
/-- 'string([]byte{c})'. -/
theorem one_byte (W : World) (c : Int) (h0 : 0 ≤ c) (h1 : c < 256) :
    (convert 22 9 (.slice (some ⟨W.heap.size, 0, none⟩) 1 1)).run Try.prog (W.alloc (.cells #[.int .u8 c] 5)) =
      .ok (.string (oneB c)) (W.alloc (.cells #[.int .u8 c] 5)) := by
  have := run_convert_bytes_back (P := Try.prog) (W.alloc (.cells #[.int .u8 c] 5)) 22 9 5 ⟨W.heap.size, 0, none⟩ 1 [UInt8.ofNat c.toNat] Try.underlying22 Try.underlying5 Try.underlying9
    (fun j hj => by
      have : j = 0 := by simp at hj; omega
      subst this
      have e := byte_of c h0 h1
      rw [e]
      exact cell_one_new W _ _ 0 _ rfl)
  simpa [oneB] using this

theorem dg_more {n m : Nat} {s : ByteArray} (hm : 0 < m) (h : W.dg m ++ s.data.toList = W.dg n) (c : Int) (hc : c = 48 + ((m % 10 : Nat) : Int)) :
    W.dg (m / 10) ++ (oneB c ++ s).data.toList = W.dg n := by
  rw [← h, W.dg_step m hm]
  have e : UInt8.ofNat c.toNat = UInt8.ofNat (48 + m % 10) := by rw [hc]; congr 1
  unfold oneB
  rw [e]
  simp

set_option maxHeartbeats 400000 in
theorem decimal_pos (n : Nat) (w : World) (hn : 0 < n) (hm : n ≤ 9223372036854775807) :
    Calls Try.prog 34 #[.int .i64 n] w fun e w' => e = .returned (.string ⟨(W.dg n).toArray⟩) ∧ Below w.heap.size w w' := by
  have h0 : ((n : Int) == 0) = false := by rw [beq_eq_false_iff_ne]; omega
  have h1 : decide ((n : Int) < 0) = false := by simp
  have hl := W.dg_len 20 n (by omega)
  go_enter Try.func34, Try.ntmps34
  go_wp2_with fail
  go_loopw [0, 4] (fun i v wr => ∃ (m : Nat) (s : ByteArray), i = .int .i64 m ∧ v = .string s ∧ m ≤ n ∧ W.dg m ++ s.data.toList = W.dg n ∧ Below w.heap.size w wr) (fun i _ _ => (intOf i).toNat)
  case atStart => exact ⟨n, ⟨#[]⟩, rfl, rfl, Nat.le_refl _, by simp, Below.refl _ _⟩
  case round =>
    obtain ⟨m, s, rfl, rfl, hmn, hs, hb⟩ := hrel
    have HS : Hid (W.dg m ++ s.data.toList = W.dg n) := hs
    have hsz : s.size ≤ 20 := by have := congrArg List.length hs; simp at this; have e : s.data.size = s.size := rfl; omega
    clear hs
    by_cases hz : m = 0
    · subst hz
      go_wp2_with fail
      go_ret
      refine ⟨?_, hb⟩
      rw [← HS.out, W.dg_zero]
      simp
    · have hz' : ((m : Int) != 0) = true := by rw [bne_iff_ne]; omega
      have hp : 0 < m := by omega
      have hB := hb.size
      have ho := oneB_size (48 + (m : Int) % 10)
      have hcv := one_byte wr (48 + (m : Int) % 10) (by omega) (by omega)
      go_wp2_with fail
      refine (fig_low _ _ (by omega) (by omega)).mono ?_
      rintro e w' ⟨rfl, rfl⟩
      go_wp2_with fail
      go_roundw
      case rel => exact ⟨m / 10, _, by go_num, rfl, by omega, dg_more hp HS.out _ (by omega), hb.alloc hB _⟩
      case measure => simp [intOf]; omega

theorem neg_words (m : Nat) (h : m ≤ 9223372036854775808) : (-(m : Int)).tmod 10 = -((m : Int) % 10) ∧ (-(m : Int)).tdiv 10 = -((m : Int) / 10) := by
  rw [Int.neg_tmod, Int.neg_tdiv, Int.tmod_eq_emod_of_nonneg (by omega), Int.tdiv_eq_ediv_of_nonneg (by omega)]
  exact ⟨rfl, rfl⟩

set_option maxHeartbeats 400000 in
theorem decimal_neg (n : Nat) (w : World) (hn : 0 < n) (hm : n ≤ 9223372036854775808) :
    Calls Try.prog 34 #[.int .i64 (-(n : Int))] w fun e w' => e = .returned (.string ((⟨#[45]⟩ : ByteArray) ++ ⟨(W.dg n).toArray⟩)) ∧ Below w.heap.size w w' := by
  have h0 : (-(n : Int) == 0) = false := by rw [beq_eq_false_iff_ne]; omega
  have h1 : decide (-(n : Int) < 0) = true := by simp; omega
  have hl := W.dg_len 20 n (by omega)
  go_enter Try.func34, Try.ntmps34
  go_wp2_with fail
  go_loopw [0, 4] (fun i v wr => ∃ (m : Nat) (s : ByteArray), i = .int .i64 (-(m : Int)) ∧ v = .string s ∧ m ≤ n ∧ W.dg m ++ s.data.toList = W.dg n ∧ Below w.heap.size w wr) (fun i _ _ => (intOf i).natAbs)
  case atStart => exact ⟨n, ⟨#[]⟩, rfl, rfl, Nat.le_refl _, by simp, Below.refl _ _⟩
  case round =>
    obtain ⟨m, s, rfl, rfl, hmn, hs, hb⟩ := hrel
    have HS : Hid (W.dg m ++ s.data.toList = W.dg n) := hs
    have hsz : s.size ≤ 20 := by have := congrArg List.length hs; simp at this; have e : s.data.size = s.size := rfl; omega
    clear hs
    by_cases hz : m = 0
    · subst hz
      have hst : s = ⟨(W.dg n).toArray⟩ := by
        have := HS.out
        rw [W.dg_zero, List.nil_append] at this
        rw [← this]
      have HT : Hid (s = ⟨(W.dg n).toArray⟩) := hst
      clear hst
      go_wp2_with fail
      go_ret
      refine ⟨?_, hb⟩
      rw [← HT.out]
      rfl
    · have hz' : (-(m : Int) != 0) = true := by rw [bne_iff_ne]; omega
      have hp : 0 < m := by omega
      have hB := hb.size
      have ho := oneB_size (48 + (m : Int) % 10)
      have hcv := one_byte wr (48 + (m : Int) % 10) (by omega) (by omega)
      obtain ⟨t1, t2⟩ := neg_words m (by omega)
      by_cases hd : (m : Int) % 10 = 0
      · have hdd : decide (-((m : Int) % 10) < 0) = false := by simp; omega
        have ho := oneB_size (48 + -((m : Int) % 10))
        have hcv := one_byte wr (48 + -((m : Int) % 10)) (by omega) (by omega)
        have HD : Hid ((m : Int) % 10 = 0) := hd
        have g0 : 0 ≤ -((m : Int) % 10) := by omega
        clear hd
        go_wp2_with fail
        refine (fig_low _ _ (by omega) (by omega)).mono ?_
        rintro e w' ⟨rfl, rfl⟩
        go_wp2_with fail
        go_roundw
        case rel => exact ⟨m / 10, _, by go_num, rfl, by omega, dg_more hp HS.out _ (by have := HD.out; omega), hb.alloc hB _⟩
        case measure => simp [intOf]; omega
      · have hdd : decide (-((m : Int) % 10) < 0) = true := by simp; omega
        go_wp2_with fail
        refine (fig_low _ _ (by omega) (by omega)).mono ?_
        rintro e w' ⟨rfl, rfl⟩
        go_wp2_with fail
        go_roundw
        case rel => exact ⟨m / 10, _, by go_num, rfl, by omega, dg_more hp HS.out _ (by omega), hb.alloc hB _⟩
        case measure => simp [intOf]; omega

theorem decimal_zero (w : World) :
    Calls Try.prog 34 #[.int .i64 0] w fun e w' => e = .returned (.string ⟨#[48]⟩) ∧ Below w.heap.size w w' := by
  go_enter Try.func34, Try.ntmps34
  go_wp2_with fail
  go_ret
  exact ⟨rfl, Below.refl _ _⟩
theorem decimal_nat (x : Int) (w : World) (h0 : 0 ≤ x) (h1 : x ≤ 9223372036854775807) :
    Calls Try.prog 34 #[.int .i64 x] w fun e w' => e = .returned (.string ⟨(W.decS x.toNat).toArray⟩) ∧ Below w.heap.size w w' := by
  obtain ⟨n, rfl⟩ := Int.eq_ofNat_of_zero_le h0
  rw [Int.toNat_natCast]
  by_cases h : n = 0
  · subst h; exact decimal_zero w
  · have e : W.decS n = W.dg n := by unfold W.decS; rw [if_neg h]
    rw [e]; exact decimal_pos n w (by omega) (by omega)
end Go.Proofs.Ytplcdcfhfaghiaa
/- DiskT: The model's walk that puts a file into its place. -/
namespace Go.Proofs.Ytplcdcfhfaghiaa
set_option maxRecDepth 100000
open Go.RowKit
attribute [local go_sem ↓] Go.wp_at_zero Go.wp_at_succ

def lessF (f : FM) (fs : List FM) : List FM := fs.filter fun g => Op.bytesLess g.name.toList f.name.toList
def moreF (f : FM) (fs : List FM) : List FM := fs.filter fun g => !(Op.bytesLess g.name.toList f.name.toList || g.name.toList == f.name.toList)
def putF (f : FM) (fs : List FM) : List FM := lessF f fs ++ [f] ++ moreF f fs
theorem lessF_step (f : FM) (fs : List FM) (k : Nat) (h : k < fs.length) : lessF f (fs.take (k + 1)) = lessF f (fs.take k) ++ (if Op.bytesLess fs[k].name.toList f.name.toList then [fs[k]] else []) := by
  unfold lessF
  rw [List.take_succ_eq_append_getElem h, List.filter_append]
  cases hc : Op.bytesLess fs[k].name.toList f.name.toList <;> simp [hc]
theorem moreF_step (f : FM) (fs : List FM) (k : Nat) (h : k < fs.length) : moreF f (fs.take (k + 1)) = moreF f (fs.take k) ++ (if (!(Op.bytesLess fs[k].name.toList f.name.toList || fs[k].name.toList == f.name.toList)) = true then [fs[k]] else []) := by
  unfold moreF
  rw [List.take_succ_eq_append_getElem h, List.filter_append]
  congr 1
  rw [List.filter_cons, List.filter_nil]
theorem lessF_len (f : FM) (fs : List FM) : (lessF f fs).length ≤ fs.length := List.length_filter_le _ _
theorem moreF_len (f : FM) (fs : List FM) : (moreF f fs).length ≤ fs.length := List.length_filter_le _ _
set_option maxHeartbeats 4000000 in
set_option maxRecDepth 100000 in
theorem l03Put_any (a : Option Addr) (fs : List FM) (cap : Nat) (p : FM) (w : World) (hr : FRow w a fs) (hl : fs.length ≤ 1048576) :
    Calls Try.prog 30 #[.agg #[.slice a fs.length cap], fv p] w fun e w' => MadeDisk (putF p fs) w e w' := by
  obtain ⟨i0, hi, hz0, hz1, hz2⟩ := info_parts infoFile
  have HR : Hid (FRow w a fs) := hr
  have hx0 := (((wcells_new w #[.slice a fs.length cap] 26).alloc (.cells #[.string p.name, .string p.text, .int .i64 p.kept] 55)).alloc (.cells #[.slice none 0 0] 26)).alloc (.cells #[.slice none 0 0] 26)
  have hp0 := ((wcells_new (w.alloc (.cells #[.slice a fs.length cap] 26)) #[.string p.name, .string p.text, .int .i64 p.kept] 55).alloc (.cells #[.slice none 0 0] 26)).alloc (.cells #[.slice none 0 0] 26)
  have hy0 := (wcells_new ((w.alloc (.cells #[.slice a fs.length cap] 26)).alloc (.cells #[.string p.name, .string p.text, .int .i64 p.kept] 55)) #[.slice none 0 0] 26).alloc (.cells #[.slice none 0 0] 26)
  have hv0 := wcells_new (((w.alloc (.cells #[.slice a fs.length cap] 26)).alloc (.cells #[.string p.name, .string p.text, .int .i64 p.kept] 55)).alloc (.cells #[.slice none 0 0] 26)) #[.slice none 0 0] 26
  simp only [World.size_alloc] at hx0 hp0 hy0 hv0
  have HX0 : Shut (WCells ((((w.alloc (.cells #[.slice a fs.length cap] 26)).alloc (.cells #[.string p.name, .string p.text, .int .i64 p.kept] 55)).alloc (.cells #[.slice none 0 0] 26)).alloc (.cells #[.slice none 0 0] 26)) w.heap.size [.slice a fs.length cap]) := ⟨hx0⟩
  have HP0 : Shut (WCells ((((w.alloc (.cells #[.slice a fs.length cap] 26)).alloc (.cells #[.string p.name, .string p.text, .int .i64 p.kept] 55)).alloc (.cells #[.slice none 0 0] 26)).alloc (.cells #[.slice none 0 0] 26)) (w.heap.size + 1) [.string p.name, .string p.text, .int .i64 p.kept]) := ⟨hp0⟩
  have HY0 : Shut (WCells ((((w.alloc (.cells #[.slice a fs.length cap] 26)).alloc (.cells #[.string p.name, .string p.text, .int .i64 p.kept] 55)).alloc (.cells #[.slice none 0 0] 26)).alloc (.cells #[.slice none 0 0] 26)) (w.heap.size + 1 + 1) [.slice none 0 0]) := ⟨hy0⟩
  have HV0 : Shut (WCells ((((w.alloc (.cells #[.slice a fs.length cap] 26)).alloc (.cells #[.string p.name, .string p.text, .int .i64 p.kept] 55)).alloc (.cells #[.slice none 0 0] 26)).alloc (.cells #[.slice none 0 0] 26)) (w.heap.size + 1 + 1 + 1) [.slice none 0 0]) := ⟨hv0⟩
  have HB0 : Hid (Below w.heap.size w ((((w.alloc (.cells #[.slice a fs.length cap] 26)).alloc (.cells #[.string p.name, .string p.text, .int .i64 p.kept] 55)).alloc (.cells #[.slice none 0 0] 26)).alloc (.cells #[.slice none 0 0] 26))) := ((((Below.refl _ _).alloc (Nat.le_refl _) _).alloc (by simp) _).alloc (by simp; omega) _).alloc (by simp; omega) _
  clear hr hx0 hp0 hy0 hv0
  go_enter Try.func30, Try.ntmps30
  go_wp2_with fail
  go_loopw [6] (fun i wr => ∃ (k : Nat) (v : Value), i = .int .i64 k ∧ k ≤ fs.length ∧ Shut (WCells wr w.heap.size [.slice a fs.length cap]) ∧ Shut (WCells wr (w.heap.size + 1) [.string p.name, .string p.text, .int .i64 p.kept]) ∧ Shut (WCells wr (w.heap.size + 1 + 1) [.slice none 0 0]) ∧ Shut (WCells wr (w.heap.size + 1 + 1 + 1) [v]) ∧
      wr.ownsRow (w.heap.size + 4) 55 3 v (lessF p (fs.take k)).length (fcs (lessF p (fs.take k))) ∧ Below w.heap.size w wr) (fun i _ => fs.length - (intOf i).toNat)
  case atStart => exact ⟨0, .slice none 0 0, rfl, Nat.zero_le _, HX0, HP0, HY0, HV0, by simp [lessF, fcs]; exact own_nil _ _ _, HB0.out⟩
  case round =>
    obtain ⟨k, v, rfl, hk, hx, hz, hy, hv, hown, hb⟩ := hrel
    have x0 := (hx.out.2 0 _ rfl).1
    have p0 := (hz.out.2 0 _ rfl).1
    by_cases hlt : k < fs.length
    · obtain ⟨b, off, rfl, lb0, hc0⟩ := FRow.at HR.out (by omega)
      obtain ⟨d0, d1, d2⟩ := hc0 k hlt
      rw [← hb.cell (p := ⟨b, off + k * 3, none⟩) lb0] at d0
      rw [← hb.cell (p := ⟨b, off + k * 3 + 1, none⟩) lb0] at d1
      rw [← hb.cell (p := ⟨b, off + k * 3 + 2, none⟩) lb0] at d2
      have hstep := lessF_step p fs k hlt
      obtain ⟨f, hfe⟩ : ∃ f, f = fs[k] := ⟨_, rfl⟩
      rw [← hfe] at d0 d1 d2 hstep
      have k0 : (0 : Int) ≤ (k : Int) := by omega
      have k1 : (k : Int) < (fs.length : Int) := by omega
      have hlen : (lessF p (fs.take k)).length ≤ 3000000 := by have := lessF_len p (fs.take k); simp at this; omega
      clear hfe hc0
      by_cases hn : Op.bytesLess f.name.toList p.name.toList = true
      · rw [if_pos hn] at hstep
        have HST : Hid (_ = _) := hstep
        clear hstep
        go_wp2_with fail
        go_quiet (fail)
        have hx' : Shut (WCells (wr.drewN nq) w.heap.size [.slice (some ⟨b, off, none⟩) fs.length cap]) := ⟨hx.out⟩
        have hz' : Shut (WCells (wr.drewN nq) (w.heap.size + 1) [.string p.name, .string p.text, .int .i64 p.kept]) := ⟨hz.out⟩
        have hy' : Shut (WCells (wr.drewN nq) (w.heap.size + 1 + 1) [.slice none 0 0]) := ⟨hy.out⟩
        have hv' : Shut (WCells (wr.drewN nq) (w.heap.size + 1 + 1 + 1) [v]) := ⟨hv.out⟩
        have hown' : (wr.drewN nq).ownsRow (w.heap.size + 4) 55 3 v (lessF p (fs.take k)).length (fcs (lessF p (fs.take k))) := hown
        have hb' : Below w.heap.size w (wr.drewN nq) := hb.trans ⟨rfl, rfl, rfl, Nat.le_refl _, fun _ _ => rfl⟩
        have d0' : (wr.drewN nq).cell? ⟨b, off + k * 3, none⟩ = some (.string f.name) := d0
        have d1' : (wr.drewN nq).cell? ⟨b, off + k * 3 + 1, none⟩ = some (.string f.text) := d1
        have d2' : (wr.drewN nq).cell? ⟨b, off + k * 3 + 2, none⟩ = some (.int .i64 f.kept) := d2
        clear hx hz hy hv hown hb d0 d1 d2 x0 p0
        generalize wr.drewN nq = wq at *
        have x0 := (hx'.out.2 0 _ rfl).1
        obtain ⟨vc, vf⟩ := hv'.out.2 0 _ rfl
        have HB : Hid (Below w.heap.size w wq) := hb'
        have hv1 : w.heap.size + 1 + 1 + 1 < wq.heap.size := hv'.out.1
        have lb1 : b < wq.heap.size := by omega
        have nv : v.ownBlock ≠ some (w.heap.size + 1 + 1 + 1) := fun e => by have := (hown'.lt _ e).1; omega
        clear hb'
        go_wp2_with fail
        go_region_law ((refine step_append_lies _ (by rfl) _ _ _ (by rfl) (w.heap.size + 4) 55 i0 _ 3 40 Try.underlying24 hi hz0 hz1 hz2 rfl (by omega) _ _ _ (by rfl) ((hown'.alloc _).drew) ⟨wq.heap.size, 0, none⟩ 1 1 [.string f.name, .string f.text, .int .i64 f.kept] (by rfl) (by rfl) (World.news_of_block (cs := #[.string f.name, .string f.text, .int .i64 f.kept]) (t := 55) (fr := (0, 0)) (heap_alloc_new wq _)) (by simp [Value.oneCell']) (by omega) (by unfold maxLen; omega) (by omega) (by simp; omega) (wq.heap.size + 1) (by simp) ?_; intro gg cap1 w1 hown1 hgrow hat hlt'; have vc1 := (cell_grown hgrow ⟨w.heap.size + 1 + 1 + 1, 0, none⟩ (by simp; omega) nv).trans ((hv'.out.alloc _).2 0 _ rfl).1; have vf1 := (frozen_grown hgrow ⟨w.heap.size + 1 + 1 + 1, 0, none⟩ (by simp; omega) nv).trans ((hv'.out.alloc _).2 0 _ rfl).2))
        all_goals go_wp2_with fail
        all_goals
          obtain ⟨u1, u2, u3, u4⟩ := var_grow hv'.out (show w.heap.size + 1 + 1 + 1 < w.heap.size + 4 by omega) hown' hgrow hown1
          refine ⟨⟨k + 1, _, by go_num, by omega, ⟨u1 _ _ (by omega) (by omega) hx'.out⟩, ⟨u1 _ _ (by omega) (by omega) hz'.out⟩, ⟨u1 _ _ (by omega) (by omega) hy'.out⟩, ⟨u2⟩, ?_, u4 _ _ (by omega) HB.out⟩, by simp [intOf]; omega⟩
          rw [HST.out, fcs_snoc, List.length_append]
          exact u3
      · have hn' : Op.bytesLess f.name.toList p.name.toList = false := by simpa using hn
        rw [if_neg hn, List.append_nil] at hstep
        have HST : Hid (_ = _) := hstep
        clear hstep hn
        go_wp2_with fail
        go_quiet (fail)
        go_wp2_with fail
        go_roundw
        case rel => exact ⟨k + 1, v, by go_num, by omega, ⟨hx.out⟩, ⟨hz.out⟩, ⟨hy.out⟩, ⟨hv.out⟩, by rw [HST.out]; exact hown, hb.trans ⟨rfl, rfl, rfl, Nat.le_refl _, fun _ _ => rfl⟩⟩
        case measure => simp [intOf]; omega
    · have e : k = fs.length := by omega
      subst e
      rw [List.take_length] at hown
      obtain ⟨vc, vf⟩ := hv.out.2 0 _ rfl
      have p1 := (hz.out.2 1 _ rfl).1
      have p2 := (hz.out.2 2 _ rfl).1
      have hv1 : w.heap.size + 1 + 1 + 1 < wr.heap.size := hv.out.1
      have nv : v.ownBlock ≠ some (w.heap.size + 1 + 1 + 1) := fun e => by have := (hown.lt _ e).1; omega
      have hlen : (lessF p fs).length ≤ 3000000 := by have := lessF_len p fs; omega
      have HB : Hid (Below w.heap.size w wr) := hb
      clear hb
      go_wp2_with (at_builtin; refine wpList_append_own _ rfl _ _ 24 rfl (w.heap.size + 4) 55 i0 _ 3 40 Try.underlying24 hi hz0 hz1 hz2 rfl (by decide) _ _ _ rfl (hown.alloc _) ⟨wr.heap.size, 0, none⟩ 1 1 [.string p.name, .string p.text, .int .i64 p.kept] rfl rfl (World.news_of_block (cs := #[.string p.name, .string p.text, .int .i64 p.kept]) (t := 55) (fr := (0, 0)) (heap_alloc_new wr _)) ?c2 ?c3 ?c4 ?c5 ?_)
      case c2 => simp [Value.oneCell']
      case c3 => unfold maxLen; omega
      case c4 => omega
      case c5 => simp; omega
      intro v3 w3 hown3 hgrow3 _
      obtain ⟨va, vcap, rfl⟩ := own_formD hown3
      have vc1 := (cell_grown hgrow3 ⟨w.heap.size + 1 + 1 + 1, 0, none⟩ (by simp; omega) nv).trans ((hv.out.alloc _).2 0 _ rfl).1
      have vf1 := (frozen_grown hgrow3 ⟨w.heap.size + 1 + 1 + 1, 0, none⟩ (by simp; omega) nv).trans ((hv.out.alloc _).2 0 _ rfl).2
      obtain ⟨u1, u2, u3, u4⟩ := var_grow hv.out (show w.heap.size + 1 + 1 + 1 < w.heap.size + 4 by omega) hown (⟨hgrow3.os, hgrow3.tape, hgrow3.output, hgrow3.size, hgrow3.block⟩) hown3
      have HX3 : Shut (WCells (w3.setCell ⟨w.heap.size + 1 + 1 + 1, 0, none⟩ (.slice va ((lessF p fs).length + 1) vcap)) w.heap.size [.slice a fs.length cap]) := ⟨u1 _ _ (by omega) (by omega) hx.out⟩
      have HP3 : Shut (WCells (w3.setCell ⟨w.heap.size + 1 + 1 + 1, 0, none⟩ (.slice va ((lessF p fs).length + 1) vcap)) (w.heap.size + 1) [.string p.name, .string p.text, .int .i64 p.kept]) := ⟨u1 _ _ (by omega) (by omega) hz.out⟩
      have HY3 : Shut (WCells (w3.setCell ⟨w.heap.size + 1 + 1 + 1, 0, none⟩ (.slice va ((lessF p fs).length + 1) vcap)) (w.heap.size + 1 + 1) [.slice none 0 0]) := ⟨u1 _ _ (by omega) (by omega) hy.out⟩
      have HV3 : Shut (WCells (w3.setCell ⟨w.heap.size + 1 + 1 + 1, 0, none⟩ (.slice va ((lessF p fs).length + 1) vcap)) (w.heap.size + 1 + 1 + 1) [.slice va ((lessF p fs).length + 1) vcap]) := ⟨u2⟩
      have HB3 : Hid (Below w.heap.size w (w3.setCell ⟨w.heap.size + 1 + 1 + 1, 0, none⟩ (.slice va ((lessF p fs).length + 1) vcap))) := u4 _ _ (by omega) HB.out
      have HO3 : Hid ((w3.setCell ⟨w.heap.size + 1 + 1 + 1, 0, none⟩ (.slice va ((lessF p fs).length + 1) vcap)).ownsRow (w.heap.size + 4) 55 3 (.slice va ((lessF p fs).length + 1) vcap) (lessF p fs ++ [p]).length (fcs (lessF p fs ++ [p]))) := by
        have h : (w3.setCell ⟨w.heap.size + 1 + 1 + 1, 0, none⟩ (.slice va ((lessF p fs).length + 1) vcap)).ownsRow (w.heap.size + 4) 55 3 (.slice va ((lessF p fs).length + 1) vcap) (lessF p fs ++ [p]).length (fcs (lessF p fs ++ [p])) := by rw [fcs_snoc, List.length_append]; exact u3
        exact h
      clear u1 u2 u3 u4 hown3 hgrow3 hx hz hy hv hown x0 p0 p1 p2 vc vf
      go_wp2_with fail
      go_loopw [7] (fun i wr => ∃ (k : Nat) (v : Value), i = .int .i64 k ∧ k ≤ fs.length ∧ Shut (WCells wr w.heap.size [.slice a fs.length cap]) ∧ Shut (WCells wr (w.heap.size + 1) [.string p.name, .string p.text, .int .i64 p.kept]) ∧ Shut (WCells wr (w.heap.size + 1 + 1) [.slice none 0 0]) ∧ Shut (WCells wr (w.heap.size + 1 + 1 + 1) [v]) ∧
          wr.ownsRow (w.heap.size + 4) 55 3 v (lessF p fs ++ [p] ++ moreF p (fs.take k)).length (fcs (lessF p fs ++ [p] ++ moreF p (fs.take k))) ∧ Below w.heap.size w wr) (fun i _ => fs.length - (intOf i).toNat)
      case atStart => exact ⟨0, _, rfl, Nat.zero_le _, HX3, HP3, HY3, HV3, by simpa [moreF] using HO3.out, HB3.out⟩
      case round =>
        obtain ⟨k, v, rfl, hk, hx, hz, hy, hv, hown, hb⟩ := hrel
        have x0 := (hx.out.2 0 _ rfl).1
        have p0 := (hz.out.2 0 _ rfl).1
        by_cases hlt : k < fs.length
        · obtain ⟨b, off, rfl, lb0, hc0⟩ := FRow.at HR.out (by omega)
          obtain ⟨d0, d1, d2⟩ := hc0 k hlt
          rw [← hb.cell (p := ⟨b, off + k * 3, none⟩) lb0] at d0
          rw [← hb.cell (p := ⟨b, off + k * 3 + 1, none⟩) lb0] at d1
          rw [← hb.cell (p := ⟨b, off + k * 3 + 2, none⟩) lb0] at d2
          have hstep := moreF_step p fs k hlt
          obtain ⟨f, hfe⟩ : ∃ f, f = fs[k] := ⟨_, rfl⟩
          rw [← hfe] at d0 d1 d2 hstep
          have k0 : (0 : Int) ≤ (k : Int) := by omega
          have k1 : (k : Int) < (fs.length : Int) := by omega
          have hlen : (lessF p fs ++ [p] ++ moreF p (fs.take k)).length ≤ 3000000 := by have h1 := lessF_len p fs; have h2 := moreF_len p (fs.take k); simp at h2 ⊢; omega
          clear hfe hc0
          by_cases hA : Op.bytesLess f.name.toList p.name.toList = true
          · rw [if_neg (by simp [hA]), List.append_nil] at hstep
            have HST : Hid (_ = _) := hstep
            clear hstep
            go_wp2_with fail
            go_quiet (fail)
            go_wp2_with fail
            go_roundw
            case rel => exact ⟨k + 1, v, by go_num, by omega, ⟨hx.out⟩, ⟨hz.out⟩, ⟨hy.out⟩, ⟨hv.out⟩, by rw [HST.out]; exact hown, hb.trans ⟨rfl, rfl, rfl, Nat.le_refl _, fun _ _ => rfl⟩⟩
            case measure => simp [intOf]; omega
          · have hA' : Op.bytesLess f.name.toList p.name.toList = false := by simpa using hA
            clear hA
            by_cases hE : (f.name.toList == p.name.toList) = true
            · rw [if_neg (by simp [hE]), List.append_nil] at hstep
              have HST : Hid (_ = _) := hstep
              clear hstep
              go_wp2_with fail
              go_quiet (fail)
              go_wp2_with fail
              go_roundw
              case rel => exact ⟨k + 1, v, by go_num, by omega, ⟨hx.out⟩, ⟨hz.out⟩, ⟨hy.out⟩, ⟨hv.out⟩, by rw [HST.out]; exact hown, hb.trans ⟨rfl, rfl, rfl, Nat.le_refl _, fun _ _ => rfl⟩⟩
              case measure => simp [intOf]; omega
            · have hE' : (f.name.toList == p.name.toList) = false := by simpa using hE
              clear hE
              obtain ⟨ys, hys⟩ : ∃ ys, ys = lessF p fs ++ [p] ++ moreF p (fs.take k) := ⟨_, rfl⟩
              rw [← hys] at hown hlen
              have HYS : Hid (ys = lessF p fs ++ [p] ++ moreF p (fs.take k)) := hys
              clear hys
              rw [if_pos (show (!(Op.bytesLess f.name.toList p.name.toList || f.name.toList == p.name.toList)) = true by rw [hA', hE']; rfl)] at hstep
              have HST : Hid (_ = _) := hstep
              clear hstep
              go_wp2_with fail
              go_quiet (fail)
              have hx' : Shut (WCells (wr.drewN nq) w.heap.size [.slice (some ⟨b, off, none⟩) fs.length cap]) := ⟨hx.out⟩
              have hz' : Shut (WCells (wr.drewN nq) (w.heap.size + 1) [.string p.name, .string p.text, .int .i64 p.kept]) := ⟨hz.out⟩
              have hy' : Shut (WCells (wr.drewN nq) (w.heap.size + 1 + 1) [.slice none 0 0]) := ⟨hy.out⟩
              have hv' : Shut (WCells (wr.drewN nq) (w.heap.size + 1 + 1 + 1) [v]) := ⟨hv.out⟩
              have hown' : (wr.drewN nq).ownsRow (w.heap.size + 4) 55 3 v ys.length (fcs ys) := hown
              have hb' : Below w.heap.size w (wr.drewN nq) := hb.trans ⟨rfl, rfl, rfl, Nat.le_refl _, fun _ _ => rfl⟩
              have d0' : (wr.drewN nq).cell? ⟨b, off + k * 3, none⟩ = some (.string f.name) := d0
              have d1' : (wr.drewN nq).cell? ⟨b, off + k * 3 + 1, none⟩ = some (.string f.text) := d1
              have d2' : (wr.drewN nq).cell? ⟨b, off + k * 3 + 2, none⟩ = some (.int .i64 f.kept) := d2
              clear hx hz hy hv hown hb d0 d1 d2 x0 p0
              generalize wr.drewN nq = wq at *
              have x0 := (hx'.out.2 0 _ rfl).1
              obtain ⟨vc, vf⟩ := hv'.out.2 0 _ rfl
              have HB : Hid (Below w.heap.size w wq) := hb'
              have hv1 : w.heap.size + 1 + 1 + 1 < wq.heap.size := hv'.out.1
              have lb1 : b < wq.heap.size := by omega
              have nv : v.ownBlock ≠ some (w.heap.size + 1 + 1 + 1) := fun e => by have := (hown'.lt _ e).1; omega
              clear hb'
              go_wp2_with fail
              go_region_law ((refine step_append_lies _ (by rfl) _ _ _ (by rfl) (w.heap.size + 4) 55 i0 _ 3 40 Try.underlying24 hi hz0 hz1 hz2 rfl (by omega) _ _ _ (by rfl) ((hown'.alloc _).drew) ⟨wq.heap.size, 0, none⟩ 1 1 [.string f.name, .string f.text, .int .i64 f.kept] (by rfl) (by rfl) (World.news_of_block (cs := #[.string f.name, .string f.text, .int .i64 f.kept]) (t := 55) (fr := (0, 0)) (heap_alloc_new wq _)) (by simp [Value.oneCell']) (by omega) (by unfold maxLen; omega) (by omega) (by simp; omega) (wq.heap.size + 1) (by simp) ?_; intro gg cap1 w1 hown1 hgrow hat hlt'; have vc1 := (cell_grown hgrow ⟨w.heap.size + 1 + 1 + 1, 0, none⟩ (by simp; omega) nv).trans ((hv'.out.alloc _).2 0 _ rfl).1; have vf1 := (frozen_grown hgrow ⟨w.heap.size + 1 + 1 + 1, 0, none⟩ (by simp; omega) nv).trans ((hv'.out.alloc _).2 0 _ rfl).2))
              all_goals go_wp2_with fail
              all_goals
                obtain ⟨u1, u2, u3, u4⟩ := var_grow hv'.out (show w.heap.size + 1 + 1 + 1 < w.heap.size + 4 by omega) hown' hgrow hown1
                refine ⟨⟨k + 1, _, by go_num, by omega, ⟨u1 _ _ (by omega) (by omega) hx'.out⟩, ⟨u1 _ _ (by omega) (by omega) hz'.out⟩, ⟨u1 _ _ (by omega) (by omega) hy'.out⟩, ⟨u2⟩, ?_, u4 _ _ (by omega) HB.out⟩, by simp [intOf]; omega⟩
                rw [HST.out, ← List.append_assoc, ← HYS.out, fcs_snoc, List.length_append]
                exact u3
        · have e : k = fs.length := by omega
          subst e
          rw [List.take_length] at hown
          obtain ⟨va2, vcap2, rfl⟩ := own_formD hown
          obtain ⟨vc, vf⟩ := hv.out.2 0 _ rfl
          obtain ⟨yc, yf⟩ := hy.out.2 0 _ rfl
          go_wp2_with fail
          show bodyPost Try.prog Try.f30 _ Exit.ret _ _
          refine bodyPost_ret (v := .agg #[.slice va2 (lessF p fs ++ [p] ++ moreF p fs).length vcap2]) (by simp [results, Try.results30, go_sem, yc]) rfl ⟨_, rfl, ?_, hb.setCell (by simp; omega) _⟩
          exact own_wider (own_other hown (show w.heap.size + 1 + 1 < w.heap.size + 4 by omega) _ rfl _ rfl) (by omega)
end Go.Proofs.Ytplcdcfhfaghiaa
