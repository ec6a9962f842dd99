/- Texts of ours, laid one behind the other: DrawP, SqA, MatD, OpenC, LawSq, MatL, LawInv, CodN, DrP, FrT. -/
import Derived.Test.YtdlgailodhlbmaaPk5
import Derived.OwnWalk
import Derived.OpenShut
/- DrawP: The draws of a text and of places: what is drawn lies within its bounds; nothing that was there is turned. -/
namespace Go.Proofs.Ytdlgailodhlbmaa
open Go.RowKit

def SumDrawn (w : World) (e : Ending) (w' : World) : Prop := ∃ t : ByteArray, e = .returned (.string t) ∧ t.size ≤ 40 ∧ Below w.heap.size w w'
theorem infoInt : (Try.prog.info? 3).map (fun i => (i.zero, i.size, i.bytes)) = some (some (.int .i64 0), 1, 8) := by kernel_rfl
/-- Numbers, as the model holds them. -/
def iv (l : List Int) : List Value := l.map fun x => .int .i64 x
theorem row_step {w wr w2 w3 : World} {g B len cap n : Nat} {t : TypeId} {a : Option Addr} {v : Value} {vs : List Value} {o : Obj} (hs : w.heap.size ≤ wr.heap.size) (hgw : g < w.heap.size)
    (hg : w.grownBy wr (some g)) (hg2 : wr.grownBy w2 (some g)) (hc2 : Cur w2 g B a len cap) (hown : w2.ownsRow w.heap.size t 1 v n vs) (hgr : (w2.alloc o).grownBy w3 v.ownBlock) :
    Cur w3 g B a len cap ∧ w.grownBy w3 (some g) := by
  have hlt := hown.lt
  have h2s : wr.heap.size ≤ w2.heap.size := hg2.size
  have hb3 : Below w.heap.size w2 w3 := ((Below.refl _ _).alloc (by omega) o).grown hgr (by simp; omega) (fun j hj => (hlt j hj).1)
  refine ⟨?_, ⟨(hb3.os.trans hg2.os).trans hg.os, (hb3.tape.trans hg2.tape).trans hg.tape, (hb3.output.trans hg2.output).trans hg.output, by have := hb3.size; omega, fun k hk hn => (hb3.block k hk).trans ((hg2.block k (by omega) hn).trans (hg.block k hk hn))⟩⟩
  obtain ⟨hB, hgs, hcode, c0, ⟨i, c1, hi⟩, ⟨k, c2⟩, hf⟩ := hc2
  exact ⟨hB, by have := hb3.size; omega, hcode.below hb3 (by omega), (hb3.cell (p := ⟨g, 0, none⟩) hgw).trans c0, ⟨i, (hb3.cell (p := ⟨g, 1, none⟩) hgw).trans c1, hi⟩, ⟨k, (hb3.cell (p := ⟨g, 2, none⟩) hgw).trans c2⟩, fun j hj => (hb3.frozen (p := ⟨g, j, none⟩) hgw).trans (hf j hj)⟩
theorem own_gbr {w w' : World} {g C n : Nat} {t : TypeId} {v : Value} {vs : List Value} (h : w.ownsRow C t 1 v n vs) (hg : w.grownBy w' (some g)) (hC : g < C) : w'.ownsRow C t 1 v n vs :=
  h.kept hg (by
    cases hv : v.ownBlock with
    | none => exact .inl rfl
    | some j => right; have := (h.lt j hv).1; simp; omega)
/-- The places that are drawn: twelve numbers below 10000 in a block of their own. -/
def PlacesDrawn (w : World) (e : Ending) (w' : World) : Prop :=
  ∃ (gp cap : Nat) (l : List Int), e = .returned (.slice (some ⟨gp, 0, none⟩) 12 cap) ∧ w.heap.size ≤ gp ∧ gp < w'.heap.size ∧ l.length = 12 ∧ (∀ x ∈ l, 0 ≤ x ∧ x < 10000) ∧ (∀ j, j < 12 → w'.cell? ⟨gp, j, none⟩ = some (.int .i64 (l.getD j 0))) ∧ Below w.heap.size w w'
theorem places_post {w w1 w' : World} {g n : Nat} {v : Value} {l : List Int} (hw : w.heap.size ≤ w1.heap.size) (hl : l.length = 12) (hx : ∀ x ∈ l, 0 ≤ x ∧ x < 10000) (hn : n = 12) (hown : w'.ownsRow w1.heap.size 3 1 v n (iv l)) (hb1 : Below w.heap.size w w1) (hg : w.heap.size ≤ g) (hgb : w1.grownBy w' (some g)) :
    PlacesDrawn w (.returned v) w' := by
  subst hn
  have hlt := hown.lt
  have hc : ∀ g, v.ownBlock = some g → ∀ j u, (iv l)[j]? = some u → w'.cell? ((⟨g, 0, none⟩ : Addr).add j) = some u := fun g hg => hown.cells hg
  obtain ⟨h1, ⟨rfl, h0⟩ | ⟨gp, cap, cur, rfl, _⟩⟩ := hown
  · omega
  · have h2 := hlt gp rfl
    refine ⟨gp, cap, l, rfl, by omega, h2.2, hl, hx, fun j hj => ?_, hb1.trans (below_gb hgb hg hw)⟩
    have h3 := hc gp rfl j (.int .i64 (l.getD j 0)) (by simp [iv, List.getD, show j < l.length by omega])
    have e : (⟨gp, 0, none⟩ : Addr).add j = ⟨gp, j, none⟩ := by cases j <;> simp [Addr.add]
    rwa [e] at h3
set_option maxHeartbeats 1000000 in
theorem drawPlaces_any (w : World) (a : Option Addr) (len cap : Nat) (hc : CodeAt w w.heap.size a len) :
    Calls Try.prog 16 #[.slice a len cap] w fun e w' => PlacesDrawn w e w' := by
  obtain ⟨i0, hi, hz0, hz1, hz2⟩ := info_parts infoInt
  have HC : Hid (CodeAt w w.heap.size a len) := hc
  clear hc
  go_enter Try.func16, Try.ntmps16
  go_wp2_with fail
  refine (l01New_any _ a len cap HC.out).mono ?_
  rintro e w0 ⟨g, rfl, hg, hcur, hb0⟩
  have HC0 : Hid (Cur w0 g w.heap.size a len cap) := hcur
  have HB0 : Hid (Below w.heap.size w w0) := hb0
  clear hcur hb0
  go_wp2_with fail
  refine (l01Byte_any _ g _ a len cap HC0.out).mono ?_
  rintro e w1 ⟨x, rfl, _, _, hc1, hg1⟩
  have HC1 : Hid (Cur w1 g w.heap.size a len cap) := hc1
  have HB1 : Hid (Below w.heap.size w w1) := HB0.out.trans (below_gb hg1 hg HB0.out.size)
  have hgw : g < w1.heap.size := hc1.2.1
  clear hc1 hg1 HC0 HB0
  go_wp2_with fail
  go_loopw [4, 5] (fun v i wr => ∃ (k : Nat) (l : List Int), i = .int .i64 k ∧ k ≤ 12 ∧ l.length = k ∧ (∀ x ∈ l, 0 ≤ x ∧ x < 10000) ∧ Cur wr g w.heap.size a len cap ∧ w1.grownBy wr (some g) ∧ wr.ownsRow w1.heap.size 3 1 v k (iv l)) (fun _ i _ => 12 - (intOf i).toNat)
  case atStart => exact ⟨0, [], rfl, by omega, rfl, by simp, HC1.out.below ((Below.refl _ _).alloc (Nat.le_refl _) _), gb_below ((Below.refl _ _).alloc (Nat.le_refl _) _), World.ownsRow_made w1 #[] 0 (Nat.le_refl _) (by decide) rfl⟩
  case round =>
    obtain ⟨k, l, rfl, hk, hlk, hlx, hcr, hgr, hown⟩ := hrel
    have HCr : Hid (Cur wr g w.heap.size a len cap) := hcr
    have HGr : Hid (w1.grownBy wr (some g)) := hgr
    have HL : Hid (l.length = k ∧ ∀ x ∈ l, 0 ≤ x ∧ x < 10000) := ⟨hlk, hlx⟩
    have hs1 := hgr.size
    clear hcr hgr hlk hlx
    by_cases hlt : k < 12
    · have hlt' : (k : Int) < 12 := by omega
      go_wp2_with fail
      refine (l01Below_any _ g _ a len cap 10000 (by omega) HCr.out).mono ?_
      rintro e w2 ⟨y, rfl, y0, y1, hc2, hg2⟩
      have HC2 : Hid (Cur w2 g w.heap.size a len cap) := hc2
      have HG2 : Hid (wr.grownBy w2 (some g)) := hg2
      have hown2 := own_gbr hown hg2 hgw
      have hs2 := hg2.size
      clear hc2 hg2 hown
      go_wp2_with (at_builtin; refine wpList_append_own _ rfl _ _ 32 rfl w1.heap.size 3 i0 (.int .i64 0) 1 8 Try.underlying32 hi hz0 hz1 hz2 rfl (by decide) _ _ _ rfl (hown2.alloc _) ⟨w2.heap.size, 0, none⟩ 1 1 [.int .i64 _] rfl rfl (cell_one_new _ _ _) ?c2 ?c3 ?c4 ?c5 ?_)
      case c2 => first | rfl | (intro u hu; simp at hu; subst hu; rfl)
      case c3 => unfold maxLen; omega
      case c4 => omega
      case c5 => first | omega | (simp; omega)
      · intro v' w3 hown' hgrow _
        obtain ⟨q1, q2⟩ := row_step hs1 hgw HGr.out HG2.out HC2.out hown2 hgrow
        have q3 : w3.ownsRow w1.heap.size 3 1 v' (k + 1) (iv (l ++ [y])) := by
          simpa [iv] using hown'
        clear hown' hgrow hown2
        go_wp2_with fail
        go_roundw
        case rel => exact ⟨k + 1, l ++ [y], by go_num, by omega, by have := HL.out.1; simp; omega, by intro x hx; rcases List.mem_append.1 hx with h | h; exact HL.out.2 x h; simp at h; subst h; omega, q1, q2, q3⟩
        case measure => simp [intOf]; omega
    · obtain rfl : k = 12 := by omega
      go_wp2_with fail
      go_ret
      exact places_post HB1.out.size HL.out.1 HL.out.2 rfl hown HB1.out hg HGr.out
theorem cell_block {w : World} {a : Addr} {v : Value} (h : w.cell? a = some v) : a.block < w.heap.size := by
  by_cases hb : a.block < w.heap.size
  · exact hb
  · unfold World.cell? at h
    rw [Array.getElem?_eq_none (by omega)] at h
    simp at h
theorem code_at {w : World} {a : Option Addr} {len cap : Nat} {zs : List Int} (hl : len ≤ 1048576)
    (h : (a = none ∧ len = 0) ∨ ∃ x, a = some x ∧ len ≤ cap ∧ zs.length = cap ∧ (∀ i, i < zs.length → w.cell? (x.add i) = some (.int .u8 (zs.getD i 0))) ∧ ∀ n ∈ zs, (Lit.int .u8 n).wf = true) : CodeAt w w.heap.size a len := by
  refine ⟨hl, fun hp => ?_⟩
  rcases h with ⟨_, h0⟩ | ⟨x, rfl, hlc, hz, hc, hw⟩
  · omega
  · obtain ⟨b, off, spot⟩ := x
    have hs : spot = none := by simpa [Addr.add] using World.cell?_spot (hc 0 (by omega))
    subst hs
    refine ⟨b, off, rfl, ?_, fun j hj => ?_⟩
    · have := cell_block (hc 0 (by omega)); simpa [Addr.add] using this
    · have h1 := hc j (by omega)
      have e : (⟨b, off, none⟩ : Addr).add j = ⟨b, off + j, none⟩ := by cases j <;> simp [Addr.add]
      rw [e] at h1
      have hm : zs.getD j 0 ∈ zs := by
        have : j < zs.length := by omega
        simp [List.getD, this]
      have := bounds_u8 (hw _ hm)
      exact ⟨_, h1, this.1, by omega⟩
theorem big_any (a : Option Addr) (len cap : Nat) (w : World) :
    Calls Try.prog 10 #[.slice a len cap] w fun e w' => e = .returned (.bool (decide ((1048576 : Int) < len))) ∧ w' = w := by
  go_enter Try.func10, Try.ntmps10
  go_wp2_with fail
  go_ret
  exact ⟨rfl, rfl⟩
end Go.Proofs.Ytdlgailodhlbmaa
/- SqA: The draws of squares. -/
namespace Go.Proofs.Ytdlgailodhlbmaa
open Go.RowKit
attribute [local go_sem ↓] Go.wp_at_zero Go.wp_at_succ

/-- A number that is picked out of a row is one of it. -/
def PickPost (P : Int → Prop) (w : World) (g B : Nat) (a : Option Addr) (len cap : Nat) (e : Ending) (w' : World) : Prop :=
  ∃ x : Int, e = .returned (.int .i64 x) ∧ P x ∧ Cur w' g B a len cap ∧ w.grownBy w' (some g)
theorem five_ints (w : World) (t : TypeId) (P : Int → Prop) (y0 y1 y2 y3 y4 : Int) (h0 : P y0) (h1 : P y1) (h2 : P y2) (h3 : P y3) (h4 : P y4) (j : Nat) (hj : j < 5) :
    ∃ y : Int, (w.alloc (.cells #[.int .i64 y0, .int .i64 y1, .int .i64 y2, .int .i64 y3, .int .i64 y4] t)).cell? ⟨w.heap.size, j, none⟩ = some (.int .i64 y) ∧ P y := by
  rw [World.cell?_alloc_mark]
  match j, hj with
  | 0, _ => exact ⟨y0, rfl, h0⟩
  | 1, _ => exact ⟨y1, rfl, h1⟩
  | 2, _ => exact ⟨y2, rfl, h2⟩
  | 3, _ => exact ⟨y3, rfl, h3⟩
  | 4, _ => exact ⟨y4, rfl, h4⟩
def SquarePost (n : Nat) (w : World) (g B : Nat) (a : Option Addr) (len cap : Nat) (e : Ending) (w' : World) : Prop :=
  ∃ v X, e = .returned v ∧ Sq n X ∧ MAns w' v X w.heap.size w'.heap.size ∧ Cur w' g B a len cap ∧ w.grownBy w' (some g)
theorem cur_grown {w w' : World} {g B len cap C : Nat} {a : Option Addr} {q : Option Nat} (h : Cur w g B a len cap) (hg : w.grownBy w' q) (hC : g < C) (hCs : C ≤ w.heap.size) (hq2 : ∀ k, q = some k → C ≤ k) : Cur w' g B a len cap := by
  have hb3 : Below C w w' := ⟨hg.os, hg.tape, hg.output, hg.size, fun k hk => hg.block k (by omega) (fun e => by have := hq2 k e.symm; omega)⟩
  obtain ⟨hB, hgs, hcode, c0, ⟨i, c1, hi⟩, ⟨k, c2⟩, hf⟩ := h
  exact ⟨hB, by have := hb3.size; omega, hcode.below hb3 (by omega), (hb3.cell (p := ⟨g, 0, none⟩) hC).trans c0, ⟨i, (hb3.cell (p := ⟨g, 1, none⟩) hC).trans c1, hi⟩, ⟨k, (hb3.cell (p := ⟨g, 2, none⟩) hC).trans c2⟩, fun j hj => (hb3.frozen (p := ⟨g, j, none⟩) hC).trans (hf j hj)⟩
abbrev In8 (y : Int) : Prop := 0 ≤ y ∧ y ≤ 255
/-- Three squares that are drawn. -/
def SquaresDrawn (w : World) (e : Ending) (w' : World) : Prop :=
  ∃ (n : Nat) (v1 v2 v3 : Value) (X Y Z : List (List Int)), e = .returned (.tuple #[v1, v2, v3]) ∧ 1 ≤ n ∧ n ≤ 3 ∧ Sq n X ∧ Sq n Y ∧ Sq n Z ∧ MAns w' v1 X w.heap.size w'.heap.size ∧ MAns w' v2 Y w.heap.size w'.heap.size ∧ MAns w' v3 Z w.heap.size w'.heap.size ∧ Below w.heap.size w w'
theorem MAns.wide {w : World} {v : Value} {X : List (List Int)} {lo hi lo' hi' : Nat} (h : MAns w v X lo hi) (h1 : lo' ≤ lo) (h2 : hi ≤ hi') : MAns w v X lo' hi' := by
  obtain ⟨a, cap, ss, e, hr, hc, q⟩ := h
  refine ⟨a, cap, ss, e, hr, hc, ?_⟩
  rcases q with rfl | ⟨g, rfl, hm⟩
  · exact .inl rfl
  · exact .inr ⟨g, rfl, hm.wide h1 h2⟩
theorem MAns.drawn {w w' : World} {v : Value} {X : List (List Int)} {lo hi g : Nat} (h : MAns w v X lo hi) (hg : w.grownBy w' (some g)) (hl : g < lo) : MAns w' v X lo hi :=
  h.turned (Turned.of_grown (lo := g) (hi := g + 1) hg (Nat.le_refl _) (by omega)) (.inr hl)
end Go.Proofs.Ytdlgailodhlbmaa
/- MatD: The walk of the model's MulM. -/
namespace Go.Proofs.Ytdlgailodhlbmaa
open Go.RowKit
open W (B8 Mx)
attribute [local go_sem ↓] Go.wp_at_zero Go.wp_at_succ
attribute [local irreducible] W.gm W.xs W.mm

end Go.Proofs.Ytdlgailodhlbmaa
/- OpenC: The code that a drawn law is handed: what came in. -/
namespace Go.Proofs.Ytdlgailodhlbmaa
open Go.RowKit Go.ChangeShapes Go.WideShapes
set_option maxRecDepth 100000 in
theorem open_code {H : Type} {enc : TypeId × Value → H} {W : World} {r : Reach} {b0 base : Nat} {held : Bool} {v : Value} {d : DataW H} {p : List MemPlace}
    (hv : Value.okWide Try.prog W r b0 22 v) (h : DataW.Trod enc Try.prog W base (fun _ => true) held 22 v d p) : ∃ a len cap, v = .slice a len cap ∧ (len ≤ 1048576 → CodeAt W W.heap.size a len) := by
  obtain ⟨a0, l0, c0, rfl⟩ := okWide_slice Try.underlying22 hv
  refine ⟨a0, l0, c0, rfl, fun hl => ?_⟩
  obtain ⟨fuel, hf⟩ := h
  rcases open_ints Try.underlying22 Try.underlying5 (by kernel_rfl) hf with ⟨hcs, _⟩ | ⟨x, l, c, zs, hcs, _, hl', hm, hz, _, hcell, hwz⟩
  · simp [Value.cells] at hcs
    obtain ⟨rfl, rfl, rfl⟩ := hcs
    exact code_at (cap := 0) (zs := []) hl (.inl ⟨rfl, rfl⟩)
  · simp [Value.cells] at hcs
    obtain ⟨rfl, rfl, rfl⟩ := hcs
    exact code_at (cap := c0) (zs := zs) hl (.inr ⟨_, rfl, hl', by simpa using hz, hcell, hwz⟩)
end Go.Proofs.Ytdlgailodhlbmaa
/- LawSq: The law FnMatrices, over what is told of the program's own functions (written by gen/mklawsq.py). -/
namespace Go.Proofs.Ytdlgailodhlbmaa
open Go.RowKit
open W (B8 Mx)
attribute [local go_sem ↓] Go.wp_at_zero Go.wp_at_succ
attribute [local irreducible] W.gm W.xs W.mm W.gi

theorem sq_matOk {n : Nat} {X : List (List Int)} (h : Sq n X) (h1 : 1 ≤ n) (h8 : n ≤ 8) : matOk X = true ∧ colsOf X = n := by
  have hc : colsOf X = n := by
    have hl := h.len
    cases X with
    | nil => simp at hl; omega
    | cons x X => exact (h.row x (by simp)).1
  refine ⟨?_, hc⟩
  unfold matOk
  rw [Bool.and_eq_true, List.all_eq_true]
  refine ⟨fun x hx => ?_, by rw [h.len]; simp; omega⟩
  obtain ⟨q1, q2⟩ := h.row x hx
  have hc' : (X.headD []).length = n := hc
  unfold rowOk numOk
  rw [hc']
  simp only [Bool.and_eq_true, decide_eq_true_eq, List.all_eq_true]
  exact ⟨⟨q1, by omega, by omega⟩, fun y hy => q2 y hy⟩
theorem sq_rowsX (n : Nat) (A : Mx) : Sq n (rowsX n n A) := ⟨by simp [rowsX], fun x hx => by
  obtain ⟨i, _, rfl⟩ := List.mem_map.1 hx
  exact ⟨by simp, fun y hy => by obtain ⟨j, _, rfl⟩ := List.mem_map.1 hy; exact b8_num _⟩⟩
theorem mx_rowsX (n : Nat) (A : Mx) : W.eqM n n (mx (rowsX n n A)) A := fun i hi j hj => by
  have a1 : (rowsX n n A).getD i [] = (List.range n).map fun j => ((A i j).toNat : Int) := by unfold rowsX; rw [List.getD_eq_getElem?_getD, List.getElem?_map, List.getElem?_range hi]; rfl
  unfold mx
  rw [a1, List.getD_eq_getElem?_getD, List.getElem?_map, List.getElem?_range hj]
  exact g8_back _
theorem mulX_sq {n : Nat} {X Y : List (List Int)} (h : Sq n X) (k : Sq n Y) (h1 : 1 ≤ n) (h8 : n ≤ 8) : mulX X Y = rowsX n n (W.mm n (mx X) (mx Y)) := by
  obtain ⟨a1, a2⟩ := sq_matOk h h1 h8
  obtain ⟨b1, b2⟩ := sq_matOk k h1 h8
  unfold mulX
  rw [if_pos ⟨a1, b1, by rw [a2, k.len]⟩, h.len, k.len, b2]
theorem mulX_is {n : Nat} {X Y Z : List (List Int)} (h : Sq n X) (k : Sq n Y) (z : Sq n Z) (h1 : 1 ≤ n) (h8 : n ≤ 8) (e : W.eqM n n (W.mm n (mx X) (mx Y)) (mx Z)) : mulX X Y = Z := by
  rw [mulX_sq h k h1 h8]
  exact (sq_rowsX n _).ext z ((mx_rowsX n _).trans e)
theorem mulX_sq' {n : Nat} {X Y : List (List Int)} (h : Sq n X) (k : Sq n Y) (h1 : 1 ≤ n) (h8 : n ≤ 8) : Sq n (mulX X Y) ∧ W.eqM n n (mx (mulX X Y)) (W.mm n (mx X) (mx Y)) := by
  rw [mulX_sq h k h1 h8]; exact ⟨sq_rowsX n _, mx_rowsX n _⟩
theorem mulX_assoc {n : Nat} {X Y Z : List (List Int)} (h : Sq n X) (k : Sq n Y) (z : Sq n Z) (h1 : 1 ≤ n) (h8 : n ≤ 8) : mulX (mulX X Y) Z = mulX X (mulX Y Z) := by
  obtain ⟨a1, a2⟩ := mulX_sq' h k h1 h8
  obtain ⟨b1, b2⟩ := mulX_sq' k z h1 h8
  obtain ⟨c1, c2⟩ := mulX_sq' h b1 h1 h8
  refine mulX_is a1 z c1 h1 h8 ?_
  refine (W.mm_left a2).trans ?_
  rw [W.mm_assoc]
  exact (W.mm_right b2.symm).trans c2.symm
theorem mulX_one {n : Nat} {X : List (List Int)} (h : Sq n X) (h1 : 1 ≤ n) (h8 : n ≤ 8) : mulX X (oneX (n : Int)) = X ∧ mulX (oneX (n : Int)) X = X := by
  obtain ⟨_, q1, q2⟩ := mx_one h1 h8
  refine ⟨mulX_is h q1 h h1 h8 ((W.mm_right q2.symm).trans fun i _ j hj => W.mm_one hj _ i), mulX_is q1 h h h1 h8 ((W.mm_left q2.symm).trans fun i hi j _ => W.one_mm hi _ j)⟩
theorem mulX_eight {n : Nat} {X : List (List Int)} (h : Sq n X) (h1 : 1 ≤ n) (h3 : n ≤ 3) : mulX X (oneX 8) = [] := by
  refine mulX_no fun ⟨_, _, e⟩ => ?_
  rw [(sq_matOk h h1 (by omega)).2] at e
  have : (oneX 8).length = 8 := by
    have := (mx_one (n := 8) (by omega) (by omega)).2.1.len
    exact this
  omega
theorem Sq.fit {n : Nat} {X : List (List Int)} (h : Sq n X) (h8 : n ≤ 8) : MFit X := fit_square (n := 8) (m := 8) (by rw [h.len]; exact h8) (fun x hx => by rw [(h.row x hx).1]; exact h8) (by omega)
theorem MAns.form {w : World} {v : Value} {X : List (List Int)} {lo hi : Nat} (h : MAns w v X lo hi) : ∃ a cap, v = .slice a X.length cap := by
  obtain ⟨a, cap, ss, e, hr, _⟩ := h
  exact ⟨a, cap, by rw [e, ← hr, rws_len]⟩
theorem MAns.none {w : World} {v : Value} {lo hi : Nat} (h : MAns w v [] lo hi) : ∃ a cap, v = .slice a 0 cap := h.form
theorem oneX_0 : oneX 0 = [] := by unfold oneX; rw [if_neg (by omega)]
end Go.Proofs.Ytdlgailodhlbmaa
/- MatL: What matrices do to units, plain: units as a matrix of bytes. -/
namespace Go.Proofs.Ytdlgailodhlbmaa
open Go.RowKit
open W (B8 Mx)
attribute [local irreducible] W.gm W.xs W.mm W.gi

/-- Units: so many, all of one length. -/
structure Un (n s : Nat) (L : List ByteArray) : Prop where
  len : L.length = n
  size : ∀ x ∈ L, x.size = s
theorem Un.at {n s : Nat} {L : List ByteArray} (h : Un n s L) {i : Nat} (hi : i < n) : (L.getD i ⟨#[]⟩).size = s := h.size _ (by have := h.len; simp [List.getD, show i < L.length by omega])
theorem Un.acc {n s : Nat} {L : List ByteArray} (h : Un n s L) (row : List Int) : ∀ k, k < n → (accB row L (k + 1)).size = s
  | 0, hk => by unfold accB accB; rw [addB_size, mulT_size, h.at hk]; exact Nat.max_eq_right (Nat.zero_le _)
  | k + 1, hk => by
    unfold accB
    rw [addB_size, mulT_size, h.at hk, h.acc row k (by omega), Nat.max_self]
def tx (L : List ByteArray) : Mx := fun l j => tb (L.getD l ⟨#[]⟩) j
theorem app_is {n s : Nat} {X : List (List Int)} {L : List ByteArray} (hX : Sq n X) (hL : Un n s L) (h1 : 1 ≤ n) (h8 : n ≤ 8) : Un n s (appX X L) ∧ ∀ i, i < n → ∀ j, tx (appX X L) i j = W.mm n (mx X) (tx L) i j := by
  have e : appX X L = X.map fun row => accB row L n := by
    obtain ⟨a1, a2⟩ := sq_matOk hX h1 h8
    unfold appX
    rw [if_pos ⟨a1, by rw [a2, hL.len]⟩, hL.len]
  rw [e]
  refine ⟨⟨by rw [List.length_map]; exact hX.len, fun x hx => ?_⟩, fun i hi j => ?_⟩
  · obtain ⟨row, _, rfl⟩ := List.mem_map.1 hx
    obtain ⟨m, rfl⟩ : ∃ m, n = m + 1 := ⟨n - 1, by omega⟩
    exact hL.acc row m (by omega)
  · have hi' : i < X.length := by rw [hX.len]; exact hi
    have a1 : (X.map fun row => accB row L n).getD i ⟨#[]⟩ = accB (X.getD i []) L n := by simp [List.getD, hi']
    unfold tx
    rw [a1, tb_acc]
    unfold W.mm
    exact W.xs_congr fun k _ => by rw [mx_is]
theorem Un.ext {n s : Nat} {L M : List ByteArray} (h : Un n s L) (k : Un n s M) (e : ∀ i, i < n → ∀ j, tx L i j = tx M i j) : L = M := by
  apply List.ext_getElem (by rw [h.len, k.len])
  intro i h1 h2
  have hi : i < n := by rw [← h.len]; exact h1
  have a1 : L.getD i ⟨#[]⟩ = L[i] := by simp [List.getD, h1]
  have a2 : M.getD i ⟨#[]⟩ = M[i] := by simp [List.getD, h2]
  rw [← a1, ← a2]
  exact tb_ext (by rw [h.at hi, k.at hi]) (e i hi)
theorem mm_tx {n : Nat} {A : Mx} {P Q : Mx} (h : ∀ i, i < n → ∀ j, P i j = Q i j) (i j : Nat) : W.mm n A P i j = W.mm n A Q i j := by
  unfold W.mm
  exact W.xs_congr fun k hk => by rw [h k hk j]
theorem mm_mx {n : Nat} {A B : Mx} (h : W.eqM n n A B) (P : Mx) {i : Nat} (hi : i < n) (j : Nat) : W.mm n A P i j = W.mm n B P i j := by
  unfold W.mm
  exact W.xs_congr fun k hk => by rw [h i hi k hk]
theorem app_mul {n s : Nat} {X Y : List (List Int)} {L : List ByteArray} (hX : Sq n X) (hY : Sq n Y) (hL : Un n s L) (h1 : 1 ≤ n) (h8 : n ≤ 8) : appX (mulX X Y) L = appX X (appX Y L) := by
  obtain ⟨a1, a2⟩ := mulX_sq' hX hY h1 h8
  obtain ⟨b1, b2⟩ := app_is hY hL h1 h8
  obtain ⟨c1, c2⟩ := app_is hX b1 h1 h8
  obtain ⟨d1, d2⟩ := app_is a1 hL h1 h8
  refine d1.ext c1 fun i hi j => ?_
  rw [d2 i hi j, c2 i hi j, mm_tx b2, mm_mx a2 _ hi, W.mm_assoc]
theorem app_one {n s : Nat} {L : List ByteArray} (hL : Un n s L) (h1 : 1 ≤ n) (h8 : n ≤ 8) : appX (oneX (n : Int)) L = L := by
  obtain ⟨_, q1, q2⟩ := mx_one h1 h8
  obtain ⟨b1, b2⟩ := app_is q1 hL h1 h8
  refine b1.ext hL fun i hi j => ?_
  rw [b2 i hi j, mm_mx q2.symm _ hi, W.one_mm hi]
theorem app_back {n s : Nat} {X R : List (List Int)} {L : List ByteArray} (hX : Sq n X) (hR : Sq n R) (he : mulX R X = oneX (n : Int)) (hL : Un n s L) (h1 : 1 ≤ n) (h8 : n ≤ 8) : appX R (appX X L) = L := by
  rw [← app_mul hR hX hL h1 h8, he, app_one hL h1 h8]
theorem app_none {n : Nat} {X : List (List Int)} (hX : Sq n X) (h1 : 1 ≤ n) (h8 : n ≤ 8) : appX X [] = [] := by
  refine appX_no fun ⟨_, e⟩ => ?_
  rw [(sq_matOk hX h1 h8).2] at e
  simp at e
  omega
end Go.Proofs.Ytdlgailodhlbmaa
/- LawInv: The law FnInverses, over what is told of the program's own InvM (written by gen/mklawinv.py). -/
namespace Go.Proofs.Ytdlgailodhlbmaa
open Go.RowKit
open W (B8 Mx)
attribute [local go_sem ↓] Go.wp_at_zero Go.wp_at_succ
attribute [local irreducible] W.gm W.xs W.mm W.gi

theorem MSee.top {w : World} {p : Option Addr} {n c : Nat} {X : List (List Int)} {lo hi : Nat} (h : MSee w (.slice p n c) X lo hi) (hs : Sq n X) (h1 : 1 ≤ n) :
    ∃ b off loc cp, p = some ⟨b, off, none⟩ ∧ b < w.heap.size ∧ w.cell? ⟨b, off, none⟩ = some (.slice loc n cp) ∧ RRow w loc (ics (X.getD 0 [])) lo hi := by
  obtain ⟨a, cap, ss, e, hr, hm⟩ := h
  have hl : ss.length = n := by rw [← hs.len, ← hr, rws_len]
  simp only [Value.slice.injEq] at e
  obtain ⟨rfl, _, _⟩ := e
  obtain ⟨b, off, e2, hb, hc⟩ := hm.at (by omega)
  have h0 : 0 < ss.length := by omega
  have hget : X.getD 0 [] = ss[0].row := by rw [← hr, List.getD_eq_getElem?_getD]; simp [rws, h0]
  have hlen : ss[0].row.length = n := by rw [← hget]; exact (hs.at (by omega)).1
  have hc0 := hc 0 h0
  unfold srv at hc0
  rw [hlen] at hc0
  exact ⟨b, off, ss[0].loc, ss[0].cap, e2, hb, hc0, by rw [hget]; exact hm.2 _ (List.getElem_mem h0)⟩
theorem svs_rep (n : Nat) (s : SR) : svs (List.replicate n s) = List.replicate n (srv s) := by simp [svs]
theorem rws_rep (n : Nat) (s : SR) : rws (List.replicate n s) = List.replicate n s.row := by simp [rws]
theorem twice_see {w : World} {B n cp lo hi : Nat} {v : Value} {loc : Option Addr} {r : List Int} (ho : w.ownsRow B 32 1 v n (List.replicate n (.slice loc n cp))) (hp : 1 ≤ n) (hr : RRow w loc (ics r) lo hi) (hl : r.length = n) (hh : hi ≤ w.heap.size) : MSee w v (List.replicate n r) 0 w.heap.size := by
  obtain ⟨g, cap, rfl, _⟩ := own_some ho (by omega)
  have hw := own_wcells ho
  have e : List.replicate n (Value.slice loc n cp) = svs (List.replicate n ⟨loc, r, cp⟩) := by rw [svs_rep]; unfold srv; rw [hl]
  rw [e] at hw
  refine ⟨_, cap, List.replicate n ⟨loc, r, cp⟩, by simp, by rw [rws_rep], RRow.of_wcells hw (Nat.zero_le _) hw.1, fun s hs => ?_⟩
  rw [List.eq_of_mem_replicate hs]
  exact hr.wide (Nat.zero_le _) hh
theorem twice_sq {n : Nat} {r : List Int} (hl : r.length = n) (hr : ∀ y ∈ r, 0 ≤ y ∧ y ≤ 255) : Sq n (List.replicate n r) := ⟨by simp, fun x hx => by rw [List.eq_of_mem_replicate hx]; exact ⟨hl, hr⟩⟩
theorem twice_no {n : Nat} {r : List Int} (h : 1 < n) : (invX (List.replicate n r)).2 = false := by
  rw [invX_no]
  rintro ⟨Y, _, _, _, _, hY⟩
  rw [List.length_replicate] at hY
  refine W.twin_none (n := n) (p := 0) (q := 1) (by omega) h (by omega) (fun j _ => ?_) hY
  have e : ∀ i, i < n → (List.replicate n r).getD i [] = r := fun i hi => by simp [List.getD, hi]
  rw [mx_is, mx_is, e 0 (by omega), e 1 h]
theorem inv_one {n : Nat} {X R : List (List Int)} (h : Sq n X) (h1 : 1 ≤ n) (h8 : n ≤ 8) (hR : IsInv X R) : Sq n R ∧ mulX X R = oneX (n : Int) ∧ mulX R X = oneX (n : Int) := by
  obtain ⟨_, q1, q2⟩ := mx_one h1 h8
  obtain ⟨_, _, s, l1, l2⟩ := hR
  rw [h.len] at s l1 l2
  exact ⟨s, mulX_is h s q1 h1 h8 (l2.trans q2), mulX_is s h q1 h1 h8 (l1.trans q2)⟩
theorem invX_true {X R : List (List Int)} (h : invX X = (R, true)) : IsInv X R := by
  by_cases hx : ∃ Y, IsInv X Y
  · obtain ⟨Y, hY⟩ := hx
    rw [invX_yes hY] at h
    simp at h
    rw [← h]; exact hY
  · rw [invX_no hx] at h; simp at h
theorem invX_false {X R : List (List Int)} (h : invX X = (R, false)) : R = [] := by
  by_cases hx : ∃ Y, IsInv X Y
  · obtain ⟨Y, hY⟩ := hx
    rw [invX_yes hY] at h; simp at h
  · rw [invX_no hx] at h; simp at h; exact h
end Go.Proofs.Ytdlgailodhlbmaa
/- CodN: What was lost is there again, plain. Nothing of the program is read here. -/
namespace Go.Proofs.Ytdlgailodhlbmaa
open Go.RowKit
open W (B8 Mx)

theorem addL_zeros : ∀ (a : List UInt8) (n : Nat), n ≤ a.length → W.addL a (List.replicate n 0) = a
  | a, 0, _ => W.addL_nil a
  | [], n + 1, h => by simp at h
  | x :: a, n + 1, h => by
    rw [List.replicate_succ, W.addL, addL_zeros a n (by simpa using h)]
    simp
theorem fill_same {x : ByteArray} {n : Nat} (h : n ≤ x.size) : addB x (zerosB n) = x := by
  unfold addB zerosB
  rw [addL_zeros _ _ h]
theorem mostL_un {n z : Nat} {L : List ByteArray} (h : Un n z L) : mostL L ≤ z := mostL_all (fun x hx => Nat.le_of_eq (h.size x hx))
theorem fillL_un {n z : Nat} {L : List ByteArray} (h : Un n z L) : fillL L = L := by
  unfold fillL
  apply List.ext_getElem (by simp)
  intro i h1 h2
  rw [List.getElem_map]
  exact fill_same (by rw [h.size _ (List.getElem_mem h2)]; exact mostL_un h)
/-- Units and sums. -/
def allL (s : Int) (L : List ByteArray) : List ByteArray := (codeX s).map fun row => accB row L (schK s)
theorem encX_un {s : Int} {z : Nat} {L : List ByteArray} (hs : schOk s = true) (hL : Un (schK s) z L) (hz : z ≤ 200) : encX s L = (allL s L, true) := by
  have hsh : shortL L = true := by
    unfold shortL
    rw [List.all_eq_true]
    intro x hx
    have := hL.size x hx
    simp; omega
  rw [encX_yes ⟨hs, hL.len, hsh⟩, fillL_un hL]
  obtain ⟨a1, a2⟩ := codeX_ok hs
  unfold appX allL
  rw [if_pos ⟨a1, by rw [a2, hL.len]⟩, hL.len]
theorem allL_len {s : Int} (hs : schOk s = true) (L : List ByteArray) : (allL s L).length = schK s + schM s := by unfold allL; rw [List.length_map, codeX_len hs]
theorem allL_at {s : Int} (hs : schOk s = true) (L : List ByteArray) {i : Nat} (hi : i < schK s + schM s) : (allL s L).getD i ⟨#[]⟩ = accB ((codeX s).getD i []) L (schK s) := by
  have hi' : i < (codeX s).length := by rw [codeX_len hs]; exact hi
  simp [allL, List.getD, hi']
theorem allL_size {s : Int} (hs : schOk s = true) {z : Nat} {L : List ByteArray} (hL : Un (schK s) z L) {i : Nat} (hi : i < schK s + schM s) : ((allL s L).getD i ⟨#[]⟩).size = z := by
  obtain ⟨b1, b2, _, _⟩ := sch_bounds hs
  rw [allL_at hs L hi]
  obtain ⟨m, hm⟩ : ∃ m, schK s = m + 1 := ⟨schK s - 1, by omega⟩
  rw [hm]
  exact hL.acc _ m (by omega)
theorem allL_take {s : Int} (hs : schOk s = true) {z : Nat} {L : List ByteArray} (hL : Un (schK s) z L) : (allL s L).take (schK s) = L := by
  obtain ⟨b1, b2, _, _⟩ := sch_bounds hs
  have h1 := app_one hL (by omega) (by omega)
  unfold allL
  rw [← List.map_take, codeX_start hs]
  have h2 : appX (oneX (schK s : Nat)) L = (oneX (schK s : Nat)).map fun row => accB row L (schK s) := by
    obtain ⟨_, q1, _⟩ := mx_one (n := schK s) (by omega) (by omega)
    obtain ⟨a1, a2⟩ := sq_matOk q1 (by omega) (by omega)
    unfold appX
    rw [if_pos ⟨a1, by rw [a2, hL.len]⟩, hL.len]
  rw [← h2]
  exact h1
/-- Flags that are all true but at some places. -/
def falseAt (n : Nat) (J : List Nat) : List Bool := (List.range n).map fun j => !J.contains j
theorem falseAt_len (n : Nat) (J : List Nat) : (falseAt n J).length = n := by simp [falseAt]
theorem falseAt_at {n : Nat} {J : List Nat} {j : Nat} (h : j < n) : (falseAt n J).getD j false = !J.contains j := by
  unfold falseAt
  rw [List.getD_eq_getElem?_getD, List.getElem?_map, List.getElem?_range h]; rfl
theorem falseAt_set {n : Nat} {J : List Nat} {j : Nat} : (falseAt n J).set j false = falseAt n (J ++ [j]) := by
  apply List.ext_getElem (by simp [falseAt])
  intro i h1 h2
  rw [List.getElem_set]
  simp only [falseAt, List.getElem_map, List.getElem_range, List.contains_append]
  by_cases e : j = i
  · subst e; rw [if_pos rfl]; simp
  · rw [if_neg e]
    have : [j].contains i = false := by simp; omega
    rw [this, Bool.or_false]
theorem falseAt_none (n : Nat) : falseAt n [] = List.replicate n true := by
  apply List.ext_getElem (by simp [falseAt])
  intro i h1 h2
  simp [falseAt]
theorem there_false (n : Nat) (J : List Nat) : thereI (falseAt n J) n = (List.range n).filter fun j => !J.contains j := by
  unfold thereI
  apply List.filter_congr
  intro i hi
  rw [falseAt_at (List.mem_range.1 hi)]
/-- Texts that are as they were but at some places. -/
def AsWas (A M : List ByteArray) (n : Nat) (J : List Nat) : Prop := M.length = n ∧ ∀ j, j < n → J.contains j = false → M.getD j ⟨#[]⟩ = A.getD j ⟨#[]⟩
theorem AsWas.set {A M : List ByteArray} {n : Nat} {J : List Nat} (h : AsWas A M n J) (j : Nat) (x : ByteArray) : AsWas A (M.set j x) n (J ++ [j]) := by
  refine ⟨by rw [List.length_set]; exact h.1, fun i hi hc => ?_⟩
  rw [List.contains_append, Bool.or_eq_false_iff] at hc
  have hij : j ≠ i := by
    intro e
    subst e
    have := hc.2
    simp at this
  rw [List.getD_eq_getElem?_getD, List.getElem?_set_ne hij, ← List.getD_eq_getElem?_getD]
  exact h.2 i hi hc.1
theorem enough {s : Int} (hs : schOk s = true) {J : List Nat} (hJ : J.length = schM s) (hlt : ∀ j ∈ J, j < schK s + schM s) : schK s ≤ (thereI (falseAt (schK s + schM s) J) (schK s + schM s)).length := by
  have c1 : ∀ a : Fin 3, 2 ≤ (thereI (falseAt 3 [a.val]) 3).length := by decide
  have c2 : ∀ a b : Fin 5, 3 ≤ (thereI (falseAt 5 [a.val, b.val]) 5).length := by decide
  have c3 : ∀ a b : Fin 6, 4 ≤ (thereI (falseAt 6 [a.val, b.val]) 6).length := by decide
  rcases sch_cases hs with rfl | rfl | rfl
  · match J, hJ with
    | [a], _ => exact c1 ⟨a, hlt a (by simp)⟩
  · match J, hJ with
    | [a, b], _ => exact c2 ⟨a, hlt a (by simp)⟩ ⟨b, hlt b (by simp)⟩
  · match J, hJ with
    | [a, b], _ => exact c3 ⟨a, hlt a (by simp)⟩ ⟨b, hlt b (by simp)⟩
theorem few {s : Int} (hs : schOk s = true) (J : List Nat) (q : Nat) : (thereI (falseAt (schK s + schM s) (J ++ (List.range (schM s + 1)).map fun i => (q + i) % (schK s + schM s))) (schK s + schM s)).length < schK s := by
  have c1 : ∀ a : Fin 3, (thereI (falseAt 3 ((List.range 2).map fun i => (a.val + i) % 3)) 3).length < 2 := by decide
  have c2 : ∀ a : Fin 5, (thereI (falseAt 5 ((List.range 3).map fun i => (a.val + i) % 5)) 5).length < 3 := by decide
  have c3 : ∀ a : Fin 6, (thereI (falseAt 6 ((List.range 3).map fun i => (a.val + i) % 6)) 6).length < 4 := by decide
  have mono : ∀ (n : Nat) (Q : List Nat), (thereI (falseAt n (J ++ Q)) n).length ≤ (thereI (falseAt n Q) n).length := fun n Q => by
    rw [there_false, there_false, ← List.countP_eq_length_filter, ← List.countP_eq_length_filter]
    refine List.countP_mono_left (fun x _ hx => ?_)
    rw [List.contains_append] at hx
    simp only [Bool.not_or, Bool.and_eq_true] at hx
    exact hx.2
  have md : ∀ (n : Nat) (m : Nat), ((List.range m).map fun i => (q + i) % n) = (List.range m).map fun i => (q % n + i) % n := fun n m => by
    apply List.map_congr_left
    intro i _
    exact (Nat.mod_add_mod q n i).symm
  rcases sch_cases hs with rfl | rfl | rfl
  · refine Nat.lt_of_le_of_lt (mono 3 _) ?_
    have := c1 ⟨q % 3, Nat.mod_lt _ (by omega)⟩
    have e := md 3 2
    rw [show schM 1 + 1 = 2 from rfl, show schK 1 + schM 1 = 3 from rfl, e]
    exact this
  · refine Nat.lt_of_le_of_lt (mono 5 _) ?_
    have := c2 ⟨q % 5, Nat.mod_lt _ (by omega)⟩
    have e := md 5 3
    rw [show schM 2 + 1 = 3 from rfl, show schK 2 + schM 2 = 5 from rfl, e]
    exact this
  · refine Nat.lt_of_le_of_lt (mono 6 _) ?_
    have := c3 ⟨q % 6, Nat.mod_lt _ (by omega)⟩
    have e := md 6 3
    rw [show schM 3 + 1 = 3 from rfl, show schK 3 + schM 3 = 6 from rfl, e]
    exact this
/-- What was lost is there again. -/
theorem decX_back {s : Int} (hs : schOk s = true) {z : Nat} {L M : List ByteArray} (hL : Un (schK s) z L) {J : List Nat} (hM : AsWas (allL s L) M (schK s + schM s) J) (hJ : J.length = schM s) (hlt : ∀ j ∈ J, j < schK s + schM s) : decX s M (falseAt (schK s + schM s) J) = (L, true) := by
  obtain ⟨b1, b2, b3, b4⟩ := sch_bounds hs
  have hen := enough hs hJ hlt
  have hthere : ∀ i ∈ thereI (falseAt (schK s + schM s) J) (schK s + schM s), i < schK s + schM s ∧ M.getD i ⟨#[]⟩ = (allL s L).getD i ⟨#[]⟩ := fun i hi => by
    obtain ⟨q1, q2⟩ := thereI_mem.1 hi
    rw [falseAt_at q1] at q2
    exact ⟨q1, hM.2 i q1 (by simpa using q2)⟩
  have hok : DecOk s M (falseAt (schK s + schM s) J) := by
    refine ⟨hs, hM.1, falseAt_len _ _, ?_, by rw [falseAt_len]; exact hen⟩
    rw [falseAt_len]
    intro i hi j hj
    obtain ⟨i1, i2⟩ := hthere i hi
    obtain ⟨j1, j2⟩ := hthere j hj
    rw [i2, j2, allL_size hs hL i1, allL_size hs hL j1]
  have hP := pick_sub s (falseAt (schK s + schM s) J) (schK s + schM s)
  have hPl : (pickI s (falseAt (schK s + schM s) J) (schK s + schM s)).length = schK s := by rw [pick_len]; omega
  have hPm : ∀ i ∈ pickI s (falseAt (schK s + schM s) J) (schK s + schM s), i < schK s + schM s ∧ M.getD i ⟨#[]⟩ = (allL s L).getD i ⟨#[]⟩ := fun i hi => hthere i (List.mem_of_mem_take hi)
  obtain ⟨Y, hY⟩ := any_inv hs hP hPl
  have hI := invX_yes hY
  have hX := decX_yes hok (by rw [falseAt_len, hI])
  rw [hX, falseAt_len, hI]
  generalize pickI s (falseAt (schK s + schM s) J) (schK s + schM s) = P at *
  have hro := rows_ok hs (X := rowsP s P) (fun r hr => by obtain ⟨i, hi, rfl⟩ := List.mem_map.1 hr; exact (codeX_at hs (hPm i hi).1).2) (by rw [rowsP_len, hPl]; omega) (by rw [rowsP_len, hPl]; omega)
  have hsq : Sq (schK s) (rowsP s P) := by
    have := sq_of hro.1 (by rw [hro.2, rowsP_len, hPl])
    rw [rowsP_len, hPl] at this
    exact this
  have hu : unitsP M P = appX (rowsP s P) L := by
    unfold appX
    rw [if_pos ⟨hro.1, by rw [hro.2, hL.len]⟩, hL.len]
    unfold unitsP rowsP
    rw [List.map_map]
    apply List.map_congr_left
    intro i hi
    rw [(hPm i hi).2, allL_at hs L (hPm i hi).1]
    rfl
  obtain ⟨hR, _, he⟩ := inv_one hsq (by omega) (by omega) hY
  show (appX Y (unitsP M P), true) = (L, true)
  rw [hu, app_back hsq hR he hL (by omega) (by omega)]
theorem rebX_back {s : Int} (hs : schOk s = true) {z : Nat} {L M : List ByteArray} (hL : Un (schK s) z L) (hz : z ≤ 200) {J : List Nat} (hM : AsWas (allL s L) M (schK s + schM s) J) (hJ : J.length = schM s) (hlt : ∀ j ∈ J, j < schK s + schM s) : rebX s M (falseAt (schK s + schM s) J) = (allL s L, true) := by
  unfold rebX
  rw [decX_back hs hL hM hJ hlt]
  exact encX_un hs hL hz
theorem decX_few {s : Int} (hs : schOk s = true) {M : List ByteArray} (J : List Nat) (q : Nat) : decX s M (falseAt (schK s + schM s) (J ++ (List.range (schM s + 1)).map fun i => (q + i) % (schK s + schM s))) = ([], false) := by
  refine decX_no (fun h => ?_)
  have h1 := few hs J q
  have h2 := h.1.2.2.2.2
  rw [falseAt_len] at h2
  omega
end Go.Proofs.Ytdlgailodhlbmaa
/- DrP: The draws of units of a schema. -/
namespace Go.Proofs.Ytdlgailodhlbmaa
open Go.RowKit
attribute [local go_sem ↓] Go.wp_at_zero Go.wp_at_succ

/-- Units that are drawn: of a schema, all of one length. -/
def UnitsSch (w : World) (e : Ending) (w' : World) : Prop :=
  ∃ (x z : Nat) (v : Value) (L : List ByteArray), e = .returned (.tuple #[.int .i64 (x : Int), v]) ∧ schOk (x : Int) = true ∧ z ≤ 9 ∧ Un (schK (x : Int)) z L ∧ SAns w' v L w.heap.size w'.heap.size ∧ Below w.heap.size w w'
set_option maxRecDepth 100000 in
set_option maxHeartbeats 1000000 in
theorem drawUnits_sch (w : World) (a : Option Addr) (len cap : Nat) (hc : CodeAt w w.heap.size a len) : Calls Try.prog 11 #[.slice a len cap] w fun e w' => UnitsSch w e w' := by
  obtain ⟨i0, hi0, hz0, hz1, hz2⟩ := info_parts infoTextG
  have HC : Hid (CodeAt w w.heap.size a len) := hc
  clear hc
  go_enter Try.func11, Try.ntmps11
  go_wp2_with fail
  refine (l01New_any _ a len cap HC.out).mono ?_
  rintro e w0 ⟨g, rfl, hg, hcur, hb0⟩
  have HC0 := Shut.mk hcur
  have HB0 := Shut.mk hb0
  clear hcur hb0
  go_wp2_with fail
  refine (l01Below_any _ g _ a len cap 3 (by omega) HC0.out).mono ?_
  rintro e w1 ⟨x, rfl, x0, x1, hc1, hg1⟩
  obtain ⟨m, rfl⟩ := Int.eq_ofNat_of_zero_le x0
  have HC1 := Shut.mk hc1
  have HB1 := Shut.mk (HB0.out.trans (below_gb hg1 hg HB0.out.size))
  obtain ⟨sc, hsc⟩ : ∃ n : Nat, n = m + 1 := ⟨_, rfl⟩
  have hni : (1 : Int) + (m : Int) = (sc : Int) := by omega
  have hs1 : 1 ≤ sc := by omega
  have hs3 : sc ≤ 3 := by omega
  clear hc1 hg1 HC0 HB0 hsc
  go_wp2_with fail
  have hsok : schOk (sc : Int) = true := by unfold schOk; simp only [Bool.or_eq_true, decide_eq_true_eq]; omega
  obtain ⟨hk2, hk4, _, _⟩ := sch_bounds hsok
  have HSC := Shut.mk (specSchema (sc : Int))
  unfold SchPost at HSC
  rw [hsok] at HSC
  have HSK := Shut.mk hsok
  obtain ⟨k, hkk⟩ : ∃ k, k = schK (sc : Int) := ⟨_, rfl⟩
  obtain ⟨m2, hmm⟩ : ∃ m2, m2 = schM (sc : Int) := ⟨_, rfl⟩
  rw [← hkk, ← hmm] at HSC
  rw [← hkk] at hk2 hk4
  have HKK := Shut.mk hkk
  clear hkk hmm hsok
  refine (HSC.out _).mono ?_
  rintro e w2 ⟨rfl, hw⟩
  obtain rfl : w1 = w2 := hw.symm
  clear hw
  go_wp2_with fail
  refine (l01Below_any _ g _ a len cap 9 (by omega) HC1.out).mono ?_
  rintro e w2 ⟨y, rfl, y0, y1, hc2, hg2⟩
  obtain ⟨s, rfl⟩ := Int.eq_ofNat_of_zero_le y0
  have hs9 : s ≤ 9 := by omega
  have HB2 := Shut.mk (HB1.out.trans (below_gb hg2 hg HB1.out.size))
  have hgw : g < w2.heap.size := hc2.2.1
  have hal : Below w2.heap.size w2 (w2.alloc (.cells #[] 9)) := (Below.refl _ _).alloc (Nat.le_refl _) _
  have HC2 := Shut.mk (hc2.below hal)
  have HG2 := Shut.mk (gb_below (row := some g) hal)
  have HO2 : Shut ((w2.alloc (.cells #[] 9)).ownsRow w2.heap.size 9 1 (.slice (some ⟨w2.heap.size, 0, none⟩) 0 0) 0 (tv [])) := ⟨World.ownsRow_made w2 #[] 0 (Nat.le_refl _) (by decide) rfl⟩
  clear hc2 hg2 HC1 HB1 hal
  go_wp2_with fail
  go_loopw [10, 11] (fun v i wr => ∃ (t : Nat) (L : List ByteArray) (vv : Value), vv = v ∧ i = .int .i64 t ∧ t ≤ k ∧ Shut (Un t s L) ∧ Shut (wr.ownsRow w2.heap.size 9 1 vv t (tv L)) ∧ Shut (Cur wr g w.heap.size a len cap) ∧ Shut (w2.grownBy wr (some g))) (fun _ i _ => k - (intOf i).toNat)
  case atStart => exact ⟨0, [], _, rfl, rfl, by omega, ⟨⟨rfl, by simp⟩⟩, HO2, HC2, HG2⟩
  case round =>
    clear HO2 HC2 HG2
    obtain ⟨t, L, v, rfl, rfl, ht, hun, hown, hcu, hgb⟩ := hrel
    obtain ⟨wi, rfl⟩ : ∃ wi, wi = wr := ⟨_, rfl⟩
    by_cases hlt : t < k
    · have hlt' : (t : Int) < (k : Int) := by omega
      go_wp2_with fail
      refine (l01Text_len _ g _ a len cap s (by omega) hcu.out).mono ?_
      rintro e w3 ⟨u, rfl, hu, hc3, hg3⟩
      have HC3 := Shut.mk hc3
      have HG3 := Shut.mk (gb_two hgb.out hg3)
      have hown3 := own_gbr hown.out hg3 hgw
      have hs3 : w2.heap.size ≤ w3.heap.size := HG3.out.size
      have HU := Shut.mk hu
      clear hc3 hg3 hcu hgb hown hu
      go_wp2_with (at_builtin; refine wpList_append_own _ rfl _ _ 24 rfl w2.heap.size 9 i0 (.string ⟨#[]⟩) 1 16 Try.underlying24 hi0 hz0 hz1 hz2 rfl (by decide) _ _ _ rfl (hown3.alloc _) ⟨w3.heap.size, 0, none⟩ 1 1 [.string u] rfl rfl (cell_one_new _ _ _) ?c2 ?c3 ?c4 ?c5 ?_)
      case c2 => first | rfl | (intro u hu; simp at hu; subst hu; rfl)
      case c3 => unfold maxLen; omega
      case c4 => omega
      case c5 => first | omega | (simp; omega)
      intro v' w4 hown' hgrow _
      obtain ⟨q1, q2⟩ := row_step (Nat.le_refl _) hgw (gb_below (Below.refl _ _)) HG3.out HC3.out hown3 hgrow
      rw [tv_snoc] at hown'
      have Q1 := Shut.mk q1
      have Q2 := Shut.mk q2
      have Q3 := Shut.mk hown'
      clear hown' hgrow hown3 q1 q2
      go_wp2_with fail
      go_roundw
      case rel => exact ⟨t + 1, L ++ [u], v', rfl, by go_num, by omega, ⟨⟨by have := hun.out.len; simp; omega, fun z hz => by rcases List.mem_append.1 hz with h | h; exact hun.out.size z h; simp at h; subst h; exact HU.out⟩⟩, Q3, Q1, Q2⟩
      case measure => simp [intOf]; omega
    · have e : t = k := by omega
      have hlt' : ¬ (t : Int) < (k : Int) := by omega
      have HF := Shut.mk (own_sans hun.out.len hown.out)
      have HUN : Shut (Un k s L) := ⟨by rw [← e]; exact hun.out⟩
      have HBF := Shut.mk (HB2.out.trans (below_gb hgb.out hg HB2.out.size))
      have z2 := HB2.out.size
      clear e hun hown
      go_wp2_with fail
      go_ret2
      exact ⟨sc, s, v, L, rfl, HSK.out, hs9, by rw [← HKK.out]; exact HUN.out, HF.out.broad z2 (Nat.le_refl _), HBF.out⟩
end Go.Proofs.Ytdlgailodhlbmaa
/- FrT: The laws' own comparison of two rows of texts. -/
namespace Go.Proofs.Ytdlgailodhlbmaa
open Go.RowKit

set_option maxHeartbeats 400000 in
theorem sameTexts_any (a b : Option Addr) (xs ys : List ByteArray) (ca cb : Nat) (w : World) (ha : SRow w a xs) (hb : SRow w b ys) (hn : xs.length ≤ 100000000) (hm : ys.length ≤ 100000000) :
    Calls Try.prog 15 #[.slice a xs.length ca, .slice b ys.length cb] w fun e w' => e = .returned (.bool (eqS xs ys)) ∧ ∃ q, w' = w.drewN q := by
  obtain ⟨n, hnx⟩ : ∃ n, n = xs.length := ⟨_, rfl⟩
  obtain ⟨m, hmy⟩ : ∃ m, m = ys.length := ⟨_, rfl⟩
  have HN : Hid (n = xs.length) := hnx
  have HM : Hid (m = ys.length) := hmy
  rw [← hnx, ← hmy]
  rw [← hnx] at hn
  rw [← hmy] at hm
  clear hnx hmy
  by_cases h : n = m
  · subst h
    have hd : (((n : Int) != (n : Int))) = false := by simp
    go_enter Try.func15, Try.ntmps15
    go_wp2_with fail
    go_loopw [5] (fun i wr => ∃ (k q : Nat), i = .int .i64 k ∧ k ≤ n ∧ sameTo xs ys k ∧ wr = w.drewN q) (fun i _ => n - (intOf i).toNat)
    case atStart => exact ⟨0, 0, rfl, Nat.zero_le _, fun j hj => by omega, rfl⟩
    case round =>
      obtain ⟨k, q, rfl, hk, hs, rfl⟩ := hrel
      by_cases hlt : k < n
      · obtain ⟨g, rfl, _, hc⟩ := ha (by have := HN.out; omega)
        obtain ⟨g', rfl, _, hc'⟩ := hb (by have := HM.out; omega)
        have c1 := hc k (by have := HN.out; omega)
        have c2 := hc' k (by have := HM.out; omega)
        have k0 : (0 : Int) ≤ (k : Int) := by omega
        have k1 : (k : Int) < (n : Int) := by omega
        obtain ⟨x, hx⟩ : ∃ x, x = xs.getD k ⟨#[]⟩ := ⟨_, rfl⟩
        obtain ⟨y, hy⟩ : ∃ y, y = ys.getD k ⟨#[]⟩ := ⟨_, rfl⟩
        rw [← hx] at c1
        rw [← hy] at c2
        have HX : Hid _ := hx
        have HY : Hid _ := hy
        clear hx hy hc hc'
        by_cases hxy : x = y
        · have hst := sameTo_step xs ys k hs (by rw [← HX.out, ← HY.out]; exact hxy)
          subst hxy
          go_wp2_with fail
          go_quiet (fail)
          go_wp2_with fail
          go_roundw
          case rel => exact ⟨k + 1, q + nq, by go_num, by omega, hst, rfl⟩
          case measure => simp [intOf]; omega
        · have hbn : (x.toList == y.toList) = false := by
            rw [beq_eq_false_iff_ne]; intro e; apply hxy
            rw [Go.ByteArray.toList_eq, Go.ByteArray.toList_eq] at e
            exact Go.WideShapes.bytes_inj e
          have HE : Hid (eqS xs ys = false) := eqS_no xs ys k (by rw [← HX.out, ← HY.out]; exact hxy)
          go_wp2_with fail
          go_quiet (fail)
          go_wp2_with fail
          go_ret
          exact ⟨by rw [HE.out]; rfl, q + nq, drewN_two _ _ _⟩
      · have HE : Hid (eqS xs ys = true) := eqS_yes xs ys (by rw [← HN.out, ← HM.out]) (by rw [show xs.length = k from by have := HN.out; omega]; exact hs)
        go_wp2_with fail
        go_ret
        exact ⟨by rw [HE.out]; rfl, q, rfl⟩
  · have HE : Hid (eqS xs ys = false) := eqS_len xs ys (by rw [← HN.out, ← HM.out]; exact h)
    have hd : (((n : Int) != (m : Int))) = true := by rw [bne_iff_ne]; omega
    go_enter Try.func15, Try.ntmps15
    go_wp2_with fail
    go_ret
    exact ⟨by rw [HE.out]; rfl, 0, rfl⟩
end Go.Proofs.Ytdlgailodhlbmaa
