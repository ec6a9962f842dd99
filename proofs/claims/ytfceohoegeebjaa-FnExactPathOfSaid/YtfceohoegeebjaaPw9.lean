/- Texts of ours, laid one behind the other: DrawP, DrPk, DrPth, FrT, OpenC, LawPts, PaL, LkO, LkS, LkT. -/
import Derived.Test.YtfceohoegeebjaaPw8
import Derived.OwnWalk
import Derived.OpenShut
import Derived.Sort.OwnSorted
import Derived.Sort.Walk0
import Derived.Sort.KeysCollected
import Derived.Laws.IdiomRangeMap
/- DrawP: The draws of a text and of places: what is drawn lies within its bounds; nothing that was there is turned. -/
namespace Go.Proofs.Ytfceohoegeebjaa
open Go.RowKit

def SumDrawn (w : World) (e : Ending) (w' : World) : Prop := ∃ t : ByteArray, e = .returned (.string t) ∧ t.size ≤ 40 ∧ Below w.heap.size w w'
theorem infoInt : (Try.prog.info? 3).map (fun i => (i.zero, i.size, i.bytes)) = some (some (.int .i64 0), 1, 8) := by kernel_rfl
/-- Numbers, as the model holds them. -/
def iv (l : List Int) : List Value := l.map fun x => .int .i64 x
theorem row_step {w wr w2 w3 : World} {g B len cap n : Nat} {t : TypeId} {a : Option Addr} {v : Value} {vs : List Value} {o : Obj} (hs : w.heap.size ≤ wr.heap.size) (hgw : g < w.heap.size)
    (hg : w.grownBy wr (some g)) (hg2 : wr.grownBy w2 (some g)) (hc2 : Cur w2 g B a len cap) (hown : w2.ownsRow w.heap.size t 1 v n vs) (hgr : (w2.alloc o).grownBy w3 v.ownBlock) :
    Cur w3 g B a len cap ∧ w.grownBy w3 (some g) := by
  have hlt := hown.lt
  have h2s : wr.heap.size ≤ w2.heap.size := hg2.size
  have hb3 : Below w.heap.size w2 w3 := ((Below.refl _ _).alloc (by omega) o).grown hgr (by simp; omega) (fun j hj => (hlt j hj).1)
  refine ⟨?_, ⟨(hb3.os.trans hg2.os).trans hg.os, (hb3.tape.trans hg2.tape).trans hg.tape, (hb3.output.trans hg2.output).trans hg.output, by have := hb3.size; omega, fun k hk hn => (hb3.block k hk).trans ((hg2.block k (by omega) hn).trans (hg.block k hk hn))⟩⟩
  obtain ⟨hB, hgs, hcode, c0, ⟨i, c1, hi⟩, ⟨k, c2⟩, hf⟩ := hc2
  exact ⟨hB, by have := hb3.size; omega, hcode.below hb3 (by omega), (hb3.cell (p := ⟨g, 0, none⟩) hgw).trans c0, ⟨i, (hb3.cell (p := ⟨g, 1, none⟩) hgw).trans c1, hi⟩, ⟨k, (hb3.cell (p := ⟨g, 2, none⟩) hgw).trans c2⟩, fun j hj => (hb3.frozen (p := ⟨g, j, none⟩) hgw).trans (hf j hj)⟩
theorem own_gbr {w w' : World} {g C n : Nat} {t : TypeId} {v : Value} {vs : List Value} (h : w.ownsRow C t 1 v n vs) (hg : w.grownBy w' (some g)) (hC : g < C) : w'.ownsRow C t 1 v n vs :=
  h.kept hg (by
    cases hv : v.ownBlock with
    | none => exact .inl rfl
    | some j => right; have := (h.lt j hv).1; simp; omega)
/-- The places that are drawn: twelve numbers below 10000 in a block of their own. -/
def PlacesDrawn (w : World) (e : Ending) (w' : World) : Prop :=
  ∃ (gp cap : Nat) (l : List Int), e = .returned (.slice (some ⟨gp, 0, none⟩) 12 cap) ∧ w.heap.size ≤ gp ∧ gp < w'.heap.size ∧ l.length = 12 ∧ (∀ x ∈ l, 0 ≤ x ∧ x < 10000) ∧ (∀ j, j < 12 → w'.cell? ⟨gp, j, none⟩ = some (.int .i64 (l.getD j 0))) ∧ Below w.heap.size w w'
theorem places_post {w w1 w' : World} {g n : Nat} {v : Value} {l : List Int} (hw : w.heap.size ≤ w1.heap.size) (hl : l.length = 12) (hx : ∀ x ∈ l, 0 ≤ x ∧ x < 10000) (hn : n = 12) (hown : w'.ownsRow w1.heap.size 3 1 v n (iv l)) (hb1 : Below w.heap.size w w1) (hg : w.heap.size ≤ g) (hgb : w1.grownBy w' (some g)) :
    PlacesDrawn w (.returned v) w' := by
  subst hn
  have hlt := hown.lt
  have hc : ∀ g, v.ownBlock = some g → ∀ j u, (iv l)[j]? = some u → w'.cell? ((⟨g, 0, none⟩ : Addr).add j) = some u := fun g hg => hown.cells hg
  obtain ⟨h1, ⟨rfl, h0⟩ | ⟨gp, cap, cur, rfl, _⟩⟩ := hown
  · omega
  · have h2 := hlt gp rfl
    refine ⟨gp, cap, l, rfl, by omega, h2.2, hl, hx, fun j hj => ?_, hb1.trans (below_gb hgb hg hw)⟩
    have h3 := hc gp rfl j (.int .i64 (l.getD j 0)) (by simp [iv, List.getD, show j < l.length by omega])
    have e : (⟨gp, 0, none⟩ : Addr).add j = ⟨gp, j, none⟩ := by cases j <;> simp [Addr.add]
    rwa [e] at h3
set_option maxHeartbeats 1000000 in
theorem drawPlaces_any (w : World) (a : Option Addr) (len cap : Nat) (hc : CodeAt w w.heap.size a len) :
    Calls Try.prog 17 #[.slice a len cap] w fun e w' => PlacesDrawn w e w' := by
  obtain ⟨i0, hi, hz0, hz1, hz2⟩ := info_parts infoInt
  have HC : Hid (CodeAt w w.heap.size a len) := hc
  clear hc
  go_enter Try.func17, Try.ntmps17
  go_wp2_with fail
  refine (l01New_any _ a len cap HC.out).mono ?_
  rintro e w0 ⟨g, rfl, hg, hcur, hb0⟩
  have HC0 : Hid (Cur w0 g w.heap.size a len cap) := hcur
  have HB0 : Hid (Below w.heap.size w w0) := hb0
  clear hcur hb0
  go_wp2_with fail
  refine (l01Byte_any _ g _ a len cap HC0.out).mono ?_
  rintro e w1 ⟨x, rfl, _, _, hc1, hg1⟩
  have HC1 : Hid (Cur w1 g w.heap.size a len cap) := hc1
  have HB1 : Hid (Below w.heap.size w w1) := HB0.out.trans (below_gb hg1 hg HB0.out.size)
  have hgw : g < w1.heap.size := hc1.2.1
  clear hc1 hg1 HC0 HB0
  go_wp2_with fail
  go_loopw [4, 5] (fun v i wr => ∃ (k : Nat) (l : List Int), i = .int .i64 k ∧ k ≤ 12 ∧ l.length = k ∧ (∀ x ∈ l, 0 ≤ x ∧ x < 10000) ∧ Cur wr g w.heap.size a len cap ∧ w1.grownBy wr (some g) ∧ wr.ownsRow w1.heap.size 3 1 v k (iv l)) (fun _ i _ => 12 - (intOf i).toNat)
  case atStart => exact ⟨0, [], rfl, by omega, rfl, by simp, HC1.out.below ((Below.refl _ _).alloc (Nat.le_refl _) _), gb_below ((Below.refl _ _).alloc (Nat.le_refl _) _), World.ownsRow_made w1 #[] 0 (Nat.le_refl _) (by decide) rfl⟩
  case round =>
    obtain ⟨k, l, rfl, hk, hlk, hlx, hcr, hgr, hown⟩ := hrel
    have HCr : Hid (Cur wr g w.heap.size a len cap) := hcr
    have HGr : Hid (w1.grownBy wr (some g)) := hgr
    have HL : Hid (l.length = k ∧ ∀ x ∈ l, 0 ≤ x ∧ x < 10000) := ⟨hlk, hlx⟩
    have hs1 := hgr.size
    clear hcr hgr hlk hlx
    by_cases hlt : k < 12
    · have hlt' : (k : Int) < 12 := by omega
      go_wp2_with fail
      refine (l01Below_any _ g _ a len cap 10000 (by omega) HCr.out).mono ?_
      rintro e w2 ⟨y, rfl, y0, y1, hc2, hg2⟩
      have HC2 : Hid (Cur w2 g w.heap.size a len cap) := hc2
      have HG2 : Hid (wr.grownBy w2 (some g)) := hg2
      have hown2 := own_gbr hown hg2 hgw
      have hs2 := hg2.size
      clear hc2 hg2 hown
      go_wp2_with (at_builtin; refine wpList_append_own _ rfl _ _ 32 rfl w1.heap.size 3 i0 (.int .i64 0) 1 8 Try.underlying32 hi hz0 hz1 hz2 rfl (by decide) _ _ _ rfl (hown2.alloc _) ⟨w2.heap.size, 0, none⟩ 1 1 [.int .i64 _] rfl rfl (cell_one_new _ _ _) ?c2 ?c3 ?c4 ?c5 ?_)
      case c2 => first | rfl | (intro u hu; simp at hu; subst hu; rfl)
      case c3 => unfold maxLen; omega
      case c4 => omega
      case c5 => first | omega | (simp; omega)
      · intro v' w3 hown' hgrow _
        obtain ⟨q1, q2⟩ := row_step hs1 hgw HGr.out HG2.out HC2.out hown2 hgrow
        have q3 : w3.ownsRow w1.heap.size 3 1 v' (k + 1) (iv (l ++ [y])) := by
          simpa [iv] using hown'
        clear hown' hgrow hown2
        go_wp2_with fail
        go_roundw
        case rel => exact ⟨k + 1, l ++ [y], by go_num, by omega, by have := HL.out.1; simp; omega, by intro x hx; rcases List.mem_append.1 hx with h | h; exact HL.out.2 x h; simp at h; subst h; omega, q1, q2, q3⟩
        case measure => simp [intOf]; omega
    · obtain rfl : k = 12 := by omega
      go_wp2_with fail
      go_ret
      exact places_post HB1.out.size HL.out.1 HL.out.2 rfl hown HB1.out hg HGr.out
theorem cell_block {w : World} {a : Addr} {v : Value} (h : w.cell? a = some v) : a.block < w.heap.size := by
  by_cases hb : a.block < w.heap.size
  · exact hb
  · unfold World.cell? at h
    rw [Array.getElem?_eq_none (by omega)] at h
    simp at h
theorem code_at {w : World} {a : Option Addr} {len cap : Nat} {zs : List Int} (hl : len ≤ 1048576)
    (h : (a = none ∧ len = 0) ∨ ∃ x, a = some x ∧ len ≤ cap ∧ zs.length = cap ∧ (∀ i, i < zs.length → w.cell? (x.add i) = some (.int .u8 (zs.getD i 0))) ∧ ∀ n ∈ zs, (Lit.int .u8 n).wf = true) : CodeAt w w.heap.size a len := by
  refine ⟨hl, fun hp => ?_⟩
  rcases h with ⟨_, h0⟩ | ⟨x, rfl, hlc, hz, hc, hw⟩
  · omega
  · obtain ⟨b, off, spot⟩ := x
    have hs : spot = none := by simpa [Addr.add] using World.cell?_spot (hc 0 (by omega))
    subst hs
    refine ⟨b, off, rfl, ?_, fun j hj => ?_⟩
    · have := cell_block (hc 0 (by omega)); simpa [Addr.add] using this
    · have h1 := hc j (by omega)
      have e : (⟨b, off, none⟩ : Addr).add j = ⟨b, off + j, none⟩ := by cases j <;> simp [Addr.add]
      rw [e] at h1
      have hm : zs.getD j 0 ∈ zs := by
        have : j < zs.length := by omega
        simp [List.getD, this]
      have := bounds_u8 (hw _ hm)
      exact ⟨_, h1, this.1, by omega⟩
theorem big_any (a : Option Addr) (len cap : Nat) (w : World) :
    Calls Try.prog 13 #[.slice a len cap] w fun e w' => e = .returned (.bool (decide ((1048576 : Int) < len))) ∧ w' = w := by
  go_enter Try.func13, Try.ntmps13
  go_wp2_with fail
  go_ret
  exact ⟨rfl, rfl⟩
end Go.Proofs.Ytfceohoegeebjaa
/- DrPk: A text that is picked out of a row is one of it. -/
namespace Go.Proofs.Ytfceohoegeebjaa
open Go.RowKit
attribute [local go_sem ↓] Go.wp_at_zero Go.wp_at_succ

def PickPostS (P : ByteArray → Prop) (w : World) (g B : Nat) (a : Option Addr) (len cap : Nat) (e : Ending) (w' : World) : Prop :=
  ∃ x : ByteArray, e = .returned (.string x) ∧ P x ∧ Cur w' g B a len cap ∧ w.grownBy w' (some g)
set_option maxHeartbeats 400000 in
theorem l01Pick_in (P : ByteArray → Prop) (w : World) (g B : Nat) (a : Option Addr) (len cap : Nat) (gl m : Nat) (hm : 0 < m) (hm2 : m ≤ 1000) (hne : gl ≠ g) (hl : ∀ j, j < m → ∃ y : ByteArray, w.cell? ⟨gl, j, none⟩ = some (.string y) ∧ P y) (hc : Cur w g B a len cap) :
    Calls Try.prog 100 #[.pointer (some ⟨g, 0, none⟩), .slice (some ⟨gl, 0, none⟩) m m] w fun e w' => PickPostS P w g B a len cap e w' := by
  have HC : Hid (Cur w g B a len cap) := hc
  have HL : Hid (∀ j, j < m → ∃ y : ByteArray, w.cell? ⟨gl, j, none⟩ = some (.string y) ∧ P y) := hl
  clear hc hl
  go_enter Try.func100, Try.ntmps100
  go_wp2_with fail
  refine (l01Below_any _ g B a len cap m (by omega) HC.out).mono ?_
  rintro e w1 ⟨x, rfl, x0, x1, hc1, hg1⟩
  have HC1 : Hid (Cur w1 g B a len cap) := hc1
  have HG : Hid (w.grownBy w1 (some g)) := hg1
  obtain ⟨j, rfl⟩ := Int.eq_ofNat_of_zero_le x0
  obtain ⟨y, hy, hp⟩ := HL.out j (by omega)
  have c1 := hg1.cell hy (by simp; omega)
  have j1 : (j : Int) < (m : Int) := by omega
  have HP : Hid (P y) := hp
  clear hc1 hg1 hy hp
  go_wp2_with fail
  go_ret
  exact ⟨y, rfl, HP.out, HC1.out, HG.out⟩
/-- Texts that were laid into a new row. -/
theorem new_texts (w : World) (t : TypeId) (P : ByteArray → Prop) (L : List ByteArray) (h : ∀ y ∈ L, P y) (j : Nat) (hj : j < L.length) :
    ∃ y : ByteArray, (w.alloc (.cells (L.map Value.string).toArray t)).cell? ⟨w.heap.size, j, none⟩ = some (.string y) ∧ P y := by
  rw [World.cell?_alloc_mark]
  exact ⟨L[j], by simp [hj], h _ (List.getElem_mem hj)⟩
end Go.Proofs.Ytfceohoegeebjaa
/- DrPth: The draws of paths. -/
namespace Go.Proofs.Ytfceohoegeebjaa
open Go.RowKit
attribute [local go_sem ↓] Go.wp_at_zero Go.wp_at_succ

def PathPost (m : Nat) (w : World) (g B : Nat) (a : Option Addr) (len cap : Nat) (e : Ending) (w' : World) : Prop :=
  ∃ t : ByteArray, e = .returned (.string t) ∧ t.size ≤ m ∧ Cur w' g B a len cap ∧ w.grownBy w' (some g)
set_option maxRecDepth 100000 in
set_option maxHeartbeats 1000000 in
theorem l09Path_any (w : World) (g B : Nat) (a : Option Addr) (len cap : Nat) (hc : Cur w g B a len cap) :
    Calls Try.prog 129 #[.pointer (some ⟨g, 0, none⟩)] w fun e w' => PathPost 16 w g B a len cap e w' := by
  have HC := Shut.mk hc
  have hgw := hc.2.1
  clear hc
  go_enter Try.func129, Try.ntmps129
  go_wp2_with fail
  go_loopw [3, 4] (fun s i wr => ∃ (k : Nat) (t : ByteArray), s = .string t ∧ i = .int .i64 k ∧ k ≤ 3 ∧ t.size ≤ 4 * k ∧ Shut (Cur wr g B a len cap) ∧ Shut (w.grownBy wr (some g))) (fun _ i _ => 3 - (intOf i).toNat)
  case atStart => exact ⟨0, _, rfl, rfl, by omega, by decide, HC, ⟨gb_below (Below.refl _ _)⟩⟩
  case round =>
    clear HC
    obtain ⟨k, t, rfl, rfl, hk, ht, hcur, hgr⟩ := hrel
    have k0 : (0 : Int) ≤ (k : Int) := by omega
    go_wp2_with fail
    refine (l01Below_any _ g B a len cap 3 (by omega) hcur.out).mono ?_
    rintro e w1 ⟨x, rfl, x0, x1, hc1, hg1⟩
    obtain ⟨m, rfl⟩ := Int.eq_ofNat_of_zero_le x0
    have HC1 := Shut.mk hc1
    have HG1 := Shut.mk (gb_two hgr.out hg1)
    have hg1w := hc1.2.1
    clear hc1 hg1 hcur hgr
    by_cases hlt : k < 1 + m
    · have hlt' : (k : Int) < 1 + (m : Int) := by omega
      have hlit : (#[.string ⟨#[97]⟩, .string ⟨#[98]⟩, .string ⟨#[99]⟩] : Array Value) = (List.map Value.string [⟨#[97]⟩, ⟨#[98]⟩, ⟨#[99]⟩]).toArray := rfl
      have HL := Shut.mk (new_texts w1 9 (fun y => y.size ≤ 3) [⟨#[97]⟩, ⟨#[98]⟩, ⟨#[99]⟩] (by decide))
      rw [← hlit] at HL
      clear hlit
      go_wp2_with fail
      refine (l01Pick_in (fun y => y.size ≤ 3) _ g B a len cap w1.heap.size 3 (by decide) (by decide) (by omega) HL.out (HC1.out.below ((Below.refl _ _).alloc (Nat.le_refl _) _))).mono ?_
      rintro e w2 ⟨y, rfl, hy, hc2, hg2⟩
      have HC2 := Shut.mk hc2
      have HG2 := Shut.mk (gb_two HG1.out (gb_two (gb_below ((Below.refl _ _).alloc (Nat.le_refl _) _)) hg2))
      clear hc2 hg2
      go_wp2_with fail
      go_roundw
      case rel => exact ⟨k + 1, _, rfl, by go_num, by omega, by
        have : (⟨#[47]⟩ : ByteArray).size = 1 := rfl
        simp only [ByteArray.size_append]; omega, HC2, HG2⟩
      case measure => simp [intOf]; omega
    · have hlt' : ¬ (k : Int) < 1 + (m : Int) := by omega
      go_wp2_with fail
      go_ret
      exact ⟨t, rfl, by omega, HC1.out, HG1.out⟩
theorem any_texts (w : World) (j : Nat) (hj : j < 11) : ∃ y : ByteArray, (w.alloc (.cells #[.string ⟨#[]⟩, .string ⟨#[47]⟩, .string ⟨#[97]⟩, .string ⟨#[47, 65]⟩, .string ⟨#[47, 47]⟩, .string ⟨#[47, 97, 47]⟩, .string ⟨#[47, 97, 47, 47, 98]⟩, .string ⟨#[47, 97, 47, 98, 47, 99, 47, 97]⟩, .string ⟨#[47, 97, 47, 98, 47, 99, 47, 97, 47, 98]⟩, .string ⟨#[47, 97, 98, 99, 100, 101, 102, 103, 104]⟩, .string ⟨#[47, 97, 98, 99, 100, 101, 102, 103, 104, 105]⟩] 9)).cell? ⟨w.heap.size, j, none⟩ = some (.string y) ∧ y.size ≤ 16 :=
  new_texts w 9 (fun y => y.size ≤ 16) [⟨#[]⟩, ⟨#[47]⟩, ⟨#[97]⟩, ⟨#[47, 65]⟩, ⟨#[47, 47]⟩, ⟨#[47, 97, 47]⟩, ⟨#[47, 97, 47, 47, 98]⟩, ⟨#[47, 97, 47, 98, 47, 99, 47, 97]⟩, ⟨#[47, 97, 47, 98, 47, 99, 47, 97, 47, 98]⟩, ⟨#[47, 97, 98, 99, 100, 101, 102, 103, 104]⟩, ⟨#[47, 97, 98, 99, 100, 101, 102, 103, 104, 105]⟩] (by decide) j hj
end Go.Proofs.Ytfceohoegeebjaa
/- FrT: The laws' own comparison of two rows of texts. -/
namespace Go.Proofs.Ytfceohoegeebjaa
open Go.RowKit

end Go.Proofs.Ytfceohoegeebjaa
/- OpenC: The code that a drawn law is handed: what came in. -/
namespace Go.Proofs.Ytfceohoegeebjaa
open Go.RowKit Go.ChangeShapes Go.WideShapes
set_option maxRecDepth 100000 in
theorem open_code {H : Type} {enc : TypeId × Value → H} {W : World} {r : Reach} {b0 base : Nat} {held : Bool} {v : Value} {d : DataW H} {p : List MemPlace}
    (hv : Value.okWide Try.prog W r b0 22 v) (h : DataW.Trod enc Try.prog W base (fun _ => true) held 22 v d p) : ∃ a len cap, v = .slice a len cap ∧ (len ≤ 1048576 → CodeAt W W.heap.size a len) := by
  obtain ⟨a0, l0, c0, rfl⟩ := okWide_slice Try.underlying22 hv
  refine ⟨a0, l0, c0, rfl, fun hl => ?_⟩
  obtain ⟨fuel, hf⟩ := h
  rcases open_ints Try.underlying22 Try.underlying5 (by kernel_rfl) hf with ⟨hcs, _⟩ | ⟨x, l, c, zs, hcs, _, hl', hm, hz, _, hcell, hwz⟩
  · simp [Value.cells] at hcs
    obtain ⟨rfl, rfl, rfl⟩ := hcs
    exact code_at (cap := 0) (zs := []) hl (.inl ⟨rfl, rfl⟩)
  · simp [Value.cells] at hcs
    obtain ⟨rfl, rfl, rfl⟩ := hcs
    exact code_at (cap := c0) (zs := zs) hl (.inr ⟨_, rfl, hl', by simpa using hz, hcell, hwz⟩)
end Go.Proofs.Ytfceohoegeebjaa
/- LawPts: The walk of the law over paths, over what is told of the program's own functions. -/
namespace Go.Proofs.Ytfceohoegeebjaa
open Go.RowKit
attribute [local go_sem ↓] Go.wp_at_zero Go.wp_at_succ

theorem eq_toList (x : ByteArray) : (x.toList == x.toList) = true := by simp
theorem slash_toList : ((⟨#[47]⟩ : ByteArray).toList == [47]) = true := by rw [Go.ByteArray.toList_eq]; rfl
theorem none_toList : ((⟨#[]⟩ : ByteArray).toList == []) = true := by rw [Go.ByteArray.toList_eq]; rfl
theorem join_size {I : List ByteArray} (h : TFit I) : (joinB I).size ≤ 1048576 := by
  by_cases e : I = []
  · subst e; decide
  · rw [joinB_ne e, joinA_size]; exact h
end Go.Proofs.Ytfceohoegeebjaa
/- PaL: The program's own JoinPath and ParentPath; all four together. -/
namespace Go.Proofs.Ytfceohoegeebjaa
open Go.RowKit
open Go.PlainAid (bt)
attribute [local go_sem ↓] Go.wp_at_zero Go.wp_at_succ

theorem lib_join (L : List (List UInt8)) : (47 :: Lib.join L [47]) = joinP L := by
  cases L with
  | nil => rfl
  | cons x L =>
    unfold joinP
    rw [if_neg (by simp)]
    induction L generalizing x with
    | nil => simp [Lib.join]
    | cons y L ih =>
      have := ih y
      simp only [List.map_cons, List.flatten_cons, List.cons_append, List.cons.injEq, true_and] at this ⊢
      rw [← this]
      simp [Lib.join]
theorem joinP_len (L : List ByteArray) (h : TFit L) : (Lib.join (L.map lb) [47]).length ≤ 2097152 := by
  have e := congrArg List.length (lib_join (L.map lb))
  have := join_size h
  have hb : (joinB L).size = (joinP (L.map lb)).length := by
    unfold joinB
    show (joinP (L.map lb)).toArray.size = _
    simp
  rw [List.length_cons] at e
  omega
set_option maxRecDepth 100000 in
set_option maxHeartbeats 1000000 in
theorem implJoinPath (w : World) (u : Value) (L : List ByteArray) (lo hi : Nat) (hu : CSee w u L lo hi) (hf : TFit L) : Calls Try.prog 68 #[u] w fun e w' => e = .returned (.string (joinB L)) ∧ Below w.heap.size w w' := by
  obtain ⟨a, cap, rfl, hc, hr⟩ := hu
  have hjl := joinP_len L hf
  have HJ : Shut (joinB L = (⟨#[47]⟩ : ByteArray) ++ ⟨(Lib.join (L.map lb) [47]).toArray⟩) := ⟨by
    unfold joinB
    rw [← lib_join]
    apply ByteArray.ext
    simp⟩
  by_cases h0 : L = []
  · subst h0
    have HN := Shut.mk (fun W => Try.strings_Join_none a cap ⟨#[47]⟩ W)
    clear hr hf hjl
    go_enter Try.func68, Try.ntmps68
    go_wp2_with fail
    refine (HN.out _).mono ?_
    rintro e w1 ⟨rfl, hw⟩
    subst hw
    go_wp2_with fail
    go_ret
    exact ⟨rfl, Below.refl _ _⟩
  · obtain ⟨b, off, rfl, hb, hcs⟩ := units_at hr (List.length_pos_iff.2 h0)
    have hn : L.length ≤ 1048576 := by unfold TFit at hf; omega
    have HN := Shut.mk (Try.strings_Join b off cap L ⟨#[47]⟩ w (fun j x hx => by
      obtain ⟨hj, e⟩ := List.getElem?_eq_some_iff.1 hx
      have := hcs j hj
      rw [this]
      simp [List.getD, hj, e]) hb (by omega) hc (by
        show (Lib.join (L.map lb) [47]).length ≤ _
        omega))
    have hsz : ((⟨(Lib.join (L.map lb) [47]).toArray⟩ : ByteArray)).size ≤ 2097152 := by
      show (Lib.join (L.map lb) [47]).toArray.size ≤ _
      simpa using hjl
    have HN' : Shut (Calls Try.prog 91 #[.slice (some ⟨b, off, none⟩) L.length cap, .string ⟨#[47]⟩] w fun e w' => e = .returned (.string ⟨(Lib.join (L.map lb) [47]).toArray⟩) ∧ Below w.heap.size w w') := HN
    generalize (⟨(Lib.join (L.map lb) [47]).toArray⟩ : ByteArray) = J at *
    clear hr hf hjl hcs HN h0
    go_enter Try.func68, Try.ntmps68
    go_wp2_with fail
    refine HN'.out.mono ?_
    rintro e w1 ⟨rfl, hb1⟩
    go_wp2_with fail
    go_ret
    exact ⟨by rw [HJ.out]; rfl, hb1⟩
theorem OwnAt.form {w : World} {base n : Nat} {v : Value} {L : List ByteArray} (h : OwnAt w base v n L) : ∃ a cap, v = .slice a n cap := by
  obtain ⟨_, ⟨e, h0⟩ | ⟨g, off, cap, e, _⟩⟩ := h
  · exact ⟨none, 0, by rw [e, h0]⟩
  · exact ⟨_, cap, e⟩
theorem OwnAt.some' {w : World} {base n : Nat} {v : Value} {L : List ByteArray} (h : OwnAt w base v n L) (hp : 0 < n) : ∃ g off cap, v = .slice (some ⟨g, off, none⟩) n cap ∧ n ≤ cap ∧ g < w.heap.size ∧ ∀ j, j < L.length → w.cell? ⟨g, off + j, none⟩ = some (.string (L.getD j ⟨#[]⟩)) := by
  obtain ⟨_, ⟨_, h0⟩ | ⟨g, off, cap, e, _, hn, _, hc⟩⟩ := h
  · omega
  · exact ⟨g, off, cap, e, hn, hc.1, fun j hj => (hc.2 j hj).1⟩
theorem CSee.below {w w' : World} {v : Value} {L : List ByteArray} {lo hi : Nat} (h : CSee w v L lo hi) (hb : Below w.heap.size w w') : CSee w' v L lo hi := by
  obtain ⟨a, cap, e, hc, hr⟩ := h
  obtain ⟨a', cap', e', hr'⟩ := (show SSee w v L lo hi from ⟨a, cap, e, hr⟩).below hb
  rw [e] at e'
  cases e'
  exact ⟨a, cap, e, hc, hr'⟩
end Go.Proofs.Ytfceohoegeebjaa
/- LkO: The program's own PathOf. -/
namespace Go.Proofs.Ytfceohoegeebjaa
open Go.RowKit Go.Maps Go.Sort BigFrame
attribute [local go_sem ↓] Go.wp_at_zero Go.wp_at_succ

theorem tv_enc (L : List ByteArray) : tv L = (L.map fun s => s.data.toList).map encStr := by
  unfold tv
  rw [List.map_map]
  exact List.map_congr_left fun s _ => by simp [encStr]
/-- A row of texts of its own is turned round. -/
theorem reverse_any {w : World} {B : Nat} {v : Value} {L : List ByteArray} (h : w.ownsRow B 9 1 v L.length (tv L)) (hl : L.length ≤ 1048576) :
    Calls Try.prog 67 #[v] w fun e w' => e = .returned (.tuple #[]) ∧ w'.ownsRow B 9 1 v L.length (tv L.reverse) ∧ Below B w w' := by
  rcases h.2 with ⟨rfl, h0⟩ | ⟨g, cap, cur, rfl, hbase, hb, h1, h2, h3, h4⟩
  · have hL : L = [] := by
      cases L with
      | nil => rfl
      | cons x r => simp at h0
    subst hL
    refine (Try.slices_Reverse_string_empty none 0 w).mono ?_
    rintro e w' ⟨rfl, rfl⟩
    exact ⟨rfl, h, Below.refl _ _⟩
  · have hll : (L.map fun s => s.data.toList).length = L.length := by simp
    rw [tv_enc] at h4
    have hH : Holds encStr w g 0 (L.map fun s => s.data.toList).toArray := holds_of_block hb (by rw [hll]; simpa using h4)
    have hc := Try.slices_Reverse_string g 0 cap (L.map fun s => s.data.toList) w hH (by rw [hll]; omega)
    rw [hll] at hc
    refine hc.mono ?_
    rintro e w' ⟨rfl, q, rfl⟩
    have hgr : ∀ W : World, grow W #[] = W := fun W => by simp [grow]
    have hrow := ownsRow_sorted (n := q) (os := #[]) (ss := L.map fun s => s.data.toList) (ts := (L.map fun s => s.data.toList).reverse) (by simp) hbase hb (by rw [hll]; exact h1) h2 h3
    have hgb := grownBy_sorted (w := w) (g := g) (n := q) (os := #[]) (L.map fun s => s.data.toList).reverse.toArray
    rw [hgr] at hrow hgb
    rw [hll] at hrow
    refine ⟨rfl, ?_, ?_⟩
    · rw [tv_enc, List.map_reverse]
      exact hrow
    · have hBw : B ≤ w.heap.size := by have := (Array.getElem?_eq_some_iff.1 hb).1; omega
      exact (Below.refl _ _).grown hgb hBw (fun j hj => by cases hj; exact hbase)
theorem own_csee {w : World} {B : Nat} {v : Value} {L : List ByteArray} (h : w.ownsRow B 9 1 v L.length (tv L)) : CSee w v L 0 w.heap.size := by
  have h' := h
  rcases h.2 with ⟨rfl, h0⟩ | ⟨g, cap, cur, rfl, hbase, hb, h1, h2, h3, h4⟩
  · have hL : L = [] := by
      cases L with
      | nil => rfl
      | cons x r => simp at h0
    subst hL
    exact ⟨none, 0, rfl, Nat.le_refl _, fun h => by simp [tv] at h⟩
  · exact ⟨some ⟨g, 0, none⟩, cap, rfl, h1, RRow.of_crow (own_wcells h').crow⟩
set_option maxRecDepth 100000 in
set_option maxHeartbeats 2000000 in
theorem implPathOf (w : World) (v : Value) (T : TM) (lo hi : Nat) (id : Int) (h : TSee w v T lo hi) (hf : NFit T) (hI : NInt T.nodes) (hid : (Lit.int .i64 id).wf = true) : Calls Try.prog 32 #[v, .int .i64 id] w fun e w' => e = .returned (.string (pathX T id)) ∧ Below w.heap.size w w' := by
  have hsee := h
  obtain ⟨a, cap, rs, rfl, hr, hm⟩ := h
  obtain ⟨n, hn⟩ : ∃ n, n = rs.length := ⟨_, rfl⟩
  obtain ⟨nx, hnx⟩ : ∃ nx, nx = T.next := ⟨_, rfl⟩
  rw [← hn, ← hnx] at hsee ⊢
  have hat := fun W (hb : Below w.heap.size w W) => nodeAt_any W _ T lo hi id (hsee.below hb) hf hI hid
  have HAT := Shut.mk hat
  obtain ⟨R, hR⟩ : ∃ R, R = pathX T id := ⟨_, rfl⟩
  rw [← hR]
  have HR := Shut.mk hR
  clear hat hr hm hsee hn hnx hR hf hI hid
  go_enter Try.func32, Try.ntmps32
  go_wp2_with fail
  refine (HAT.out _ ((Below.refl _ _).alloc (Nat.le_refl _) _)).mono ?_
  rintro e w1 ⟨o, rfl, hb1, hcase⟩
  have HB := Shut.mk (((Below.refl w.heap.size w).alloc (Nat.le_refl _) (.cells #[.slice a n cap, .int .i64 nx] 26)).trans (hb1.mono (by simp)))
  clear hb1 HAT
  rcases hcase with ⟨ht, rfl⟩ | ⟨ht, G, rfl, hnd⟩
  · have HE : Shut (R = ⟨#[]⟩) := ⟨by rw [HR.out]; unfold pathX; rw [if_neg (by rw [ht]; decide)]⟩
    rw [ptr_none]
    clear ht
    go_wp2_with fail
    go_ret
    exact ⟨by rw [HE.out]; rfl, HB.out⟩
  · have HT := Shut.mk (tree_tall ht)
    have HNM := Shut.mk (fun i hi h1 => treeOk_name ht (i := i) hi h1)
    have HND := Shut.mk hnd
    have HE : Shut (R = pathF T.nodes 15 id []) := ⟨by rw [HR.out]; unfold pathX; rw [if_pos ht]⟩
    obtain ⟨t0, ht0, hty0, hty1, hty2⟩ := info_parts infoTextG
    clear hnd ht HR
    cases hf : fid T.nodes id with
    | none =>
      have HF : Shut (R = ⟨#[]⟩) := ⟨by
        rw [HE.out]
        exact pathF_none (fun e => by rw [e, HT.out.1.one] at hf; cases hf) hf⟩
      rw [Option.map_none, ptr_none]
      clear hf
      go_wp2_with fail
      go_ret
      exact ⟨by rw [HF.out]; rfl, HB.out⟩
    | some i0 =>
      obtain ⟨hi0, ei0⟩ := fid_lt hf
      obtain ⟨d0, hd0, hu0⟩ := HT.out.2 i0 hi0
      have HU0 := Shut.mk hu0
      rw [Option.map_some, ptr_some]
      have HI0 : Shut (pathF T.nodes (d0 + 1 + (14 - d0)) (T.nodes.getD i0 default).id [].reverse = R) := ⟨by rw [HE.out, getD_in hi0, ei0, show d0 + 1 + (14 - d0) = 15 by omega]; rfl⟩
      clear hf ei0 hu0 HE
      go_wp2_with fail
      go_loopg [5, 6] (d0 + 1) (fun q p nv wr => ∃ vv, vv = nv ∧ ∃ (j d l : Nat), p = .pointer (some ⟨G j, 0, none⟩) ∧ d + 1 ≤ q ∧ j < T.nodes.length ∧ l + d ≤ 4 ∧ Shut (∃ (acc : List ByteArray) (r : Nat), l = acc.length ∧ Ups T.nodes j d ∧ (∀ s ∈ acc, nameB s = true) ∧ pathF T.nodes (d + 1 + r) (T.nodes.getD j default).id acc.reverse = R ∧ Below w1.heap.size w1 wr ∧ wr.ownsRow w1.heap.size 9 1 vv acc.length (tv acc)))
      case atStart => exact ⟨_, rfl, i0, d0, 0, rfl, Nat.le_refl _, hi0, by omega, ⟨[], 14 - d0, rfl, HU0.out, by simp, HI0.out, Below.refl _ _, by simpa [tv] using World.ownsRow_nil w1 w1.heap.size 9 1⟩⟩
      case round =>
        clear HI0 HU0
        obtain ⟨vv, rfl, j, d, l, rfl, hdm, hj, hld, hrel⟩ := hrel
        obtain ⟨acc, r, hla, hu, hacc, h1, hbw, hrow⟩ := hrel.out
        have hnw := HND.out.below hbw
        have c2 := (hnw.cells j hj).2.2.1
        have lj := (hnw.cells j hj).2.2.2.2.2.2
        have hf := HT.out.1.fid hj
        have c9 := hnw.above j hj hf
        have hge := getD_in hj
        have hnm := HNM.out j hj
        obtain ⟨x, hx⟩ : ∃ x, x = T.nodes[j] := ⟨_, rfl⟩
        rw [← hx] at c2 c9 hge hf
        rw [hge] at h1 hnm
        obtain ⟨o, ho⟩ : ∃ o, o = fid T.nodes x.parent := ⟨_, rfl⟩
        rw [← ho] at c9
        have HO := Shut.mk ho
        have HB1 := Shut.mk (HB.out.trans (hbw.mono HB.out.size))
        have HBW := Shut.mk hbw
        have HH := Shut.mk (And.intro h1 (And.intro hu (And.intro hge (And.intro hf (And.intro hacc hnm)))))
        have hsw : w1.heap.size ≤ wr.heap.size := hbw.size
        clear ho h1 hu hge hf hx hnw hrel hacc hnm hbw
        cases o with
        | none =>
          simp only [Option.map_none, ptr_none] at c9
          have HRV := Shut.mk (reverse_any hrow (by omega))
          have HJ : Shut (joinB acc.reverse = R ∧ TFit acc.reverse) := ⟨by
            obtain ⟨h1, hu, hge, hf, hacc, hnm⟩ := HH.out
            refine ⟨?_, names_fit' (fun s hs => hacc s (by simpa using hs)) (by simp; omega)⟩
            rw [← h1]
            cases hu with
            | root =>
              have e1 := HT.out.1.2.2.1
              rw [hge] at e1
              rw [show 0 + 1 + r = r + 1 by omega]
              exact (pathF_one e1).symm
            | step _ _ hk _ =>
              rw [hge, ← HO.out] at hk
              cases hk⟩
          clear hrow c2
          go_wp2_with (first
            | (go_at_call 67; refine HRV.out.mono ?_; rintro e w3 ⟨rfl, hrow3, hb3⟩; have HJP := Shut.mk (implJoinPath w3 vv acc.reverse 0 w3.heap.size (own_csee (by simpa using hrow3)) HJ.out.2); have HB3 := Shut.mk hb3; clear hrow3 hb3)
            | (go_at_call 68; refine HJP.out.mono ?_; rintro e w4 ⟨rfl, hb4⟩))
          go_ret
          refine ⟨by rw [← HJ.out.1]; rfl, ?_⟩
          have hb5 : Below w.heap.size w w3 := HB1.out.trans (HB3.out.mono HB.out.size)
          exact hb5.trans (hb4.mono hb5.size)
        | some k =>
          simp only [Option.map_some, ptr_some] at c9
          go_wp2_with (at_builtin; refine wpList_append_own _ rfl _ _ 49 rfl w1.heap.size 9 t0 (.string ⟨#[]⟩) 1 16 Try.underlying49 ht0 hty0 hty1 hty2 rfl (by decide) _ _ _ rfl (hrow.alloc _) ⟨wr.heap.size, 0, none⟩ 1 1 [.string x.name] rfl rfl (cell_one_new _ _ _) ?c2 ?c3 ?c4 ?c5 ?_)
          case c2 => first | rfl | (intro u hu; simp at hu; subst hu; rfl)
          case c3 => unfold maxLen; omega
          case c4 => omega
          case c5 => first | omega | (simp; omega)
          intro v' w10 ho10 hgrow _
          have hb10 : Below w1.heap.size w1 w10 := (HBW.out.alloc hsw _).grown hgrow (by simp; omega) (fun q hq => (hrow.lt q hq).1)
          have d9 := (HND.out.below hb10).above j hj (HT.out.1.fid hj)
          have hxe : T.nodes[j] = x := by have := HH.out.2.2.1; rw [getD_in hj] at this; exact this
          rw [hxe, ← HO.out] at d9
          simp only [Option.map_some, ptr_some] at d9
          have HRN : Shut (w10.ownsRow w1.heap.size 9 1 v' (acc ++ [x.name]).length (tv (acc ++ [x.name]))) := ⟨by
            have e1 : tv (acc ++ [x.name]) = tv acc ++ [.string x.name] := by simp [tv]
            rw [e1, List.length_append, List.length_singleton]
            exact ho10⟩
          have HB10 := Shut.mk hb10
          clear ho10 hgrow hb10 hrow c9 c2 hxe
          go_wp2_with fail
          go_roundg (gk - 1)
          case measure => omega
          case rel =>
            obtain ⟨h1, hu, hge, hf, hacc, hnm⟩ := HH.out
            cases hu with
            | root =>
              have e0 := HT.out.1.2.2.2
              have h4 := HO.out
              rw [hge] at e0
              rw [e0, HT.out.1.zero] at h4
              cases h4
            | @step _ k' d' _ hj0 hk hu' =>
              rw [hge, ← HO.out] at hk
              cases hk
              obtain ⟨hkl, ek⟩ := fid_lt HO.out.symm
              have hne : x.id ≠ 1 := fun e => by
                have := HT.out.1.id_one hj
                rw [hge, e] at this
                simp [hj0] at this
              refine ⟨v', rfl, k, d', l + 1, rfl, by omega, hkl, by omega, ⟨acc ++ [x.name], r, by rw [List.length_append, List.length_singleton, hla], hu', fun s hs => ?_, ?_, HB10.out, HRN.out⟩⟩
              · rcases List.mem_append.1 hs with h | h
                · exact hacc s h
                · rw [List.mem_singleton.1 h]
                  exact hnm hne
              · rw [show d' + 1 + 1 + r = (d' + 1 + r) + 1 by omega, pathF_some hne hf, hge, ← ek] at h1
                rw [getD_in hkl, List.reverse_append, List.reverse_singleton]
                exact h1
end Go.Proofs.Ytfceohoegeebjaa
/- LkS: Kids of a node, plain: they ascend, and are the names of those whose Parent it is. -/
namespace Go.Proofs.Ytfceohoegeebjaa

theorem leqT_iff (x y : ByteArray) : leqT x y = decide (x.data.toList ≤ y.data.toList) := by
  unfold leqT
  rw [Go.Proofs.bytesLess_eq, Go.ByteArray.toList_eq, Go.ByteArray.toList_eq, Bool.eq_iff_iff]
  simp only [Bool.or_eq_true, decide_eq_true_eq, beq_iff_eq]
  exact (List.le_iff_lt_or_eq).symm
theorem insK_mem {L : List ByteArray} {nm s : ByteArray} : s ∈ insK L nm ↔ s ∈ L ∨ s = nm := by
  unfold insK
  simp only [List.mem_append, List.mem_filter, List.mem_singleton]
  constructor
  · rintro ((⟨h, _⟩ | h) | ⟨h, _⟩)
    · exact .inl h
    · exact .inr h
    · exact .inl h
  · rintro (h | h)
    · cases hq : leqT s nm with
      | true => exact .inl (.inl ⟨h, rfl⟩)
      | false => exact .inr ⟨h, by simp⟩
    · exact .inl (.inr h)
theorem kidsL_snoc (ns : List NM) (n : NM) (id : Int) : kidsL (ns ++ [n]) id = kidsS id (kidsL ns id) n := by
  unfold kidsL
  rw [List.foldl_append]
  rfl
theorem kidsL_take {ns : List NM} {id : Int} {s : ByteArray} : ∀ k, k ≤ ns.length → (s ∈ kidsL (ns.take k) id ↔ ∃ n ∈ ns.take k, n.parent = id ∧ n.name = s) := by
  intro k
  induction k with
  | zero => intro _; simp [kidsL]
  | succ k ih =>
    intro hk
    have ih := ih (by omega)
    rw [List.take_succ_eq_append_getElem (by omega), kidsL_snoc]
    unfold kidsS
    by_cases hp : ns[k].parent = id
    · rw [if_pos hp, insK_mem, ih]
      constructor
      · rintro (⟨m, hm, h⟩ | h)
        · exact ⟨m, List.mem_append.2 (.inl hm), h⟩
        · exact ⟨ns[k], List.mem_append.2 (.inr (List.mem_singleton.2 rfl)), hp, h.symm⟩
      · rintro ⟨m, hm, h1, h2⟩
        rcases List.mem_append.1 hm with h | h
        · exact .inl ⟨m, h, h1, h2⟩
        · rw [List.mem_singleton.1 h] at h2
          exact .inr h2.symm
    · rw [if_neg hp, ih]
      constructor
      · rintro ⟨m, hm, h⟩
        exact ⟨m, List.mem_append.2 (.inl hm), h⟩
      · rintro ⟨m, hm, h1, h2⟩
        rcases List.mem_append.1 hm with h | h
        · exact ⟨m, h, h1, h2⟩
        · rw [List.mem_singleton.1 h] at h1
          exact absurd h1 hp
theorem kidsL_mem {ns : List NM} {id : Int} {s : ByteArray} : s ∈ kidsL ns id ↔ ∃ n ∈ ns, n.parent = id ∧ n.name = s := by
  have := kidsL_take (ns := ns) (id := id) (s := s) ns.length (Nat.le_refl _)
  rwa [List.take_length] at this
/-- No two of one Parent with one Name. -/
def Uniq (ns : List NM) : Prop := ∀ i (hi : i < ns.length) j (hj : j < ns.length), j < i → ns[j].parent = ns[i].parent → ns[j].name ≠ ns[i].name
theorem tree_uniq {T : TM} (h : treeOk T = true) : Uniq T.nodes := by
  intro i hi j hj hlt hp hn
  have ha := (tree_tall h).1
  rw [← prog_tree] at h
  unfold progB at h
  simp only [Bool.and_eq_true, List.all_eq_true, List.mem_range, Bool.or_eq_true, decide_eq_true_eq] at h
  have h2 := (h.2 i hi).2.resolve_left (by omega)
  unfold placeB at h2
  simp only [Bool.and_eq_true] at h2
  obtain ⟨k, hk, hki⟩ := fnm_self hi
  have h3 := h2.1.1.2
  rw [firstB_some (k := k) (by rw [getD_in hi]; exact hk)] at h3
  obtain ⟨hkl, _, _⟩ := fnm_lt hk
  rw [getD_in hi, getD_in hkl, beq_iff_eq] at h3
  have e : k = i := by
    have h4 := ha.fid hkl
    rw [h3, ha.fid hi] at h4
    exact (by simpa using h4 : i = k).symm
  subst e
  exact fnm_first hk j hlt hj hp hn
/-- Texts that ascend. -/
abbrev Rise (L : List ByteArray) : Prop := L.Pairwise fun x y => x.data.toList < y.data.toList
theorem ba_ne {x y : ByteArray} (h : x ≠ y) : x.data.toList ≠ y.data.toList := fun e => h (ByteArray.ext (Array.toList_inj.1 e))
theorem insK_rise {L : List ByteArray} {nm : ByteArray} (h : Rise L) (hn : nm ∉ L) : Rise (insK L nm) := by
  unfold insK
  have h1 : ∀ x ∈ L.filter (fun x => leqT x nm), x.data.toList < nm.data.toList := fun x hx => by
    obtain ⟨hm, hq⟩ := List.mem_filter.1 hx
    rw [leqT_iff, decide_eq_true_eq] at hq
    exact (List.le_iff_lt_or_eq.1 hq).resolve_right (ba_ne fun e => hn (e ▸ hm))
  have h2 : ∀ x ∈ L.filter (fun x => !leqT x nm), nm.data.toList < x.data.toList := fun x hx => by
    obtain ⟨hm, hq⟩ := List.mem_filter.1 hx
    rw [leqT_iff] at hq
    simpa [List.not_le] using hq
  refine List.pairwise_append.2 ⟨List.pairwise_append.2 ⟨h.filter _, List.pairwise_singleton _ _, fun x hx y hy => ?_⟩, h.filter _, fun x hx y hy => ?_⟩
  · rw [List.mem_singleton.1 hy]; exact h1 x hx
  · rcases List.mem_append.1 hx with hx | hx
    · exact List.lt_trans (h1 x hx) (h2 y hy)
    · rw [List.mem_singleton.1 hx]; exact h2 y hy
theorem kidsL_rise {ns : List NM} (h : Uniq ns) (id : Int) : ∀ k, k ≤ ns.length → Rise (kidsL (ns.take k) id) := by
  intro k
  induction k with
  | zero => intro _; simp [kidsL, Rise]
  | succ k ih =>
    intro hk
    rw [List.take_succ_eq_append_getElem (by omega), kidsL_snoc]
    unfold kidsS
    split
    · rename_i hp
      refine insK_rise (ih (by omega)) fun hm => ?_
      obtain ⟨n, hn, h1, h2⟩ := kidsL_mem.1 hm
      obtain ⟨j, hj, rfl⟩ := List.mem_iff_getElem.1 hn
      simp only [List.getElem_take] at h1 h2
      simp only [List.length_take] at hj
      exact h k (by omega) j (by omega) (by omega) (by rw [h1, hp]) h2
    · exact ih (by omega)
theorem kids_perm {ns : List NM} (h : Uniq ns) {id : Int} {ss : List (List UInt8)} (hn : ss.Nodup) (hm : ∀ x, x ∈ ss ↔ ∃ n ∈ ns, n.parent = id ∧ n.name.data.toList = x) : ss.Perm ((kidsL ns id).map fun s => s.data.toList) := by
  have hr := kidsL_rise h id ns.length (Nat.le_refl _)
  rw [List.take_length] at hr
  refine (List.perm_ext_iff_of_nodup hn ?_).2 fun x => ?_
  · exact List.pairwise_map.2 (hr.imp fun h e => by rw [e] at h; exact List.lt_irrefl _ h)
  · rw [hm, List.mem_map]
    constructor
    · rintro ⟨n, h1, h2, h3⟩
      exact ⟨n.name, kidsL_mem.2 ⟨n, h1, h2, rfl⟩, h3⟩
    · rintro ⟨s, hs, rfl⟩
      obtain ⟨n, h1, h2, rfl⟩ := kidsL_mem.1 hs
      exact ⟨n, h1, h2, rfl⟩
theorem kids_sort {ns : List NM} (h : Uniq ns) {id : Int} {ss : List (List UInt8)} (hp : ss.Perm ((kidsL ns id).map fun s => s.data.toList)) : (ss.mergeSort fun x y => decide (x ≤ y)) = (kidsL ns id).map fun s => s.data.toList := by
  have hr := kidsL_rise h id ns.length (Nat.le_refl _)
  rw [List.take_length] at hr
  have tr : ∀ a b c : List UInt8, decide (a ≤ b) = true → decide (b ≤ c) = true → decide (a ≤ c) = true := fun a b c h1 h2 => by simp only [decide_eq_true_eq] at *; exact List.le_trans h1 h2
  have tt : ∀ a b : List UInt8, (decide (a ≤ b) || decide (b ≤ a)) = true := fun a b => by simp only [Bool.or_eq_true, decide_eq_true_eq]; exact List.le_total a b
  refine List.Perm.eq_of_pairwise (le := fun a b => decide (a ≤ b) = true) (fun a b _ _ h1 h2 => ?_) (List.pairwise_mergeSort tr tt ss) ?_ ((List.mergeSort_perm ss _).trans hp)
  · simp only [decide_eq_true_eq] at h1 h2
    exact List.le_antisymm h1 h2
  · exact List.pairwise_map.2 (hr.imp fun h => decide_eq_true (List.le_of_lt h))
end Go.Proofs.Ytfceohoegeebjaa
/- LkT: The program's own KidsOf. -/
namespace Go.Proofs.Ytfceohoegeebjaa
open Go.RowKit Go.Maps Go.Sort BigFrame
attribute [local go_sem ↓] Go.wp_at_zero Go.wp_at_succ

set_option maxRecDepth 100000 in
theorem implClone (s : ByteArray) (w : World) (hs : s.size ≤ 281474976710656) : Calls Try.prog 69 #[.string s] w fun e w' => e = .returned (.string s) ∧ Below w.heap.size w w' := by
  have HC := Shut.mk (fun W => Try.stringslite_Clone s W hs)
  go_enter Try.func69, Try.ntmps69
  go_wp2_with fail
  refine (HC.out _).mono ?_
  rintro e w1 ⟨rfl, hb⟩
  go_wp2_with fail
  go_ret
  exact ⟨rfl, hb⟩
/-- A row of texts of its own is sorted. -/
theorem sort_any {w : World} {B : Nat} {v : Value} {ss : List (List UInt8)} (h : w.ownsRow B 9 1 v ss.length (ss.map encStr)) (hl : ss.length ≤ 1048576) :
    Calls Try.prog 70 #[v] w fun e w' => e = .returned (.tuple #[]) ∧ w'.ownsRow B 9 1 v ss.length ((ss.mergeSort fun x y => decide (x ≤ y)).map encStr) ∧ Below B w w' := by
  rcases h.2 with ⟨rfl, h0⟩ | ⟨g, cap, cur, rfl, hbase, hb, h1, h2, h3, h4⟩
  · have hL : ss = [] := by
      cases ss with
      | nil => rfl
      | cons x r => simp at h0
    subst hL
    refine (Try.slices_Sort_string_none none 0 w).mono ?_
    rintro e w' ⟨rfl, rfl⟩
    exact ⟨rfl, by simpa using h, Below.refl _ _⟩
  · have hH : Holds encStr w g 0 ss.toArray := holds_of_block hb (by simpa using h4)
    have hgl : g < w.heap.size := (Array.getElem?_eq_some_iff.1 hb).1
    refine (Try.slices_Sort_string g 0 cap ss w hH hgl (by omega)).mono ?_
    rintro e w' ⟨rfl, q, os, rfl⟩
    have hrow := ownsRow_sorted (n := q) (os := os) (ts := ss.mergeSort fun x y => decide (x ≤ y)) (by simp) hbase hb h1 h2 h3
    have hgb := grownBy_sorted (w := w) (g := g) (n := q) (os := os) (ss.mergeSort fun x y => decide (x ≤ y)).toArray
    exact ⟨rfl, hrow, (Below.refl _ _).grown hgb (by omega) (fun j hj => by cases hj; exact hbase)⟩
theorem own_sansK {w : World} {B n : Nat} {v : Value} {L : List ByteArray} (hn : L.length = n) (h : w.ownsRow B 9 1 v n (tv L)) : SAns w v L B w.heap.size := by
  have h' := h
  rcases h.2 with ⟨rfl, h0⟩ | ⟨g, cap, cur, rfl, hbase, hb, h1, h2, h3, h4⟩
  · have hL : L = [] := by
      cases L with
      | nil => rfl
      | cons x r => subst hn; simp at h0
    subst hL
    exact ⟨none, 0, rfl, Nat.le_refl _, .inl rfl⟩
  · subst hn
    exact ⟨some ⟨g, 0, none⟩, cap, rfl, h1, .inr ⟨g, rfl, hbase, (Array.getElem?_eq_some_iff.1 hb).1, own_wcells h'⟩⟩
set_option maxRecDepth 100000 in
set_option maxHeartbeats 2000000 in
theorem implKidsOf (w : World) (v : Value) (T : TM) (lo hi : Nat) (id : Int) (h : TSee w v T lo hi) (hf : NFit T) (hI : NInt T.nodes) (hid : (Lit.int .i64 id).wf = true) : Calls Try.prog 34 #[v, .int .i64 id] w fun e w' => SPost9 (kidsX T id) w e w' := by
  have hsee := h
  obtain ⟨a, cap, rs, rfl, hr, hm⟩ := h
  have hlen : rs.length = T.nodes.length := by rw [← hr, nds_len]
  have hl : rs.length ≤ 1048576 := by unfold NFit at hf; omega
  have hnm := fun x hx => (fit_name hf x hx).1
  obtain ⟨n, hn⟩ : ∃ n, n = rs.length := ⟨_, rfl⟩
  obtain ⟨nx, hnx⟩ : ∃ nx, nx = T.next := ⟨_, rfl⟩
  rw [← hn, ← hnx] at hsee ⊢
  have hok := fun W (hb : Below w.heap.size w W) => implTreeOk W _ T lo hi (hsee.below hb) hf hI
  have hlk := fun W (hb : Below w.heap.size w W) => linkNodes_any (cap := cap) (hm.below hb) hl (by rw [hr]; exact hI) (fun x hx => by rw [hr] at hx; have := (fit_name hf x hx).1; unfold maxLen; omega)
  rw [← hn] at hlk hl hlen
  obtain ⟨R, hR⟩ : ∃ R, R = kidsX T id := ⟨_, rfl⟩
  rw [← hR]
  have HOK := Shut.mk hok
  have HLK := Shut.mk hlk
  have HE := Shut.mk hr
  have HN := Shut.mk hn
  have HL := Shut.mk hlen
  have HR := Shut.mk hR
  have HNM := Shut.mk hnm
  clear hok hlk hr hm hsee hn hnx hlen hR hI hf hnm
  cases ht : treeOk T with
  | false =>
    rw [ht] at HOK
    have HF : Shut (R = []) := ⟨by rw [HR.out]; unfold kidsX; rw [if_neg (by rw [ht]; simp)]⟩
    clear ht
    go_enter Try.func34, Try.ntmps34
    go_wp2_with (go_at_call 28; refine (HOK.out _ ((Below.refl _ _).alloc (Nat.le_refl _) _)).mono ?_; rintro e w1 ⟨rfl, hb1⟩)
    go_ret
    exact ⟨_, rfl, by rw [HF.out]; exact ⟨none, 0, rfl, Nat.le_refl _, .inl rfl⟩, ((Below.refl _ _).alloc (Nat.le_refl _) _).trans (hb1.mono (by simp))⟩
  | true =>
    rw [ht] at HOK
    have HT := Shut.mk (tree_uniq ht)
    have HRR : Shut (R = kidsL T.nodes id) := ⟨by rw [HR.out]; unfold kidsX; rw [if_pos ht]⟩
    have h14 : n ≤ 14 := by have := treeOk_14 ht; have := HL.out; omega
    obtain ⟨t0, ht0, hty0, hty1, hty2⟩ := info_parts infoTextG
    clear ht HR
    go_enter Try.func34, Try.ntmps34
    go_wp2_with (go_at_call 28; refine (HOK.out _ ((Below.refl _ _).alloc (Nat.le_refl _) _)).mono ?_; rintro e w1 ⟨rfl, hb1⟩; have hbx := (BX.new w a n cap nx 26).below hb1; have HBX := Shut.mk hbx; have x0 := (hbx.box.2 0 _ rfl).1; clear hb1 hbx)
    refine (HLK.out _ HBX.out.bel).mono ?_
    rintro e w2 ⟨b1, b2, G, C, rfl, hL, hb2⟩
    have HB := Shut.mk (HBX.out.bel.trans (hb2.mono HBX.out.bel.size))
    obtain ⟨D2, o2, t2⟩ := hL.m2
    have k0 := field_nm (some b1) (some b2)
    by_cases hpar : Par (nds rs) id
    · have k2 := look_map keyI Try.underlying75 zeroLm o2 (key_int hid) ((t2 id).1 hpar) 0
      obtain ⟨q1, q2, q3, D3, o3, t3⟩ := hL.m3 id hpar
      rw [World.drewN_zero] at k2
      have em : mapV (some (C id)) = .map (some (C id)) := rfl
      rw [em] at k2
      obtain ⟨c, hc⟩ : ∃ c, c = C id := ⟨_, rfl⟩
      rw [← hc] at k2 o3
      rw [← HN.out] at o3
      have T3 := Shut.mk t3
      have hlc : c < w2.heap.size := o3.lt
      clear o2 t2 hL q1 q2 q3 t3 em hc hb2 x0 HBX HLK HOK
      go_wp2_with (at_range; refine wpList_range_own _ rfl _ 81 rfl 9 61 keyS Try.underlying81 ptrE c n D3 rfl o3 ?_; intro w0 hrg0 hg0 hs0)
      have hb0 : Go.RowKit.Below w2.heap.size w2 w0 := (Below.refl _ _).grown hg0 (Nat.le_refl _) (fun j hj => by cases hj)
      have HB0 := Shut.mk hb0
      have hsz0 : Maps.size D3 ≤ n := o3.size_le
      clear hb0 hg0 o3
      go_frame
      go_loopw [5] (fun nv wr => ∃ vv, vv = nv ∧ ∃ (left : Lit → Bool) (cnt l : Nat), wr.ranges Try.prog 9 ptrE c w2.heap.size n D3 left cnt ∧ l + cnt ≤ n ∧ Shut (∃ ss : List (List UInt8), l = ss.length ∧ Collected D3 left ss ∧ wr.ownsRow w0.heap.size 9 1 vv ss.length (ss.map encStr) ∧ Go.RowKit.Below w2.heap.size w2 wr ∧ w0.heap.size ≤ wr.heap.size)) (fun _ wr => wr.rangeLeft c w2.heap.size)
      case atStart => exact ⟨_, rfl, _, _, 0, hrg0, by omega, ⟨[], rfl, Collected.start D3, by simpa using World.ownsRow_nil w0 w0.heap.size 9 1, HB0.out, Nat.le_refl _⟩⟩
      case round =>
        clear hrg0
        obtain ⟨vv, rfl, left, cnt, l, hrg, hlc', hrel⟩ := hrel
        obtain ⟨ss, hls, hC, hrow, hbw, hsw⟩ := hrel.out
        go_wp2_with (at_next; refine wpList_next_ranges _ rfl _ rfl 9 keyS ptrE encStr ptrV (fun key kl hk => by obtain ⟨x, hx, _⟩ := Maps.keyOf_str Try.underlying9 hk; exact ⟨x, hx⟩) (fun v y hv => ptrE_form hv) c w2.heap.size n _ _ _ rfl hrg ?_ ?_)
        · intro hc0 hl0
          have hperm : ss.Perm ((kidsL T.nodes id).map fun s => s.data.toList) := by
            refine kids_perm HT.out hC.1 fun x => ?_
            rw [hC.2 x, hl0]
            have htx := (T3.out ⟨x.toArray⟩).has
            have e1 : ks ⟨x.toArray⟩ = .string x := by simp [ks]
            rw [e1] at htx
            rw [htx, HE.out]
            constructor
            · rintro ⟨h1, _⟩
              cases hfm : fnm T.nodes id ⟨x.toArray⟩ with
              | none => rw [hfm] at h1; cases h1
              | some i =>
                obtain ⟨hi', h2, h3⟩ := fnm_lt hfm
                exact ⟨_, List.getElem_mem hi', h2, by rw [h3]⟩
            · rintro ⟨m, hm, h2, h3⟩
              refine ⟨?_, rfl⟩
              cases hfm : fnm T.nodes id ⟨x.toArray⟩ with
              | none => exact absurd (by rw [← h3]) (fnm_none hfm m hm h2)
              | some i => rfl
          have hsort := kids_sort HT.out hperm
          have hss := sort_any hrow (by omega)
          rw [hsort, ← HRR.out] at hss
          have HSS := Shut.mk hss
          have HLE : Shut (R.length = ss.length) := ⟨by rw [HRR.out]; have := hperm.length_eq; simpa using this.symm⟩
          have HBW := Shut.mk (HB.out.trans (hbw.mono HB.out.size))
          have hw0 : w.heap.size ≤ w0.heap.size := by have := HB.out.size; omega
          clear hperm hsort hss hrow hC hrg hrel hbw hl0
          go_wp2_with (go_at_call 70; refine HSS.out.mono ?_; rintro e w3 ⟨rfl, hrow3, hb3⟩; have HR3 := Shut.mk hrow3; have HB3 := Shut.mk hb3; clear hrow3 hb3)
          go_ret
          refine ⟨_, rfl, ?_, HBW.out.trans (HB3.out.mono hw0)⟩
          have h5 := HR3.out
          rw [← tv_enc] at h5
          obtain ⟨a', cap', e1, e2, e3⟩ := own_sansK HLE.out h5
          refine ⟨a', cap', e1, e2, ?_⟩
          rcases e3 with e3 | ⟨g, e4, e5, e6⟩
          · exact .inl e3
          · exact .inr ⟨g, e4, by omega, e6⟩
        · intro x cv kl dd ps w3 cnt1 hkey hlk hv hat hrg1 hlt hg1 hs1 hen
          obtain ⟨x', ex, rfl, _⟩ := Maps.keyOf_str Try.underlying9 hkey
          have exx : x' = x := by
            have : encStr x = encStr x' := ex
            simpa [encStr] using this.symm
          subst exx
          have hcs := hC.step hlk hat
          have hmemx := T3.out ⟨x'.toArray⟩
          have hsmall : (⟨x'.toArray⟩ : ByteArray).size ≤ 281474976710656 := by
            have htx := hmemx.has
            have e1 : ks ⟨x'.toArray⟩ = .string x' := by simp [ks]
            rw [e1, Maps.has_true_of_atKey hat] at htx
            cases hfm : fnm (nds rs) id ⟨x'.toArray⟩ with
            | none => rw [hfm] at htx; cases htx
            | some i =>
              obtain ⟨hi', h2, h3⟩ := fnm_lt hfm
              have := HNM.out (nds rs)[i] (by rw [← HE.out]; exact List.getElem_mem hi')
              rw [h3] at this
              omega
          have hbn3 : Go.RowKit.Below w2.heap.size w2 w3 := hbw.grown hg1 hbw.size (fun j hj => by cases hj; exact Nat.le_refl _)
          have hrow3 := hrow.kept hg1 (by
            rcases hrow.2 with ⟨e, _⟩ | ⟨g, cp, cur, e, hbs, _⟩
            · left; rw [e]; rfl
            · right; rw [e]; simp [Value.ownBlock]; omega)
          have HB3 := Shut.mk hbn3
          have HCS := Shut.mk hcs
          have HRG1 := Shut.mk hrg1
          have HRG := Shut.mk hrg
          have HLT := Shut.mk hlt
          have HCL := Shut.mk (fun W => implClone ⟨x'.toArray⟩ W hsmall)
          have ee : encStr x' = .string ⟨x'.toArray⟩ := rfl
          rw [ee] at hen ⊢
          obtain ⟨sx, hsx⟩ : ∃ sx : ByteArray, sx = ⟨x'.toArray⟩ := ⟨_, rfl⟩
          rw [← hsx] at hen HCL ⊢
          have HSX := Shut.mk hsx
          have HRW := Shut.mk hrow3
          clear hcs hmemx hsmall hbn3 hrow hrow3 hrg hrg1 hlt hg1 hlk hat hv hkey hC hbw hrel ee hsx ex
          have hs3 : w0.heap.size ≤ w3.heap.size := by omega
          go_upto_region 7 with fail
          go_wp2_with (first
            | (go_at_call 69; refine (HCL.out _).mono ?_; rintro e w4 ⟨rfl, hb4⟩; have ho4 := HRW.out.kept (row := none) ⟨hb4.os, hb4.tape, hb4.output, hb4.size, fun k hk _ => hb4.block k hk⟩ (Classical.em _); have hs4 : w0.heap.size ≤ w4.heap.size := Nat.le_trans hs3 hb4.size; have HB4 := Shut.mk hb4; clear hb4)
            | (at_builtin; refine wpList_append_own _ rfl _ _ 49 rfl w0.heap.size 9 t0 (.string ⟨#[]⟩) 1 16 Try.underlying49 ht0 hty0 hty1 hty2 rfl (by decide) _ _ _ rfl (ho4.alloc _) ⟨w4.heap.size, 0, none⟩ 1 1 [.string sx] rfl rfl (cell_one_new _ _ _) ?c2 ?c3 ?c4 ?c5 ?_))
          case c2 => first | rfl | (intro u hu; simp at hu; subst hu; rfl)
          case c3 => unfold maxLen; omega
          case c4 => omega
          case c5 => first | omega | (simp; omega)
          intro v' w10 ho10 hgrow _
          have hr4 : w4.ranges Try.prog 9 ptrE c w2.heap.size n D3 (fun z => left z && !z.sameKey (.string x')) cnt1 := HRG1.out.kept (row := none) ⟨HB4.out.os, HB4.out.tape, HB4.out.output, HB4.out.size, fun k hk _ => HB4.out.block k hk⟩ (by simp) (by simp)
          have hr10 : w10.ranges Try.prog 9 ptrE c w2.heap.size n D3 (fun z => left z && !z.sameKey (.string x')) cnt1 := (hr4.alloc _).kept hgrow (by
            rcases ho4.2 with ⟨e, _⟩ | ⟨g, cp, cur, e, hbs, _⟩
            · rw [e]; simp [Value.ownBlock]
            · rw [e]; simp [Value.ownBlock]; omega) (by
            rcases ho4.2 with ⟨e, _⟩ | ⟨g, cp, cur, e, hbs, _⟩
            · rw [e]; simp [Value.ownBlock]
            · rw [e]; simp [Value.ownBlock]; omega)
          have hb10 : Go.RowKit.Below w2.heap.size w2 w10 := ((HB3.out.trans (HB4.out.mono HB3.out.size)).alloc (by have := HB3.out.size; omega) _).grown hgrow (by simp; omega) (fun q hq => by have := (ho4.lt q hq).1; omega)
          have hsz10 : w0.heap.size ≤ w10.heap.size := Nat.le_trans hs4 (by have := hgrow.size; simp at this; omega)
          have HRN : Shut (w10.ownsRow w0.heap.size 9 1 v' (ss ++ [x']).length ((ss ++ [x']).map encStr)) := ⟨by
            rw [List.map_append, List.length_append, List.length_singleton]
            have e1 : [x'].map encStr = [.string sx] := by rw [HSX.out]; rfl
            rw [e1, hs0]
            exact ho10⟩
          have H10 := Shut.mk (And.intro hr10 (And.intro hb10 hsz10))
          clear hr4 hr10 hb10 hsz10 ho10 hgrow ho4
          go_wp2_with fail
          go_roundw
          case rel => exact ⟨v', rfl, _, cnt1, l + 1, H10.out.1, by have := HLT.out; omega, ⟨ss ++ [x'], by rw [List.length_append, List.length_singleton, hls], HCS.out, HRN.out, H10.out.2.1, H10.out.2.2⟩⟩
          case measure =>
            have e1 := H10.out.1.left_eq
            have e2 := HRG.out.left_eq
            rw [e1, e2]
            exact HLT.out
    · have k2 := look_map keyI Try.underlying75 zeroLm o2 (key_int hid) ((t2 id).2 hpar) 0
      rw [World.drewN_zero] at k2
      have em : mapV none = .map none := rfl
      rw [em] at k2
      have HF : Shut (R = []) := ⟨by
        rw [HRR.out, ← HE.out]
        refine List.eq_nil_iff_forall_not_mem.2 fun s hs => hpar ?_
        obtain ⟨m, hm, h1, _⟩ := kidsL_mem.1 hs
        exact ⟨m, hm, h1⟩⟩
      have hrg := run_range_nilMap (P := Try.prog) w2 81 9 61 Try.underlying81
      have hnx : ∀ ty, (Instr.next (.pointer (some ⟨w2.heap.size, 0, none⟩)) false ty).run Try.prog (w2.alloc (.mapIter none 0 #[] 0)) = _ := fun ty => run_next_nilMap w2 ty 0 0 #[]
      have HSN := Shut.mk (fun W => Try.slices_Sort_string_none none 0 W)
      clear o2 t2 hL hb2 x0 HBX HLK HOK em
      go_wp2_with fail
      go_loopw [5] (fun p wr => p = .slice none 0 0 ∧ wr = w2.alloc (.mapIter none 0 #[] 0)) (fun _ _ => 0)
      case atStart => exact ⟨rfl, rfl⟩
      case round =>
        obtain ⟨rfl, rfl⟩ := hrel
        go_wp2_with (go_at_call 70; refine (HSN.out _).mono ?_; rintro e w3 ⟨rfl, rfl⟩)
        go_ret
        exact ⟨_, rfl, by rw [HF.out]; exact ⟨none, 0, rfl, Nat.le_refl _, .inl rfl⟩, HB.out.alloc HB.out.size _⟩
end Go.Proofs.Ytfceohoegeebjaa
