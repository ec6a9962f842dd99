/- Texts of ours, laid one behind the other: DrawP, DrPk, DrPth, BRowM, DrawC, EdZ, EdB, GrwB, EdD, DrEdA, DrEdB, CpA. -/
import Derived.Test.YthfmjjaollekiaaPu3
import Derived.Test.YthfmjjaollekiaaPu1
import Derived.Test.YthfmjjaollekiaaPu2
import Derived.OwnWalk
import Derived.OpenShut
import Derived.Deep.RegionHeld3
import Derived.Deep.DrawnRows
import Derived.BigQuiet
import Derived.OrdersHeld
import Derived.Deep.Upon
import Derived.Deep.AppendLies
/- DrawP: The draws of a text and of places: what is drawn lies within its bounds; nothing that was there is turned. -/
namespace Go.Proofs.Ythfmjjaollekiaa
set_option maxRecDepth 100000
open Go.RowKit

def SumDrawn (w : World) (e : Ending) (w' : World) : Prop := ∃ t : ByteArray, e = .returned (.string t) ∧ t.size ≤ 40 ∧ Below w.heap.size w w'
theorem infoInt : (Try.prog.info? 3).map (fun i => (i.zero, i.size, i.bytes)) = some (some (.int .i64 0), 1, 8) := by kernel_rfl
/-- Numbers, as the model holds them. -/
def iv (l : List Int) : List Value := l.map fun x => .int .i64 x
theorem row_step {w wr w2 w3 : World} {g B len cap n : Nat} {t : TypeId} {a : Option Addr} {v : Value} {vs : List Value} {o : Obj} (hs : w.heap.size ≤ wr.heap.size) (hgw : g < w.heap.size)
    (hg : w.grownBy wr (some g)) (hg2 : wr.grownBy w2 (some g)) (hc2 : Cur w2 g B a len cap) (hown : w2.ownsRow w.heap.size t 1 v n vs) (hgr : (w2.alloc o).grownBy w3 v.ownBlock) :
    Cur w3 g B a len cap ∧ w.grownBy w3 (some g) := by
  have hlt := hown.lt
  have h2s : wr.heap.size ≤ w2.heap.size := hg2.size
  have hb3 : Below w.heap.size w2 w3 := ((Below.refl _ _).alloc (by omega) o).grown hgr (by simp; omega) (fun j hj => (hlt j hj).1)
  refine ⟨?_, ⟨(hb3.os.trans hg2.os).trans hg.os, (hb3.tape.trans hg2.tape).trans hg.tape, (hb3.output.trans hg2.output).trans hg.output, by have := hb3.size; omega, fun k hk hn => (hb3.block k hk).trans ((hg2.block k (by omega) hn).trans (hg.block k hk hn))⟩⟩
  obtain ⟨hB, hgs, hcode, c0, ⟨i, c1, hi⟩, ⟨k, c2⟩, hf⟩ := hc2
  exact ⟨hB, by have := hb3.size; omega, hcode.below hb3 (by omega), (hb3.cell (p := ⟨g, 0, none⟩) hgw).trans c0, ⟨i, (hb3.cell (p := ⟨g, 1, none⟩) hgw).trans c1, hi⟩, ⟨k, (hb3.cell (p := ⟨g, 2, none⟩) hgw).trans c2⟩, fun j hj => (hb3.frozen (p := ⟨g, j, none⟩) hgw).trans (hf j hj)⟩
theorem own_gbr {w w' : World} {g C n : Nat} {t : TypeId} {v : Value} {vs : List Value} (h : w.ownsRow C t 1 v n vs) (hg : w.grownBy w' (some g)) (hC : g < C) : w'.ownsRow C t 1 v n vs :=
  h.kept hg (by
    cases hv : v.ownBlock with
    | none => exact .inl rfl
    | some j => right; have := (h.lt j hv).1; simp; omega)
/-- The places that are drawn: twelve numbers below 10000 in a block of their own. -/
def PlacesDrawn (w : World) (e : Ending) (w' : World) : Prop :=
  ∃ (gp cap : Nat) (l : List Int), e = .returned (.slice (some ⟨gp, 0, none⟩) 12 cap) ∧ w.heap.size ≤ gp ∧ gp < w'.heap.size ∧ l.length = 12 ∧ (∀ x ∈ l, 0 ≤ x ∧ x < 10000) ∧ (∀ j, j < 12 → w'.cell? ⟨gp, j, none⟩ = some (.int .i64 (l.getD j 0))) ∧ Below w.heap.size w w'
theorem places_post {w w1 w' : World} {g n : Nat} {v : Value} {l : List Int} (hw : w.heap.size ≤ w1.heap.size) (hl : l.length = 12) (hx : ∀ x ∈ l, 0 ≤ x ∧ x < 10000) (hn : n = 12) (hown : w'.ownsRow w1.heap.size 3 1 v n (iv l)) (hb1 : Below w.heap.size w w1) (hg : w.heap.size ≤ g) (hgb : w1.grownBy w' (some g)) :
    PlacesDrawn w (.returned v) w' := by
  subst hn
  have hlt := hown.lt
  have hc : ∀ g, v.ownBlock = some g → ∀ j u, (iv l)[j]? = some u → w'.cell? ((⟨g, 0, none⟩ : Addr).add j) = some u := fun g hg => hown.cells hg
  obtain ⟨h1, ⟨rfl, h0⟩ | ⟨gp, cap, cur, rfl, _⟩⟩ := hown
  · omega
  · have h2 := hlt gp rfl
    refine ⟨gp, cap, l, rfl, by omega, h2.2, hl, hx, fun j hj => ?_, hb1.trans (below_gb hgb hg hw)⟩
    have h3 := hc gp rfl j (.int .i64 (l.getD j 0)) (by simp [iv, List.getD, show j < l.length by omega])
    have e : (⟨gp, 0, none⟩ : Addr).add j = ⟨gp, j, none⟩ := by cases j <;> simp [Addr.add]
    rwa [e] at h3
set_option maxHeartbeats 1000000 in
theorem drawPlaces_any (w : World) (a : Option Addr) (len cap : Nat) (hc : CodeAt w w.heap.size a len) :
    Calls Try.prog 9 #[.slice a len cap] w fun e w' => PlacesDrawn w e w' := by
  obtain ⟨i0, hi, hz0, hz1, hz2⟩ := info_parts infoInt
  have HC : Hid (CodeAt w w.heap.size a len) := hc
  clear hc
  go_enter Try.func9, Try.ntmps9
  go_wp2_with fail
  refine (l01New_any _ a len cap HC.out).mono ?_
  rintro e w0 ⟨g, rfl, hg, hcur, hb0⟩
  have HC0 : Hid (Cur w0 g w.heap.size a len cap) := hcur
  have HB0 : Hid (Below w.heap.size w w0) := hb0
  clear hcur hb0
  go_wp2_with fail
  refine (l01Byte_any _ g _ a len cap HC0.out).mono ?_
  rintro e w1 ⟨x, rfl, _, _, hc1, hg1⟩
  have HC1 : Hid (Cur w1 g w.heap.size a len cap) := hc1
  have HB1 : Hid (Below w.heap.size w w1) := HB0.out.trans (below_gb hg1 hg HB0.out.size)
  have hgw : g < w1.heap.size := hc1.2.1
  clear hc1 hg1 HC0 HB0
  go_wp2_with fail
  go_loopw [4, 5] (fun v i wr => ∃ (k : Nat) (l : List Int), i = .int .i64 k ∧ k ≤ 12 ∧ l.length = k ∧ (∀ x ∈ l, 0 ≤ x ∧ x < 10000) ∧ Cur wr g w.heap.size a len cap ∧ w1.grownBy wr (some g) ∧ wr.ownsRow w1.heap.size 3 1 v k (iv l)) (fun _ i _ => 12 - (intOf i).toNat)
  case atStart => exact ⟨0, [], rfl, by omega, rfl, by simp, HC1.out.below ((Below.refl _ _).alloc (Nat.le_refl _) _), gb_below ((Below.refl _ _).alloc (Nat.le_refl _) _), World.ownsRow_made w1 #[] 0 (Nat.le_refl _) (by decide) rfl⟩
  case round =>
    obtain ⟨k, l, rfl, hk, hlk, hlx, hcr, hgr, hown⟩ := hrel
    have HCr : Hid (Cur wr g w.heap.size a len cap) := hcr
    have HGr : Hid (w1.grownBy wr (some g)) := hgr
    have HL : Hid (l.length = k ∧ ∀ x ∈ l, 0 ≤ x ∧ x < 10000) := ⟨hlk, hlx⟩
    have hs1 := hgr.size
    clear hcr hgr hlk hlx
    by_cases hlt : k < 12
    · have hlt' : (k : Int) < 12 := by omega
      go_wp2_with fail
      refine (l01Below_any _ g _ a len cap 10000 (by omega) HCr.out).mono ?_
      rintro e w2 ⟨y, rfl, y0, y1, hc2, hg2⟩
      have HC2 : Hid (Cur w2 g w.heap.size a len cap) := hc2
      have HG2 : Hid (wr.grownBy w2 (some g)) := hg2
      have hown2 := own_gbr hown hg2 hgw
      have hs2 := hg2.size
      clear hc2 hg2 hown
      go_wp2_with (at_builtin; refine wpList_append_own _ rfl _ _ 32 rfl w1.heap.size 3 i0 (.int .i64 0) 1 8 Try.underlying32 hi hz0 hz1 hz2 rfl (by decide) _ _ _ rfl (hown2.alloc _) ⟨w2.heap.size, 0, none⟩ 1 1 [.int .i64 _] rfl rfl (cell_one_new _ _ _) ?c2 ?c3 ?c4 ?c5 ?_)
      case c2 => first | rfl | (intro u hu; simp at hu; subst hu; rfl)
      case c3 => unfold maxLen; omega
      case c4 => omega
      case c5 => first | omega | (simp; omega)
      · intro v' w3 hown' hgrow _
        obtain ⟨q1, q2⟩ := row_step hs1 hgw HGr.out HG2.out HC2.out hown2 hgrow
        have q3 : w3.ownsRow w1.heap.size 3 1 v' (k + 1) (iv (l ++ [y])) := by
          simpa [iv] using hown'
        clear hown' hgrow hown2
        go_wp2_with fail
        go_roundw
        case rel => exact ⟨k + 1, l ++ [y], by go_num, by omega, by have := HL.out.1; simp; omega, by intro x hx; rcases List.mem_append.1 hx with h | h; exact HL.out.2 x h; simp at h; subst h; omega, q1, q2, q3⟩
        case measure => simp [intOf]; omega
    · obtain rfl : k = 12 := by omega
      go_wp2_with fail
      go_ret
      exact places_post HB1.out.size HL.out.1 HL.out.2 rfl hown HB1.out hg HGr.out
theorem cell_block {w : World} {a : Addr} {v : Value} (h : w.cell? a = some v) : a.block < w.heap.size := by
  by_cases hb : a.block < w.heap.size
  · exact hb
  · unfold World.cell? at h
    rw [Array.getElem?_eq_none (by omega)] at h
    simp at h
theorem code_at {w : World} {a : Option Addr} {len cap : Nat} {zs : List Int} (hl : len ≤ 1048576)
    (h : (a = none ∧ len = 0) ∨ ∃ x, a = some x ∧ len ≤ cap ∧ zs.length = cap ∧ (∀ i, i < zs.length → w.cell? (x.add i) = some (.int .u8 (zs.getD i 0))) ∧ ∀ n ∈ zs, (Lit.int .u8 n).wf = true) : CodeAt w w.heap.size a len := by
  refine ⟨hl, fun hp => ?_⟩
  rcases h with ⟨_, h0⟩ | ⟨x, rfl, hlc, hz, hc, hw⟩
  · omega
  · obtain ⟨b, off, spot⟩ := x
    have hs : spot = none := by simpa [Addr.add] using World.cell?_spot (hc 0 (by omega))
    subst hs
    refine ⟨b, off, rfl, ?_, fun j hj => ?_⟩
    · have := cell_block (hc 0 (by omega)); simpa [Addr.add] using this
    · have h1 := hc j (by omega)
      have e : (⟨b, off, none⟩ : Addr).add j = ⟨b, off + j, none⟩ := by cases j <;> simp [Addr.add]
      rw [e] at h1
      have hm : zs.getD j 0 ∈ zs := by
        have : j < zs.length := by omega
        simp [List.getD, this]
      have := bounds_u8 (hw _ hm)
      exact ⟨_, h1, this.1, by omega⟩
theorem big_any (a : Option Addr) (len cap : Nat) (w : World) :
    Calls Try.prog 5 #[.slice a len cap] w fun e w' => e = .returned (.bool (decide ((1048576 : Int) < len))) ∧ w' = w := by
  go_enter Try.func5, Try.ntmps5
  go_wp2_with fail
  go_ret
  exact ⟨rfl, rfl⟩
end Go.Proofs.Ythfmjjaollekiaa
/- DrPk: A text that is picked out of a row is one of it. -/
namespace Go.Proofs.Ythfmjjaollekiaa
open Go.RowKit
attribute [local go_sem ↓] Go.wp_at_zero Go.wp_at_succ

/-- No byte of it is a z. -/
def noZ (t : ByteArray) : Bool := t.data.toList.all (· != 122)
theorem noZ_app (a b : ByteArray) : noZ (a ++ b) = (noZ a && noZ b) := by unfold noZ; rw [ByteArray.toList_data_append, List.all_append]
def PickPostS (P : ByteArray → Prop) (w : World) (g B : Nat) (a : Option Addr) (len cap : Nat) (e : Ending) (w' : World) : Prop :=
  ∃ x : ByteArray, e = .returned (.string x) ∧ P x ∧ Cur w' g B a len cap ∧ w.grownBy w' (some g)
set_option maxHeartbeats 400000 in
theorem l01Pick_in (P : ByteArray → Prop) (w : World) (g B : Nat) (a : Option Addr) (len cap : Nat) (gl m : Nat) (hm : 0 < m) (hm2 : m ≤ 1000) (hne : gl ≠ g) (hl : ∀ j, j < m → ∃ y : ByteArray, w.cell? ⟨gl, j, none⟩ = some (.string y) ∧ P y) (hc : Cur w g B a len cap) :
    Calls Try.prog 61 #[.pointer (some ⟨g, 0, none⟩), .slice (some ⟨gl, 0, none⟩) m m] w fun e w' => PickPostS P w g B a len cap e w' := by
  have HC : Hid (Cur w g B a len cap) := hc
  have HL : Hid (∀ j, j < m → ∃ y : ByteArray, w.cell? ⟨gl, j, none⟩ = some (.string y) ∧ P y) := hl
  clear hc hl
  go_enter Try.func61, Try.ntmps61
  go_wp2_with fail
  refine (l01Below_any _ g B a len cap m (by omega) HC.out).mono ?_
  rintro e w1 ⟨x, rfl, x0, x1, hc1, hg1⟩
  have HC1 : Hid (Cur w1 g B a len cap) := hc1
  have HG : Hid (w.grownBy w1 (some g)) := hg1
  obtain ⟨j, rfl⟩ := Int.eq_ofNat_of_zero_le x0
  obtain ⟨y, hy, hp⟩ := HL.out j (by omega)
  have c1 := hg1.cell hy (by simp; omega)
  have j1 : (j : Int) < (m : Int) := by omega
  have HP : Hid (P y) := hp
  clear hc1 hg1 hy hp
  go_wp2_with fail
  go_ret
  exact ⟨y, rfl, HP.out, HC1.out, HG.out⟩
/-- Texts that were laid into a new row. -/
theorem new_texts (w : World) (t : TypeId) (P : ByteArray → Prop) (L : List ByteArray) (h : ∀ y ∈ L, P y) (j : Nat) (hj : j < L.length) :
    ∃ y : ByteArray, (w.alloc (.cells (L.map Value.string).toArray t)).cell? ⟨w.heap.size, j, none⟩ = some (.string y) ∧ P y := by
  rw [World.cell?_alloc_mark]
  exact ⟨L[j], by simp [hj], h _ (List.getElem_mem hj)⟩
end Go.Proofs.Ythfmjjaollekiaa
/- DrPth: The draws of paths. -/
namespace Go.Proofs.Ythfmjjaollekiaa
open Go.RowKit
attribute [local go_sem ↓] Go.wp_at_zero Go.wp_at_succ

def PathPost (m : Nat) (w : World) (g B : Nat) (a : Option Addr) (len cap : Nat) (e : Ending) (w' : World) : Prop :=
  ∃ t : ByteArray, e = .returned (.string t) ∧ (t.size ≤ m ∧ noZ t = true) ∧ Cur w' g B a len cap ∧ w.grownBy w' (some g)
set_option maxRecDepth 100000 in
set_option maxHeartbeats 1000000 in
theorem l09Path_any (w : World) (g B : Nat) (a : Option Addr) (len cap : Nat) (hc : Cur w g B a len cap) :
    Calls Try.prog 91 #[.pointer (some ⟨g, 0, none⟩)] w fun e w' => PathPost 16 w g B a len cap e w' := by
  have HC := Shut.mk hc
  have hgw := hc.2.1
  clear hc
  go_enter Try.func91, Try.ntmps91
  go_wp2_with fail
  go_loopw [3, 4] (fun s i wr => ∃ (k : Nat) (t : ByteArray), s = .string t ∧ i = .int .i64 k ∧ k ≤ 3 ∧ t.size ≤ 4 * k ∧ Shut (noZ t = true) ∧ Shut (Cur wr g B a len cap) ∧ Shut (w.grownBy wr (some g))) (fun _ i _ => 3 - (intOf i).toNat)
  case atStart => exact ⟨0, _, rfl, rfl, by omega, by decide, ⟨rfl⟩, HC, ⟨gb_below (Below.refl _ _)⟩⟩
  case round =>
    clear HC
    obtain ⟨k, t, rfl, rfl, hk, ht, hz, hcur, hgr⟩ := hrel
    have k0 : (0 : Int) ≤ (k : Int) := by omega
    go_wp2_with fail
    refine (l01Below_any _ g B a len cap 3 (by omega) hcur.out).mono ?_
    rintro e w1 ⟨x, rfl, x0, x1, hc1, hg1⟩
    obtain ⟨m, rfl⟩ := Int.eq_ofNat_of_zero_le x0
    have HC1 := Shut.mk hc1
    have HG1 := Shut.mk (gb_two hgr.out hg1)
    have hg1w := hc1.2.1
    clear hc1 hg1 hcur hgr
    by_cases hlt : k < 1 + m
    · have hlt' : (k : Int) < 1 + (m : Int) := by omega
      have hlit : (#[.string ⟨#[97]⟩, .string ⟨#[98]⟩, .string ⟨#[99]⟩] : Array Value) = (List.map Value.string [⟨#[97]⟩, ⟨#[98]⟩, ⟨#[99]⟩]).toArray := rfl
      have HL := Shut.mk (new_texts w1 9 (fun y => y.size ≤ 3 ∧ noZ y = true) [⟨#[97]⟩, ⟨#[98]⟩, ⟨#[99]⟩] (by decide))
      rw [← hlit] at HL
      clear hlit
      go_wp2_with fail
      refine (l01Pick_in (fun y => y.size ≤ 3 ∧ noZ y = true) _ g B a len cap w1.heap.size 3 (by decide) (by decide) (by omega) HL.out (HC1.out.below ((Below.refl _ _).alloc (Nat.le_refl _) _))).mono ?_
      rintro e w2 ⟨y, rfl, ⟨hy, hyz⟩, hc2, hg2⟩
      have HZ : Shut (noZ (t ++ ⟨#[47]⟩ ++ y) = true) := ⟨by rw [noZ_app, noZ_app, hz.out, hyz]; rfl⟩
      clear hyz
      have HC2 := Shut.mk hc2
      have HG2 := Shut.mk (gb_two HG1.out (gb_two (gb_below ((Below.refl _ _).alloc (Nat.le_refl _) _)) hg2))
      clear hc2 hg2
      go_wp2_with fail
      go_roundw
      case rel => exact ⟨k + 1, _, rfl, by go_num, by omega, by
        have : (⟨#[47]⟩ : ByteArray).size = 1 := rfl
        simp only [ByteArray.size_append]; omega, HZ, HC2, HG2⟩
      case measure => simp [intOf]; omega
    · have hlt' : ¬ (k : Int) < 1 + (m : Int) := by omega
      go_wp2_with fail
      go_ret
      exact ⟨t, rfl, ⟨by omega, hz.out⟩, HC1.out, HG1.out⟩
theorem any_texts (w : World) (j : Nat) (hj : j < 11) : ∃ y : ByteArray, (w.alloc (.cells #[.string ⟨#[]⟩, .string ⟨#[47]⟩, .string ⟨#[97]⟩, .string ⟨#[47, 65]⟩, .string ⟨#[47, 47]⟩, .string ⟨#[47, 97, 47]⟩, .string ⟨#[47, 97, 47, 47, 98]⟩, .string ⟨#[47, 97, 47, 98, 47, 99, 47, 97]⟩, .string ⟨#[47, 97, 47, 98, 47, 99, 47, 97, 47, 98]⟩, .string ⟨#[47, 97, 98, 99, 100, 101, 102, 103, 104]⟩, .string ⟨#[47, 97, 98, 99, 100, 101, 102, 103, 104, 105]⟩] 9)).cell? ⟨w.heap.size, j, none⟩ = some (.string y) ∧ (y.size ≤ 16 ∧ noZ y = true) :=
  new_texts w 9 (fun y => y.size ≤ 16 ∧ noZ y = true) [⟨#[]⟩, ⟨#[47]⟩, ⟨#[97]⟩, ⟨#[47, 65]⟩, ⟨#[47, 47]⟩, ⟨#[47, 97, 47]⟩, ⟨#[47, 97, 47, 47, 98]⟩, ⟨#[47, 97, 47, 98, 47, 99, 47, 97]⟩, ⟨#[47, 97, 47, 98, 47, 99, 47, 97, 47, 98]⟩, ⟨#[47, 97, 98, 99, 100, 101, 102, 103, 104]⟩, ⟨#[47, 97, 98, 99, 100, 101, 102, 103, 104, 105]⟩] (by decide) j hj
end Go.Proofs.Ythfmjjaollekiaa
/- BRowM: Rows of bytes that may be written: of a call's own, and made of a text. -/
namespace Go.Proofs.Ythfmjjaollekiaa
open Go.RowKit

/-- A row of bytes that may be written. -/
def BRow (w : World) (g : Nat) (l : List UInt8) : Prop :=
  g < w.heap.size ∧ ∀ j, j < l.length → w.cell? ⟨g, j, none⟩ = some (.int .u8 ((l.getD j 0).toNat : Int)) ∧ w.frozen? ⟨g, j, none⟩ = false
theorem BRow.set {w : World} {g : Nat} {l : List UInt8} (h : BRow w g l) (i : Nat) (x : UInt8) (hi : i < l.length) : BRow (w.setCell ⟨g, i, none⟩ (.int .u8 (x.toNat : Int))) g (l.set i x) := by
  refine ⟨by have := h.1; simpa [World.setCell] using this, fun j hj => ?_⟩
  rw [List.length_set] at hj
  refine ⟨?_, (World.frozen?_setCell _ _ _ _).trans (h.2 j hj).2⟩
  by_cases e : j = i
  · subst e
    rw [World.cell?_setCell_same _ _ _ (h.2 j hj).1]
    simp [List.getD, hi]
  · rw [World.cell?_setCell_other _ _ _ _ (by first | (simp; done) | (simp; omega)), (h.2 j hj).1]
    simp [List.getD, Ne.symm e]
theorem own_brow {w : World} {B g n cap : Nat} {l : List UInt8} (h : w.ownsRow B 5 1 (.slice (some ⟨g, 0, none⟩) n cap) n (bv l)) : BRow w g l := by
  have hc := h.cells (g := g) rfl
  have hlt := h.lt g rfl
  obtain ⟨_, ⟨h0, _⟩ | ⟨g', cap', cur, he, hB, hcur, _, _, _, _⟩⟩ := h
  · cases h0
  · have eg : g' = g := by simp at he; exact he.1.symm
    subst eg
    refine ⟨hlt.2, fun j hj => ⟨?_, ?_⟩⟩
    · have := hc j _ (show (bv l)[j]? = some _ by simp [bv, hj]; rfl)
      have e : (⟨g', 0, none⟩ : Addr).add j = ⟨g', j, none⟩ := by cases j <;> simp [Addr.add]
      rw [e] at this
      simpa [List.getD, hj] using this
    · unfold World.frozen?
      rw [hcur]; simp
theorem brow_string {w : World} {g cap : Nat} {l : List UInt8} (h : BRow w g l) :
    (convert 22 9 (.slice (some ⟨g, 0, none⟩) l.length cap)).run Try.prog w = .ok (.string ⟨l.toArray⟩) w :=
  run_convert_bytes_back w 22 9 5 ⟨g, 0, none⟩ cap l Try.underlying22 Try.underlying5 Try.underlying9 (fun j hj => by
    have e : (⟨g, 0, none⟩ : Addr).add j = ⟨g, j, none⟩ := by cases j <;> simp [Addr.add]
    rw [e, (h.2 j hj).1]
    simp [List.getD, hj])
/-- The bytes of a text, in a block of their own. -/
theorem bytes_made (w : World) (s : ByteArray) : ∃ (w' : World) (c : Nat), (convert 9 22 (.string s)).run Try.prog w = .ok (.slice (some ⟨w.heap.size, 0, none⟩) s.size c) w' ∧ BRow w' w.heap.size s.data.toList ∧ Below w.heap.size w w' := by
  refine ⟨_, _, run_bytes_of_string w 9 22 5 s Try.underlying9 Try.underlying22 Try.underlying5, ⟨?_, fun j hj => ⟨?_, ?_⟩⟩, ?_⟩
  · show w.heap.size < (w.heap.push _).size
    simp
  · rw [show w.heap.size = w.drew.heap.size from rfl, World.cell?_alloc_mark]
    have hj' : j < s.data.size := by simpa using hj
    unfold bytesRow
    rw [Array.getElem?_append_left (by simpa using hj')]
    simp only [Array.getElem?_map, List.getD, Array.getElem?_toList]
    rw [Array.getElem?_eq_getElem hj']
    rfl
  · rw [show w.heap.size = w.drew.heap.size from rfl, World.frozen?_alloc_mark]
    have hj' : j < s.data.size := by simpa using hj
    have h2 : j < (bytesRow s (grownCap w s.size 0 5)).size := by unfold bytesRow; rw [Array.size_append, Array.size_map]; omega
    rw [decide_eq_false (show ¬ (bytesRow s (grownCap w s.size 0 5)).size ≤ j by omega)]
    rfl
  · exact (Below.drew (Below.refl _ _)).alloc (Nat.le_refl _) _
end Go.Proofs.Ythfmjjaollekiaa
/- DrawC: The draws of chapter 1. -/
namespace Go.Proofs.Ythfmjjaollekiaa
open Go.RowKit

def IntPost (w : World) (g B : Nat) (a : Option Addr) (len cap : Nat) (e : Ending) (w' : World) : Prop :=
  ∃ x : Int, e = .returned (.int .i64 x) ∧ Cur w' g B a len cap ∧ w.grownBy w' (some g)
set_option maxHeartbeats 400000 in
theorem l01PickInt_any (w : World) (g B : Nat) (a : Option Addr) (len cap : Nat) (gl m : Nat) (hm : 0 < m) (hm2 : m ≤ 1000) (hne : gl ≠ g) (hl : ∀ j, j < m → ∃ y : Int, w.cell? ⟨gl, j, none⟩ = some (.int .i64 y)) (hc : Cur w g B a len cap) :
    Calls Try.prog 90 #[.pointer (some ⟨g, 0, none⟩), .slice (some ⟨gl, 0, none⟩) m m] w fun e w' => IntPost w g B a len cap e w' := by
  have HC : Hid (Cur w g B a len cap) := hc
  have HL : Hid (∀ j, j < m → ∃ y : Int, w.cell? ⟨gl, j, none⟩ = some (.int .i64 y)) := hl
  clear hc hl
  go_enter Try.func90, Try.ntmps90
  go_wp2_with fail
  refine (l01Below_any _ g B a len cap m (by omega) HC.out).mono ?_
  rintro e w1 ⟨x, rfl, x0, x1, hc1, hg1⟩
  have HC1 : Hid (Cur w1 g B a len cap) := hc1
  have HG : Hid (w.grownBy w1 (some g)) := hg1
  obtain ⟨j, rfl⟩ := Int.eq_ofNat_of_zero_le x0
  obtain ⟨y, hy⟩ := HL.out j (by omega)
  have c1 := hg1.cell hy (by simp; omega)
  have j1 : (j : Int) < (m : Int) := by omega
  clear hc1 hg1 hy
  go_wp2_with fail
  go_ret
  exact ⟨y, rfl, HC1.out, HG.out⟩

theorem ten_ints (w : World) (t : TypeId) (y0 y1 y2 y3 y4 y5 y6 y7 y8 y9 : Int) (j : Nat) (hj : j < 10) :
    ∃ y : Int, (w.alloc (.cells #[.int .i64 y0, .int .i64 y1, .int .i64 y2, .int .i64 y3, .int .i64 y4, .int .i64 y5, .int .i64 y6, .int .i64 y7, .int .i64 y8, .int .i64 y9] t)).cell? ⟨w.heap.size, j, none⟩ = some (.int .i64 y) := by
  rw [World.cell?_alloc_mark]
  match j, hj with
  | 0, _ => exact ⟨y0, rfl⟩
  | 1, _ => exact ⟨y1, rfl⟩
  | 2, _ => exact ⟨y2, rfl⟩
  | 3, _ => exact ⟨y3, rfl⟩
  | 4, _ => exact ⟨y4, rfl⟩
  | 5, _ => exact ⟨y5, rfl⟩
  | 6, _ => exact ⟨y6, rfl⟩
  | 7, _ => exact ⟨y7, rfl⟩
  | 8, _ => exact ⟨y8, rfl⟩
  | 9, _ => exact ⟨y9, rfl⟩

end Go.Proofs.Ythfmjjaollekiaa
/- EdZ: A record of nothing; a record written into a box. -/
namespace Go.Proofs.Ythfmjjaollekiaa
open Go.RowKit

def zeroE : EM := ⟨0, ⟨#[]⟩, ⟨#[]⟩, 0, 0⟩
/-- A record written into a box. -/
def put5 (w : World) (A : Nat) (X : EM) : World := ((((w.setCell ⟨A, 0, none⟩ (.int .i64 X.kind)).setCell ⟨A, 1, none⟩ (.string X.path)).setCell ⟨A, 2, none⟩ (.string X.dest)).setCell ⟨A, 3, none⟩ (.int .i64 X.num)).setCell ⟨A, 4, none⟩ (.int .i64 X.who)
end Go.Proofs.Ythfmjjaollekiaa
/- EdB: The model's EditOk. -/
namespace Go.Proofs.Ythfmjjaollekiaa
open Go.RowKit BigFrame
attribute [local go_sem ↓] Go.wp_at_zero Go.wp_at_succ

set_option maxRecDepth 100000 in
set_option maxHeartbeats 2000000 in
theorem specEditOk (e : EM) (w : World) (hf : EFit e) : Calls Try.prog 83 #[ev e] w fun r w' => r = .returned (.bool (editOk e)) ∧ Below w.heap.size w w' := by
  have hnp := fun W => specNamed e.path W hf.1
  have hnt := fun W => specNamed e.dest W hf.2
  obtain ⟨R, hR⟩ : ∃ R, R = editOk e := ⟨_, rfl⟩
  rw [← hR]
  obtain ⟨bad, hbad⟩ : ∃ b, b = pathBad e := ⟨_, rfl⟩
  have hRR : R = (inI e.kind 1 10 && (if e.kind = 10 then (e.path.toList == [47]) && (e.dest.toList == []) && (e.num == 0) && (e.who == 0) else !bad && numsOk e)) := by rw [hR, hbad]; rfl
  obtain ⟨np, hnp'⟩ : ∃ b, b = named e.path := ⟨_, rfl⟩
  obtain ⟨nt, hnt'⟩ : ∃ b, b = named e.dest := ⟨_, rfl⟩
  rw [← hnp'] at hnp
  rw [← hnt'] at hnt
  unfold pathBad at hbad
  rw [← hnp', ← hnt'] at hbad
  unfold numsOk at hRR
  have HR := Shut.mk hRR
  have HNPC := Shut.mk hnp
  have HNTC := Shut.mk hnt
  have HBD := Shut.mk hbad
  clear hf hnp hnt hR hbad hnp' hnt' hRR
  obtain ⟨kind, path, dest, num, who⟩ := e
  dsimp only at *
  by_cases h1 : inI kind 1 10 = true
  case neg =>
    have HF : Shut (R = false) := ⟨by rw [HR.out]; simp [h1]⟩
    have HI := Shut.mk (fun W => isInI kind 1 10 W false (by simpa using h1))
    clear h1 HR
    go_enter Try.func83, Try.ntmps83
    go_wp2_with (go_at_call 46; refine (HI.out _).mono ?_; rintro r w1 ⟨rfl, rfl⟩)
    go_ret
    exact ⟨by rw [HF.out]; rfl, (Below.refl _ _).alloc (Nat.le_refl _) _⟩
  have HI := Shut.mk (fun W => isInI kind 1 10 W true h1)
  have HKB := Shut.mk (inI_iff.1 h1)
  have HIN := Shut.mk (fun x a b W => isInI x a b W _ rfl)
  rw [h1] at HR
  clear h1
  by_cases h10 : kind = 10
  · rw [if_pos h10] at HR
    subst h10
    go_enter Try.func83, Try.ntmps83
    go_wp2_with (go_at_call 46; refine (HI.out _).mono ?_; rintro r w1 ⟨rfl, rfl⟩)
    all_goals
      go_ret
      exact ⟨by rw [HR.out]; simp [*], (Below.refl _ _).alloc (Nat.le_refl _) _⟩
  · rw [if_neg h10] at HR
    have h10' : (kind == 10) = false := by simp [h10]
    obtain ⟨st, hst⟩ : ∃ b, b = ((kind == 5) || (kind == 6)) := ⟨_, rfl⟩
    obtain ⟨pr, hpr⟩ : ∃ b, b = (path.toList == [47]) := ⟨_, rfl⟩
    obtain ⟨k3, hk3⟩ : ∃ b, b = (kind == 3) := ⟨_, rfl⟩
    obtain ⟨te, hte⟩ : ∃ b, b = (dest.toList == []) := ⟨_, rfl⟩
    have HBD' : Shut (bad = ((!np && !(st && pr)) || (k3 != nt) || (!k3 && !te))) := ⟨by
      rw [HBD.out, ← hst, ← hpr, ← hk3]
      have e1 : (kind != 3) = !k3 := by rw [hk3]; rfl
      have e2 : (dest.toList != []) = !te := by rw [hte]; rfl
      rw [e1, e2]⟩
    have HST := Shut.mk hst
    go_enter Try.func83, Try.ntmps83
    go_upto_region 5 with (go_at_call 46; refine (HI.out _).mono ?_; rintro r w1 ⟨rfl, rfl⟩)
    refine wp_shade (fun W => Below w.heap.size w W ∧ WCells W w.heap.size [.int .i64 kind, .string path, .string dest, .int .i64 num, .int .i64 who]) ⟨(Below.refl _ _).alloc (Nat.le_refl _) _, wcells_new w #[.int .i64 kind, .string path, .string dest, .int .i64 num, .int .i64 who] 94⟩ ?_
    intro W hW
    have HW := Shut.mk hW
    have c0 := (hW.2.2 0 _ rfl).1
    have lw := hW.2.1
    have g0 : ∀ X : Grow W, X.val.cell? ⟨w.heap.size, 0, none⟩ = some (.int .i64 kind) := fun X => X.cell c0 lw
    have g1 : ∀ X : Grow W, X.val.cell? ⟨w.heap.size, 1, none⟩ = some (.string path) := fun X => X.cell (hW.2.2 1 _ rfl).1 lw
    have g2 : ∀ X : Grow W, X.val.cell? ⟨w.heap.size, 2, none⟩ = some (.string dest) := fun X => X.cell (hW.2.2 2 _ rfl).1 lw
    have HNP := Shut.mk (fun X => calls_grow (w := W) (fun W' (_ : Below W.heap.size W W') => HNPC.out W') X)
    have HNT := Shut.mk (fun X => calls_grow (w := W) (fun W' (_ : Below W.heap.size W W') => HNTC.out W') X)
    clear hW HI h10
    rw [HBD'.out] at HR
    clear HBD HBD'
    go_upto_region 5 with fail
    go_cut [3] from 29 to 36 (fun b wx => b = .bool st ∧ wx = W)
    case first =>
      by_cases h5 : kind = 5
      · have h5' : (kind == 5) = true := by simp [h5]
        have HSE : Shut (st = true) := ⟨by rw [HST.out]; simp [h5]⟩
        clear h5
        go_wp2_with fail
        go_meet
        case rel => exact ⟨by rw [HSE.out], rfl⟩
      · have h5' : (kind == 5) = false := by simp [h5]
        have HSE : Shut (st = (kind == 6)) := ⟨by rw [HST.out]; simp [h5]⟩
        clear h5
        go_wp2_with fail
        go_meet
        case rel => exact ⟨by rw [HSE.out], rfl⟩
    case rest =>
      obtain ⟨rfl, rfl⟩ := hcut
      have HSTT := HST
      have hpr' : (path.toList == [47]) = pr := hpr.symm
      have hk3' : (kind == 3) = k3 := hk3.symm
      have hk3n : (kind != 3) = !k3 := by rw [hk3]; rfl
      have hte' : (dest.toList == []) = te := hte.symm
      have hten : (dest.toList != []) = !te := by rw [hte]; rfl
      clear hpr hk3 hte hst c0
      go_upto_region 6 with fail
      go_cut [68] from 37 to 68 (fun b wx => b = .bool ((!np && !(st && pr)) || (k3 != nt) || (!k3 && !te)) ∧ Shut (Below w.heap.size w wx ∧ WCells wx w.heap.size [.int .i64 kind, .string path, .string dest, .int .i64 num, .int .i64 who]))
      case first =>
        clear HR HST HSTT
        cases np with
        | true =>
          cases k3 with
          | true =>
            cases nt with
            | true =>
              refine wp_region_grow (by kernel_rfl) (by kernel_rfl) ?_
              repeat (go_big_quiet_step (first | (go_at_call 106; first | with_reducible exact HNP.out _ | with_reducible exact HNT.out _)))
              refine wpQuiet_nil ?_
              rintro _ ⟨X, rfl⟩
              go_wp2_with fail
              go_meet
              case rel => exact ⟨rfl, ⟨HW.out.1.trans (X.bel.mono HW.out.1.size), HW.out.2.grow X.bel⟩⟩
            | false =>
              refine wp_region_grow (by kernel_rfl) (by kernel_rfl) ?_
              repeat (go_big_quiet_step (first | (go_at_call 106; first | with_reducible exact HNP.out _ | with_reducible exact HNT.out _)))
              refine wpQuiet_nil ?_
              rintro _ ⟨X, rfl⟩
              go_wp2_with fail
              go_meet
              case rel => exact ⟨rfl, ⟨HW.out.1.trans (X.bel.mono HW.out.1.size), HW.out.2.grow X.bel⟩⟩
          | false =>
            cases nt with
            | true =>
              refine wp_region_grow (by kernel_rfl) (by kernel_rfl) ?_
              repeat (go_big_quiet_step (first | (go_at_call 106; first | with_reducible exact HNP.out _ | with_reducible exact HNT.out _)))
              refine wpQuiet_nil ?_
              rintro _ ⟨X, rfl⟩
              go_wp2_with fail
              go_meet
              case rel => exact ⟨rfl, ⟨HW.out.1.trans (X.bel.mono HW.out.1.size), HW.out.2.grow X.bel⟩⟩
            | false =>
              cases te with
              | true =>
                refine wp_region_grow (by kernel_rfl) (by kernel_rfl) ?_
                repeat (go_big_quiet_step (first | (go_at_call 106; first | with_reducible exact HNP.out _ | with_reducible exact HNT.out _)))
                refine wpQuiet_nil ?_
                rintro _ ⟨X, rfl⟩
                go_wp2_with fail
                go_meet
                case rel => exact ⟨rfl, ⟨HW.out.1.trans (X.bel.mono HW.out.1.size), HW.out.2.grow X.bel⟩⟩
              | false =>
                refine wp_region_grow (by kernel_rfl) (by kernel_rfl) ?_
                repeat (go_big_quiet_step (first | (go_at_call 106; first | with_reducible exact HNP.out _ | with_reducible exact HNT.out _)))
                refine wpQuiet_nil ?_
                rintro _ ⟨X, rfl⟩
                go_wp2_with fail
                go_meet
                case rel => exact ⟨rfl, ⟨HW.out.1.trans (X.bel.mono HW.out.1.size), HW.out.2.grow X.bel⟩⟩
        | false =>
          cases st with
          | true =>
            cases pr with
            | true =>
              cases k3 with
              | true =>
                cases nt with
                | true =>
                  refine wp_region_grow (by kernel_rfl) (by kernel_rfl) ?_
                  repeat (go_big_quiet_step (first | (go_at_call 106; first | with_reducible exact HNP.out _ | with_reducible exact HNT.out _)))
                  refine wpQuiet_nil ?_
                  rintro _ ⟨X, rfl⟩
                  go_wp2_with fail
                  go_meet
                  case rel => exact ⟨rfl, ⟨HW.out.1.trans (X.bel.mono HW.out.1.size), HW.out.2.grow X.bel⟩⟩
                | false =>
                  refine wp_region_grow (by kernel_rfl) (by kernel_rfl) ?_
                  repeat (go_big_quiet_step (first | (go_at_call 106; first | with_reducible exact HNP.out _ | with_reducible exact HNT.out _)))
                  refine wpQuiet_nil ?_
                  rintro _ ⟨X, rfl⟩
                  go_wp2_with fail
                  go_meet
                  case rel => exact ⟨rfl, ⟨HW.out.1.trans (X.bel.mono HW.out.1.size), HW.out.2.grow X.bel⟩⟩
              | false =>
                cases nt with
                | true =>
                  refine wp_region_grow (by kernel_rfl) (by kernel_rfl) ?_
                  repeat (go_big_quiet_step (first | (go_at_call 106; first | with_reducible exact HNP.out _ | with_reducible exact HNT.out _)))
                  refine wpQuiet_nil ?_
                  rintro _ ⟨X, rfl⟩
                  go_wp2_with fail
                  go_meet
                  case rel => exact ⟨rfl, ⟨HW.out.1.trans (X.bel.mono HW.out.1.size), HW.out.2.grow X.bel⟩⟩
                | false =>
                  cases te with
                  | true =>
                    refine wp_region_grow (by kernel_rfl) (by kernel_rfl) ?_
                    repeat (go_big_quiet_step (first | (go_at_call 106; first | with_reducible exact HNP.out _ | with_reducible exact HNT.out _)))
                    refine wpQuiet_nil ?_
                    rintro _ ⟨X, rfl⟩
                    go_wp2_with fail
                    go_meet
                    case rel => exact ⟨rfl, ⟨HW.out.1.trans (X.bel.mono HW.out.1.size), HW.out.2.grow X.bel⟩⟩
                  | false =>
                    refine wp_region_grow (by kernel_rfl) (by kernel_rfl) ?_
                    repeat (go_big_quiet_step (first | (go_at_call 106; first | with_reducible exact HNP.out _ | with_reducible exact HNT.out _)))
                    refine wpQuiet_nil ?_
                    rintro _ ⟨X, rfl⟩
                    go_wp2_with fail
                    go_meet
                    case rel => exact ⟨rfl, ⟨HW.out.1.trans (X.bel.mono HW.out.1.size), HW.out.2.grow X.bel⟩⟩
            | false =>
              refine wp_region_grow (by kernel_rfl) (by kernel_rfl) ?_
              repeat (go_big_quiet_step (first | (go_at_call 106; first | with_reducible exact HNP.out _ | with_reducible exact HNT.out _)))
              refine wpQuiet_nil ?_
              rintro _ ⟨X, rfl⟩
              go_wp2_with fail
              go_meet
              case rel => exact ⟨rfl, ⟨HW.out.1.trans (X.bel.mono HW.out.1.size), HW.out.2.grow X.bel⟩⟩
          | false =>
            refine wp_region_grow (by kernel_rfl) (by kernel_rfl) ?_
            repeat (go_big_quiet_step (first | (go_at_call 106; first | with_reducible exact HNP.out _ | with_reducible exact HNT.out _)))
            refine wpQuiet_nil ?_
            rintro _ ⟨X, rfl⟩
            go_wp2_with fail
            go_meet
            case rel => exact ⟨rfl, ⟨HW.out.1.trans (X.bel.mono HW.out.1.size), HW.out.2.grow X.bel⟩⟩
      case rest =>
        obtain ⟨rfl, hV⟩ := hcut
        clear g0 g1 g2 HNP HNT HNPC HNTC HW HST HSTT lw hpr' hk3' hk3n hte' hten
        generalize ((!np && !(st && pr)) || (k3 != nt) || (!k3 && !te)) = bd at *
        have c0 := (hV.out.2.2 0 _ rfl).1
        have c3 := (hV.out.2.2 3 _ rfl).1
        have c4 := (hV.out.2.2 4 _ rfl).1
        cases bd with
        | true =>
          have HF : Shut (R = false) := ⟨by rw [HR.out]; rfl⟩
          clear HR
          go_wp2_with fail
          go_ret
          exact ⟨by rw [HF.out]; rfl, hV.out.1⟩
        | false =>
          by_cases k5 : kind = 5
          · have HRR : Shut (R = (inI num 1 3 && (who == 0))) := ⟨by rw [HR.out]; simp [k5]⟩
            subst k5
            clear HR
            go_wp2_with (go_at_call 46; refine (HIN.out _ _ _ _).mono ?_; rintro r w1 ⟨rfl, rfl⟩)
            all_goals
              go_ret
              exact ⟨by rw [HRR.out]; simp [*], hV.out.1⟩
          by_cases k6 : kind = 6
          · have HRR : Shut (R = (inI num 0 1000 && (who == 0))) := ⟨by rw [HR.out]; simp [k6]⟩
            subst k6
            clear HR
            go_wp2_with (go_at_call 46; refine (HIN.out _ _ _ _).mono ?_; rintro r w1 ⟨rfl, rfl⟩)
            all_goals
              go_ret
              exact ⟨by rw [HRR.out]; simp [*], hV.out.1⟩
          by_cases k7 : kind = 7
          · have HRR : Shut (R = (inI num 1 200 && (who == 0))) := ⟨by rw [HR.out]; simp [k7]⟩
            subst k7
            clear HR
            go_wp2_with (go_at_call 46; refine (HIN.out _ _ _ _).mono ?_; rintro r w1 ⟨rfl, rfl⟩)
            all_goals
              go_ret
              exact ⟨by rw [HRR.out]; simp [*], hV.out.1⟩
          by_cases k2 : kind = 2
          · have HRR : Shut (R = ((num == 0) && inI who 1 9)) := ⟨by rw [HR.out]; simp [k2]⟩
            subst k2
            clear HR
            go_wp2_with (go_at_call 46; refine (HIN.out _ _ _ _).mono ?_; rintro r w1 ⟨rfl, rfl⟩)
            all_goals
              go_ret
              exact ⟨by rw [HRR.out]; simp [*], hV.out.1⟩
          by_cases k9 : kind = 9
          · have HRR : Shut (R = ((num == 0) && inI who 1 9)) := ⟨by rw [HR.out]; simp [k9]⟩
            subst k9
            clear HR
            go_wp2_with (go_at_call 46; refine (HIN.out _ _ _ _).mono ?_; rintro r w1 ⟨rfl, rfl⟩)
            all_goals
              go_ret
              exact ⟨by rw [HRR.out]; simp [*], hV.out.1⟩
          have HRR : Shut (R = ((num == 0) && (who == 0))) := ⟨by rw [HR.out]; simp [k5, k6, k7, k2, k9]⟩
          clear HR
          have j5 : (kind == 5) = false := by simp [k5]
          have j6 : (kind == 6) = false := by simp [k6]
          have j7 : (kind == 7) = false := by simp [k7]
          have j2 : (kind == 2) = false := by simp [k2]
          have j9 : (kind == 9) = false := by simp [k9]
          clear k5 k6 k7 k2 k9
          go_wp2_with (go_at_call 46; refine (HIN.out _ _ _ _).mono ?_; rintro r w1 ⟨rfl, rfl⟩)
          all_goals
            go_ret
            exact ⟨by rw [HRR.out]; simp [*], hV.out.1⟩
end Go.Proofs.Ythfmjjaollekiaa
/- GrwB: A region that draws its order, some of whose operations make memory: what answers one value in every later world is taken first, calls that only make memory too. The way of the proof is that of the library's Derived.OrdersHeld, which is imported; the class of worlds is ours. -/
namespace Go.Proofs.Ythfmjjaollekiaa
open Go.RowKit

/-- A later world: more memory, what was there untouched. -/
def Later (w w' : World) : Prop := Below w.heap.size w w'
theorem Later.refl (w : World) : Later w w := Below.refl _ _
theorem Later.trans {a b c : World} (h : Later a b) (g : Later b c) : Later a c := Below.trans h (Below.mono g (Below.size h))
section
variable {P : Program} {ops : Array Oper} {Q : Exit → Act → World → Prop} {md : Region.Mode}
/-- Whatever order is picked from here on, in whatever later world. -/
def wpL (P : Program) (md : Region.Mode) (ops : Array Oper) (Q : Exit → Act → World → Prop) : Nat → Array Bool → Act → World → Prop
  | 0, l, a, w => Region.ready md ops l = [] ∧ ∀ x, Later w x → Q .normal a x
  | n + 1, l, a, w => ∀ x, Later w x → (Region.ready md ops l = [] → Q .normal a x) ∧
      ∀ i ∈ Region.ready md ops l, wpOp P ops Q i (fun a' y => Later x y ∧ wpL P md ops Q n (l.setIfInBounds i true) a' y) a x
theorem wpL_later : ∀ (n : Nat) (l : Array Bool) (a : Act) (w y : World), Later w y → wpL P md ops Q n l a w → wpL P md ops Q n l a y
  | 0, _, _, _, _, hy, h => ⟨h.1, fun x hx => h.2 x (hy.trans hx)⟩
  | _ + 1, _, _, _, _, hy, h => fun x hx => h x (hy.trans hx)
theorem wpAny_of_L : ∀ (n : Nat) (l : Array Bool) (a : Act) (w : World), wpL P md ops Q n l a w → wpAny P md ops Q n l a w
  | 0, _, _, w, h => ⟨h.1, h.2 w (Later.refl w)⟩
  | n + 1, _, _, w, h => ⟨(h w (Later.refl w)).1, fun i hi => wpOp_mono (fun a' y hh => wpAny_of_L n _ a' y hh.2) ((h w (Later.refl w)).2 i hi)⟩
/-- One value, in every later world; a call may make memory. -/
def YL (P : Program) (ops : Array Oper) (o : Oper) (v : Value) (a : Act) (w : World) : Prop :=
  (Region.wanted o (yielded ops a.tmps) = true ∧ ∀ x, Later w x → o.quietAt P a (Later x) x v) ∨ (Region.wanted o (yielded ops a.tmps) = false ∧ v = undef)
theorem YL.later {o : Oper} {v : Value} {a : Act} {w y : World} (h : YL P ops o v a w) (hy : Later w y) : YL P ops o v a y :=
  h.imp (fun q => ⟨q.1, fun x hx => q.2 x (hy.trans hx)⟩) id
theorem YL.same {o : Oper} {v : Value} {a b : Act} {w : World} (h : YL P ops o v a w) (he : execOp b.eval o = execOp a.eval o) (hw : Region.wanted o (yielded ops b.tmps) = Region.wanted o (yielded ops a.tmps)) : YL P ops o v b w := by
  unfold YL Oper.quietAt at *
  rw [he, hw]
  exact h
theorem YL.op {i : Nat} {o : Oper} {v : Value} {a : Act} {w x : World} {K : Act → World → Prop} (hi : ops[i]? = some o) (h : YL P ops o v a w) (hx : Later w x) (hk : ∀ y, Later x y → K (a.put o.dst v) y) : wpOp P ops Q i K a x := by
  unfold wpOp
  rw [hi]
  dsimp only
  rcases h with ⟨hw, hq⟩ | ⟨hw, hv⟩
  · rw [if_pos hw]
    refine Or.inl ?_
    have q := hq x hx
    unfold Oper.quietAt at q
    unfold Oper.wp
    revert q
    cases (execOp a.eval o).run P x with
    | halt _ _ => exact False.elim
    | ok r y =>
      cases r with
      | value u => rintro ⟨rfl, rfl⟩; exact hk _ (Later.refl _)
      | skip => rintro ⟨rfl, rfl⟩; exact hk _ (Later.refl _)
      | enter f args => rintro ⟨rfl, hc⟩; exact hc.mono (by rintro _ z ⟨rfl, hz⟩; exact hk _ hz)
      | _ => exact False.elim
  · rw [if_neg (by rw [hw]; exact Bool.false_ne_true), ← hv]
    exact hk _ (Later.refl _)
/-- What an operation may do to the frame: its own slot, or a call that is put off. -/
def Fr (d : Option Tmp) (a b : Act) : Prop := ∃ u, b = a.put d u ∨ ∃ f, b = { a with defers := f :: a.defers }.put d u
theorem op_frame {j : Nat} {oj : Oper} {K : Act → World → Prop} {a : Act} {x : World} (hj : ops[j]? = some oj) (h : wpOp P ops Q j K a x) : wpOp P ops Q j (fun b y => Fr oj.dst a b ∧ K b y) a x := by
  unfold wpOp at h ⊢
  rw [hj] at h ⊢
  dsimp only at h ⊢
  split
  · rename_i hw
    rw [if_pos hw] at h
    refine h.imp_left fun q => ?_
    unfold Oper.wp at q ⊢
    revert q
    cases (execOp a.eval oj).run P x with
    | halt r y => cases r <;> exact id
    | ok r y =>
      cases r with
      | value u => exact fun q => ⟨⟨u, .inl rfl⟩, q⟩
      | skip => exact fun q => ⟨⟨undef, .inl rfl⟩, q⟩
      | defer f => exact fun q => ⟨⟨undef, .inr ⟨f, rfl⟩⟩, q⟩
      | enter f args => exact fun q => Calls.mono q fun e z hz => by cases e <;> first | exact ⟨⟨_, .inl rfl⟩, hz⟩ | exact hz
      | row r args => exact fun q => Rows.mono q fun u z hz => ⟨⟨u, .inl rfl⟩, hz⟩
      | _ => exact id
  · rename_i hw
    rw [if_neg hw] at h
    exact ⟨⟨undef, .inl rfl⟩, h⟩
/-- An operation beside another that has its value already: the library's law for no world at all, and what the frame may be behind it. -/
theorem op_beside {j : Nat} {oi oj : Oper} {v : Value} {w : World} (hj : ops[j]? = some oj) (hap : oi.apart ops oj = true) (hsi : ∀ cs b, oi.op ≠ .select cs b) (hsj : ∀ cs b, oj.op ≠ .select cs b)
    (hQ : ∀ c a w, Q (.panic c) (a.put oi.dst v) w → Q (.panic c) a w) {K : Act → World → Prop} {a : Act} {x : World} (hy : YL P ops oi v a w) (h : wpOp P ops Q j K (a.put oi.dst v) x) :
    wpOp P ops Q j (fun a' y => YL P ops oi v a' w ∧ K (a'.put oi.dst v) y) a x := by
  have h3 := (Oper.apart_spec hap).2.2
  refine wpOp_mono ?_ (op_frame hj (wpOp_putIf (S := fun _ => False) hj hap hsi hsj hQ (hy.imp (fun q => ⟨q.1, fun _ hf => hf.elim⟩) id) h))
  rintro b y ⟨⟨u, rfl | ⟨f, rfl⟩⟩, -, hk⟩
  · exact ⟨hy.same (execOp_put oi hsi a oj.dst u h3) (wanted_put oi a oj.dst u h3), hk⟩
  · have q : YL P ops oi v { a with defers := f :: a.defers } w := hy.same rfl rfl
    exact ⟨q.same (execOp_put oi hsi _ oj.dst u h3) (wanted_put oi _ oj.dst u h3), hk⟩
/-- Who may come up waits for nobody who has not come up. -/
theorem ready_free {l : Array Bool} {i j : Nat} {oj : Oper} (hi : i ∈ Region.ready md ops l) (hj : j ∈ Region.ready md ops l) (ho : ops[j]? = some oj) : ∀ e ∈ oj.after, Region.binds md e = true → e.on ≠ i := by
  obtain ⟨-, o', ho', hall⟩ := mem_ready.1 hj
  obtain rfl : oj = o' := Option.some.inj (ho.symm.trans ho')
  rintro e he hb rfl
  have q := hall e he hb
  have z := (mem_ready.1 hi).1
  grind
theorem wpL_first {i : Nat} {oi : Oper} {v : Value} (hi : ops[i]? = some oi) (hsel : ∀ (j : Nat) (o : Oper) cs b, ops[j]? = some o → o.op ≠ .select cs b) (hQ : ∀ c a w, Q (.panic c) (a.put oi.dst v) w → Q (.panic c) a w) :
    ∀ (n : Nat) (l : Array Bool) (a : Act) (w : World), (∀ j oj, ops[j]? = some oj → j ≠ i → l.getD j true = false → (∀ e ∈ oj.after, Region.binds md e = true → e.on ≠ i) → oi.apart ops oj = true) →
      i ∈ Region.ready md ops l → YL P ops oi v a w → wpL P md ops Q n (l.setIfInBounds i true) (a.put oi.dst v) w → wpL P md ops Q (n + 1) l a w := by
  intro n
  induction n with
  | zero =>
    intro l a w _ hr hy H x hx
    refine ⟨fun h => (by rw [h] at hr; cases hr), fun j hj => ?_⟩
    by_cases hji : j = i
    · subst hji
      exact hy.op hi hx fun y hxy => ⟨hxy, wpL_later 0 _ _ _ _ (hx.trans hxy) H⟩
    · have q := ready_mono hj hji
      rw [H.1] at q
      cases q
  | succ n ih =>
    intro l a w hfree hr hy H x hx
    refine ⟨fun h => (by rw [h] at hr; cases hr), fun j hj => ?_⟩
    by_cases hji : j = i
    · subst hji
      exact hy.op hi hx fun y hxy => ⟨hxy, wpL_later (n + 1) _ _ _ _ (hx.trans hxy) H⟩
    · obtain ⟨hun, oj, hoj, -⟩ := mem_ready.1 hj
      have q := op_beside hoj (hfree j oj hoj hji hun (ready_free hr hj hoj)) (fun cs b => hsel i oi cs b hi) (fun cs b => hsel j oj cs b hoj) hQ hy ((H x hx).2 j (ready_mono hj hji))
      refine wpOp_mono (fun b y hb => ⟨hb.2.1, ih (l.setIfInBounds j true) b y (fun k ok hk hki hku hno => hfree k ok hk hki ?_ hno) (ready_mono hr (Ne.symm hji)) (hb.1.later (hx.trans hb.2.1)) ?_⟩) q
      · by_cases hjk : j = k
        · subst hjk; exact hun
        · rw [getD_set_ne true hjk] at hku; exact hku
      · rw [Array.setIfInBounds_comm _ _ hji]
        exact hb.2.2
theorem at_drop {L r : List Oper} {i : Nat} {o : Oper} (h : L.drop i = o :: r) : L.toArray[i]? = some o := by
  have q : (L.drop i)[0]? = some o := by rw [h]; rfl
  simpa using q
/-- Take number i: a value. -/
theorem wpL_val {L r : List Oper} {i : Nat} {oi : Oper} {v : Value} {n : Nat} {l : Array Bool} {a : Act} {w : World} (hi : L.drop i = oi :: r) (hs : Region.noSelect L.toArray = true) (hf : Region.free md L.toArray l i = true) (hr : (Region.ready md L.toArray l).contains i = true)
    (hQ : ∀ c a w, Q (.panic c) (a.put oi.dst v) w → Q (.panic c) a w) (hw : Region.wanted oi (yielded L.toArray a.tmps) = true) (hy : ∀ x, Later w x → (execOp a.eval oi).run P x = .ok (.value v) x)
    (h : wpL P md L.toArray Q n (l.setIfInBounds i true) (a.put oi.dst v) w) : wpL P md L.toArray Q (n + 1) l a w :=
  wpL_first (at_drop hi) (Region.noSelect_spec hs) hQ n l a w (Region.free_spec (at_drop hi) hf) (by simpa using hr) (Or.inl ⟨hw, fun x hx => by unfold Oper.quietAt; rw [hy x hx]; exact ⟨rfl, rfl⟩⟩) h
/-- Take number i: a call. -/
theorem wpL_call {L r : List Oper} {i : Nat} {oi : Oper} {v : Value} {f : FuncId} {args : Array Value} {n : Nat} {l : Array Bool} {a : Act} {w : World} (hi : L.drop i = oi :: r) (hs : Region.noSelect L.toArray = true) (hf : Region.free md L.toArray l i = true) (hr : (Region.ready md L.toArray l).contains i = true)
    (hQ : ∀ c a w, Q (.panic c) (a.put oi.dst v) w → Q (.panic c) a w) (hw : Region.wanted oi (yielded L.toArray a.tmps) = true) (hy : ∀ x, Later w x → (execOp a.eval oi).run P x = .ok (.enter f args) x)
    (hc : ∀ x, Later w x → Calls P f args x fun e y => e = .returned v ∧ Below x.heap.size x y)
    (h : wpL P md L.toArray Q n (l.setIfInBounds i true) (a.put oi.dst v) w) : wpL P md L.toArray Q (n + 1) l a w :=
  wpL_first (at_drop hi) (Region.noSelect_spec hs) hQ n l a w (Region.free_spec (at_drop hi) hf) (by simpa using hr) (Or.inl ⟨hw, fun x hx => by unfold Oper.quietAt; rw [hy x hx]; exact ⟨rfl, hc x hx⟩⟩) h
/-- One alone may come up: it is carried out in a later world. -/
theorem wpL_one {L r : List Oper} {i : Nat} {oi : Oper} {n : Nat} {l : Array Bool} {a : Act} {w : World} (hr : Region.ready md L.toArray l = [i]) (hi : L.drop i = oi :: r) (hw : Region.wanted oi (yielded L.toArray a.tmps) = true)
    (h : ∀ x, Later w x → ∃ (v : Value) (y : World), (execOp a.eval oi).run P x = .ok (.value v) y ∧ Later x y ∧ wpL P md L.toArray Q n (l.setIfInBounds i true) (a.put oi.dst v) y) : wpL P md L.toArray Q (n + 1) l a w := by
  intro x hx
  rw [hr]
  refine ⟨fun h => (by cases h), fun j hj => ?_⟩
  rw [List.mem_singleton] at hj
  subst hj
  obtain ⟨v, y, h1, h2, h3⟩ := h x hx
  unfold wpOp
  rw [at_drop hi]
  dsimp only
  rw [if_pos hw]
  refine Or.inl ?_
  unfold Oper.wp
  rw [h1]
  exact ⟨h2, h3⟩
theorem wpL_done {l : Array Bool} {a : Act} {w : World} (hr : Region.ready md ops l = []) (h : ∀ x, Later w x → Q .normal a x) : ∀ n, wpL P md ops Q n l a w
  | 0 => ⟨hr, h⟩
  | _ + 1 => fun x hx => ⟨fun _ => h x hx, by rw [hr]; simp⟩
theorem wp_region_later {id : Nat} {a : Act} {w : World} (hm : P.follows .mixedOrders = true) (h : wpL P .any ops Q ops.size (Array.replicate ops.size false) a w.drew) : (Code.region id ops true).wp P Q a w :=
  wp_region_any hm (wpAny_of_L _ _ _ _ h)
end
section
variable {P : Program} {Q : Exit → Act → World → Prop} {md : Region.Mode}
/-- One alone may come up, and its call panics. -/
theorem wpL_panics {L r : List Oper} {i : Nat} {oi : Oper} {f : FuncId} {args : Array Value} {chain : List PanicEntry} {n : Nat} {l : Array Bool} {a : Act} {w : World} (hr : Region.ready md L.toArray l = [i]) (hi : L.drop i = oi :: r) (hw : Region.wanted oi (yielded L.toArray a.tmps) = true)
    (hy : ∀ x, Later w x → (execOp a.eval oi).run P x = .ok (.enter f args) x) (hc : ∀ x, Later w x → Calls P f args x fun e y => e = .panicked chain ∧ Q (.panic chain) a y) : wpL P md L.toArray Q (n + 1) l a w := by
  intro x hx
  rw [hr]
  refine ⟨fun h => (by cases h), fun j hj => ?_⟩
  rw [List.mem_singleton] at hj
  subst hj
  unfold wpOp
  rw [at_drop hi]
  dsimp only
  rw [if_pos hw]
  refine Or.inl ?_
  unfold Oper.wp
  rw [hy x hx]
  exact (hc x hx).mono (by rintro e y ⟨rfl, hq⟩; exact hq)
end
section
variable {P : Program} {Q : Exit → Act → World → Prop} {md : Region.Mode}
/-- Take number i: it is not wanted. -/
theorem wpL_skip {L r : List Oper} {i : Nat} {oi : Oper} {n : Nat} {l : Array Bool} {a : Act} {w : World} (hi : L.drop i = oi :: r) (hs : Region.noSelect L.toArray = true) (hf : Region.free md L.toArray l i = true) (hr : (Region.ready md L.toArray l).contains i = true)
    (hQ : ∀ c a w, Q (.panic c) (a.put oi.dst undef) w → Q (.panic c) a w) (hw : Region.wanted oi (yielded L.toArray a.tmps) = false)
    (h : wpL P md L.toArray Q n (l.setIfInBounds i true) (a.put oi.dst undef) w) : wpL P md L.toArray Q (n + 1) l a w :=
  wpL_first (at_drop hi) (Region.noSelect_spec hs) hQ n l a w (Region.free_spec (at_drop hi) hf) (by simpa using hr) (Or.inr ⟨hw, rfl⟩) h
end
end Go.Proofs.Ythfmjjaollekiaa
/- EdD: The model's EditText. -/
namespace Go.Proofs.Ythfmjjaollekiaa
open Go.RowKit
attribute [local go_sem ↓] Go.wp_at_zero Go.wp_at_succ

/-- A number in bytes. -/
def vb (n : Nat) : ByteArray := ⟨(W.vt n).toArray⟩
/-- The text of a record. -/
def editT (e : EM) : ByteArray := ⟨#[UInt8.ofNat e.kind.toNat, UInt8.ofNat e.who.toNat]⟩ ++ vb e.path.size ++ e.path ++ vb e.dest.size ++ e.dest ++ vb e.num.toNat
/-- What is known of a right record's numbers. -/
theorem edit_nums {e : EM} (h : editOk e = true) : 1 ≤ e.kind ∧ e.kind ≤ 10 ∧ 0 ≤ e.who ∧ e.who ≤ 9 ∧ 0 ≤ e.num ∧ e.num ≤ 1000 := by
  unfold editOk at h
  rw [Bool.and_eq_true, inI_iff] at h
  obtain ⟨⟨h1, h2⟩, h3⟩ := h
  refine ⟨h1, h2, ?_⟩
  by_cases h10 : e.kind = 10
  · rw [if_pos h10] at h3
    simp only [Bool.and_eq_true, beq_iff_eq] at h3
    omega
  · rw [if_neg h10, Bool.and_eq_true] at h3
    have h4 := h3.2
    unfold numsOk at h4
    split at h4
    · rw [Bool.and_eq_true, inI_iff, beq_iff_eq] at h4; omega
    · split at h4
      · rw [Bool.and_eq_true, inI_iff, beq_iff_eq] at h4; omega
      · split at h4
        · rw [Bool.and_eq_true, inI_iff, beq_iff_eq] at h4; omega
        · split at h4
          · rw [Bool.and_eq_true, inI_iff, beq_iff_eq] at h4; omega
          · rw [Bool.and_eq_true, beq_iff_eq, beq_iff_eq] at h4; omega
theorem cell_ltE {w : World} {p : Addr} {v : Value} (h : w.cell? p = some v) : p.block < w.heap.size := by
  by_cases c : p.block < w.heap.size
  · exact c
  · exfalso
    unfold World.cell? at h
    rw [Array.getElem?_eq_none (by omega)] at h
    simp at h
/-- A record's cells, behind a world. -/
def EC (w0 : World) (b : Nat) (e : EM) (w : World) : Prop := w.cell? ⟨b, 0, none⟩ = some (.int .i64 e.kind) ∧ w.cell? ⟨b, 1, none⟩ = some (.string e.path) ∧ w.cell? ⟨b, 2, none⟩ = some (.string e.dest) ∧ w.cell? ⟨b, 3, none⟩ = some (.int .i64 e.num) ∧ w.cell? ⟨b, 4, none⟩ = some (.int .i64 e.who) ∧ Shut (Below w0.heap.size w0 w)
theorem EC.below {w0 : World} {b : Nat} {e : EM} {w w' : World} (h : EC w0 b e w) (hb : Below w.heap.size w w') : EC w0 b e w' :=
  ⟨(hb.cell (p := ⟨b, 0, none⟩) (cell_ltE h.1)).trans h.1, (hb.cell (p := ⟨b, 1, none⟩) (cell_ltE h.2.1)).trans h.2.1, (hb.cell (p := ⟨b, 2, none⟩) (cell_ltE h.2.2.1)).trans h.2.2.1, (hb.cell (p := ⟨b, 3, none⟩) (cell_ltE h.2.2.2.1)).trans h.2.2.2.1, (hb.cell (p := ⟨b, 4, none⟩) (cell_ltE h.2.2.2.2.1)).trans h.2.2.2.2.1, ⟨h.2.2.2.2.2.out.trans (hb.mono h.2.2.2.2.2.out.size)⟩⟩
theorem EC.alloc {w0 : World} {b : Nat} {e : EM} {w : World} (h : EC w0 b e w) (o : Obj) : EC w0 b e (w.alloc o) := h.below ((Below.refl _ _).alloc (Nat.le_refl _) o)
theorem EC.drew {w0 : World} {b : Nat} {e : EM} {w : World} (h : EC w0 b e w) : EC w0 b e w.drew := h.below (Below.drew (Below.refl _ _))
theorem two_cells (w : World) (b : Nat) (c1 c2 : UInt8) (h0 : w.cell? ⟨b, 0, none⟩ = some (.int .u8 (c1.toNat : Int))) (h1 : w.cell? ⟨b, 1, none⟩ = some (.int .u8 (c2.toNat : Int))) : (convert 22 9 (.slice (some ⟨b, 0, none⟩) 2 2)).run Try.prog w = .ok (.string ⟨#[c1, c2]⟩) w := by
  refine run_convert_bytes_back _ 22 9 5 ⟨b, 0, none⟩ 2 [c1, c2] Try.underlying22 Try.underlying5 Try.underlying9 (fun j hj => ?_)
  have e : (⟨b, 0, none⟩ : Addr).add j = ⟨b, j, none⟩ := by cases j <;> simp [Addr.add]
  rw [e]
  match j, hj with
  | 0, _ => exact h0
  | 1, _ => exact h1
theorem two_later (x y : World) (c1 c2 : UInt8) (hy : Later (x.alloc (.cells #[.int .u8 (c1.toNat : Int), .int .u8 (c2.toNat : Int)] 5)) y) : (convert 22 9 (.slice (some ⟨x.heap.size, 0, none⟩) 2 2)).run Try.prog y = .ok (.string ⟨#[c1, c2]⟩) y :=
  two_cells _ _ c1 c2 ((Below.cell hy (p := ⟨x.heap.size, 0, none⟩) (by simp)).trans (by rw [World.cell?_alloc_mark]; rfl)) ((Below.cell hy (p := ⟨x.heap.size, 1, none⟩) (by simp)).trans (by rw [World.cell?_alloc_mark]; rfl))
theorem u8_byte (x : Int) (h0 : 0 ≤ x) (h1 : x < 256) : IntKind.u8.wrap x = ((UInt8.ofNat x.toNat).toNat : Int) := by
  rw [IntKind.wrap_u8]
  simp
  omega
end Go.Proofs.Ythfmjjaollekiaa
/- DrEdA: Draws of records: what is kept while one is made. -/
namespace Go.Proofs.Ythfmjjaollekiaa
open Go.RowKit
attribute [local go_sem ↓] Go.wp_at_zero Go.wp_at_succ

theorem Cur.other {w : World} {g B len cap : Nat} {a : Option Addr} (h : Cur w g B a len cap) (p : Addr) (v : Value) (hp : p.block ≠ g) (hB : B ≤ p.block) : Cur (w.setCell p v) g B a len cap := by
  obtain ⟨h1, h2, h3, h4, ⟨i, h5, h5'⟩, ⟨k, h6⟩, h7⟩ := h
  have hblk : ∀ q, q ≠ p.block → (w.setCell p v).heap[q]? = w.heap[q]? := fun q hq => Below.heap_setCell _ _ _ _ hq
  have hb : Below 0 w (w.setCell p v) := (Below.refl _ _).setCell (Nat.zero_le _) v
  refine ⟨h1, Nat.lt_of_lt_of_le h2 hb.size, ⟨h3.1, fun hp' => ?_⟩, (World.cell?_of_block (a := ⟨g, 0, none⟩) (hblk g (Ne.symm hp))).trans h4, ⟨i, (World.cell?_of_block (a := ⟨g, 1, none⟩) (hblk g (Ne.symm hp))).trans h5, h5'⟩, ⟨k, (World.cell?_of_block (a := ⟨g, 2, none⟩) (hblk g (Ne.symm hp))).trans h6⟩, fun j hj => (World.frozen?_of_block (a := ⟨g, j, none⟩) (hblk g (Ne.symm hp))).trans (h7 j hj)⟩
  obtain ⟨b, off, e, hbB, hx⟩ := h3.2 hp'
  exact ⟨b, off, e, hbB, fun j hj => (hx j hj).imp fun x hx => ⟨(World.cell?_of_block (a := ⟨b, off + j, none⟩) (hblk b (by omega))).trans hx.1, hx.2⟩⟩
/-- Numbers that were laid into a new row. -/
theorem new_ints (w : World) (t : TypeId) (L : List Int) (j : Nat) (hj : j < L.length) :
    ∃ y : Int, (w.alloc (.cells (L.map (Value.int .i64 ·)).toArray t)).cell? ⟨w.heap.size, j, none⟩ = some (.int .i64 y) := by
  rw [World.cell?_alloc_mark]
  exact ⟨L[j], by simp [hj]⟩
/-- A record that was drawn: its texts are short, and no z is in them. -/
def EPl (e : EM) : Prop := (e.path.size ≤ 16 ∧ noZ e.path = true) ∧ (e.dest.size ≤ 16 ∧ noZ e.dest = true)
theorem EPl.fit {e : EM} (h : EPl e) : EFit e := ⟨Nat.le_trans h.1.1 (by omega), Nat.le_trans h.2.1 (by omega)⟩
/-- A record in the making: the cursor, the answer's box, the record's box. -/
structure DE (w0 w : World) (g B : Nat) (a : Option Addr) (len cap A E : Nat) (X : EM) : Prop where
  cur : Cur w g B a len cap
  ans : WCells w A (ecells zeroE)
  box : WCells w E (ecells X)
  gr : w0.grownBy w (some g)
  ne : A ≠ E
  hA : w0.heap.size ≤ A
  hE : w0.heap.size ≤ E
  hg : g < w0.heap.size
  pl : EPl X
theorem DE.turn {w0 w w' : World} {g B len cap A E : Nat} {a : Option Addr} {X : EM} (h : DE w0 w g B a len cap A E X) (hc : Cur w' g B a len cap) (hg : w.grownBy w' (some g)) : DE w0 w' g B a len cap A E X :=
  ⟨hc, h.ans.apart hg (by have := h.hA; have := h.hg; omega), h.box.apart hg (by have := h.hE; have := h.hg; omega), gb_two h.gr hg, h.ne, h.hA, h.hE, h.hg, h.pl⟩
theorem gb_fresh {w0 w : World} {g : Nat} (h : w0.grownBy w (some g)) (p : Addr) (v : Value) (hp : w0.heap.size ≤ p.block) : w0.grownBy (w.setCell p v) (some g) := by
  have hb : Below 0 w (w.setCell p v) := (Below.refl _ _).setCell (Nat.zero_le _) v
  exact ⟨hb.os.trans h.os, hb.tape.trans h.tape, hb.output.trans h.output, Nat.le_trans h.size hb.size, fun k hk hn => (Below.heap_setCell _ _ _ _ (by omega)).trans (h.block k hk hn)⟩
theorem DE.set {w0 w : World} {g B len cap A E : Nat} {a : Option Addr} {X : EM} (h : DE w0 w g B a len cap A E X) (i : Nat) (v : Value) (Y : EM) (hi : i < 5) (hz : (ecells X).set i v = ecells Y) (hp : EPl Y) : DE w0 (w.setCell ⟨E, i, none⟩ v) g B a len cap A E Y :=
  ⟨h.cur.other _ _ (by have := h.hE; have := h.hg; show E ≠ g; omega) (by have := h.hE; have := h.hg; have := h.cur.1; show B ≤ E; omega), h.ans.other _ _ h.ne, by rw [← hz]; exact h.box.set i v (by rw [ecells_len]; exact hi), gb_fresh h.gr _ _ h.hE, h.ne, h.hA, h.hE, h.hg, hp⟩
theorem DE.got {w0 w : World} {g B len cap A E : Nat} {a : Option Addr} {X : EM} (h : DE w0 w g B a len cap A E X) : w.cell? ⟨E, 0, none⟩ = some (.int .i64 X.kind) ∧ w.cell? ⟨E, 1, none⟩ = some (.string X.path) ∧ w.cell? ⟨E, 2, none⟩ = some (.string X.dest) ∧ w.cell? ⟨E, 3, none⟩ = some (.int .i64 X.num) ∧ w.cell? ⟨E, 4, none⟩ = some (.int .i64 X.who) :=
  ⟨(h.box.2 0 _ rfl).1, (h.box.2 1 _ rfl).1, (h.box.2 2 _ rfl).1, (h.box.2 3 _ rfl).1, (h.box.2 4 _ rfl).1⟩
theorem DE.may {w0 w : World} {g B len cap A E : Nat} {a : Option Addr} {X : EM} (h : DE w0 w g B a len cap A E X) : w.frozen? ⟨E, 0, none⟩ = false ∧ w.frozen? ⟨E, 1, none⟩ = false ∧ w.frozen? ⟨E, 2, none⟩ = false ∧ w.frozen? ⟨E, 3, none⟩ = false ∧ w.frozen? ⟨E, 4, none⟩ = false :=
  ⟨(h.box.2 0 _ rfl).2, (h.box.2 1 _ rfl).2, (h.box.2 2 _ rfl).2, (h.box.2 3 _ rfl).2, (h.box.2 4 _ rfl).2⟩
theorem DE.room {w0 w : World} {g B len cap A E : Nat} {a : Option Addr} {X : EM} (h : DE w0 w g B a len cap A E X) : (w.cell? ⟨A, 0, none⟩ = some (.int .i64 0) ∧ w.frozen? ⟨A, 0, none⟩ = false) ∧ (w.cell? ⟨A, 1, none⟩ = some (.string ⟨#[]⟩) ∧ w.frozen? ⟨A, 1, none⟩ = false) ∧ (w.cell? ⟨A, 2, none⟩ = some (.string ⟨#[]⟩) ∧ w.frozen? ⟨A, 2, none⟩ = false) ∧ (w.cell? ⟨A, 3, none⟩ = some (.int .i64 0) ∧ w.frozen? ⟨A, 3, none⟩ = false) ∧ (w.cell? ⟨A, 4, none⟩ = some (.int .i64 0) ∧ w.frozen? ⟨A, 4, none⟩ = false) :=
  ⟨h.ans.2 0 _ rfl, h.ans.2 1 _ rfl, h.ans.2 2 _ rfl, h.ans.2 3 _ rfl, h.ans.2 4 _ rfl⟩
/-- What a draw of a record answers. -/
def EdDrawn (w : World) (g B : Nat) (a : Option Addr) (len cap : Nat) (e : Ending) (w' : World) : Prop :=
  ∃ X : EM, e = .returned (ev X) ∧ EPl X ∧ Cur w' g B a len cap ∧ w.grownBy w' (some g)
theorem DE.done {w0 w : World} {g B len cap A E : Nat} {a : Option Addr} {X : EM} (h : DE w0 w g B a len cap A E X) : EPl X ∧ WCells (put5 w A X) A (ecells X) ∧ Cur (put5 w A X) g B a len cap ∧ w0.grownBy (put5 w A X) (some g) := by
  have hAg : A ≠ g := by have := h.hA; have := h.hg; omega
  have hBA : B ≤ A := by have := h.hA; have := h.hg; have := h.cur.1; omega
  refine ⟨h.pl, ?_, ?_, ?_⟩
  · exact ((((h.ans.set 0 (.int .i64 X.kind) (by simp [ecells])).set 1 (.string X.path) (by simp [ecells])).set 2 (.string X.dest) (by simp [ecells])).set 3 (.int .i64 X.num) (by simp [ecells])).set 4 (.int .i64 X.who) (by simp [ecells])
  · exact ((((h.cur.other ⟨A, 0, none⟩ _ hAg hBA).other ⟨A, 1, none⟩ _ hAg hBA).other ⟨A, 2, none⟩ _ hAg hBA).other ⟨A, 3, none⟩ _ hAg hBA).other ⟨A, 4, none⟩ _ hAg hBA
  · exact gb_fresh (gb_fresh (gb_fresh (gb_fresh (gb_fresh h.gr ⟨A, 0, none⟩ _ h.hA) ⟨A, 1, none⟩ _ h.hA) ⟨A, 2, none⟩ _ h.hA) ⟨A, 3, none⟩ _ h.hA) ⟨A, 4, none⟩ _ h.hA
end Go.Proofs.Ythfmjjaollekiaa
/- DrEdB: The model's draws of a record. -/
namespace Go.Proofs.Ythfmjjaollekiaa
open Go.RowKit
attribute [local go_sem ↓] Go.wp_at_zero Go.wp_at_succ

theorem epl_ {k n o : Int} {p t : ByteArray} (h1 : p.size ≤ 16 ∧ noZ p = true) (h2 : t.size ≤ 16 ∧ noZ t = true) : EPl ⟨k, p, t, n, o⟩ := ⟨h1, h2⟩
theorem pl_none : (⟨#[]⟩ : ByteArray).size ≤ 16 ∧ noZ ⟨#[]⟩ = true := ⟨by decide, rfl⟩
theorem pl_root : (⟨#[47]⟩ : ByteArray).size ≤ 16 ∧ noZ ⟨#[47]⟩ = true := ⟨by decide, rfl⟩
theorem de_new {w0 w : World} {g B len cap A : Nat} {a : Option Addr} (X : EM) (T : TypeId) (hc : Cur w g B a len cap) (hA : WCells w A (ecells zeroE)) (hg : w0.grownBy w (some g)) (h1 : w0.heap.size ≤ A) (h2 : g < w0.heap.size) (hp : EPl X) :
    DE w0 (w.alloc (.cells #[.int .i64 X.kind, .string X.path, .string X.dest, .int .i64 X.num, .int .i64 X.who] T)) g B a len cap A w.heap.size X :=
  ⟨hc.below ((Below.refl _ _).alloc (Nat.le_refl _) _), hA.alloc _, wcells_new w #[.int .i64 X.kind, .string X.path, .string X.dest, .int .i64 X.num, .int .i64 X.who] T, gb_two hg (gb_below ((Below.refl _ _).alloc (Nat.le_refl _) _)), by have := hA.1; omega, h1, hg.size, h2, hp⟩
set_option maxRecDepth 100000 in
set_option maxHeartbeats 4000000 in
theorem l11Edit_any (w : World) (g B : Nat) (a : Option Addr) (len cap : Nat) (hc : Cur w g B a len cap) :
    Calls Try.prog 59 #[.pointer (some ⟨g, 0, none⟩)] w fun e w' => EdDrawn w g B a len cap e w' := by
  have HC := Shut.mk hc
  have hgw := Shut.mk hc.2.1
  have HA0 : Shut (WCells (w.alloc (.cells #[.int .i64 0, .string ⟨#[]⟩, .string ⟨#[]⟩, .int .i64 0, .int .i64 0] 94)) w.heap.size (ecells zeroE)) := ⟨wcells_new w #[.int .i64 0, .string ⟨#[]⟩, .string ⟨#[]⟩, .int .i64 0, .int .i64 0] 94⟩
  clear hc
  go_enter Try.func59, Try.ntmps59
  go_upto_region 1 with fail
  obtain ⟨w0, hw0⟩ : ∃ w0, w0 = w.alloc (.cells #[.int .i64 0, .string ⟨#[]⟩, .string ⟨#[]⟩, .int .i64 0, .int .i64 0] 94) := ⟨_, rfl⟩
  have HB0 : Shut (Below w.heap.size w w0) := ⟨by rw [hw0]; exact (Below.refl _ _).alloc (Nat.le_refl _) _⟩
  rw [← hw0] at HA0 ⊢
  clear hw0
  have HC0 := Shut.mk (HC.out.below HB0.out)
  have hlit : (#[.int .i64 1, .int .i64 1, .int .i64 1, .int .i64 2, .int .i64 2, .int .i64 2, .int .i64 3, .int .i64 4, .int .i64 5, .int .i64 6, .int .i64 7, .int .i64 7, .int .i64 7, .int .i64 8, .int .i64 9, .int .i64 10] : Array Value) = (List.map (Value.int .i64 ·) [1, 1, 1, 2, 2, 2, 3, 4, 5, 6, 7, 7, 7, 8, 9, 10]).toArray := rfl
  have HL := Shut.mk (new_ints w0 3 [1, 1, 1, 2, 2, 2, 3, 4, 5, 6, 7, 7, 7, 8, 9, 10])
  rw [← hlit] at HL
  clear hlit
  go_upto_region 2 with (first
    | (go_at_call 90; refine (l01PickInt_any _ g B a len cap w0.heap.size 16 (by decide) (by decide) (by have := HC0.out.2.1; omega) HL.out (HC0.out.below ((Below.refl _ _).alloc (Nat.le_refl _) _))).mono ?_; rintro e w1 ⟨kind, rfl, hc1, hg1⟩; have HC1 := Shut.mk hc1; have HG1 := Shut.mk (gb_two (gb_below (HB0.out.alloc HB0.out.size _)) hg1); have HA1 := Shut.mk ((HA0.out.alloc _).apart hg1 (by have := hgw.out; omega)); clear hc1 hg1)
    | (go_at_call 91; refine (l09Path_any _ g B a len cap HC1.out).mono ?_; rintro e w2 ⟨path, rfl, hp, hc2, hg2⟩; have HP := Shut.mk hp; have HC2 := Shut.mk hc2; have HG2 := Shut.mk (gb_two HG1.out hg2); have HA2 := Shut.mk (HA1.out.apart hg2 (by have := hgw.out; omega)); clear hp hc2 hg2))
  have H9 := Shut.mk (de_new ⟨kind, path, ⟨#[]⟩, 0, 0⟩ 94 HC2.out HA2.out HG2.out (Nat.le_refl _) hgw.out (epl_ HP.out pl_none))
  dsimp only at H9
  generalize w2.alloc (.cells #[.int .i64 kind, .string path, .string ⟨#[]⟩, .int .i64 0, .int .i64 0] 94) = W at H9 ⊢
  generalize w2.heap.size = E at H9 ⊢
  have hne1 : ¬ (w.heap.size = E) := H9.out.ne
  have hne2 : ¬ (E = w.heap.size) := fun h => H9.out.ne h.symm
  clear HC2 HA2 HG2 HC1 HA1 HG1 HC0 HA0 HB0 HL HC hgw
  obtain ⟨c0, c1, c2, c3, c4⟩ := H9.out.got
  obtain ⟨f0, f1, f2, f3, f4⟩ := H9.out.may
  dsimp only at c0 c1 c2 c3 c4
  by_cases q2 : kind = 2
  · have bt2 : (kind == 2) = true := by simp; omega
    have b5 : (kind == 5) = false := by simp; omega
    have b6 : (kind == 6) = false := by simp; omega
    clear q2
    go_upto_region 16 with (go_at_call 27; refine (l01Below_any W g B a len cap 3 (by omega) H9.out.cur).mono ?_; rintro e w4 ⟨x, rfl, x0, x1, hc4, hg4⟩; have x2 : x ≤ 3 := (by omega); replace H9 := Shut.mk (H9.out.turn hc4 hg4); clear hc4 hg4 c0 c1 c2 c3 c4 f0 f1 f2 f3 f4; obtain ⟨c0, c1, c2, c3, c4⟩ := H9.out.got; obtain ⟨f0, f1, f2, f3, f4⟩ := H9.out.may; dsimp only at c0 c1 c2 c3 c4)
    obtain ⟨W4, hW4⟩ : ∃ W4, W4 = World.setCell w4 ⟨E, 4, none⟩ (.int .i64 (1 + x)) := ⟨_, rfl⟩
    rw [← hW4]
    replace H9 : Shut (DE w W4 g B a len cap w.heap.size E ⟨kind, path, ⟨#[]⟩, 0, 1 + x⟩) := ⟨by rw [hW4]; exact H9.out.set 4 _ _ (by omega) rfl (epl_ HP.out pl_none)⟩
    clear hW4 c0 c1 c2 c3 c4 f0 f1 f2 f3 f4
    obtain ⟨c0, c1, c2, c3, c4⟩ := H9.out.got
    obtain ⟨f0, f1, f2, f3, f4⟩ := H9.out.may
    obtain ⟨⟨r0, s0⟩, ⟨r1, s1⟩, ⟨r2, s2⟩, ⟨r3, s3⟩, ⟨r4, s4⟩⟩ := H9.out.room
    dsimp only at c0 c1 c2 c3 c4
    go_wp2_with fail
    have HD := Shut.mk (H9.out.done)
    change bodyPost _ _ _ _ _ (put5 W4 w.heap.size ⟨kind, path, ⟨#[]⟩, 0, 1 + x⟩)
    generalize put5 W4 w.heap.size ⟨kind, path, ⟨#[]⟩, 0, 1 + x⟩ = w8 at HD ⊢
    obtain ⟨k0, -⟩ := HD.out.2.1.2 0 _ rfl
    obtain ⟨k1, -⟩ := HD.out.2.1.2 1 _ rfl
    obtain ⟨k2, -⟩ := HD.out.2.1.2 2 _ rfl
    obtain ⟨k3, -⟩ := HD.out.2.1.2 3 _ rfl
    obtain ⟨k4, -⟩ := HD.out.2.1.2 4 _ rfl
    dsimp only at k0 k1 k2 k3 k4
    refine bodyPost_ret (v := ev ⟨kind, path, ⟨#[]⟩, 0, 1 + x⟩) (by simp [results, Try.results59, go_sem, k0, k1, k2, k3, k4]) rfl ⟨_, rfl, HD.out.1, HD.out.2.2.1, HD.out.2.2.2⟩
  have b2 : (kind == 2) = false := by simp; omega
  by_cases q9 : kind = 9
  · have bt9 : (kind == 9) = true := by simp; omega
    have b5 : (kind == 5) = false := by simp; omega
    have b6 : (kind == 6) = false := by simp; omega
    clear q9
    go_upto_region 16 with (go_at_call 27; refine (l01Below_any W g B a len cap 3 (by omega) H9.out.cur).mono ?_; rintro e w4 ⟨x, rfl, x0, x1, hc4, hg4⟩; have x2 : x ≤ 3 := (by omega); replace H9 := Shut.mk (H9.out.turn hc4 hg4); clear hc4 hg4 c0 c1 c2 c3 c4 f0 f1 f2 f3 f4; obtain ⟨c0, c1, c2, c3, c4⟩ := H9.out.got; obtain ⟨f0, f1, f2, f3, f4⟩ := H9.out.may; dsimp only at c0 c1 c2 c3 c4)
    obtain ⟨W4, hW4⟩ : ∃ W4, W4 = World.setCell w4 ⟨E, 4, none⟩ (.int .i64 (1 + x)) := ⟨_, rfl⟩
    rw [← hW4]
    replace H9 : Shut (DE w W4 g B a len cap w.heap.size E ⟨kind, path, ⟨#[]⟩, 0, 1 + x⟩) := ⟨by rw [hW4]; exact H9.out.set 4 _ _ (by omega) rfl (epl_ HP.out pl_none)⟩
    clear hW4 c0 c1 c2 c3 c4 f0 f1 f2 f3 f4
    obtain ⟨c0, c1, c2, c3, c4⟩ := H9.out.got
    obtain ⟨f0, f1, f2, f3, f4⟩ := H9.out.may
    obtain ⟨⟨r0, s0⟩, ⟨r1, s1⟩, ⟨r2, s2⟩, ⟨r3, s3⟩, ⟨r4, s4⟩⟩ := H9.out.room
    dsimp only at c0 c1 c2 c3 c4
    go_wp2_with fail
    have HD := Shut.mk (H9.out.done)
    change bodyPost _ _ _ _ _ (put5 W4 w.heap.size ⟨kind, path, ⟨#[]⟩, 0, 1 + x⟩)
    generalize put5 W4 w.heap.size ⟨kind, path, ⟨#[]⟩, 0, 1 + x⟩ = w8 at HD ⊢
    obtain ⟨k0, -⟩ := HD.out.2.1.2 0 _ rfl
    obtain ⟨k1, -⟩ := HD.out.2.1.2 1 _ rfl
    obtain ⟨k2, -⟩ := HD.out.2.1.2 2 _ rfl
    obtain ⟨k3, -⟩ := HD.out.2.1.2 3 _ rfl
    obtain ⟨k4, -⟩ := HD.out.2.1.2 4 _ rfl
    dsimp only at k0 k1 k2 k3 k4
    refine bodyPost_ret (v := ev ⟨kind, path, ⟨#[]⟩, 0, 1 + x⟩) (by simp [results, Try.results59, go_sem, k0, k1, k2, k3, k4]) rfl ⟨_, rfl, HD.out.1, HD.out.2.2.1, HD.out.2.2.2⟩
  have b9 : (kind == 9) = false := by simp; omega
  by_cases q3 : kind = 3
  · have bt3 : (kind == 3) = true := by simp; omega
    have b5 : (kind == 5) = false := by simp; omega
    have b6 : (kind == 6) = false := by simp; omega
    clear q3
    go_upto_region 16 with (go_at_call 91; refine (l09Path_any W g B a len cap H9.out.cur).mono ?_; rintro e w4 ⟨t, rfl, ht, hc4, hg4⟩; have HT := Shut.mk ht; replace H9 := Shut.mk (H9.out.turn hc4 hg4); clear ht hc4 hg4 c0 c1 c2 c3 c4 f0 f1 f2 f3 f4; obtain ⟨c0, c1, c2, c3, c4⟩ := H9.out.got; obtain ⟨f0, f1, f2, f3, f4⟩ := H9.out.may; dsimp only at c0 c1 c2 c3 c4)
    obtain ⟨W4, hW4⟩ : ∃ W4, W4 = World.setCell w4 ⟨E, 2, none⟩ (.string t) := ⟨_, rfl⟩
    rw [← hW4]
    replace H9 : Shut (DE w W4 g B a len cap w.heap.size E ⟨kind, path, t, 0, 0⟩) := ⟨by rw [hW4]; exact H9.out.set 2 _ _ (by omega) rfl (epl_ HP.out HT.out)⟩
    clear hW4 c0 c1 c2 c3 c4 f0 f1 f2 f3 f4
    obtain ⟨c0, c1, c2, c3, c4⟩ := H9.out.got
    obtain ⟨f0, f1, f2, f3, f4⟩ := H9.out.may
    obtain ⟨⟨r0, s0⟩, ⟨r1, s1⟩, ⟨r2, s2⟩, ⟨r3, s3⟩, ⟨r4, s4⟩⟩ := H9.out.room
    dsimp only at c0 c1 c2 c3 c4
    go_wp2_with fail
    have HD := Shut.mk (H9.out.done)
    change bodyPost _ _ _ _ _ (put5 W4 w.heap.size ⟨kind, path, t, 0, 0⟩)
    generalize put5 W4 w.heap.size ⟨kind, path, t, 0, 0⟩ = w8 at HD ⊢
    obtain ⟨k0, -⟩ := HD.out.2.1.2 0 _ rfl
    obtain ⟨k1, -⟩ := HD.out.2.1.2 1 _ rfl
    obtain ⟨k2, -⟩ := HD.out.2.1.2 2 _ rfl
    obtain ⟨k3, -⟩ := HD.out.2.1.2 3 _ rfl
    obtain ⟨k4, -⟩ := HD.out.2.1.2 4 _ rfl
    dsimp only at k0 k1 k2 k3 k4
    refine bodyPost_ret (v := ev ⟨kind, path, t, 0, 0⟩) (by simp [results, Try.results59, go_sem, k0, k1, k2, k3, k4]) rfl ⟨_, rfl, HD.out.1, HD.out.2.2.1, HD.out.2.2.2⟩
  have b3 : (kind == 3) = false := by simp; omega
  by_cases q5 : kind = 5
  · have bt5 : (kind == 5) = true := by simp; omega
    have b6 : (kind == 6) = false := by simp; omega
    clear q5
    go_upto_region 16 with (go_at_call 27; refine (l01Below_any W g B a len cap 3 (by omega) H9.out.cur).mono ?_; rintro e w4 ⟨x, rfl, x0, x1, hc4, hg4⟩; have x2 : x ≤ 3 := (by omega); replace H9 := Shut.mk (H9.out.turn hc4 hg4); clear hc4 hg4 c0 c1 c2 c3 c4 f0 f1 f2 f3 f4; obtain ⟨c0, c1, c2, c3, c4⟩ := H9.out.got; obtain ⟨f0, f1, f2, f3, f4⟩ := H9.out.may; dsimp only at c0 c1 c2 c3 c4)
    obtain ⟨W4, hW4⟩ : ∃ W4, W4 = World.setCell w4 ⟨E, 3, none⟩ (.int .i64 (1 + x)) := ⟨_, rfl⟩
    rw [← hW4]
    replace H9 : Shut (DE w W4 g B a len cap w.heap.size E ⟨kind, path, ⟨#[]⟩, 1 + x, 0⟩) := ⟨by rw [hW4]; exact H9.out.set 3 _ _ (by omega) rfl (epl_ HP.out pl_none)⟩
    clear hW4 c0 c1 c2 c3 c4 f0 f1 f2 f3 f4
    obtain ⟨c0, c1, c2, c3, c4⟩ := H9.out.got
    obtain ⟨f0, f1, f2, f3, f4⟩ := H9.out.may
    obtain ⟨⟨r0, s0⟩, ⟨r1, s1⟩, ⟨r2, s2⟩, ⟨r3, s3⟩, ⟨r4, s4⟩⟩ := H9.out.room
    dsimp only at c0 c1 c2 c3 c4
    have HO := Shut.mk (l01Once_any W4 g B a len cap 3 (by omega) H9.out.cur)
    go_wp2_with (go_at_call 60; refine HO.out.mono ?_; rintro e w6 ⟨bb, rfl, hc6, hg6⟩; replace H9 := Shut.mk (H9.out.turn hc6 hg6); clear c0 c1 c2 c3 c4 f0 f1 f2 f3 f4 r0 r1 r2 r3 r4 s0 s1 s2 s3 s4 hc6 hg6; obtain ⟨c0, c1, c2, c3, c4⟩ := H9.out.got; obtain ⟨f0, f1, f2, f3, f4⟩ := H9.out.may; obtain ⟨⟨r0, s0⟩, ⟨r1, s1⟩, ⟨r2, s2⟩, ⟨r3, s3⟩, ⟨r4, s4⟩⟩ := H9.out.room; dsimp only at c0 c1 c2 c3 c4; cases bb)
    · have HD := Shut.mk (H9.out.done)
      change bodyPost _ _ _ _ _ (put5 w6 w.heap.size ⟨kind, path, ⟨#[]⟩, 1 + x, 0⟩)
      generalize put5 w6 w.heap.size ⟨kind, path, ⟨#[]⟩, 1 + x, 0⟩ = w8 at HD ⊢
      obtain ⟨k0, -⟩ := HD.out.2.1.2 0 _ rfl
      obtain ⟨k1, -⟩ := HD.out.2.1.2 1 _ rfl
      obtain ⟨k2, -⟩ := HD.out.2.1.2 2 _ rfl
      obtain ⟨k3, -⟩ := HD.out.2.1.2 3 _ rfl
      obtain ⟨k4, -⟩ := HD.out.2.1.2 4 _ rfl
      dsimp only at k0 k1 k2 k3 k4
      refine bodyPost_ret (v := ev ⟨kind, path, ⟨#[]⟩, 1 + x, 0⟩) (by simp [results, Try.results59, go_sem, k0, k1, k2, k3, k4]) rfl ⟨_, rfl, HD.out.1, HD.out.2.2.1, HD.out.2.2.2⟩
    · replace H9 := Shut.mk (H9.out.set 1 (.string ⟨#[47]⟩) ⟨kind, ⟨#[47]⟩, ⟨#[]⟩, 1 + x, 0⟩ (by omega) rfl (epl_ pl_root pl_none))
      have HD := Shut.mk (H9.out.done)
      change bodyPost _ _ _ _ _ (put5 (w6.setCell ⟨E, 1, none⟩ (.string ⟨#[47]⟩)) w.heap.size ⟨kind, ⟨#[47]⟩, ⟨#[]⟩, 1 + x, 0⟩)
      generalize put5 (w6.setCell ⟨E, 1, none⟩ (.string ⟨#[47]⟩)) w.heap.size ⟨kind, ⟨#[47]⟩, ⟨#[]⟩, 1 + x, 0⟩ = w8 at HD ⊢
      obtain ⟨k0, -⟩ := HD.out.2.1.2 0 _ rfl
      obtain ⟨k1, -⟩ := HD.out.2.1.2 1 _ rfl
      obtain ⟨k2, -⟩ := HD.out.2.1.2 2 _ rfl
      obtain ⟨k3, -⟩ := HD.out.2.1.2 3 _ rfl
      obtain ⟨k4, -⟩ := HD.out.2.1.2 4 _ rfl
      dsimp only at k0 k1 k2 k3 k4
      refine bodyPost_ret (v := ev ⟨kind, ⟨#[47]⟩, ⟨#[]⟩, 1 + x, 0⟩) (by simp [results, Try.results59, go_sem, k0, k1, k2, k3, k4]) rfl ⟨_, rfl, HD.out.1, HD.out.2.2.1, HD.out.2.2.2⟩
  have b5 : (kind == 5) = false := by simp; omega
  by_cases q6 : kind = 6
  · have bt6 : (kind == 6) = true := by simp; omega
    have hlit : (#[.int .i64 0, .int .i64 20, .int .i64 60, .int .i64 1000] : Array Value) = (List.map (Value.int .i64 ·) [0, 20, 60, 1000]).toArray := rfl
    have HL := Shut.mk (new_ints W 3 [0, 20, 60, 1000])
    rw [← hlit] at HL
    clear hlit
    clear q6
    go_upto_region 16 with (go_at_call 90; refine (l01PickInt_any _ g B a len cap W.heap.size 4 (by decide) (by decide) (by have := H9.out.cur.2.1; omega) HL.out (H9.out.cur.below ((Below.refl _ _).alloc (Nat.le_refl _) _))).mono ?_; rintro e w4 ⟨x, rfl, hc4, hg4⟩; replace H9 := Shut.mk (H9.out.turn hc4 (gb_two (gb_below ((Below.refl _ _).alloc (Nat.le_refl _) _)) hg4)); clear hc4 hg4 c0 c1 c2 c3 c4 f0 f1 f2 f3 f4; obtain ⟨c0, c1, c2, c3, c4⟩ := H9.out.got; obtain ⟨f0, f1, f2, f3, f4⟩ := H9.out.may; dsimp only at c0 c1 c2 c3 c4)
    obtain ⟨W4, hW4⟩ : ∃ W4, W4 = World.setCell w4 ⟨E, 3, none⟩ (.int .i64 x) := ⟨_, rfl⟩
    rw [← hW4]
    replace H9 : Shut (DE w W4 g B a len cap w.heap.size E ⟨kind, path, ⟨#[]⟩, x, 0⟩) := ⟨by rw [hW4]; exact H9.out.set 3 _ _ (by omega) rfl (epl_ HP.out pl_none)⟩
    clear hW4 c0 c1 c2 c3 c4 f0 f1 f2 f3 f4
    obtain ⟨c0, c1, c2, c3, c4⟩ := H9.out.got
    obtain ⟨f0, f1, f2, f3, f4⟩ := H9.out.may
    obtain ⟨⟨r0, s0⟩, ⟨r1, s1⟩, ⟨r2, s2⟩, ⟨r3, s3⟩, ⟨r4, s4⟩⟩ := H9.out.room
    dsimp only at c0 c1 c2 c3 c4
    have HO := Shut.mk (l01Once_any W4 g B a len cap 3 (by omega) H9.out.cur)
    go_wp2_with (go_at_call 60; refine HO.out.mono ?_; rintro e w6 ⟨bb, rfl, hc6, hg6⟩; replace H9 := Shut.mk (H9.out.turn hc6 hg6); clear c0 c1 c2 c3 c4 f0 f1 f2 f3 f4 r0 r1 r2 r3 r4 s0 s1 s2 s3 s4 hc6 hg6; obtain ⟨c0, c1, c2, c3, c4⟩ := H9.out.got; obtain ⟨f0, f1, f2, f3, f4⟩ := H9.out.may; obtain ⟨⟨r0, s0⟩, ⟨r1, s1⟩, ⟨r2, s2⟩, ⟨r3, s3⟩, ⟨r4, s4⟩⟩ := H9.out.room; dsimp only at c0 c1 c2 c3 c4; cases bb)
    · have HD := Shut.mk (H9.out.done)
      change bodyPost _ _ _ _ _ (put5 w6 w.heap.size ⟨kind, path, ⟨#[]⟩, x, 0⟩)
      generalize put5 w6 w.heap.size ⟨kind, path, ⟨#[]⟩, x, 0⟩ = w8 at HD ⊢
      obtain ⟨k0, -⟩ := HD.out.2.1.2 0 _ rfl
      obtain ⟨k1, -⟩ := HD.out.2.1.2 1 _ rfl
      obtain ⟨k2, -⟩ := HD.out.2.1.2 2 _ rfl
      obtain ⟨k3, -⟩ := HD.out.2.1.2 3 _ rfl
      obtain ⟨k4, -⟩ := HD.out.2.1.2 4 _ rfl
      dsimp only at k0 k1 k2 k3 k4
      refine bodyPost_ret (v := ev ⟨kind, path, ⟨#[]⟩, x, 0⟩) (by simp [results, Try.results59, go_sem, k0, k1, k2, k3, k4]) rfl ⟨_, rfl, HD.out.1, HD.out.2.2.1, HD.out.2.2.2⟩
    · replace H9 := Shut.mk (H9.out.set 1 (.string ⟨#[47]⟩) ⟨kind, ⟨#[47]⟩, ⟨#[]⟩, x, 0⟩ (by omega) rfl (epl_ pl_root pl_none))
      have HD := Shut.mk (H9.out.done)
      change bodyPost _ _ _ _ _ (put5 (w6.setCell ⟨E, 1, none⟩ (.string ⟨#[47]⟩)) w.heap.size ⟨kind, ⟨#[47]⟩, ⟨#[]⟩, x, 0⟩)
      generalize put5 (w6.setCell ⟨E, 1, none⟩ (.string ⟨#[47]⟩)) w.heap.size ⟨kind, ⟨#[47]⟩, ⟨#[]⟩, x, 0⟩ = w8 at HD ⊢
      obtain ⟨k0, -⟩ := HD.out.2.1.2 0 _ rfl
      obtain ⟨k1, -⟩ := HD.out.2.1.2 1 _ rfl
      obtain ⟨k2, -⟩ := HD.out.2.1.2 2 _ rfl
      obtain ⟨k3, -⟩ := HD.out.2.1.2 3 _ rfl
      obtain ⟨k4, -⟩ := HD.out.2.1.2 4 _ rfl
      dsimp only at k0 k1 k2 k3 k4
      refine bodyPost_ret (v := ev ⟨kind, ⟨#[47]⟩, ⟨#[]⟩, x, 0⟩) (by simp [results, Try.results59, go_sem, k0, k1, k2, k3, k4]) rfl ⟨_, rfl, HD.out.1, HD.out.2.2.1, HD.out.2.2.2⟩
  have b6 : (kind == 6) = false := by simp; omega
  by_cases q7 : kind = 7
  · have bt7 : (kind == 7) = true := by simp; omega
    
    clear q7
    go_upto_region 16 with (go_at_call 27; refine (l01Below_any W g B a len cap 60 (by omega) H9.out.cur).mono ?_; rintro e w4 ⟨x, rfl, x0, x1, hc4, hg4⟩; have x2 : x ≤ 60 := (by omega); replace H9 := Shut.mk (H9.out.turn hc4 hg4); clear hc4 hg4 c0 c1 c2 c3 c4 f0 f1 f2 f3 f4; obtain ⟨c0, c1, c2, c3, c4⟩ := H9.out.got; obtain ⟨f0, f1, f2, f3, f4⟩ := H9.out.may; dsimp only at c0 c1 c2 c3 c4)
    obtain ⟨W4, hW4⟩ : ∃ W4, W4 = World.setCell w4 ⟨E, 3, none⟩ (.int .i64 (1 + x)) := ⟨_, rfl⟩
    rw [← hW4]
    replace H9 : Shut (DE w W4 g B a len cap w.heap.size E ⟨kind, path, ⟨#[]⟩, 1 + x, 0⟩) := ⟨by rw [hW4]; exact H9.out.set 3 _ _ (by omega) rfl (epl_ HP.out pl_none)⟩
    clear hW4 c0 c1 c2 c3 c4 f0 f1 f2 f3 f4
    obtain ⟨c0, c1, c2, c3, c4⟩ := H9.out.got
    obtain ⟨f0, f1, f2, f3, f4⟩ := H9.out.may
    obtain ⟨⟨r0, s0⟩, ⟨r1, s1⟩, ⟨r2, s2⟩, ⟨r3, s3⟩, ⟨r4, s4⟩⟩ := H9.out.room
    dsimp only at c0 c1 c2 c3 c4
    go_wp2_with fail
    have HD := Shut.mk (H9.out.done)
    change bodyPost _ _ _ _ _ (put5 W4 w.heap.size ⟨kind, path, ⟨#[]⟩, 1 + x, 0⟩)
    generalize put5 W4 w.heap.size ⟨kind, path, ⟨#[]⟩, 1 + x, 0⟩ = w8 at HD ⊢
    obtain ⟨k0, -⟩ := HD.out.2.1.2 0 _ rfl
    obtain ⟨k1, -⟩ := HD.out.2.1.2 1 _ rfl
    obtain ⟨k2, -⟩ := HD.out.2.1.2 2 _ rfl
    obtain ⟨k3, -⟩ := HD.out.2.1.2 3 _ rfl
    obtain ⟨k4, -⟩ := HD.out.2.1.2 4 _ rfl
    dsimp only at k0 k1 k2 k3 k4
    refine bodyPost_ret (v := ev ⟨kind, path, ⟨#[]⟩, 1 + x, 0⟩) (by simp [results, Try.results59, go_sem, k0, k1, k2, k3, k4]) rfl ⟨_, rfl, HD.out.1, HD.out.2.2.1, HD.out.2.2.2⟩
  have b7 : (kind == 7) = false := by simp; omega
  by_cases q10 : kind = 10
  · have bt10 : (kind == 10) = true := by simp; omega
    
    clear q10
    go_upto_region 16 with (fail)
    obtain ⟨W4, hW4⟩ : ∃ W4, W4 = World.setCell W ⟨E, 1, none⟩ (.string ⟨#[47]⟩) := ⟨_, rfl⟩
    rw [← hW4]
    replace H9 : Shut (DE w W4 g B a len cap w.heap.size E ⟨kind, ⟨#[47]⟩, ⟨#[]⟩, 0, 0⟩) := ⟨by rw [hW4]; exact H9.out.set 1 _ _ (by omega) rfl (epl_ pl_root pl_none)⟩
    clear hW4 c0 c1 c2 c3 c4 f0 f1 f2 f3 f4
    obtain ⟨c0, c1, c2, c3, c4⟩ := H9.out.got
    obtain ⟨f0, f1, f2, f3, f4⟩ := H9.out.may
    obtain ⟨⟨r0, s0⟩, ⟨r1, s1⟩, ⟨r2, s2⟩, ⟨r3, s3⟩, ⟨r4, s4⟩⟩ := H9.out.room
    dsimp only at c0 c1 c2 c3 c4
    go_wp2_with fail
    have HD := Shut.mk (H9.out.done)
    change bodyPost _ _ _ _ _ (put5 W4 w.heap.size ⟨kind, ⟨#[47]⟩, ⟨#[]⟩, 0, 0⟩)
    generalize put5 W4 w.heap.size ⟨kind, ⟨#[47]⟩, ⟨#[]⟩, 0, 0⟩ = w8 at HD ⊢
    obtain ⟨k0, -⟩ := HD.out.2.1.2 0 _ rfl
    obtain ⟨k1, -⟩ := HD.out.2.1.2 1 _ rfl
    obtain ⟨k2, -⟩ := HD.out.2.1.2 2 _ rfl
    obtain ⟨k3, -⟩ := HD.out.2.1.2 3 _ rfl
    obtain ⟨k4, -⟩ := HD.out.2.1.2 4 _ rfl
    dsimp only at k0 k1 k2 k3 k4
    refine bodyPost_ret (v := ev ⟨kind, ⟨#[47]⟩, ⟨#[]⟩, 0, 0⟩) (by simp [results, Try.results59, go_sem, k0, k1, k2, k3, k4]) rfl ⟨_, rfl, HD.out.1, HD.out.2.2.1, HD.out.2.2.2⟩
  have b10 : (kind == 10) = false := by simp; omega
  · skip
    go_upto_region 16 with (fail)
    clear c0 c1 c2 c3 c4 f0 f1 f2 f3 f4
    obtain ⟨c0, c1, c2, c3, c4⟩ := H9.out.got
    obtain ⟨f0, f1, f2, f3, f4⟩ := H9.out.may
    obtain ⟨⟨r0, s0⟩, ⟨r1, s1⟩, ⟨r2, s2⟩, ⟨r3, s3⟩, ⟨r4, s4⟩⟩ := H9.out.room
    dsimp only at c0 c1 c2 c3 c4
    go_wp2_with fail
    have HD := Shut.mk (H9.out.done)
    change bodyPost _ _ _ _ _ (put5 W w.heap.size ⟨kind, path, ⟨#[]⟩, 0, 0⟩)
    generalize put5 W w.heap.size ⟨kind, path, ⟨#[]⟩, 0, 0⟩ = w8 at HD ⊢
    obtain ⟨k0, -⟩ := HD.out.2.1.2 0 _ rfl
    obtain ⟨k1, -⟩ := HD.out.2.1.2 1 _ rfl
    obtain ⟨k2, -⟩ := HD.out.2.1.2 2 _ rfl
    obtain ⟨k3, -⟩ := HD.out.2.1.2 3 _ rfl
    obtain ⟨k4, -⟩ := HD.out.2.1.2 4 _ rfl
    dsimp only at k0 k1 k2 k3 k4
    refine bodyPost_ret (v := ev ⟨kind, path, ⟨#[]⟩, 0, 0⟩) (by simp [results, Try.results59, go_sem, k0, k1, k2, k3, k4]) rfl ⟨_, rfl, HD.out.1, HD.out.2.2.1, HD.out.2.2.2⟩
end Go.Proofs.Ythfmjjaollekiaa
/- CpA: A row of nodes that is made node by node, by append, each with its pieces in a row of its own. -/
namespace Go.Proofs.Ythfmjjaollekiaa
open Go.RowKit

theorem wc_by {w w' : World} {g : Nat} {q : Option Nat} {L : List Value} (h : WCells w g L) (hg : w.grownBy w' q) (hq : q ≠ some g) : WCells w' g L := by
  have hk := hg.block g h.1 (fun e => hq e.symm)
  refine ⟨Nat.lt_of_lt_of_le h.1 hg.size, fun i v hv => ?_⟩
  have h1 := h.2 i v hv
  simp only [World.cell?, World.frozen?, hk] at h1 ⊢
  exact h1
/-- Where the making of a row of nodes stands. -/
structure NB (w : World) (B : Nat) (v : Value) (rs : List NR) : Prop where
  own : w.ownsRow B 30 9 v rs.length (ncs rs)
  rows : ∀ r ∈ rs, w.ownsRow B 59 2 (.slice r.loc r.nd.pieces.length r.cap) r.nd.pieces.length (pcs r.nd.pieces)
  apart : rs.Pairwise fun r s => r.loc ≠ none → s.loc ≠ none → r.loc ≠ s.loc
/-- A row of its own that is not empty: its block. -/
theorem own_blk {w : World} {B t sz n : Nat} {v : Value} {L : List Value} (h : w.ownsRow B t sz v n L) (hn : n ≠ 0) : ∃ g cap cur, v = .slice (some ⟨g, 0, none⟩) n cap ∧ B ≤ g ∧ g < w.heap.size ∧ w.heap[g]? = some (.cells cur t (0, 0)) := by
  rcases h.2 with ⟨_, h0⟩ | ⟨g, cap, cur, e, h1, h2, _⟩
  · exact absurd h0 hn
  · exact ⟨g, cap, cur, e, h1, (Array.getElem?_eq_some_iff.1 h2).1, h2⟩
theorem own_blk' {w : World} {B t sz n g : Nat} {v : Value} {L : List Value} (h : w.ownsRow B t sz v n L) (e : v.ownBlock = some g) : ∃ cur, w.heap[g]? = some (.cells cur t (0, 0)) := by
  rcases h.2 with ⟨rfl, _⟩ | ⟨g', cap, cur, rfl, _, h2, _⟩
  · cases e
  · cases e; exact ⟨cur, h2⟩
theorem own_slice {w : World} {B n sz : Nat} {t : TypeId} {v : Value} {L : List Value} (h : w.ownsRow B t sz v n L) : ∃ a c, v = .slice a n c := by
  rcases h.2 with ⟨rfl, h0⟩ | ⟨g, cap, cur, e, _⟩
  · exact ⟨none, 0, by rw [h0]⟩
  · exact ⟨_, _, e⟩
theorem own_lower {w : World} {B C n sz : Nat} {t : TypeId} {v : Value} {L : List Value} (h : w.ownsRow B t sz v n L) (hC : C ≤ B) : w.ownsRow C t sz v n L := by
  refine ⟨h.1, ?_⟩
  rcases h.2 with q | ⟨g, cap, cur, e, h1, h2⟩
  · exact .inl q
  · exact .inr ⟨g, cap, cur, e, Nat.le_trans hC h1, h2⟩
theorem NB.nil (w : World) (B : Nat) : NB w B (.slice none 0 0) [] := ⟨by simpa [ncs] using World.ownsRow_nil w B 30 9, by simp, List.Pairwise.nil⟩
theorem NB.grown {w w' : World} {B : Nat} {v : Value} {rs : List NR} {q : Option Nat} (h : NB w B v rs) (hg : w.grownBy w' q) (hq : ∀ k, q = some k → k < B) : NB w' B v rs := by
  refine ⟨h.own.kept hg ?_, fun r hr => (h.rows r hr).kept hg ?_, h.apart⟩
  · cases e : v.ownBlock with
    | none => exact .inl rfl
    | some k => exact .inr fun e2 => by have := hq k e2.symm; have := (h.own.lt k e).1; omega
  · cases e : (Value.slice r.loc r.nd.pieces.length r.cap).ownBlock with
    | none => exact .inl rfl
    | some k => exact .inr fun e2 => by have := hq k e2.symm; have := ((h.rows r hr).lt k e).1; omega
theorem NB.below {w w' : World} {B : Nat} {v : Value} {rs : List NR} (h : NB w B v rs) (hb : Below w.heap.size w w') : NB w' B v rs :=
  h.grown (q := none) ⟨hb.os, hb.tape, hb.output, hb.size, fun k hk _ => hb.block k hk⟩ (fun k e => by cases e)
theorem NB.setBox {w : World} {B : Nat} {v : Value} {rs : List NR} (h : NB w B v rs) (g i : Nat) (x : Value) (hg : g < B) : NB (w.setCell ⟨g, i, none⟩ x) B v rs :=
  h.grown (gb_set' w g i x) (fun k e => by cases e; exact hg)
/-- A box that lies beyond is written. -/
theorem NB.setOut {w : World} {B : Nat} {v : Value} {rs : List NR} {c : Array Value} {t : TypeId} {fr : Nat × Nat} (h : NB w B v rs) (g i : Nat) (x : Value) (hg : w.heap[g]? = some (.cells c t fr)) (ht : t ≠ 59) (hv : v.ownBlock ≠ some g) : NB (w.setCell ⟨g, i, none⟩ x) B v rs := by
  refine ⟨h.own.kept (gb_set' w g i x) (.inr hv), fun r hr => (h.rows r hr).kept (gb_set' w g i x) (.inr fun e => ?_), h.apart⟩
  obtain ⟨cur, h2⟩ := own_blk' (h.rows r hr) e
  rw [hg] at h2
  simp at h2
  exact ht h2.2.1
/-- A node more. -/
theorem NB.snoc {w w1 w2 : World} {B : Nat} {v v' : Value} {rs : List NR} {r : NR} (h : NB w B v rs) (hb : Below w.heap.size w w1) (hp : w1.ownsRow B 59 2 (.slice r.loc r.nd.pieces.length r.cap) r.nd.pieces.length (pcs r.nd.pieces))
    (hnew : r.loc ≠ none → ∀ s ∈ rs, s.loc ≠ none → s.loc ≠ r.loc) (ho : w2.ownsRow B 30 9 v' (rs.length + 1) (ncs rs ++ ncells r)) (hg : w1.grownBy w2 v.ownBlock) : NB w2 B v' (rs ++ [r]) := by
  have hN := h.below hb
  have keep : ∀ s : NR, w1.ownsRow B 59 2 (.slice s.loc s.nd.pieces.length s.cap) s.nd.pieces.length (pcs s.nd.pieces) → w2.ownsRow B 59 2 (.slice s.loc s.nd.pieces.length s.cap) s.nd.pieces.length (pcs s.nd.pieces) := fun s hr => by
    refine hr.kept hg ?_
    cases e : (Value.slice s.loc s.nd.pieces.length s.cap).ownBlock with
    | none => exact .inl rfl
    | some k =>
      refine .inr fun e2 => ?_
      obtain ⟨c1, h1⟩ := own_blk' hr e
      obtain ⟨c2, h2⟩ := own_blk' hN.own e2.symm
      rw [h1] at h2
      simp at h2
  refine ⟨?_, fun s hs => ?_, ?_⟩
  · have e : ncs (rs ++ [r]) = ncs rs ++ ncells r := by simp [ncs]
    rw [e, List.length_append, List.length_singleton]
    exact ho
  · rcases List.mem_append.1 hs with q | q
    · exact keep s (hN.rows s q)
    · rw [List.mem_singleton.1 q]
      exact keep r hp
  · refine List.pairwise_append.2 ⟨h.apart, List.pairwise_singleton _ _, fun s hs t ht h1 h2 => ?_⟩
    rw [List.mem_singleton.1 ht] at h2 ⊢
    exact hnew h2 s hs h1
theorem own_loc {w : World} {B t sz n c : Nat} {a : Option Addr} {L : List Value} (h : w.ownsRow B t sz (.slice a n c) n L) (hn : n ≠ 0) : a ≠ none := by
  obtain ⟨g, cap, cur, e, _⟩ := own_blk h hn
  simp at e
  rw [e.1]
  simp
theorem NB.fin {w : World} {B : Nat} {v : Value} {rs : List NR} {nx : Int} (h : NB w B v rs) : TAns w (.agg #[v, .int .i64 nx]) ⟨nds rs, nx⟩ B w.heap.size := by
  have hown := h.own
  rcases hown.2 with ⟨rfl, h0⟩ | ⟨g, cap, cur, rfl, hB, hcur, hn, _⟩
  · have : rs = [] := List.eq_nil_of_length_eq_zero h0
    subst this
    exact ⟨none, 0, [], rfl, rfl, Nat.le_refl _, .inl rfl⟩
  · refine ⟨_, cap, rs, rfl, rfl, hn, .inr ⟨g, rfl, ?_⟩⟩
    refine ⟨own_wcells h.own, hB, (Array.getElem?_eq_some_iff.1 hcur).1, fun r hr => ?_, ?_⟩
    · by_cases hp : r.nd.pieces = []
      · exact .inl (by show pcs r.nd.pieces = []; rw [hp]; rfl)
      · have hr' := h.rows r hr
        obtain ⟨b, cp, c2, e1, q1, q2, q3⟩ := own_blk hr' (by simpa using hp)
        have e2 : r.loc = some ⟨b, 0, none⟩ := (by simpa using e1 : r.loc = some ⟨b, 0, none⟩ ∧ r.cap = cp).1
        refine .inr ⟨b, e2, q1, q2, fun e => ?_, ?_⟩
        · rw [e, hcur] at q3
          simp at q3
        · rw [e2] at hr'
          exact own_wcells hr'
    · have ha := List.pairwise_iff_getElem.1 h.apart
      refine List.pairwise_iff_getElem.2 (fun i j hi hj hij h1 h2 => ha i j hi hj hij ?_ ?_)
      · exact own_loc (h.rows _ (List.getElem_mem hi)) (fun e => h1 (by show pcs rs[i].nd.pieces = []; rw [List.eq_nil_of_length_eq_zero e]; rfl))
      · exact own_loc (h.rows _ (List.getElem_mem hj)) (fun e => h2 (by show pcs rs[j].nd.pieces = []; rw [List.eq_nil_of_length_eq_zero e]; rfl))
end Go.Proofs.Ythfmjjaollekiaa
