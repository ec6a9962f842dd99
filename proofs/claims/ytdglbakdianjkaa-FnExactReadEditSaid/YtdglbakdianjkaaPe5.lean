/- Texts of ours, laid one behind the other: DrawB, DrawP, DrPk, DrPth, FrT, OpenC, LawPts, PaL, SpnB, StI, SchQ, EdP, EdQ, Var, ShortText, EdR, VtM. -/
import Derived.Test.YtdglbakdianjkaaPe4
import Derived.OwnWalk
import Derived.OpenShut
import Derived.Deep.AppendLies
/- DrawB: The draws of the models, on: a new cursor, a text that is drawn, a long one, a choice. -/
namespace Go.Proofs.Ytdglbakdianjkaa
set_option maxRecDepth 100000
open Go.RowKit

def NewPost (w : World) (a : Option Addr) (len cap : Nat) (e : Ending) (w' : World) : Prop :=
  ∃ g, e = .returned (.pointer (some ⟨g, 0, none⟩)) ∧ w.heap.size ≤ g ∧ Cur w' g w.heap.size a len cap ∧ Below w.heap.size w w'
theorem new_post {w : World} {a : Option Addr} {len cap : Nat} (hc : CodeAt w w.heap.size a len) (h : Int) :
    NewPost w a len cap (.returned (.pointer (some ⟨w.heap.size, 0, none⟩))) (w.alloc (.cells #[.slice a len cap, .int .i64 0, .int .i64 h] 60)) := by
  have hb : Below w.heap.size w (w.alloc (.cells #[.slice a len cap, .int .i64 0, .int .i64 h] 60)) := (Below.refl _ _).alloc (Nat.le_refl _) _
  refine ⟨_, rfl, Nat.le_refl _, ⟨Nat.le_refl _, by simp, hc.below hb (Nat.le_refl _), ?_, ⟨0, ?_, Nat.zero_le _⟩, ⟨h, ?_⟩, fun j hj => ?_⟩, hb⟩
  · rw [World.cell?_alloc_mark]; rfl
  · rw [World.cell?_alloc_mark]; rfl
  · rw [World.cell?_alloc_mark]; rfl
  · rw [World.frozen?_alloc_mark]; simp

set_option maxRecDepth 100000 in
set_option maxHeartbeats 1000000 in
theorem l01New_any (w : World) (a : Option Addr) (len cap : Nat) (hc : CodeAt w w.heap.size a len) :
    Calls Try.prog 20 #[.slice a len cap] w fun e w' => NewPost w a len cap e w' := by
  have hl := hc.1
  go_enter Try.func20, Try.ntmps20
  go_wp2_with fail
  go_loop [3, 4] (fun h i => ∃ (k : Nat) (hh : Int), h = .int .i64 hh ∧ i = .int .i64 k ∧ k ≤ len) (fun _ i => len - (intOf i).toNat)
  case atStart => exact ⟨0, _, rfl, rfl, Nat.zero_le _⟩
  case round =>
    obtain ⟨k, hh, rfl, rfl, hk⟩ := hrel
    by_cases hlt : k < len
    · by_cases h4 : k < 4000
      · obtain ⟨b, off, rfl, hb, hx⟩ := hc.2 (by omega)
        obtain ⟨x, cx, x0, x1⟩ := hx k hlt
        have k0 : (0 : Int) ≤ (k : Int) := by omega
        have k1 : (k : Int) < (len : Int) := by omega
        clear hx
        go_wp2_with fail
        go_round
        case rel => exact ⟨k + 1, _, rfl, by go_num, by omega⟩
        case measure => simp [intOf]; omega
      · have h4' : ¬ (k : Int) < 4000 := by omega
        go_wp2_with fail
        go_ret
        exact new_post hc _
    · go_wp2_with fail
      go_ret
      exact new_post hc _

def OncePost (w : World) (g B : Nat) (a : Option Addr) (len cap : Nat) (e : Ending) (w' : World) : Prop :=
  ∃ b : Bool, e = .returned (.bool b) ∧ Cur w' g B a len cap ∧ w.grownBy w' (some g)
theorem l01Once_any (w : World) (g B : Nat) (a : Option Addr) (len cap : Nat) (n : Int) (hn : n ≤ 9223372036854775807) (hc : Cur w g B a len cap) :
    Calls Try.prog 31 #[.pointer (some ⟨g, 0, none⟩), .int .i64 n] w fun e w' => OncePost w g B a len cap e w' := by
  have HC : Hid (Cur w g B a len cap) := hc
  clear hc
  go_enter Try.func31, Try.ntmps31
  go_wp2_with fail
  refine (l01Below_any _ g B a len cap n hn HC.out).mono ?_
  rintro e w1 ⟨x, rfl, x0, x1, hc1, hg1⟩
  have HC1 : Hid (Cur w1 g B a len cap) := hc1
  have HG : Hid (w.grownBy w1 (some g)) := hg1
  clear hc1 hg1
  go_wp2_with fail
  go_ret
  exact ⟨x == 0, rfl, HC1.out, HG.out⟩

def TextPost (w : World) (g B : Nat) (a : Option Addr) (len cap : Nat) (n : Nat) (e : Ending) (w' : World) : Prop :=
  ∃ t : ByteArray, e = .returned (.string t) ∧ t.size ≤ n ∧ Cur w' g B a len cap ∧ w.grownBy w' (some g)
def TextIs (w : World) (g B : Nat) (a : Option Addr) (len cap : Nat) (n : Nat) (e : Ending) (w' : World) : Prop :=
  ∃ t : ByteArray, e = .returned (.string t) ∧ t.size = n ∧ Cur w' g B a len cap ∧ w.grownBy w' (some g)
theorem text_step {w wr w2 w3 : World} {g B len cap : Nat} {a : Option Addr} {v v' : Value} {l : List UInt8} {x : Int} {o : Obj} (x0 : 0 ≤ x) (x1 : x ≤ 255) (hs : w.heap.size ≤ wr.heap.size) (hgw : g < w.heap.size)
    (hg : w.grownBy wr (some g)) (hg2 : wr.grownBy w2 (some g)) (hc2 : Cur w2 g B a len cap) (hown : w2.ownsRow w.heap.size 5 1 v l.length (bv l))
    (hown' : w3.ownsRow w.heap.size 5 1 v' (l.length + 1) (bv l ++ [.int .u8 x])) (hgr : (w2.alloc o).grownBy w3 v.ownBlock) :
    Cur w3 g B a len cap ∧ w.grownBy w3 (some g) ∧ w3.ownsRow w.heap.size 5 1 v' (l ++ [UInt8.ofNat x.toNat]).length (bv (l ++ [UInt8.ofNat x.toNat])) := by
  have hlt := hown.lt
  have h2s : wr.heap.size ≤ w2.heap.size := hg2.size
  have hb3 : Below w.heap.size w2 w3 := ((Below.refl _ _).alloc (by omega) o).grown hgr (by simp; omega) (fun j hj => (hlt j hj).1)
  refine ⟨?_, ⟨(hb3.os.trans hg2.os).trans hg.os, (hb3.tape.trans hg2.tape).trans hg.tape, (hb3.output.trans hg2.output).trans hg.output, by have := hb3.size; omega, fun k hk hn => (hb3.block k hk).trans ((hg2.block k (by omega) hn).trans (hg.block k hk hn))⟩, ?_⟩
  · obtain ⟨hB, hgs, hcode, c0, ⟨i, c1, hi⟩, ⟨k, c2⟩, hf⟩ := hc2
    refine ⟨hB, by have := hb3.size; omega, hcode.below hb3 (by omega), (hb3.cell (p := ⟨g, 0, none⟩) hgw).trans c0, ⟨i, (hb3.cell (p := ⟨g, 1, none⟩) hgw).trans c1, hi⟩, ⟨k, (hb3.cell (p := ⟨g, 2, none⟩) hgw).trans c2⟩, fun j hj => (hb3.frozen (p := ⟨g, j, none⟩) hgw).trans (hf j hj)⟩
  · rw [byte_of x x0 (by omega), bv_snoc] at hown'
    simpa using hown'
theorem own_gb {w w' : World} {g C : Nat} {v : Value} {l : List UInt8} (h : w.ownsRow C 5 1 v l.length (bv l)) (hg : w.grownBy w' (some g)) (hC : g < C) : w'.ownsRow C 5 1 v l.length (bv l) :=
  h.kept hg (by
    cases hv : v.ownBlock with
    | none => exact .inl rfl
    | some j => right; have := (h.lt j hv).1; simp; omega)

set_option maxHeartbeats 1000000 in
theorem l01Text_len (w : World) (g B : Nat) (a : Option Addr) (len cap : Nat) (n : Nat) (hn : n ≤ 5000) (hc : Cur w g B a len cap) :
    Calls Try.prog 47 #[.pointer (some ⟨g, 0, none⟩), .int .i64 n] w fun e w' => TextIs w g B a len cap n e w' := by
  obtain ⟨i0, hi, hz0, hz1, hz2⟩ := info_parts Try.info5
  have hgw := hc.2.1
  have HC : Hid (Cur w g B a len cap) := hc
  clear hc
  have hnd : decide ((5000 : Int) < n) = false := by simp; omega
  go_enter Try.func47, Try.ntmps47
  go_wp2_with fail
  go_loopw [5, 6] (fun v i wr => ∃ (k : Nat) (l : List UInt8), i = .int .i64 k ∧ k ≤ n ∧ l.length = k ∧ Cur wr g B a len cap ∧ w.grownBy wr (some g) ∧ wr.ownsRow w.heap.size 5 1 v l.length (bv l)) (fun _ i _ => n - (intOf i).toNat)
  case atStart => exact ⟨0, [], rfl, by omega, rfl, HC.out.below ((Below.refl _ _).alloc (Nat.le_refl _) _), gb_below ((Below.refl _ _).alloc (Nat.le_refl _) _), World.ownsRow_made w #[] 0 (Nat.le_refl _) (by decide) rfl⟩
  case round =>
    obtain ⟨k, l, rfl, hk, hlk, hc1, hg1, hown⟩ := hrel
    have HC1 : Hid (Cur wr g B a len cap) := hc1
    have HG1 : Hid (w.grownBy wr (some g)) := hg1
    have HL : Hid (l.length = k) := hlk
    have hll : l.length ≤ 5000 := by omega
    have hs1 := hg1.size
    clear hc1 hg1 hlk
    by_cases hlt : k < n
    · go_wp2_with fail
      refine (l01Byte_any _ g B a len cap HC1.out).mono ?_
      rintro e w2 ⟨x, rfl, x0, x1, hc2, hg2⟩
      have HC2 : Hid (Cur w2 g B a len cap) := hc2
      have HG2 : Hid (wr.grownBy w2 (some g)) := hg2
      have hown2 := own_gb hown hg2 hgw
      have hs2 := hg2.size
      clear hc2 hg2 hown
      go_wp2_with (at_builtin; refine wpList_append_own _ rfl _ _ 22 rfl w.heap.size 5 i0 (.int .u8 0) 1 1 Try.underlying22 hi hz0 hz1 hz2 rfl (by decide) _ _ _ rfl (hown2.alloc _) ⟨w2.heap.size, 0, none⟩ 1 1 [.int .u8 _] rfl rfl (cell_one_new _ _ _) ?c2 ?c3 ?c4 ?c5 ?_)
      case c2 => first | rfl | (intro u hu; simp at hu; subst hu; rfl)
      case c3 => unfold maxLen; omega
      case c4 => omega
      case c5 => first | omega | (simp; omega)
      · intro v' w3 hown' hgrow _
        obtain ⟨q1, q2, q3⟩ := text_step x0 x1 hs1 hgw HG1.out HG2.out HC2.out hown2 hown' hgrow
        clear hown' hgrow hown2
        go_wp2_with fail
        go_roundw
        case rel => exact ⟨k + 1, _, by go_num, by omega, by have := HL.out; simp; omega, q1, q2, q3⟩
        case measure => simp [intOf]; omega
    · have hcv := own_string hown
      go_wp2_with fail
      go_ret
      exact ⟨⟨l.toArray⟩, rfl, by have := HL.out; show l.length = n; omega, HC1.out, HG1.out⟩
theorem l01Text_any (w : World) (g B : Nat) (a : Option Addr) (len cap : Nat) (n : Nat) (hn : n ≤ 5000) (hc : Cur w g B a len cap) :
    Calls Try.prog 47 #[.pointer (some ⟨g, 0, none⟩), .int .i64 n] w fun e w' => TextPost w g B a len cap n e w' :=
  (l01Text_len w g B a len cap n hn hc).mono fun _ _ ⟨t, he, hs, h⟩ => ⟨t, he, Nat.le_of_eq hs, h⟩
end Go.Proofs.Ytdglbakdianjkaa
/- DrawP: The draws of a text and of places: what is drawn lies within its bounds; nothing that was there is turned. -/
namespace Go.Proofs.Ytdglbakdianjkaa
open Go.RowKit

def SumDrawn (w : World) (e : Ending) (w' : World) : Prop := ∃ t : ByteArray, e = .returned (.string t) ∧ t.size ≤ 40 ∧ Below w.heap.size w w'
theorem infoInt : (Try.prog.info? 3).map (fun i => (i.zero, i.size, i.bytes)) = some (some (.int .i64 0), 1, 8) := by kernel_rfl
/-- Numbers, as the model holds them. -/
def iv (l : List Int) : List Value := l.map fun x => .int .i64 x
theorem row_step {w wr w2 w3 : World} {g B len cap n : Nat} {t : TypeId} {a : Option Addr} {v : Value} {vs : List Value} {o : Obj} (hs : w.heap.size ≤ wr.heap.size) (hgw : g < w.heap.size)
    (hg : w.grownBy wr (some g)) (hg2 : wr.grownBy w2 (some g)) (hc2 : Cur w2 g B a len cap) (hown : w2.ownsRow w.heap.size t 1 v n vs) (hgr : (w2.alloc o).grownBy w3 v.ownBlock) :
    Cur w3 g B a len cap ∧ w.grownBy w3 (some g) := by
  have hlt := hown.lt
  have h2s : wr.heap.size ≤ w2.heap.size := hg2.size
  have hb3 : Below w.heap.size w2 w3 := ((Below.refl _ _).alloc (by omega) o).grown hgr (by simp; omega) (fun j hj => (hlt j hj).1)
  refine ⟨?_, ⟨(hb3.os.trans hg2.os).trans hg.os, (hb3.tape.trans hg2.tape).trans hg.tape, (hb3.output.trans hg2.output).trans hg.output, by have := hb3.size; omega, fun k hk hn => (hb3.block k hk).trans ((hg2.block k (by omega) hn).trans (hg.block k hk hn))⟩⟩
  obtain ⟨hB, hgs, hcode, c0, ⟨i, c1, hi⟩, ⟨k, c2⟩, hf⟩ := hc2
  exact ⟨hB, by have := hb3.size; omega, hcode.below hb3 (by omega), (hb3.cell (p := ⟨g, 0, none⟩) hgw).trans c0, ⟨i, (hb3.cell (p := ⟨g, 1, none⟩) hgw).trans c1, hi⟩, ⟨k, (hb3.cell (p := ⟨g, 2, none⟩) hgw).trans c2⟩, fun j hj => (hb3.frozen (p := ⟨g, j, none⟩) hgw).trans (hf j hj)⟩
theorem own_gbr {w w' : World} {g C n : Nat} {t : TypeId} {v : Value} {vs : List Value} (h : w.ownsRow C t 1 v n vs) (hg : w.grownBy w' (some g)) (hC : g < C) : w'.ownsRow C t 1 v n vs :=
  h.kept hg (by
    cases hv : v.ownBlock with
    | none => exact .inl rfl
    | some j => right; have := (h.lt j hv).1; simp; omega)
/-- The places that are drawn: twelve numbers below 10000 in a block of their own. -/
def PlacesDrawn (w : World) (e : Ending) (w' : World) : Prop :=
  ∃ (gp cap : Nat) (l : List Int), e = .returned (.slice (some ⟨gp, 0, none⟩) 12 cap) ∧ w.heap.size ≤ gp ∧ gp < w'.heap.size ∧ l.length = 12 ∧ (∀ x ∈ l, 0 ≤ x ∧ x < 10000) ∧ (∀ j, j < 12 → w'.cell? ⟨gp, j, none⟩ = some (.int .i64 (l.getD j 0))) ∧ Below w.heap.size w w'
theorem places_post {w w1 w' : World} {g n : Nat} {v : Value} {l : List Int} (hw : w.heap.size ≤ w1.heap.size) (hl : l.length = 12) (hx : ∀ x ∈ l, 0 ≤ x ∧ x < 10000) (hn : n = 12) (hown : w'.ownsRow w1.heap.size 3 1 v n (iv l)) (hb1 : Below w.heap.size w w1) (hg : w.heap.size ≤ g) (hgb : w1.grownBy w' (some g)) :
    PlacesDrawn w (.returned v) w' := by
  subst hn
  have hlt := hown.lt
  have hc : ∀ g, v.ownBlock = some g → ∀ j u, (iv l)[j]? = some u → w'.cell? ((⟨g, 0, none⟩ : Addr).add j) = some u := fun g hg => hown.cells hg
  obtain ⟨h1, ⟨rfl, h0⟩ | ⟨gp, cap, cur, rfl, _⟩⟩ := hown
  · omega
  · have h2 := hlt gp rfl
    refine ⟨gp, cap, l, rfl, by omega, h2.2, hl, hx, fun j hj => ?_, hb1.trans (below_gb hgb hg hw)⟩
    have h3 := hc gp rfl j (.int .i64 (l.getD j 0)) (by simp [iv, List.getD, show j < l.length by omega])
    have e : (⟨gp, 0, none⟩ : Addr).add j = ⟨gp, j, none⟩ := by cases j <;> simp [Addr.add]
    rwa [e] at h3
theorem cell_block {w : World} {a : Addr} {v : Value} (h : w.cell? a = some v) : a.block < w.heap.size := by
  by_cases hb : a.block < w.heap.size
  · exact hb
  · unfold World.cell? at h
    rw [Array.getElem?_eq_none (by omega)] at h
    simp at h
theorem code_at {w : World} {a : Option Addr} {len cap : Nat} {zs : List Int} (hl : len ≤ 1048576)
    (h : (a = none ∧ len = 0) ∨ ∃ x, a = some x ∧ len ≤ cap ∧ zs.length = cap ∧ (∀ i, i < zs.length → w.cell? (x.add i) = some (.int .u8 (zs.getD i 0))) ∧ ∀ n ∈ zs, (Lit.int .u8 n).wf = true) : CodeAt w w.heap.size a len := by
  refine ⟨hl, fun hp => ?_⟩
  rcases h with ⟨_, h0⟩ | ⟨x, rfl, hlc, hz, hc, hw⟩
  · omega
  · obtain ⟨b, off, spot⟩ := x
    have hs : spot = none := by simpa [Addr.add] using World.cell?_spot (hc 0 (by omega))
    subst hs
    refine ⟨b, off, rfl, ?_, fun j hj => ?_⟩
    · have := cell_block (hc 0 (by omega)); simpa [Addr.add] using this
    · have h1 := hc j (by omega)
      have e : (⟨b, off, none⟩ : Addr).add j = ⟨b, off + j, none⟩ := by cases j <;> simp [Addr.add]
      rw [e] at h1
      have hm : zs.getD j 0 ∈ zs := by
        have : j < zs.length := by omega
        simp [List.getD, this]
      have := bounds_u8 (hw _ hm)
      exact ⟨_, h1, this.1, by omega⟩
theorem big_any (a : Option Addr) (len cap : Nat) (w : World) :
    Calls Try.prog 7 #[.slice a len cap] w fun e w' => e = .returned (.bool (decide ((1048576 : Int) < len))) ∧ w' = w := by
  go_enter Try.func7, Try.ntmps7
  go_wp2_with fail
  go_ret
  exact ⟨rfl, rfl⟩
end Go.Proofs.Ytdglbakdianjkaa
/- DrPk: A text that is picked out of a row is one of it. -/
namespace Go.Proofs.Ytdglbakdianjkaa
open Go.RowKit
attribute [local go_sem ↓] Go.wp_at_zero Go.wp_at_succ

def PickPostS (P : ByteArray → Prop) (w : World) (g B : Nat) (a : Option Addr) (len cap : Nat) (e : Ending) (w' : World) : Prop :=
  ∃ x : ByteArray, e = .returned (.string x) ∧ P x ∧ Cur w' g B a len cap ∧ w.grownBy w' (some g)
set_option maxHeartbeats 400000 in
theorem l01Pick_in (P : ByteArray → Prop) (w : World) (g B : Nat) (a : Option Addr) (len cap : Nat) (gl m : Nat) (hm : 0 < m) (hm2 : m ≤ 1000) (hne : gl ≠ g) (hl : ∀ j, j < m → ∃ y : ByteArray, w.cell? ⟨gl, j, none⟩ = some (.string y) ∧ P y) (hc : Cur w g B a len cap) :
    Calls Try.prog 50 #[.pointer (some ⟨g, 0, none⟩), .slice (some ⟨gl, 0, none⟩) m m] w fun e w' => PickPostS P w g B a len cap e w' := by
  have HC : Hid (Cur w g B a len cap) := hc
  have HL : Hid (∀ j, j < m → ∃ y : ByteArray, w.cell? ⟨gl, j, none⟩ = some (.string y) ∧ P y) := hl
  clear hc hl
  go_enter Try.func50, Try.ntmps50
  go_wp2_with fail
  refine (l01Below_any _ g B a len cap m (by omega) HC.out).mono ?_
  rintro e w1 ⟨x, rfl, x0, x1, hc1, hg1⟩
  have HC1 : Hid (Cur w1 g B a len cap) := hc1
  have HG : Hid (w.grownBy w1 (some g)) := hg1
  obtain ⟨j, rfl⟩ := Int.eq_ofNat_of_zero_le x0
  obtain ⟨y, hy, hp⟩ := HL.out j (by omega)
  have c1 := hg1.cell hy (by simp; omega)
  have j1 : (j : Int) < (m : Int) := by omega
  have HP : Hid (P y) := hp
  clear hc1 hg1 hy hp
  go_wp2_with fail
  go_ret
  exact ⟨y, rfl, HP.out, HC1.out, HG.out⟩
/-- Texts that were laid into a new row. -/
theorem new_texts (w : World) (t : TypeId) (P : ByteArray → Prop) (L : List ByteArray) (h : ∀ y ∈ L, P y) (j : Nat) (hj : j < L.length) :
    ∃ y : ByteArray, (w.alloc (.cells (L.map Value.string).toArray t)).cell? ⟨w.heap.size, j, none⟩ = some (.string y) ∧ P y := by
  rw [World.cell?_alloc_mark]
  exact ⟨L[j], by simp [hj], h _ (List.getElem_mem hj)⟩
end Go.Proofs.Ytdglbakdianjkaa
/- DrPth: The draws of paths. -/
namespace Go.Proofs.Ytdglbakdianjkaa
open Go.RowKit
attribute [local go_sem ↓] Go.wp_at_zero Go.wp_at_succ

def PathPost (m : Nat) (w : World) (g B : Nat) (a : Option Addr) (len cap : Nat) (e : Ending) (w' : World) : Prop :=
  ∃ t : ByteArray, e = .returned (.string t) ∧ t.size ≤ m ∧ Cur w' g B a len cap ∧ w.grownBy w' (some g)
set_option maxRecDepth 100000 in
set_option maxHeartbeats 1000000 in
theorem l09Path_any (w : World) (g B : Nat) (a : Option Addr) (len cap : Nat) (hc : Cur w g B a len cap) :
    Calls Try.prog 48 #[.pointer (some ⟨g, 0, none⟩)] w fun e w' => PathPost 16 w g B a len cap e w' := by
  have HC := Shut.mk hc
  have hgw := hc.2.1
  clear hc
  go_enter Try.func48, Try.ntmps48
  go_wp2_with fail
  go_loopw [3, 4] (fun s i wr => ∃ (k : Nat) (t : ByteArray), s = .string t ∧ i = .int .i64 k ∧ k ≤ 3 ∧ t.size ≤ 4 * k ∧ Shut (Cur wr g B a len cap) ∧ Shut (w.grownBy wr (some g))) (fun _ i _ => 3 - (intOf i).toNat)
  case atStart => exact ⟨0, _, rfl, rfl, by omega, by decide, HC, ⟨gb_below (Below.refl _ _)⟩⟩
  case round =>
    clear HC
    obtain ⟨k, t, rfl, rfl, hk, ht, hcur, hgr⟩ := hrel
    have k0 : (0 : Int) ≤ (k : Int) := by omega
    go_wp2_with fail
    refine (l01Below_any _ g B a len cap 3 (by omega) hcur.out).mono ?_
    rintro e w1 ⟨x, rfl, x0, x1, hc1, hg1⟩
    obtain ⟨m, rfl⟩ := Int.eq_ofNat_of_zero_le x0
    have HC1 := Shut.mk hc1
    have HG1 := Shut.mk (gb_two hgr.out hg1)
    have hg1w := hc1.2.1
    clear hc1 hg1 hcur hgr
    by_cases hlt : k < 1 + m
    · have hlt' : (k : Int) < 1 + (m : Int) := by omega
      have hlit : (#[.string ⟨#[97]⟩, .string ⟨#[98]⟩, .string ⟨#[99]⟩] : Array Value) = (List.map Value.string [⟨#[97]⟩, ⟨#[98]⟩, ⟨#[99]⟩]).toArray := rfl
      have HL := Shut.mk (new_texts w1 9 (fun y => y.size ≤ 3) [⟨#[97]⟩, ⟨#[98]⟩, ⟨#[99]⟩] (by decide))
      rw [← hlit] at HL
      clear hlit
      go_wp2_with fail
      refine (l01Pick_in (fun y => y.size ≤ 3) _ g B a len cap w1.heap.size 3 (by decide) (by decide) (by omega) HL.out (HC1.out.below ((Below.refl _ _).alloc (Nat.le_refl _) _))).mono ?_
      rintro e w2 ⟨y, rfl, hy, hc2, hg2⟩
      have HC2 := Shut.mk hc2
      have HG2 := Shut.mk (gb_two HG1.out (gb_two (gb_below ((Below.refl _ _).alloc (Nat.le_refl _) _)) hg2))
      clear hc2 hg2
      go_wp2_with fail
      go_roundw
      case rel => exact ⟨k + 1, _, rfl, by go_num, by omega, by
        have : (⟨#[47]⟩ : ByteArray).size = 1 := rfl
        simp only [ByteArray.size_append]; omega, HC2, HG2⟩
      case measure => simp [intOf]; omega
    · have hlt' : ¬ (k : Int) < 1 + (m : Int) := by omega
      go_wp2_with fail
      go_ret
      exact ⟨t, rfl, by omega, HC1.out, HG1.out⟩
theorem any_texts (w : World) (j : Nat) (hj : j < 11) : ∃ y : ByteArray, (w.alloc (.cells #[.string ⟨#[]⟩, .string ⟨#[47]⟩, .string ⟨#[97]⟩, .string ⟨#[47, 65]⟩, .string ⟨#[47, 47]⟩, .string ⟨#[47, 97, 47]⟩, .string ⟨#[47, 97, 47, 47, 98]⟩, .string ⟨#[47, 97, 47, 98, 47, 99, 47, 97]⟩, .string ⟨#[47, 97, 47, 98, 47, 99, 47, 97, 47, 98]⟩, .string ⟨#[47, 97, 98, 99, 100, 101, 102, 103, 104]⟩, .string ⟨#[47, 97, 98, 99, 100, 101, 102, 103, 104, 105]⟩] 9)).cell? ⟨w.heap.size, j, none⟩ = some (.string y) ∧ y.size ≤ 16 :=
  new_texts w 9 (fun y => y.size ≤ 16) [⟨#[]⟩, ⟨#[47]⟩, ⟨#[97]⟩, ⟨#[47, 65]⟩, ⟨#[47, 47]⟩, ⟨#[47, 97, 47]⟩, ⟨#[47, 97, 47, 47, 98]⟩, ⟨#[47, 97, 47, 98, 47, 99, 47, 97]⟩, ⟨#[47, 97, 47, 98, 47, 99, 47, 97, 47, 98]⟩, ⟨#[47, 97, 98, 99, 100, 101, 102, 103, 104]⟩, ⟨#[47, 97, 98, 99, 100, 101, 102, 103, 104, 105]⟩] (by decide) j hj
set_option maxRecDepth 100000 in
set_option maxHeartbeats 1000000 in
theorem l09Any_any (w : World) (g B : Nat) (a : Option Addr) (len cap : Nat) (hc : Cur w g B a len cap) :
    Calls Try.prog 38 #[.pointer (some ⟨g, 0, none⟩)] w fun e w' => PathPost 16 w g B a len cap e w' := by
  have HC := Shut.mk hc
  clear hc
  go_enter Try.func38, Try.ntmps38
  go_wp2_with fail
  refine (l01Once_any _ g B a len cap 6 (by omega) HC.out).mono ?_
  rintro e w1 ⟨b, rfl, hc1, hg1⟩
  have HC1 := Shut.mk hc1
  have HG1 := Shut.mk hg1
  have hgw := hc1.2.1
  clear hc1 hg1 HC
  cases b with
  | true =>
    have HL := Shut.mk (any_texts w1)
    go_wp2_with fail
    refine (l01Pick_in (fun y => y.size ≤ 16) _ g B a len cap w1.heap.size 11 (by decide) (by decide) (by omega) HL.out (HC1.out.below ((Below.refl _ _).alloc (Nat.le_refl _) _))).mono ?_
    rintro e w2 ⟨y, rfl, hy, hc2, hg2⟩
    have HC2 := Shut.mk hc2
    have HG2 := Shut.mk (gb_two HG1.out (gb_two (gb_below ((Below.refl _ _).alloc (Nat.le_refl _) _)) hg2))
    clear hc2 hg2
    go_wp2_with fail
    go_ret
    exact ⟨y, rfl, hy, HC2.out, HG2.out⟩
  | false =>
    go_wp2_with fail
    refine (l09Path_any _ g B a len cap HC1.out).mono ?_
    rintro e w2 ⟨t, rfl, ht, hc2, hg2⟩
    have HC2 := Shut.mk hc2
    have HG2 := Shut.mk (gb_two HG1.out hg2)
    clear hc2 hg2
    go_wp2_with fail
    go_ret
    exact ⟨t, rfl, ht, HC2.out, HG2.out⟩
end Go.Proofs.Ytdglbakdianjkaa
/- FrT: The laws' own comparison of two rows of texts. -/
namespace Go.Proofs.Ytdglbakdianjkaa
open Go.RowKit

end Go.Proofs.Ytdglbakdianjkaa
/- OpenC: The code that a drawn law is handed: what came in. -/
namespace Go.Proofs.Ytdglbakdianjkaa
open Go.RowKit Go.ChangeShapes Go.WideShapes
set_option maxRecDepth 100000 in
theorem open_code {H : Type} {enc : TypeId × Value → H} {W : World} {r : Reach} {b0 base : Nat} {held : Bool} {v : Value} {d : DataW H} {p : List MemPlace}
    (hv : Value.okWide Try.prog W r b0 22 v) (h : DataW.Trod enc Try.prog W base (fun _ => true) held 22 v d p) : ∃ a len cap, v = .slice a len cap ∧ (len ≤ 1048576 → CodeAt W W.heap.size a len) := by
  obtain ⟨a0, l0, c0, rfl⟩ := okWide_slice Try.underlying22 hv
  refine ⟨a0, l0, c0, rfl, fun hl => ?_⟩
  obtain ⟨fuel, hf⟩ := h
  rcases open_ints Try.underlying22 Try.underlying5 (by kernel_rfl) hf with ⟨hcs, _⟩ | ⟨x, l, c, zs, hcs, _, hl', hm, hz, _, hcell, hwz⟩
  · simp [Value.cells] at hcs
    obtain ⟨rfl, rfl, rfl⟩ := hcs
    exact code_at (cap := 0) (zs := []) hl (.inl ⟨rfl, rfl⟩)
  · simp [Value.cells] at hcs
    obtain ⟨rfl, rfl, rfl⟩ := hcs
    exact code_at (cap := c0) (zs := zs) hl (.inr ⟨_, rfl, hl', by simpa using hz, hcell, hwz⟩)
end Go.Proofs.Ytdglbakdianjkaa
/- LawPts: The walk of the law over paths, over what is told of the program's own functions. -/
namespace Go.Proofs.Ytdglbakdianjkaa
open Go.RowKit
attribute [local go_sem ↓] Go.wp_at_zero Go.wp_at_succ

structure PathsAll : Prop where
  name : ∀ (t : ByteArray) (w : World), t.size ≤ 1048576 → Calls Try.prog 63 #[.string t] w fun e w' => e = .returned (.bool (nameB t)) ∧ Below w.heap.size w w'
  split : ∀ (t : ByteArray) (w : World), t.size ≤ 1048576 → Calls Try.prog 59 #[.string t] w fun e w' => QPost (splitB t) w e w'
  join : ∀ (w : World) (u : Value) (L : List ByteArray) (lo hi : Nat), CSee w u L lo hi → TFit L → Calls Try.prog 60 #[u] w fun e w' => e = .returned (.string (joinB L)) ∧ Below w.heap.size w w'
  parent : ∀ (t : ByteArray) (w : World), t.size ≤ 1048576 → Calls Try.prog 55 #[.string t] w fun e w' => ParPost t w e w'
theorem eq_toList (x : ByteArray) : (x.toList == x.toList) = true := by simp
theorem slash_toList : ((⟨#[47]⟩ : ByteArray).toList == [47]) = true := by rw [Go.ByteArray.toList_eq]; rfl
theorem none_toList : ((⟨#[]⟩ : ByteArray).toList == []) = true := by rw [Go.ByteArray.toList_eq]; rfl
theorem join_size {I : List ByteArray} (h : TFit I) : (joinB I).size ≤ 1048576 := by
  by_cases e : I = []
  · subst e; decide
  · rw [joinB_ne e, joinA_size]; exact h
end Go.Proofs.Ytdglbakdianjkaa
/- PaL: The program's own JoinPath and ParentPath; all four together. -/
namespace Go.Proofs.Ytdglbakdianjkaa
open Go.RowKit
open Go.PlainAid (bt)
attribute [local go_sem ↓] Go.wp_at_zero Go.wp_at_succ

theorem lib_join (L : List (List UInt8)) : (47 :: Lib.join L [47]) = joinP L := by
  cases L with
  | nil => rfl
  | cons x L =>
    unfold joinP
    rw [if_neg (by simp)]
    induction L generalizing x with
    | nil => simp [Lib.join]
    | cons y L ih =>
      have := ih y
      simp only [List.map_cons, List.flatten_cons, List.cons_append, List.cons.injEq, true_and] at this ⊢
      rw [← this]
      simp [Lib.join]
theorem joinP_len (L : List ByteArray) (h : TFit L) : (Lib.join (L.map lb) [47]).length ≤ 2097152 := by
  have e := congrArg List.length (lib_join (L.map lb))
  have := join_size h
  have hb : (joinB L).size = (joinP (L.map lb)).length := by
    unfold joinB
    show (joinP (L.map lb)).toArray.size = _
    simp
  rw [List.length_cons] at e
  omega
set_option maxRecDepth 100000 in
set_option maxHeartbeats 1000000 in
theorem implJoinPath (w : World) (u : Value) (L : List ByteArray) (lo hi : Nat) (hu : CSee w u L lo hi) (hf : TFit L) : Calls Try.prog 60 #[u] w fun e w' => e = .returned (.string (joinB L)) ∧ Below w.heap.size w w' := by
  obtain ⟨a, cap, rfl, hc, hr⟩ := hu
  have hjl := joinP_len L hf
  have HJ : Shut (joinB L = (⟨#[47]⟩ : ByteArray) ++ ⟨(Lib.join (L.map lb) [47]).toArray⟩) := ⟨by
    unfold joinB
    rw [← lib_join]
    apply ByteArray.ext
    simp⟩
  by_cases h0 : L = []
  · subst h0
    have HN := Shut.mk (fun W => Try.strings_Join_none a cap ⟨#[47]⟩ W)
    clear hr hf hjl
    go_enter Try.func60, Try.ntmps60
    go_wp2_with fail
    refine (HN.out _).mono ?_
    rintro e w1 ⟨rfl, hw⟩
    subst hw
    go_wp2_with fail
    go_ret
    exact ⟨rfl, Below.refl _ _⟩
  · obtain ⟨b, off, rfl, hb, hcs⟩ := units_at hr (List.length_pos_iff.2 h0)
    have hn : L.length ≤ 1048576 := by unfold TFit at hf; omega
    have HN := Shut.mk (Try.strings_Join b off cap L ⟨#[47]⟩ w (fun j x hx => by
      obtain ⟨hj, e⟩ := List.getElem?_eq_some_iff.1 hx
      have := hcs j hj
      rw [this]
      simp [List.getD, hj, e]) hb (by omega) hc (by
        show (Lib.join (L.map lb) [47]).length ≤ _
        omega))
    have hsz : ((⟨(Lib.join (L.map lb) [47]).toArray⟩ : ByteArray)).size ≤ 2097152 := by
      show (Lib.join (L.map lb) [47]).toArray.size ≤ _
      simpa using hjl
    have HN' : Shut (Calls Try.prog 64 #[.slice (some ⟨b, off, none⟩) L.length cap, .string ⟨#[47]⟩] w fun e w' => e = .returned (.string ⟨(Lib.join (L.map lb) [47]).toArray⟩) ∧ Below w.heap.size w w') := HN
    generalize (⟨(Lib.join (L.map lb) [47]).toArray⟩ : ByteArray) = J at *
    clear hr hf hjl hcs HN h0
    go_enter Try.func60, Try.ntmps60
    go_wp2_with fail
    refine HN'.out.mono ?_
    rintro e w1 ⟨rfl, hb1⟩
    go_wp2_with fail
    go_ret
    exact ⟨by rw [HJ.out]; rfl, hb1⟩
theorem OwnAt.form {w : World} {base n : Nat} {v : Value} {L : List ByteArray} (h : OwnAt w base v n L) : ∃ a cap, v = .slice a n cap := by
  obtain ⟨_, ⟨e, h0⟩ | ⟨g, off, cap, e, _⟩⟩ := h
  · exact ⟨none, 0, by rw [e, h0]⟩
  · exact ⟨_, cap, e⟩
theorem OwnAt.some' {w : World} {base n : Nat} {v : Value} {L : List ByteArray} (h : OwnAt w base v n L) (hp : 0 < n) : ∃ g off cap, v = .slice (some ⟨g, off, none⟩) n cap ∧ n ≤ cap ∧ g < w.heap.size ∧ ∀ j, j < L.length → w.cell? ⟨g, off + j, none⟩ = some (.string (L.getD j ⟨#[]⟩)) := by
  obtain ⟨_, ⟨_, h0⟩ | ⟨g, off, cap, e, _, hn, _, hc⟩⟩ := h
  · omega
  · exact ⟨g, off, cap, e, hn, hc.1, fun j hj => (hc.2 j hj).1⟩
theorem CSee.below {w w' : World} {v : Value} {L : List ByteArray} {lo hi : Nat} (h : CSee w v L lo hi) (hb : Below w.heap.size w w') : CSee w' v L lo hi := by
  obtain ⟨a, cap, e, hc, hr⟩ := h
  obtain ⟨a', cap', e', hr'⟩ := (show SSee w v L lo hi from ⟨a, cap, e, hr⟩).below hb
  rw [e] at e'
  cases e'
  exact ⟨a, cap, e, hc, hr'⟩
set_option maxRecDepth 100000 in
set_option maxHeartbeats 2000000 in
theorem implParentPath (p : ByteArray) (w : World) (hs : p.size ≤ 1048576) : Calls Try.prog 55 #[.string p] w fun e w' => ParPost p w e w' := by
  have HS := Shut.mk (fun W => implSplitPath p W hs)
  have hnm := splitB_names p
  unfold QPost at HS
  unfold ParPost
  obtain ⟨L, ok, hre⟩ : ∃ L ok, splitB p = (L, ok) := ⟨_, _, rfl⟩
  rw [hre] at HS hnm
  have HN := Shut.mk hnm
  clear hnm
  cases ok with
  | false =>
    rw [parent_no hre (.inl rfl)]
    clear hre
    go_enter Try.func55, Try.ntmps55
    go_wp2_with fail
    refine (HS.out _).mono ?_
    rintro e w1 ⟨v, rfl, ho, hb⟩
    obtain ⟨a, cap, rfl⟩ := ho.form
    have HB := Shut.mk hb
    clear ho hb
    go_wp2_with fail
    go_ret3
    exact ⟨rfl, HB.out⟩
  | true =>
    rcases List.eq_nil_or_concat L with rfl | ⟨I, x, rfl⟩
    · rw [parent_no hre (.inr rfl)]
      clear hre
      go_enter Try.func55, Try.ntmps55
      go_wp2_with fail
      refine (HS.out _).mono ?_
      rintro e w1 ⟨v, rfl, ho, hb⟩
      obtain ⟨a, cap, rfl⟩ := ho.form
      have HB := Shut.mk hb
      clear ho hb
      go_wp2_with fail
      go_ret3
      exact ⟨rfl, HB.out⟩
    · rw [List.concat_eq_append] at *
      rw [parent_yes hre]
      obtain ⟨J, hJ⟩ : ∃ J, J = joinB I := ⟨_, rfl⟩
      have HJE := Shut.mk hJ
      rw [← hJ]
      clear hJ
      have h4 := HN.out.2
      have HF : Shut (TFit I) := ⟨names_fit (fun s h => HN.out.1 s (List.mem_append.2 (.inl h))) (by rw [List.length_append] at h4; omega)⟩
      obtain ⟨m, hm⟩ : ∃ m, m = I.length := ⟨_, rfl⟩
      have HM := Shut.mk hm
      have hm4 : m ≤ 4 := by rw [List.length_append] at h4; omega
      rw [show (I ++ [x], true).1.length = m + 1 by simp [hm]] at HS
      clear hre h4 hm
      go_enter Try.func55, Try.ntmps55
      go_wp2_with fail
      refine (HS.out _).mono ?_
      rintro e w1 ⟨v, rfl, ho, hb⟩
      obtain ⟨g, off, cap, rfl, hcap, hg, hcs⟩ := ho.some' (by omega)
      have d0 : w1.cell? ⟨g, off + m, none⟩ = some (.string x) := by
        rw [hcs m (by rw [List.length_append, HM.out]; simp)]
        simp [List.getD, HM.out]
      have hsee : CSee w1 (.slice (some ⟨g, off, none⟩) m cap) I 0 w1.heap.size := ⟨_, cap, by rw [HM.out], by rw [← HM.out]; omega, fun _ => ⟨g, off, rfl, Nat.zero_le _, hg, hg, fun i u hu => by
        have hi : i < I.length := by
          have := (List.getElem?_eq_some_iff.1 hu).1
          rwa [tv_len] at this
        rw [tv_get I i hi] at hu
        cases hu
        rw [hcs i (by rw [List.length_append]; omega)]
        simp [List.getD, List.getElem?_append_left hi]⟩⟩
      have HJ := Shut.mk (fun W (hW : Below w1.heap.size w1 W) => implJoinPath W _ _ _ _ (hsee.below hW) HF.out)
      have HB := Shut.mk hb
      have hm0 : (((m + 1 : Nat) : Int) == 0) = false := by rw [beq_eq_false_iff_ne]; omega
      obtain ⟨n, hn⟩ : ∃ n, n = m + 1 := ⟨_, rfl⟩
      rw [← hn] at hcap hm0 ⊢
      have hnm : (n : Int) - 1 = (m : Int) := by omega
      have hmn : (m : Int) < (n : Int) := by omega
      have hmc : (m : Int) ≤ (cap : Int) := by omega
      have hm9 : (0 : Int) ≤ (m : Int) := by omega
      have hwr : IntKind.i64.wrap ((n : Int) - 1) = (m : Int) := by rw [hnm]; exact IntWalk.i64_in _ ⟨by omega, by omega⟩
      rw [← HJE.out] at HJ
      clear ho hb hcs hsee hn HN HM hnm
      go_wp2_with fail
      go_region_held3 (fun w' => w'.cell? ⟨g, off + m, none⟩ = some (.string x))
        (first | assumption | (exact (hb9.cell (p := ⟨g, off + m, none⟩) hg).trans (by assumption)) | go_keep)
        (first | (go_at_call 60; refine (HJ.out _ (by first | exact Below.refl _ _ | exact Below.drew (Below.refl _ _))).mono ?_; rintro e w9 ⟨rfl, hb9⟩))
      all_goals
        go_wp2_with fail
        go_ret3
        exact ⟨rfl, by first | exact HB.out.trans (hb9.mono HB.out.size) | exact HB.out.trans (((Below.drew (Below.refl w1.heap.size w1)).trans hb9).mono HB.out.size)⟩
theorem pathsAll : PathsAll := ⟨implNameOk, implSplitPath, implJoinPath, implParentPath⟩
end Go.Proofs.Ytdglbakdianjkaa
/- SpnB: Rows of numbers as values; the walk of the model's Spans. -/
namespace Go.Proofs.Ytdglbakdianjkaa
open Go.RowKit
attribute [local go_sem ↓] Go.wp_at_zero Go.wp_at_succ

/-- A value that is these numbers, in memory of its own. -/
def IAns (w : World) (v : Value) (xs : List Int) (lo hi : Nat) : Prop := ∃ (a : Option Addr) (cap : Nat), v = .slice a xs.length cap ∧ xs.length ≤ cap ∧ (xs = [] ∨ ∃ g, a = some ⟨g, 0, none⟩ ∧ lo ≤ g ∧ g < hi ∧ WCells w g (ics xs))
theorem IAns.empty (w : World) (a : Option Addr) (cap lo hi : Nat) : IAns w (.slice a 0 cap) [] lo hi := ⟨a, cap, rfl, Nat.zero_le _, .inl rfl⟩
theorem IAns.crow {w : World} {v : Value} {xs : List Int} {lo hi : Nat} (h : IAns w v xs lo hi) : ∃ a cap, v = .slice a xs.length cap ∧ CRow w a (ics xs) := by
  obtain ⟨a, cap, e, _, q⟩ := h
  refine ⟨a, cap, e, ?_⟩
  rcases q with rfl | ⟨g, rfl, _, _, q⟩
  · intro h; simp [ics] at h
  · exact q.crow
theorem IAns.turned {w w' : World} {v : Value} {xs : List Int} {lo hi lo' hi' : Nat} (h : IAns w v xs lo hi) (t : Turned w w' lo' hi') (hd : hi ≤ lo' ∨ hi' ≤ lo) : IAns w' v xs lo hi := by
  obtain ⟨a, cap, e, hc, q⟩ := h
  refine ⟨a, cap, e, hc, ?_⟩
  rcases q with rfl | ⟨g, rfl, h1, h2, h3⟩
  · exact .inl rfl
  · exact .inr ⟨g, rfl, h1, h2, h3.turned t (by omega)⟩
theorem IAns.below {w w' : World} {v : Value} {xs : List Int} {lo hi : Nat} (h : IAns w v xs lo hi) (hb : Below w.heap.size w w') : IAns w' v xs lo hi := by
  obtain ⟨a, cap, e, hc, q⟩ := h
  refine ⟨a, cap, e, hc, ?_⟩
  rcases q with rfl | ⟨g, rfl, h1, h2, h3⟩
  · exact .inl rfl
  · exact .inr ⟨g, rfl, h1, h2, h3.below hb h3.1⟩
def IPost (xs : List Int) (w : World) (e : Ending) (w' : World) : Prop := ∃ v, e = .returned v ∧ IAns w' v xs w.heap.size w'.heap.size ∧ Below w.heap.size w w'
theorem own_ians {w w' : World} {v : Value} {xs : List Int} {n : Nat} (hn : xs.length = n) (h : w'.ownsRow w.heap.size 3 1 v n (ics xs)) : IAns w' v xs w.heap.size w'.heap.size := by
  have hlt := h.lt
  have hown := h
  subst hn
  obtain ⟨_, ⟨rfl, h0⟩ | ⟨g, cap, cur, rfl, hB, hcur, hn, _⟩⟩ := h
  · have : xs = [] := List.eq_nil_of_length_eq_zero h0
    subst this
    exact IAns.empty _ _ _ _ _
  · exact ⟨_, cap, rfl, hn, .inr ⟨g, rfl, hB, (hlt g rfl).2, own_wcells hown⟩⟩
/-- The lengths of the groups of so many bytes. -/
def spanL (S n : Nat) : List Int := List.replicate ((n - 1) / S) (S : Int) ++ [((n - (n - 1) / S * S : Nat) : Int)]
def spansX (s n : Int) : List Int := if schOk s = true ∧ 1 ≤ n ∧ n ≤ 1000 then spanL (groupN s) n.toNat else []
theorem spansX_no {s n : Int} (h : ¬ (schOk s = true ∧ 1 ≤ n ∧ n ≤ 1000)) : spansX s n = [] := if_neg h
theorem group_pos {s : Int} (h : schOk s = true) : 16 ≤ groupN s := by have := (sch_bounds h).1; unfold groupN; omega
theorem group_zero {s : Int} (h : schOk s = false) : groupN s = 0 := by unfold groupN; rw [(sch_zero h).1]
theorem span_last {S n j : Nat} (hS : 0 < S) (h1 : j * S < n) (h2 : n ≤ j * S + S) : (n - 1) / S = j := by
  have e : n - 1 = (n - 1 - j * S) + j * S := by omega
  rw [e, Nat.add_mul_div_right _ _ hS, Nat.div_eq_of_lt (by omega), Nat.zero_add]
end Go.Proofs.Ytdglbakdianjkaa
/- StI: The program's own SchemaOf, GroupSize, PlaceOf, OffsetOf and Spans. -/
namespace Go.Proofs.Ytdglbakdianjkaa
open Go.RowKit
attribute [local go_sem ↓] Go.wp_at_zero Go.wp_at_succ

theorem implSch (s : Int) (w : World) : Calls Try.prog 56 #[.int .i64 s] w fun e w' => SchPost s w e w' := by
  cases h : schOk s with
  | true =>
    obtain rfl | rfl | rfl := sch_cases h
    all_goals
      clear h
      go_enter Try.func56, Try.ntmps56
      go_wp2_with fail
      go_ret3
      exact ⟨rfl, rfl⟩
  | false =>
    obtain ⟨h1, h2, h3⟩ := sch_no h
    obtain ⟨e1, e2⟩ := sch_zero h
    unfold SchPost
    rw [e1, e2, h]
    clear h e1 e2
    go_enter Try.func56, Try.ntmps56
    go_wp2_with fail
    go_ret3
    exact ⟨rfl, rfl⟩
theorem span_one {S n j : Nat} (h1 : j * S < n) (h2 : n ≤ j * S + S) (hS : 0 < S) : spanL S n = List.replicate j (S : Int) ++ [((n - j * S : Nat) : Int)] := by
  unfold spanL
  rw [span_last hS h1 h2]
end Go.Proofs.Ytdglbakdianjkaa
/- SchQ: The program's own test of a schema. -/
namespace Go.Proofs.Ytdglbakdianjkaa
open Go.RowKit BigFrame
attribute [local go_sem ↓] Go.wp_at_zero Go.wp_at_succ

theorem sch_in (s : Int) : schOk s = inI s 1 3 := by
  cases h : schOk s with
  | true =>
    obtain rfl | rfl | rfl := sch_cases h <;> rfl
  | false =>
    obtain ⟨h1, h2, h3⟩ := sch_no h
    symm
    refine Bool.eq_false_iff.2 fun hc => ?_
    have := inI_iff.1 hc
    omega
theorem implSchemaOk (s : Int) (w : World) : Calls Try.prog 46 #[.int .i64 s] w fun e w' => e = .returned (.bool (inI s 1 3)) ∧ w' = w := by
  have HS := Shut.mk (fun W => implSch s W)
  unfold SchPost at HS
  rw [sch_in] at HS
  generalize inI s 1 3 = ok at *
  generalize schM s = m at *
  generalize schK s = k at *
  go_enter Try.func46, Try.ntmps46
  go_wp2_with fail
  refine (HS.out _).mono ?_
  rintro e w1 ⟨rfl, rfl⟩
  go_wp2_with fail
  go_ret
  exact ⟨rfl, rfl⟩
end Go.Proofs.Ytdglbakdianjkaa
/- EdP: The program's own test of a record. -/
namespace Go.Proofs.Ytdglbakdianjkaa
open Go.RowKit BigFrame
attribute [local go_sem ↓] Go.wp_at_zero Go.wp_at_succ

theorem implHasName (p : ByteArray) (w : World) (hs : p.size ≤ 1048576) : Calls Try.prog 45 #[.string p] w fun e w' => e = .returned (.bool (named p)) ∧ Below w.heap.size w w' := by
  have HC := Shut.mk (fun W => implParentPath p W hs)
  unfold ParPost at HC
  have e0 : named p = (parentB p).2.2 := rfl
  rw [e0]
  generalize (parentB p).2.2 = a at *
  generalize (parentB p).2.1 = b at *
  generalize (parentB p).1 = c at *
  clear hs e0
  go_enter Try.func45, Try.ntmps45
  go_wp2_with fail
  refine (HC.out _).mono ?_
  rintro e w1 ⟨rfl, hb⟩
  go_wp2_with fail
  go_ret
  exact ⟨rfl, hb⟩
/-- What the program asks of a record's path, of where it goes, of its number, of who. -/
def pathQ (e : EM) : Bool := if e.kind = 10 then e.path.toList == [47] else if e.kind = 5 ∨ e.kind = 6 then (e.path.toList == [47]) || named e.path else named e.path
def destQ (e : EM) : Bool := if e.kind = 3 then named e.dest else e.dest.toList == []
def numQ (e : EM) : Bool := if e.kind = 5 then inI e.num 1 3 else if e.kind = 6 then inI e.num 0 1000 else if e.kind = 7 then inI e.num 1 200 else e.num == 0
def whoQ (e : EM) : Bool := if e.kind = 2 ∨ e.kind = 9 then inI e.who 1 9 else e.who == 0
theorem not_named_nil {p : ByteArray} (h : (p.toList == []) = true) : named p = false := by
  rw [Go.ByteArray.toList_eq, beq_iff_eq] at h
  have hp : p = ⟨#[]⟩ := ByteArray.ext (Array.toList_inj.1 h)
  subst hp
  rfl
theorem edit_is (e : EM) : editOk e = (inI e.kind 1 10 && pathQ e && destQ e && numQ e && whoQ e) := by
  unfold editOk pathBad numsOk pathQ destQ numQ whoQ
  have hn := @not_named_nil e.dest
  generalize named e.dest = nd at *
  generalize named e.path = np at *
  generalize (e.path.toList == [47]) = rt at *
  have hne : (e.dest.toList != []) = !(e.dest.toList == []) := rfl
  rw [hne]
  generalize (e.dest.toList == []) = te at *
  generalize inI e.num 1 3 = a1 at *
  generalize inI e.num 0 1000 = a2 at *
  generalize inI e.num 1 200 = a3 at *
  generalize inI e.who 1 9 = a4 at *
  generalize (e.num == 0) = a5 at *
  generalize (e.who == 0) = a6 at *
  cases hk : inI e.kind 1 10 with
  | false => simp
  | true =>
    have hk' := inI_iff.1 hk
    have hc : e.kind = 1 ∨ e.kind = 2 ∨ e.kind = 3 ∨ e.kind = 4 ∨ e.kind = 5 ∨ e.kind = 6 ∨ e.kind = 7 ∨ e.kind = 8 ∨ e.kind = 9 ∨ e.kind = 10 := by omega
    rcases hc with h | h | h | h | h | h | h | h | h | h <;> rw [h] <;> simp <;> revert hn <;> cases nd <;> cases te <;> simp <;> cases np <;> cases rt <;> simp [Bool.and_comm]
set_option maxRecDepth 100000 in
set_option maxHeartbeats 1000000 in
theorem implPathQ (e : EM) (w : World) (hf : EFit e) : Calls Try.prog 27 #[ev e] w fun r w' => r = .returned (.bool (pathQ e)) ∧ Below w.heap.size w w' := by
  have HN := Shut.mk (fun W => implHasName e.path W hf.1)
  have HR : Shut (pathQ e = if e.kind = 10 then e.path.toList == [47] else if e.kind = 5 ∨ e.kind = 6 then (e.path.toList == [47]) || named e.path else named e.path) := ⟨rfl⟩
  generalize pathQ e = R at *
  generalize named e.path = np at *
  obtain ⟨kind, path, dest, num, who⟩ := e
  dsimp only at *
  clear hf
  go_enter Try.func27, Try.ntmps27
  go_wp2_with (go_at_call 45; refine (HN.out _).mono ?_; rintro r w1 ⟨rfl, hb1⟩)
  all_goals
    go_ret
    refine ⟨by rw [HR.out]; (try simp only [beq_iff_eq, beq_eq_false_iff_ne, ne_eq] at *); simp [*], ?_⟩
    first
      | exact (Below.refl _ _).alloc (Nat.le_refl _) _
      | exact ((Below.refl _ _).alloc (Nat.le_refl _) _).trans (hb1.mono (by simp))
set_option maxRecDepth 100000 in
set_option maxHeartbeats 1000000 in
theorem implDestQ (e : EM) (w : World) (hf : EFit e) : Calls Try.prog 28 #[ev e] w fun r w' => r = .returned (.bool (destQ e)) ∧ Below w.heap.size w w' := by
  have HN := Shut.mk (fun W => implHasName e.dest W hf.2)
  have HR : Shut (destQ e = if e.kind = 3 then named e.dest else e.dest.toList == []) := ⟨rfl⟩
  generalize destQ e = R at *
  generalize named e.dest = np at *
  obtain ⟨kind, path, dest, num, who⟩ := e
  dsimp only at *
  clear hf
  go_enter Try.func28, Try.ntmps28
  go_wp2_with (go_at_call 45; refine (HN.out _).mono ?_; rintro r w1 ⟨rfl, hb1⟩)
  all_goals
    go_ret
    refine ⟨by rw [HR.out]; (try simp only [beq_iff_eq, beq_eq_false_iff_ne, ne_eq] at *); simp [*], ?_⟩
    first
      | exact (Below.refl _ _).alloc (Nat.le_refl _) _
      | exact ((Below.refl _ _).alloc (Nat.le_refl _) _).trans (hb1.mono (by simp))
set_option maxRecDepth 100000 in
set_option maxHeartbeats 1000000 in
theorem implNumQ (e : EM) (w : World) : Calls Try.prog 29 #[ev e] w fun r w' => r = .returned (.bool (numQ e)) ∧ Below w.heap.size w w' := by
  have HR : Shut (numQ e = if e.kind = 5 then inI e.num 1 3 else if e.kind = 6 then (decide (0 ≤ e.num) && decide (e.num ≤ 1000)) else if e.kind = 7 then (decide (1 ≤ e.num) && decide (e.num ≤ 200)) else e.num == 0) := ⟨rfl⟩
  generalize numQ e = R at *
  obtain ⟨kind, path, dest, num, who⟩ := e
  dsimp only at *
  go_enter Try.func29, Try.ntmps29
  go_wp2_with (go_at_call 46; refine (implSchemaOk _ _).mono ?_; rintro r w1 ⟨rfl, rfl⟩)
  all_goals
    go_ret
    refine ⟨by rw [HR.out]; (try simp only [beq_iff_eq, beq_eq_false_iff_ne, ne_eq] at *); first | (simp [*]; done) | (simp [*]; omega), ?_⟩
    exact (Below.refl _ _).alloc (Nat.le_refl _) _
set_option maxRecDepth 100000 in
set_option maxHeartbeats 1000000 in
theorem implWhoQ (e : EM) (w : World) : Calls Try.prog 30 #[ev e] w fun r w' => r = .returned (.bool (whoQ e)) ∧ Below w.heap.size w w' := by
  have HR : Shut (whoQ e = if e.kind = 2 ∨ e.kind = 9 then (decide (1 ≤ e.who) && decide (e.who ≤ 9)) else e.who == 0) := ⟨rfl⟩
  generalize whoQ e = R at *
  obtain ⟨kind, path, dest, num, who⟩ := e
  dsimp only at *
  go_enter Try.func30, Try.ntmps30
  go_wp2_with fail
  all_goals
    go_ret
    refine ⟨by rw [HR.out]; (try simp only [beq_iff_eq, beq_eq_false_iff_ne, ne_eq] at *); first | (simp [*]; done) | (simp [*]; omega), ?_⟩
    exact (Below.refl _ _).alloc (Nat.le_refl _) _
end Go.Proofs.Ytdglbakdianjkaa
/- EdQ: The program's own EditOk. -/
namespace Go.Proofs.Ytdglbakdianjkaa
open Go.RowKit BigFrame
attribute [local go_sem ↓] Go.wp_at_zero Go.wp_at_succ

theorem ec_new (w : World) (e : EM) (T : TypeId) : EC w w.heap.size e (w.alloc (.cells #[.int .i64 e.kind, .string e.path, .string e.dest, .int .i64 e.num, .int .i64 e.who] T)) := by
  have h := wcells_new w #[.int .i64 e.kind, .string e.path, .string e.dest, .int .i64 e.num, .int .i64 e.who] T
  exact ⟨(h.2 0 _ rfl).1, (h.2 1 _ rfl).1, (h.2 2 _ rfl).1, (h.2 3 _ rfl).1, (h.2 4 _ rfl).1, ⟨(Below.refl _ _).alloc (Nat.le_refl _) _⟩⟩
set_option maxRecDepth 100000 in
set_option maxHeartbeats 1000000 in
theorem implEditOk (e : EM) (w : World) (hf : EFit e) : Calls Try.prog 12 #[ev e] w fun r w' => r = .returned (.bool (editOk e)) ∧ Below w.heap.size w w' := by
  have H1 := Shut.mk (fun W => implPathQ e W hf)
  have H2 := Shut.mk (fun W => implDestQ e W hf)
  have H3 := Shut.mk (fun W => implNumQ e W)
  have H4 := Shut.mk (fun W => implWhoQ e W)
  have HR := Shut.mk (edit_is e)
  have HN := Shut.mk (ec_new w e 25)
  generalize editOk e = R at *
  generalize pathQ e = q1 at *
  generalize destQ e = q2 at *
  generalize numQ e = q3 at *
  generalize whoQ e = q4 at *
  unfold inI at HR
  obtain ⟨kind, path, dest, num, who⟩ := e
  dsimp only at *
  clear hf
  go_enter Try.func12, Try.ntmps12
  go_wp2_with (first
    | (go_at_call 27; refine (H1.out _).mono ?_; rintro r w1 ⟨rfl, hb1⟩; obtain ⟨c0, c1, c2, c3, c4, hB⟩ := HN.out.below hb1; clear hb1; dsimp only at c0 c1 c2 c3 c4)
    | (go_at_call 28; refine (H2.out _).mono ?_; rintro r w1 ⟨rfl, hb1⟩; obtain ⟨c0, c1, c2, c3, c4, hB⟩ := EC.below (e := ⟨kind, path, dest, num, who⟩) ⟨c0, c1, c2, c3, c4, hB⟩ hb1; clear hb1; dsimp only at c0 c1 c2 c3 c4)
    | (go_at_call 29; refine (H3.out _).mono ?_; rintro r w1 ⟨rfl, hb1⟩; obtain ⟨c0, c1, c2, c3, c4, hB⟩ := EC.below (e := ⟨kind, path, dest, num, who⟩) ⟨c0, c1, c2, c3, c4, hB⟩ hb1; clear hb1; dsimp only at c0 c1 c2 c3 c4)
    | (go_at_call 30; refine (H4.out _).mono ?_; rintro r w1 ⟨rfl, hb1⟩; obtain ⟨c0, c1, c2, c3, c4, hB⟩ := EC.below (e := ⟨kind, path, dest, num, who⟩) ⟨c0, c1, c2, c3, c4, hB⟩ hb1; clear hb1; dsimp only at c0 c1 c2 c3 c4))
  all_goals
    go_ret
    refine ⟨by rw [HR.out]; first | (simp [*]; done) | (simp [*]; omega), ?_⟩
    first
      | exact hB.out
      | exact (Below.refl _ _).alloc (Nat.le_refl _) _
end Go.Proofs.Ytdglbakdianjkaa
/- Var: The walks of the two VarText: each returns the bytes 'vt n'. -/
namespace Go.Proofs.Ytdglbakdianjkaa
open Go.RowKit

theorem implVarText_no (n : Int) (w : World) (hn : n < 0 ∨ 1000000000 < n) :
    Calls Try.prog 22 #[.int .i64 n] w fun e w' => e = .returned (.tuple #[.string ⟨#[]⟩, .bool false]) ∧ Below w.heap.size w w' := by
  rcases hn with h | h
  · go_enter Try.func22, Try.ntmps22
    go_wp2_with fail
    go_ret2
    exact ⟨rfl, Below.refl _ _⟩
  · have h0 : ¬ n < 0 := by omega
    go_enter Try.func22, Try.ntmps22
    go_wp2_with fail
    go_ret2
    exact ⟨rfl, Below.refl _ _⟩
set_option maxHeartbeats 400000 in
theorem implVarText_yes (n : Nat) (w : World) (hn : n ≤ 1000000000) :
    Calls Try.prog 22 #[.int .i64 n] w fun e w' => e = .returned (.tuple #[.string ⟨(W.vt n).toArray⟩, .bool true]) ∧ Below w.heap.size w w' := by
  obtain ⟨i0, hi, hz0, hz1, hz2⟩ := info_parts Try.info5
  have h1 : decide ((n : Int) < 0) = false := by simp
  have h2 : decide ((1000000000 : Int) < n) = false := by simp; omega
  go_enter Try.func22, Try.ntmps22
  go_wp2_with fail
  go_loopw [0, 4] (fun i v wr => ∃ (m : Nat) (l : List UInt8), i = .int .i64 m ∧ l.length + m ≤ n ∧ l ++ W.vt m = W.vt n ∧ wr.ownsRow w.heap.size 5 1 v l.length (bv l) ∧ Below w.heap.size w wr) (fun i _ _ => (intOf i).toNat)
  case atStart => exact ⟨n, [], rfl, by simp, rfl, World.ownsRow_nil w _ _ _, Below.refl _ _⟩
  case round =>
    obtain ⟨m, l, rfl, hl, ht, hown, hb⟩ := hrel
    have hB := hb.size
    have HT : Hid (l ++ W.vt m = W.vt n) := ht
    clear ht
    by_cases hm : 127 < m
    · go_wp2_with (at_builtin; refine wpList_append_own _ rfl _ _ 22 rfl w.heap.size 5 i0 (.int .u8 0) 1 1 Try.underlying22 hi hz0 hz1 hz2 rfl (by decide) _ _ _ rfl (hown.alloc _) ⟨wr.heap.size, 0, none⟩ 1 1 [.int .u8 _] rfl rfl (cell_one_new _ _ _) ?c2 ?c3 ?c4 ?c5 ?_)
      case c2 => intro u hu; simp at hu; subst hu; rfl
      case c3 => unfold maxLen; omega
      case c4 => omega
      case c5 => simp; omega
      · intro v' w1 hown' hgrow _
        obtain ⟨l', h1, h2, h3, h4⟩ := step_byte hB (by omega) hm hl HT.out hown hb hown' hgrow
        have H2 : Hid (l' ++ W.vt (m / 128) = W.vt n) := h2
        clear hown' hgrow hown h2
        go_wp2
        go_roundw
        case rel => exact ⟨m / 128, l', by go_num, h1, H2.out, h3, h4⟩
        case measure => simp [intOf]; omega
    · go_wp2_with (at_builtin; refine wpList_append_own _ rfl _ _ 22 rfl w.heap.size 5 i0 (.int .u8 0) 1 1 Try.underlying22 hi hz0 hz1 hz2 rfl (by decide) _ _ _ rfl (hown.alloc _) ⟨wr.heap.size, 0, none⟩ 1 1 [.int .u8 _] rfl rfl (cell_one_new _ _ _) ?c2 ?c3 ?c4 ?c5 ?_)
      case c2 => intro u hu; simp at hu; subst hu; rfl
      case c3 => unfold maxLen; omega
      case c4 => omega
      case c5 => simp; omega
      · intro v' w1 hown' hgrow _
        obtain ⟨hc, h4⟩ := last_byte hB (by omega) (by omega) HT.out hown hb hown' hgrow
        clear hown' hgrow hown
        go_wp2
        go_ret2
        exact ⟨rfl, h4⟩
end Go.Proofs.Ytdglbakdianjkaa
/- ShortText: The walks of the two ShortText. -/
namespace Go.Proofs.Ytdglbakdianjkaa
open Go.RowKit

/-- What ShortText writes. -/
def shortB (s : ByteArray) : ByteArray := ⟨(W.vt s.size).toArray⟩ ++ s

theorem implShortText_no (s : ByteArray) (w : World) (h : 20000 < s.size) :
    Calls Try.prog 21 #[.string s] w fun e w' => e = .returned (.tuple #[.string ⟨#[]⟩, .bool false]) ∧ Below w.heap.size w w' := by
  go_enter Try.func21, Try.ntmps21
  go_wp2_with fail
  go_ret2
  exact ⟨rfl, Below.refl _ _⟩
theorem implShortText_yes (s : ByteArray) (w : World) (h : s.size ≤ 20000) :
    Calls Try.prog 21 #[.string s] w fun e w' => e = .returned (.tuple #[.string (shortB s), .bool true]) ∧ Below w.heap.size w w' := by
  have hl := W.vt_len s.size
  go_enter Try.func21, Try.ntmps21
  go_wp2_with fail
  refine (implVarText_yes s.size _ (by omega)).mono ?_
  rintro e w1 ⟨rfl, hb⟩
  go_wp2_with fail
  go_ret2
  exact ⟨rfl, hb⟩
end Go.Proofs.Ytdglbakdianjkaa
/- EdR: The program's own EditText. -/
namespace Go.Proofs.Ytdglbakdianjkaa
open Go.RowKit BigFrame
attribute [local go_sem ↓] Go.wp_at_zero Go.wp_at_succ

theorem flat_size (L : List (List UInt8)) (h : ∀ l ∈ L, nameL l = true) : ((L.map (47 :: ·)).flatten).length ≤ 9 * L.length := by
  induction L with
  | nil => simp
  | cons x L ih =>
    have h1 := (nameL_pos (h x (by simp))).2
    have h2 := ih fun l hl => h l (by simp [hl])
    simp only [List.map_cons, List.flatten_cons, List.length_append, List.length_cons]
    omega
theorem split_size {p : List UInt8} (h : (splitP p).2 = true) : p.length ≤ 36 := by
  have e := join_split h
  obtain ⟨h1, h2⟩ := split_names (p := p)
  rw [← e]
  unfold joinP
  split
  · simp
  · have := flat_size _ h1
    omega
theorem named_size {p : ByteArray} (h : named p = true) : p.size ≤ 36 := by
  unfold named parentB at h
  split at h
  · rename_i hc
    exact split_size (p := lb p) hc.1
  · cases h
theorem edit_small {e : EM} (h : editOk e = true) : e.path.size ≤ 36 ∧ e.dest.size ≤ 36 := by
  rw [edit_is] at h
  simp only [Bool.and_eq_true] at h
  obtain ⟨⟨⟨⟨-, h1⟩, h2⟩, -⟩, -⟩ := h
  have one : ∀ p : ByteArray, (p.toList == [47]) = true → p.size ≤ 36 := fun p hp => by
    rw [Go.ByteArray.toList_eq, beq_iff_eq] at hp
    have : p.data.size = 1 := by rw [← Array.length_toList, hp]; rfl
    show p.data.size ≤ _
    omega
  have nil : ∀ p : ByteArray, (p.toList == []) = true → p.size ≤ 36 := fun p hp => by
    rw [Go.ByteArray.toList_eq, beq_iff_eq] at hp
    have : p.data.size = 0 := by rw [← Array.length_toList, hp]; rfl
    show p.data.size ≤ _
    omega
  refine ⟨?_, ?_⟩
  · unfold pathQ at h1
    split at h1
    · exact one _ h1
    · split at h1
      · rw [Bool.or_eq_true] at h1
        exact h1.elim (one _) named_size
      · exact named_size h1
  · unfold destQ at h2
    split at h2
    · exact named_size h2
    · exact nil _ h2
theorem editT_short (e : EM) : editT e = ⟨#[UInt8.ofNat e.kind.toNat, UInt8.ofNat e.who.toNat]⟩ ++ shortB e.path ++ shortB e.dest ++ (⟨(W.vt e.num.toNat).toArray⟩ : ByteArray) := by
  unfold editT shortB vb
  simp only [ByteArray.append_assoc]
set_option maxRecDepth 100000 in
set_option maxHeartbeats 1000000 in
theorem implEditText (e : EM) (w : World) (hf : EFit e) : Calls Try.prog 9 #[ev e] w fun r w' => r = .returned (.tuple #[.string (if editOk e then editT e else ⟨#[]⟩), .bool (editOk e)]) ∧ Below w.heap.size w w' := by
  have HOK := Shut.mk (fun W => implEditOk e W hf)
  have HN := Shut.mk (ec_new w e 25)
  cases hok : editOk e with
  | false =>
    rw [hok] at HOK
    clear hok
    obtain ⟨kind, path, dest, num, who⟩ := e
    go_enter Try.func9, Try.ntmps9
    go_wp2_with (go_at_call 12; refine (HOK.out _).mono ?_; rintro e w1 ⟨rfl, hb1⟩)
    go_ret2
    exact ⟨rfl, ((Below.refl _ _).alloc (Nat.le_refl _) _).trans (hb1.mono (by simp))⟩
  | true =>
    rw [hok] at HOK
    obtain ⟨n1, n2, n3, n4, n5, n6⟩ := edit_nums hok
    obtain ⟨s1, s2⟩ := edit_small hok
    have hT := editT_short e
    obtain ⟨kind, path, dest, num, who⟩ := e
    dsimp only at *
    clear hok hf
    obtain ⟨n, rfl⟩ := Int.eq_ofNat_of_zero_le n5
    have v1 := W.vt_len path.size
    have v2 := W.vt_len dest.size
    have v3 := W.vt_len n
    have HV1 := Shut.mk (fun W => implShortText_yes path W (by omega))
    have HV2 := Shut.mk (fun W => implShortText_yes dest W (by omega))
    have HV3 := Shut.mk (fun W => implVarText_yes n W (by omega))
    have t1 : (shortB path).size ≤ 2000000 := by unfold shortB; rw [ByteArray.size_append]; show (W.vt path.size).toArray.size + _ ≤ _; rw [List.size_toArray]; omega
    have t2 : (shortB dest).size ≤ 2000000 := by unfold shortB; rw [ByteArray.size_append]; show (W.vt dest.size).toArray.size + _ ≤ _; rw [List.size_toArray]; omega
    have t3 : (⟨(W.vt n).toArray⟩ : ByteArray).size ≤ 2000000 := by show (W.vt n).toArray.size ≤ _; rw [List.size_toArray]; omega
    have t0 : (⟨#[UInt8.ofNat kind.toNat, UInt8.ofNat who.toNat]⟩ : ByteArray).size ≤ 2 := by simp [ByteArray.size]
    have hk := u8_byte kind (by omega) (by omega)
    have hw := u8_byte who (by omega) (by omega)
    rw [Int.toNat_natCast] at hT
    generalize shortB path = V1 at HV1 hT t1
    generalize shortB dest = V2 at HV2 hT t2
    generalize (⟨(W.vt n).toArray⟩ : ByteArray) = V3 at HV3 hT t3
    obtain ⟨K, hK⟩ : ∃ K : ByteArray, K = ⟨#[UInt8.ofNat kind.toNat, UInt8.ofNat who.toNat]⟩ := ⟨_, rfl⟩
    rw [← hK] at hT t0
    generalize UInt8.ofNat kind.toNat = k1 at hk hK
    generalize UInt8.ofNat who.toNat = k2 at hw hK
    have HX : ∀ x : World, (convert 22 9 (.slice (some ⟨x.heap.size, 0, none⟩) 2 2)).run Try.prog (x.alloc (.cells #[.int .u8 (k1.toNat : Int), .int .u8 (k2.toNat : Int)] 5)) = .ok (.string K) (x.alloc (.cells #[.int .u8 (k1.toNat : Int), .int .u8 (k2.toNat : Int)] 5)) := fun x => by
      rw [hK]
      exact two_later x _ k1 k2 (Later.refl _)
    clear hK
    rw [hT]
    have q1 : ¬ (9223372036854775807 < K.size + V1.size) := by omega
    have q2 : ¬ (9223372036854775807 < K.size + V1.size + V2.size) := by omega
    have q3 : ¬ (9223372036854775807 < K.size + V1.size + V2.size + V3.size) := by omega
    clear hT v1 v2 v3 t0 t1 t2 t3 n1 n2 n3 n4 n5 n6 s1 s2
    go_enter Try.func9, Try.ntmps9
    go_wp2_with (first
      | (go_at_call 12; refine (HOK.out _).mono ?_; rintro e w1 ⟨rfl, hb1⟩; obtain ⟨c0, c1, c2, c3, c4, hB⟩ := HN.out.below hb1; clear hb1; dsimp only at c0 c1 c2 c3 c4; have tokA : True := trivial)
      | (go_at_call 21; clear tokA; refine (HV1.out _).mono ?_; rintro r w1 ⟨rfl, hb1⟩; obtain ⟨c0, c1, c2, c3, c4, hB⟩ := EC.below (e := ⟨kind, path, dest, n, who⟩) ⟨c0, c1, c2, c3, c4, hB⟩ hb1; clear hb1; dsimp only at c0 c1 c2 c3 c4)
      | (go_at_call 21; refine (HV2.out _).mono ?_; rintro r w1 ⟨rfl, hb1⟩; obtain ⟨c0, c1, c2, c3, c4, hB⟩ := EC.below (e := ⟨kind, path, dest, n, who⟩) ⟨c0, c1, c2, c3, c4, hB⟩ hb1; clear hb1; dsimp only at c0 c1 c2 c3 c4)
      | (go_at_call 22; refine (HV3.out _).mono ?_; rintro r w1 ⟨rfl, hb1⟩; obtain ⟨c0, c1, c2, c3, c4, hB⟩ := EC.below (e := ⟨kind, path, dest, n, who⟩) ⟨c0, c1, c2, c3, c4, hB⟩ hb1; clear hb1; dsimp only at c0 c1 c2 c3 c4))
    go_ret2
    exact ⟨rfl, hB.out.alloc hB.out.size _⟩
end Go.Proofs.Ytdglbakdianjkaa
/- VtM: Plain: what was read as a number are the bytes of this number. -/
namespace Go.Proofs.Ytdglbakdianjkaa.W

/-- What was read as a number are the bytes of this number. -/
theorem rvs_vt : ∀ (rest hd : List UInt8) (q n p : Nat), heads hd → hd.length ≤ 5 → rvs hd rest q = some (n, p) →
    ∃ mid r, rest = mid ++ r ∧ 0 < mid.length ∧ p = q + mid.length ∧ hd ++ mid = vt n
  | [], hd, q, n, p, _, _, h => by simp [rvs, rv] at h
  | b :: r, hd, q, n, p, hh, hk, h => by
    by_cases h5 : hd.length = 5
    · rw [rvs_five hd _ _ (by omega)] at h; cases h
    by_cases hb : 127 < b.toNat
    · rw [rvs_step hd b r q (by omega) hb] at h
      obtain ⟨mid, r', e1, e2, e3, e4⟩ := rvs_vt r (hd ++ [b]) (q + 1) n p (fun x hx => by
        rcases List.mem_append.1 hx with h | h
        · exact hh x h
        · simp at h; subst h; omega) (by simp; omega) h
      exact ⟨b :: mid, r', by rw [e1]; rfl, by simp, by simp; omega, by rw [← e4]; simp⟩
    · rw [rvs_end hd b r q (by omega) hh (by omega)] at h
      split at h
      · rename_i hc
        simp at h
        exact ⟨[b], r, rfl, by simp, by simp; omega, by rw [← h.1]; exact hc.2.symm⟩
      · cases h
theorem extract_list (s : ByteArray) (a b : Nat) : (s.extract a b).data.toList = (s.data.toList.drop a).take (b - a) := by
  simp [ByteArray.data_extract]
theorem readVar_vt {s : ByteArray} {a n p : Nat} (h : readVar s a = some (n, p)) : a < p ∧ n ≤ 1000000000 ∧ s.extract a p = ⟨(vt n).toArray⟩ := by
  have hn := rv_bounds _ _ _ _ _ _ _ h
  obtain ⟨mid, r, e1, e2, e3, e4⟩ := rvs_vt _ [] a n p (fun _ h => by simp at h) (by simp) h
  refine ⟨by omega, hn.1, ?_⟩
  apply Go.WideShapes.bytes_inj
  rw [extract_list, e1]
  have : p - a = mid.length := by omega
  rw [this, List.take_left' rfl]
  simpa using e4
end Go.Proofs.Ytdglbakdianjkaa.W
