/- The draws of a text and of places: what is drawn lies within its bounds; nothing that was there is turned. -/
import Derived.Test.YtpcedackanfnjaaDrawB
import Derived.OwnWalk
import Derived.OpenShut
namespace Go.Proofs.Ytpcedackanfnjaa
open Go.RowKit

def SumDrawn (w : World) (e : Ending) (w' : World) : Prop := ∃ t : ByteArray, e = .returned (.string t) ∧ t.size ≤ 40 ∧ Below w.heap.size w w'
theorem infoInt : (Try.prog.info? 3).map (fun i => (i.zero, i.size, i.bytes)) = some (some (.int .i64 0), 1, 8) := by kernel_rfl
/-- Numbers, as the model holds them. -/
def iv (l : List Int) : List Value := l.map fun x => .int .i64 x
theorem row_step {w wr w2 w3 : World} {g B len cap n : Nat} {t : TypeId} {a : Option Addr} {v : Value} {vs : List Value} {o : Obj} (hs : w.heap.size ≤ wr.heap.size) (hgw : g < w.heap.size)
    (hg : w.grownBy wr (some g)) (hg2 : wr.grownBy w2 (some g)) (hc2 : Cur w2 g B a len cap) (hown : w2.ownsRow w.heap.size t 1 v n vs) (hgr : (w2.alloc o).grownBy w3 v.ownBlock) :
    Cur w3 g B a len cap ∧ w.grownBy w3 (some g) := by
  have hlt := hown.lt
  have h2s : wr.heap.size ≤ w2.heap.size := hg2.size
  have hb3 : Below w.heap.size w2 w3 := ((Below.refl _ _).alloc (by omega) o).grown hgr (by simp; omega) (fun j hj => (hlt j hj).1)
  refine ⟨?_, ⟨(hb3.os.trans hg2.os).trans hg.os, (hb3.tape.trans hg2.tape).trans hg.tape, (hb3.output.trans hg2.output).trans hg.output, by have := hb3.size; omega, fun k hk hn => (hb3.block k hk).trans ((hg2.block k (by omega) hn).trans (hg.block k hk hn))⟩⟩
  obtain ⟨hB, hgs, hcode, c0, ⟨i, c1, hi⟩, ⟨k, c2⟩, hf⟩ := hc2
  exact ⟨hB, by have := hb3.size; omega, hcode.below hb3 (by omega), (hb3.cell (p := ⟨g, 0, none⟩) hgw).trans c0, ⟨i, (hb3.cell (p := ⟨g, 1, none⟩) hgw).trans c1, hi⟩, ⟨k, (hb3.cell (p := ⟨g, 2, none⟩) hgw).trans c2⟩, fun j hj => (hb3.frozen (p := ⟨g, j, none⟩) hgw).trans (hf j hj)⟩
theorem own_gbr {w w' : World} {g C n : Nat} {t : TypeId} {v : Value} {vs : List Value} (h : w.ownsRow C t 1 v n vs) (hg : w.grownBy w' (some g)) (hC : g < C) : w'.ownsRow C t 1 v n vs :=
  h.kept hg (by
    cases hv : v.ownBlock with
    | none => exact .inl rfl
    | some j => right; have := (h.lt j hv).1; simp; omega)
/-- The places that are drawn: twelve numbers below 10000 in a block of their own. -/
def PlacesDrawn (w : World) (e : Ending) (w' : World) : Prop :=
  ∃ (gp cap : Nat) (l : List Int), e = .returned (.slice (some ⟨gp, 0, none⟩) 12 cap) ∧ w.heap.size ≤ gp ∧ gp < w'.heap.size ∧ l.length = 12 ∧ (∀ x ∈ l, 0 ≤ x ∧ x < 10000) ∧ (∀ j, j < 12 → w'.cell? ⟨gp, j, none⟩ = some (.int .i64 (l.getD j 0))) ∧ Below w.heap.size w w'
theorem places_post {w w1 w' : World} {g n : Nat} {v : Value} {l : List Int} (hw : w.heap.size ≤ w1.heap.size) (hl : l.length = 12) (hx : ∀ x ∈ l, 0 ≤ x ∧ x < 10000) (hn : n = 12) (hown : w'.ownsRow w1.heap.size 3 1 v n (iv l)) (hb1 : Below w.heap.size w w1) (hg : w.heap.size ≤ g) (hgb : w1.grownBy w' (some g)) :
    PlacesDrawn w (.returned v) w' := by
  subst hn
  have hlt := hown.lt
  have hc : ∀ g, v.ownBlock = some g → ∀ j u, (iv l)[j]? = some u → w'.cell? ((⟨g, 0, none⟩ : Addr).add j) = some u := fun g hg => hown.cells hg
  obtain ⟨h1, ⟨rfl, h0⟩ | ⟨gp, cap, cur, rfl, _⟩⟩ := hown
  · omega
  · have h2 := hlt gp rfl
    refine ⟨gp, cap, l, rfl, by omega, h2.2, hl, hx, fun j hj => ?_, hb1.trans (below_gb hgb hg hw)⟩
    have h3 := hc gp rfl j (.int .i64 (l.getD j 0)) (by simp [iv, List.getD, show j < l.length by omega])
    have e : (⟨gp, 0, none⟩ : Addr).add j = ⟨gp, j, none⟩ := by cases j <;> simp [Addr.add]
    rwa [e] at h3
set_option maxHeartbeats 1000000 in
theorem drawPlaces_any (w : World) (a : Option Addr) (len cap : Nat) (hc : CodeAt w w.heap.size a len) :
    Calls Try.prog 12 #[.slice a len cap] w fun e w' => PlacesDrawn w e w' := by
  obtain ⟨i0, hi, hz0, hz1, hz2⟩ := info_parts infoInt
  have HC : Hid (CodeAt w w.heap.size a len) := hc
  clear hc
  go_enter Try.func12, Try.ntmps12
  go_wp2_with fail
  refine (l01New_any _ a len cap HC.out).mono ?_
  rintro e w0 ⟨g, rfl, hg, hcur, hb0⟩
  have HC0 : Hid (Cur w0 g w.heap.size a len cap) := hcur
  have HB0 : Hid (Below w.heap.size w w0) := hb0
  clear hcur hb0
  go_wp2_with fail
  refine (l01Byte_any _ g _ a len cap HC0.out).mono ?_
  rintro e w1 ⟨x, rfl, _, _, hc1, hg1⟩
  have HC1 : Hid (Cur w1 g w.heap.size a len cap) := hc1
  have HB1 : Hid (Below w.heap.size w w1) := HB0.out.trans (below_gb hg1 hg HB0.out.size)
  have hgw : g < w1.heap.size := hc1.2.1
  clear hc1 hg1 HC0 HB0
  go_wp2_with fail
  go_loopw [4, 5] (fun v i wr => ∃ (k : Nat) (l : List Int), i = .int .i64 k ∧ k ≤ 12 ∧ l.length = k ∧ (∀ x ∈ l, 0 ≤ x ∧ x < 10000) ∧ Cur wr g w.heap.size a len cap ∧ w1.grownBy wr (some g) ∧ wr.ownsRow w1.heap.size 3 1 v k (iv l)) (fun _ i _ => 12 - (intOf i).toNat)
  case atStart => exact ⟨0, [], rfl, by omega, rfl, by simp, HC1.out.below ((Below.refl _ _).alloc (Nat.le_refl _) _), gb_below ((Below.refl _ _).alloc (Nat.le_refl _) _), World.ownsRow_made w1 #[] 0 (Nat.le_refl _) (by decide) rfl⟩
  case round =>
    obtain ⟨k, l, rfl, hk, hlk, hlx, hcr, hgr, hown⟩ := hrel
    have HCr : Hid (Cur wr g w.heap.size a len cap) := hcr
    have HGr : Hid (w1.grownBy wr (some g)) := hgr
    have HL : Hid (l.length = k ∧ ∀ x ∈ l, 0 ≤ x ∧ x < 10000) := ⟨hlk, hlx⟩
    have hs1 := hgr.size
    clear hcr hgr hlk hlx
    by_cases hlt : k < 12
    · have hlt' : (k : Int) < 12 := by omega
      go_wp2_with fail
      refine (l01Below_any _ g _ a len cap 10000 (by omega) HCr.out).mono ?_
      rintro e w2 ⟨y, rfl, y0, y1, hc2, hg2⟩
      have HC2 : Hid (Cur w2 g w.heap.size a len cap) := hc2
      have HG2 : Hid (wr.grownBy w2 (some g)) := hg2
      have hown2 := own_gbr hown hg2 hgw
      have hs2 := hg2.size
      clear hc2 hg2 hown
      go_wp2_with (at_builtin; refine wpList_append_own _ rfl _ _ 24 rfl w1.heap.size 3 i0 (.int .i64 0) 1 8 Try.underlying24 hi hz0 hz1 hz2 rfl (by decide) _ _ _ rfl (hown2.alloc _) ⟨w2.heap.size, 0, none⟩ 1 1 [.int .i64 _] rfl rfl (cell_one_new _ _ _) ?c2 ?c3 ?c4 ?c5 ?_)
      case c2 => first | rfl | (intro u hu; simp at hu; subst hu; rfl)
      case c3 => unfold maxLen; omega
      case c4 => omega
      case c5 => first | omega | (simp; omega)
      · intro v' w3 hown' hgrow _
        obtain ⟨q1, q2⟩ := row_step hs1 hgw HGr.out HG2.out HC2.out hown2 hgrow
        have q3 : w3.ownsRow w1.heap.size 3 1 v' (k + 1) (iv (l ++ [y])) := by
          simpa [iv] using hown'
        clear hown' hgrow hown2
        go_wp2_with fail
        go_roundw
        case rel => exact ⟨k + 1, l ++ [y], by go_num, by omega, by have := HL.out.1; simp; omega, by intro x hx; rcases List.mem_append.1 hx with h | h; exact HL.out.2 x h; simp at h; subst h; omega, q1, q2, q3⟩
        case measure => simp [intOf]; omega
    · obtain rfl : k = 12 := by omega
      go_wp2_with fail
      go_ret
      exact places_post HB1.out.size HL.out.1 HL.out.2 rfl hown HB1.out hg HGr.out
theorem cell_block {w : World} {a : Addr} {v : Value} (h : w.cell? a = some v) : a.block < w.heap.size := by
  by_cases hb : a.block < w.heap.size
  · exact hb
  · unfold World.cell? at h
    rw [Array.getElem?_eq_none (by omega)] at h
    simp at h
theorem code_at {w : World} {a : Option Addr} {len cap : Nat} {zs : List Int} (hl : len ≤ 1048576)
    (h : (a = none ∧ len = 0) ∨ ∃ x, a = some x ∧ len ≤ cap ∧ zs.length = cap ∧ (∀ i, i < zs.length → w.cell? (x.add i) = some (.int .u8 (zs.getD i 0))) ∧ ∀ n ∈ zs, (Lit.int .u8 n).wf = true) : CodeAt w w.heap.size a len := by
  refine ⟨hl, fun hp => ?_⟩
  rcases h with ⟨_, h0⟩ | ⟨x, rfl, hlc, hz, hc, hw⟩
  · omega
  · obtain ⟨b, off, spot⟩ := x
    have hs : spot = none := by simpa [Addr.add] using World.cell?_spot (hc 0 (by omega))
    subst hs
    refine ⟨b, off, rfl, ?_, fun j hj => ?_⟩
    · have := cell_block (hc 0 (by omega)); simpa [Addr.add] using this
    · have h1 := hc j (by omega)
      have e : (⟨b, off, none⟩ : Addr).add j = ⟨b, off + j, none⟩ := by cases j <;> simp [Addr.add]
      rw [e] at h1
      have hm : zs.getD j 0 ∈ zs := by
        have : j < zs.length := by omega
        simp [List.getD, this]
      have := bounds_u8 (hw _ hm)
      exact ⟨_, h1, this.1, by omega⟩
theorem big_any (a : Option Addr) (len cap : Nat) (w : World) :
    Calls Try.prog 11 #[.slice a len cap] w fun e w' => e = .returned (.bool (decide ((1048576 : Int) < len))) ∧ w' = w := by
  go_enter Try.func11, Try.ntmps11
  go_wp2_with fail
  go_ret
  exact ⟨rfl, rfl⟩
end Go.Proofs.Ytpcedackanfnjaa
