/- Texts of ours, laid one behind the other: TDrawP, TLawCuts, TTwF. -/
import Derived.Test.YtfhcpehfmecpjaaPk20
import Derived.OwnWalk
import Derived.OpenShut
import Derived.Handy
set_option linter.unusedVariables false
set_option linter.unusedSimpArgs false
/- The draws of a text and of places: what is drawn lies within its bounds; nothing that was there is turned. -/
namespace Go.Proofs.YtfhcpehfmecpjaaT
open Go.RowKit

def SumDrawn (w : World) (e : Ending) (w' : World) : Prop := ∃ t : ByteArray, e = .returned (.string t) ∧ t.size ≤ 40 ∧ Below w.heap.size w w'
theorem infoInt : (Tw.prog.info? 3).map (fun i => (i.zero, i.size, i.bytes)) = some (some (.int .i64 0), 1, 8) := by kernel_rfl
/-- Numbers, as the model holds them. -/
def iv (l : List Int) : List Value := l.map fun x => .int .i64 x
theorem row_step {w wr w2 w3 : World} {g B len cap n : Nat} {t : TypeId} {a : Option Addr} {v : Value} {vs : List Value} {o : Obj} (hs : w.heap.size ≤ wr.heap.size) (hgw : g < w.heap.size)
    (hg : w.grownBy wr (some g)) (hg2 : wr.grownBy w2 (some g)) (hc2 : Cur w2 g B a len cap) (hown : w2.ownsRow w.heap.size t 1 v n vs) (hgr : (w2.alloc o).grownBy w3 v.ownBlock) :
    Cur w3 g B a len cap ∧ w.grownBy w3 (some g) := by
  have hlt := hown.lt
  have h2s : wr.heap.size ≤ w2.heap.size := hg2.size
  have hb3 : Below w.heap.size w2 w3 := ((Below.refl _ _).alloc (by omega) o).grown hgr (by simp; omega) (fun j hj => (hlt j hj).1)
  refine ⟨?_, ⟨(hb3.os.trans hg2.os).trans hg.os, (hb3.tape.trans hg2.tape).trans hg.tape, (hb3.output.trans hg2.output).trans hg.output, by have := hb3.size; omega, fun k hk hn => (hb3.block k hk).trans ((hg2.block k (by omega) hn).trans (hg.block k hk hn))⟩⟩
  obtain ⟨hB, hgs, hcode, c0, ⟨i, c1, hi⟩, ⟨k, c2⟩, hf⟩ := hc2
  exact ⟨hB, by have := hb3.size; omega, hcode.below hb3 (by omega), (hb3.cell (p := ⟨g, 0, none⟩) hgw).trans c0, ⟨i, (hb3.cell (p := ⟨g, 1, none⟩) hgw).trans c1, hi⟩, ⟨k, (hb3.cell (p := ⟨g, 2, none⟩) hgw).trans c2⟩, fun j hj => (hb3.frozen (p := ⟨g, j, none⟩) hgw).trans (hf j hj)⟩
theorem own_gbr {w w' : World} {g C n : Nat} {t : TypeId} {v : Value} {vs : List Value} (h : w.ownsRow C t 1 v n vs) (hg : w.grownBy w' (some g)) (hC : g < C) : w'.ownsRow C t 1 v n vs :=
  h.kept hg (by
    cases hv : v.ownBlock with
    | none => exact .inl rfl
    | some j => right; have := (h.lt j hv).1; simp; omega)
/-- The places that are drawn: twelve numbers below 10000 in a block of their own. -/
def PlacesDrawn (w : World) (e : Ending) (w' : World) : Prop :=
  ∃ (gp cap : Nat) (l : List Int), e = .returned (.slice (some ⟨gp, 0, none⟩) 12 cap) ∧ w.heap.size ≤ gp ∧ gp < w'.heap.size ∧ l.length = 12 ∧ (∀ x ∈ l, 0 ≤ x ∧ x < 10000) ∧ (∀ j, j < 12 → w'.cell? ⟨gp, j, none⟩ = some (.int .i64 (l.getD j 0))) ∧ Below w.heap.size w w'
theorem places_post {w w1 w' : World} {g n : Nat} {v : Value} {l : List Int} (hw : w.heap.size ≤ w1.heap.size) (hl : l.length = 12) (hx : ∀ x ∈ l, 0 ≤ x ∧ x < 10000) (hn : n = 12) (hown : w'.ownsRow w1.heap.size 3 1 v n (iv l)) (hb1 : Below w.heap.size w w1) (hg : w.heap.size ≤ g) (hgb : w1.grownBy w' (some g)) :
    PlacesDrawn w (.returned v) w' := by
  subst hn
  have hlt := hown.lt
  have hc : ∀ g, v.ownBlock = some g → ∀ j u, (iv l)[j]? = some u → w'.cell? ((⟨g, 0, none⟩ : Addr).add j) = some u := fun g hg => hown.cells hg
  obtain ⟨h1, ⟨rfl, h0⟩ | ⟨gp, cap, cur, rfl, _⟩⟩ := hown
  · omega
  · have h2 := hlt gp rfl
    refine ⟨gp, cap, l, rfl, by omega, h2.2, hl, hx, fun j hj => ?_, hb1.trans (below_gb hgb hg hw)⟩
    have h3 := hc gp rfl j (.int .i64 (l.getD j 0)) (by simp [iv, List.getD, show j < l.length by omega])
    have e : (⟨gp, 0, none⟩ : Addr).add j = ⟨gp, j, none⟩ := by cases j <;> simp [Addr.add]
    rwa [e] at h3
set_option maxHeartbeats 1000000 in
theorem drawPlaces_any (w : World) (a : Option Addr) (len cap : Nat) (hc : CodeAt w w.heap.size a len) :
    Calls Tw.prog 10 #[.slice a len cap] w fun e w' => PlacesDrawn w e w' := by
  obtain ⟨i0, hi, hz0, hz1, hz2⟩ := info_parts infoInt
  have HC : Hid (CodeAt w w.heap.size a len) := hc
  clear hc
  go_enter Tw.func10, Tw.ntmps10
  go_wp2_with fail
  refine (l01New_any _ a len cap HC.out).mono ?_
  rintro e w0 ⟨g, rfl, hg, hcur, hb0⟩
  have HC0 : Hid (Cur w0 g w.heap.size a len cap) := hcur
  have HB0 : Hid (Below w.heap.size w w0) := hb0
  clear hcur hb0
  go_wp2_with fail
  refine (l01Byte_any _ g _ a len cap HC0.out).mono ?_
  rintro e w1 ⟨x, rfl, _, _, hc1, hg1⟩
  have HC1 : Hid (Cur w1 g w.heap.size a len cap) := hc1
  have HB1 : Hid (Below w.heap.size w w1) := HB0.out.trans (below_gb hg1 hg HB0.out.size)
  have hgw : g < w1.heap.size := hc1.2.1
  clear hc1 hg1 HC0 HB0
  go_wp2_with fail
  go_loopw [4, 5] (fun v i wr => ∃ (k : Nat) (l : List Int), i = .int .i64 k ∧ k ≤ 12 ∧ l.length = k ∧ (∀ x ∈ l, 0 ≤ x ∧ x < 10000) ∧ Cur wr g w.heap.size a len cap ∧ w1.grownBy wr (some g) ∧ wr.ownsRow w1.heap.size 3 1 v k (iv l)) (fun _ i _ => 12 - (intOf i).toNat)
  case atStart => exact ⟨0, [], rfl, by omega, rfl, by simp, HC1.out.below ((Below.refl _ _).alloc (Nat.le_refl _) _), gb_below ((Below.refl _ _).alloc (Nat.le_refl _) _), World.ownsRow_made w1 #[] 0 (Nat.le_refl _) (by decide) rfl⟩
  case round =>
    obtain ⟨k, l, rfl, hk, hlk, hlx, hcr, hgr, hown⟩ := hrel
    have HCr : Hid (Cur wr g w.heap.size a len cap) := hcr
    have HGr : Hid (w1.grownBy wr (some g)) := hgr
    have HL : Hid (l.length = k ∧ ∀ x ∈ l, 0 ≤ x ∧ x < 10000) := ⟨hlk, hlx⟩
    have hs1 := hgr.size
    clear hcr hgr hlk hlx
    by_cases hlt : k < 12
    · have hlt' : (k : Int) < 12 := by omega
      go_wp2_with fail
      refine (l01Below_any _ g _ a len cap 10000 (by omega) HCr.out).mono ?_
      rintro e w2 ⟨y, rfl, y0, y1, hc2, hg2⟩
      have HC2 : Hid (Cur w2 g w.heap.size a len cap) := hc2
      have HG2 : Hid (wr.grownBy w2 (some g)) := hg2
      have hown2 := own_gbr hown hg2 hgw
      have hs2 := hg2.size
      clear hc2 hg2 hown
      go_wp2_with (at_builtin; refine wpList_append_own _ rfl _ _ 31 rfl w1.heap.size 3 i0 (.int .i64 0) 1 8 Tw.underlying31 hi hz0 hz1 hz2 rfl (by decide) _ _ _ rfl (hown2.alloc _) ⟨w2.heap.size, 0, none⟩ 1 1 [.int .i64 _] rfl rfl (cell_one_new _ _ _) ?c2 ?c3 ?c4 ?c5 ?_)
      case c2 => first | rfl | (intro u hu; simp at hu; subst hu; rfl)
      case c3 => unfold maxLen; omega
      case c4 => omega
      case c5 => first | omega | (simp; omega)
      · intro v' w3 hown' hgrow _
        obtain ⟨q1, q2⟩ := row_step hs1 hgw HGr.out HG2.out HC2.out hown2 hgrow
        have q3 : w3.ownsRow w1.heap.size 3 1 v' (k + 1) (iv (l ++ [y])) := by
          simpa [iv] using hown'
        clear hown' hgrow hown2
        go_wp2_with fail
        go_roundw
        case rel => exact ⟨k + 1, l ++ [y], by go_num, by omega, by have := HL.out.1; simp; omega, by intro x hx; rcases List.mem_append.1 hx with h | h; exact HL.out.2 x h; simp at h; subst h; omega, q1, q2, q3⟩
        case measure => simp [intOf]; omega
    · obtain rfl : k = 12 := by omega
      go_wp2_with fail
      go_ret
      exact places_post HB1.out.size HL.out.1 HL.out.2 rfl hown HB1.out hg HGr.out
theorem cell_block {w : World} {a : Addr} {v : Value} (h : w.cell? a = some v) : a.block < w.heap.size := by
  by_cases hb : a.block < w.heap.size
  · exact hb
  · unfold World.cell? at h
    rw [Array.getElem?_eq_none (by omega)] at h
    simp at h
theorem code_at {w : World} {a : Option Addr} {len cap : Nat} {zs : List Int} (hl : len ≤ 1048576)
    (h : (a = none ∧ len = 0) ∨ ∃ x, a = some x ∧ len ≤ cap ∧ zs.length = cap ∧ (∀ i, i < zs.length → w.cell? (x.add i) = some (.int .u8 (zs.getD i 0))) ∧ ∀ n ∈ zs, (Lit.int .u8 n).wf = true) : CodeAt w w.heap.size a len := by
  refine ⟨hl, fun hp => ?_⟩
  rcases h with ⟨_, h0⟩ | ⟨x, rfl, hlc, hz, hc, hw⟩
  · omega
  · obtain ⟨b, off, spot⟩ := x
    have hs : spot = none := by simpa [Addr.add] using World.cell?_spot (hc 0 (by omega))
    subst hs
    refine ⟨b, off, rfl, ?_, fun j hj => ?_⟩
    · have := cell_block (hc 0 (by omega)); simpa [Addr.add] using this
    · have h1 := hc j (by omega)
      have e : (⟨b, off, none⟩ : Addr).add j = ⟨b, off + j, none⟩ := by cases j <;> simp [Addr.add]
      rw [e] at h1
      have hm : zs.getD j 0 ∈ zs := by
        have : j < zs.length := by omega
        simp [List.getD, this]
      have := bounds_u8 (hw _ hm)
      exact ⟨_, h1, this.1, by omega⟩
theorem big_any (a : Option Addr) (len cap : Nat) (w : World) :
    Calls Tw.prog 6 #[.slice a len cap] w fun e w' => e = .returned (.bool (decide ((1048576 : Int) < len))) ∧ w' = w := by
  go_enter Tw.func6, Tw.ntmps6
  go_wp2_with fail
  go_ret
  exact ⟨rfl, rfl⟩
end Go.Proofs.YtfhcpehfmecpjaaT
/- The walk of the law over cuts, over what is told of the program's own functions. -/
namespace Go.Proofs.YtfhcpehfmecpjaaT
open Go.RowKit
attribute [local go_sem ↓] Go.wp_at_zero Go.wp_at_succ

structure CutAll : Prop where
  cut : ∀ (s : Int) (t : ByteArray) (w : World), t.size ≤ 1048576 → Calls Tw.prog 8 #[.int .i64 s, .string t] w fun e w' => TPost8 (cutX s t) w e w'
  join : ∀ (w : World) (u : Value) (L : List ByteArray) (lo hi : Nat) (s n : Int), SSee w u L lo hi → TFit L → Calls Tw.prog 9 #[.int .i64 s, u, .int .i64 n] w fun e w' => JoinPost (joinX s L n) w e w'
def sumTo (U : List ByteArray) (i : Nat) : Nat := ((U.map ByteArray.size).take i).sum
theorem sumTo_succ {U : List ByteArray} {i : Nat} (h : i < U.length) : sumTo U (i + 1) = sumTo U i + (U.getD i ⟨#[]⟩).size := by
  unfold sumTo
  rw [List.take_add_one, List.getElem?_map, List.getElem?_eq_getElem h]
  simp [List.getD, h]
theorem sumTo_all (U : List ByteArray) : sumTo U U.length = (U.map ByteArray.size).sum := by unfold sumTo; rw [← List.length_map (f := ByteArray.size), List.take_length]
theorem sumTo_le {U : List ByteArray} (h : ∀ x ∈ U, x.size ≤ 8) : ∀ i, i ≤ U.length → sumTo U i ≤ 8 * i
  | 0, _ => by simp [sumTo]
  | i + 1, hi => by
    rw [sumTo_succ (by omega)]
    have h1 := sumTo_le h i (by omega)
    have h2 := h (U.getD i ⟨#[]⟩) (by simp [List.getD, show i < U.length by omega])
    omega
theorem tsum8 {L : List ByteArray} {m : Nat} (h : ∀ x ∈ L, x.size ≤ m) : tsum L ≤ L.length * m := by
  induction L with
  | nil => simp [tsum]
  | cons x X ih =>
    have h1 := h x (by simp)
    have h2 := ih (fun y hy => h y (by simp [hy]))
    simp only [tsum, List.length_cons]
    rw [Nat.add_mul]; omega
attribute [local irreducible] schK schM schOk groupN placeX offX cutX joinX spansX tsum sumTo
set_option maxRecDepth 1000000 in
set_option maxHeartbeats 4000000 in
theorem cuts_walk (h : CutAll) (a : Option Addr) (len cap : Nat) (w : World) (hcode : CodeAt w w.heap.size a len) :
    Calls Tw.prog 3 #[.slice a len cap] w fun e w' => e = .returned (.bool true) ∧ Below w.heap.size w w' := by
  have hbig : decide ((1048576 : Int) < (len : Int)) = false := by have := hcode.1; simp; omega
  have HC : Hid (CodeAt w w.heap.size a len) := hcode
  have HH := Shut.mk h
  clear hcode h
  go_enter Tw.func3, Tw.ntmps3
  go_wp2_with fail
  refine (big_any a len cap _).mono ?_
  rintro e w1 ⟨rfl, hw1⟩
  obtain rfl : w = w1 := hw1.symm
  clear hw1
  rw [hbig]
  go_wp2_with fail
  refine (drawGroup_any _ a len cap HC.out).mono ?_
  rintro e w1 ⟨x, t, rfl, hok, hts, hb1⟩
  have hg32 := groupN_bounds (x : Int)
  have ht32 : t.size ≤ 32 := by omega
  have HB := Shut.mk hb1
  have HC1 : Hid (CodeAt w1 w1.heap.size a len) := ⟨HC.out.1, fun h => by obtain ⟨b, off, e1, e2, e3⟩ := (HC.out.below hb1 (Nat.le_refl _)).2 h; exact ⟨b, off, e1, by have := hb1.size; omega, e3⟩⟩
  have HJ := Shut.mk (fun (m : Nat) (hm : m ≤ t.size) => join_cut hok hts hm)
  have HSZ := Shut.mk (cut_sizes hok hts)
  have HSUM := Shut.mk (cut_sum hok hts)
  have hU2 : (cutX (x : Int) t).2 = true := by rw [cut_ok hok hts]
  have hUl : 2 ≤ (cutX (x : Int) t).1.length ∧ (cutX (x : Int) t).1.length ≤ 4 := by
    rw [cut_ok hok hts]
    have := sch_bounds hok
    rw [show (cutL (schK (x : Int)) t t.size, true).1 = cutL (schK (x : Int)) t t.size from rfl, cutL_len]
    omega
  have HC9 := Shut.mk (fun W => HH.out.cut (x : Int) t W (by omega))
  have HCN : Shut (∀ (T : ByteArray) (W : World), 32 < T.size → T.size ≤ 1048576 → Calls Tw.prog 8 #[.int .i64 (x : Int), .string T] W fun e w' => TPost8 ([], false) W e w') := ⟨fun T W h1 h2 => by
    have q := HH.out.cut (x : Int) T W h2
    have e : cutX (x : Int) T = ([], false) := by unfold cutX; exact if_neg (fun h => by have := h.2; omega)
    rw [e] at q
    exact q⟩
  unfold TPost8 at HC9
  generalize (cutX (x : Int) t).1 = U at *
  rw [hU2] at HC9
  have hfit : TFit U := by
    have := tsum8 HSZ.out
    unfold TFit; omega
  have HJT : Shut (∀ (W : World) (v : Value) (lo hi : Nat) (m : Nat), m ≤ t.size → SSee W v U lo hi → Calls Tw.prog 9 #[.int .i64 (x : Int), v, .int .i64 (m : Int)] W fun e w' => JoinPost (t.extract 0 m, true) W e w') := ⟨fun W v lo hi m hm hs => by
    have q := HH.out.join W v U lo hi (x : Int) (m : Int) hs hfit
    rw [HJ.out m hm] at q
    exact q⟩
  obtain ⟨u, hu⟩ : ∃ u, u = U.length := ⟨_, rfl⟩
  have HUL := Shut.mk hu
  clear hb1 HC hU2 hfit HH HJ hok hts hg32
  go_wp2_with fail
  refine (HC9.out _).mono ?_
  rintro e w2 ⟨vu, rfl, ha2, hb2⟩
  replace HB := Shut.mk (HB.out.trans (hb2.mono HB.out.size))
  have HC2 : Hid (CodeAt w2 w2.heap.size a len) := ⟨HC1.out.1, fun h => by obtain ⟨b, off, e1, e2, e3⟩ := (HC1.out.below hb2 (Nat.le_refl _)).2 h; exact ⟨b, off, e1, by have := hb2.size; omega, e3⟩⟩
  have FU := Shut.mk (show SAns w2 vu U _ _ from ha2)
  clear hb2 HC1 ha2 HC9
  obtain ⟨aa, ca, rfl, hca, qa⟩ := FU.out
  obtain ⟨ga, rfl, g1, g2, hwa⟩ : ∃ g, aa = some ⟨g, 0, none⟩ ∧ w1.heap.size ≤ g ∧ g < w2.heap.size ∧ WCells w2 g (tv U) := by
    rcases qa with q | q
    · rw [q] at hUl; simp at hUl
    · exact q
  rw [← hu] at FU hca hUl ⊢
  have HW := Shut.mk hwa
  clear qa hwa hu
  go_wp2_with fail
  refine (HJT.out _ _ _ _ t.size (Nat.le_refl _) FU.out.see).mono ?_
  rintro e w3 ⟨rfl, hb3⟩
  replace FU := Shut.mk (FU.out.below hb3)
  replace HB := Shut.mk (HB.out.trans (hb3.mono HB.out.size))
  have lga := HW.out.1
  replace HW := Shut.mk (HW.out.below hb3 lga)
  have HC3 : Hid (CodeAt w3 w3.heap.size a len) := ⟨HC2.out.1, fun h => by obtain ⟨b, off, e1, e2, e3⟩ := (HC2.out.below hb3 (Nat.le_refl _)).2 h; exact ⟨b, off, e1, by have := hb3.size; omega, e3⟩⟩
  have hext : t.extract 0 t.size = t := ByteArray.extract_zero_size
  dsimp only
  rw [hext]
  clear hb3 HC2 lga
  go_wp2_with fail
  refine (drawPlaces_any _ a len cap HC3.out).mono ?_
  rintro e w4 ⟨gp, pcap, l, rfl, hgp, hgp2, hll, hlx, hcell, hb4⟩
  replace FU := Shut.mk (FU.out.below hb4)
  replace HB := Shut.mk (HB.out.trans (hb4.mono HB.out.size))
  have lga := HW.out.1
  replace HW := Shut.mk (HW.out.below hb4 lga)
  have y0 := hcell 0 (by omega)
  have q0 := hlx (l.getD 0 0) (by simp [List.getD, show 0 < l.length by omega])
  generalize l.getD 0 0 = p at y0 q0
  obtain ⟨pn, rfl⟩ := Int.eq_ofNat_of_zero_le q0.1
  obtain ⟨k, hk⟩ : ∃ k, k = pn % (t.size + 1) := ⟨_, rfl⟩
  have hkt : k ≤ t.size := by have := Nat.mod_lt pn (show 0 < t.size + 1 by omega); omega
  have hmod : (pn : Int) % ((t.size : Int) + 1) = (k : Int) := by rw [hk]; push_cast; rfl
  have htmod : (pn : Int).tmod ((t.size : Int) + 1) = (k : Int) := by rw [Int.tmod_eq_emod_of_nonneg (by omega)]; exact hmod
  have hne : (((t.size : Int) + 1) == 0) = false := by rw [beq_eq_false_iff_ne]; omega
  have k0 : (0 : Int) ≤ (k : Int) := by omega
  have k1 : (k : Int) ≤ (t.size : Int) := by omega
  clear hb4 HC3 lga hll hlx hcell hk
  go_wp2_with fail
  refine (HJT.out _ _ _ _ k hkt FU.out.see).mono ?_
  rintro e w5 ⟨rfl, hb5⟩
  replace HB := Shut.mk (HB.out.trans (hb5.mono HB.out.size))
  have lga := HW.out.1
  replace HW := Shut.mk (HW.out.below hb5 lga)
  clear hb5 lga y0 HJT FU
  dsimp only
  go_wp2_with fail
  refine (HCN.out _ _ ?n1 ?n2).mono ?_
  case n1 => rw [ByteArray.size_append]; show 32 < t.size + 40; omega
  case n2 => rw [ByteArray.size_append]; show t.size + 40 ≤ 1048576; omega
  rintro e w6 ⟨v6, rfl, ha6, hb6⟩
  replace HB := Shut.mk (HB.out.trans (hb6.mono HB.out.size))
  have lga := HW.out.1
  replace HW := Shut.mk (HW.out.below hb6 lga)
  clear hb6 lga ha6 HCN
  dsimp only
  go_wp2_with fail
  go_loopw [14, 15] (fun nn ii wr => ∃ i : Nat, nn = .int .i64 (sumTo U i : Nat) ∧ ii = .int .i64 (i : Nat) ∧ i ≤ u ∧ wr = w6) (fun _ ii _ => u - (intOf ii).toNat)
  case atStart => exact ⟨0, by unfold sumTo; simp, rfl, Nat.zero_le _, rfl⟩
  case round =>
    obtain ⟨i, rfl, rfl, hiu, rfl⟩ := hrel
    by_cases hlt : i < u
    · have hlt' : (i : Int) < (u : Int) := by omega
      have i0 : (0 : Int) ≤ (i : Int) := by omega
      obtain ⟨c0, z0⟩ := HW.out.2 i _ (tv_get U i (by rw [← HUL.out]; exact hlt))
      have h8 := HSZ.out (U.getD i ⟨#[]⟩) (by simp [List.getD, show i < U.length by rw [← HUL.out]; exact hlt])
      have hs1 := sumTo_succ (U := U) (i := i) (by rw [← HUL.out]; exact hlt)
      have hs2 := sumTo_le HSZ.out i (by rw [← HUL.out]; omega)
      generalize U.getD i ⟨#[]⟩ = y at c0 z0 h8 hs1
      have h8' : ¬ (8 : Int) < (y.size : Int) := by omega
      go_wp2_with fail
      go_roundw
      case rel => exact ⟨i + 1, by rw [hs1]; go_num, by go_num, by omega, trivial⟩
      case measure => simp [intOf]; omega
    · have e : i = u := by omega
      subst e
      have hlt' : ¬ (i : Int) < (i : Int) := by omega
      have hsum : sumTo U i = t.size := by rw [HUL.out, sumTo_all]; exact HSUM.out
      rw [hsum]
      go_wp2_with fail
      go_ret
      exact ⟨rfl, HB.out⟩
end Go.Proofs.YtfhcpehfmecpjaaT
/- Over the twin: JoinUnits at every argument; the three laws. -/
namespace Go.Proofs.YtfhcpehfmecpjaaT
open Go.RowKit
attribute [local go_sem ↓] Go.wp_at_zero Go.wp_at_succ

set_option maxHeartbeats 2000000 in
theorem implJoinUnits (w : World) (u : Value) (U : List ByteArray) (lo hi : Nat) (s n : Int) (hu : SSee w u U lo hi) (hf : TFit U) : Calls Tw.prog 9 #[.int .i64 s, u, .int .i64 n] w fun e w' => JoinPost (joinX s U n) w e w' := by
  obtain ⟨a2, cap2, rfl, hm2⟩ := hu
  have hlf : U.length ≤ 1048576 := by unfold TFit at hf; omega
  have hUs : ∀ j, j < U.length → (U.getD j ⟨#[]⟩).size ≤ 1048576 := fun j hj => by
    have h1 : U.getD j ⟨#[]⟩ ∈ U := by simp [List.getD, hj]
    have h2 := tsum_mem h1
    unfold TFit at hf; omega
  have HS := Shut.mk (fun W => implSch s W)
  unfold SchPost at HS
  cases h : schOk s with
  | false =>
    unfold JoinPost
    rw [joinX_no (fun q => by rw [h] at q; cases q.1)]
    rw [h] at HS
    clear h hm2 hf hUs
    generalize schK s = k at *
    generalize schM s = m at *
    go_enter Tw.func9, Tw.ntmps9
    go_wp2_with fail
    refine (HS.out _).mono ?_
    rintro e w1 ⟨rfl, rfl⟩
    go_wp2_with fail
    go_ret2
    exact ⟨rfl, Below.refl _ _⟩
  | true =>
    obtain ⟨b1, b2, _, _⟩ := sch_bounds h
    by_cases hl : U.length = schK s
    · by_cases hn : 0 ≤ n ∧ n ≤ (groupN s : Int)
      · obtain ⟨b, off, rfl, lb, hc⟩ := units_cells hm2 (by omega)
        obtain ⟨N, rfl⟩ := Int.eq_ofNat_of_zero_le hn.1
        have hUs' : ∀ j, j < schK s → (U.getD j ⟨#[]⟩).size ≤ 1048576 := fun j hj => hUs j (by omega)
        have hc' : ∀ j, j < schK s → w.cell? ⟨b, off + j, none⟩ = some (.string (U.getD j ⟨#[]⟩)) := fun j hj => hc j (by omega)
        rw [hl]
        exact implJoin_walk s U N (schK s) b off cap2 w h rfl hl (by omega) hUs' ⟨lb, hc'⟩
      · unfold JoinPost
        rw [joinX_no (fun q => hn q.2.2)]
        have HG := Shut.mk (fun W => implSize s W)
        rw [h] at HS
        rw [hl]
        have hkk : ((schK s : Int) != (schK s : Int)) = false := by simp
        clear h hm2 hf hl hUs
        by_cases h0 : n < 0
        · clear hn
          generalize schK s = k at *
          generalize schM s = m at *
          generalize groupN s = S at *
          go_enter Tw.func9, Tw.ntmps9
          go_wp2_with fail
          refine (HS.out _).mono ?_
          rintro e w1 ⟨rfl, rfl⟩
          go_wp2_with fail
          go_ret2
          exact ⟨rfl, Below.refl _ _⟩
        · have h1 : (groupN s : Int) < n := by omega
          clear hn
          generalize schK s = k at *
          generalize schM s = m at *
          generalize groupN s = S at *
          go_enter Tw.func9, Tw.ntmps9
          go_wp2_with fail
          refine (HS.out _).mono ?_
          rintro e w1 ⟨rfl, rfl⟩
          go_wp2_with fail
          refine (HG.out _).mono ?_
          rintro e w2 ⟨rfl, rfl⟩
          go_wp2_with fail
          go_ret2
          exact ⟨rfl, Below.refl _ _⟩
    · unfold JoinPost
      rw [joinX_no (fun q => hl q.2.1)]
      have hne : ((U.length : Int) != (schK s : Int)) = true := by rw [bne_iff_ne]; omega
      rw [h] at HS
      clear h hm2 hf hl hUs
      generalize schK s = k at *
      generalize schM s = m at *
      go_enter Tw.func9, Tw.ntmps9
      go_wp2_with fail
      refine (HS.out _).mono ?_
      rintro e w1 ⟨rfl, rfl⟩
      go_wp2_with fail
      go_ret2
      exact ⟨rfl, Below.refl _ _⟩
theorem cutAll : CutAll := ⟨implCutUnits, implJoinUnits⟩
theorem walkCutUnits (x : Int) (s : ByteArray) (hs : s.size ≤ maxLen) (w : World) :
    Calls Tw.prog 4 #[.int .i64 x, .string s] w fun e w' => e = .returned (.bool true) ∧ Below w.heap.size w w' := lawCutUnits implCutUnits (by unfold maxLen at hs; exact hs)
theorem walkJoinUnits (x : Int) (a1 : Option Addr) (L : List ByteArray) (cap1 : Nat) (y : Int) (w : World) (hm1 : RRow w a1 (tv L) 0 w.heap.size) (hl1 : L.length ≤ 9223372036854775807 ∧ ∀ x ∈ L, x.size ≤ 9223372036854775807) :
    Calls Tw.prog 5 #[.int .i64 x, .slice a1 L.length cap1, .int .i64 y] w fun e w' => e = .returned (.bool true) ∧ Below w.heap.size w w' := lawJoinUnits implJoinUnits ⟨a1, cap1, rfl, hm1⟩ hl1
set_option maxRecDepth 1000000 in
set_option maxHeartbeats 2000000 in
theorem walkCuts (a : Option Addr) (len cap : Nat) (w : World) (hcode : len ≤ 1048576 → CodeAt w w.heap.size a len) :
    Calls Tw.prog 3 #[.slice a len cap] w fun e w' => e = .returned (.bool true) ∧ Below w.heap.size w w' := by
  by_cases h : len ≤ 1048576
  · exact cuts_walk cutAll a len cap w (hcode h)
  · have hbig : decide ((1048576 : Int) < (len : Int)) = true := by simp; omega
    clear hcode
    go_enter Tw.func3, Tw.ntmps3
    go_wp2_with fail
    refine (big_any a len cap _).mono ?_
    rintro e w1 ⟨rfl, rfl⟩
    rw [hbig]
    go_wp2_with fail
    go_ret
    exact ⟨rfl, Below.refl _ _⟩
end Go.Proofs.YtfhcpehfmecpjaaT
