/- The law on what is kept: its walk. -/
import Derived.Test.YtonffkdlnhjjfaaKeepB
import Derived.Test.YtonffkdlnhjjfaaKeepC
import Derived.Test.YtonffkdlnhjjfaaImC
namespace Go.Proofs.Ytonffkdlnhjjfaa
open Go.RowKit Go.ChangeShapes Go.WideShapes
attribute [local go_sem ↓] Go.wp_at_zero Go.wp_at_succ

set_option maxRecDepth 100000 in
theorem open_code {H : Type} {enc : TypeId × Value → H} {W : World} {r : Reach} {b0 base : Nat} {held : Bool} {v : Value} {d : DataW H} {p : List MemPlace}
    (hv : Value.okWide Try.prog W r b0 22 v) (h : DataW.Trod enc Try.prog W base (fun _ => true) held 22 v d p) : ∃ a len cap, v = .slice a len cap ∧ (len ≤ 1048576 → CodeAt W W.heap.size a len) := by
  obtain ⟨a0, l0, c0, rfl⟩ := okWide_slice Try.underlying22 hv
  refine ⟨a0, l0, c0, rfl, fun hl => ?_⟩
  obtain ⟨fuel, hf⟩ := h
  rcases open_ints Try.underlying22 Try.underlying5 (by kernel_rfl) hf with ⟨hcs, _⟩ | ⟨x, l, c, zs, hcs, _, hl', hm, hz, _, hcell, hwz⟩
  · simp [Value.cells] at hcs
    obtain ⟨rfl, rfl, rfl⟩ := hcs
    exact code_at (cap := 0) (zs := []) hl (.inl ⟨rfl, rfl⟩)
  · simp [Value.cells] at hcs
    obtain ⟨rfl, rfl, rfl⟩ := hcs
    exact code_at (cap := c0) (zs := zs) hl (.inr ⟨_, rfl, hl', by simpa using hz, hcell, hwz⟩)
theorem DOk.fit' {fs : List FM} (h : DOk fs) : FFit fs := by
  refine ⟨by have := h.1; omega, fun f hf => ?_⟩
  have := h.ok f hf
  have h1 := this.1.2
  have h2 := this.2.1
  have h3 := this.2.2.1
  have h4 := this.2.2.2
  exact ⟨by omega, by omega, by omega, by omega⟩
theorem lost_get (fs : List FM) (left : List Int) (n j : Nat) (hj : j < n) : (lostTo fs left n)[j]'(by rw [lostTo_len]; exact hj) = lostF (fs.getD j default) left[j]? := by
  unfold lostTo; simp
theorem lostF_size (f : FM) (l : Option Int) (h0 : 0 ≤ f.kept) (h1 : f.kept ≤ f.text.size) : ((lostF f l).text.size : Int) = leftOf f l := by
  obtain ⟨b0, b1⟩ := leftOf_in f l h0 h1
  unfold lostF
  show ((f.text.extract 0 (leftOf f l).toNat).size : Int) = leftOf f l
  rw [ByteArray.size_extract]
  omega
theorem lost_ok {fs : List FM} (left : List Int) (h : DOk fs) : DOk (lostTo fs left fs.length) := by
  refine DOk.of_up (by rw [lostTo_len]; exact h.1) (fun f hf => ?_) ?_
  · obtain ⟨j, hj, rfl⟩ := List.getElem_of_mem hf
    rw [lostTo_len] at hj
    rw [lost_get fs left _ j hj, getD_at fs j hj]
    have ho := h.ok fs[j] (List.getElem_mem hj)
    have hs := lostF_size fs[j] left[j]? ho.2.2.1 ho.2.2.2
    obtain ⟨b0, b1⟩ := leftOf_in fs[j] left[j]? ho.2.2.1 ho.2.2.2
    have hk : (lostF fs[j] left[j]?).kept = leftOf fs[j] left[j]? := rfl
    exact ⟨ho.1, by have := ho.2.1; omega, by rw [hk]; exact b0, by rw [hk, hs]; exact Int.le_refl _⟩
  · refine List.pairwise_iff_getElem.2 fun i j hi hj hij => ?_
    rw [lostTo_len] at hi hj
    rw [lost_get fs left _ i hi, lost_get fs left _ j hj, getD_at fs i hi, getD_at fs j hj]
    exact List.pairwise_iff_getElem.1 h.up i j hi hj hij
theorem lost_kept {fs : List FM} (left : List Int) (h : DOk fs) : ∀ f ∈ lostTo fs left fs.length, f.kept = (f.text.size : Int) := by
  intro f hf
  obtain ⟨j, hj, rfl⟩ := List.getElem_of_mem hf
  rw [lostTo_len] at hj
  rw [lost_get fs left _ j hj, getD_at fs j hj]
  have ho := h.ok fs[j] (List.getElem_mem hj)
  exact (lostF_size fs[j] left[j]? ho.2.2.1 ho.2.2.2).symm
theorem lost_again {es : List FM} (h : ∀ f ∈ es, f.kept = (f.text.size : Int)) : lostTo es [] es.length = es := by
  apply List.ext_getElem (by rw [lostTo_len])
  intro j h1 h2
  rw [lost_get es [] _ j h2, getD_at es j h2]
  have hk := h es[j] (List.getElem_mem h2)
  have hm : mostOf es[j] ([] : List Int)[j]? = 0 := by unfold mostOf; simp; intro hh; omega
  have hl : leftOf es[j] ([] : List Int)[j]? = es[j].kept := by unfold leftOf; rw [hm]; split <;> omega
  unfold lostF
  rw [hl, hk, Int.toNat_natCast]
  rw [show es[j].text.extract 0 es[j].text.size = es[j].text by simp]
  rw [← hk]
theorem lost_akept {fs : List FM} (left : List Int) (h : DOk fs) : akB (lostTo fs left fs.length) = true := by
  refine akB_yes ⟨lost_ok left h, fun k hk => ?_⟩
  rw [getD_at _ k hk, lost_kept left h _ (List.getElem_mem hk)]
  exact Int.le_refl _
structure Pre (t s : ByteArray) : Prop where
  fits : s.size ≤ 9223372036854775807
  pre : ∃ n, n ≤ s.size ∧ t = s.extract 0 n
theorem begins_is (t s : ByteArray) (w : World) (h : Pre t s) : Calls Try.prog 13 #[.string t, .string s] w fun e w' => e = .returned (.bool true) ∧ w' = w := by
  obtain ⟨hs, n, hn, ht⟩ := h
  subst ht; exact begins_yes s n w hn hs
set_option maxHeartbeats 2000000 in
set_option maxRecDepth 100000 in
theorem keeps_walk (a : Option Addr) (len cap : Nat) (w : World) (hcode : CodeAt w w.heap.size a len) :
    Calls Try.prog 3 #[.slice a len cap] w fun e w' => e = .returned (.bool true) ∧ Below w.heap.size w w' := by
  have HC : Hid (CodeAt w w.heap.size a len) := hcode
  have hbig : decide ((1048576 : Int) < (len : Int)) = false := by have := hcode.1; simp; omega
  clear hcode
  go_enter Try.func3, Try.ntmps3
  go_wp2_with fail
  refine (big_any a len cap _).mono ?_
  rw [hbig]
  intro e w1 hw1
  obtain ⟨rfl, hww⟩ := hw1
  rw [hww]
  clear hww w1 hbig
  go_wp2_with fail
  refine (drawRight_any w a len cap HC.out).mono ?_
  rintro e w1 ⟨v1, c1, fs, rfl, hok, h6, hf1, hb1⟩
  have HOK : Hid (DOk fs) := hok
  have s1 := hb1.size
  have m0 : Mem w w [] [] := ⟨by simp, by simp, Below.refl _ _⟩
  have M1 : Shut (Mem w (w1.alloc (.cells #[.slice v1 fs.length c1] 26)) [(w1.heap.size, [.slice v1 fs.length c1])] [(v1, fcs fs, w.heap.size, w1.heap.size)]) := ⟨((m0.below hb1).row hf1).box #[.slice v1 fs.length c1] 26⟩
  have HC1 : Hid (CodeAt (w1.alloc (.cells #[.slice v1 fs.length c1] 26)) (w1.alloc (.cells #[.slice v1 fs.length c1] 26)).heap.size a len) := by
    have h := HC.out.below M1.out.low (Nat.le_refl _)
    have hz := M1.out.low.size
    generalize (w1.alloc (.cells #[.slice v1 fs.length c1] 26)) = wq at h hz ⊢
    refine ⟨h.1, fun hp => ?_⟩
    obtain ⟨b, off, e, hb, hx⟩ := h.2 hp
    exact ⟨b, off, e, Nat.lt_of_lt_of_le hb hz, hx⟩
  clear hok hf1 hb1 m0
  go_wp2_with fail
  refine (drawPlaces_any _ a len cap HC1.out).mono ?_
  rintro e w2 ⟨gp, cp, l, rfl, hgp0, hgp1, hl12, hlx, hlc, hb2⟩
  have M2 : Shut (Mem w w2 [(w1.heap.size, [.slice v1 fs.length c1])] [(v1, fcs fs, w.heap.size, w1.heap.size)]) := ⟨M1.out.below hb2⟩
  have HLX : Hid (∀ x ∈ l, 0 ≤ x ∧ x < 10000) := hlx
  have HLC : Hid (∀ j, j < 12 → w2.cell? ⟨gp, j, none⟩ = some (.int .i64 (l.getD j 0))) := hlc
  clear hb2 M1 HC1 HC hlx hlc hgp0
  go_wp2_with fail
  refine (lefts_any _ gp cp l hl12 HLX.out hgp1 HLC.out).mono ?_
  rintro e w3 ⟨v3, c3, ll, rfl, hll, hr3, hb3⟩
  have M3 : Shut (Mem w w3 [(w1.heap.size, [.slice v1 fs.length c1])] [(v1, fcs fs, w.heap.size, w1.heap.size)]) := ⟨M2.out.below hb3⟩
  have HR3 : Hid (IRow w3 v3 ll) := hr3
  have x3 := M3.out.cell0
  obtain ⟨n6, hn6⟩ : ∃ n, n = ll.length := ⟨_, rfl⟩
  clear hb3 hr3 M2 HLX HLC hn6
  go_wp2_with fail
  have hlose := implLoseDisk v1 v3 fs ll c1 c3 w3 M3.out.at0.crow (DOk.fit' HOK.out) (by omega) HR3.out (by omega)
  rw [hll] at hlose
  refine hlose.mono ?_
  rintro e w4 ⟨v4, he4, hown4, hb4⟩
  rw [dOkB_yes HOK.out] at he4 hown4
  simp only [if_true] at hown4
  have HE1 : Hid (DOk (lostTo fs ll fs.length)) := lost_ok ll HOK.out
  have HE2 : Hid (∀ f ∈ lostTo fs ll fs.length, f.kept = (f.text.size : Int)) := lost_kept ll HOK.out
  have HE3 : Hid (akB (lostTo fs ll fs.length) = true) := lost_akept ll HOK.out
  have HE4 : Hid (∀ j (hj : j < fs.length), (lostTo fs ll fs.length).getD j default = lostF fs[j] ll[j]?) := fun j hj => by
    rw [getD_at _ j (by rw [lostTo_len]; exact hj), lost_get fs ll _ j hj, getD_at fs j hj]
  have hel : (lostTo fs ll fs.length).length = fs.length := lostTo_len _ _ _
  obtain ⟨va4, vc4, rfl⟩ := own_form hown4
  rw [hel] at he4 hown4
  subst he4
  generalize lostTo fs ll fs.length = es at *
  have M4 : Shut (Mem w (w4.alloc (.cells #[.slice va4 fs.length vc4] 26)) [(w4.heap.size, [.slice va4 fs.length vc4]), (w1.heap.size, [.slice v1 fs.length c1])] [(va4, fcs es, w3.heap.size, w4.heap.size), (v1, fcs fs, w.heap.size, w1.heap.size)]) := ⟨((M3.out.below hb4).row (FRw.of_own hown4).1).box #[.slice va4 fs.length vc4] 26⟩
  clear hown4 hb4 M3 HR3 hlose x3
  go_wp2_with fail
  have M4' : Shut (Mem w ((w4.alloc (.cells #[.slice va4 fs.length vc4] 26)).alloc (.cells #[] 3)) [(w4.heap.size, [.slice va4 fs.length vc4]), (w1.heap.size, [.slice v1 fs.length c1])] [(va4, fcs es, w3.heap.size, w4.heap.size), (v1, fcs fs, w.heap.size, w1.heap.size)]) := ⟨M4.out.alloc _⟩
  have hlose := implLoseDisk va4 (some ⟨w4.heap.size + 1, 0, none⟩) es [] vc4 0 _ M4'.out.at0.crow (DOk.fit' HE1.out) (by omega) (fun h => by simp at h) (by simp)
  rw [hel] at hlose
  refine hlose.mono ?_
  rintro e w5 ⟨v5, he5, hown5, hb5⟩
  rw [dOkB_yes HE1.out] at he5 hown5
  simp only [if_true] at hown5
  have hag := lost_again HE2.out
  first | rw [hag] at hown5 | (rw [hel] at hag; rw [hag] at hown5)
  try rw [hel] at hown5
  try rw [hel] at he5
  obtain ⟨va5, vc5, rfl⟩ := own_form hown5
  subst he5
  have M5 : Shut (Mem w (w5.alloc (.cells #[.slice va5 fs.length vc5] 26)) [(w5.heap.size, [.slice va5 fs.length vc5]), (w4.heap.size, [.slice va4 fs.length vc4]), (w1.heap.size, [.slice v1 fs.length c1])] [(va5, fcs es, w4.heap.size + 1, w5.heap.size), (va4, fcs es, w3.heap.size, w4.heap.size), (v1, fcs fs, w.heap.size, w1.heap.size)]) := ⟨((M4'.out.below hb5).row ((FRw.of_own hown5).1.wide' (by simp <;> omega))).box #[.slice va5 fs.length vc5] 26⟩
  have x5 := M5.out.cell1
  have y5 := M5.out.cell2
  have s4 := M4.out.lt0
  clear hown5 hb5 M4 M4' hlose hag
  go_wp2_with fail
  have hsame := sameDisk_same va4 va5 es vc4 vc5 _ M5.out.at1.crow M5.out.at0.crow (by omega)
  rw [hel] at hsame
  refine hsame.mono ?_
  rintro e w6 ⟨rfl, hb6⟩
  have M6 : Shut (Mem w w6 [(w5.heap.size, [.slice va5 fs.length vc5]), (w4.heap.size, [.slice va4 fs.length vc4]), (w1.heap.size, [.slice v1 fs.length c1])] [(va5, fcs es, w4.heap.size + 1, w5.heap.size), (va4, fcs es, w3.heap.size, w4.heap.size), (v1, fcs fs, w.heap.size, w1.heap.size)]) := ⟨M5.out.below hb6⟩
  have x6 := M6.out.cell1
  clear hb6 M5 hsame x5 y5
  go_wp2_with fail
  have hak := implAllKept va4 es vc4 _ M6.out.at1.crow (DOk.fit' HE1.out) (by omega)
  rw [hel, HE3.out] at hak
  refine hak.mono ?_
  rintro e w7 ⟨rfl, hb7⟩
  have M7 : Shut (Mem w w7 [(w5.heap.size, [.slice va5 fs.length vc5]), (w4.heap.size, [.slice va4 fs.length vc4]), (w1.heap.size, [.slice v1 fs.length c1])] [(va5, fcs es, w4.heap.size + 1, w5.heap.size), (va4, fcs es, w3.heap.size, w4.heap.size), (v1, fcs fs, w.heap.size, w1.heap.size)]) := ⟨M6.out.below hb7⟩
  have x7 := M7.out.cell2
  clear hb7 M6 hak x6
  go_wp2_with fail
  have hdk := implDiskOk v1 fs c1 _ M7.out.at2.crow (DOk.fit' HOK.out) (by omega)
  rw [dOkB_yes HOK.out] at hdk
  refine hdk.mono ?_
  rintro e w8 ⟨rfl, hb8⟩
  have M8 : Shut (Mem w w8 [(w5.heap.size, [.slice va5 fs.length vc5]), (w4.heap.size, [.slice va4 fs.length vc4]), (w1.heap.size, [.slice v1 fs.length c1])] [(va5, fcs es, w4.heap.size + 1, w5.heap.size), (va4, fcs es, w3.heap.size, w4.heap.size), (v1, fcs fs, w.heap.size, w1.heap.size)]) := ⟨M7.out.below hb8⟩
  clear hb8 M7 hdk x7
  go_wp2_with fail
  go_loopw [9] (fun i wr => ∃ (k : Nat), i = .int .i64 k ∧ k ≤ fs.length ∧ Shut (Mem w wr [(w5.heap.size, [.slice va5 fs.length vc5]), (w4.heap.size, [.slice va4 fs.length vc4]), (w1.heap.size, [.slice v1 fs.length c1])] [(va5, fcs es, w4.heap.size + 1, w5.heap.size), (va4, fcs es, w3.heap.size, w4.heap.size), (v1, fcs fs, w.heap.size, w1.heap.size)])) (fun i _ => fs.length - (intOf i).toNat)
  case atStart => exact ⟨0, rfl, Nat.zero_le _, M8⟩
  case round =>
    clear M8
    obtain ⟨k, rfl, hk, hm⟩ := hrel
    have x0 := hm.out.cell2
    have y0 := hm.out.cell1
    have hq1 := hm.out.lt2
    have hq4 := hm.out.lt1
    by_cases hlt : k < fs.length
    · obtain ⟨b1, o1, rfl, l1, c1'⟩ := FRow.at hm.out.at2.crow (by omega)
      obtain ⟨b2, o2, rfl, l2, c2'⟩ := FRow.at hm.out.at1.crow (by omega)
      obtain ⟨p0, p1, p2⟩ := c1' k hlt
      obtain ⟨q0, q1, q2⟩ := c2' k (by omega)
      rw [← getD_at es k (by omega), HE4.out k hlt] at q0 q1 q2
      have ho := HOK.out.ok fs[k] (List.getElem_mem hlt)
      obtain ⟨f, hfe⟩ : ∃ f, f = fs[k] := ⟨_, rfl⟩
      rw [← hfe] at p0 p1 p2 q0 q1 q2 ho
      obtain ⟨n, hn⟩ : ∃ n, n = leftOf f ll[k]? := ⟨_, rfl⟩
      obtain ⟨b0, bb⟩ := leftOf_in f ll[k]? ho.2.2.1 ho.2.2.2
      have hkn : f.kept ≤ leftOf f ll[k]? := by unfold leftOf; split <;> omega
      rw [← hn] at b0 bb hkn
      have e0 : (lostF f ll[k]?).name = f.name := rfl
      have e1 : (lostF f ll[k]?).text = f.text.extract 0 n.toNat := by unfold lostF; rw [← hn]
      have e2 : (lostF f ll[k]?).kept = n := by unfold lostF; rw [← hn]
      rw [e0] at q0
      rw [e1] at q1
      rw [e2] at q2
      have hts := ho.2.1
      have hk0' := ho.2.2.1
      have hk1' := ho.2.2.2
      obtain ⟨T, hT⟩ : ∃ T, T = f.text.extract 0 n.toNat := ⟨_, rfl⟩
      obtain ⟨U, hU⟩ : ∃ U, U = f.text.extract 0 f.kept.toNat := ⟨_, rfl⟩
      have hTs : T.size = n.toNat := by rw [hT, ByteArray.size_extract]; omega
      have hUT : U = T.extract 0 f.kept.toNat := by
        rw [hU, hT, ByteArray.extract_extract]
        congr 1; omega
      rw [← hT] at q1
      have hsl : ∀ W : World, (Instr.slice 9 (.string f.text) none (some (.int .i64 f.kept)) none).run Try.prog W = .ok (.string U) W := fun W => by
        rw [run_slice_string_h (ht := Try.underlying9) (kh := .i64) (h0 := hk0') (h2 := hk1'), hU]
      have HT : Pre T f.text := ⟨by omega, n.toNat, by omega, hT⟩
      have HUT : Pre U T := ⟨by omega, f.kept.toNat, by omega, hUT⟩
      have k0 : (0 : Int) ≤ (k : Int) := by omega
      have k1 : (k : Int) < (fs.length : Int) := by omega
      clear hfe c1' c2' e0 e1 e2 hT hU hUT ho hn
      have HMN : Hid (∀ q, Mem w (((wr.alloc (.cells #[.string f.name, .string f.text, .int .i64 f.kept] 36)).alloc (.cells #[.string f.name, .string T, .int .i64 n] 36)).drewN q) [(w5.heap.size, [.slice va5 fs.length vc5]), (w4.heap.size, [.slice (some ⟨b2, o2, none⟩) fs.length vc4]), (w1.heap.size, [.slice (some ⟨b1, o1, none⟩) fs.length c1])] [(va5, fcs es, w4.heap.size + 1, w5.heap.size), (some ⟨b2, o2, none⟩, fcs es, w3.heap.size, w4.heap.size), (some ⟨b1, o1, none⟩, fcs fs, w.heap.size, w1.heap.size)]) := fun q => ((hm.out.alloc _).alloc _).below ⟨rfl, rfl, rfl, Nat.le_refl _, fun _ _ => rfl⟩
      go_wp2_with fail
      go_quiet ((go_at_call 13; exact Calls.quiet_of_same (begins_is _ _ _ (by assumption))))
      go_wp2_with fail
      go_roundw
      case rel => exact ⟨k + 1, by go_num, by omega, ⟨HMN.out _⟩⟩
      case measure => simp [intOf]; omega
    · have e : k = fs.length := by omega
      subst e
      have HB : Hid (Below w.heap.size w wr) := hm.out.low
      go_wp2_with fail
      go_ret
      exact ⟨rfl, HB.out⟩
end Go.Proofs.Ytonffkdlnhjjfaa
