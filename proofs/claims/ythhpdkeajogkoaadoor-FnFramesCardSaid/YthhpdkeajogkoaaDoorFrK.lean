/- The walk of the law on records that come back from their frames, also where a file is cut. -/
import Derived.Test.YthhpdkeajogkoaaDoorFrL
namespace Go.Proofs.YthhpdkeajogkoaaDoor
open Go.RowKit
attribute [local go_sem ↓] Go.wp_at_zero Go.wp_at_succ
attribute [local irreducible] frameB W.fbs

theorem three_all {f r0 r1 r2 : ByteArray} (hf : f.data.toList = W.fbs [r0, r1, r2]) (hok : ∀ r ∈ [r0, r1, r2], 1 ≤ r.size ∧ r.size ≤ 900) (hs : f.size ≤ 20000) :
    ∃ a1 a2 : Nat, a1 = (frameB r0).size ∧ a2 = a1 + (frameB r1).size ∧ f.size = a2 + (frameB r2).size ∧ W.framesOf f = [(r0, a1), (r1, a2), (r2, f.size)] ∧
      ∀ k, k ≤ f.size → (k < a1 ∧ W.framesOf (f.extract 0 k) = []) ∨ (a1 ≤ k ∧ k < a2 ∧ W.framesOf (f.extract 0 k) = [(r0, a1)]) ∨ (a2 ≤ k ∧ k < f.size ∧ W.framesOf (f.extract 0 k) = [(r0, a1), (r1, a2)]) ∨ (f.size ≤ k ∧ W.framesOf (f.extract 0 k) = [(r0, a1), (r1, a2), (r2, f.size)]) := by
  have hok' : ∀ r ∈ [r0, r1, r2], W.okRec r := fun r hr => ⟨(hok r hr).1, by have := (hok r hr).2; omega⟩
  obtain ⟨hz, hw⟩ := W.three_whole hf hok' hs
  refine ⟨_, _, rfl, rfl, hz, by rw [hw, hz], fun k hk => ?_⟩
  have := W.three_cut k hf hok' hs
  rw [← hz] at this
  exact this
theorem unf3 {f r0 r1 r2 : ByteArray} {e1 e2 e3 : Nat} (h : W.framesOf f = [(r0, e1), (r1, e2), (r2, e3)]) (w : World) (ht : SumTab w) :
    Calls Tryd.prog 10 #[.string f] w fun e w' => ∃ a cap, e = .returned (.tuple #[.slice a 3 cap, .int .i64 (e3 : Int)]) ∧ RowAt w' w.heap.size a [r0, r1, r2] cap ∧ Below w.heap.size w w' := unf_of h w ht
theorem unf2 {f r0 r1 : ByteArray} {e1 e2 : Nat} (h : W.framesOf f = [(r0, e1), (r1, e2)]) (w : World) (ht : SumTab w) :
    Calls Tryd.prog 10 #[.string f] w fun e w' => ∃ a cap, e = .returned (.tuple #[.slice a 2 cap, .int .i64 (e2 : Int)]) ∧ RowAt w' w.heap.size a [r0, r1] cap ∧ Below w.heap.size w w' := unf_of h w ht
theorem unf1 {f r0 : ByteArray} {e1 : Nat} (h : W.framesOf f = [(r0, e1)]) (w : World) (ht : SumTab w) :
    Calls Tryd.prog 10 #[.string f] w fun e w' => ∃ a cap, e = .returned (.tuple #[.slice a 1 cap, .int .i64 (e1 : Int)]) ∧ RowAt w' w.heap.size a [r0] cap ∧ Below w.heap.size w w' := unf_of h w ht
theorem unf0 {f : ByteArray} (h : W.framesOf f = []) (w : World) (ht : SumTab w) :
    Calls Tryd.prog 10 #[.string f] w fun e w' => ∃ a cap, e = .returned (.tuple #[.slice a 0 cap, .int .i64 0]) ∧ RowAt w' w.heap.size a [] cap ∧ Below w.heap.size w w' := unf_of h w ht
theorem same3 (a b : Option Addr) (xs ys : List ByteArray) (n ca cb : Nat) (w : World) (e : xs = ys) (hn : n = xs.length) (ha : SRow w a xs) (hb : SRow w b ys) (h3 : n ≤ 3) :
    Calls Tryd.prog 11 #[.slice a n ca, .slice b n cb] w fun e w' => e = .returned (.bool true) ∧ Below w.heap.size w w' := by
  subst e hn
  refine (sameTexts_any a b xs xs ca cb w ha hb (by omega) (by omega)).mono ?_
  rintro e w' ⟨rfl, q, rfl⟩
  exact ⟨by simp [eqS], drew_bel _ _ _⟩
theorem cut_to (s : ByteArray) (k : Nat) (h : k ≤ s.size) (w : World) : (Instr.slice 9 (.string s) none (some (.int .i64 (k : Int))) none).run Tryd.prog w = .ok (.string (s.extract 0 k)) w := by
  rw [run_slice_string_h (ht := Tryd.underlying9) (kh := .i64) (h0 := by omega) (h2 := by omega), Int.toNat_natCast]
theorem own_first (w : World) (l : List ByteArray) : (w.alloc (.cells #[.int .i64 0] 3)).ownsRow w.heap.size 3 1 (.slice (some ⟨w.heap.size, 0, none⟩) 1 1) (0 + 1) (iv (endsTo l 0)) := by
  have e : endsTo l 0 = [(0 : Int)] := by
    unfold endsTo
    show [((W.fbs ([] : List ByteArray)).length : Int)] = _
    unfold W.fbs; rfl
  rw [e]
  exact World.ownsRow_lit w #[.int .i64 0] 1 (Nat.le_refl _) (by decide) rfl
theorem three_ok {x y z : ByteArray} (hx : 1 ≤ x.size ∧ x.size ≤ 900) (hy : 1 ≤ y.size ∧ y.size ≤ 900) (hz : 1 ≤ z.size ∧ z.size ≤ 900) : ∀ r ∈ [x, y, z], 1 ≤ r.size ∧ r.size ≤ 900 := by
  intro r hr
  simp only [List.mem_cons, List.not_mem_nil, or_false] at hr
  rcases hr with rfl | rfl | rfl
  · exact hx
  · exact hy
  · exact hz
set_option maxRecDepth 100000 in
set_option maxHeartbeats 2000000 in
theorem frames_walk (a : Option Addr) (len cap : Nat) (w : World) (hcode : CodeAt w w.heap.size a len) (htab : SumTab w) :
    Calls Tryd.prog 3 #[.slice a len cap] w fun e w' => e = .returned (.bool true) ∧ Below w.heap.size w w' := by
  have hl := hcode.1
  have hbig : decide ((1048576 : Int) < (len : Int)) = false := by simp; omega
  have HC : Hid (CodeAt w w.heap.size a len) := hcode
  have HT : Hid (SumTab w) := htab
  clear hcode htab
  obtain ⟨i0, hi, hz0, hz1, hz2⟩ := info_parts infoInt
  go_enter Tryd.func3, Tryd.ntmps3
  go_wp2_with fail
  refine (big_any a len cap _).mono ?_
  rintro e w1 ⟨rfl, hw1⟩
  obtain rfl : w = w1 := hw1.symm
  clear hw1
  rw [hbig]
  go_wp2_with fail
  refine (drawPlaces_any _ a len cap HC.out).mono ?_
  rintro e w2 ⟨gp, pcap, l, rfl, hgp, hgp2, hll, hlx, hcell, hb2⟩
  have HB2 : Hid (Below w.heap.size w w2) := hb2
  have HC2 : Hid (CodeAt w2 w2.heap.size a len) := ⟨HC.out.1, fun h => by obtain ⟨b, off, e1, e2, e3⟩ := (HC.out.below hb2 (Nat.le_refl _)).2 h; exact ⟨b, off, e1, by have := hb2.size; omega, e3⟩⟩
  have hx0 := hcell 0 (by omega)
  have hb0 : 0 ≤ l.getD 0 0 ∧ l.getD 0 0 < 10000 := hlx _ (by simp [List.getD, hll])
  generalize l.getD 0 0 = x0 at *
  have HX0 : Hid (w2.cell? ⟨gp, 0, none⟩ = some (.int .i64 x0)) := hx0
  clear hb2 hcell hll hlx hx0
  go_wp2_with fail
  refine (drawHex_any _ a len cap HC2.out).mono ?_
  rintro e w3 ⟨t, rfl, ht, hb3⟩
  have HX3 : Hid (w3.cell? ⟨gp, 0, none⟩ = some (.int .i64 x0)) := by
    have := HX0.out
    rw [← hb3.cell (p := ⟨gp, 0, none⟩) hgp2] at this
    exact this
  have hgp3 : gp < w3.heap.size := Nat.lt_of_lt_of_le hgp2 hb3.size
  have HB3 : Hid (Below w.heap.size w w3) := HB2.out.trans (hb3.mono HB2.out.size)
  clear hb3 HX0 HB2 HC2 HC
  obtain ⟨bb, hbb⟩ : ∃ bb : Bool, bb = decide (t.size = 0 ∨ 900 < t.size) := ⟨_, rfl⟩
  have HBB : Hid _ := hbb
  clear hbb
  go_upto_region 5 with fail
  go_cut [34] from 23 to 36 (fun u34 wx => u34 = .bool bb ∧ wx = w3.alloc (.cells #[.string t, .string ⟨#[116, 119, 111]⟩, .string ⟨#[116, 104, 114, 101, 101, 32, 97, 110, 100, 32, 109, 111, 114, 101]⟩] 9))
  case first =>
    by_cases h0 : t.size = 0
    · have h0' : ((t.size : Int) == 0) = true := by rw [beq_iff_eq]; omega
      have HB' : Hid (bb = true) := by have := HBB.out; rw [decide_eq_true (.inl h0)] at this; exact this
      clear HBB h0
      go_wp2_with fail
      go_meet
      case rel => exact ⟨by rw [HB'.out], rfl⟩
    · have h0' : ((t.size : Int) == 0) = false := by rw [beq_eq_false_iff_ne]; omega
      by_cases h9 : 900 < t.size
      · have h9' : (900 : Int) < (t.size : Int) := by omega
        have HB' : Hid (bb = true) := by have := HBB.out; rw [decide_eq_true (.inr h9)] at this; exact this
        clear HBB h9 h0
        go_wp2_with fail
        go_meet
        case rel => exact ⟨by rw [HB'.out], rfl⟩
      · have h9' : ¬ (900 : Int) < (t.size : Int) := by omega
        have HB' : Hid (bb = false) := by have := HBB.out; rw [decide_eq_false (by omega)] at this; exact this
        clear HBB h9 h0
        go_wp2_with fail
        go_meet
        case rel => exact ⟨by rw [HB'.out], rfl⟩
  case rest =>
    obtain ⟨rfl, rfl⟩ := hcut
    go_upto_if 34 with fail
    go_cut [4] from 23 to 36 (fun u4 wx => u4 = .slice (some ⟨w3.heap.size, 0, none⟩) 3 3 ∧ ∃ l : List ByteArray, l.length = 3 ∧ (∀ r ∈ l, 1 ≤ r.size ∧ r.size ≤ 900) ∧ WRow wx w3.heap.size l ∧ Below w3.heap.size w3 wx)
    case first =>
      cases bb
      · have hsz : 1 ≤ t.size ∧ t.size ≤ 900 := by have := (decide_eq_false_iff_not.1 HBB.out.symm); omega
        have HSZ : Hid _ := hsz
        clear hsz
        go_wp2_with fail
        go_meet
        case rel => exact ⟨rfl, _, rfl, three_ok HSZ.out (by decide) (by decide), wrow_three w3 _ _ _ _, (Below.refl _ _).alloc (Nat.le_refl _) _⟩
      · go_wp2_with fail
        go_meet
        case rel => exact ⟨rfl, _, rfl, three_ok (by decide) (by decide) (by decide), wrow_three w3 _ _ _ _, (Below.refl _ _).alloc (Nat.le_refl _) _⟩
    case rest =>
      obtain ⟨rfl, l, hl3, hlr, hrow, hbc⟩ := hcut
      have HL : Hid (l.length = 3 ∧ ∀ r ∈ l, 1 ≤ r.size ∧ r.size ≤ 900) := ⟨hl3, hlr⟩
      have hwc := hbc.size
      have hglc := hrow.1
      have HROW : Hid (WRow wc w3.heap.size l) := hrow
      have HBC : Hid (Below w3.heap.size w3 wc) := hbc
      clear hl3 hlr hrow hbc HBB
      go_wp2_with fail
      go_loopw [5, 6, 7] (fun fv v i wr => ∃ (k : Nat) (f : ByteArray), fv = .string f ∧ i = .int .i64 k ∧ k ≤ 3 ∧ FrLoop l w3.heap.size wc.heap.size w3 wr v k f ∧ wc.heap.size ≤ wr.heap.size) (fun _ _ i _ => 3 - (intOf i).toNat)
      case atStart => exact ⟨0, ⟨#[]⟩, rfl, rfl, by omega, ⟨by unfold W.fbs; rfl, own_first wc l, HROW.out.below ((Below.refl _ _).alloc (Nat.le_refl _) _) hglc, HBC.out.alloc hwc _⟩, by simp⟩
      case round =>
        obtain ⟨k, f, rfl, rfl, hk, hlp, hwr⟩ := hrel
        by_cases hlt : k < 3
        · have hlt' : (k : Int) < 3 := by omega
          have k0 : (0 : Int) ≤ (k : Int) := by omega
          obtain ⟨r, hrd⟩ : ∃ r, r = l.getD k ⟨#[]⟩ := ⟨_, rfl⟩
          have hc0 := (hlp.row.2 k (by rw [HL.out.1]; exact hlt)).1
          rw [← hrd] at hc0
          have hmem : r ∈ l := by rw [hrd]; simp [List.getD, show k < l.length by rw [HL.out.1]; exact hlt]
          have hrs := HL.out.2 r hmem
          have hle := W.frameB_le r
          have hfs : f.size ≤ 6000 := by have := fbs_take_small HL.out.2 HL.out.1 k; rw [← hlp.bytes] at this; exact this
          have hfr := implFrame_yes r wr (HT.out.stays (HB3.out.trans (hlp.bel.mono HB3.out.size))) (by omega)
          have HRD : Hid (r = l.getD k ⟨#[]⟩) := hrd
          have HFR : Hid (Calls Tryd.prog 9 #[.string r] wr fun e w' => e = .returned (.tuple #[.string (frameB r), .bool true]) ∧ Below wr.heap.size wr w') := hfr
          clear hrd hfr hmem
          go_wp2_with fail
          refine HFR.out.mono ?_
          clear HFR
          rintro e w5 ⟨rfl, hb5⟩
          have hlp5 := hlp.below hb5
          have hs5 := hb5.size
          have hown := hlp5.own
          have hB5 := hlp5.bel.size
          have hsz6 : (f ++ frameB r).size = f.size + (frameB r).size := ByteArray.size_append
          clear hlp hb5
          go_wp2_with (at_builtin; refine wpList_append_own _ rfl _ _ 24 rfl wc.heap.size 3 i0 (.int .i64 0) 1 8 Tryd.underlying24 hi hz0 hz1 hz2 rfl (by decide) _ _ _ rfl (hown.alloc _) ⟨w5.heap.size, 0, none⟩ 1 1 [.int .i64 _] rfl rfl (cell_one_new _ _ _) ?c2 ?c3 ?c4 ?c5 ?_)
          case c2 => first | rfl | (intro u hu; simp at hu; subst hu; rfl)
          case c3 => unfold maxLen; omega
          case c4 => omega
          case c5 => first | omega | (simp; omega)
          · intro v' w6 hown' hgrow _
            have hlp6 := hlp5.more (n := f.size + (frameB r).size) (by rw [HL.out.1]; exact hlt) hglc hwc (by omega) (by rw [← HRD.out]; exact hsz6.symm) (by rw [Int.natCast_add]; exact hown') hgrow
            rw [← HRD.out] at hlp6
            have hs6 : wc.heap.size ≤ w6.heap.size := by have := hgrow.size; simp at this; omega
            clear hown' hgrow hown hlp5
            go_wp2_with fail
            go_roundw
            case rel => exact ⟨k + 1, f ++ frameB r, rfl, by go_num, by omega, hlp6, hs6⟩
            case measure => simp [intOf]; omega
        · obtain rfl : k = 3 := by omega
          obtain ⟨r0, r1, r2, rfl⟩ : ∃ r0 r1 r2, l = [r0, r1, r2] := by
            have h3 := HL.out.1
            match l, h3 with
            | [r0, r1, r2], _ => exact ⟨r0, r1, r2, rfl⟩
          obtain ⟨ge, ecap, rfl, hge, c0, c1, c2, c3⟩ := ends_cells hlp.own
          have hfs : f.size ≤ 6000 := by have := fbs_take_small HL.out.2 HL.out.1 3; rw [← hlp.bytes] at this; exact this
          obtain ⟨a1, a2, ea1, ea2, ea3, hwhole, hcuts⟩ := three_all hlp.bytes HL.out.2 (by omega)
          have hz0' := W.frameB_size r0
          have hz1' := W.frameB_size r1
          have hz2' := W.frameB_size r2
          rw [← ea1] at c1 c2 c3
          rw [← ea2] at c2 c3
          rw [← ea3] at c3
          have h1 : a1 < a2 := by omega
          have h2 : a2 < f.size := by omega
          have h0 : 0 < a1 := by omega
          clear ea1 ea2 ea3 hz0' hz1' hz2'
          have HRW : Hid (WRow wr w3.heap.size [r0, r1, r2]) := hlp.row
          have HBW : Hid (Below w3.heap.size w3 wr) := hlp.bel
          have HWH : Hid (W.framesOf f = [(r0, a1), (r1, a2), (r2, f.size)]) := hwhole
          have HCU : Hid _ := hcuts
          have hglr : w3.heap.size < wr.heap.size := hlp.row.1
          have HCC : Hid (wr.cell? ⟨ge, 0, none⟩ = some (.int .i64 0) ∧ wr.cell? ⟨ge, 1, none⟩ = some (.int .i64 (a1 : Int)) ∧ wr.cell? ⟨ge, 2, none⟩ = some (.int .i64 (a2 : Int)) ∧ wr.cell? ⟨ge, 3, none⟩ = some (.int .i64 (f.size : Int))) := ⟨c0, c1, c2, c3⟩
          have HTR : Hid (SumTab wr) := HT.out.stays (HB3.out.trans (hlp.bel.mono HB3.out.size))
          clear hlp hwhole hcuts c0 c1 c2 c3 HL HROW HBC
          go_wp2_with fail
          refine (unf3 HWH.out _ HTR.out).mono ?_
          rintro e w5 ⟨pa, pc, rfl, hr5, hb5⟩
          have hrw5 := HRW.out.below hb5 HRW.out.1
          have hd : (((f.size : Int)) != (f.size : Int)) = false := by simp
          have HB5 : Hid (Below wr.heap.size wr w5) := hb5
          have HR5 : Hid (SRow w5 pa [r0, r1, r2] ∧ SRow w5 (some ⟨w3.heap.size, 0, none⟩) [r0, r1, r2]) := ⟨hr5.srw, hrw5.srow⟩
          clear hr5 hrw5 hb5
          go_wp2_with fail
          refine (same3 pa _ [r0, r1, r2] [r0, r1, r2] 3 pc 3 _ rfl rfl HR5.out.1 HR5.out.2 (by omega)).mono ?_
          rintro e w6 ⟨rfl, hb6⟩
          have hb56 : Below wr.heap.size wr w6 := HB5.out.trans (hb6.mono HB5.out.size)
          have HB6 : Hid (Below wr.heap.size wr w6) := hb56
          have hx6 : w6.cell? ⟨gp, 0, none⟩ = some (.int .i64 x0) := by
            rw [hb56.cell (p := ⟨gp, 0, none⟩) (by simp; omega), HBW.out.cell (p := ⟨gp, 0, none⟩) hgp3]; exact HX3.out
          obtain ⟨kk, hkk⟩ : ∃ i : Nat, x0.tmod ((f.size : Int) + 1) = (i : Int) := by
            rw [Int.tmod_eq_emod_of_nonneg hb0.1]
            exact Int.eq_ofNat_of_zero_le (Int.emod_nonneg _ (by omega))
          have hkl : kk ≤ f.size := by
            have := Int.emod_lt_of_pos x0 (show (0 : Int) < (f.size : Int) + 1 by omega)
            rw [Int.tmod_eq_emod_of_nonneg hb0.1] at hkk
            omega
          have hne : ¬ ((f.size : Int) + 1 = 0) := by omega
          have hct := cut_to f kk hkl
          have hcu := HCU.out kk hkl
          generalize f.extract 0 kk = c at *
          have HTS : Hid (SumTab w6) := HTR.out.stays hb56
          clear hb6 hb56 HB5 HR5
          rcases hcu with ⟨hk1, hfr⟩ | ⟨hk0, hk1, hfr⟩ | ⟨hk0, hk1, hfr⟩ | ⟨hk0, hfr⟩
          · have k0 : (0 : Int) ≤ (kk : Int) := by omega
            have k1 : (kk : Int) < (a1 : Int) := by omega
            have HFR : Hid (W.framesOf c = []) := hfr
            clear hfr
            go_wp2_with fail
            refine (unf0 HFR.out _ HTS.out).mono ?_
            rintro e w7 ⟨qa, qc, rfl, hr7, hb7⟩
            have hb67 : Below wr.heap.size wr w7 := HB6.out.trans (hb7.mono HB6.out.size)
            have HB7 : Hid (Below wr.heap.size wr w7) := hb67
            have d0 : w7.cell? ⟨ge, 0, none⟩ = some (.int .i64 0) := by rw [hb67.cell (p := ⟨ge, 0, none⟩) hge]; exact HCC.out.1
            have hrw7 := HRW.out.below hb67 HRW.out.1
            have HS : Hid (SRow w7 qa ([] : List ByteArray) ∧ SRow w7 (some ⟨w3.heap.size, 0, none⟩) ([] : List ByteArray)) := ⟨hr7.srw, SRow.take hrw7 0⟩
            clear hr7 hb7 hb67 hrw7
            go_wp2_with fail
            refine (same3 qa _ ([] : List ByteArray) ([] : List ByteArray) 0 qc 3 _ rfl rfl HS.out.1 HS.out.2 (by omega)).mono ?_
            rintro e w8 ⟨rfl, hb8⟩
            have hb78 : Below wr.heap.size wr w8 := HB7.out.trans (hb8.mono HB7.out.size)
            have HB8 : Hid (Below w.heap.size w w8) := (HB3.out.trans (HBW.out.mono HB3.out.size)).trans (hb78.mono (Nat.le_trans HB3.out.size HBW.out.size))
            have d1 : w8.cell? ⟨ge, 1, none⟩ = some (.int .i64 (a1 : Int)) := by rw [hb78.cell (p := ⟨ge, 1, none⟩) hge]; exact HCC.out.2.1
            clear hb8 hb78
            go_wp2_with fail
            go_ret
            exact ⟨rfl, HB8.out⟩
          · have k0 : (a1 : Int) ≤ (kk : Int) := by omega
            have k1 : (kk : Int) < (a2 : Int) := by omega
            have HFR : Hid (W.framesOf c = [(r0, a1)]) := hfr
            clear hfr
            go_wp2_with fail
            refine (unf1 HFR.out _ HTS.out).mono ?_
            rintro e w7 ⟨qa, qc, rfl, hr7, hb7⟩
            have hb67 : Below wr.heap.size wr w7 := HB6.out.trans (hb7.mono HB6.out.size)
            have HB7 : Hid (Below wr.heap.size wr w7) := hb67
            have d0 : w7.cell? ⟨ge, 1, none⟩ = some (.int .i64 (a1 : Int)) := by rw [hb67.cell (p := ⟨ge, 1, none⟩) hge]; exact HCC.out.2.1
            have hrw7 := HRW.out.below hb67 HRW.out.1
            have HS : Hid (SRow w7 qa [r0] ∧ SRow w7 (some ⟨w3.heap.size, 0, none⟩) [r0]) := ⟨hr7.srw, SRow.take hrw7 1⟩
            clear hr7 hb7 hb67 hrw7
            go_wp2_with fail
            refine (same3 qa _ [r0] [r0] 1 qc 3 _ rfl rfl HS.out.1 HS.out.2 (by omega)).mono ?_
            rintro e w8 ⟨rfl, hb8⟩
            have hb78 : Below wr.heap.size wr w8 := HB7.out.trans (hb8.mono HB7.out.size)
            have HB8 : Hid (Below w.heap.size w w8) := (HB3.out.trans (HBW.out.mono HB3.out.size)).trans (hb78.mono (Nat.le_trans HB3.out.size HBW.out.size))
            have d1 : w8.cell? ⟨ge, 2, none⟩ = some (.int .i64 (a2 : Int)) := by rw [hb78.cell (p := ⟨ge, 2, none⟩) hge]; exact HCC.out.2.2.1
            clear hb8 hb78
            go_wp2_with fail
            go_ret
            exact ⟨rfl, HB8.out⟩
          · have k0 : (a2 : Int) ≤ (kk : Int) := by omega
            have k1 : (kk : Int) < (f.size : Int) := by omega
            have HFR : Hid (W.framesOf c = [(r0, a1), (r1, a2)]) := hfr
            clear hfr
            go_wp2_with fail
            refine (unf2 HFR.out _ HTS.out).mono ?_
            rintro e w7 ⟨qa, qc, rfl, hr7, hb7⟩
            have hb67 : Below wr.heap.size wr w7 := HB6.out.trans (hb7.mono HB6.out.size)
            have HB7 : Hid (Below wr.heap.size wr w7) := hb67
            have d0 : w7.cell? ⟨ge, 2, none⟩ = some (.int .i64 (a2 : Int)) := by rw [hb67.cell (p := ⟨ge, 2, none⟩) hge]; exact HCC.out.2.2.1
            have hrw7 := HRW.out.below hb67 HRW.out.1
            have HS : Hid (SRow w7 qa [r0, r1] ∧ SRow w7 (some ⟨w3.heap.size, 0, none⟩) [r0, r1]) := ⟨hr7.srw, SRow.take hrw7 2⟩
            clear hr7 hb7 hb67 hrw7
            go_wp2_with fail
            refine (same3 qa _ [r0, r1] [r0, r1] 2 qc 3 _ rfl rfl HS.out.1 HS.out.2 (by omega)).mono ?_
            rintro e w8 ⟨rfl, hb8⟩
            have hb78 : Below wr.heap.size wr w8 := HB7.out.trans (hb8.mono HB7.out.size)
            have HB8 : Hid (Below w.heap.size w w8) := (HB3.out.trans (HBW.out.mono HB3.out.size)).trans (hb78.mono (Nat.le_trans HB3.out.size HBW.out.size))
            have d1 : w8.cell? ⟨ge, 3, none⟩ = some (.int .i64 (f.size : Int)) := by rw [hb78.cell (p := ⟨ge, 3, none⟩) hge]; exact HCC.out.2.2.2
            clear hb8 hb78
            go_wp2_with fail
            go_ret
            exact ⟨rfl, HB8.out⟩
          · have k0 : (f.size : Int) ≤ (kk : Int) := by omega
            have HFR : Hid (W.framesOf c = [(r0, a1), (r1, a2), (r2, f.size)]) := hfr
            clear hfr
            go_wp2_with fail
            refine (unf3 HFR.out _ HTS.out).mono ?_
            rintro e w7 ⟨qa, qc, rfl, hr7, hb7⟩
            have hb67 : Below wr.heap.size wr w7 := HB6.out.trans (hb7.mono HB6.out.size)
            have HB7 : Hid (Below wr.heap.size wr w7) := hb67
            have d0 : w7.cell? ⟨ge, 3, none⟩ = some (.int .i64 (f.size : Int)) := by rw [hb67.cell (p := ⟨ge, 3, none⟩) hge]; exact HCC.out.2.2.2
            have hrw7 := HRW.out.below hb67 HRW.out.1
            have HS : Hid (SRow w7 qa [r0, r1, r2] ∧ SRow w7 (some ⟨w3.heap.size, 0, none⟩) [r0, r1, r2]) := ⟨hr7.srw, SRow.take hrw7 3⟩
            clear hr7 hb7 hb67 hrw7
            go_wp2_with fail
            refine (same3 qa _ [r0, r1, r2] [r0, r1, r2] 3 qc 3 _ rfl rfl HS.out.1 HS.out.2 (by omega)).mono ?_
            rintro e w8 ⟨rfl, hb8⟩
            have hb78 : Below wr.heap.size wr w8 := HB7.out.trans (hb8.mono HB7.out.size)
            have HB8 : Hid (Below w.heap.size w w8) := (HB3.out.trans (HBW.out.mono HB3.out.size)).trans (hb78.mono (Nat.le_trans HB3.out.size HBW.out.size))
            clear hb8 hb78
            go_wp2_with fail
            go_ret
            exact ⟨rfl, HB8.out⟩
end Go.Proofs.YthhpdkeajogkoaaDoor
