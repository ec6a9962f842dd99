/- What is left of a file when the power goes, and of a disk: the program's own walks. -/
import Derived.Test.YtonffkdlnhjjfaaImB
import Derived.Test.YtonffkdlnhjjfaaDiskR
namespace Go.Proofs.Ytonffkdlnhjjfaa
open Go.RowKit
attribute [local go_sem ↓] Go.wp_at_zero Go.wp_at_succ

set_option maxHeartbeats 1000000 in
theorem left_any (f : FM) (n : Int) (w : World) (h0 : 0 ≤ f.kept) (h1 : f.kept ≤ (f.text.size : Int)) :
    Calls Try.prog 27 #[fv f, .int .i64 n] w fun e w' => e = .returned (fv (lostF f (some n))) ∧ Below w.heap.size w w' := by
  obtain ⟨m, hm⟩ : ∃ m, m = leftOf f (some n) := ⟨_, rfl⟩
  have HE : Hid (lostF f (some n) = ⟨f.name, f.text.extract 0 m.toNat, m⟩) := by rw [hm]; exact (rfl : lostF f (some n) = ⟨f.name, f.text.extract 0 (leftOf f (some n)).toNat, leftOf f (some n)⟩)
  obtain ⟨b0, b1⟩ := leftOf_in f (some n) h0 h1
  rw [← hm] at b0 b1
  have hmx : max (min n (f.text.size : Int)) f.kept = m := by
    rw [hm]; unfold leftOf mostOf
    show max (min n (f.text.size : Int)) f.kept = if (if (f.text.size : Int) < n then (f.text.size : Int) else n) < f.kept then f.kept else (if (f.text.size : Int) < n then (f.text.size : Int) else n)
    omega
  have hsl : ∀ W : World, (Instr.slice 9 (.string f.text) none (some (.int .i64 m)) none).run Try.prog W = .ok (.string (f.text.extract 0 m.toNat)) W := fun W => by
    rw [run_slice_string_h (ht := Try.underlying9) (kh := .i64) (h0 := b0) (h2 := b1)]
  generalize lostF f (some n) = L at HE ⊢
  generalize f.text.extract 0 m.toNat = T at HE hsl
  have hL := HE.out
  subst hL
  clear hm HE b0 b1 h0 h1
  go_enter Try.func27, Try.ntmps27
  go_wp2_with fail
  go_region
  go_wp2_with fail
  refine bodyPost_ret (v := .agg #[.string f.name, .string T, .int .i64 m]) (by simp [results, Try.results27, go_sem]) rfl ⟨rfl, ?_⟩
  exact (((Below.refl _ _).alloc (Nat.le_refl _) _).alloc (by simp) _).drew
theorem lost_fit {fs : List FM} (left : List Int) (h : DOk fs) (k : Nat) (hk : k ≤ fs.length) : ∀ f ∈ lostTo fs left k, f.name.size ≤ 281474976710656 ∧ f.text.size ≤ 281474976710656 := by
  intro f hf
  obtain ⟨j, hj, rfl⟩ := List.mem_map.1 hf
  have hj' : j < k := by simpa using hj
  have h1 := (h.2 j (by omega)).1
  unfold lostF
  refine ⟨by have := h1.1.2; show (fs.getD j default).name.size ≤ _; omega, ?_⟩
  show ((fs.getD j default).text.extract 0 _).size ≤ _
  have h2 := h1.2.1
  have h3 : ((fs.getD j default).text.extract 0 (leftOf (fs.getD j default) left[j]?).toNat).size ≤ (fs.getD j default).text.size := by
    rw [ByteArray.size_extract]; omega
  omega
theorem own_crow {w : World} {B n c t : Nat} {a : Option Addr} {L : List Value} (h : w.ownsRow B t 3 (.slice a n c) n L) : CRow w a L := by
  intro hp
  have h' := h
  rcases h.2 with ⟨h0, _⟩ | ⟨g, cap, cur, he, hB, hcur, _, _, _, _⟩
  · have hl := h.1
    have e : n = 0 := by simp at h0; exact h0.2.1
    rw [e] at hl
    omega
  · have ea : a = some ⟨g, 0, none⟩ := by simp at he; exact he.1
    subst ea
    exact (own_wcells h').crow hp
set_option maxHeartbeats 4000000 in
set_option maxRecDepth 100000 in
theorem implLoseDisk (a c : Option Addr) (fs : List FM) (left : List Int) (cap capl : Nat) (w : World) (hr : FRow w a fs) (hf : FFit fs) (hl : fs.length ≤ 1048576) (hi0 : IRow w c left) (hll : left.length ≤ 1048576) :
    Calls Try.prog 9 #[.agg #[.slice a fs.length cap], .slice c left.length capl] w fun e w' => LosePost fs left w e w' := by
  obtain ⟨i0, hi, hz0, hz1, hz2⟩ := info_parts infoFile
  have hb0 : Below w.heap.size w ((w.alloc (.cells #[.slice a fs.length cap] 26)).alloc (.cells #[.slice none 0 0] 26)) := ((Below.refl _ _).alloc (Nat.le_refl _) _).alloc (by simp) _
  have HR : Hid (FRow w a fs) := hr
  have HR0 : Hid (FRow ((w.alloc (.cells #[.slice a fs.length cap] 26)).alloc (.cells #[.slice none 0 0] 26)) a fs) := hr.stays hb0
  have HF : Hid (FFit fs) := hf
  have HL : Hid (IRow w c left) := hi0
  have hx0 := (wcells_new w #[.slice a fs.length cap] 26).alloc (.cells #[.slice none 0 0] 26)
  have hy0 := wcells_new (w.alloc (.cells #[.slice a fs.length cap] 26)) #[.slice none 0 0] 26
  simp only [World.size_alloc] at hx0 hy0
  have HX0 : Shut (WCells ((w.alloc (.cells #[.slice a fs.length cap] 26)).alloc (.cells #[.slice none 0 0] 26)) w.heap.size [.slice a fs.length cap]) := ⟨hx0⟩
  have HY0 : Shut (WCells ((w.alloc (.cells #[.slice a fs.length cap] 26)).alloc (.cells #[.slice none 0 0] 26)) (w.heap.size + 1) [.slice none 0 0]) := ⟨hy0⟩
  have HB0 : Hid (Below w.heap.size w ((w.alloc (.cells #[.slice a fs.length cap] 26)).alloc (.cells #[.slice none 0 0] 26))) := hb0
  generalize hD : dOkB fs = D
  have HD : Hid (dOkB fs = D) := hD
  clear hr hf hi0 hx0 hy0 hb0 hD
  go_enter Try.func9, Try.ntmps9
  go_wp2_with fail
  refine (implDiskOk a fs cap _ HR0.out HF.out hl).mono ?_
  rw [HD.out]
  rintro e w1 ⟨rfl, hb1⟩
  have HX1 : Shut (WCells w1 w.heap.size [.slice a fs.length cap]) := ⟨HX0.out.grow hb1⟩
  have HY1 : Shut (WCells w1 (w.heap.size + 1) [.slice none 0 0]) := ⟨HY0.out.grow hb1⟩
  have HB1 : Hid (Below w.heap.size w w1) := HB0.out.trans (hb1.mono HB0.out.size)
  have y1 := HY1.out.2 0 _ rfl
  obtain ⟨yc1, yf1⟩ := y1
  clear hb1 HX0 HY0 HB0
  cases D with
  | false =>
    go_wp2_with fail
    refine bodyPost_ret (v := .tuple #[.agg #[.slice none 0 0], .bool false]) (by simp [results, Try.results9, go_sem, yc1]) rfl ⟨.slice none 0 0, by rw [HD.out], by rw [HD.out]; exact own_nil _ _ _, HB1.out.setCell (by simp) _⟩
  | true =>
    have HOK : Hid (DOk fs) := by
      by_cases h : DOk fs
      · exact h
      · have := HD.out; rw [dOkB_no h] at this; cases this
    have hw1s : w.heap.size + 2 ≤ w1.heap.size := by have := HY1.out.1; omega
    have x1 := (HX1.out.2 0 _ rfl).1
    go_wp2_with (at_make; refine wpList_make_own _ rfl _ _ 24 rfl w1.heap.size 36 i0 _ 3 Try.underlying24 hi hz0 hz1 .i64 .i64 _ fs.length rfl rfl (by omega) ?b2 ?b3 ?b4 ?_)
    case b2 => rw [hz2]; omega
    case b3 => unfold maxLen; omega
    case b4 => simp
    intro wm hownm hgrm
    have hbm : Below w.heap.size w wm := HB1.out.grown hgrm HB1.out.size (fun j hj => by simp at hj)
    have HXM : Shut (WCells wm w.heap.size [.slice a fs.length cap]) := ⟨wc_grown HX1.out hgrm (by simp)⟩
    have HYM : Shut (WCells wm (w.heap.size + 1) [.slice none 0 0]) := ⟨wc_grown HY1.out hgrm (by simp)⟩
    have HBM : Hid (Below w.heap.size w wm) := hbm
    have HWM : Hid (wm.ownsRow w1.heap.size 36 3 (.slice (some ⟨w1.heap.size, 0, none⟩) 0 fs.length) 0 []) := hownm
    have xm := (HXM.out.2 0 _ rfl).1
    have HSM : Hid (w1.heap.size < wm.heap.size) := (hownm.lt w1.heap.size rfl).2
    clear hgrm hbm hownm yc1 yf1 x1
    go_wp2_with fail
    go_loopw [6, 21] (fun v i wr => ∃ (k : Nat), i = .int .i64 k ∧ k ≤ fs.length ∧ w1.heap.size < wr.heap.size ∧ Shut (WCells wr (w.heap.size + 1) [.slice none 0 0]) ∧ wr.ownsRow w1.heap.size 36 3 v (lostTo fs left k).length (fcs (lostTo fs left k)) ∧ Below w.heap.size w wr) (fun _ i _ => fs.length - (intOf i).toNat)
    case atStart => exact ⟨0, rfl, Nat.zero_le _, HSM.out, HYM, by simpa [lostTo, fcs] using HWM.out, HBM.out⟩
    case round =>
      clear HXM HYM HBM HWM HSM xm HX1 HY1 HB1 HR0
      obtain ⟨k, rfl, hk, hw1, hy, hown, hb⟩ := hrel
      have HB : Hid (Below w.heap.size w wr) := hb
      by_cases hlt : k < fs.length
      · obtain ⟨b, off, rfl, lb0, hc0⟩ := FRow.at HR.out (by omega)
        obtain ⟨d0, d1, d2⟩ := hc0 k hlt
        rw [← hb.cell (p := ⟨b, off + k * 3, none⟩) lb0] at d0
        rw [← hb.cell (p := ⟨b, off + k * 3 + 1, none⟩) lb0] at d1
        rw [← hb.cell (p := ⟨b, off + k * 3 + 2, none⟩) lb0] at d2
        have hgood := (HOK.out.2 k hlt).1
        rw [getD_at fs k hlt] at hgood
        have hstep := lostTo_step fs left k
        rw [getD_at fs k hlt] at hstep
        obtain ⟨f, hfe⟩ : ∃ f, f = fs[k] := ⟨_, rfl⟩
        rw [← hfe] at d0 d1 d2 hgood hstep
        obtain ⟨_, _, g0, g1⟩ := hgood
        have HST : Hid (lostTo fs left (k + 1) = lostTo fs left k ++ [lostF f left[k]?]) := hstep
        have hlen := lostTo_len fs left k
        have hlen2 : (lostTo fs left k).length ≤ 1048576 := by omega
        have k0 : (0 : Int) ≤ (k : Int) := by omega
        have k1 : (k : Int) < (fs.length : Int) := by omega
        clear hfe hc0 hstep hlen
        obtain ⟨l, hle⟩ : ∃ l, l = left[k]? := ⟨_, rfl⟩
        rw [← hle] at HST
        have HLE : Hid (l = left[k]?) := hle
        have HLF : Hid (lostF f l = lostF f (some (l.getD 0))) := by
          have : lostF f l = lostF f (some (l.getD 0)) := by cases l <;> rfl
          exact this
        clear hle
        go_upto_if 29 with fail
        go_cut [9] from 22 to 40 (fun nn wx => nn = .int .i64 (l.getD 0) ∧ wx = wr.alloc (.cells #[.string f.name, .string f.text, .int .i64 f.kept] 36))
        case first =>
          by_cases hil : k < left.length
          · obtain ⟨b2, off2, rfl, lb2, hc2⟩ := IRow.at HL.out (by omega)
            have e0 := hc2 k hil
            rw [← hb.cell (p := ⟨b2, off2 + k, none⟩) lb2] at e0
            have hlg : l.getD 0 = left.getD k 0 := by rw [HLE.out]; simp [List.getD]
            have HLG : Hid (l.getD 0 = left.getD k 0) := hlg
            have hil' : (k : Int) < (left.length : Int) := by omega
            have lb3 : b2 < wr.heap.size := by have := hb.size; omega
            generalize left.getD k 0 = x at *
            clear hc2 hlg hb
            go_wp2_with fail
            go_meet
            case rel => exact ⟨by rw [HLG.out], rfl⟩
          · have hil' : ¬ (k : Int) < (left.length : Int) := by omega
            have hlg : l.getD 0 = 0 := by rw [HLE.out, List.getElem?_eq_none (by omega)]; rfl
            have HLG : Hid (l.getD 0 = 0) := hlg
            clear hlg hb
            go_wp2_with fail
            go_meet
            case rel => exact ⟨by rw [HLG.out], rfl⟩
        case rest =>
          obtain ⟨rfl, rfl⟩ := hcut
          clear hb d0 d1 d2
          generalize hn0 : l.getD 0 = n0 at HLF ⊢
          clear hn0
          go_wp2_with fail
          refine (left_any f n0 _ g0 g1).mono ?_
          rintro e w2 ⟨rfl, hb2⟩
          have hown2 := own_below (hown.alloc (.cells #[.string f.name, .string f.text, .int .i64 f.kept] 36)) hb2
          have HY2 : Shut (WCells w2 (w.heap.size + 1) [.slice none 0 0]) := ⟨(hy.out.alloc _).grow hb2⟩
          have HB2 : Hid (Below w.heap.size w w2) := (HB.out.alloc HB.out.size _).trans (hb2.mono (by have := HB.out.size; simp; omega))
          have hs2 : wr.heap.size + 1 ≤ w2.heap.size := by have := hb2.size; simpa using this
          obtain ⟨L, hL⟩ : ∃ L, L = lostF f (some n0) := ⟨_, rfl⟩
          rw [← hL] at HLF ⊢
          clear hb2 hL
          go_wp2_with (at_builtin; refine wpList_append_own _ rfl _ _ 24 rfl w1.heap.size 36 i0 _ 3 40 Try.underlying24 hi hz0 hz1 hz2 rfl (by decide) _ _ _ rfl (hown2.alloc _) ⟨w2.heap.size, 0, none⟩ 1 1 [.string L.name, .string L.text, .int .i64 L.kept] rfl rfl (World.news_of_block (cs := #[.string L.name, .string L.text, .int .i64 L.kept]) (t := 36) (fr := (0, 0)) (heap_alloc_new w2 _)) ?c2 ?c3 ?c4 ?c5 ?_)
          case c2 => simp [Value.oneCell']
          case c3 => unfold maxLen; omega
          case c4 => omega
          case c5 => simp; omega
          intro v3 w3 hown3 hgrow hnil
          have hne : ∀ q, q < w1.heap.size → u6.ownBlock ≠ some q := fun q hq e => by have := (hown.lt q e).1; omega
          have hy3 : WCells w3 (w.heap.size + 1) [.slice none 0 0] := wc_grown (HY2.out.alloc _) hgrow (hne _ (by omega))
          have hb3 : Below w.heap.size w w3 := (HB2.out.alloc HB2.out.size _).grown hgrow (by have := HB2.out.size; simp; omega) (fun j hj => by have := (hown.lt j hj).1; omega)
          have hs3 : w1.heap.size < w3.heap.size := by have := hgrow.size; simp at this; omega
          have HN : Hid (w3.ownsRow w1.heap.size 36 3 v3 (lostTo fs left (k + 1)).length (fcs (lostTo fs left (k + 1)))) := by
            have : w3.ownsRow w1.heap.size 36 3 v3 (lostTo fs left (k + 1)).length (fcs (lostTo fs left (k + 1))) := by
              rw [HST.out, HLF.out, fcs_snoc, List.length_append]
              exact hown3
            exact this
          have HY3 : Shut (WCells w3 (w.heap.size + 1) [.slice none 0 0]) := ⟨hy3⟩
          have HB3 : Hid (Below w.heap.size w w3) := hb3
          clear hy3 hb3 hown3 hgrow hne
          go_wp2_with fail
          go_roundw
          case rel => exact ⟨k + 1, by go_num, by omega, hs3, HY3, HN.out, HB3.out⟩
          case measure => simp [intOf]; omega
      · have e : k = fs.length := by omega
        subst e
        clear hb
        obtain ⟨va, vcap, rfl⟩ := own_form hown
        have HR2 : Hid (FRow wr va (lostTo fs left fs.length)) := own_crow hown
        go_wp2_with fail
        refine (copyOf_any va (lostTo fs left fs.length) vcap _ HR2.out (by rw [lostTo_len]; exact hl) (lost_fit left HOK.out _ (Nat.le_refl _))).mono ?_
        rintro e w2 ⟨v2, rfl, hown2, hb2⟩
        obtain ⟨yc, yf⟩ := (hy.out.grow hb2).2 0 _ rfl
        have HB2 : Hid (Below w.heap.size w w2) := HB.out.trans (hb2.mono HB.out.size)
        have hsz := hy.out.1
        obtain ⟨va2, vcap2, rfl⟩ := own_form hown2
        clear hb2
        go_wp2_with fail
        show bodyPost Try.prog Try.f9 _ Exit.ret _ _
        refine bodyPost_ret (v := .tuple #[.agg #[.slice va2 (lostTo fs left fs.length).length vcap2], .bool true]) (by simp [results, Try.results9, go_sem, yc]) rfl ⟨_, by rw [HD.out], ?_, HB2.out.setCell (by simp) _⟩
        rw [HD.out]
        exact own_wider (own_other hown2 hsz _ rfl _ rfl) (by omega)
end Go.Proofs.Ytonffkdlnhjjfaa
