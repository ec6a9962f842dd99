/- The model's walk of a disk that loses power. -/
import Derived.Test.YtonffkdlnhjjfaaDiskQ
import Derived.Test.YtonffkdlnhjjfaaDiskC
import Derived.Deep.CutRange
namespace Go.Proofs.Ytonffkdlnhjjfaa
open Go.RowKit
attribute [local go_sem ↓] Go.wp_at_zero Go.wp_at_succ

def icells (x : Int) : List Value := [.int .i64 x]
/-- A row of numbers. -/
abbrev IRow (w : World) (a : Option Addr) (xs : List Int) : Prop := CRow w a (xs.map fun x => .int .i64 x)
theorem IRow.at {w : World} {a : Option Addr} {xs : List Int} (h : IRow w a xs) (hp : 0 < xs.length) : ∃ b off, a = some ⟨b, off, none⟩ ∧ b < w.heap.size ∧ ∀ j, j < xs.length → w.cell? ⟨b, off + j, none⟩ = some (.int .i64 (xs.getD j 0)) := by
  obtain ⟨b, off, e, hb, hc⟩ := h (by simpa using hp)
  exact ⟨b, off, e, hb, fun j hj => hc j _ (by simp [List.getD, hj])⟩
/-- How many bytes are left of a file: as told, at most all, at least what is kept. -/
def mostOf (f : FM) (l : Option Int) : Int := if (f.text.size : Int) < l.getD 0 then (f.text.size : Int) else l.getD 0
def leftOf (f : FM) (l : Option Int) : Int := if mostOf f l < f.kept then f.kept else mostOf f l
theorem leftOf_in (f : FM) (l : Option Int) (h0 : 0 ≤ f.kept) (h1 : f.kept ≤ f.text.size) : 0 ≤ leftOf f l ∧ leftOf f l ≤ f.text.size := by
  unfold leftOf mostOf; split <;> split <;> omega
def lostF (f : FM) (l : Option Int) : FM := ⟨f.name, f.text.extract 0 (leftOf f l).toNat, leftOf f l⟩
def lostTo (fs : List FM) (left : List Int) (k : Nat) : List FM := (List.range k).map fun j => lostF (fs.getD j default) left[j]?
theorem lostTo_len (fs : List FM) (left : List Int) (k : Nat) : (lostTo fs left k).length = k := by simp [lostTo]
theorem lostTo_step (fs : List FM) (left : List Int) (k : Nat) : lostTo fs left (k + 1) = lostTo fs left k ++ [lostF (fs.getD k default) left[k]?] := by simp [lostTo, List.range_succ]
/-- What LoseDisk answers. -/
def LosePost (fs : List FM) (left : List Int) (w : World) (e : Ending) (w' : World) : Prop :=
  ∃ v, e = .returned (.tuple #[.agg #[v], .bool (dOkB fs)]) ∧ w'.ownsRow w.heap.size 36 3 v (if dOkB fs then (lostTo fs left fs.length).length else 0) (if dOkB fs then fcs (lostTo fs left fs.length) else []) ∧ Below w.heap.size w w'
set_option maxHeartbeats 4000000 in
set_option maxRecDepth 100000 in
theorem specLoseDisk (a c : Option Addr) (fs : List FM) (left : List Int) (cap capl : Nat) (w : World) (hr : FRow w a fs) (hf : FFit fs) (hl : fs.length ≤ 1048576) (hi0 : IRow w c left) (hll : left.length ≤ 1048576) :
    Calls Try.prog 41 #[.agg #[.slice a fs.length cap], .slice c left.length capl] w fun e w' => LosePost fs left w e w' := by
  obtain ⟨i0, hi, hz0, hz1, hz2⟩ := info_parts infoFile
  have hb0 : Below w.heap.size w ((w.alloc (.cells #[.slice a fs.length cap] 26)).alloc (.cells #[.slice none 0 0] 26)) := ((Below.refl _ _).alloc (Nat.le_refl _) _).alloc (by simp) _
  have HR : Hid (FRow w a fs) := hr
  have HR0 : Hid (FRow ((w.alloc (.cells #[.slice a fs.length cap] 26)).alloc (.cells #[.slice none 0 0] 26)) a fs) := hr.stays hb0
  have HF : Hid (FFit fs) := hf
  have HL : Hid (IRow w c left) := hi0
  have hx0 := (wcells_new w #[.slice a fs.length cap] 26).alloc (.cells #[.slice none 0 0] 26)
  have hy0 := wcells_new (w.alloc (.cells #[.slice a fs.length cap] 26)) #[.slice none 0 0] 26
  simp only [World.size_alloc] at hx0 hy0
  have HX0 : Shut (WCells ((w.alloc (.cells #[.slice a fs.length cap] 26)).alloc (.cells #[.slice none 0 0] 26)) w.heap.size [.slice a fs.length cap]) := ⟨hx0⟩
  have HY0 : Shut (WCells ((w.alloc (.cells #[.slice a fs.length cap] 26)).alloc (.cells #[.slice none 0 0] 26)) (w.heap.size + 1) [.slice none 0 0]) := ⟨hy0⟩
  have HB0 : Hid (Below w.heap.size w ((w.alloc (.cells #[.slice a fs.length cap] 26)).alloc (.cells #[.slice none 0 0] 26))) := hb0
  generalize hD : dOkB fs = D
  have HD : Hid (dOkB fs = D) := hD
  clear hr hf hi0 hx0 hy0 hb0 hD
  go_enter Try.func41, Try.ntmps41
  go_wp2_with fail
  refine (specDiskOk a fs cap _ HR0.out HF.out hl).mono ?_
  rw [HD.out]
  rintro e w1 ⟨rfl, hb1⟩
  have HX1 : Shut (WCells w1 w.heap.size [.slice a fs.length cap]) := ⟨HX0.out.grow hb1⟩
  have HY1 : Shut (WCells w1 (w.heap.size + 1) [.slice none 0 0]) := ⟨HY0.out.grow hb1⟩
  have HB1 : Hid (Below w.heap.size w w1) := HB0.out.trans (hb1.mono HB0.out.size)
  have y1 := HY1.out.2 0 _ rfl
  obtain ⟨yc1, yf1⟩ := y1
  clear hb1 HX0 HY0 HB0
  cases D with
  | false =>
    go_wp2_with fail
    refine bodyPost_ret (v := .tuple #[.agg #[.slice none 0 0], .bool false]) (by simp [results, Try.results41, go_sem, yc1]) rfl ⟨.slice none 0 0, by rw [HD.out], by rw [HD.out]; exact own_nil _ _ _, HB1.out.setCell (by simp) _⟩
  | true =>
    have HOK : Hid (DOk fs) := by
      by_cases h : DOk fs
      · exact h
      · have := HD.out; rw [dOkB_no h] at this; cases this
    have hx2 := HX1.out.alloc (.cells #[.slice none 0 0] 26)
    have hy2 := HY1.out.alloc (.cells #[.slice none 0 0] 26)
    have HX2 : Shut (WCells (w1.alloc (.cells #[.slice none 0 0] 26)) w.heap.size [.slice a fs.length cap]) := ⟨hx2⟩
    have HY2 : Shut (WCells (w1.alloc (.cells #[.slice none 0 0] 26)) (w.heap.size + 1) [.slice none 0 0]) := ⟨hy2⟩
    have HV2 : Shut (WCells (w1.alloc (.cells #[.slice none 0 0] 26)) w1.heap.size [.slice none 0 0]) := ⟨wcells_new w1 #[.slice none 0 0] 26⟩
    have HB2 : Hid (Below w.heap.size w (w1.alloc (.cells #[.slice none 0 0] 26))) := HB1.out.alloc HB1.out.size _
    have hw1s : w.heap.size + 2 ≤ w1.heap.size := by have := HY1.out.1; omega
    clear hx2 hy2 HX1 HY1 yc1 yf1
    go_wp2_with fail
    go_loopw [7] (fun i wr => ∃ (k : Nat) (v : Value), i = .int .i64 k ∧ k ≤ fs.length ∧ Shut (WCells wr w.heap.size [.slice a fs.length cap]) ∧ Shut (WCells wr (w.heap.size + 1) [.slice none 0 0]) ∧ Shut (WCells wr w1.heap.size [v]) ∧
        wr.ownsRow (w1.heap.size + 1) 36 3 v (lostTo fs left k).length (fcs (lostTo fs left k)) ∧ Below w.heap.size w wr) (fun i _ => fs.length - (intOf i).toNat)
    case atStart => exact ⟨0, .slice none 0 0, rfl, Nat.zero_le _, HX2, HY2, HV2, by simp [lostTo, fcs]; exact own_nil _ _ _, HB2.out⟩
    case round =>
      obtain ⟨k, v, rfl, hk, hx, hy, hv, hown, hb⟩ := hrel
      have x0 := (hx.out.2 0 _ rfl).1
      obtain ⟨vc, vf⟩ := hv.out.2 0 _ rfl
      obtain ⟨yc, yf⟩ := hy.out.2 0 _ rfl
      have HB : Hid (Below w.heap.size w wr) := hb
      have hv1 : w1.heap.size < wr.heap.size := hv.out.1
      by_cases hlt : k < fs.length
      · obtain ⟨b, off, rfl, lb0, hc0⟩ := FRow.at HR.out (by omega)
        obtain ⟨d0, d1, d2⟩ := hc0 k hlt
        rw [← hb.cell (p := ⟨b, off + k * 3, none⟩) lb0] at d0
        rw [← hb.cell (p := ⟨b, off + k * 3 + 1, none⟩) lb0] at d1
        rw [← hb.cell (p := ⟨b, off + k * 3 + 2, none⟩) lb0] at d2
        have hgood := (HOK.out.2 k hlt).1
        rw [getD_at fs k hlt] at hgood
        have hstep := lostTo_step fs left k
        rw [getD_at fs k hlt] at hstep
        obtain ⟨f, hfe⟩ : ∃ f, f = fs[k] := ⟨_, rfl⟩
        rw [← hfe] at d0 d1 d2 hgood hstep
        obtain ⟨_, _, g0, g1⟩ := hgood
        have HST : Hid (lostTo fs left (k + 1) = lostTo fs left k ++ [lostF f left[k]?]) := hstep
        have hlen := lostTo_len fs left k
        have hlen2 : (lostTo fs left k).length ≤ 1048576 := by omega
        have k0 : (0 : Int) ≤ (k : Int) := by omega
        have k1 : (k : Int) < (fs.length : Int) := by omega
        have lb1 : b < wr.heap.size := by omega
        have hob : ∀ q, q < w1.heap.size + 1 → v.ownBlock ≠ some q := fun q hq e => by have := (hown.lt q e).1; omega
        have nv : v.ownBlock ≠ some w1.heap.size := hob _ (by omega)
        clear hfe hc0 hob hstep hlen
        obtain ⟨l, hle⟩ : ∃ l, l = left[k]? := ⟨_, rfl⟩
        rw [← hle] at HST
        have HLE : Hid (l = left[k]?) := hle
        clear hle
        go_upto_if 30 with fail
        go_cut [9] from 15 to 61 (fun nn wx => nn = .int .i64 (l.getD 0) ∧ wx = wr.alloc (.cells #[.string f.name, .string f.text, .int .i64 f.kept] 36))
        case first =>
          by_cases hil : k < left.length
          · obtain ⟨b2, off2, rfl, lb2, hc2⟩ := IRow.at HL.out (by omega)
            have e0 := hc2 k hil
            rw [← hb.cell (p := ⟨b2, off2 + k, none⟩) lb2] at e0
            have hlg : l.getD 0 = left.getD k 0 := by rw [HLE.out]; simp [List.getD]
            have HLG : Hid (l.getD 0 = left.getD k 0) := hlg
            have hil' : (k : Int) < (left.length : Int) := by omega
            have lb3 : b2 < wr.heap.size := by omega
            generalize left.getD k 0 = x at *
            clear hc2 hlg hb
            go_wp2_with fail
            go_meet
            case rel => exact ⟨by rw [HLG.out], rfl⟩
          · have hil' : ¬ (k : Int) < (left.length : Int) := by omega
            have hlg : l.getD 0 = 0 := by rw [HLE.out, List.getElem?_eq_none (by omega)]; rfl
            have HLG : Hid (l.getD 0 = 0) := hlg
            clear hlg hb
            go_wp2_with fail
            go_meet
            case rel => exact ⟨by rw [HLG.out], rfl⟩
        case rest =>
          obtain ⟨rfl, rfl⟩ := hcut
          clear hb
          obtain ⟨n1, hn1⟩ : ∃ n1, n1 = mostOf f l := ⟨_, rfl⟩
          have HN1 : Hid (n1 = mostOf f l) := hn1
          have hm : n1 = if (f.text.size : Int) < l.getD 0 then (f.text.size : Int) else l.getD 0 := hn1
          generalize l.getD 0 = n0 at hm ⊢
          clear hn1
          go_upto_if 39 with fail
          go_cut [9] from 15 to 61 (fun nn wx => nn = .int .i64 n1 ∧ wx = wr.alloc (.cells #[.string f.name, .string f.text, .int .i64 f.kept] 36))
          case first =>
            by_cases hbig : (f.text.size : Int) < n0
            · rw [if_pos hbig] at hm
              have HM : Hid (n1 = (f.text.size : Int)) := hm
              clear hm
              go_wp2_with fail
              go_meet
              case rel => exact ⟨by rw [HM.out], rfl⟩
            · rw [if_neg hbig] at hm
              have HM : Hid (n1 = n0) := hm
              clear hm
              go_wp2_with fail
              go_meet
              case rel => exact ⟨by rw [HM.out], rfl⟩
          case rest =>
            obtain ⟨rfl, rfl⟩ := hcut
            clear hm
            obtain ⟨n2, hn2⟩ : ∃ n2, n2 = leftOf f l := ⟨_, rfl⟩
            have HN2 : Hid (n2 = leftOf f l) := hn2
            have hm : n2 = if n1 < f.kept then f.kept else n1 := by rw [hn2]; unfold leftOf; rw [← HN1.out]
            obtain ⟨b0, b1⟩ := leftOf_in f l g0 g1
            rw [← hn2] at b0 b1
            clear hn2 HN1
            go_upto_if 46 with fail
            go_cut [9] from 15 to 61 (fun nn wx => nn = .int .i64 n2 ∧ wx = wr.alloc (.cells #[.string f.name, .string f.text, .int .i64 f.kept] 36))
            case first =>
              by_cases hsm : n1 < f.kept
              · rw [if_pos hsm] at hm
                have HM : Hid (n2 = f.kept) := hm
                clear hm
                go_wp2_with fail
                go_meet
                case rel => exact ⟨by rw [HM.out], rfl⟩
              · rw [if_neg hsm] at hm
                have HM : Hid (n2 = n1) := hm
                clear hm
                go_wp2_with fail
                go_meet
                case rel => exact ⟨by rw [HM.out], rfl⟩
            case rest =>
              obtain ⟨rfl, rfl⟩ := hcut
              have HZ : Hid (lostF f l = ⟨f.name, f.text.extract 0 n2.toNat, n2⟩) := by
                have : lostF f l = ⟨f.name, f.text.extract 0 n2.toNat, n2⟩ := by unfold lostF; rw [← HN2.out]
                exact this
              obtain ⟨T, hT⟩ : ∃ T, T = f.text.extract 0 n2.toNat := ⟨_, rfl⟩
              have hsl : ∀ W : World, (Instr.slice 9 (.string f.text) none (some (.int .i64 n2)) none).run Try.prog W = .ok (.string T) W := fun W => by
                rw [run_slice_string_h (ht := Try.underlying9) (kh := .i64) (h0 := b0) (h2 := b1), hT]
              rw [← hT] at HZ
              clear hT hm HN2
              go_wp2_with fail
              go_region_law ((refine step_append_lies _ (by rfl) _ _ _ (by rfl) (w1.heap.size + 1) 36 i0 _ 3 40 Try.underlying24 hi hz0 hz1 hz2 rfl (by omega) _ _ _ (by rfl) (((hown.alloc _).alloc _).drew) ⟨wr.heap.size + 1, 0, none⟩ 1 1 [.string f.name, .string T, .int .i64 n2] (by rfl) (by rfl) (World.news_of_block (cs := #[.string f.name, .string T, .int .i64 n2]) (t := 36) (fr := (0, 0)) (by rw [show wr.heap.size + 1 = (wr.alloc (.cells #[.string f.name, .string f.text, .int .i64 f.kept] 36)).heap.size by simp]; exact heap_alloc_new _ _)) (by simp [Value.oneCell']) (by omega) (by unfold maxLen; omega) (by omega) (by simp; omega) (wr.heap.size + 2) (by simp) ?_; intro gg cap1 w2 hown1 hgrow hat hlt'; have vc1 := (cell_grown hgrow ⟨w1.heap.size, 0, none⟩ (by simp; omega) nv).trans (((hv.out.alloc _).alloc _).2 0 _ rfl).1; have vf1 := (frozen_grown hgrow ⟨w1.heap.size, 0, none⟩ (by simp; omega) nv).trans (((hv.out.alloc _).alloc _).2 0 _ rfl).2))
              all_goals go_wp2_with fail
              all_goals
                obtain ⟨u1, u2, u3, u4⟩ := var_grow (hv.out.alloc _) (show w1.heap.size < w1.heap.size + 1 by omega) (hown.alloc _) hgrow hown1
                refine ⟨⟨k + 1, _, by go_num, by omega, ⟨u1 _ _ (by omega) (by omega) (hx.out.alloc _)⟩, ⟨u1 _ _ (by omega) (by omega) (hy.out.alloc _)⟩, ⟨u2⟩, ?_, u4 _ _ (by omega) (HB.out.alloc HB.out.size _)⟩, by simp [intOf]; omega⟩
                rw [HST.out, HZ.out, fcs_snoc, List.length_append]
                exact u3
      · have e : k = fs.length := by omega
        subst e
        clear hb
        obtain ⟨va, vcap, rfl⟩ := own_form hown
        go_wp2_with fail
        show bodyPost Try.prog Try.f41 _ Exit.ret _ _
        refine bodyPost_ret (v := .tuple #[.agg #[.slice va (lostTo fs left fs.length).length vcap], .bool true]) (by simp [results, Try.results41, go_sem, yc]) rfl ⟨_, by rw [HD.out], ?_, HB.out.setCell (by simp) _⟩
        rw [HD.out]
        exact own_wider (own_other hown (show w.heap.size + 1 < w1.heap.size + 1 by omega) _ rfl _ rfl) (by omega)
end Go.Proofs.Ytonffkdlnhjjfaa
