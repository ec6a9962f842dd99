/- The laws on FileAt and AllKept: their walks, from what the program's own functions answer. -/
import Derived.Test.YtkkpddcncpdnpaaDiskL
namespace Go.Proofs.Ytkkpddcncpdnpaa
open Go.RowKit
attribute [local go_sem ↓] Go.wp_at_zero Go.wp_at_succ

theorem fileV_form (fs : List FM) (n : ByteArray) : ∃ (t : ByteArray) (b : Bool), fileV fs n = .tuple #[.string t, .bool b] := by
  unfold fileV
  split
  · exact ⟨_, _, rfl⟩
  · exact ⟨_, _, rfl⟩
/-- What is asked of the program's FileAt. -/
def ImplFileAt : Prop := ∀ (a : Option Addr) (fs : List FM) (cap : Nat) (n : ByteArray) (w : World), FRow w a fs → FFit fs → fs.length ≤ 1048576 → fsum fs ≤ 1048576 → n.size ≤ 1048576 → Calls Try.prog 16 #[.agg #[.slice a fs.length cap], .string n] w fun e w' => e = .returned (fileV fs n) ∧ Below w.heap.size w w'
set_option maxHeartbeats 1000000 in
theorem lawFileAt (hI : ImplFileAt) (a : Option Addr) (fs : List FM) (cap : Nat) (n : ByteArray) (w : World) (hr : FRow w a fs) (hf : FFit fs) (hn : n.size ≤ 1048576) :
    Calls Try.prog 4 #[.agg #[.slice a fs.length cap], .string n] w fun e w' => e = .returned (.bool true) ∧ Below w.heap.size w w' := by
  have hb0 : Below w.heap.size w (w.alloc (.cells #[.slice a fs.length cap] 24)) := (Below.refl _ _).alloc (Nat.le_refl _) _
  have HR : Hid (FRow w a fs) := hr
  have HF : Hid (FFit fs) := hf
  have HI : Hid ImplFileAt := hI
  have HX : Hid (WCells (w.alloc (.cells #[.slice a fs.length cap] 24)) w.heap.size [.slice a fs.length cap]) := wcells_new w #[.slice a fs.length cap] 24
  have HB0 : Hid (Below w.heap.size w (w.alloc (.cells #[.slice a fs.length cap] 24))) := hb0
  clear hr hf hI hb0
  have hnd : ¬ (1048576 : Int) < (n.size : Int) := by omega
  obtain ⟨ft, fb, hfv⟩ : ∃ (t : ByteArray) (b : Bool), fileV fs n = .tuple #[.string t, .bool b] := fileV_form fs n
  have HV : Hid (fileV fs n = .tuple #[.string ft, .bool fb]) := hfv
  clear hfv
  go_enter Try.func4, Try.ntmps4
  go_wp2_with fail
  refine (szDisk_any a fs cap 1048576 _ (HR.out.stays HB0.out) HF.out (by omega) (by omega)).mono ?_
  rintro e w1 ⟨r, rfl, r1, r2, hb1⟩
  have hx1 := HX.out.grow hb1
  have HB1 : Hid (Below w.heap.size w w1) := HB0.out.trans (hb1.mono HB0.out.size)
  have x1 := (hx1.2 0 _ rfl).1
  have HX1 : Hid (WCells w1 w.heap.size [.slice a fs.length cap]) := hx1
  clear hb1 HX HB0 hx1
  by_cases hneg : r < 0
  · go_wp2_with fail
    go_ret
    exact ⟨rfl, HB1.out⟩
  · have hl : fs.length ≤ 1048576 := by have := r2 (by omega); omega
    have HFS : Hid (fsum fs ≤ 1048576) := (by have := r2 (by omega); omega : fsum fs ≤ 1048576)
    clear r2
    go_wp2_with fail
    refine (toDisk_any a fs cap _ (HR.out.stays HB1.out) HF.out hl).mono ?_
    rintro e w2 ⟨g2, rfl, hg2, hw2, hb2⟩
    have HB2 : Hid (Below w.heap.size w w2) := HB1.out.trans (hb2.mono HB1.out.size)
    have HX2 : Hid (WCells w2 w.heap.size [.slice a fs.length cap]) := HX1.out.grow hb2
    have HW2 : Hid (WCells w2 g2 (fcs fs)) := hw2
    clear hb2 hw2 HX1 x1
    go_wp2_with fail
    refine (specFileAt (some ⟨g2, 0, none⟩) fs fs.length n _ HW2.out.crow hl).mono ?_
    rw [HV.out]
    rintro e w3 ⟨rfl, hb3⟩
    have HB3 : Hid (Below w.heap.size w w3) := HB2.out.trans (hb3.mono HB2.out.size)
    have HX3 : Hid (WCells w3 w.heap.size [.slice a fs.length cap]) := HX2.out.grow hb3
    have x3 := (HX3.out.2 0 _ rfl).1
    clear hb3 HX2 HW2 HB2 hg2
    go_wp2_with fail
    refine (toDisk_any a fs cap _ (HR.out.stays HB3.out) HF.out hl).mono ?_
    rintro e w4 ⟨g4, rfl, hg4, hw4, hb4⟩
    have HB4 : Hid (Below w.heap.size w w4) := HB3.out.trans (hb4.mono HB3.out.size)
    have HX4 : Hid (WCells (w4.alloc (.cells #[.slice (some ⟨g4, 0, none⟩) fs.length fs.length] 29)) w.heap.size [.slice a fs.length cap]) := (HX3.out.grow hb4).alloc _
    have HW4 : Hid (WCells (w4.alloc (.cells #[.slice (some ⟨g4, 0, none⟩) fs.length fs.length] 29)) g4 (fcs fs)) := hw4.alloc _
    have HY4 : Hid (WCells (w4.alloc (.cells #[.slice (some ⟨g4, 0, none⟩) fs.length fs.length] 29)) w4.heap.size [.slice (some ⟨g4, 0, none⟩) fs.length fs.length]) := wcells_new w4 #[.slice (some ⟨g4, 0, none⟩) fs.length fs.length] 29
    have HBa : Hid (Below w.heap.size w (w4.alloc (.cells #[.slice (some ⟨g4, 0, none⟩) fs.length fs.length] 29))) := HB4.out.alloc HB4.out.size _
    clear hb4 hw4 HX3 x3 HB3 hg4
    go_wp2_with fail
    refine (HI.out (some ⟨g4, 0, none⟩) fs fs.length n _ HW4.out.crow HF.out hl HFS.out hn).mono ?_
    rw [HV.out]
    rintro e w5 ⟨rfl, hb5⟩
    have HB5 : Hid (Below w.heap.size w w5) := HBa.out.trans (hb5.mono HBa.out.size)
    have hx5 : WCells w5 w.heap.size [.slice a fs.length cap] := HX4.out.grow hb5
    have hw5 : WCells w5 g4 (fcs fs) := HW4.out.grow hb5
    have hy5 : WCells w5 w4.heap.size [.slice (some ⟨g4, 0, none⟩) fs.length fs.length] := HY4.out.grow hb5
    have x5 := (hx5.2 0 _ rfl).1
    have y5 := (hy5.2 0 _ rfl).1
    have hR5 : FRow w5 a fs := HR.out.stays HB5.out
    clear hb5 HX4 HW4 HY4 HBa HB4
    go_wp2_with fail
    have hK : Shut (K5 w a fs cap g4 w4.heap.size w5) := ⟨hy5, hx5, hR5, hw5, HB5.out⟩
    clear hy5 hx5 hR5 hw5
    go_region_held3 (fun w' => w'.cell? ⟨w4.heap.size, 0, none⟩ = some (.slice (some ⟨g4, 0, none⟩) fs.length fs.length) ∧ w'.cell? ⟨w.heap.size, 0, none⟩ = some (.slice a fs.length cap) ∧ Shut (K5 w a fs cap g4 w4.heap.size w'))
      (first | (exact K5.keep (by assumption) hbc) | assumption | (exact ⟨by assumption, by assumption, K5.drew hK⟩) | (exact ⟨by assumption, by assumption, K5.drew (by assumption)⟩))
      (first
        | (go_at_call 12; refine (K5.toDisk (w := w) (g4 := g4) (y4 := w4.heap.size) (by assumption) HF.out hl).mono ?_; rintro e w6 ⟨g6, rfl, hg6, hw6, hbc⟩; have h6 : Shut (WCells w6 g6 (fcs fs)) := ⟨hw6⟩; clear hw6)
        | (go_at_call 14; refine (K5.eqDisk (w := w) (a := a) (cap := cap) (y4 := w4.heap.size) (by assumption) (by assumption) hl).mono ?_; have hbc_0 := hbc; clear hbc; rintro e w7 ⟨rfl, hbc⟩))
    all_goals go_wp2_with fail
    all_goals
      go_ret
      exact ⟨rfl, HB5.out.trans ((Below.drew (Below.refl _ _)).trans ((hbc_0.trans (hbc.mono hbc_0.size)).mono HB5.out.size))⟩

/-- All is kept. -/
def AKept (fs : List FM) : Prop := DOk fs ∧ ∀ k, k < fs.length → ((fs.getD k default).text.size : Int) ≤ (fs.getD k default).kept
open Classical in
noncomputable def akB (fs : List FM) : Bool := decide (AKept fs)
theorem akB_yes {fs : List FM} (h : AKept fs) : akB fs = true := by unfold akB; simp [h]
theorem akB_no {fs : List FM} (h : ¬ AKept fs) : akB fs = false := by unfold akB; simp [h]
set_option maxHeartbeats 1000000 in
theorem specAllKept (a : Option Addr) (fs : List FM) (cap : Nat) (w : World) (hr : FRow w a fs) (hf : FFit fs) (hl : fs.length ≤ 1048576) :
    Calls Try.prog 36 #[.agg #[.slice a fs.length cap]] w fun e w' => e = .returned (.bool (akB fs)) ∧ Below w.heap.size w w' := by
  have hb0 : Below w.heap.size w (w.alloc (.cells #[.slice a fs.length cap] 29)) := (Below.refl _ _).alloc (Nat.le_refl _) _
  have HR : Hid (FRow w a fs) := hr
  have HR0 : Hid (FRow (w.alloc (.cells #[.slice a fs.length cap] 29)) a fs) := hr.stays hb0
  have HF : Hid (FFit fs) := hf
  have HX : Hid (WCells (w.alloc (.cells #[.slice a fs.length cap] 29)) w.heap.size [.slice a fs.length cap]) := wcells_new w #[.slice a fs.length cap] 29
  have HB0 : Hid (Below w.heap.size w (w.alloc (.cells #[.slice a fs.length cap] 29))) := hb0
  generalize hO : akB fs = O
  have HO : Hid (akB fs = O) := hO
  clear hr hf hb0 hO
  go_enter Try.func36, Try.ntmps36
  go_wp2_with fail
  refine (specDiskOk a fs cap _ HR0.out HF.out hl).mono ?_
  generalize hD : dOkB fs = D
  rintro e w1 ⟨rfl, hb1⟩
  have HX1 : Hid (WCells w1 w.heap.size [.slice a fs.length cap]) := HX.out.grow hb1
  have HB1 : Hid (Below w.heap.size w w1) := HB0.out.trans (hb1.mono HB0.out.size)
  clear hb1
  cases D with
  | false =>
    have HE : Hid (O = false) := HO.out.symm.trans (akB_no fun h => by rw [dOkB_yes h.1] at hD; cases hD)
    clear hD
    go_wp2_with fail
    go_ret
    exact ⟨congrArg (fun b => Ending.returned (.bool b)) HE.out.symm, HB1.out⟩
  | true =>
    have HD : Hid (DOk fs) := by
      by_cases h : DOk fs
      · exact h
      · rw [dOkB_no h] at hD; cases hD
    clear hD
    go_wp2_with fail
    go_loopw [3] (fun i wr => ∃ (k : Nat), i = .int .i64 k ∧ k ≤ fs.length ∧ (∀ j, j < k → ((fs.getD j default).text.size : Int) ≤ (fs.getD j default).kept) ∧ WCells wr w.heap.size [.slice a fs.length cap] ∧ Below w.heap.size w wr) (fun i _ => fs.length - (intOf i).toNat)
    case atStart => exact ⟨0, rfl, Nat.zero_le _, fun j hj => by omega, HX1.out, HB1.out⟩
    case round =>
      obtain ⟨k, rfl, hk, hgood, hx, hb⟩ := hrel
      have HGD : Hid (∀ j, j < k → ((fs.getD j default).text.size : Int) ≤ (fs.getD j default).kept) := hgood
      have x0 := (hx.2 0 _ rfl).1
      have HXN : ∀ q, WCells (wr.drewN q) w.heap.size [.slice a fs.length cap] := fun q => hx
      have HBN : ∀ q, Below w.heap.size w (wr.drewN q) := fun q => hb.trans ⟨rfl, rfl, rfl, Nat.le_refl _, fun _ _ => rfl⟩
      clear hgood hx
      by_cases hlt : k < fs.length
      · obtain ⟨b, off, rfl, lb, hc⟩ := FRow.at (HR.out.stays hb) (by omega)
        obtain ⟨_, d1, d2⟩ := hc k hlt
        rw [← getD_at fs k hlt] at d1 d2
        have HKP : Hid (fs.getD k default = fs.getD k default) := rfl
        obtain ⟨f, hfe⟩ : ∃ f, fs.getD k default = f := ⟨_, rfl⟩
        rw [hfe] at d1 d2
        have HFE : Hid (fs.getD k default = f) := hfe
        have k0 : (0 : Int) ≤ (k : Int) := by omega
        have k1 : (k : Int) < (fs.length : Int) := by omega
        clear hfe hc HKP
        by_cases hkp : f.kept < (f.text.size : Int)
        · go_wp2_with fail
          go_quiet (fail)
          go_wp2_with fail
          go_ret
          exact ⟨congrArg (fun b => Ending.returned (.bool b)) ((HO.out.symm.trans (akB_no fun h => by have h2 := h.2 k hlt; rw [HFE.out] at h2; omega)).symm), HBN _⟩
        · have HKP : Hid ((f.text.size : Int) ≤ f.kept) := by have : (f.text.size : Int) ≤ f.kept := by omega
                                                              exact this
          go_wp2_with fail
          go_quiet (fail)
          go_wp2_with fail
          go_roundw
          case rel => exact ⟨k + 1, by go_num, by omega, fun j hj => by rcases Nat.lt_succ_iff_lt_or_eq.1 hj with h | h; exact HGD.out j h; subst h; rw [HFE.out]; exact HKP.out, HXN _, HBN _⟩
          case measure => simp [intOf]; omega
      · have e : k = fs.length := by omega
        subst e
        go_wp2_with fail
        go_ret
        exact ⟨congrArg (fun b => Ending.returned (.bool b)) ((HO.out.symm.trans (akB_yes ⟨HD.out, HGD.out⟩)).symm), hb⟩
/-- What is asked of the program's AllKept. -/
def ImplAllKept : Prop := ∀ (a : Option Addr) (fs : List FM) (cap : Nat) (w : World), FRow w a fs → FFit fs → fs.length ≤ 1048576 → Calls Try.prog 37 #[.agg #[.slice a fs.length cap]] w fun e w' => e = .returned (.bool (akB fs)) ∧ Below w.heap.size w w'
set_option maxHeartbeats 1000000 in
theorem lawAllKept (hI : ImplAllKept) (a : Option Addr) (fs : List FM) (cap : Nat) (w : World) (hr : FRow w a fs) (hf : FFit fs) :
    Calls Try.prog 9 #[.agg #[.slice a fs.length cap]] w fun e w' => e = .returned (.bool true) ∧ Below w.heap.size w w' := by
  have hb0 : Below w.heap.size w (w.alloc (.cells #[.slice a fs.length cap] 24)) := (Below.refl _ _).alloc (Nat.le_refl _) _
  have HR : Hid (FRow w a fs) := hr
  have HF : Hid (FFit fs) := hf
  have HI : Hid ImplAllKept := hI
  have HX : Hid (WCells (w.alloc (.cells #[.slice a fs.length cap] 24)) w.heap.size [.slice a fs.length cap]) := wcells_new w #[.slice a fs.length cap] 24
  have HB0 : Hid (Below w.heap.size w (w.alloc (.cells #[.slice a fs.length cap] 24))) := hb0
  clear hr hf hI hb0
  go_enter Try.func9, Try.ntmps9
  go_wp2_with fail
  refine (szDisk_any a fs cap 1048576 _ (HR.out.stays HB0.out) HF.out (by omega) (by omega)).mono ?_
  rintro e w1 ⟨r, rfl, r1, r2, hb1⟩
  have hx1 := HX.out.grow hb1
  have HB1 : Hid (Below w.heap.size w w1) := HB0.out.trans (hb1.mono HB0.out.size)
  have x1 := (hx1.2 0 _ rfl).1
  have HX1 : Hid (WCells w1 w.heap.size [.slice a fs.length cap]) := hx1
  clear hb1 HX HB0 hx1
  by_cases hneg : r < 0
  · go_wp2_with fail
    go_ret
    exact ⟨rfl, HB1.out⟩
  · have hl : fs.length ≤ 1048576 := by have := r2 (by omega); omega
    clear r2
    go_wp2_with fail
    refine (toDisk_any a fs cap _ (HR.out.stays HB1.out) HF.out hl).mono ?_
    rintro e w2 ⟨g2, rfl, hg2, hw2, hb2⟩
    have HB2 : Hid (Below w.heap.size w w2) := HB1.out.trans (hb2.mono HB1.out.size)
    have HX2 : Hid (WCells w2 w.heap.size [.slice a fs.length cap]) := HX1.out.grow hb2
    have HW2 : Hid (WCells w2 g2 (fcs fs)) := hw2
    clear hb2 hw2 HX1 x1
    go_wp2_with fail
    refine (specAllKept (some ⟨g2, 0, none⟩) fs fs.length _ HW2.out.crow HF.out hl).mono ?_
    rintro e w3 ⟨rfl, hb3⟩
    have HB3 : Hid (Below w.heap.size w w3) := HB2.out.trans (hb3.mono HB2.out.size)
    have HX3 : Hid (WCells w3 w.heap.size [.slice a fs.length cap]) := HX2.out.grow hb3
    have x3 := (HX3.out.2 0 _ rfl).1
    clear hb3 HX2 HW2 HB2 hg2
    go_wp2_with fail
    refine (toDisk_any a fs cap _ (HR.out.stays HB3.out) HF.out hl).mono ?_
    rintro e w4 ⟨g4, rfl, hg4, hw4, hb4⟩
    have HB4 : Hid (Below w.heap.size w w4) := HB3.out.trans (hb4.mono HB3.out.size)
    have HX4 : Hid (WCells (w4.alloc (.cells #[.slice (some ⟨g4, 0, none⟩) fs.length fs.length] 29)) w.heap.size [.slice a fs.length cap]) := (HX3.out.grow hb4).alloc _
    have HW4 : Hid (WCells (w4.alloc (.cells #[.slice (some ⟨g4, 0, none⟩) fs.length fs.length] 29)) g4 (fcs fs)) := hw4.alloc _
    have HY4 : Hid (WCells (w4.alloc (.cells #[.slice (some ⟨g4, 0, none⟩) fs.length fs.length] 29)) w4.heap.size [.slice (some ⟨g4, 0, none⟩) fs.length fs.length]) := wcells_new w4 #[.slice (some ⟨g4, 0, none⟩) fs.length fs.length] 29
    have HBa : Hid (Below w.heap.size w (w4.alloc (.cells #[.slice (some ⟨g4, 0, none⟩) fs.length fs.length] 29))) := HB4.out.alloc HB4.out.size _
    clear hb4 hw4 HX3 x3 HB3 hg4
    go_wp2_with fail
    refine (HI.out (some ⟨g4, 0, none⟩) fs fs.length _ HW4.out.crow HF.out hl).mono ?_
    rintro e w5 ⟨rfl, hb5⟩
    have HB5 : Hid (Below w.heap.size w w5) := HBa.out.trans (hb5.mono HBa.out.size)
    have hx5 : WCells w5 w.heap.size [.slice a fs.length cap] := HX4.out.grow hb5
    have hw5 : WCells w5 g4 (fcs fs) := HW4.out.grow hb5
    have hy5 : WCells w5 w4.heap.size [.slice (some ⟨g4, 0, none⟩) fs.length fs.length] := HY4.out.grow hb5
    have x5 := (hx5.2 0 _ rfl).1
    have y5 := (hy5.2 0 _ rfl).1
    have hR5 : FRow w5 a fs := HR.out.stays HB5.out
    clear hb5 HX4 HW4 HY4 HBa HB4
    go_wp2_with fail
    have hK : Shut (K5 w a fs cap g4 w4.heap.size w5) := ⟨hy5, hx5, hR5, hw5, HB5.out⟩
    clear hy5 hx5 hR5 hw5
    go_region_held3 (fun w' => w'.cell? ⟨w4.heap.size, 0, none⟩ = some (.slice (some ⟨g4, 0, none⟩) fs.length fs.length) ∧ w'.cell? ⟨w.heap.size, 0, none⟩ = some (.slice a fs.length cap) ∧ Shut (K5 w a fs cap g4 w4.heap.size w'))
      (first | (exact K5.keep (by assumption) hbc) | assumption | (exact ⟨by assumption, by assumption, K5.drew hK⟩) | (exact ⟨by assumption, by assumption, K5.drew (by assumption)⟩))
      (first
        | (go_at_call 12; refine (K5.toDisk (w := w) (g4 := g4) (y4 := w4.heap.size) (by assumption) HF.out hl).mono ?_; rintro e w6 ⟨g6, rfl, hg6, hw6, hbc⟩; have h6 : Shut (WCells w6 g6 (fcs fs)) := ⟨hw6⟩; clear hw6)
        | (go_at_call 14; refine (K5.eqDisk (w := w) (a := a) (cap := cap) (y4 := w4.heap.size) (by assumption) (by assumption) hl).mono ?_; have hbc_0 := hbc; clear hbc; rintro e w7 ⟨rfl, hbc⟩))
    all_goals go_wp2_with fail
    all_goals
      go_ret
      exact ⟨rfl, HB5.out.trans ((Below.drew (Below.refl _ _)).trans ((hbc_0.trans (hbc.mono hbc_0.size)).mono HB5.out.size))⟩
end Go.Proofs.Ytkkpddcncpdnpaa
