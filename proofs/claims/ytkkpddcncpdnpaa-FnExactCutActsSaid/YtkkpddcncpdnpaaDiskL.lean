/- The laws on a disk that tell a bool, or a text: their walks, from what the program's own function answers. -/
import Derived.Test.YtkkpddcncpdnpaaDiskD
namespace Go.Proofs.Ytkkpddcncpdnpaa
open Go.RowKit
attribute [local go_sem ↓] Go.wp_at_zero Go.wp_at_succ

/-- What stays through the last comparison: the variable's copy of the disk, the disk that came in, and their rows. -/
def K5 (w : World) (a : Option Addr) (fs : List FM) (cap g4 y4 : Nat) (w' : World) : Prop :=
  WCells w' y4 [.slice (some ⟨g4, 0, none⟩) fs.length fs.length] ∧ WCells w' w.heap.size [.slice a fs.length cap] ∧ FRow w' a fs ∧ WCells w' g4 (fcs fs) ∧ Below w.heap.size w w'
theorem K5.keep {w w' w'' : World} {a : Option Addr} {fs : List FM} {cap g4 y4 : Nat} (h : w'.cell? ⟨y4, 0, none⟩ = some (.slice (some ⟨g4, 0, none⟩) fs.length fs.length) ∧ w'.cell? ⟨w.heap.size, 0, none⟩ = some (.slice a fs.length cap) ∧ Shut (K5 w a fs cap g4 y4 w')) (hb : Below w'.heap.size w' w'') :
    w''.cell? ⟨y4, 0, none⟩ = some (.slice (some ⟨g4, 0, none⟩) fs.length fs.length) ∧ w''.cell? ⟨w.heap.size, 0, none⟩ = some (.slice a fs.length cap) ∧ Shut (K5 w a fs cap g4 y4 w'') := by
  obtain ⟨h1, h2, h3, h4, h5⟩ := h.2.2.out
  exact ⟨((h1.grow hb).2 0 _ rfl).1, ((h2.grow hb).2 0 _ rfl).1, ⟨h1.grow hb, h2.grow hb, h3.stays hb, h4.grow hb, h5.trans (hb.mono h5.size)⟩⟩
theorem K5.drew {w w' : World} {a : Option Addr} {fs : List FM} {cap g4 y4 : Nat} (h : Shut (K5 w a fs cap g4 y4 w')) : Shut (K5 w a fs cap g4 y4 w'.drew) :=
  ⟨h.out.1, h.out.2.1, h.out.2.2.1, h.out.2.2.2.1, h.out.2.2.2.2.drew⟩
theorem K5.toDisk {w w' : World} {a : Option Addr} {fs : List FM} {cap g4 y4 : Nat} (h : w'.cell? ⟨y4, 0, none⟩ = some (.slice (some ⟨g4, 0, none⟩) fs.length fs.length) ∧ w'.cell? ⟨w.heap.size, 0, none⟩ = some (.slice a fs.length cap) ∧ Shut (K5 w a fs cap g4 y4 w')) (hf : FFit fs) (hl : fs.length ≤ 1048576) :
    Calls Try.prog 12 #[.agg #[.slice a fs.length cap]] w' fun e w'' => ToPostD fs w' e w'' := toDisk_any a fs cap w' h.2.2.out.2.2.1 hf hl
theorem K5.eqDisk {w w' : World} {a : Option Addr} {fs : List FM} {cap g4 y4 g6 : Nat} (h : w'.cell? ⟨y4, 0, none⟩ = some (.slice (some ⟨g4, 0, none⟩) fs.length fs.length) ∧ w'.cell? ⟨w.heap.size, 0, none⟩ = some (.slice a fs.length cap) ∧ Shut (K5 w a fs cap g4 y4 w')) (h6 : Shut (WCells w' g6 (fcs fs))) (hl : fs.length ≤ 1048576) :
    Calls Try.prog 14 #[.agg #[.slice (some ⟨g4, 0, none⟩) fs.length fs.length], .agg #[.slice (some ⟨g6, 0, none⟩) fs.length fs.length]] w' fun e w'' => e = .returned (.bool true) ∧ Below w'.heap.size w' w'' :=
  eqDisk_same _ _ fs fs.length fs.length w' h.2.2.out.2.2.2.1.crow h6.out.crow hl
/-- What is asked of the program's DiskOk. -/
def ImplDiskOk : Prop := ∀ (a : Option Addr) (fs : List FM) (cap : Nat) (w : World), FRow w a fs → FFit fs → fs.length ≤ 1048576 → Calls Try.prog 13 #[.agg #[.slice a fs.length cap]] w fun e w' => e = .returned (.bool (dOkB fs)) ∧ Below w.heap.size w w'
set_option maxHeartbeats 1000000 in
theorem lawDiskOk (hI : ImplDiskOk) (a : Option Addr) (fs : List FM) (cap : Nat) (w : World) (hr : FRow w a fs) (hf : FFit fs) :
    Calls Try.prog 3 #[.agg #[.slice a fs.length cap]] w fun e w' => e = .returned (.bool true) ∧ Below w.heap.size w w' := by
  have hb0 : Below w.heap.size w (w.alloc (.cells #[.slice a fs.length cap] 24)) := (Below.refl _ _).alloc (Nat.le_refl _) _
  have HR : Hid (FRow w a fs) := hr
  have HF : Hid (FFit fs) := hf
  have HI : Hid ImplDiskOk := hI
  have HX : Hid (WCells (w.alloc (.cells #[.slice a fs.length cap] 24)) w.heap.size [.slice a fs.length cap]) := wcells_new w #[.slice a fs.length cap] 24
  have HB0 : Hid (Below w.heap.size w (w.alloc (.cells #[.slice a fs.length cap] 24))) := hb0
  clear hr hf hI hb0
  go_enter Try.func3, Try.ntmps3
  go_wp2_with fail
  refine (szDisk_any a fs cap 1048576 _ (HR.out.stays HB0.out) HF.out (by omega) (by omega)).mono ?_
  rintro e w1 ⟨r, rfl, r1, r2, hb1⟩
  have hx1 := HX.out.grow hb1
  have HB1 : Hid (Below w.heap.size w w1) := HB0.out.trans (hb1.mono HB0.out.size)
  have x1 := (hx1.2 0 _ rfl).1
  have HX1 : Hid (WCells w1 w.heap.size [.slice a fs.length cap]) := hx1
  clear hb1 HX HB0 hx1
  by_cases hneg : r < 0
  · go_wp2_with fail
    go_ret
    exact ⟨rfl, HB1.out⟩
  · have hl : fs.length ≤ 1048576 := by have := r2 (by omega); omega
    clear r2
    go_wp2_with fail
    refine (toDisk_any a fs cap _ (HR.out.stays HB1.out) HF.out hl).mono ?_
    rintro e w2 ⟨g2, rfl, hg2, hw2, hb2⟩
    have HB2 : Hid (Below w.heap.size w w2) := HB1.out.trans (hb2.mono HB1.out.size)
    have HX2 : Hid (WCells w2 w.heap.size [.slice a fs.length cap]) := HX1.out.grow hb2
    have HW2 : Hid (WCells w2 g2 (fcs fs)) := hw2
    clear hb2 hw2 HX1 x1
    go_wp2_with fail
    refine (specDiskOk (some ⟨g2, 0, none⟩) fs fs.length _ HW2.out.crow HF.out hl).mono ?_
    rintro e w3 ⟨rfl, hb3⟩
    have HB3 : Hid (Below w.heap.size w w3) := HB2.out.trans (hb3.mono HB2.out.size)
    have HX3 : Hid (WCells w3 w.heap.size [.slice a fs.length cap]) := HX2.out.grow hb3
    have x3 := (HX3.out.2 0 _ rfl).1
    clear hb3 HX2 HW2 HB2 hg2
    go_wp2_with fail
    refine (toDisk_any a fs cap _ (HR.out.stays HB3.out) HF.out hl).mono ?_
    rintro e w4 ⟨g4, rfl, hg4, hw4, hb4⟩
    have HB4 : Hid (Below w.heap.size w w4) := HB3.out.trans (hb4.mono HB3.out.size)
    have HX4 : Hid (WCells (w4.alloc (.cells #[.slice (some ⟨g4, 0, none⟩) fs.length fs.length] 29)) w.heap.size [.slice a fs.length cap]) := (HX3.out.grow hb4).alloc _
    have HW4 : Hid (WCells (w4.alloc (.cells #[.slice (some ⟨g4, 0, none⟩) fs.length fs.length] 29)) g4 (fcs fs)) := hw4.alloc _
    have HY4 : Hid (WCells (w4.alloc (.cells #[.slice (some ⟨g4, 0, none⟩) fs.length fs.length] 29)) w4.heap.size [.slice (some ⟨g4, 0, none⟩) fs.length fs.length]) := wcells_new w4 #[.slice (some ⟨g4, 0, none⟩) fs.length fs.length] 29
    have HBa : Hid (Below w.heap.size w (w4.alloc (.cells #[.slice (some ⟨g4, 0, none⟩) fs.length fs.length] 29))) := HB4.out.alloc HB4.out.size _
    clear hb4 hw4 HX3 x3 HB3 hg4
    go_wp2_with fail
    refine (HI.out (some ⟨g4, 0, none⟩) fs fs.length _ HW4.out.crow HF.out hl).mono ?_
    rintro e w5 ⟨rfl, hb5⟩
    have HB5 : Hid (Below w.heap.size w w5) := HBa.out.trans (hb5.mono HBa.out.size)
    have hx5 : WCells w5 w.heap.size [.slice a fs.length cap] := HX4.out.grow hb5
    have hw5 : WCells w5 g4 (fcs fs) := HW4.out.grow hb5
    have hy5 : WCells w5 w4.heap.size [.slice (some ⟨g4, 0, none⟩) fs.length fs.length] := HY4.out.grow hb5
    have x5 := (hx5.2 0 _ rfl).1
    have y5 := (hy5.2 0 _ rfl).1
    have hR5 : FRow w5 a fs := HR.out.stays HB5.out
    clear hb5 HX4 HW4 HY4 HBa HB4
    go_wp2_with fail
    have hK : Shut (K5 w a fs cap g4 w4.heap.size w5) := ⟨hy5, hx5, hR5, hw5, HB5.out⟩
    clear hy5 hx5 hR5 hw5
    go_region_held3 (fun w' => w'.cell? ⟨w4.heap.size, 0, none⟩ = some (.slice (some ⟨g4, 0, none⟩) fs.length fs.length) ∧ w'.cell? ⟨w.heap.size, 0, none⟩ = some (.slice a fs.length cap) ∧ Shut (K5 w a fs cap g4 w4.heap.size w'))
      (first | (exact K5.keep (by assumption) hbc) | assumption | (exact ⟨by assumption, by assumption, K5.drew hK⟩) | (exact ⟨by assumption, by assumption, K5.drew (by assumption)⟩))
      (first
        | (go_at_call 12; refine (K5.toDisk (w := w) (g4 := g4) (y4 := w4.heap.size) (by assumption) HF.out hl).mono ?_; rintro e w6 ⟨g6, rfl, hg6, hw6, hbc⟩; have h6 : Shut (WCells w6 g6 (fcs fs)) := ⟨hw6⟩; clear hw6)
        | (go_at_call 14; refine (K5.eqDisk (w := w) (a := a) (cap := cap) (y4 := w4.heap.size) (by assumption) (by assumption) hl).mono ?_; have hbc_0 := hbc; clear hbc; rintro e w7 ⟨rfl, hbc⟩))
    all_goals go_wp2_with fail
    all_goals
      go_ret
      exact ⟨rfl, HB5.out.trans ((Below.drew (Below.refl _ _)).trans ((hbc_0.trans (hbc.mono hbc_0.size)).mono HB5.out.size))⟩
end Go.Proofs.Ytkkpddcncpdnpaa
