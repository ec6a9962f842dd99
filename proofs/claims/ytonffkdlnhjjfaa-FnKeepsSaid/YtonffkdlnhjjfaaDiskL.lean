/- The laws on a disk that tell a bool, or a text: their walks, from what the program's own function answers. -/
import Derived.Test.YtonffkdlnhjjfaaDiskD
namespace Go.Proofs.Ytonffkdlnhjjfaa
open Go.RowKit
attribute [local go_sem ↓] Go.wp_at_zero Go.wp_at_succ

/-- What stays through the last comparison: the variable's copy of the disk, the disk that came in, and their rows. -/
def K5 (w : World) (a : Option Addr) (fs : List FM) (cap g4 y4 : Nat) (w' : World) : Prop :=
  WCells w' y4 [.slice (some ⟨g4, 0, none⟩) fs.length fs.length] ∧ WCells w' w.heap.size [.slice a fs.length cap] ∧ FRow w' a fs ∧ WCells w' g4 (fcs fs) ∧ Below w.heap.size w w'
theorem K5.keep {w w' w'' : World} {a : Option Addr} {fs : List FM} {cap g4 y4 : Nat} (h : w'.cell? ⟨y4, 0, none⟩ = some (.slice (some ⟨g4, 0, none⟩) fs.length fs.length) ∧ w'.cell? ⟨w.heap.size, 0, none⟩ = some (.slice a fs.length cap) ∧ Shut (K5 w a fs cap g4 y4 w')) (hb : Below w'.heap.size w' w'') :
    w''.cell? ⟨y4, 0, none⟩ = some (.slice (some ⟨g4, 0, none⟩) fs.length fs.length) ∧ w''.cell? ⟨w.heap.size, 0, none⟩ = some (.slice a fs.length cap) ∧ Shut (K5 w a fs cap g4 y4 w'') := by
  obtain ⟨h1, h2, h3, h4, h5⟩ := h.2.2.out
  exact ⟨((h1.grow hb).2 0 _ rfl).1, ((h2.grow hb).2 0 _ rfl).1, ⟨h1.grow hb, h2.grow hb, h3.stays hb, h4.grow hb, h5.trans (hb.mono h5.size)⟩⟩
theorem K5.drew {w w' : World} {a : Option Addr} {fs : List FM} {cap g4 y4 : Nat} (h : Shut (K5 w a fs cap g4 y4 w')) : Shut (K5 w a fs cap g4 y4 w'.drew) :=
  ⟨h.out.1, h.out.2.1, h.out.2.2.1, h.out.2.2.2.1, h.out.2.2.2.2.drew⟩
/-- What is asked of the program's DiskOk. -/
def ImplDiskOk : Prop := ∀ (a : Option Addr) (fs : List FM) (cap : Nat) (w : World), FRow w a fs → FFit fs → fs.length ≤ 1048576 → Calls Try.prog 12 #[.agg #[.slice a fs.length cap]] w fun e w' => e = .returned (.bool (dOkB fs)) ∧ Below w.heap.size w w'
end Go.Proofs.Ytonffkdlnhjjfaa
