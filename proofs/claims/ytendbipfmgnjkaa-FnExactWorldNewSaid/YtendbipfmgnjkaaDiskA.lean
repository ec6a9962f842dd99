/- Rows of files, as the model holds them: their sizes, their copies, their comparison. -/
import Derived.Test.YtendbipfmgnjkaaRowsG
import Derived.PlainAid
import Derived.OwnWalk
import Derived.Deep.RegionHeld3
import Derived.Deep.DrawnRows
namespace Go.Proofs.Ytendbipfmgnjkaa
set_option maxRecDepth 100000
open Go.RowKit
attribute [local go_sem ↓] Go.wp_at_zero Go.wp_at_succ

/-- A file. -/
structure FM where
  name : ByteArray
  text : ByteArray
  kept : Int
instance : Inhabited FM := ⟨⟨⟨#[]⟩, ⟨#[]⟩, 0⟩⟩
abbrev fv (f : FM) : Value := .agg #[.string f.name, .string f.text, .int .i64 f.kept]
def fcells (f : FM) : List Value := [.string f.name, .string f.text, .int .i64 f.kept]
theorem fcells_len (f : FM) : (fcells f).length = 3 := rfl
def fcs (fs : List FM) : List Value := fs.flatMap fcells
theorem fcs_len (fs : List FM) : (fcs fs).length = fs.length * 3 := flat_len fcells_len fs
/-- A row of files in memory. -/
abbrev FRow (w : World) (a : Option Addr) (fs : List FM) : Prop := CRow w a (fcs fs)
theorem FRow.at {w : World} {a : Option Addr} {fs : List FM} (h : FRow w a fs) (hp : 0 < fs.length) :
    ∃ b off, a = some ⟨b, off, none⟩ ∧ b < w.heap.size ∧ ∀ j (h : j < fs.length), w.cell? ⟨b, off + j * 3, none⟩ = some (.string fs[j].name) ∧ w.cell? ⟨b, off + j * 3 + 1, none⟩ = some (.string fs[j].text) ∧ w.cell? ⟨b, off + j * 3 + 2, none⟩ = some (.int .i64 fs[j].kept) := by
  obtain ⟨b, off, e, hb, hc⟩ := h (by rw [fcs_len]; omega)
  exact ⟨b, off, e, hb, fun j hj => ⟨hc (j * 3) _ (flat_get fcells_len fs j hj 0 (by omega)), hc (j * 3 + 1) _ (flat_get fcells_len fs j hj 1 (by omega)), hc (j * 3 + 2) _ (flat_get fcells_len fs j hj 2 (by omega))⟩⟩
/-- What is in the files: their texts fit a machine. -/
def FFit (fs : List FM) : Prop := fs.length ≤ 9223372036854775807 ∧ ∀ f ∈ fs, f.name.size ≤ 9223372036854775807 ∧ f.text.size ≤ 9223372036854775807 ∧ -9223372036854775808 ≤ f.kept ∧ f.kept ≤ 9223372036854775807
/-- How many bytes they have. -/
def fsum : List FM → Nat
  | [] => 0
  | f :: fs => f.name.size + f.text.size + fsum fs
theorem fsum_take (fs : List FM) (k : Nat) (h : k < fs.length) : fsum (fs.take (k + 1)) = fsum (fs.take k) + (fs[k].name.size + fs[k].text.size) := by
  induction fs generalizing k with
  | nil => simp at h
  | cons f fs ih =>
    cases k with
    | zero => simp [fsum]
    | succ k =>
      have := ih k (by simpa using h)
      simp only [List.take_succ_cons, fsum, List.getElem_cons_succ]
      omega

def SzPost (left : Int) (n : Nat) (w : World) (e : Ending) (w' : World) : Prop := ∃ r : Int, e = .returned (.int .i64 r) ∧ -1 ≤ r ∧ (0 ≤ r → r + n = left) ∧ Below w.heap.size w w'
/-- A copy of the files, in a block of its own. -/
def ToPost (fs : List FM) (w : World) (e : Ending) (w' : World) : Prop := ∃ g, e = .returned (.slice (some ⟨g, 0, none⟩) fs.length fs.length) ∧ w.heap.size ≤ g ∧ WCells w' g (fcs fs) ∧ Below w.heap.size w w'
theorem infoFile : (Try.prog.info? 129).map (fun i => (i.zero, i.size, i.bytes)) = some (some (.agg #[.string ⟨#[]⟩, .string ⟨#[]⟩, .int .i64 0]), 3, 40) := by kernel_rfl
def ToPostD (fs : List FM) (w : World) (e : Ending) (w' : World) : Prop := ∃ g, e = .returned (.agg #[.slice (some ⟨g, 0, none⟩) fs.length fs.length]) ∧ w.heap.size ≤ g ∧ WCells w' g (fcs fs) ∧ Below w.heap.size w w'
end Go.Proofs.Ytendbipfmgnjkaa
