/- Rows of acts, as the model holds them: their sizes, their copies. -/
import Derived.Test.YtendbipfmgnjkaaRowsG
import Derived.PlainAid
import Derived.OwnWalk
import Derived.Deep.RegionHeld3
import Derived.Deep.DrawnRows
namespace Go.Proofs.Ytendbipfmgnjkaa
set_option maxRecDepth 100000
open Go.RowKit
attribute [local go_sem ↓] Go.wp_at_zero Go.wp_at_succ

/-- An act. -/
structure AM where
  kind : Int
  name : ByteArray
  text : ByteArray
  dst : ByteArray
instance : Inhabited AM := ⟨⟨0, ⟨#[]⟩, ⟨#[]⟩, ⟨#[]⟩⟩⟩
abbrev av (f : AM) : Value := .agg #[.int .i64 f.kind, .string f.name, .string f.text, .string f.dst]
def acells (f : AM) : List Value := [.int .i64 f.kind, .string f.name, .string f.text, .string f.dst]
theorem acells_len (f : AM) : (acells f).length = 4 := rfl
def acs (fs : List AM) : List Value := fs.flatMap acells
theorem acs_len (fs : List AM) : (acs fs).length = fs.length * 4 := flat_len acells_len fs
/-- A row of files in memory. -/
abbrev ARow (w : World) (a : Option Addr) (fs : List AM) : Prop := CRow w a (acs fs)
theorem ARow.at {w : World} {a : Option Addr} {fs : List AM} (h : ARow w a fs) (hp : 0 < fs.length) :
    ∃ b off, a = some ⟨b, off, none⟩ ∧ b < w.heap.size ∧ ∀ j (h : j < fs.length), w.cell? ⟨b, off + j * 4, none⟩ = some (.int .i64 fs[j].kind) ∧ w.cell? ⟨b, off + j * 4 + 1, none⟩ = some (.string fs[j].name) ∧ w.cell? ⟨b, off + j * 4 + 2, none⟩ = some (.string fs[j].text) ∧ w.cell? ⟨b, off + j * 4 + 3, none⟩ = some (.string fs[j].dst) := by
  obtain ⟨b, off, e, hb, hc⟩ := h (by rw [acs_len]; omega)
  exact ⟨b, off, e, hb, fun j hj => ⟨hc (j * 4) _ (flat_get acells_len fs j hj 0 (by omega)), hc (j * 4 + 1) _ (flat_get acells_len fs j hj 1 (by omega)), hc (j * 4 + 2) _ (flat_get acells_len fs j hj 2 (by omega)), hc (j * 4 + 3) _ (flat_get acells_len fs j hj 3 (by omega))⟩⟩
/-- What is in the acts: their texts fit a machine. -/
def AFit (fs : List AM) : Prop := fs.length ≤ 9223372036854775807 ∧ ∀ f ∈ fs, f.name.size ≤ 9223372036854775807 ∧ f.text.size ≤ 9223372036854775807 ∧ f.dst.size ≤ 9223372036854775807 ∧ -9223372036854775808 ≤ f.kind ∧ f.kind ≤ 9223372036854775807
/-- How many bytes they have. -/
def asum : List AM → Nat
  | [] => 0
  | f :: fs => f.name.size + f.text.size + f.dst.size + asum fs
theorem asum_take (fs : List AM) (k : Nat) (h : k < fs.length) : asum (fs.take (k + 1)) = asum (fs.take k) + (fs[k].name.size + fs[k].text.size + fs[k].dst.size) := by
  induction fs generalizing k with
  | nil => simp at h
  | cons f fs ih =>
    cases k with
    | zero => simp [asum]
    | succ k =>
      have := ih k (by simpa using h)
      simp only [List.take_succ_cons, asum, List.getElem_cons_succ]
      omega

def SzPostA (left : Int) (n : Nat) (w : World) (e : Ending) (w' : World) : Prop := ∃ r : Int, e = .returned (.int .i64 r) ∧ -1 ≤ r ∧ (0 ≤ r → r + n = left) ∧ Below w.heap.size w w'
/-- A copy of the files, in a block of its own. -/
def ToPostA (fs : List AM) (w : World) (e : Ending) (w' : World) : Prop := ∃ g, e = .returned (.slice (some ⟨g, 0, none⟩) fs.length fs.length) ∧ w.heap.size ≤ g ∧ WCells w' g (acs fs) ∧ Below w.heap.size w w'
end Go.Proofs.Ytendbipfmgnjkaa
