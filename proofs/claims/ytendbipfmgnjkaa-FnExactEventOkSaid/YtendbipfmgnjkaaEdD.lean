/- The model's EditText. -/
import Derived.Test.YtendbipfmgnjkaaEdB
import Derived.Test.YtendbipfmgnjkaaVarL
import Derived.Test.YtendbipfmgnjkaaGrwB
import Derived.Deep.RegionHeld3
namespace Go.Proofs.Ytendbipfmgnjkaa
set_option maxRecDepth 100000
open Go.RowKit
attribute [local go_sem ↓] Go.wp_at_zero Go.wp_at_succ

/-- A number in bytes. -/
def vb (n : Nat) : ByteArray := ⟨(W.vt n).toArray⟩
/-- The text of a record. -/
def editT (e : EM) : ByteArray := ⟨#[UInt8.ofNat e.kind.toNat, UInt8.ofNat e.who.toNat]⟩ ++ vb e.path.size ++ e.path ++ vb e.dest.size ++ e.dest ++ vb e.num.toNat
/-- What is known of a right record's numbers. -/
theorem edit_nums {e : EM} (h : editOk e = true) : 1 ≤ e.kind ∧ e.kind ≤ 10 ∧ 0 ≤ e.who ∧ e.who ≤ 9 ∧ 0 ≤ e.num ∧ e.num ≤ 1000 := by
  unfold editOk at h
  rw [Bool.and_eq_true, inI_iff] at h
  obtain ⟨⟨h1, h2⟩, h3⟩ := h
  refine ⟨h1, h2, ?_⟩
  by_cases h10 : e.kind = 10
  · rw [if_pos h10] at h3
    simp only [Bool.and_eq_true, beq_iff_eq] at h3
    omega
  · rw [if_neg h10, Bool.and_eq_true] at h3
    have h4 := h3.2
    unfold numsOk at h4
    split at h4
    · rw [Bool.and_eq_true, inI_iff, beq_iff_eq] at h4; omega
    · split at h4
      · rw [Bool.and_eq_true, inI_iff, beq_iff_eq] at h4; omega
      · split at h4
        · rw [Bool.and_eq_true, inI_iff, beq_iff_eq] at h4; omega
        · split at h4
          · rw [Bool.and_eq_true, inI_iff, beq_iff_eq] at h4; omega
          · rw [Bool.and_eq_true, beq_iff_eq, beq_iff_eq] at h4; omega
theorem cell_ltE {w : World} {p : Addr} {v : Value} (h : w.cell? p = some v) : p.block < w.heap.size := by
  by_cases c : p.block < w.heap.size
  · exact c
  · exfalso
    unfold World.cell? at h
    rw [Array.getElem?_eq_none (by omega)] at h
    simp at h
/-- A record's cells, behind a world. -/
def EC (w0 : World) (b : Nat) (e : EM) (w : World) : Prop := w.cell? ⟨b, 0, none⟩ = some (.int .i64 e.kind) ∧ w.cell? ⟨b, 1, none⟩ = some (.string e.path) ∧ w.cell? ⟨b, 2, none⟩ = some (.string e.dest) ∧ w.cell? ⟨b, 3, none⟩ = some (.int .i64 e.num) ∧ w.cell? ⟨b, 4, none⟩ = some (.int .i64 e.who) ∧ Shut (Below w0.heap.size w0 w)
theorem EC.below {w0 : World} {b : Nat} {e : EM} {w w' : World} (h : EC w0 b e w) (hb : Below w.heap.size w w') : EC w0 b e w' :=
  ⟨(hb.cell (p := ⟨b, 0, none⟩) (cell_ltE h.1)).trans h.1, (hb.cell (p := ⟨b, 1, none⟩) (cell_ltE h.2.1)).trans h.2.1, (hb.cell (p := ⟨b, 2, none⟩) (cell_ltE h.2.2.1)).trans h.2.2.1, (hb.cell (p := ⟨b, 3, none⟩) (cell_ltE h.2.2.2.1)).trans h.2.2.2.1, (hb.cell (p := ⟨b, 4, none⟩) (cell_ltE h.2.2.2.2.1)).trans h.2.2.2.2.1, ⟨h.2.2.2.2.2.out.trans (hb.mono h.2.2.2.2.2.out.size)⟩⟩
theorem EC.alloc {w0 : World} {b : Nat} {e : EM} {w : World} (h : EC w0 b e w) (o : Obj) : EC w0 b e (w.alloc o) := h.below ((Below.refl _ _).alloc (Nat.le_refl _) o)
theorem EC.drew {w0 : World} {b : Nat} {e : EM} {w : World} (h : EC w0 b e w) : EC w0 b e w.drew := h.below (Below.drew (Below.refl _ _))
theorem two_cells (w : World) (b : Nat) (c1 c2 : UInt8) (h0 : w.cell? ⟨b, 0, none⟩ = some (.int .u8 (c1.toNat : Int))) (h1 : w.cell? ⟨b, 1, none⟩ = some (.int .u8 (c2.toNat : Int))) : (convert 119 9 (.slice (some ⟨b, 0, none⟩) 2 2)).run Try.prog w = .ok (.string ⟨#[c1, c2]⟩) w := by
  refine run_convert_bytes_back _ 119 9 5 ⟨b, 0, none⟩ 2 [c1, c2] Try.underlying119 Try.underlying5 Try.underlying9 (fun j hj => ?_)
  have e : (⟨b, 0, none⟩ : Addr).add j = ⟨b, j, none⟩ := by cases j <;> simp [Addr.add]
  rw [e]
  match j, hj with
  | 0, _ => exact h0
  | 1, _ => exact h1
theorem two_later (x y : World) (c1 c2 : UInt8) (hy : Later (x.alloc (.cells #[.int .u8 (c1.toNat : Int), .int .u8 (c2.toNat : Int)] 5)) y) : (convert 119 9 (.slice (some ⟨x.heap.size, 0, none⟩) 2 2)).run Try.prog y = .ok (.string ⟨#[c1, c2]⟩) y :=
  two_cells _ _ c1 c2 ((Below.cell hy (p := ⟨x.heap.size, 0, none⟩) (by simp)).trans (by rw [World.cell?_alloc_mark]; rfl)) ((Below.cell hy (p := ⟨x.heap.size, 1, none⟩) (by simp)).trans (by rw [World.cell?_alloc_mark]; rfl))
theorem u8_byte (x : Int) (h0 : 0 ≤ x) (h1 : x < 256) : IntKind.u8.wrap x = ((UInt8.ofNat x.toNat).toNat : Int) := by
  rw [IntKind.wrap_u8]
  simp
  omega
end Go.Proofs.Ytendbipfmgnjkaa
