/- The model's walk: an act. -/
import Derived.Test.YtkkpddcncpdnpaaActM
import Derived.Test.YtkkpddcncpdnpaaLawD
import Derived.Test.YtkkpddcncpdnpaaShD
namespace Go.Proofs.Ytkkpddcncpdnpaa
open Go.RowKit
attribute [local go_sem ↓] Go.wp_at_zero Go.wp_at_succ

theorem fileOf_at {fs : List FM} {n : ByteArray} {k : Nat} (hk : k < fs.length) (h1 : (fs.getD k default).name = n) (h2 : ∀ j, j < k → (fs.getD j default).name ≠ n) : fileOf fs n = some (fs.getD k default) := by
  unfold fileOf
  rw [getD_at fs k hk] at *
  rw [List.find?_eq_some_iff_getElem]
  refine ⟨by simpa using h1, k, hk, rfl, fun j hj => ?_⟩
  have := h2 j hj
  rw [getD_at fs j (by omega)] at this
  simpa using this
theorem fileOf_not {fs : List FM} {n : ByteArray} (h : ∀ f ∈ fs, f.name ≠ n) : fileOf fs n = none := by
  unfold fileOf
  rw [List.find?_eq_none]
  intro f hf
  simpa using h f hf
theorem DOk.fit {fs : List FM} (h : DOk fs) : FFit fs := by
  refine ⟨by have := h.1; omega, fun f hf => ?_⟩
  have := h.ok f hf
  have h1 := this.1.2
  have h2 := this.2.1
  have h3 := this.2.2.1
  have h4 := this.2.2.2
  exact ⟨by omega, by omega, by omega, by omega⟩
theorem FFit.put {fs : List FM} (h : DOk fs) (f : FM) (h1 : f.name.size ≤ 9223372036854775807) (h2 : f.text.size ≤ 9223372036854775807) (h3 : -9223372036854775808 ≤ f.kept ∧ f.kept ≤ 9223372036854775807) : FFit (putF f fs) ∧ (putF f fs).length ≤ 31 := by
  have hl : (putF f fs).length ≤ 31 := by rw [put_len h.up]; have := without_len f.name fs; have := h.1; omega
  refine ⟨⟨by omega, fun g hg => ?_⟩, hl⟩
  rcases mem_putF.1 hg with rfl | ⟨hg, _⟩
  · exact ⟨h1, h2, h3⟩
  · exact h.fit.2 g hg
/-- Cells of a disk's box, of an act's name, of a file. -/
def S5 (w : World) (p q g : Nat) (v : Value) (n : ByteArray) (f : FM) : Prop := w.cell? ⟨p, 0, none⟩ = some v ∧ w.cell? ⟨q, 1, none⟩ = some (.string n) ∧ w.cell? ⟨g, 0, none⟩ = some (.string f.name) ∧ w.cell? ⟨g, 1, none⟩ = some (.string f.text) ∧ w.cell? ⟨g, 2, none⟩ = some (.int .i64 f.kept)
theorem S5.below {w w' : World} {p q g : Nat} {v : Value} {n : ByteArray} {f : FM} (h : S5 w p q g v n f) (hb : Below w.heap.size w w') : S5 w' p q g v n f :=
  ⟨(hb.cell (p := ⟨p, 0, none⟩) (cell_lt h.1)).trans h.1, (hb.cell (p := ⟨q, 1, none⟩) (cell_lt h.2.1)).trans h.2.1, (hb.cell (p := ⟨g, 0, none⟩) (cell_lt h.2.2.1)).trans h.2.2.1, (hb.cell (p := ⟨g, 1, none⟩) (cell_lt h.2.2.2.1)).trans h.2.2.2.1, (hb.cell (p := ⟨g, 2, none⟩) (cell_lt h.2.2.2.2)).trans h.2.2.2.2⟩
theorem S5.set {w : World} {p q g : Nat} {v : Value} {n : ByteArray} {f : FM} {a : Addr} (h : S5 w p q g v n f) (u : Value) (h1 : a.block ≠ p) (h2 : a.block ≠ q) (h3 : a.block ≠ g) : S5 (w.setCell a u) p q g v n f := by
  have oth : ∀ c : Addr, a.block ≠ c.block → (w.setCell a u).cell? c = w.cell? c := fun c hc => World.cell?_of_block (Below.heap_setCell w a u c.block (fun e => hc e.symm))
  exact ⟨(oth _ h1).trans h.1, (oth _ h2).trans h.2.1, (oth _ h3).trans h.2.2.1, (oth _ h3).trans h.2.2.2.1, (oth _ h3).trans h.2.2.2.2⟩
theorem outA_none {fs : List FM} {x : AM} (h : x.kind ≠ 1) (hf : fileOf fs x.name = none) : outA fs x = none := by
  unfold outA
  rw [if_neg h, hf]
end Go.Proofs.Ytkkpddcncpdnpaa
