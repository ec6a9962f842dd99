/- Rows of elements of which each one holds a row of its own, in memory: one that is read, one that may be written. Nothing of the program is read here. -/
import Derived.Test.YtendbipfmgnjkaaNestA
namespace Go.Proofs.Ytendbipfmgnjkaa
set_option maxRecDepth 100000
open Go.RowKit

/-- A kind of such elements: how one is laid into cells, where its own row lies, and what that row holds. -/
structure NK (R : Type) where
  enc : R → List Value
  sz : Nat
  len : ∀ r, (enc r).length = sz
  loc : R → Option Addr
  inn : R → List Value
def NK.cells {R : Type} (K : NK R) (rs : List R) : List Value := rs.flatMap K.enc
theorem NK.cells_len {R : Type} (K : NK R) (rs : List R) : (K.cells rs).length = rs.length * K.sz := flat_len K.len rs
theorem NK.cells_get {R : Type} (K : NK R) (rs : List R) (j : Nat) (h : j < rs.length) (i : Nat) (hi : i < K.sz) : (K.cells rs)[j * K.sz + i]? = (K.enc rs[j])[i]? := flat_get K.len rs j h i hi
/-- Such a row, as it is read. -/
def GR {R : Type} (K : NK R) (w : World) (a : Option Addr) (rs : List R) (lo hi : Nat) : Prop := RRow w a (K.cells rs) lo hi ∧ ∀ r ∈ rs, RRow w (K.loc r) (K.inn r) lo hi
theorem GR.turned {R : Type} {K : NK R} {w w' : World} {a : Option Addr} {rs : List R} {lo hi lo' hi' : Nat} (h : GR K w a rs lo hi) (t : Turned w w' lo' hi') (hd : hi ≤ lo' ∨ hi' ≤ lo) : GR K w' a rs lo hi := ⟨h.1.turned t hd, fun r hr => (h.2 r hr).turned t hd⟩
theorem GR.below {R : Type} {K : NK R} {w w' : World} {a : Option Addr} {rs : List R} {lo hi : Nat} (h : GR K w a rs lo hi) (hb : Below w.heap.size w w') : GR K w' a rs lo hi := ⟨h.1.below hb, fun r hr => (h.2 r hr).below hb⟩
theorem GR.wide {R : Type} {K : NK R} {w : World} {a : Option Addr} {rs : List R} {lo hi lo' hi' : Nat} (h : GR K w a rs lo hi) (h1 : lo' ≤ lo) (h2 : hi ≤ hi') : GR K w a rs lo' hi' := ⟨h.1.wide h1 h2, fun r hr => (h.2 r hr).wide h1 h2⟩
theorem GR.nil {R : Type} (K : NK R) (w : World) (a : Option Addr) (lo hi : Nat) : GR K w a [] lo hi := ⟨fun h => by simp [NK.cells] at h, by simp⟩
/-- Where it lies, and its cells. -/
theorem GR.at {R : Type} {K : NK R} {w : World} {a : Option Addr} {rs : List R} {lo hi : Nat} (h : GR K w a rs lo hi) (hp : 0 < rs.length) (hz : 0 < K.sz) :
    ∃ b off, a = some ⟨b, off, none⟩ ∧ b < w.heap.size ∧ ∀ j (hj : j < rs.length) i v, (K.enc rs[j])[i]? = some v → w.cell? ⟨b, off + (j * K.sz + i), none⟩ = some v := by
  obtain ⟨b, off, e, _, _, h3, h4⟩ := h.1 (by rw [K.cells_len]; exact Nat.mul_pos hp hz)
  refine ⟨b, off, e, h3, fun j hj i v hv => h4 _ v ?_⟩
  have hi : i < K.sz := by have := (List.getElem?_eq_some_iff.1 hv).1; rw [K.len] at this; exact this
  rw [K.cells_get rs j hj i hi]; exact hv
/-- Such a row that may be written: each one's own row in a block of its own, all in a range. -/
structure GW {R : Type} (K : NK R) (w : World) (g : Nat) (rs : List R) (lo hi : Nat) : Prop where
  out : WCells w g (K.cells rs)
  glo : lo ≤ g
  ghi : g < hi
  rows : ∀ r ∈ rs, K.inn r = [] ∨ ∃ b, K.loc r = some ⟨b, 0, none⟩ ∧ lo ≤ b ∧ b < hi ∧ b ≠ g ∧ WCells w b (K.inn r)
  apart : rs.Pairwise fun r s => K.inn r ≠ [] → K.inn s ≠ [] → K.loc r ≠ K.loc s
theorem GW.gr {R : Type} {K : NK R} {w : World} {g : Nat} {rs : List R} {lo hi : Nat} (h : GW K w g rs lo hi) : GR K w (some ⟨g, 0, none⟩) rs lo hi :=
  ⟨RRow.of_wcells h.out h.glo h.ghi, fun r hr => by
    rcases h.rows r hr with e | ⟨b, e, h1, h2, _, h3⟩
    · rw [e]; intro hp; simp at hp
    · rw [e]; exact RRow.of_wcells h3 h1 h2⟩
theorem GW.turned {R : Type} {K : NK R} {w w' : World} {g : Nat} {rs : List R} {lo hi lo' hi' : Nat} (h : GW K w g rs lo hi) (t : Turned w w' lo' hi') (hd : hi ≤ lo' ∨ hi' ≤ lo) : GW K w' g rs lo hi :=
  ⟨h.out.turned t (by have := h.glo; have := h.ghi; omega), h.glo, h.ghi, fun r hr => by
    rcases h.rows r hr with e | ⟨b, e, h1, h2, h3, h4⟩
    · exact .inl e
    · exact .inr ⟨b, e, h1, h2, h3, h4.turned t (by omega)⟩, h.apart⟩
theorem GW.below {R : Type} {K : NK R} {w w' : World} {g : Nat} {rs : List R} {lo hi : Nat} (h : GW K w g rs lo hi) (hb : Below w.heap.size w w') : GW K w' g rs lo hi :=
  ⟨h.out.below hb h.out.1, h.glo, h.ghi, fun r hr => by
    rcases h.rows r hr with e | ⟨b, e, h1, h2, h3, h4⟩
    · exact .inl e
    · exact .inr ⟨b, e, h1, h2, h3, h4.below hb h4.1⟩, h.apart⟩
theorem GW.wide {R : Type} {K : NK R} {w : World} {g : Nat} {rs : List R} {lo hi lo' hi' : Nat} (h : GW K w g rs lo hi) (h1 : lo' ≤ lo) (h2 : hi ≤ hi') : GW K w g rs lo' hi' :=
  ⟨h.out, Nat.le_trans h1 h.glo, Nat.lt_of_lt_of_le h.ghi h2, fun r hr => by
    rcases h.rows r hr with e | ⟨b, e, q1, q2, q3, q4⟩
    · exact .inl e
    · exact .inr ⟨b, e, by omega, by omega, q3, q4⟩, h.apart⟩
theorem WCells.setW_other {w : World} {g b : Nat} {L : List Value} (h : WCells w b L) (hne : b ≠ g) (off : Nat) (vs : List Value) : WCells (Go.Proofs.Ytendbipfmgnjkaa.setW w g off vs) b L := by
  induction vs generalizing w off with
  | nil => exact h
  | cons v vs ih => exact ih (h.other ⟨g, off, none⟩ v hne) _
/-- An element is laid anew. -/
theorem GW.put {R : Type} {K : NK R} {w : World} {g : Nat} {rs : List R} {lo hi : Nat} (h : GW K w g rs lo hi) (j : Nat) (hj : j < rs.length) (r : R) (hr : K.inn r = [] ∨ ∃ b, K.loc r = some ⟨b, 0, none⟩ ∧ lo ≤ b ∧ b < hi ∧ b ≠ g ∧ WCells w b (K.inn r))
    (hap : ∀ s ∈ rs, K.inn s ≠ [] → K.inn r ≠ [] → K.loc s ≠ K.loc r) : GW K (Go.Proofs.Ytendbipfmgnjkaa.setW w g (j * K.sz) (K.enc r)) g (rs.set j r) lo hi := by
  refine ⟨h.out.setElem K.len j hj r, h.glo, h.ghi, fun s hs => ?_, ?_⟩
  · rcases List.mem_or_eq_of_mem_set hs with q | q
    · rcases h.rows s q with e | ⟨b, e, q1, q2, q3, q4⟩
      · exact .inl e
      · exact .inr ⟨b, e, q1, q2, q3, q4.setW_other q3 _ _⟩
    · subst q
      rcases hr with e | ⟨b, e, q1, q2, q3, q4⟩
      · exact .inl e
      · exact .inr ⟨b, e, q1, q2, q3, q4.setW_other q3 _ _⟩
  · have ha := List.pairwise_iff_getElem.1 h.apart
    refine List.pairwise_iff_getElem.2 (fun a b ha' hb' hab h1 h2 => ?_)
    rw [List.length_set] at ha' hb'
    rw [List.getElem_set] at h1 ⊢
    rw [List.getElem_set] at h2 ⊢
    by_cases ea : j = a
    · by_cases eb : j = b
      · omega
      · rw [if_pos ea] at h1 ⊢
        rw [if_neg eb] at h2 ⊢
        exact (hap _ (List.getElem_mem hb') h2 h1).symm
    · rw [if_neg ea] at h1 ⊢
      by_cases eb : j = b
      · rw [if_pos eb] at h2 ⊢
        exact hap _ (List.getElem_mem ha') h1 h2
      · rw [if_neg eb] at h2 ⊢
        exact ha a b ha' hb' hab h1 h2
/-- A fact on a world, in place of how it came to be. -/
theorem body_shade {P : Program} {f : Func} {R : Ending → World → Prop} {x : Exit} {a : Act} {W : World} (p : World → Prop) (h : p W) (k : ∀ W', p W' → bodyPost P f R x a W') : bodyPost P f R x a W := k W h
theorem wp_shade {P : Program} {c : Code} {Q : Exit → Act → World → Prop} {a : Act} {W : World} (p : World → Prop) (h : p W) (k : ∀ W', p W' → Code.wp P c Q a W') : Code.wp P c Q a W := k W h
end Go.Proofs.Ytendbipfmgnjkaa
