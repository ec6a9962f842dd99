/- What lies in memory through a law: boxes, and rows of their own. -/
import Derived.Test.YtendbipfmgnjkaaRowsG
namespace Go.Proofs.Ytendbipfmgnjkaa
set_option maxRecDepth 100000
open Go.RowKit

theorem wc_grown {w w' : World} {g : Nat} {row : Option Nat} {L : List Value} (h : WCells w g L) (hg : w.grownBy w' row) (hr : row ≠ some g) : WCells w' g L := by
  have hblk := hg.block g h.1 (fun e => hr e.symm)
  refine ⟨Nat.lt_of_lt_of_le h.1 hg.size, fun i v hv => ⟨?_, ?_⟩⟩
  · rw [World.cell?_of_block (w := w) hblk]; exact (h.2 i v hv).1
  · rw [World.frozen?_of_block (w := w) hblk]; exact (h.2 i v hv).2
/-- A row of its own between two places, or none. -/
def FRw (w : World) (va : Option Addr) (X : List Value) (lo hi : Nat) : Prop := (va = none ∧ X = []) ∨ ∃ g, va = some ⟨g, 0, none⟩ ∧ lo ≤ g ∧ g < hi ∧ WCells w g X
theorem FRw.crow {w : World} {va : Option Addr} {X : List Value} {lo hi : Nat} (h : FRw w va X lo hi) : CRow w va X := by
  rcases h with ⟨_, rfl⟩ | ⟨g, rfl, _, _, h⟩
  · intro hp; simp at hp
  · exact h.crow
theorem FRw.below {w w' : World} {va : Option Addr} {X : List Value} {lo hi : Nat} (h : FRw w va X lo hi) (hb : Below w.heap.size w w') : FRw w' va X lo hi := by
  rcases h with h | ⟨g, h1, h2, h3, h⟩
  · exact .inl h
  · exact .inr ⟨g, h1, h2, h3, h.grow hb⟩
theorem FRw.grown {w w' : World} {va : Option Addr} {X : List Value} {lo hi : Nat} {row : Option Nat} (h : FRw w va X lo hi) (hg : w.grownBy w' row) (hr : ∀ g, row = some g → g < lo ∨ hi ≤ g) : FRw w' va X lo hi := by
  rcases h with h | ⟨g, h1, h2, h3, h⟩
  · exact .inl h
  · exact .inr ⟨g, h1, h2, h3, wc_grown h hg (fun e => by rcases hr g e with h | h <;> omega)⟩
theorem FRw.of_wcells {w : World} {g lo hi : Nat} {X : List Value} (h : WCells w g X) (h1 : lo ≤ g) (h2 : g < hi) : FRw w (some ⟨g, 0, none⟩) X lo hi := .inr ⟨g, rfl, h1, h2, h⟩
theorem FRw.wcells {w : World} {g lo hi : Nat} {X : List Value} (h : FRw w (some ⟨g, 0, none⟩) X lo hi) : WCells w g X := by
  rcases h with ⟨h, _⟩ | ⟨g', e, _, _, h⟩
  · cases h
  · have : g = g' := by simpa using e
    subst this; exact h
theorem FRw.of_own {w : World} {B n c t sz : Nat} {va : Option Addr} {X : List Value} (h : w.ownsRow B t sz (.slice va n c) n X) : FRw w va X B w.heap.size ∧ n ≤ c := by
  have h' := h
  rcases h.2 with ⟨h0, hX⟩ | ⟨g, cap, cur, he, hB, hcur, hn, _, _, _⟩
  · simp only [Value.slice.injEq] at h0
    obtain ⟨rfl, h1, rfl⟩ := h0
    refine ⟨.inl ⟨rfl, ?_⟩, by omega⟩
    have hl := h'.1
    rw [hX, Nat.zero_mul] at hl
    exact List.eq_nil_of_length_eq_zero hl
  · simp only [Value.slice.injEq] at he
    obtain ⟨rfl, _, rfl⟩ := he
    exact ⟨.inr ⟨g, rfl, hB, (Array.getElem?_eq_some_iff.1 hcur).1, own_wcells h'⟩, hn⟩
/-- Boxes and rows that lie in a world; what was there at the start is as it was. -/
structure Mem (w0 w : World) (L : List (Nat × List Value)) (R : List (Option Addr × List Value × Nat × Nat)) : Prop where
  cells : ∀ p ∈ L, WCells w p.1 p.2
  rows : ∀ r ∈ R, FRw w r.1 r.2.1 r.2.2.1 r.2.2.2
  low : Below w0.heap.size w0 w
theorem Mem.below {w0 w w' : World} {L : List (Nat × List Value)} {R : List (Option Addr × List Value × Nat × Nat)} (M : Mem w0 w L R) (hb : Below w.heap.size w w') : Mem w0 w' L R :=
  ⟨fun p hp => (M.cells p hp).grow hb, fun r hr => (M.rows r hr).below hb, M.low.trans (hb.mono M.low.size)⟩
theorem Mem.alloc {w0 w : World} {L : List (Nat × List Value)} {R : List (Option Addr × List Value × Nat × Nat)} (M : Mem w0 w L R) (o : Obj) : Mem w0 (w.alloc o) L R := M.below ((Below.refl _ _).alloc (Nat.le_refl _) o)
theorem Mem.drew {w0 w : World} {L : List (Nat × List Value)} {R : List (Option Addr × List Value × Nat × Nat)} (M : Mem w0 w L R) : Mem w0 w.drew L R := ⟨fun p hp => M.cells p hp, fun r hr => M.rows r hr, M.low.drew⟩
theorem Mem.box {w0 w : World} {L : List (Nat × List Value)} {R : List (Option Addr × List Value × Nat × Nat)} (M : Mem w0 w L R) (cs : Array Value) (t : TypeId) : Mem w0 (w.alloc (.cells cs t)) ((w.heap.size, cs.toList) :: L) R := by
  refine ⟨fun p hp => ?_, (M.alloc _).rows, (M.alloc _).low⟩
  rcases List.mem_cons.1 hp with rfl | h
  · exact wcells_new w cs t
  · exact (M.alloc _).cells p h
theorem Mem.row {w0 w : World} {L : List (Nat × List Value)} {R : List (Option Addr × List Value × Nat × Nat)} (M : Mem w0 w L R) {va : Option Addr} {X : List Value} {lo hi : Nat} (h : FRw w va X lo hi) : Mem w0 w L ((va, X, lo, hi) :: R) := by
  refine ⟨M.cells, fun r hr => ?_, M.low⟩
  rcases List.mem_cons.1 hr with rfl | h'
  · exact h
  · exact M.rows r h'
theorem Mem.less {w0 w : World} {L L' : List (Nat × List Value)} {R R' : List (Option Addr × List Value × Nat × Nat)} (M : Mem w0 w L R) (hL : ∀ p ∈ L', p ∈ L) (hR : ∀ r ∈ R', r ∈ R) : Mem w0 w L' R' := ⟨fun p hp => M.cells p (hL p hp), fun r hr => M.rows r (hR r hr), M.low⟩
theorem Mem.grown {w0 w w' : World} {L : List (Nat × List Value)} {R : List (Option Addr × List Value × Nat × Nat)} {row : Option Nat} (M : Mem w0 w L R) (hg : w.grownBy w' row) (hL : ∀ p ∈ L, ∀ g, row = some g → g ≠ p.1) (hR : ∀ r ∈ R, ∀ g, row = some g → g < r.2.2.1 ∨ r.2.2.2 ≤ g) (h0 : ∀ g, row = some g → w0.heap.size ≤ g) : Mem w0 w' L R :=
  ⟨fun p hp => wc_grown (M.cells p hp) hg (fun e => hL p hp _ e rfl), fun r hr => (M.rows r hr).grown hg (hR r hr), M.low.grown hg M.low.size h0⟩
theorem Mem.cell {w0 w : World} {L : List (Nat × List Value)} {R : List (Option Addr × List Value × Nat × Nat)} (M : Mem w0 w L R) {g : Nat} {v : Value} (h : (g, [v]) ∈ L) : w.cell? ⟨g, 0, none⟩ = some v := ((M.cells _ h).2 0 _ rfl).1
theorem Mem.lt {w0 w : World} {L : List (Nat × List Value)} {R : List (Option Addr × List Value × Nat × Nat)} (M : Mem w0 w L R) {g : Nat} {X : List Value} (h : (g, X) ∈ L) : g < w.heap.size := (M.cells _ h).1
theorem Mem.at {w0 w : World} {L : List (Nat × List Value)} {R : List (Option Addr × List Value × Nat × Nat)} (M : Mem w0 w L R) {va : Option Addr} {X : List Value} {lo hi : Nat} (h : (va, X, lo, hi) ∈ R) : FRw w va X lo hi := M.rows _ h

theorem Mem.at0 {w0 w : World} {L : List (Nat × List Value)} {R : List (Option Addr × List Value × Nat × Nat)} {va : Option Addr} {X : List Value} {lo hi : Nat} (M : Mem w0 w L ((va, X, lo, hi) :: R)) : FRw w va X lo hi := M.rows _ (List.mem_cons_self ..)
theorem Mem.cell0 {w0 w : World} {L : List (Nat × List Value)} {R : List (Option Addr × List Value × Nat × Nat)} {g : Nat} {v : Value} (M : Mem w0 w ((g, [v]) :: L) R) : w.cell? ⟨g, 0, none⟩ = some v := M.cell (List.mem_cons_self ..)
theorem Mem.lt0 {w0 w : World} {L : List (Nat × List Value)} {R : List (Option Addr × List Value × Nat × Nat)} {g : Nat} {X : List Value} (M : Mem w0 w ((g, X) :: L) R) : g < w.heap.size := M.lt (List.mem_cons_self ..)
theorem Mem.at1 {w0 w : World} {L : List (Nat × List Value)} {R : List (Option Addr × List Value × Nat × Nat)} {r0 : Option Addr × List Value × Nat × Nat} {va : Option Addr} {X : List Value} {lo hi : Nat} (M : Mem w0 w L (r0 :: (va, X, lo, hi) :: R)) : FRw w va X lo hi := M.rows _ (List.mem_cons_of_mem _ (List.mem_cons_self ..))
theorem Mem.cell1 {w0 w : World} {L : List (Nat × List Value)} {R : List (Option Addr × List Value × Nat × Nat)} {p0 : Nat × List Value} {g : Nat} {v : Value} (M : Mem w0 w (p0 :: (g, [v]) :: L) R) : w.cell? ⟨g, 0, none⟩ = some v := M.cell (List.mem_cons_of_mem _ (List.mem_cons_self ..))
theorem Mem.lt1 {w0 w : World} {L : List (Nat × List Value)} {R : List (Option Addr × List Value × Nat × Nat)} {p0 : Nat × List Value} {g : Nat} {X : List Value} (M : Mem w0 w (p0 :: (g, X) :: L) R) : g < w.heap.size := M.lt (List.mem_cons_of_mem _ (List.mem_cons_self ..))
theorem Mem.at2 {w0 w : World} {L : List (Nat × List Value)} {R : List (Option Addr × List Value × Nat × Nat)} {r0 : Option Addr × List Value × Nat × Nat} {r1 : Option Addr × List Value × Nat × Nat} {va : Option Addr} {X : List Value} {lo hi : Nat} (M : Mem w0 w L (r0 :: r1 :: (va, X, lo, hi) :: R)) : FRw w va X lo hi := M.rows _ (List.mem_cons_of_mem _ (List.mem_cons_of_mem _ (List.mem_cons_self ..)))
theorem Mem.cell2 {w0 w : World} {L : List (Nat × List Value)} {R : List (Option Addr × List Value × Nat × Nat)} {p0 : Nat × List Value} {p1 : Nat × List Value} {g : Nat} {v : Value} (M : Mem w0 w (p0 :: p1 :: (g, [v]) :: L) R) : w.cell? ⟨g, 0, none⟩ = some v := M.cell (List.mem_cons_of_mem _ (List.mem_cons_of_mem _ (List.mem_cons_self ..)))
theorem Mem.lt2 {w0 w : World} {L : List (Nat × List Value)} {R : List (Option Addr × List Value × Nat × Nat)} {p0 : Nat × List Value} {p1 : Nat × List Value} {g : Nat} {X : List Value} (M : Mem w0 w (p0 :: p1 :: (g, X) :: L) R) : g < w.heap.size := M.lt (List.mem_cons_of_mem _ (List.mem_cons_of_mem _ (List.mem_cons_self ..)))
theorem Mem.at3 {w0 w : World} {L : List (Nat × List Value)} {R : List (Option Addr × List Value × Nat × Nat)} {r0 : Option Addr × List Value × Nat × Nat} {r1 : Option Addr × List Value × Nat × Nat} {r2 : Option Addr × List Value × Nat × Nat} {va : Option Addr} {X : List Value} {lo hi : Nat} (M : Mem w0 w L (r0 :: r1 :: r2 :: (va, X, lo, hi) :: R)) : FRw w va X lo hi := M.rows _ (List.mem_cons_of_mem _ (List.mem_cons_of_mem _ (List.mem_cons_of_mem _ (List.mem_cons_self ..))))
theorem Mem.cell3 {w0 w : World} {L : List (Nat × List Value)} {R : List (Option Addr × List Value × Nat × Nat)} {p0 : Nat × List Value} {p1 : Nat × List Value} {p2 : Nat × List Value} {g : Nat} {v : Value} (M : Mem w0 w (p0 :: p1 :: p2 :: (g, [v]) :: L) R) : w.cell? ⟨g, 0, none⟩ = some v := M.cell (List.mem_cons_of_mem _ (List.mem_cons_of_mem _ (List.mem_cons_of_mem _ (List.mem_cons_self ..))))
theorem Mem.lt3 {w0 w : World} {L : List (Nat × List Value)} {R : List (Option Addr × List Value × Nat × Nat)} {p0 : Nat × List Value} {p1 : Nat × List Value} {p2 : Nat × List Value} {g : Nat} {X : List Value} (M : Mem w0 w (p0 :: p1 :: p2 :: (g, X) :: L) R) : g < w.heap.size := M.lt (List.mem_cons_of_mem _ (List.mem_cons_of_mem _ (List.mem_cons_of_mem _ (List.mem_cons_self ..))))
theorem Mem.at4 {w0 w : World} {L : List (Nat × List Value)} {R : List (Option Addr × List Value × Nat × Nat)} {r0 : Option Addr × List Value × Nat × Nat} {r1 : Option Addr × List Value × Nat × Nat} {r2 : Option Addr × List Value × Nat × Nat} {r3 : Option Addr × List Value × Nat × Nat} {va : Option Addr} {X : List Value} {lo hi : Nat} (M : Mem w0 w L (r0 :: r1 :: r2 :: r3 :: (va, X, lo, hi) :: R)) : FRw w va X lo hi := M.rows _ (List.mem_cons_of_mem _ (List.mem_cons_of_mem _ (List.mem_cons_of_mem _ (List.mem_cons_of_mem _ (List.mem_cons_self ..)))))
theorem Mem.cell4 {w0 w : World} {L : List (Nat × List Value)} {R : List (Option Addr × List Value × Nat × Nat)} {p0 : Nat × List Value} {p1 : Nat × List Value} {p2 : Nat × List Value} {p3 : Nat × List Value} {g : Nat} {v : Value} (M : Mem w0 w (p0 :: p1 :: p2 :: p3 :: (g, [v]) :: L) R) : w.cell? ⟨g, 0, none⟩ = some v := M.cell (List.mem_cons_of_mem _ (List.mem_cons_of_mem _ (List.mem_cons_of_mem _ (List.mem_cons_of_mem _ (List.mem_cons_self ..)))))
theorem Mem.lt4 {w0 w : World} {L : List (Nat × List Value)} {R : List (Option Addr × List Value × Nat × Nat)} {p0 : Nat × List Value} {p1 : Nat × List Value} {p2 : Nat × List Value} {p3 : Nat × List Value} {g : Nat} {X : List Value} (M : Mem w0 w (p0 :: p1 :: p2 :: p3 :: (g, X) :: L) R) : g < w.heap.size := M.lt (List.mem_cons_of_mem _ (List.mem_cons_of_mem _ (List.mem_cons_of_mem _ (List.mem_cons_of_mem _ (List.mem_cons_self ..)))))
theorem Mem.at5 {w0 w : World} {L : List (Nat × List Value)} {R : List (Option Addr × List Value × Nat × Nat)} {r0 : Option Addr × List Value × Nat × Nat} {r1 : Option Addr × List Value × Nat × Nat} {r2 : Option Addr × List Value × Nat × Nat} {r3 : Option Addr × List Value × Nat × Nat} {r4 : Option Addr × List Value × Nat × Nat} {va : Option Addr} {X : List Value} {lo hi : Nat} (M : Mem w0 w L (r0 :: r1 :: r2 :: r3 :: r4 :: (va, X, lo, hi) :: R)) : FRw w va X lo hi := M.rows _ (List.mem_cons_of_mem _ (List.mem_cons_of_mem _ (List.mem_cons_of_mem _ (List.mem_cons_of_mem _ (List.mem_cons_of_mem _ (List.mem_cons_self ..))))))
theorem Mem.cell5 {w0 w : World} {L : List (Nat × List Value)} {R : List (Option Addr × List Value × Nat × Nat)} {p0 : Nat × List Value} {p1 : Nat × List Value} {p2 : Nat × List Value} {p3 : Nat × List Value} {p4 : Nat × List Value} {g : Nat} {v : Value} (M : Mem w0 w (p0 :: p1 :: p2 :: p3 :: p4 :: (g, [v]) :: L) R) : w.cell? ⟨g, 0, none⟩ = some v := M.cell (List.mem_cons_of_mem _ (List.mem_cons_of_mem _ (List.mem_cons_of_mem _ (List.mem_cons_of_mem _ (List.mem_cons_of_mem _ (List.mem_cons_self ..))))))
theorem Mem.lt5 {w0 w : World} {L : List (Nat × List Value)} {R : List (Option Addr × List Value × Nat × Nat)} {p0 : Nat × List Value} {p1 : Nat × List Value} {p2 : Nat × List Value} {p3 : Nat × List Value} {p4 : Nat × List Value} {g : Nat} {X : List Value} (M : Mem w0 w (p0 :: p1 :: p2 :: p3 :: p4 :: (g, X) :: L) R) : g < w.heap.size := M.lt (List.mem_cons_of_mem _ (List.mem_cons_of_mem _ (List.mem_cons_of_mem _ (List.mem_cons_of_mem _ (List.mem_cons_of_mem _ (List.mem_cons_self ..))))))
end Go.Proofs.Ytendbipfmgnjkaa
