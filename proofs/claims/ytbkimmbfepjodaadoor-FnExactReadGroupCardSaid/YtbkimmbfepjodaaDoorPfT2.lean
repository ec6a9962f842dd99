/- Texts of ours, laid one behind the other: TRowsG, TIntsA, TNestA, TNestB, TNestC, TNestD, TNestE, TNestF, TWords, TVarL, TMatA, TMatB, TFieldM. -/
import Derived.Test.YtbkimmbfepjodaaDoorPfT1
import Derived.OwnWalk
import Derived.Deep.DrawnRows
import Derived.Deep.RegionHeld3
import Derived.BigQuiet
import Derived.Deep.CutRange
set_option linter.unusedVariables false
set_option linter.unusedSimpArgs false
/- Rows of cells in memory, for elements of any number of cells: what a row holds, and a row that may be written. Nothing of the program is read here. -/
namespace Go.Proofs.YtbkimmbfepjodaaDoorT
set_option maxRecDepth 100000
open Go.RowKit

theorem flat_len {α : Type} {enc : α → List Value} {sz : Nat} (hsz : ∀ x, (enc x).length = sz) (xs : List α) : (xs.flatMap enc).length = xs.length * sz := by
  induction xs with
  | nil => simp
  | cons x xs ih => simp only [List.flatMap_cons, List.length_append, List.length_cons, ih, hsz, Nat.add_mul]; omega
theorem flat_get {α : Type} {enc : α → List Value} {sz : Nat} (hsz : ∀ x, (enc x).length = sz) (xs : List α) (j : Nat) (h : j < xs.length) (i : Nat) (hi : i < sz) : (xs.flatMap enc)[j * sz + i]? = (enc xs[j])[i]? := by
  induction xs generalizing j with
  | nil => simp at h
  | cons x xs ih =>
    rw [List.flatMap_cons]
    cases j with
    | zero =>
      rw [List.getElem?_append_left (by rw [hsz]; omega)]
      simp
    | succ j =>
      rw [List.getElem?_append_right (by rw [hsz, Nat.add_mul]; omega), hsz]
      have := ih j (by simpa using h)
      rw [show (j + 1) * sz + i - sz = j * sz + i by rw [Nat.add_mul]; omega]
      simpa using this
/-- A row of cells, from a place on. -/
def CRow (w : World) (a : Option Addr) (L : List Value) : Prop :=
  0 < L.length → ∃ b off, a = some ⟨b, off, none⟩ ∧ b < w.heap.size ∧ ∀ i v, L[i]? = some v → w.cell? ⟨b, off + i, none⟩ = some v
theorem CRow.stays {w w' : World} {a : Option Addr} {L : List Value} (h : CRow w a L) (hb : Below w.heap.size w w') : CRow w' a L := by
  intro hp
  obtain ⟨b, off, e, hlt, hc⟩ := h hp
  exact ⟨b, off, e, Nat.lt_of_lt_of_le hlt hb.size, fun i v hv => by rw [hb.cell (p := ⟨b, off + i, none⟩) hlt]; exact hc i v hv⟩
/-- A row of cells that may be written, in a block of its own. -/
def WCells (w : World) (g : Nat) (L : List Value) : Prop :=
  g < w.heap.size ∧ ∀ i v, L[i]? = some v → w.cell? ⟨g, i, none⟩ = some v ∧ w.frozen? ⟨g, i, none⟩ = false
theorem WCells.crow {w : World} {g : Nat} {L : List Value} (h : WCells w g L) : CRow w (some ⟨g, 0, none⟩) L := fun _ => ⟨g, 0, rfl, h.1, fun i v hv => by rw [Nat.zero_add]; exact (h.2 i v hv).1⟩
theorem WCells.below {w w' : World} {g B : Nat} {L : List Value} (h : WCells w g L) (hb : Below B w w') (hg : g < B) : WCells w' g L :=
  ⟨Nat.lt_of_lt_of_le h.1 hb.size, fun i v hv => ⟨(hb.cell (p := ⟨g, i, none⟩) hg).trans (h.2 i v hv).1, (hb.frozen (p := ⟨g, i, none⟩) hg).trans (h.2 i v hv).2⟩⟩
theorem WCells.set {w : World} {g : Nat} {L : List Value} (h : WCells w g L) (i : Nat) (x : Value) (hi : i < L.length) : WCells (w.setCell ⟨g, i, none⟩ x) g (L.set i x) := by
  refine ⟨by have := h.1; simpa [World.setCell] using this, fun j v hv => ?_⟩
  have hj : j < L.length := by
    have := (List.getElem?_eq_some_iff.1 hv).1
    simpa using this
  have hold := h.2 j L[j] (List.getElem?_eq_getElem hj)
  refine ⟨?_, (World.frozen?_setCell _ _ _ _).trans hold.2⟩
  by_cases e : j = i
  · subst e
    rw [World.cell?_setCell_same _ _ _ hold.1]
    rw [List.getElem?_set_self hi] at hv
    exact hv
  · rw [World.cell?_setCell_other _ _ _ _ (by first | (simp; done) | (simp; omega)), hold.1]
    rw [List.getElem?_set_ne (Ne.symm e), List.getElem?_eq_getElem hj] at hv
    exact hv
theorem own_wcells {w : World} {B g n cap t sz : Nat} {L : List Value} (h : w.ownsRow B t sz (.slice (some ⟨g, 0, none⟩) n cap) n L) : WCells w g L := by
  have hc := h.cells (g := g) rfl
  have hlt := h.lt g rfl
  obtain ⟨_, ⟨h0, _⟩ | ⟨g', cap', cur, he, hB, hcur, _, _, _, _⟩⟩ := h
  · cases h0
  · have eg : g' = g := by simp at he; exact he.1.symm
    subst eg
    refine ⟨hlt.2, fun j v hj => ⟨?_, ?_⟩⟩
    · have := hc j v hj
      have e : (⟨g', 0, none⟩ : Addr).add j = ⟨g', j, none⟩ := by cases j <;> simp [Addr.add]
      rw [e] at this
      exact this
    · unfold World.frozen?
      rw [hcur]; simp

/-- Cells laid one behind the other: in a list, and in a world. -/
def setL (L : List Value) (off : Nat) : List Value → List Value
  | [] => L
  | v :: vs => setL (L.set off v) (off + 1) vs
def setW (w : World) (g off : Nat) : List Value → World
  | [] => w
  | v :: vs => setW (w.setCell ⟨g, off, none⟩ v) g (off + 1) vs
theorem setL_cons (c : Value) (L : List Value) (off : Nat) (vs : List Value) : setL (c :: L) (off + 1) vs = c :: setL L off vs := by
  induction vs generalizing L off with
  | nil => rfl
  | cons v vs ih => simp only [setL, List.set_cons_succ]; exact ih _ _
theorem setL_app (A L : List Value) (off : Nat) (vs : List Value) : setL (A ++ L) (A.length + off) vs = A ++ setL L off vs := by
  induction A with
  | nil => simp
  | cons a A ih => rw [List.cons_append, List.length_cons, show A.length + 1 + off = (A.length + off) + 1 by omega, setL_cons, ih]; rfl
theorem setL_head (A R B : List Value) (h : A.length = B.length) : setL (A ++ R) 0 B = B ++ R := by
  induction B generalizing A with
  | nil => simp at h; subst h; rfl
  | cons b B ih =>
    cases A with
    | nil => simp at h
    | cons a A =>
      simp only [List.cons_append, setL, List.set_cons_zero, setL_cons]
      rw [ih A (by simpa using h)]
theorem flat_setL {α : Type} {enc : α → List Value} {sz : Nat} (hsz : ∀ x, (enc x).length = sz) (xs : List α) (j : Nat) (h : j < xs.length) (y : α) : setL (xs.flatMap enc) (j * sz) (enc y) = (xs.set j y).flatMap enc := by
  induction xs generalizing j with
  | nil => simp at h
  | cons x xs ih =>
    cases j with
    | zero =>
      simp only [Nat.zero_mul, List.flatMap_cons, List.set_cons_zero]
      exact setL_head _ _ _ (by rw [hsz, hsz])
    | succ j =>
      simp only [List.flatMap_cons, List.set_cons_succ]
      rw [show (j + 1) * sz = (enc x).length + j * sz by rw [hsz, Nat.add_mul]; omega, setL_app, ih j (by simpa using h)]
theorem WCells.setW {w : World} {g : Nat} {L : List Value} (h : WCells w g L) (off : Nat) (vs : List Value) (hl : off + vs.length ≤ L.length) : WCells (setW w g off vs) g (setL L off vs) := by
  induction vs generalizing w L off with
  | nil => exact h
  | cons v vs ih =>
    simp only [List.length_cons] at hl
    exact ih (h.set off v (by omega)) (off + 1) (by rw [List.length_set]; omega)
/-- An element of a row is laid anew. -/
theorem WCells.setElem {α : Type} {enc : α → List Value} {sz : Nat} (hsz : ∀ x, (enc x).length = sz) {w : World} {g : Nat} {xs : List α} (h : WCells w g (xs.flatMap enc)) (j : Nat) (hj : j < xs.length) (y : α) :
    WCells (Go.Proofs.YtbkimmbfepjodaaDoorT.setW w g (j * sz) (enc y)) g ((xs.set j y).flatMap enc) := by
  have hl : j * sz + (enc y).length ≤ (xs.flatMap enc).length := by
    rw [hsz, flat_len hsz]
    have := Nat.mul_le_mul_right sz (show j + 1 ≤ xs.length by omega)
    rw [Nat.add_mul] at this; omega
  have := h.setW (j * sz) (enc y) hl
  rwa [flat_setL hsz xs j hj y] at this
theorem below_setW {B g : Nat} {a w : World} (h : Below B a w) (hg : B ≤ g) (off : Nat) (vs : List Value) : Below B a (setW w g off vs) := by
  induction vs generalizing w off with
  | nil => exact h
  | cons v vs ih => exact ih (h.setCell (p := ⟨g, off, none⟩) hg v) _
/-- What 'make' lays, for elements of some cells. -/
theorem made_flat {α : Type} {enc : α → List Value} {sz : Nat} (hsz : ∀ x, (enc x).length = sz) (hp : 0 < sz) (z : Array Value) (d : α) (hz : z.toList = enc d) (n : Nat) : (madeCells z (n * sz)).toList = (List.replicate n d).flatMap enc := by
  have hzs : z.size = sz := by rw [← Array.length_toList, hz, hsz]
  apply List.ext_getElem?
  intro i
  by_cases hi : i < n * sz
  · have hq : i / sz < n := Nat.div_lt_of_lt_mul (by rwa [Nat.mul_comm] at hi)
    have hr := Nat.mod_lt i hp
    have e : i = i / sz * sz + i % sz := by rw [Nat.mul_comm]; exact (Nat.div_add_mod i sz).symm
    have l1 := flat_get hsz (List.replicate n d) (i / sz) (by simpa using hq) (i % sz) hr
    rw [← e] at l1
    rw [l1, List.getElem_replicate, ← hz]
    unfold madeCells
    have h3 : i % sz < z.size := by omega
    simp [hi, hzs]
    rw [getElem!_pos z (i % sz) h3, Array.getElem?_eq_getElem h3]
  · rw [List.getElem?_eq_none (by rw [Array.length_toList, size_madeCells]; omega), List.getElem?_eq_none (by rw [flat_len hsz]; simp; omega)]
theorem wcells_new (w : World) (cs : Array Value) (t : TypeId) : WCells (w.alloc (.cells cs t)) w.heap.size cs.toList := by
  refine ⟨by simp, fun i v hv => ⟨?_, ?_⟩⟩
  · rw [World.cell?_alloc_new]; simpa using hv
  · unfold World.frozen?
    rw [heap_alloc_new]; simp
theorem WCells.grow {w w' : World} {g : Nat} {L : List Value} (h : WCells w g L) (hb : Below w.heap.size w w') : WCells w' g L := h.below hb h.1
theorem WCells.other {w : World} {g : Nat} {L : List Value} (h : WCells w g L) (p : Addr) (x : Value) (hp : g ≠ p.block) : WCells (w.setCell p x) g L := by
  refine ⟨by have := h.1; simpa [World.setCell] using this, fun j v hv => ?_⟩
  have hold := h.2 j v hv
  refine ⟨?_, (World.frozen?_setCell _ _ _ _).trans hold.2⟩
  rw [← hold.1]
  exact World.cell?_of_block (Below.heap_setCell w p x g hp)
/-- A fact that no tactic parts. -/
structure Shut (p : Prop) : Prop where
  out : p
end Go.Proofs.YtbkimmbfepjodaaDoorT
/- Rows of numbers: their copies, their comparison, marks that are laid into one and found again. -/
namespace Go.Proofs.YtbkimmbfepjodaaDoorT
set_option maxRecDepth 100000
open Go.RowKit
attribute [local go_sem ↓] Go.wp_at_zero Go.wp_at_succ

def ics (xs : List Int) : List Value := xs.map fun x => .int .i64 x
theorem ics_len (xs : List Int) : (ics xs).length = xs.length := by simp [ics]
theorem ics_get (xs : List Int) (j : Nat) (h : j < xs.length) : (ics xs)[j]? = some (.int .i64 (xs.getD j 0)) := by simp [ics, List.getD, h]
theorem ics_set (xs : List Int) (j : Nat) (x : Int) : (ics xs).set j (.int .i64 x) = ics (xs.set j x) := by simp [ics, List.map_set]
theorem crow_int {w : World} {a : Option Addr} {xs : List Int} (h : CRow w a (ics xs)) (hp : 0 < xs.length) : ∃ b off, a = some ⟨b, off, none⟩ ∧ b < w.heap.size ∧ ∀ j, j < xs.length → w.cell? ⟨b, off + j, none⟩ = some (.int .i64 (xs.getD j 0)) := by
  obtain ⟨b, off, e, hb, hc⟩ := h (by rw [ics_len]; exact hp)
  exact ⟨b, off, e, hb, fun j hj => hc j _ (ics_get xs j hj)⟩
theorem infoIntG : (Tw.prog.info? 3).map (fun i => (i.zero, i.size, i.bytes)) = some (some (.int .i64 0), 1, 8) := by kernel_rfl
theorem gb_set' (w : World) (g i : Nat) (v : Value) : w.grownBy (w.setCell ⟨g, i, none⟩ v) (some g) :=
  ⟨rfl, rfl, rfl, by simp [World.setCell], fun k _ hk => Below.heap_setCell w ⟨g, i, none⟩ v k (fun e => hk (by rw [e]))⟩
theorem gb_two' {a b c : World} {g : Nat} (h : a.grownBy b (some g)) (k : b.grownBy c (some g)) : a.grownBy c (some g) :=
  ⟨k.os.trans h.os, k.tape.trans h.tape, k.output.trans h.output, Nat.le_trans h.size k.size, fun j hj hn => (k.block j (Nat.lt_of_lt_of_le hj h.size) hn).trans (h.block j hj hn)⟩
end Go.Proofs.YtbkimmbfepjodaaDoorT
/- Rows of rows of numbers in memory: one that is read, one that may be written, and what is turned of the world in between. Nothing of the program is read here. -/
namespace Go.Proofs.YtbkimmbfepjodaaDoorT
set_option maxRecDepth 100000
open Go.RowKit

/-- What lies from lo up to hi may be turned, what lies beyond the end is new; all else is as it was. -/
structure Turned (w w' : World) (lo hi : Nat) : Prop where
  base : Below 0 w w'
  block : ∀ k, k < w.heap.size → (k < lo ∨ hi ≤ k) → w'.heap[k]? = w.heap[k]?
theorem Turned.refl (w : World) (lo hi : Nat) : Turned w w lo hi := ⟨Below.refl _ _, fun _ _ _ => rfl⟩
theorem Turned.of_below {w w' : World} (h : Below w.heap.size w w') (lo hi : Nat) : Turned w w' lo hi := ⟨h.mono (Nat.zero_le _), fun k hk _ => h.block k hk⟩
theorem Turned.of_grown {w w' : World} {g lo hi : Nat} (h : w.grownBy w' (some g)) (h1 : lo ≤ g) (h2 : g < hi) : Turned w w' lo hi :=
  ⟨⟨h.os, h.tape, h.output, h.size, fun k hk => by omega⟩, fun k hk ho => h.block k hk (by intro e; cases e; omega)⟩
theorem Turned.size {w w' : World} {lo hi : Nat} (h : Turned w w' lo hi) : w.heap.size ≤ w'.heap.size := h.base.size

/-- A row of cells that is read, its block in a range. -/
def RRow (w : World) (a : Option Addr) (L : List Value) (lo hi : Nat) : Prop :=
  0 < L.length → ∃ b off, a = some ⟨b, off, none⟩ ∧ lo ≤ b ∧ b < hi ∧ b < w.heap.size ∧ ∀ i v, L[i]? = some v → w.cell? ⟨b, off + i, none⟩ = some v
theorem RRow.crow {w : World} {a : Option Addr} {L : List Value} {lo hi : Nat} (h : RRow w a L lo hi) : CRow w a L := fun hp => by
  obtain ⟨b, off, e, _, _, h3, h4⟩ := h hp
  exact ⟨b, off, e, h3, h4⟩
theorem RRow.below {w w' : World} {a : Option Addr} {L : List Value} {lo hi : Nat} (h : RRow w a L lo hi) (hb : Below w.heap.size w w') : RRow w' a L lo hi := fun hp => by
  obtain ⟨b, off, e, h1, h2, h3, h4⟩ := h hp
  exact ⟨b, off, e, h1, h2, Nat.lt_of_lt_of_le h3 hb.size, fun i v hv => (hb.cell (p := ⟨b, off + i, none⟩) h3).trans (h4 i v hv)⟩
theorem RRow.wide {w : World} {a : Option Addr} {L : List Value} {lo hi lo' hi' : Nat} (h : RRow w a L lo hi) (h1 : lo' ≤ lo) (h2 : hi ≤ hi') : RRow w a L lo' hi' := fun hp => by
  obtain ⟨b, off, e, q1, q2, q3, q4⟩ := h hp
  exact ⟨b, off, e, by omega, by omega, q3, q4⟩
theorem RRow.of_wcells {w : World} {g lo hi : Nat} {L : List Value} (h : WCells w g L) (h1 : lo ≤ g) (h2 : g < hi) : RRow w (some ⟨g, 0, none⟩) L lo hi := fun _ => ⟨g, 0, rfl, h1, h2, h.1, fun i v hv => by rw [Nat.zero_add]; exact (h.2 i v hv).1⟩
theorem WCells.turned {w w' : World} {g lo hi : Nat} {L : List Value} (h : WCells w g L) (t : Turned w w' lo hi) (hd : g < lo ∨ hi ≤ g) : WCells w' g L :=
  ⟨Nat.lt_of_lt_of_le h.1 t.size, fun i v hv => ⟨(World.cell?_of_block (a := ⟨g, i, none⟩) (t.block g h.1 hd)).trans (h.2 i v hv).1, (World.frozen?_of_block (a := ⟨g, i, none⟩) (t.block g h.1 hd)).trans (h.2 i v hv).2⟩⟩
theorem WCells.apart {w w' : World} {g q : Nat} {L : List Value} (h : WCells w g L) (t : w.grownBy w' (some q)) (hd : g ≠ q) : WCells w' g L :=
  h.turned (Turned.of_grown (lo := q) (hi := q + 1) t (Nat.le_refl _) (by omega)) (by omega)

/-- A row of numbers that stands in a row of rows. -/
structure SR where
  loc : Option Addr
  row : List Int
  cap : Nat
instance : Inhabited SR := ⟨⟨none, [], 0⟩⟩
def srv (s : SR) : Value := .slice s.loc s.row.length s.cap
def svs (ss : List SR) : List Value := ss.map srv
def rws (ss : List SR) : List (List Int) := ss.map (·.row)
theorem svs_len (ss : List SR) : (svs ss).length = ss.length := by simp [svs]
theorem rws_len (ss : List SR) : (rws ss).length = ss.length := by simp [rws]
theorem svs_get (ss : List SR) (i : Nat) (h : i < ss.length) : (svs ss)[i]? = some (srv ss[i]) := by simp [svs, h]
theorem rws_get (ss : List SR) (i : Nat) (h : i < ss.length) : (rws ss)[i]'(by rw [rws_len]; exact h) = ss[i].row := by simp [rws]
theorem rws_snoc (ss : List SR) (s : SR) : rws (ss ++ [s]) = rws ss ++ [s.row] := by simp [rws]
/-- A row of rows that is read, its blocks in a range. -/
def MR (w : World) (a : Option Addr) (ss : List SR) (lo hi : Nat) : Prop := RRow w a (svs ss) lo hi ∧ ∀ s ∈ ss, RRow w s.loc (ics s.row) lo hi
theorem MR.below {w w' : World} {a : Option Addr} {ss : List SR} {lo hi : Nat} (h : MR w a ss lo hi) (hb : Below w.heap.size w w') : MR w' a ss lo hi := ⟨h.1.below hb, fun s hs => (h.2 s hs).below hb⟩
theorem MR.nil (w : World) (a : Option Addr) (lo hi : Nat) : MR w a [] lo hi := ⟨fun h => by simp [svs] at h, by simp⟩
/-- What the walk wants of it: the outer row's place and cells. -/
theorem MR.at {w : World} {a : Option Addr} {ss : List SR} {lo hi : Nat} (h : MR w a ss lo hi) (hp : 0 < ss.length) : ∃ b off, a = some ⟨b, off, none⟩ ∧ b < w.heap.size ∧ ∀ i (hi : i < ss.length), w.cell? ⟨b, off + i, none⟩ = some (srv ss[i]) := by
  obtain ⟨b, off, e, _, _, h3, h4⟩ := h.1 (by rw [svs_len]; exact hp)
  exact ⟨b, off, e, h3, fun i hi => h4 i _ (svs_get ss i hi)⟩
/-- A row of rows that may be written: each row in a block of its own, all in a range. -/
structure MW (w : World) (g : Nat) (ss : List SR) (lo hi : Nat) : Prop where
  out : WCells w g (svs ss)
  glo : lo ≤ g
  ghi : g < hi
  rows : ∀ s ∈ ss, ∃ b, s.loc = some ⟨b, 0, none⟩ ∧ lo ≤ b ∧ b < hi ∧ b ≠ g ∧ WCells w b (ics s.row) ∧ s.row.length ≤ s.cap
  apart : (ss.map SR.loc).Nodup
theorem MW.mr {w : World} {g : Nat} {ss : List SR} {lo hi : Nat} (h : MW w g ss lo hi) : MR w (some ⟨g, 0, none⟩) ss lo hi :=
  ⟨RRow.of_wcells h.out h.glo h.ghi, fun s hs => by obtain ⟨b, e, h1, h2, _, h3, _⟩ := h.rows s hs; rw [e]; exact RRow.of_wcells h3 h1 h2⟩
theorem MW.wide {w : World} {g : Nat} {ss : List SR} {lo hi lo' hi' : Nat} (h : MW w g ss lo hi) (h1 : lo' ≤ lo) (h2 : hi ≤ hi') : MW w g ss lo' hi' :=
  ⟨h.out, Nat.le_trans h1 h.glo, Nat.lt_of_lt_of_le h.ghi h2, fun s hs => by
    obtain ⟨b, e, q1, q2, q3, q4, q5⟩ := h.rows s hs
    exact ⟨b, e, by omega, by omega, q3, q4, q5⟩, h.apart⟩
/-- An answer of rows of numbers: nothing, or a row of rows that may be written. -/
def MAns (w : World) (v : Value) (X : List (List Int)) (lo hi : Nat) : Prop :=
  ∃ (a : Option Addr) (cap : Nat) (ss : List SR), v = .slice a ss.length cap ∧ rws ss = X ∧ ss.length ≤ cap ∧ (ss = [] ∨ ∃ g, a = some ⟨g, 0, none⟩ ∧ MW w g ss lo hi)
theorem MAns.empty (w : World) (a : Option Addr) (cap lo hi : Nat) : MAns w (.slice a 0 cap) [] lo hi := ⟨a, cap, [], rfl, rfl, Nat.zero_le _, .inl rfl⟩
end Go.Proofs.YtbkimmbfepjodaaDoorT
/- Rows of rows of numbers: the laws' own copies, sizes, comparisons and marks. -/
namespace Go.Proofs.YtbkimmbfepjodaaDoorT
set_option maxRecDepth 100000
open Go.RowKit
attribute [local go_sem ↓] Go.wp_at_zero Go.wp_at_succ

theorem infoRow : (Tw.prog.info? 52).map (fun i => (i.zero, i.size, i.bytes)) = some (some (.slice none 0 0), 1, 24) := by kernel_rfl
/-- The size of rows of numbers, as the laws count it. -/
def msum : List SR → Nat
  | [] => 0
  | s :: ss => s.row.length + msum ss
theorem msum_mem {ss : List SR} {s : SR} (h : s ∈ ss) : s.row.length ≤ msum ss := by
  induction ss with
  | nil => simp at h
  | cons t ss ih =>
    rcases List.mem_cons.1 h with rfl | h
    · simp only [msum]; omega
    · have := ih h; simp only [msum]; omega
end Go.Proofs.YtbkimmbfepjodaaDoorT
/- Rows of rows of numbers: the laws' own comparisons, marks that are laid into one, and found again. -/
namespace Go.Proofs.YtbkimmbfepjodaaDoorT
set_option maxRecDepth 100000
open Go.RowKit
attribute [local go_sem ↓] Go.wp_at_zero Go.wp_at_succ

end Go.Proofs.YtbkimmbfepjodaaDoorT
/- Rows of rows of numbers: marks that are laid into all of them, and found again. -/
namespace Go.Proofs.YtbkimmbfepjodaaDoorT
set_option maxRecDepth 100000
open Go.RowKit
attribute [local go_sem ↓] Go.wp_at_zero Go.wp_at_succ

end Go.Proofs.YtbkimmbfepjodaaDoorT
/- Rows of rows of numbers as values: what is seen of one, what an answer is, what is marked, and the laws' own functions over them. -/
namespace Go.Proofs.YtbkimmbfepjodaaDoorT
set_option maxRecDepth 100000
open Go.RowKit

/-- How many numbers there are. -/
def xsum : List (List Int) → Nat
  | [] => 0
  | x :: X => x.length + xsum X
theorem msum_rws (ss : List SR) : msum ss = xsum (rws ss) := by
  induction ss with
  | nil => rfl
  | cons s ss ih => simp only [msum, rws, List.map_cons, xsum]; rw [ih]; rfl
/-- A value that is these rows of numbers. -/
def MSee (w : World) (v : Value) (X : List (List Int)) (lo hi : Nat) : Prop := ∃ (a : Option Addr) (cap : Nat) (ss : List SR), v = .slice a ss.length cap ∧ rws ss = X ∧ MR w a ss lo hi
theorem MAns.see {w : World} {v : Value} {X : List (List Int)} {lo hi : Nat} (h : MAns w v X lo hi) : MSee w v X lo hi := by
  obtain ⟨a, cap, ss, e, hr, _, h1⟩ := h
  refine ⟨a, cap, ss, e, hr, ?_⟩
  rcases h1 with rfl | ⟨g, rfl, hm⟩
  · exact MR.nil _ _ _ _
  · exact hm.mr
theorem MSee.below {w w' : World} {v : Value} {X : List (List Int)} {lo hi : Nat} (h : MSee w v X lo hi) (hb : Below w.heap.size w w') : MSee w' v X lo hi := by
  obtain ⟨a, cap, ss, e, hr, h1⟩ := h
  exact ⟨a, cap, ss, e, hr, h1.below hb⟩
/-- What an answer of rows of numbers is: new memory alone. -/
def MPost (X : List (List Int)) (w : World) (e : Ending) (w' : World) : Prop := ∃ v, e = .returned v ∧ MAns w' v X w.heap.size w'.heap.size ∧ Below w.heap.size w w'
/-- Rows that a machine can hold. -/
def MFit (X : List (List Int)) : Prop := X.length + xsum X ≤ 1048576
theorem rows_fit {ss : List SR} {X : List (List Int)} (hr : rws ss = X) (hf : MFit X) : ss.length ≤ 1048576 ∧ (∀ s ∈ ss, s.row.length ≤ 1048576) ∧ msum ss = xsum X ∧ xsum X ≤ 1048576 := by
  have h1 : ss.length = X.length := by rw [← hr, rws_len]
  have h2 : msum ss = xsum X := by rw [msum_rws, hr]
  have h3 := hf
  unfold MFit at h3
  exact ⟨by omega, fun s hs => by have := msum_mem hs; omega, h2, by omega⟩
end Go.Proofs.YtbkimmbfepjodaaDoorT
/- A row of rows of numbers that is made row by row, by append. -/
namespace Go.Proofs.YtbkimmbfepjodaaDoorT
set_option maxRecDepth 100000
open Go.RowKit

/-- A row of numbers is not the row of rows. -/
theorem row_apart {w : World} {b B t n : Nat} {v : Value} {row : List Int} {ts : List SR} (h : WCells w b (ics row)) (hr : row ≠ []) (ho : w.ownsRow B t 1 v n (svs ts)) (hts : ts ≠ []) : v.ownBlock ≠ some b := by
  intro e
  have hc := ho.cells e
  obtain ⟨x, r, rfl⟩ := List.exists_cons_of_ne_nil hr
  obtain ⟨s, t', rfl⟩ := List.exists_cons_of_ne_nil hts
  have h1 := (h.2 0 (.int .i64 x) rfl).1
  have h2 := hc 0 (srv s) rfl
  have e2 : (⟨b, 0, none⟩ : Addr).add 0 = ⟨b, 0, none⟩ := by simp [Addr.add]
  rw [e2, h1] at h2
  simp [srv] at h2
/-- Where the making of a row of rows stands. -/
structure BI (w wr : World) (v : Value) (ts : List SR) : Prop where
  own : wr.ownsRow w.heap.size 52 1 v ts.length (svs ts)
  rows : ∀ s ∈ ts, ∃ b, s.loc = some ⟨b, 0, none⟩ ∧ w.heap.size ≤ b ∧ WCells wr b (ics s.row) ∧ s.row.length ≤ s.cap ∧ s.row ≠ []
  apart : (ts.map SR.loc).Nodup
  bel : Below w.heap.size w wr
theorem BI.start (w : World) {wr : World} {v : Value} (ho : wr.ownsRow w.heap.size 52 1 v 0 []) (hb : Below w.heap.size w wr) : BI w wr v [] := ⟨ho, by simp, List.nodup_nil, hb⟩
theorem BI.below {w wr w' : World} {v : Value} {ts : List SR} (h : BI w wr v ts) (hb : Below wr.heap.size wr w') : BI w w' v ts :=
  ⟨h.own.kept (row := none) ⟨hb.os, hb.tape, hb.output, hb.size, fun k hk _ => hb.block k hk⟩ (Classical.em _), fun s hs => by
    obtain ⟨b, e, q1, q2, q3⟩ := h.rows s hs
    exact ⟨b, e, q1, q2.below hb q2.1, q3⟩, h.apart, h.bel.trans (hb.mono h.bel.size)⟩
/-- A block beyond is turned. -/
theorem BI.other {w wr w' : World} {v : Value} {ts : List SR} {B g : Nat} (h : BI w wr v ts) (hg : wr.grownBy w' (some g)) (hB : B ≤ g) (ho : ∀ q, v.ownBlock = some q → q < B) (hr : ∀ s ∈ ts, ∀ b, s.loc = some ⟨b, 0, none⟩ → b < B) (hw : w.heap.size ≤ B) (hs : w.heap.size ≤ wr.heap.size) : BI w w' v ts := by
  refine ⟨h.own.kept hg (.inr fun e => by have := ho g e; omega), fun s hs' => ?_, h.apart, h.bel.grown hg hs (fun k e => by cases e; omega)⟩
  obtain ⟨b, e, q1, q2, q3⟩ := h.rows s hs'
  exact ⟨b, e, q1, q2.apart hg (by have := hr s hs' b e; omega), q3⟩
theorem BI.append {w wr w1 : World} {v v' : Value} {ts : List SR} {o : Obj} {b : Nat} {row : List Int} {cap : Nat} (h : BI w wr v ts) (hb : w.heap.size ≤ b) (hrow : WCells wr b (ics row)) (hne : row ≠ []) (hcap : row.length ≤ cap)
    (hv : ∀ q, v.ownBlock = some q → q ≠ b) (hnew : ∀ s ∈ ts, s.loc ≠ some ⟨b, 0, none⟩)
    (hown : w1.ownsRow w.heap.size 52 1 v' (ts.length + 1) (svs ts ++ [.slice (some ⟨b, 0, none⟩) row.length cap])) (hg : (wr.alloc o).grownBy w1 v.ownBlock) : BI w w1 v' (ts ++ [SR.mk (some ⟨b, 0, none⟩) row cap]) := by
  have keep : ∀ {c : Nat} {L : List Value}, WCells wr c L → (∀ q, v.ownBlock = some q → q ≠ c) → WCells w1 c L := fun {c L} hc hq => by
    have h1 : WCells (wr.alloc o) c L := hc.below ((Below.refl wr.heap.size wr).alloc (Nat.le_refl _) o) hc.1
    refine ⟨Nat.lt_of_lt_of_le h1.1 hg.size, fun i u hu => ?_⟩
    have hbk : w1.heap[c]? = (wr.alloc o).heap[c]? := hg.block c h1.1 (fun e => hq c e.symm rfl)
    exact ⟨(World.cell?_of_block (a := ⟨c, i, none⟩) hbk).trans (h1.2 i u hu).1, (World.frozen?_of_block (a := ⟨c, i, none⟩) hbk).trans (h1.2 i u hu).2⟩
  refine ⟨?_, fun s hs => ?_, ?_, (h.bel.alloc h.bel.size o).grown hg (by have := h.bel.size; simp; omega) (fun k e => (h.own.lt k e).1)⟩
  · have e : svs (ts ++ [SR.mk (some ⟨b, 0, none⟩) row cap]) = svs ts ++ [.slice (some ⟨b, 0, none⟩) row.length cap] := by simp [svs, srv]
    rw [e, List.length_append]
    exact hown
  · rcases List.mem_append.1 hs with h1 | h1
    · obtain ⟨c, e, q1, q2, q3, q4⟩ := h.rows s h1
      refine ⟨c, e, q1, keep q2 (fun q hq => ?_), q3, q4⟩
      have := row_apart q2 q4 h.own (List.ne_nil_of_mem h1)
      intro e2; subst e2; exact this hq
    · simp at h1
      subst h1
      exact ⟨b, rfl, hb, keep hrow hv, hcap, hne⟩
  · rw [List.map_append, List.nodup_append]
    refine ⟨h.apart, by simp, fun l hl l' hl' => ?_⟩
    obtain ⟨s, hs, rfl⟩ := List.mem_map.1 hl
    simp only [List.map_cons, List.map_nil, List.mem_singleton] at hl'
    subst hl'
    exact hnew s hs
theorem BI.fin {w wr : World} {v : Value} {ts : List SR} {X : List (List Int)} (h : BI w wr v ts) (hX : rws ts = X) : MAns wr v X w.heap.size wr.heap.size := by
  have hlt := h.own.lt
  have hown := h.own
  obtain ⟨_, ⟨rfl, h0⟩ | ⟨g, cap, cur, rfl, hB, hcur, hn, _⟩⟩ := hown
  · have : ts = [] := List.eq_nil_of_length_eq_zero h0
    subst this
    exact ⟨none, 0, [], rfl, hX, Nat.le_refl _, .inl rfl⟩
  · refine ⟨_, cap, ts, rfl, hX, hn, ?_⟩
    by_cases hts : ts = []
    · exact .inl hts
    · refine .inr ⟨g, rfl, own_wcells h.own, hB, (hlt g rfl).2, fun s hs => ?_, h.apart⟩
      obtain ⟨b, e, q1, q2, q3, q4⟩ := h.rows s hs
      refine ⟨b, e, q1, q2.1, fun eb => ?_, q2, q3⟩
      subst eb
      exact row_apart q2 q4 h.own hts rfl
end Go.Proofs.YtbkimmbfepjodaaDoorT
/- Plain facts on the bytes of numbers: the bytes of a number by sevens of bits are told by 'vt', the number that bytes begin by 'rv'; nothing of the program is read here. -/
namespace Go.Proofs.YtbkimmbfepjodaaDoorT.W
/-- The number of bytes by sevens: each with its high bit left off. -/
def val : List UInt8 → Nat
  | [] => 0
  | b :: l => b.toNat % 128 + 128 * val l

/-- What stands behind some bytes: the number that they begin, its weight, whether none has come yet, the bytes that are left, their place. -/
def rv : Nat → Nat → Bool → List UInt8 → Nat → Option (Nat × Nat)
  | _, _, _, [], _ => none
  | n, w, first, b :: l, p =>
    if 1000000000 < w then none
    else if 127 < b.toNat then rv (n + (b.toNat - 128) * w) (w * 128) false l (p + 1)
    else if b.toNat = 0 ∧ first = false then none
    else if 1000000000 < n + b.toNat * w then none
    else some (n + b.toNat * w, p + 1)

end Go.Proofs.YtbkimmbfepjodaaDoorT.W
/- The walks of l01Var and l01In. -/
namespace Go.Proofs.YtbkimmbfepjodaaDoorT
set_option maxRecDepth 100000
open Go.RowKit

theorem l01In_any (x a b : Int) (w : World) :
    Calls Tw.prog 24 #[.int .i64 x, .int .i64 a, .int .i64 b] w fun e w' => e = .returned (.bool (decide (a ≤ x) && decide (x ≤ b))) ∧ w' = w := by
  by_cases h : a ≤ x
  · by_cases h' : x ≤ b
    · go_enter Tw.func24, Tw.ntmps24
      go_wp2
      go_ret
      exact ⟨by simp [h, h'], rfl⟩
    · go_enter Tw.func24, Tw.ntmps24
      go_wp2
      go_ret
      exact ⟨by simp [h'], rfl⟩
  · go_enter Tw.func24, Tw.ntmps24
    go_wp2
    go_ret
    exact ⟨by simp; omega, rfl⟩
end Go.Proofs.YtbkimmbfepjodaaDoorT
/- The walk of the model's MatrixOk. -/
namespace Go.Proofs.YtbkimmbfepjodaaDoorT
set_option maxRecDepth 100000
open Go.RowKit
attribute [local go_sem ↓] Go.wp_at_zero Go.wp_at_succ

theorem lIn_is (x a b : Int) (w : World) (r : Bool) (h : (decide (a ≤ x) && decide (x ≤ b)) = r) : Calls Tw.prog 24 #[.int .i64 x, .int .i64 a, .int .i64 b] w fun e w' => e = .returned (.bool r) ∧ w' = w := by
  rw [← h]; exact l01In_any x a b w
/-- A row of a matrix that is right. -/
def numOk (y : Int) : Bool := decide (0 ≤ y) && decide (y ≤ 255)
def rowOk (c : Nat) (x : List Int) : Bool := decide (x.length = c) && (decide (1 ≤ (x.length : Int)) && decide ((x.length : Int) ≤ 8)) && x.all numOk
/-- A matrix that is right. -/
def matOk (X : List (List Int)) : Bool := X.all (rowOk (X.headD []).length) && (decide (1 ≤ (X.length : Int)) && decide ((X.length : Int) ≤ 8))
theorem matOk_no {X : List (List Int)} {x : List Int} (hx : x ∈ X) (h : rowOk (X.headD []).length x = false) : matOk X = false := by
  unfold matOk
  have : X.all (rowOk (X.headD []).length) = false := by rw [List.all_eq_false]; exact ⟨x, hx, by rw [h]; simp⟩
  rw [this]; rfl
theorem matOk_end {X : List (List Int)} (h : ∀ x ∈ X, rowOk (X.headD []).length x = true) : matOk X = (decide (1 ≤ (X.length : Int)) && decide ((X.length : Int) ≤ 8)) := by
  unfold matOk
  rw [List.all_eq_true.2 h, Bool.true_and]
theorem rowOk_num {c : Nat} {x : List Int} {k : Nat} (hk : k < x.length) (h : numOk (x.getD k 0) = false) : rowOk c x = false := by
  unfold rowOk
  have e : x.getD k 0 = x[k] := by simp [List.getD, hk]
  rw [e] at h
  have : x.all numOk = false := by rw [List.all_eq_false]; exact ⟨x[k], List.getElem_mem hk, by rw [h]; simp⟩
  rw [this, Bool.and_false]
theorem rowOk_yes {c : Nat} {x : List Int} (h1 : x.length = c) (h2 : (decide (1 ≤ (x.length : Int)) && decide ((x.length : Int) ≤ 8)) = true) (h3 : ∀ k, k < x.length → numOk (x.getD k 0) = true) : rowOk c x = true := by
  unfold rowOk
  rw [decide_eq_true h1, h2, Bool.true_and, Bool.true_and, List.all_eq_true]
  intro y hy
  obtain ⟨k, hk, rfl⟩ := List.mem_iff_getElem.1 hy
  have := h3 k hk
  simpa [List.getD, hk] using this
set_option maxRecDepth 100000 in
set_option maxHeartbeats 2000000 in
theorem specMatrixOk {w : World} {v : Value} {X : List (List Int)} {lo hi : Nat} (hs : MSee w v X lo hi) (hf : MFit X) :
    Calls Tw.prog 44 #[v] w fun e w' => e = .returned (.bool (matOk X)) ∧ Below w.heap.size w w' := by
  obtain ⟨a, cap, ss, rfl, hr, hm⟩ := hs
  obtain ⟨hl, hrl, _, _⟩ := rows_fit hr hf
  have HM : Hid (MR w a ss lo hi) := hm
  have HX : Hid (rws ss = X ∧ ∀ s ∈ ss, s.row.length ≤ 1048576) := ⟨hr, hrl⟩
  obtain ⟨n, hn⟩ : ∃ n, n = ss.length := ⟨_, rfl⟩
  have HN : Hid (n = ss.length ∧ X.length = n) := ⟨hn, by rw [← hr, rws_len, hn]⟩
  rw [← hn]
  rw [← hn] at hl
  clear hm hr hrl hf hn
  obtain ⟨c, hc⟩ : ∃ c, c = (X.headD []).length := ⟨_, rfl⟩
  have HC : Hid (c = (X.headD []).length) := hc
  clear hc
  go_enter Tw.func44, Tw.ntmps44
  go_wp2_with fail
  go_loopw [3] (fun i wr => ∃ (k : Nat), i = .int .i64 k ∧ k ≤ n ∧ (∀ j (h : j < ss.length), j < k → rowOk c ss[j].row = true) ∧ Below w.heap.size w wr) (fun i _ => n - (intOf i).toNat)
  case atStart => exact ⟨0, rfl, by omega, fun j _ h => by omega, Below.refl _ _⟩
  case round =>
    obtain ⟨k, rfl, hk, hok, hbl⟩ := hrel
    obtain ⟨wo, rfl⟩ : ∃ wo, wo = wr := ⟨_, rfl⟩
    have HOK : Hid (∀ j (h : j < ss.length), j < k → rowOk c ss[j].row = true) := hok
    clear hok
    by_cases hlt : k < n
    · have hls : k < ss.length := by have := HN.out.1; omega
      have h0s : 0 < ss.length := by omega
      have HM' := HM.out.below hbl
      obtain ⟨b, off, rfl, lb, hcell⟩ := HM'.at h0s
      have d1 := hcell k hls
      have d0 : wo.cell? ⟨b, off, none⟩ = some (srv ss[0]) := hcell 0 h0s
      have hhead : (ss[0].row).length = c := by
        rw [HC.out, ← HX.out.1]
        have : (rws ss).headD [] = ss[0].row := by cases ss with | nil => simp at h0s | cons s t => rfl
        rw [this]
      have hrr := (HM'.2 ss[k] (List.getElem_mem hls)).crow
      have hmem : ss[k].row ∈ X := by rw [← HX.out.1]; exact List.mem_map.2 ⟨ss[k], List.getElem_mem hls, rfl⟩
      have hle := HX.out.2 ss[k] (List.getElem_mem hls)
      have HSK : Hid (∀ x : List Int, ss[k].row = x → rowOk c x = true → ∀ j (h : j < ss.length), j < k + 1 → rowOk c ss[j].row = true) := fun x hx hxo j hj hjk => by
        by_cases e : j = k
        · subst e; rw [hx]; exact hxo
        · exact HOK.out j hj (by omega)
      unfold srv at d0 d1
      rw [hhead] at d0
      generalize ss[0].loc = loc0 at d0
      generalize ss[0].cap = cp0 at d0
      obtain ⟨row, hrow⟩ : ∃ row, row = ss[k].row := ⟨_, rfl⟩
      have HROW : Hid (ss[k].row = row ∧ row ∈ X) := ⟨hrow.symm, by rw [hrow]; exact hmem⟩
      rw [← hrow] at d1 hrr hle
      generalize ss[k].loc = loc at *
      generalize ss[k].cap = cp at *
      have k0 : (0 : Int) ≤ (k : Int) := by omega
      have k1 : (k : Int) < (n : Int) := by omega
      have n0 : (0 : Int) < (n : Int) := by omega
      have HB : Hid (Below w.heap.size w wo) := hbl
      have HRR : Hid (CRow wo loc (ics row)) := hrr
      clear hrow hcell hhead hmem hrr HM' hbl
      by_cases hlen : row.length = c
      · subst hlen
        have e1 : ((row.length : Int) != (row.length : Int)) = false := by simp
        obtain ⟨r, hrb⟩ : ∃ r, (decide ((1 : Int) ≤ (row.length : Int)) && decide ((row.length : Int) ≤ 8)) = r := ⟨_, rfl⟩
        cases r
        · have HNO : Hid (matOk X = false) := matOk_no HROW.out.2 (by rw [← HC.out]; unfold rowOk; rw [hrb]; simp)
          go_wp2_with fail
          go_quiet ((go_at_call 24; exact Calls.quiet_of_same (lIn_is _ _ _ _ false hrb)))
          go_wp2_with fail
          go_ret
          exact ⟨by rw [HNO.out]; rfl, HB.out.trans ⟨rfl, rfl, rfl, Nat.le_refl _, fun _ _ => rfl⟩⟩
        · have HRB : Hid _ := hrb
          go_wp2_with fail
          go_quiet ((go_at_call 24; exact Calls.quiet_of_same (lIn_is _ _ _ _ true hrb)))
          go_wp2_with fail
          go_loopw [4] (fun i wq => ∃ (t : Nat), i = .int .i64 t ∧ t ≤ row.length ∧ (∀ u, u < t → numOk (row.getD u 0) = true) ∧ Below wo.heap.size wo wq) (fun i _ => row.length - (intOf i).toNat)
          case atStart => exact ⟨0, rfl, by omega, fun u h => by omega, ⟨rfl, rfl, rfl, Nat.le_refl _, fun _ _ => rfl⟩⟩
          case round =>
            obtain ⟨t, rfl, ht, hnum, hbq⟩ := hrel
            have HNUM : Hid (∀ u, u < t → numOk (row.getD u 0) = true) := hnum
            clear hnum
            have dq : wr.cell? ⟨b, off + k, none⟩ = some (.slice loc row.length cp) := (hbq.cell (p := ⟨b, off + k, none⟩) lb).trans d1
            have hqs := hbq.size
            have lbq : b < wr.heap.size := by omega
            by_cases htl : t < row.length
            · obtain ⟨b3, o3, rfl, l3, hc3⟩ := crow_int (HRR.out.stays hbq) (by omega)
              have d3 := hc3 t htl
              obtain ⟨y, hy⟩ : ∃ y, y = row.getD t 0 := ⟨_, rfl⟩
              have HY : Hid (y = row.getD t 0) := hy
              rw [← hy] at d3
              have t0 : (0 : Int) ≤ (t : Int) := by omega
              have t1 : (t : Int) < (row.length : Int) := by omega
              have HBQ : Hid (Below wo.heap.size wo wr) := hbq
              obtain ⟨q, hq⟩ : ∃ q, (decide ((0 : Int) ≤ y) && decide (y ≤ 255)) = q := ⟨_, rfl⟩
              clear hc3 hy hbq
              cases q
              · have HNO : Hid (matOk X = false) := matOk_no HROW.out.2 (by rw [← HC.out]; exact rowOk_num htl (by rw [← HY.out]; exact hq))
                go_wp2_with fail
                refine (lIn_is _ _ _ _ false hq).mono ?_
                rintro e w5 ⟨rfl, rfl⟩
                go_wp2_with fail
                go_ret
                exact ⟨by rw [HNO.out]; rfl, HB.out.trans (HBQ.out.mono HB.out.size)⟩
              · have HQ : Hid (numOk (row.getD t 0) = true) := by rw [← HY.out]; exact hq
                go_wp2_with fail
                refine (lIn_is _ _ _ _ true hq).mono ?_
                rintro e w5 ⟨rfl, rfl⟩
                go_wp2_with fail
                go_roundw
                case rel => exact ⟨t + 1, by go_num, by omega, fun u hu => by
                  by_cases e : u = t
                  · subst e; exact HQ.out
                  · exact HNUM.out u (by omega), HBQ.out⟩
                case measure => simp [intOf]; omega
            · have e : t = row.length := by omega
              have HALL : Hid (rowOk row.length row = true) := rowOk_yes rfl HRB.out (fun u hu => HNUM.out u (by omega))
              have HBQ : Hid (Below wo.heap.size wo wr) := hbq
              clear hbq e
              go_wp2_with fail
              go_roundw
              case rel => exact ⟨k + 1, by go_num, by omega, HSK.out row HROW.out.1 HALL.out, HB.out.trans (HBQ.out.mono HB.out.size)⟩
              case measure => simp [intOf]; omega
      · have e1 : ((row.length : Int) != (c : Int)) = true := by rw [bne_iff_ne]; omega
        have HNO : Hid (matOk X = false) := matOk_no HROW.out.2 (by rw [← HC.out]; unfold rowOk; rw [decide_eq_false hlen]; rfl)
        go_wp2_with fail
        go_quiet (fail)
        go_wp2_with fail
        go_ret
        exact ⟨by rw [HNO.out]; rfl, HB.out.trans ⟨rfl, rfl, rfl, Nat.le_refl _, fun _ _ => rfl⟩⟩
    · have e : k = n := by omega
      have HEND : Hid (matOk X = (decide ((1 : Int) ≤ (n : Int)) && decide ((n : Int) ≤ 8))) := by
        have h1 : ∀ x ∈ X, rowOk (X.headD []).length x = true := fun x hx => by
          rw [← HX.out.1] at hx
          obtain ⟨s, hs, rfl⟩ := List.mem_map.1 hx
          obtain ⟨j, hj, rfl⟩ := List.mem_iff_getElem.1 hs
          rw [← HC.out]
          exact HOK.out j hj (by have := HN.out.1; omega)
        have := matOk_end h1
        rw [HN.out.2] at this
        exact this
      have HB : Hid (Below w.heap.size w wo) := hbl
      clear hbl
      subst e
      obtain ⟨q, hq⟩ : ∃ q, (decide ((1 : Int) ≤ (k : Int)) && decide ((k : Int) ≤ 8)) = q := ⟨_, rfl⟩
      have HQ : Hid (matOk X = q) := by rw [← hq]; exact HEND.out
      go_wp2_with fail
      refine (lIn_is _ _ _ _ q hq).mono ?_
      rintro e w5 ⟨rfl, rfl⟩
      go_wp2_with fail
      go_ret
      exact ⟨by rw [HQ.out]; rfl, HB.out⟩
end Go.Proofs.YtbkimmbfepjodaaDoorT
/- The walk of the model's OneM. -/
namespace Go.Proofs.YtbkimmbfepjodaaDoorT
set_option maxRecDepth 100000
open Go.RowKit
attribute [local go_sem ↓] Go.wp_at_zero Go.wp_at_succ

/-- OneM, as it is answered. -/
def oneRow (n i : Nat) : List Int := (List.range n).map fun j => if i = j then 1 else 0
def oneX (n : Int) : List (List Int) := if 1 ≤ n ∧ n ≤ 8 then (List.range n.toNat).map (oneRow n.toNat) else []
theorem oneRow_len (n i : Nat) : (oneRow n i).length = n := by simp [oneRow]
theorem oneRow_set {n i : Nat} (_ : i < n) : (List.replicate n (0 : Int)).set i 1 = oneRow n i := by
  apply List.ext_getElem
  · simp [oneRow]
  · intro j h1 h2
    simp only [oneRow, List.getElem_map, List.getElem_range, List.getElem_set]
    by_cases e : i = j
    · rw [if_pos e, if_pos e]
    · rw [if_neg e, if_neg e]; simp
set_option maxRecDepth 100000 in
set_option maxHeartbeats 2000000 in
theorem specOneM (x : Int) (w : World) : Calls Tw.prog 42 #[.int .i64 x] w fun e w' => MPost (oneX x) w e w' := by
  by_cases hx : 1 ≤ x ∧ x ≤ 8
  · obtain ⟨n, rfl⟩ := Int.eq_ofNat_of_zero_le (show 0 ≤ x by omega)
    have e0 : oneX (n : Int) = (List.range n).map (oneRow n) := by unfold oneX; rw [if_pos hx]; rfl
    rw [e0]
    have hn1 : 1 ≤ n := by omega
    have hn8 : n ≤ 8 := by omega
    have hin : (decide ((1 : Int) ≤ (n : Int)) && decide ((n : Int) ≤ 8)) = true := by simp; omega
    obtain ⟨i0, hi0, hz0, hz1, hz2⟩ := info_parts infoRow
    obtain ⟨i1, hi1, hy0, hy1, hy2⟩ := info_parts infoIntG
    clear hx e0
    go_enter Tw.func42, Tw.ntmps42
    go_wp2_with fail
    go_loopw [3, 4] (fun v i wr => ∃ (ts : List SR) (vv : Value), vv = v ∧ i = .int .i64 (ts.length : Nat) ∧ ts.length ≤ n ∧ Shut (rws ts = (List.range ts.length).map (oneRow n)) ∧ Shut (BI w wr vv ts)) (fun _ i _ => n - (intOf i).toNat)
    case atStart => exact ⟨[], _, rfl, rfl, by simp, ⟨rfl⟩, ⟨BI.start w (World.ownsRow_made w #[] 0 (Nat.le_refl _) (by decide) rfl) ((Below.refl _ _).alloc (Nat.le_refl _) _)⟩⟩
    case round =>
      obtain ⟨ts, v, rfl, rfl, hk, hr, hbi⟩ := hrel
      by_cases hlt : ts.length < n
      · have hlt' : (ts.length : Int) < (n : Int) := by omega
        have k0 : (0 : Int) ≤ (ts.length : Int) := by omega
        have hsz := hbi.out.bel.size
        go_wp2_with fail
        refine (lIn_is _ _ _ _ true hin).mono ?_
        rintro e w1 ⟨rfl, rfl⟩
        go_wp2_with (at_make; refine wpList_make_full _ rfl _ _ 52 rfl w1.heap.size 3 i1 _ 1 Tw.underlying52 hi1 hy0 hy1 .i64 .i64 _ _ n rfl rfl (by omega) (by omega) ?b2 ?b3 ?b4 ?_)
        case b2 => rw [hy2]; omega
        case b3 => unfold maxLen; omega
        case b4 => omega
        intro wm hownm hgrm
        have hbm : Below w1.heap.size w1 wm := (Below.refl _ _).grown hgrm (Nat.le_refl _) (fun j hj => by simp at hj)
        have hrow : WCells wm w1.heap.size (ics (List.replicate n 0)) := by
          have h := own_wcells hownm
          have e : (madeCells #[Value.int .i64 0] (n * 1)).toList = ics (List.replicate n 0) := by rw [toList_madeCells_one]; simp [ics]
          rw [Nat.mul_one] at e
          first | (rw [e] at h; exact h) | (rw [Nat.mul_one, e] at h; exact h)
        obtain ⟨c0, z0⟩ := hrow.2 ts.length _ (ics_get _ ts.length (by simp; exact hlt))
        have hset := hrow.set ts.length (.int .i64 1) (by rw [ics_len]; simp; exact hlt)
        rw [ics_set, oneRow_set hlt] at hset
        have hbi1 := hbi.out.below hbm
        have hot : BI w (wm.setCell ⟨w1.heap.size, ts.length, none⟩ (.int .i64 1)) v ts := hbi1.other (gb_set' _ _ _ _) (Nat.le_refl w1.heap.size) (fun q hq => (hbi.out.own.lt q hq).2) (fun s hs b e => by obtain ⟨b', e', _, q, _⟩ := hbi.out.rows s hs; have : b' = b := congrArg Addr.block (Option.some.inj (e'.symm.trans e)); have := q.1; omega) hsz hbi1.bel.size
        have HROW : Shut (WCells (wm.setCell ⟨w1.heap.size, ts.length, none⟩ (.int .i64 1)) w1.heap.size (ics (oneRow n ts.length))) := ⟨hset⟩
        have HBI : Shut (BI w (wm.setCell ⟨w1.heap.size, ts.length, none⟩ (.int .i64 1)) v ts) := ⟨hot⟩
        have HNEW : Shut ((∀ q, v.ownBlock = some q → q ≠ w1.heap.size) ∧ ∀ s ∈ ts, s.loc ≠ some ⟨w1.heap.size, 0, none⟩) := ⟨fun q hq => by have := (hbi.out.own.lt q hq).2; omega, fun s hs e => by obtain ⟨b', e', _, q, _⟩ := hbi.out.rows s hs; have : b' = w1.heap.size := congrArg Addr.block (Option.some.inj (e'.symm.trans e)); have := q.1; omega⟩
        clear hset hot hrow hownm hgrm hbi hbi1
        go_upto_region 7 with fail
        obtain ⟨W2, hW2⟩ : ∃ W2, W2 = wm.setCell ⟨w1.heap.size, ts.length, none⟩ (.int .i64 1) := ⟨_, rfl⟩
        rw [← hW2]
        rw [← hW2] at HROW HBI
        have hs2 : w.heap.size ≤ W2.heap.size := HBI.out.bel.size
        have hown := HBI.out.own
        clear hW2 c0 z0 hbm
        go_wp2_with (at_builtin; refine wpList_append_own _ rfl _ _ 50 rfl w.heap.size 52 i0 (.slice none 0 0) 1 24 Tw.underlying50 hi0 hz0 hz1 hz2 rfl (by decide) _ _ _ rfl (hown.alloc _) ⟨W2.heap.size, 0, none⟩ 1 1 [.slice (some ⟨w1.heap.size, 0, none⟩) n n] rfl rfl (cell_one_new _ _ _) ?c2 ?c3 ?c4 ?c5 ?_)
        case c2 => first | rfl | (intro u hu; simp at hu; subst hu; rfl)
        case c3 => unfold maxLen; omega
        case c4 => omega
        case c5 => first | omega | (simp; omega)
        · intro v' w6 hown' hgrow _
          have hne : oneRow n ts.length ≠ [] := fun e => by have := congrArg List.length e; rw [oneRow_len] at this; simp at this; omega
          have hap := HBI.out.append (cap := n) hsz HROW.out hne (by rw [oneRow_len]; exact Nat.le_refl _) HNEW.out.1 HNEW.out.2 (by rw [oneRow_len]; exact hown') hgrow
          have HAP : Shut (BI w w6 v' (ts ++ [SR.mk (some ⟨w1.heap.size, 0, none⟩) (oneRow n ts.length) n])) := ⟨hap⟩
          have HR : Shut (rws (ts ++ [SR.mk (some ⟨w1.heap.size, 0, none⟩) (oneRow n ts.length) n]) = (List.range (ts.length + 1)).map (oneRow n)) := ⟨by rw [rws_snoc, hr.out, List.range_succ, List.map_append]; rfl⟩
          clear hap hown' hgrow hown HBI HROW HNEW hr
          go_wp2_with fail
          go_roundw
          case rel => exact ⟨_, v', rfl, by rw [List.length_append, List.length_singleton]; go_num, by rw [List.length_append, List.length_singleton]; omega, ⟨by rw [List.length_append, List.length_singleton]; exact HR.out⟩, HAP⟩
          case measure => simp [intOf]; omega
      · have e : ts.length = n := by omega
        have hlt' : ¬ (ts.length : Int) < (n : Int) := by omega
        have hX : rws ts = (List.range n).map (oneRow n) := by rw [hr.out, e]
        have hfin := hbi.out.fin hX
        have HF : Shut (MAns wr v ((List.range n).map (oneRow n)) w.heap.size wr.heap.size) := ⟨hfin⟩
        have HB : Hid (Below w.heap.size w wr) := hbi.out.bel
        clear hX hfin hbi hr e
        go_wp2_with fail
        go_ret
        exact ⟨v, rfl, HF.out, HB.out⟩
  · have e0 : oneX x = [] := by unfold oneX; rw [if_neg hx]
    have hin : (decide ((1 : Int) ≤ x) && decide (x ≤ 8)) = false := by simp only [Bool.and_eq_false_iff, decide_eq_false_iff_not]; omega
    rw [e0]
    clear e0 hx
    go_enter Tw.func42, Tw.ntmps42
    go_wp2_with fail
    go_loopw [3, 4] (fun v i wr => v = .slice (some ⟨w.heap.size, 0, none⟩) 0 0 ∧ i = .int .i64 0 ∧ Below w.heap.size w wr) (fun _ _ _ => 0)
    case atStart => exact ⟨rfl, rfl, (Below.refl _ _).alloc (Nat.le_refl _) _⟩
    case round =>
      obtain ⟨rfl, rfl, hb⟩ := hrel
      have HB : Hid (Below w.heap.size w wr) := hb
      clear hb
      by_cases h0 : 0 < x
      · go_wp2_with fail
        refine (lIn_is _ _ _ _ false hin).mono ?_
        rintro e w1 ⟨rfl, rfl⟩
        go_wp2_with fail
        go_ret
        exact ⟨_, rfl, MAns.empty _ _ _ _ _, HB.out⟩
      · go_wp2_with fail
        go_ret
        exact ⟨_, rfl, MAns.empty _ _ _ _ _, HB.out⟩
end Go.Proofs.YtbkimmbfepjodaaDoorT
/- Plain facts on the field of bytes: products of polynomials over bits, modulo the one of the number 285; nothing of the program is read here. -/
namespace Go.Proofs.YtbkimmbfepjodaaDoorT.W
abbrev B8 := BitVec 8

/-- Twice a number. -/
def xt (a : B8) : B8 := if a.msb then (a <<< 1) ^^^ 29#8 else a <<< 1
def gb (b : B8) (i : Nat) (x : B8) : B8 := if b.getLsbD i then x else 0#8
def gm (a b : B8) : B8 :=
  gb b 0 a ^^^ (gb b 1 (xt a) ^^^ (gb b 2 (xt (xt a)) ^^^ (gb b 3 (xt (xt (xt a))) ^^^ (gb b 4 (xt (xt (xt (xt a)))) ^^^ (gb b 5 (xt (xt (xt (xt (xt a))))) ^^^ (gb b 6 (xt (xt (xt (xt (xt (xt a)))))) ^^^ gb b 7 (xt (xt (xt (xt (xt (xt (xt a)))))))))))))
theorem xor_swap (a b c d : B8) : (a ^^^ b) ^^^ (c ^^^ d) = (a ^^^ c) ^^^ (b ^^^ d) := by
  rw [BitVec.xor_assoc, BitVec.xor_assoc, ← BitVec.xor_assoc b c d, BitVec.xor_comm b c, BitVec.xor_assoc c b d]
theorem xor_two (a b : B8) {A B C : B8} (h : A ^^^ B = C) : (a ^^^ A) ^^^ (b ^^^ B) = (a ^^^ b) ^^^ C := by rw [xor_swap, h]
theorem xt_add (a b : B8) : xt (a ^^^ b) = xt a ^^^ xt b := by
  unfold xt
  rw [BitVec.msb_xor, BitVec.shiftLeft_xor_distrib]
  cases a.msb <;> cases b.msb <;> simp
  · rw [BitVec.xor_assoc]
  · rw [BitVec.xor_assoc, BitVec.xor_assoc, BitVec.xor_comm (b <<< 1)]
  · rw [xor_swap, BitVec.xor_self, BitVec.xor_zero]
theorem gb_add (b : B8) (i : Nat) (x y : B8) : gb b i (x ^^^ y) = gb b i x ^^^ gb b i y := by
  unfold gb; cases b.getLsbD i <;> simp
theorem gb_bits (b c : B8) (i : Nat) (x : B8) : gb (b ^^^ c) i x = gb b i x ^^^ gb c i x := by
  unfold gb
  rw [BitVec.getLsbD_xor]
  cases b.getLsbD i <;> cases c.getLsbD i <;> simp
theorem gm_left (a b c : B8) : gm (a ^^^ b) c = gm a c ^^^ gm b c := by
  unfold gm
  simp only [xt_add, gb_add]
  exact (xor_two _ _ (xor_two _ _ (xor_two _ _ (xor_two _ _ (xor_two _ _ (xor_two _ _ (xor_two _ _ rfl))))))).symm
theorem gm_right (a b c : B8) : gm a (b ^^^ c) = gm a b ^^^ gm a c := by
  unfold gm
  simp only [gb_bits]
  exact (xor_two _ _ (xor_two _ _ (xor_two _ _ (xor_two _ _ (xor_two _ _ (xor_two _ _ (xor_two _ _ rfl))))))).symm
theorem xt_zero : xt 0#8 = 0#8 := by decide
theorem gb_zero (b : B8) (i : Nat) : gb b i 0#8 = 0#8 := by unfold gb; simp
theorem gm_zero (a : B8) : gm a 0#8 = 0#8 := by unfold gm gb; simp
theorem zero_gm (a : B8) : gm 0#8 a = 0#8 := by unfold gm; simp only [xt_zero, gb_zero]; simp
/-- One round of the product: the lowest bit, and the rest of them with twice the number. -/
theorem gm_step (a b : B8) : gm a b = gb b 0 a ^^^ gm (xt a) (b >>> 1) := by
  have e : ∀ (i : Nat) (x : B8), gb (b >>> 1) i x = gb b (i + 1) x := fun i x => by unfold gb; rw [BitVec.getLsbD_ushiftRight, Nat.add_comm]
  have h8 : ∀ x : B8, gb b 8 x = 0#8 := fun x => by unfold gb; rw [BitVec.getLsbD_of_ge b 8 (by decide)]; rfl
  unfold gm
  simp only [e]
  rw [show 7 + 1 = 8 from rfl, h8]
  simp
/-- The bits of a number. -/
theorem bits_of : ∀ x : B8, x = gb x 0 1#8 ^^^ (gb x 1 2#8 ^^^ (gb x 2 4#8 ^^^ (gb x 3 8#8 ^^^ (gb x 4 16#8 ^^^ (gb x 5 32#8 ^^^ (gb x 6 64#8 ^^^ gb x 7 128#8)))))) := by decide +kernel
def adds (f : B8 → B8) : Prop := ∀ x y, f (x ^^^ y) = f x ^^^ f y
theorem adds.zero {f : B8 → B8} (h : adds f) : f 0#8 = 0#8 := by
  have := h 0#8 0#8
  rw [BitVec.xor_self, BitVec.xor_self] at this
  exact this
theorem adds.bit {f : B8 → B8} (h : adds f) (x : B8) (i : Nat) (y : B8) : f (gb x i y) = gb x i (f y) := by
  unfold gb; cases x.getLsbD i
  · simp [h.zero]
  · simp
/-- What goes through sums is told by its answers at the eight bits. -/
theorem adds.ext {f g : B8 → B8} (hf : adds f) (hg : adds g) (h : ∀ e ∈ [1#8, 2#8, 4#8, 8#8, 16#8, 32#8, 64#8, 128#8], f e = g e) (x : B8) : f x = g x := by
  have key : ∀ {f : B8 → B8}, adds f → f x = gb x 0 (f 1#8) ^^^ (gb x 1 (f 2#8) ^^^ (gb x 2 (f 4#8) ^^^ (gb x 3 (f 8#8) ^^^ (gb x 4 (f 16#8) ^^^ (gb x 5 (f 32#8) ^^^ (gb x 6 (f 64#8) ^^^ gb x 7 (f 128#8))))))) := fun {f} hf => by
    conv => lhs; rw [bits_of x]
    rw [hf, hf, hf, hf, hf, hf, hf]
    simp only [hf.bit]
  rw [key hf, key hg]
  rw [h 1#8 (by simp), h 2#8 (by simp), h 4#8 (by simp), h 8#8 (by simp), h 16#8 (by simp), h 32#8 (by simp), h 64#8 (by simp), h 128#8 (by simp)]
def eightB : List B8 := [1#8, 2#8, 4#8, 8#8, 16#8, 32#8, 64#8, 128#8]
theorem gm_comm_bits : ∀ x ∈ eightB, ∀ y ∈ eightB, gm x y = gm y x := by decide +kernel
theorem gm_comm (a b : B8) : gm a b = gm b a := by
  refine adds.ext (f := fun x => gm x b) (g := fun x => gm b x) (fun x y => gm_left x y b) (fun x y => gm_right b x y) (fun e he => ?_) a
  exact adds.ext (f := fun y => gm e y) (g := fun y => gm y e) (fun x y => gm_right e x y) (fun x y => gm_left x y e) (fun d hd => gm_comm_bits e he d hd) b
theorem gm_assoc_bits : ∀ x ∈ eightB, ∀ y ∈ eightB, ∀ z ∈ eightB, gm (gm x y) z = gm x (gm y z) := by decide +kernel
theorem gm_assoc (a b c : B8) : gm (gm a b) c = gm a (gm b c) := by
  refine adds.ext (f := fun x => gm (gm x b) c) (g := fun x => gm x (gm b c)) (fun x y => by simp only [gm_left]) (fun x y => gm_left x y _) (fun e he => ?_) a
  refine adds.ext (f := fun y => gm (gm e y) c) (g := fun y => gm e (gm y c)) (fun x y => by simp only [gm_right, gm_left]) (fun x y => by simp only [gm_left, gm_right]) (fun d hd => ?_) b
  exact adds.ext (f := fun z => gm (gm e d) z) (g := fun z => gm e (gm d z)) (fun x y => gm_right _ x y) (fun x y => by simp only [gm_right]) (fun g hg => gm_assoc_bits e he d hd g hg) c
theorem gm_one (a : B8) : gm a 1#8 = a := by
  unfold gm gb; simp
theorem one_gm (a : B8) : gm 1#8 a = a := by rw [gm_comm, gm_one]
/-- Powers. -/
def gp (a : B8) : Nat → B8
  | 0 => 1#8
  | n + 1 => gm (gp a n) a
theorem gp_0 (a : B8) : gp a 0 = 1#8 := rfl
theorem gp_succ (a : B8) (n : Nat) : gp a (n + 1) = gm (gp a n) a := rfl
theorem gp_add (a : B8) (n : Nat) : ∀ m, gm (gp a n) (gp a m) = gp a (n + m)
  | 0 => gm_one _
  | m + 1 => by rw [gp, ← gm_assoc, gp_add a n m]; rfl
theorem gp_two (a : B8) (n : Nat) : gp a (n + n) = gm (gp a n) (gp a n) := (gp_add a n n).symm
theorem gp_one (a : B8) : gp a 1 = a := one_gm a
/-- The product of the powers by 1, 2, 4 .. 128. -/
def round (a : B8) : B8 :=
  let b := gm a a; let c := gm b b; let d := gm c c; let e := gm d d; let f := gm e e; let g := gm f f; let h := gm g g
  gm a (gm b (gm c (gm d (gm e (gm f (gm g h))))))
theorem gp_round (a : B8) : gp a 255 = round a := by
  have h2 : gp a 2 = gm a a := by rw [show 2 = 1 + 1 from rfl, gp_two, gp_one]
  have h4 : gp a 4 = gm (gp a 2) (gp a 2) := gp_two a 2
  have h8 : gp a 8 = gm (gp a 4) (gp a 4) := gp_two a 4
  have h16 : gp a 16 = gm (gp a 8) (gp a 8) := gp_two a 8
  have h32 : gp a 32 = gm (gp a 16) (gp a 16) := gp_two a 16
  have h64 : gp a 64 = gm (gp a 32) (gp a 32) := gp_two a 32
  have h128 : gp a 128 = gm (gp a 64) (gp a 64) := gp_two a 64
  have s7 : gm (gp a 64) (gp a 128) = gp a 192 := gp_add a 64 128
  have s6 : gm (gp a 32) (gp a 192) = gp a 224 := gp_add a 32 192
  have s5 : gm (gp a 16) (gp a 224) = gp a 240 := gp_add a 16 224
  have s4 : gm (gp a 8) (gp a 240) = gp a 248 := gp_add a 8 240
  have s3 : gm (gp a 4) (gp a 248) = gp a 252 := gp_add a 4 248
  have s2 : gm (gp a 2) (gp a 252) = gp a 254 := gp_add a 2 252
  have s1 : gm (gp a 1) (gp a 254) = gp a 255 := gp_add a 1 254
  rw [← s1, ← s2, ← s3, ← s4, ← s5, ← s6, ← s7, h128, h64, h32, h16, h8, h4, h2, gp_one]
  rfl
theorem round_all : ∀ a : B8, a ≠ 0#8 → round a = 1#8 := by decide +kernel
theorem gp_255 (a : B8) (h : a ≠ 0#8) : gp a 255 = 1#8 := by rw [gp_round, round_all a h]
/-- The number with which one is 1. -/
def gi (a : B8) : B8 := if a = 0#8 then 0#8 else gp a 254
theorem gi_zero : gi 0#8 = 0#8 := if_pos rfl
theorem gm_gi (a : B8) (h : a ≠ 0#8) : gm a (gi a) = 1#8 := by
  unfold gi
  rw [if_neg h, gm_comm, ← gp_255 a h]
  rfl
end Go.Proofs.YtbkimmbfepjodaaDoorT.W
