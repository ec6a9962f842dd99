/- The walk of the model's MulM. -/
import Derived.Test.YtdlgailodhlbmaaMatB
import Derived.Test.YtdlgailodhlbmaaFieldS
import Derived.Test.YtdlgailodhlbmaaMatM
namespace Go.Proofs.Ytdlgailodhlbmaa
open Go.RowKit
open W (B8 Mx)
attribute [local go_sem ↓] Go.wp_at_zero Go.wp_at_succ
attribute [local irreducible] W.gm W.xs

/-- Rows of numbers as a matrix over the field. -/
def mx (X : List (List Int)) : Mx := fun i j => g8 ((X.getD i []).getD j 0)
def colsOf (X : List (List Int)) : Nat := (X.headD []).length
/-- Rows of numbers, out of a matrix over the field. -/
def rowsX (n m : Nat) (A : Mx) : List (List Int) := (List.range n).map fun i => (List.range m).map fun j => ((A i j).toNat : Int)
/-- The product, as it is answered. -/
def mulX (X Y : List (List Int)) : List (List Int) := if matOk X = true ∧ matOk Y = true ∧ colsOf X = Y.length then rowsX X.length (colsOf Y) (W.mm Y.length (mx X) (mx Y)) else []
theorem matOk_iff {X : List (List Int)} (h : matOk X = true) : (1 ≤ X.length ∧ X.length ≤ 8) ∧ (1 ≤ colsOf X ∧ colsOf X ≤ 8) ∧ ∀ x ∈ X, x.length = colsOf X ∧ ∀ y ∈ x, 0 ≤ y ∧ y ≤ 255 := by
  unfold matOk at h
  simp only [Bool.and_eq_true, decide_eq_true_eq, List.all_eq_true] at h
  obtain ⟨h1, h2, h3⟩ := h
  have each : ∀ x ∈ X, x.length = colsOf X ∧ (1 ≤ x.length ∧ x.length ≤ 8) ∧ ∀ y ∈ x, 0 ≤ y ∧ y ≤ 255 := fun x hx => by
    have := h1 x hx
    unfold rowOk numOk at this
    simp only [Bool.and_eq_true, decide_eq_true_eq, List.all_eq_true] at this
    obtain ⟨⟨q1, q2, q3⟩, q4⟩ := this
    exact ⟨q1, ⟨by omega, by omega⟩, q4⟩
  refine ⟨⟨by omega, by omega⟩, ?_, fun x hx => ⟨(each x hx).1, (each x hx).2.2⟩⟩
  cases X with
  | nil => simp at h2
  | cons x X => have := each x (by simp); have e : colsOf (x :: X) = x.length := rfl; omega
/-- A row of a product that is under way: the first k numbers are there, of the next one a sum of j. -/
def partRow (m cols : Nat) (A B : Mx) (i k j : Nat) : List Int := (List.range cols).map fun c => if c < k then ((W.mm m A B i c).toNat : Int) else if c = k then ((W.xs j fun l => W.gm (A i l) (B l k)).toNat : Int) else 0
theorem partRow_len (m cols : Nat) (A B : Mx) (i k j : Nat) : (partRow m cols A B i k j).length = cols := by simp [partRow]
theorem partRow_start (m cols : Nat) (A B : Mx) (i : Nat) : List.replicate cols (0 : Int) = partRow m cols A B i 0 0 := by
  apply List.ext_getElem
  · simp [partRow]
  · intro c h1 h2
    simp only [partRow, List.getElem_map, List.getElem_range, List.getElem_replicate]
    rw [if_neg (by omega)]
    split
    · rw [W.xs_0]; rfl
    · rfl
theorem partRow_next (m cols : Nat) (A B : Mx) (i k : Nat) : partRow m cols A B i k m = partRow m cols A B i (k + 1) 0 := by
  unfold partRow
  apply List.map_congr_left
  intro c _
  by_cases h1 : c < k
  · rw [if_pos h1, if_pos (by omega)]
  · rw [if_neg h1]
    by_cases h2 : c = k
    · subst h2; rw [if_pos rfl, if_pos (by omega)]; rfl
    · rw [if_neg h2, if_neg (by omega)]
      split
      · rw [W.xs_0]; rfl
      · rfl
theorem partRow_end (m cols : Nat) (A B : Mx) (i : Nat) : partRow m cols A B i cols 0 = (List.range cols).map fun j => ((W.mm m A B i j).toNat : Int) := by
  unfold partRow
  apply List.map_congr_left
  intro c hc
  rw [if_pos (List.mem_range.1 hc)]
theorem partRow_get {m cols : Nat} {A B : Mx} {i k j : Nat} (h : k < cols) : (partRow m cols A B i k j).getD k 0 = ((W.xs j fun l => W.gm (A i l) (B l k)).toNat : Int) := by
  unfold partRow
  rw [List.getD_eq_getElem?_getD, List.getElem?_map, List.getElem?_range h]
  simp
theorem partRow_at {m cols : Nat} {A B : Mx} {i k j c : Nat} (h : c < (partRow m cols A B i k j).length) : (partRow m cols A B i k j)[c] = if c < k then ((W.mm m A B i c).toNat : Int) else if c = k then ((W.xs j fun l => W.gm (A i l) (B l k)).toNat : Int) else 0 := by
  simp only [partRow, List.getElem_map, List.getElem_range]
theorem partRow_set {m cols : Nat} {A B : Mx} {i k j : Nat} : (partRow m cols A B i k j).set k (((W.xs j fun l => W.gm (A i l) (B l k)) ^^^ W.gm (A i j) (B j k)).toNat : Int) = partRow m cols A B i k (j + 1) := by
  apply List.ext_getElem
  · simp [partRow]
  · intro c h1 h2
    rw [List.getElem_set, partRow_at, partRow_at]
    by_cases e : k = c
    · subst e
      rw [if_pos rfl, if_neg (by omega), if_pos rfl, W.xs_succ]
    · rw [if_neg e]
      by_cases e2 : c < k
      · rw [if_pos e2, if_pos e2]
      · rw [if_neg e2, if_neg e2, if_neg (Ne.symm e), if_neg (Ne.symm e)]
theorem mulX_no {X Y : List (List Int)} (h : ¬ (matOk X = true ∧ matOk Y = true ∧ colsOf X = Y.length)) : mulX X Y = [] := if_neg h
theorem BI.drew {w wr : World} {v : Value} {ts : List SR} (h : BI w wr v ts) : BI w wr.drew v ts := h.below (Below.drew (Below.refl _ _))
theorem WCells.drew {w : World} {g : Nat} {L : List Value} (h : WCells w g L) : WCells w.drew g L := h.below (Below.drew (Below.refl w.heap.size w)) h.1
/-- What the walk of a product wants of one of its rows. -/
structure RowAt2 (w : World) (cols : Nat) (A : Mx) (i b off : Nat) (loc : Option Addr) (cp : Nat) (row : List Int) : Prop where
  cell : w.cell? ⟨b, off + i, none⟩ = some (.slice loc cols cp)
  lt : b < w.heap.size
  len : row.length = cols
  crow : CRow w loc (ics row)
  num : ∀ j, j < cols → A i j = g8 (row.getD j 0)
theorem RowAt2.below {w w' : World} {cols : Nat} {A : Mx} {i b off : Nat} {loc : Option Addr} {cp : Nat} {row : List Int} (h : RowAt2 w cols A i b off loc cp row) (hb : Below w.heap.size w w') : RowAt2 w' cols A i b off loc cp row :=
  ⟨(hb.cell (p := ⟨b, off + i, none⟩) h.lt).trans h.cell, Nat.lt_of_lt_of_le h.lt hb.size, h.len, h.crow.stays hb, h.num⟩
/-- Its number in a column, where it lies. -/
theorem RowAt2.at {w : World} {cols : Nat} {A : Mx} {i b off : Nat} {loc : Option Addr} {cp : Nat} {row : List Int} (h : RowAt2 w cols A i b off loc cp row) {j : Nat} (hj : j < cols) : ∃ b' o' x, loc = some ⟨b', o', none⟩ ∧ b' < w.heap.size ∧ w.cell? ⟨b', o' + j, none⟩ = some (.int .i64 x) ∧ A i j = g8 x := by
  obtain ⟨b', o', e, hb, hc⟩ := crow_int h.crow (by rw [h.len]; omega)
  exact ⟨b', o', row.getD j 0, e, hb, hc j (by rw [h.len]; exact hj), h.num j hj⟩
/-- A matrix that lies in memory, row by row. -/
def Lies (w : World) (n cols : Nat) (A : Mx) (b off : Nat) : Prop := ∀ i, i < n → ∃ loc cp row, RowAt2 w cols A i b off loc cp row
theorem Lies.below {w w' : World} {n cols : Nat} {A : Mx} {b off : Nat} (h : Lies w n cols A b off) (hb : Below w.heap.size w w') : Lies w' n cols A b off := fun i hi => by
  obtain ⟨loc, cp, row, hr⟩ := h i hi
  exact ⟨loc, cp, row, hr.below hb⟩
theorem row_at {w : World} {a : Option Addr} {ss : List SR} {lo hi : Nat} {X : List (List Int)} (h : MR w a ss lo hi) (hX : rws ss = X) (hok : matOk X = true) :
    ∃ b off, a = some ⟨b, off, none⟩ ∧ Lies w X.length (colsOf X) (mx X) b off := by
  have hl : ss.length = X.length := by rw [← hX, rws_len]
  obtain ⟨h1, _, h3⟩ := matOk_iff hok
  obtain ⟨b, off, e, hb, hc⟩ := h.at (by omega)
  refine ⟨b, off, e, fun i hi => ?_⟩
  have his : i < ss.length := by omega
  have hmem : ss[i].row ∈ X := by rw [← hX]; exact List.mem_map.2 ⟨ss[i], List.getElem_mem his, rfl⟩
  have hlen := (h3 _ hmem).1
  have hget : X.getD i [] = ss[i].row := by rw [← hX, List.getD_eq_getElem?_getD]; simp [rws, his]
  refine ⟨ss[i].loc, ss[i].cap, ss[i].row, ⟨?_, hb, hlen, (h.2 _ (List.getElem_mem his)).crow, fun j _ => by unfold mx; rw [hget]⟩⟩
  have := hc i his
  unfold srv at this
  rw [hlen] at this
  exact this
end Go.Proofs.Ytdlgailodhlbmaa
