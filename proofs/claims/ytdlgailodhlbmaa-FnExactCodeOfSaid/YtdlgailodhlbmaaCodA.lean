/- Units and sums, plain: the schemas, their codes, what is encoded, decoded and built again. Nothing of the program is read here. -/
import Derived.Test.YtdlgailodhlbmaaMatK
import Derived.Test.YtdlgailodhlbmaaSchZ
namespace Go.Proofs.Ytdlgailodhlbmaa
open Go.RowKit
open W (B8 Mx)

/-- The row of a sum. -/
def codeRow (k i : Nat) : List Int := (List.range k).map fun j => ((W.gi (g8 (((k + i) ^^^ j : Nat) : Int))).toNat : Int)
def codeX (s : Int) : List (List Int) := if schOk s = true then (List.range (schK s)).map (oneRow (schK s)) ++ (List.range (schM s)).map (codeRow (schK s)) else []
theorem codeX_no {s : Int} (h : schOk s = false) : codeX s = [] := by unfold codeX; rw [if_neg (by rw [h]; decide)]
theorem codeX_yes {s : Int} (h : schOk s = true) : codeX s = (List.range (schK s)).map (oneRow (schK s)) ++ (List.range (schM s)).map (codeRow (schK s)) := by unfold codeX; rw [if_pos h]
theorem codeRow_len (k i : Nat) : (codeRow k i).length = k := by simp [codeRow]
theorem codeX_len {s : Int} (h : schOk s = true) : (codeX s).length = schK s + schM s := by rw [codeX_yes h]; simp
theorem codeX_rows {s : Int} (h : schOk s = true) : ∀ r ∈ codeX s, r.length = schK s ∧ ∀ y ∈ r, 0 ≤ y ∧ y ≤ 255 := fun r hr => by
  rw [codeX_yes h] at hr
  rcases List.mem_append.1 hr with q | q
  · obtain ⟨i, _, rfl⟩ := List.mem_map.1 q
    refine ⟨oneRow_len _ _, fun y hy => ?_⟩
    obtain ⟨j, _, rfl⟩ := List.mem_map.1 hy
    split <;> omega
  · obtain ⟨i, _, rfl⟩ := List.mem_map.1 q
    refine ⟨codeRow_len _ _, fun y hy => ?_⟩
    obtain ⟨j, _, rfl⟩ := List.mem_map.1 hy
    exact b8_num _
theorem codeX_at {s : Int} (h : schOk s = true) {i : Nat} (hi : i < schK s + schM s) : ((codeX s).getD i []).length = schK s ∧ (codeX s).getD i [] ∈ codeX s := by
  have hi' : i < (codeX s).length := by rw [codeX_len h]; exact hi
  have e : (codeX s).getD i [] = (codeX s)[i] := by simp [List.getD, hi']
  rw [e]
  exact ⟨(codeX_rows h _ (List.getElem_mem hi')).1, List.getElem_mem hi'⟩
/-- Rows of a code, a few of them, are a matrix that is right. -/
theorem rows_ok {s : Int} (h : schOk s = true) {X : List (List Int)} (hX : ∀ r ∈ X, r ∈ codeX s) (h1 : 1 ≤ X.length) (h8 : X.length ≤ 8) : matOk X = true ∧ colsOf X = schK s := by
  obtain ⟨b1, b2, _, _⟩ := sch_bounds h
  have hc : colsOf X = schK s := by
    cases X with
    | nil => simp at h1
    | cons x X => exact (codeX_rows h x (hX x (by simp))).1
  refine ⟨?_, hc⟩
  unfold matOk
  rw [show (X.headD []).length = colsOf X from rfl, hc, decide_eq_true (show (1 : Int) ≤ (X.length : Int) by omega), decide_eq_true (show (X.length : Int) ≤ 8 by omega), Bool.and_self, Bool.and_true, List.all_eq_true]
  intro x hx
  obtain ⟨q1, q2⟩ := codeX_rows h x (hX x hx)
  unfold rowOk numOk
  rw [decide_eq_true q1, q1, decide_eq_true (show (1 : Int) ≤ (schK s : Int) by omega), decide_eq_true (show (schK s : Int) ≤ 8 by omega), Bool.and_self, Bool.and_self, Bool.true_and, List.all_eq_true]
  intro y hy
  obtain ⟨y1, y2⟩ := q2 y hy
  rw [decide_eq_true y1, decide_eq_true y2]; rfl
theorem codeX_ok {s : Int} (h : schOk s = true) : matOk (codeX s) = true ∧ colsOf (codeX s) = schK s := by
  obtain ⟨b1, b2, b3, b4⟩ := sch_bounds h
  exact rows_ok h (fun _ h => h) (by rw [codeX_len h]; omega) (by rw [codeX_len h]; omega)
/-- The longest of some texts. -/
def mostL : List ByteArray → Nat
  | [] => 0
  | x :: L => max x.size (mostL L)
theorem mostL_le {L : List ByteArray} {x : ByteArray} (h : x ∈ L) : x.size ≤ mostL L := by
  induction L with
  | nil => simp at h
  | cons y L ih =>
    rcases List.mem_cons.1 h with rfl | h
    · simp only [mostL]; omega
    · have := ih h; simp only [mostL]; omega
theorem mostL_snoc (L : List ByteArray) (x : ByteArray) : mostL (L ++ [x]) = max (mostL L) x.size := by
  induction L with
  | nil => simp [mostL]
  | cons y L ih => simp only [List.cons_append, mostL, ih]; omega
theorem mostL_all {L : List ByteArray} {n : Nat} (h : ∀ x ∈ L, x.size ≤ n) : mostL L ≤ n := by
  induction L with
  | nil => simp [mostL]
  | cons y L ih => simp only [mostL]; have h1 := h y (by simp); have h2 := ih (fun x hx => h x (by simp [hx])); omega
def zerosB (n : Nat) : ByteArray := ⟨(List.replicate n (0 : UInt8)).toArray⟩
theorem zerosB_size (n : Nat) : (zerosB n).size = n := by simp [zerosB, ByteArray.size]
/-- Units, each filled to the length of the longest one. -/
def fillL (L : List ByteArray) : List ByteArray := L.map fun x => addB x (zerosB (mostL L))
theorem fillL_len (L : List ByteArray) : (fillL L).length = L.length := by simp [fillL]
def shortL (L : List ByteArray) : Bool := L.all fun x => decide (x.size ≤ 200)
/-- Encode, as it is answered. -/
def encX (s : Int) (L : List ByteArray) : List ByteArray × Bool := if schOk s = true ∧ L.length = schK s ∧ shortL L = true then (appX (codeX s) (fillL L), true) else ([], false)
theorem encX_no {s : Int} {L : List ByteArray} (h : ¬ (schOk s = true ∧ L.length = schK s ∧ shortL L = true)) : encX s L = ([], false) := if_neg h
theorem encX_yes {s : Int} {L : List ByteArray} (h : schOk s = true ∧ L.length = schK s ∧ shortL L = true) : encX s L = (appX (codeX s) (fillL L), true) := if_pos h
/-- The places that are there. -/
def thereI (H : List Bool) (n : Nat) : List Nat := (List.range n).filter fun i => H.getD i false
theorem thereI_succ (H : List Bool) (n : Nat) : thereI H (n + 1) = thereI H n ++ if H.getD n false = true then [n] else [] := by
  unfold thereI
  rw [List.range_succ, List.filter_append]
  congr 1
  by_cases h : H.getD n false = true
  · rw [if_pos h, List.filter_cons_of_pos (p := fun i => H.getD i false) h]; rfl
  · rw [if_neg h, List.filter_cons_of_neg (p := fun i => H.getD i false) h]; rfl
theorem thereI_mem {H : List Bool} {n i : Nat} : i ∈ thereI H n ↔ i < n ∧ H.getD i false = true := by
  unfold thereI; rw [List.mem_filter, List.mem_range]
/-- Texts that are there are of one length. -/
def OneLen (L : List ByteArray) (H : List Bool) (n : Nat) : Prop := ∀ i ∈ thereI H n, ∀ j ∈ thereI H n, (L.getD i ⟨#[]⟩).size = (L.getD j ⟨#[]⟩).size
def pickI (s : Int) (H : List Bool) (n : Nat) : List Nat := (thereI H n).take (schK s)
def rowsP (s : Int) (I : List Nat) : List (List Int) := I.map fun i => (codeX s).getD i []
def unitsP (L : List ByteArray) (I : List Nat) : List ByteArray := I.map fun i => L.getD i ⟨#[]⟩
def DecOk (s : Int) (L : List ByteArray) (H : List Bool) : Prop := schOk s = true ∧ L.length = schK s + schM s ∧ H.length = schK s + schM s ∧ OneLen L H H.length ∧ schK s ≤ (thereI H H.length).length
open Classical in
/-- Decode, as it is answered. -/
noncomputable def decX (s : Int) (L : List ByteArray) (H : List Bool) : List ByteArray × Bool :=
  if DecOk s L H ∧ (invX (rowsP s (pickI s H H.length))).2 = true then (appX (invX (rowsP s (pickI s H H.length))).1 (unitsP L (pickI s H H.length)), true) else ([], false)
theorem decX_no {s : Int} {L : List ByteArray} {H : List Bool} (h : ¬ (DecOk s L H ∧ (invX (rowsP s (pickI s H H.length))).2 = true)) : decX s L H = ([], false) := by unfold decX; rw [if_neg h]
theorem decX_yes {s : Int} {L : List ByteArray} {H : List Bool} (h : DecOk s L H) (h2 : (invX (rowsP s (pickI s H H.length))).2 = true) : decX s L H = (appX (invX (rowsP s (pickI s H H.length))).1 (unitsP L (pickI s H H.length)), true) := by unfold decX; rw [if_pos ⟨h, h2⟩]
/-- Rebuild, as it is answered. -/
noncomputable def rebX (s : Int) (L : List ByteArray) (H : List Bool) : List ByteArray × Bool := if (decX s L H).2 = true then encX s (decX s L H).1 else ([], false)
/-- What such an answer is. -/
def TPost (R : List ByteArray × Bool) (w : World) (e : Ending) (w' : World) : Prop := ∃ v, e = .returned (.tuple #[v, .bool R.2]) ∧ SAns w' v R.1 w.heap.size w'.heap.size ∧ Below w.heap.size w w'
theorem tpost_no {R : List ByteArray × Bool} {w w' : World} {e : Ending} {a : Option Addr} {cap : Nat} (h : R = ([], false)) (he : e = .returned (.tuple #[.slice a 0 cap, .bool false])) (hb : Below w.heap.size w w') : TPost R w e w' := by
  unfold TPost
  rw [h]
  exact ⟨_, he, SAns.empty _ _ _ _ _, hb⟩
end Go.Proofs.Ytdlgailodhlbmaa
