/- Texts of ours, laid one behind the other: TBytes, TRowsG, TIntsA, TSchZ, TWords, TVarL, TSpnA, TNestA, TSpnB. -/
import Derived.Test.YtfhcpehfmecpjaaPk14
import Derived.WalkKit
import Derived.WalkLawsBesides
import Derived.Handy
import Derived.Below
import Derived.Laws.IdiomStrings
import Derived.Laws.BytesArg
import Derived.Maps.AppendAt
import Derived.Laws.DeepStrings4
import Derived.OwnWalk
import Derived.Deep.DrawnRows
import Derived.Deep.RegionHeld3
import Derived.BigQuiet
import Derived.Deep.AppendLies
set_option linter.unusedVariables false
set_option linter.unusedSimpArgs false
/- Rows of bytes that a call owns, and the string that is made of one: facts for the walks of this seat. -/
namespace Go.Proofs.YtfhcpehfmecpjaaT
open Go.RowKit

/-- Bytes as the cells of a row. -/
def bv (l : List UInt8) : List Value := l.map fun b => .int .u8 (b.toNat : Int)
theorem bv_nil : bv [] = [] := rfl
theorem bv_snoc (l : List UInt8) (b : UInt8) : bv l ++ [.int .u8 (b.toNat : Int)] = bv (l ++ [b]) := by simp [bv]
theorem bv_len (l : List UInt8) : (bv l).length = l.length := by simp [bv]
theorem byte_of (n : Int) (h0 : 0 ≤ n) (h1 : n < 256) : Value.int .u8 n = .int .u8 ((UInt8.ofNat n.toNat).toNat : Int) := by
  have : (UInt8.ofNat n.toNat).toNat = n.toNat := by simp; omega
  rw [this]; congr 1; omega

theorem Tw.info5 : (Tw.prog.info? 5).map (fun i => (i.zero, i.size, i.bytes)) = some (some (.int .u8 0), 1, 1) := by kernel_rfl

/-- The string of a row of bytes that a call owns. -/
theorem own_string {w : World} {base : Nat} {v : Value} {l : List UInt8} (h : w.ownsRow base 5 1 v l.length (bv l)) :
    (convert 22 9 v).run Tw.prog w = .ok (.string ⟨l.toArray⟩) w := by
  have hc : ∀ g, v.ownBlock = some g → ∀ j u, (bv l)[j]? = some u → w.cell? ((⟨g, 0, none⟩ : Addr).add j) = some u := fun g hg => h.cells hg
  obtain ⟨h1, ⟨rfl, h0⟩ | ⟨g, cap, cur, rfl, _⟩⟩ := h
  · have : l = [] := List.eq_nil_of_length_eq_zero h0
    subst this
    exact run_convert_bytes_nil _ 22 5 Tw.underlying22 Tw.underlying5 0 0 _ Tw.underlying9
  · exact run_convert_bytes_back w 22 9 5 ⟨g, 0, none⟩ cap l Tw.underlying22 Tw.underlying5 Tw.underlying9 (fun j hj => hc g rfl j _ (by simp [bv, hj]))

/-- A part of a string. -/
theorem slice_str (s : ByteArray) (a b : Nat) (h1 : a ≤ b) (h2 : b ≤ s.size) (w : World) :
    (Instr.slice 9 (.string s) (some (.int .i64 (a : Int))) (some (.int .i64 (b : Int))) none).run Tw.prog w = .ok (.string (s.extract a b)) w := by
  rw [run_slice_string_if w 9 s .i64 .i64 a b Tw.underlying9, if_pos ⟨by omega, by omega⟩, if_pos ⟨by omega, by omega⟩]
  rfl
end Go.Proofs.YtfhcpehfmecpjaaT
/- Rows of cells in memory, for elements of any number of cells: what a row holds, and a row that may be written. Nothing of the program is read here. -/
namespace Go.Proofs.YtfhcpehfmecpjaaT
open Go.RowKit

theorem flat_len {α : Type} {enc : α → List Value} {sz : Nat} (hsz : ∀ x, (enc x).length = sz) (xs : List α) : (xs.flatMap enc).length = xs.length * sz := by
  induction xs with
  | nil => simp
  | cons x xs ih => simp only [List.flatMap_cons, List.length_append, List.length_cons, ih, hsz, Nat.add_mul]; omega
theorem flat_get {α : Type} {enc : α → List Value} {sz : Nat} (hsz : ∀ x, (enc x).length = sz) (xs : List α) (j : Nat) (h : j < xs.length) (i : Nat) (hi : i < sz) : (xs.flatMap enc)[j * sz + i]? = (enc xs[j])[i]? := by
  induction xs generalizing j with
  | nil => simp at h
  | cons x xs ih =>
    rw [List.flatMap_cons]
    cases j with
    | zero =>
      rw [List.getElem?_append_left (by rw [hsz]; omega)]
      simp
    | succ j =>
      rw [List.getElem?_append_right (by rw [hsz, Nat.add_mul]; omega), hsz]
      have := ih j (by simpa using h)
      rw [show (j + 1) * sz + i - sz = j * sz + i by rw [Nat.add_mul]; omega]
      simpa using this
theorem flat_set {α : Type} {enc : α → List Value} {sz : Nat} (hsz : ∀ x, (enc x).length = sz) (xs : List α) (j : Nat) (h : j < xs.length) (y : α) (n : Nat) (hn : n < xs.length * sz) :
    ((xs.set j y).flatMap enc)[n]? = if n / sz = j then (enc y)[n % sz]? else (xs.flatMap enc)[n]? := by
  have hp : 0 < sz := by
    cases sz with
    | zero => simp at hn
    | succ s => omega
  have hq : n / sz < xs.length := Nat.div_lt_of_lt_mul (by rwa [Nat.mul_comm] at hn)
  have hr := Nat.mod_lt n hp
  have e : n = n / sz * sz + n % sz := by rw [Nat.mul_comm]; exact (Nat.div_add_mod n sz).symm
  have l1 := flat_get hsz (xs.set j y) (n / sz) (by simpa using hq) (n % sz) hr
  have l2 := flat_get hsz xs (n / sz) hq (n % sz) hr
  rw [← e] at l1 l2
  rw [l1, l2]
  by_cases c : n / sz = j
  · subst c; simp
  · rw [if_neg c, List.getElem_set_ne (Ne.symm c)]

/-- A row of cells, from a place on. -/
def CRow (w : World) (a : Option Addr) (L : List Value) : Prop :=
  0 < L.length → ∃ b off, a = some ⟨b, off, none⟩ ∧ b < w.heap.size ∧ ∀ i v, L[i]? = some v → w.cell? ⟨b, off + i, none⟩ = some v
theorem CRow.stays {w w' : World} {a : Option Addr} {L : List Value} (h : CRow w a L) (hb : Below w.heap.size w w') : CRow w' a L := by
  intro hp
  obtain ⟨b, off, e, hlt, hc⟩ := h hp
  exact ⟨b, off, e, Nat.lt_of_lt_of_le hlt hb.size, fun i v hv => by rw [hb.cell (p := ⟨b, off + i, none⟩) hlt]; exact hc i v hv⟩
/-- A row of cells that may be written, in a block of its own. -/
def WCells (w : World) (g : Nat) (L : List Value) : Prop :=
  g < w.heap.size ∧ ∀ i v, L[i]? = some v → w.cell? ⟨g, i, none⟩ = some v ∧ w.frozen? ⟨g, i, none⟩ = false
theorem WCells.crow {w : World} {g : Nat} {L : List Value} (h : WCells w g L) : CRow w (some ⟨g, 0, none⟩) L := fun _ => ⟨g, 0, rfl, h.1, fun i v hv => by rw [Nat.zero_add]; exact (h.2 i v hv).1⟩
theorem WCells.below {w w' : World} {g B : Nat} {L : List Value} (h : WCells w g L) (hb : Below B w w') (hg : g < B) : WCells w' g L :=
  ⟨Nat.lt_of_lt_of_le h.1 hb.size, fun i v hv => ⟨(hb.cell (p := ⟨g, i, none⟩) hg).trans (h.2 i v hv).1, (hb.frozen (p := ⟨g, i, none⟩) hg).trans (h.2 i v hv).2⟩⟩
theorem WCells.set {w : World} {g : Nat} {L : List Value} (h : WCells w g L) (i : Nat) (x : Value) (hi : i < L.length) : WCells (w.setCell ⟨g, i, none⟩ x) g (L.set i x) := by
  refine ⟨by have := h.1; simpa [World.setCell] using this, fun j v hv => ?_⟩
  have hj : j < L.length := by
    have := (List.getElem?_eq_some_iff.1 hv).1
    simpa using this
  have hold := h.2 j L[j] (List.getElem?_eq_getElem hj)
  refine ⟨?_, (World.frozen?_setCell _ _ _ _).trans hold.2⟩
  by_cases e : j = i
  · subst e
    rw [World.cell?_setCell_same _ _ _ hold.1]
    rw [List.getElem?_set_self hi] at hv
    exact hv
  · rw [World.cell?_setCell_other _ _ _ _ (by first | (simp; done) | (simp; omega)), hold.1]
    rw [List.getElem?_set_ne (Ne.symm e), List.getElem?_eq_getElem hj] at hv
    exact hv
theorem own_wcells {w : World} {B g n cap t sz : Nat} {L : List Value} (h : w.ownsRow B t sz (.slice (some ⟨g, 0, none⟩) n cap) n L) : WCells w g L := by
  have hc := h.cells (g := g) rfl
  have hlt := h.lt g rfl
  obtain ⟨_, ⟨h0, _⟩ | ⟨g', cap', cur, he, hB, hcur, _, _, _, _⟩⟩ := h
  · cases h0
  · have eg : g' = g := by simp at he; exact he.1.symm
    subst eg
    refine ⟨hlt.2, fun j v hj => ⟨?_, ?_⟩⟩
    · have := hc j v hj
      have e : (⟨g', 0, none⟩ : Addr).add j = ⟨g', j, none⟩ := by cases j <;> simp [Addr.add]
      rw [e] at this
      exact this
    · unfold World.frozen?
      rw [hcur]; simp

/-- Cells laid one behind the other: in a list, and in a world. -/
def setL (L : List Value) (off : Nat) : List Value → List Value
  | [] => L
  | v :: vs => setL (L.set off v) (off + 1) vs
def setW (w : World) (g off : Nat) : List Value → World
  | [] => w
  | v :: vs => setW (w.setCell ⟨g, off, none⟩ v) g (off + 1) vs
theorem setL_cons (c : Value) (L : List Value) (off : Nat) (vs : List Value) : setL (c :: L) (off + 1) vs = c :: setL L off vs := by
  induction vs generalizing L off with
  | nil => rfl
  | cons v vs ih => simp only [setL, List.set_cons_succ]; exact ih _ _
theorem setL_app (A L : List Value) (off : Nat) (vs : List Value) : setL (A ++ L) (A.length + off) vs = A ++ setL L off vs := by
  induction A with
  | nil => simp
  | cons a A ih => rw [List.cons_append, List.length_cons, show A.length + 1 + off = (A.length + off) + 1 by omega, setL_cons, ih]; rfl
theorem setL_head (A R B : List Value) (h : A.length = B.length) : setL (A ++ R) 0 B = B ++ R := by
  induction B generalizing A with
  | nil => simp at h; subst h; rfl
  | cons b B ih =>
    cases A with
    | nil => simp at h
    | cons a A =>
      simp only [List.cons_append, setL, List.set_cons_zero, setL_cons]
      rw [ih A (by simpa using h)]
theorem flat_setL {α : Type} {enc : α → List Value} {sz : Nat} (hsz : ∀ x, (enc x).length = sz) (xs : List α) (j : Nat) (h : j < xs.length) (y : α) : setL (xs.flatMap enc) (j * sz) (enc y) = (xs.set j y).flatMap enc := by
  induction xs generalizing j with
  | nil => simp at h
  | cons x xs ih =>
    cases j with
    | zero =>
      simp only [Nat.zero_mul, List.flatMap_cons, List.set_cons_zero]
      exact setL_head _ _ _ (by rw [hsz, hsz])
    | succ j =>
      simp only [List.flatMap_cons, List.set_cons_succ]
      rw [show (j + 1) * sz = (enc x).length + j * sz by rw [hsz, Nat.add_mul]; omega, setL_app, ih j (by simpa using h)]
theorem setL_len (L : List Value) (off : Nat) (vs : List Value) : (setL L off vs).length = L.length := by
  induction vs generalizing L off with
  | nil => rfl
  | cons v vs ih => simp only [setL]; rw [ih]; simp
theorem WCells.setW {w : World} {g : Nat} {L : List Value} (h : WCells w g L) (off : Nat) (vs : List Value) (hl : off + vs.length ≤ L.length) : WCells (setW w g off vs) g (setL L off vs) := by
  induction vs generalizing w L off with
  | nil => exact h
  | cons v vs ih =>
    simp only [List.length_cons] at hl
    exact ih (h.set off v (by omega)) (off + 1) (by rw [List.length_set]; omega)
/-- An element of a row is laid anew. -/
theorem WCells.setElem {α : Type} {enc : α → List Value} {sz : Nat} (hsz : ∀ x, (enc x).length = sz) {w : World} {g : Nat} {xs : List α} (h : WCells w g (xs.flatMap enc)) (j : Nat) (hj : j < xs.length) (y : α) :
    WCells (Go.Proofs.YtfhcpehfmecpjaaT.setW w g (j * sz) (enc y)) g ((xs.set j y).flatMap enc) := by
  have hl : j * sz + (enc y).length ≤ (xs.flatMap enc).length := by
    rw [hsz, flat_len hsz]
    have := Nat.mul_le_mul_right sz (show j + 1 ≤ xs.length by omega)
    rw [Nat.add_mul] at this; omega
  have := h.setW (j * sz) (enc y) hl
  rwa [flat_setL hsz xs j hj y] at this
theorem below_setW {B g : Nat} {a w : World} (h : Below B a w) (hg : B ≤ g) (off : Nat) (vs : List Value) : Below B a (setW w g off vs) := by
  induction vs generalizing w off with
  | nil => exact h
  | cons v vs ih => exact ih (h.setCell (p := ⟨g, off, none⟩) hg v) _
/-- What 'make' lays, for elements of some cells. -/
theorem made_flat {α : Type} {enc : α → List Value} {sz : Nat} (hsz : ∀ x, (enc x).length = sz) (hp : 0 < sz) (z : Array Value) (d : α) (hz : z.toList = enc d) (n : Nat) : (madeCells z (n * sz)).toList = (List.replicate n d).flatMap enc := by
  have hzs : z.size = sz := by rw [← Array.length_toList, hz, hsz]
  apply List.ext_getElem?
  intro i
  by_cases hi : i < n * sz
  · have hq : i / sz < n := Nat.div_lt_of_lt_mul (by rwa [Nat.mul_comm] at hi)
    have hr := Nat.mod_lt i hp
    have e : i = i / sz * sz + i % sz := by rw [Nat.mul_comm]; exact (Nat.div_add_mod i sz).symm
    have l1 := flat_get hsz (List.replicate n d) (i / sz) (by simpa using hq) (i % sz) hr
    rw [← e] at l1
    rw [l1, List.getElem_replicate, ← hz]
    unfold madeCells
    have h3 : i % sz < z.size := by omega
    simp [hi, hzs]
    rw [getElem!_pos z (i % sz) h3, Array.getElem?_eq_getElem h3]
  · rw [List.getElem?_eq_none (by rw [Array.length_toList, size_madeCells]; omega), List.getElem?_eq_none (by rw [flat_len hsz]; simp; omega)]
theorem wcells_new (w : World) (cs : Array Value) (t : TypeId) : WCells (w.alloc (.cells cs t)) w.heap.size cs.toList := by
  refine ⟨by simp, fun i v hv => ⟨?_, ?_⟩⟩
  · rw [World.cell?_alloc_new]; simpa using hv
  · unfold World.frozen?
    rw [heap_alloc_new]; simp
theorem WCells.alloc {w : World} {g : Nat} {L : List Value} (h : WCells w g L) (o : Obj) : WCells (w.alloc o) g L := h.below ((Below.refl _ _).alloc (Nat.le_refl _) o) h.1
theorem WCells.grow {w w' : World} {g : Nat} {L : List Value} (h : WCells w g L) (hb : Below w.heap.size w w') : WCells w' g L := h.below hb h.1
theorem WCells.other {w : World} {g : Nat} {L : List Value} (h : WCells w g L) (p : Addr) (x : Value) (hp : g ≠ p.block) : WCells (w.setCell p x) g L := by
  refine ⟨by have := h.1; simpa [World.setCell] using this, fun j v hv => ?_⟩
  have hold := h.2 j v hv
  refine ⟨?_, (World.frozen?_setCell _ _ _ _).trans hold.2⟩
  rw [← hold.1]
  exact World.cell?_of_block (Below.heap_setCell w p x g hp)
/-- A fact that no tactic parts. -/
structure Shut (p : Prop) : Prop where
  out : p
end Go.Proofs.YtfhcpehfmecpjaaT
/- Rows of numbers: their copies, their comparison, marks that are laid into one and found again. -/
namespace Go.Proofs.YtfhcpehfmecpjaaT
open Go.RowKit
attribute [local go_sem ↓] Go.wp_at_zero Go.wp_at_succ

def ics (xs : List Int) : List Value := xs.map fun x => .int .i64 x
theorem ics_len (xs : List Int) : (ics xs).length = xs.length := by simp [ics]
theorem ics_get (xs : List Int) (j : Nat) (h : j < xs.length) : (ics xs)[j]? = some (.int .i64 (xs.getD j 0)) := by simp [ics, List.getD, h]
theorem ics_set (xs : List Int) (j : Nat) (x : Int) : (ics xs).set j (.int .i64 x) = ics (xs.set j x) := by simp [ics, List.map_set]
theorem crow_int {w : World} {a : Option Addr} {xs : List Int} (h : CRow w a (ics xs)) (hp : 0 < xs.length) : ∃ b off, a = some ⟨b, off, none⟩ ∧ b < w.heap.size ∧ ∀ j, j < xs.length → w.cell? ⟨b, off + j, none⟩ = some (.int .i64 (xs.getD j 0)) := by
  obtain ⟨b, off, e, hb, hc⟩ := h (by rw [ics_len]; exact hp)
  exact ⟨b, off, e, hb, fun j hj => hc j _ (ics_get xs j hj)⟩
theorem infoIntG : (Tw.prog.info? 3).map (fun i => (i.zero, i.size, i.bytes)) = some (some (.int .i64 0), 1, 8) := by kernel_rfl
def ToInts (xs : List Int) (w : World) (e : Ending) (w' : World) : Prop := ∃ g, e = .returned (.slice (some ⟨g, 0, none⟩) xs.length xs.length) ∧ w.heap.size ≤ g ∧ WCells w' g (ics xs) ∧ Below w.heap.size w w'
/-- Marks from k on. -/
def marksI (k n : Nat) : List Int := (List.range n).map fun j => ((k + j : Nat) : Int)
theorem marksI_len (k n : Nat) : (marksI k n).length = n := by simp [marksI]
theorem marksI_at (k n j : Nat) (h : j < n) : (marksI k n).getD j 0 = ((k + j : Nat) : Int) := by simp [marksI, List.getD, h]
def MarkInts (g k n : Nat) (w : World) (e : Ending) (w' : World) : Prop := e = .returned (.int .i64 (k + n : Nat)) ∧ (∃ ys : List Int, ys.length = n ∧ WCells w' g (ics ys)) ∧ w.grownBy w' (some g)
theorem gb_set' (w : World) (g i : Nat) (v : Value) : w.grownBy (w.setCell ⟨g, i, none⟩ v) (some g) :=
  ⟨rfl, rfl, rfl, by simp [World.setCell], fun k _ hk => Below.heap_setCell w ⟨g, i, none⟩ v k (fun e => hk (by rw [e]))⟩
theorem gb_two' {a b c : World} {g : Nat} (h : a.grownBy b (some g)) (k : b.grownBy c (some g)) : a.grownBy c (some g) :=
  ⟨k.os.trans h.os, k.tape.trans h.tape, k.output.trans h.output, Nat.le_trans h.size k.size, fun j hj hn => (k.block j (Nat.lt_of_lt_of_le hj h.size) hn).trans (h.block j hj hn)⟩
end Go.Proofs.YtfhcpehfmecpjaaT
/- The schemas, plain, and the walk of the model's SchemaOf. -/
namespace Go.Proofs.YtfhcpehfmecpjaaT
open Go.RowKit
attribute [local go_sem ↓] Go.wp_at_zero Go.wp_at_succ

def schK (s : Int) : Nat := if s = 1 then 2 else if s = 2 then 3 else if s = 3 then 4 else 0
def schM (s : Int) : Nat := if s = 1 then 1 else if s = 2 then 2 else if s = 3 then 2 else 0
def schOk (s : Int) : Bool := decide (s = 1) || decide (s = 2) || decide (s = 3)
theorem sch_cases {s : Int} (h : schOk s = true) : s = 1 ∨ s = 2 ∨ s = 3 := by
  unfold schOk at h
  simp only [Bool.or_eq_true, decide_eq_true_eq] at h
  omega
theorem sch_no {s : Int} (h : schOk s = false) : s ≠ 1 ∧ s ≠ 2 ∧ s ≠ 3 := by
  unfold schOk at h
  simp only [Bool.or_eq_false_iff, decide_eq_false_iff_not] at h
  omega
theorem sch_bounds {s : Int} (h : schOk s = true) : 2 ≤ schK s ∧ schK s ≤ 4 ∧ 1 ≤ schM s ∧ schM s ≤ 2 := by
  rcases sch_cases h with rfl | rfl | rfl <;> decide
theorem sch_zero {s : Int} (h : schOk s = false) : schK s = 0 ∧ schM s = 0 := by
  obtain ⟨h1, h2, h3⟩ := sch_no h
  unfold schK schM
  rw [if_neg h1, if_neg h2, if_neg h3, if_neg h1, if_neg h2, if_neg h3]
  exact ⟨rfl, rfl⟩
def SchPost (s : Int) (w : World) (e : Ending) (w' : World) : Prop := e = .returned (.tuple #[.int .i64 (schK s : Nat), .int .i64 (schM s : Nat), .bool (schOk s)]) ∧ w' = w
theorem specSchema (s : Int) (w : World) : Calls Tw.prog 27 #[.int .i64 s] w fun e w' => SchPost s w e w' := by
  cases h : schOk s with
  | true =>
    obtain rfl | rfl | rfl := sch_cases h
    all_goals
      clear h
      go_enter Tw.func27, Tw.ntmps27
      go_wp2_with fail
      go_ret3
      exact ⟨rfl, rfl⟩
  | false =>
    obtain ⟨h1, h2, h3⟩ := sch_no h
    obtain ⟨e1, e2⟩ := sch_zero h
    unfold SchPost
    rw [e1, e2, h]
    clear h e1 e2
    go_enter Tw.func27, Tw.ntmps27
    go_wp2_with fail
    go_ret3
    exact ⟨rfl, rfl⟩
/-- The same, of the program's own. -/
def SchB (s : Int) (w : World) (e : Ending) (w' : World) : Prop := e = .returned (.tuple #[.int .i64 (schK s : Nat), .int .i64 (schM s : Nat), .bool (schOk s)]) ∧ Below w.heap.size w w'
end Go.Proofs.YtfhcpehfmecpjaaT
/- Plain facts on the bytes of numbers: the bytes of a number by sevens of bits are told by 'vt', the number that bytes begin by 'rv'; nothing of the program is read here. -/
namespace Go.Proofs.YtfhcpehfmecpjaaT.W
/-- The bytes of a number, by sevens of bits, with fuel. -/
def vtF : Nat → Nat → List UInt8
  | 0, n => [UInt8.ofNat n]
  | f + 1, n => if 127 < n then UInt8.ofNat (n % 128 + 128) :: vtF f (n / 128) else [UInt8.ofNat n]
def vt (n : Nat) : List UInt8 := vtF n n
theorem vtF_enough : ∀ (f g n : Nat), n ≤ f → n ≤ g → vtF f n = vtF g n
  | 0, 0, n, _, _ => rfl
  | 0, g + 1, n, h, _ => by have : n = 0 := by omega
                            subst this; simp [vtF]
  | f + 1, 0, n, _, h => by have : n = 0 := by omega
                            subst this; simp [vtF]
  | f + 1, g + 1, n, h1, h2 => by
    unfold vtF
    by_cases h : 127 < n
    · rw [if_pos h, if_pos h, vtF_enough f g (n / 128) (by omega) (by omega)]
    · rw [if_neg h, if_neg h]
theorem vt_big (n : Nat) (h : 127 < n) : vt n = UInt8.ofNat (n % 128 + 128) :: vt (n / 128) := by
  unfold vt
  match n, h with
  | k + 1, h =>
    rw [vtF, if_pos h, vtF_enough k ((k + 1) / 128) ((k + 1) / 128) (by omega) (by omega)]
theorem vt_small (n : Nat) (h : n ≤ 127) : vt n = [UInt8.ofNat n] := by
  unfold vt
  match n with
  | 0 => rfl
  | k + 1 => rw [vtF, if_neg (by omega)]
theorem vt_len (n : Nat) : (vt n).length ≤ n + 1 := by
  suffices h : ∀ f m, (vtF f m).length ≤ f + 1 from h n n
  intro f
  induction f with
  | zero => intro m; simp [vtF]
  | succ f ih => intro m; unfold vtF; split
                 · have := ih (m / 128); simp; omega
                 · simp

/-- The number of bytes by sevens: each with its high bit left off. -/
def val : List UInt8 → Nat
  | [] => 0
  | b :: l => b.toNat % 128 + 128 * val l

/-- All but the last are 128 or more. -/
def heads (l : List UInt8) : Prop := ∀ b ∈ l, 128 ≤ b.toNat

theorem ofNat_self (b : UInt8) : UInt8.ofNat b.toNat = b := by simp

theorem vt_one (b : UInt8) (h : b.toNat < 128) : vt b.toNat = [b] := by
  rw [vt_small _ (by omega)]; simp

theorem val_pos : ∀ (l : List UInt8) (b : UInt8), b.toNat < 128 → b ≠ 0 → 0 < val (l ++ [b])
  | [], b, h, h0 => by
    have : b.toNat ≠ 0 := fun e => h0 (by have := UInt8.toNat_inj (a := b) (b := 0); simp at this; exact this.1 e)
    simp [val]; omega
  | c :: l, b, h, h0 => by
    have := val_pos l b h h0
    simp [val]; omega

/-- The bytes of the number of some bytes are those bytes, where they have no needless nought at the end. -/
theorem vt_val : ∀ (l : List UInt8) (b : UInt8), heads l → b.toNat < 128 → (l = [] ∨ b ≠ 0) → vt (val (l ++ [b])) = l ++ [b]
  | [], b, _, hb, _ => by
    have : val ([] ++ [b]) = b.toNat := by simp [val]; omega
    rw [this]; exact vt_one b hb
  | c :: l, b, hl, hb, h0 => by
    have h0 : b ≠ 0 := by rcases h0 with h | h; cases h; exact h
    have hc : 128 ≤ c.toNat := hl c (by simp)
    have ih := vt_val l b (fun x hx => hl x (by simp [hx])) hb (.inr h0)
    have hp := val_pos l b hb h0
    have hlt := c.toNat_lt
    have e : val (c :: l ++ [b]) = c.toNat % 128 + 128 * val (l ++ [b]) := rfl
    rw [e, vt_big _ (by omega)]
    have e1 : (c.toNat % 128 + 128 * val (l ++ [b])) % 128 + 128 = c.toNat := by omega
    have e2 : (c.toNat % 128 + 128 * val (l ++ [b])) / 128 = val (l ++ [b]) := by omega
    rw [e1, e2, ih]; simp

/-- With a needless nought at the end they are not. -/
theorem vt_last : ∀ (f n : Nat), n ≤ f → 0 < n → (vtF f n).getLast? ≠ some 0
  | 0, n, h, h' => by omega
  | f + 1, n, h, h' => by
    unfold vtF
    by_cases hb : 127 < n
    · rw [if_pos hb]
      have ih := vt_last f (n / 128) (by omega) (by omega)
      have hne : vtF f (n / 128) ≠ [] := by cases f <;> simp [vtF] <;> split <;> simp
      rw [List.getLast?_cons_of_ne_nil hne]
      exact ih
    · rw [if_neg hb]
      simp
      intro e
      have := congrArg UInt8.toNat e
      simp at this
      omega
theorem vt_not (l : List UInt8) (hl : l ≠ []) : vt (val (l ++ [0])) ≠ l ++ [0] := by
  intro e
  by_cases h : val (l ++ [0]) = 0
  · rw [h] at e
    have := congrArg List.length e
    simp [vt, vtF] at this
    exact hl this
  · have := vt_last _ _ (Nat.le_refl (val (l ++ [0]))) (by omega)
    unfold vt at e
    rw [e] at this
    simp at this

/-- What stands behind some bytes: the number that they begin, its weight, whether none has come yet, the bytes that are left, their place. -/
def rv : Nat → Nat → Bool → List UInt8 → Nat → Option (Nat × Nat)
  | _, _, _, [], _ => none
  | n, w, first, b :: l, p =>
    if 1000000000 < w then none
    else if 127 < b.toNat then rv (n + (b.toNat - 128) * w) (w * 128) false l (p + 1)
    else if b.toNat = 0 ∧ first = false then none
    else if 1000000000 < n + b.toNat * w then none
    else some (n + b.toNat * w, p + 1)

theorem val_snoc : ∀ (l : List UInt8) (b : UInt8), val (l ++ [b]) = val l + b.toNat % 128 * 128 ^ l.length
  | [], b => by simp [val]
  | c :: l, b => by
    have ih := val_snoc l b
    show c.toNat % 128 + 128 * val (l ++ [b]) = _
    rw [ih]
    simp only [val, List.length_cons, Nat.pow_succ, Nat.mul_add]
    rw [← Nat.mul_assoc (b.toNat % 128), Nat.mul_comm 128 (b.toNat % 128 * 128 ^ l.length)]
    omega
theorem val_lt : ∀ (l : List UInt8), val l < 128 ^ l.length
  | [] => by simp [val]
  | c :: l => by
    have := val_lt l
    simp only [val, List.length_cons, Nat.pow_succ]
    omega
theorem rv_nil (n w : Nat) (f : Bool) (p : Nat) : rv n w f [] p = none := rfl
theorem rv_great (n w : Nat) (f : Bool) (l : List UInt8) (p : Nat) (h : 1000000000 < w) : rv n w f l p = none := by
  cases l
  · rfl
  · rw [rv, if_pos h]
theorem rv_head (n w : Nat) (f : Bool) (b : UInt8) (l : List UInt8) (p : Nat) (h : w ≤ 1000000000) (hb : 127 < b.toNat) : rv n w f (b :: l) p = rv (n + (b.toNat - 128) * w) (w * 128) false l (p + 1) := by
  rw [rv, if_neg (by omega), if_pos hb]
theorem rv_nought (n w : Nat) (b : UInt8) (l : List UInt8) (p : Nat) (hb : b.toNat = 0) : rv n w false (b :: l) p = none := by
  rw [rv]; split
  · rfl
  · rw [if_neg (by omega), if_pos ⟨hb, rfl⟩]
theorem rv_far (n w : Nat) (f : Bool) (b : UInt8) (l : List UInt8) (p : Nat) (hb : b.toNat ≤ 127) (h : 1000000000 < n + b.toNat * w) : rv n w f (b :: l) p = none := by
  rw [rv]; split
  · rfl
  · rw [if_neg (by omega)]; split
    · rfl
    · rfl
theorem rv_done (n w : Nat) (f : Bool) (b : UInt8) (l : List UInt8) (p : Nat) (h : w ≤ 1000000000) (hb : b.toNat ≤ 127) (h0 : b.toNat ≠ 0 ∨ f = true) (hm : n + b.toNat * w ≤ 1000000000) :
    rv n w f (b :: l) p = some (n + b.toNat * w, p + 1) := by
  rw [rv, if_neg (by omega), if_neg (by omega), if_neg (by rcases h0 with h | h <;> simp [h]), if_neg (by omega)]

/-- As the bytes so far tell it. -/
def rvs (hd : List UInt8) (l : List UInt8) (p : Nat) : Option (Nat × Nat) := rv (val hd) (128 ^ hd.length) (decide (hd.length = 0)) l p
theorem rvs_step (hd : List UInt8) (b : UInt8) (l : List UInt8) (p : Nat) (hk : hd.length ≤ 4) (hb : 127 < b.toNat) : rvs hd (b :: l) p = rvs (hd ++ [b]) l (p + 1) := by
  have hw : 128 ^ hd.length ≤ 128 ^ 4 := Nat.pow_le_pow_right (by omega) hk
  have hlt := b.toNat_lt
  unfold rvs
  rw [rv_head _ _ _ _ _ _ (by omega) hb, val_snoc, List.length_append, List.length_singleton, Nat.pow_succ, decide_eq_false (p := hd.length + 1 = 0) (by omega)]
  have : b.toNat % 128 = b.toNat - 128 := by omega
  rw [this]
theorem rvs_five (hd : List UInt8) (l : List UInt8) (p : Nat) (hk : 5 ≤ hd.length) : rvs hd l p = none := by
  have hw : 128 ^ 5 ≤ 128 ^ hd.length := Nat.pow_le_pow_right (by omega) hk
  exact rv_great _ _ _ _ _ (by omega)
/-- The test by the bytes of the number says the same as the test for a needless nought. -/
theorem rvs_end (hd : List UInt8) (b : UInt8) (l : List UInt8) (p : Nat) (hk : hd.length ≤ 4) (hh : heads hd) (hb : b.toNat ≤ 127) :
    rvs hd (b :: l) p = if val (hd ++ [b]) ≤ 1000000000 ∧ vt (val (hd ++ [b])) = hd ++ [b] then some (val (hd ++ [b]), p + 1) else none := by
  have hw : 128 ^ hd.length ≤ 128 ^ 4 := Nat.pow_le_pow_right (by omega) hk
  have ev : val (hd ++ [b]) = val hd + b.toNat * 128 ^ hd.length := by rw [val_snoc]; congr 2; omega
  by_cases h0 : b.toNat = 0 ∧ hd ≠ []
  · have eb : b = 0 := by have := UInt8.toNat_inj (a := b) (b := 0); simp at this; exact this.1 h0.1
    rw [if_neg (by rw [eb]; exact fun h => vt_not hd h0.2 h.2)]
    unfold rvs
    rw [decide_eq_false (by simpa using h0.2), rv_nought _ _ _ _ _ h0.1]
  · have hv : vt (val (hd ++ [b])) = hd ++ [b] := vt_val hd b hh (by omega) (by
      by_cases e : hd = []
      · exact .inl e
      · right; intro eb; exact h0 ⟨by rw [eb]; rfl, e⟩)
    by_cases hm : val (hd ++ [b]) ≤ 1000000000
    · rw [if_pos ⟨hm, hv⟩]
      unfold rvs
      rw [rv_done _ _ _ _ _ _ (by omega) hb (by
        by_cases e : hd = []
        · right; simp [e]
        · left; exact fun eb => h0 ⟨eb, e⟩) (by omega), ev]
    · rw [if_neg (fun h => hm h.1)]
      exact rv_far _ _ _ _ _ _ hb (by omega)
end Go.Proofs.YtfhcpehfmecpjaaT.W
/- The walks of l01Var and l01In. -/
namespace Go.Proofs.YtfhcpehfmecpjaaT
open Go.RowKit

/-- What one round of the loop does to the row of bytes. -/
theorem step_byte {B n m : Nat} {l : List UInt8} {w wr w1 : World} {v v' : Value} {o : Obj} {x : Int} (hB : B ≤ wr.heap.size) (hx : x = (m % 128 + 128 : Nat))
    (hm : 127 < m) (hl : l.length + m ≤ n) (ht : l ++ W.vt m = W.vt n)
    (hown : wr.ownsRow B 5 1 v l.length (bv l)) (hb : Below B w wr)
    (hown' : w1.ownsRow B 5 1 v' (l.length + 1) (bv l ++ [.int .u8 x])) (hg : (wr.alloc o).grownBy w1 v.ownBlock) :
    ∃ l', l'.length + m / 128 ≤ n ∧ l' ++ W.vt (m / 128) = W.vt n ∧ w1.ownsRow B 5 1 v' l'.length (bv l') ∧ Below B w w1 := by
  refine ⟨l ++ [UInt8.ofNat (m % 128 + 128)], by simp; omega, by rw [← ht, W.vt_big m hm]; simp, ?_, ?_⟩
  · have e := byte_of x (by omega) (by omega)
    rw [e, bv_snoc] at hown'
    have : UInt8.ofNat x.toNat = UInt8.ofNat (m % 128 + 128) := by rw [hx]; rfl
    rw [this] at hown'
    simpa using hown'
  · exact (hb.alloc hB o).grown hg (by simp; omega) (fun j hj => by have := (hown.lt j hj).1; omega)
theorem last_byte {B n m : Nat} {l : List UInt8} {w wr w1 : World} {v v' : Value} {o : Obj} {x : Int} (hB : B ≤ wr.heap.size) (hx : x = m)
    (hm : m ≤ 127) (ht : l ++ W.vt m = W.vt n)
    (hown : wr.ownsRow B 5 1 v l.length (bv l)) (hb : Below B w wr)
    (hown' : w1.ownsRow B 5 1 v' (l.length + 1) (bv l ++ [.int .u8 x])) (hg : (wr.alloc o).grownBy w1 v.ownBlock) :
    (convert 22 9 v').run Tw.prog w1 = .ok (.string ⟨(W.vt n).toArray⟩) w1 ∧ Below B w w1 := by
  refine ⟨?_, (hb.alloc hB o).grown hg (by simp; omega) (fun j hj => by have := (hown.lt j hj).1; omega)⟩
  have e := byte_of x (by omega) (by omega)
  rw [e, bv_snoc] at hown'
  have : UInt8.ofNat x.toNat = UInt8.ofNat m := by rw [hx]; rfl
  rw [this] at hown'
  have hn : W.vt n = l ++ [UInt8.ofNat m] := by rw [← ht, W.vt_small m hm]
  rw [hn]
  exact own_string (by simpa using hown')

theorem l01In_any (x a b : Int) (w : World) :
    Calls Tw.prog 30 #[.int .i64 x, .int .i64 a, .int .i64 b] w fun e w' => e = .returned (.bool (decide (a ≤ x) && decide (x ≤ b))) ∧ w' = w := by
  by_cases h : a ≤ x
  · by_cases h' : x ≤ b
    · go_enter Tw.func30, Tw.ntmps30
      go_wp2
      go_ret
      exact ⟨by simp [h, h'], rfl⟩
    · go_enter Tw.func30, Tw.ntmps30
      go_wp2
      go_ret
      exact ⟨by simp [h'], rfl⟩
  · go_enter Tw.func30, Tw.ntmps30
    go_wp2
    go_ret
    exact ⟨by simp; omega, rfl⟩
end Go.Proofs.YtfhcpehfmecpjaaT
/- Stripes: the walks of the models' GroupSize, PlaceOf, OffsetOf and Spans. -/
namespace Go.Proofs.YtfhcpehfmecpjaaT
open Go.RowKit
attribute [local go_sem ↓] Go.wp_at_zero Go.wp_at_succ

theorem isIn (x a b : Int) (w : World) (r : Bool) (h : (decide (a ≤ x) && decide (x ≤ b)) = r) : Calls Tw.prog 30 #[.int .i64 x, .int .i64 a, .int .i64 b] w fun e w' => e = .returned (.bool r) ∧ w' = w := by
  rw [← h]; exact l01In_any x a b w
/-- How many bytes a group has. -/
def groupN (s : Int) : Nat := schK s * 8
theorem groupN_bounds (s : Int) : groupN s ≤ 32 := by
  unfold groupN
  cases h : schOk s with
  | true => have := (sch_bounds h).2.1; omega
  | false => rw [(sch_zero h).1]; omega
theorem specGroupSize (s : Int) (w : World) : Calls Tw.prog 21 #[.int .i64 s] w fun e w' => e = .returned (.int .i64 (groupN s : Nat)) ∧ w' = w := by
  have HS := Shut.mk (fun W => specSchema s W)
  unfold SchPost at HS
  have hk : schK s ≤ 4 := by
    cases h : schOk s with
    | true => exact (sch_bounds h).2.1
    | false => rw [(sch_zero h).1]; omega
  have hg : ((groupN s : Nat) : Int) = (schK s : Int) * 4 * 2 := by unfold groupN; push_cast; omega
  generalize schOk s = ok at *
  generalize schM s = m at *
  generalize schK s = k at *
  have HG := Shut.mk hg
  clear hg
  go_enter Tw.func21, Tw.ntmps21
  go_wp2_with fail
  refine (HS.out _).mono ?_
  rintro e w1 ⟨rfl, rfl⟩
  go_wp2_with fail
  go_ret
  exact ⟨by rw [HG.out]; first | rfl | (simp; done) | (congr 2; omega), rfl⟩
/-- Where a byte is, plain: group, unit, place. -/
def unitAt (k o : Nat) : Nat := o % (k * 8) / 4 % k
def placeIn (k o : Nat) : Nat := o % (k * 8) / 4 / k * 4 + o % (k * 8) % 4
def placeX (s off : Int) : Nat × Nat × Nat := if schOk s = true ∧ 0 ≤ off ∧ off ≤ 100000 then (off.toNat / (schK s * 8), unitAt (schK s) off.toNat, placeIn (schK s) off.toNat) else (0, 0, 0)
def PlacePost (s off : Int) (w : World) (e : Ending) (w' : World) : Prop := e = .returned (.tuple #[.int .i64 ((placeX s off).1 : Nat), .int .i64 ((placeX s off).2.1 : Nat), .int .i64 ((placeX s off).2.2 : Nat)]) ∧ Below w.heap.size w w'
set_option maxHeartbeats 1000000 in
theorem specPlaceOf (s off : Int) (w : World) : Calls Tw.prog 28 #[.int .i64 s, .int .i64 off] w fun e w' => PlacePost s off w e w' := by
  have HS := Shut.mk (fun W => specSchema s W)
  unfold SchPost at HS
  have HG := Shut.mk (fun W => specGroupSize s W)
  unfold PlacePost
  cases h : schOk s with
  | false =>
    have e0 : placeX s off = (0, 0, 0) := by unfold placeX; rw [if_neg (by rw [h]; simp)]
    rw [e0]
    rw [h] at HS
    clear h e0
    generalize schK s = k at *
    generalize schM s = m at *
    go_enter Tw.func28, Tw.ntmps28
    go_wp2_with fail
    refine (HS.out _).mono ?_
    rintro e w1 ⟨rfl, rfl⟩
    go_wp2_with fail
    go_ret3
    exact ⟨rfl, Below.refl _ _⟩
  | true =>
    rw [h] at HS
    obtain ⟨b1, b2, _, _⟩ := sch_bounds h
    by_cases ho : 0 ≤ off ∧ off ≤ 100000
    · obtain ⟨o, rfl⟩ := Int.eq_ofNat_of_zero_le ho.1
      have ho5 : o ≤ 100000 := by omega
      have hin : (decide ((0 : Int) ≤ (o : Int)) && decide ((o : Int) ≤ 100000)) = true := by simp; omega
      have e0 : placeX s (o : Int) = (o / (schK s * 8), unitAt (schK s) o, placeIn (schK s) o) := by unfold placeX; rw [if_pos ⟨h, ho⟩]; rfl
      rw [e0]
      unfold groupN at HG
      clear h ho e0
      generalize schM s = m at *
      generalize schK s = k at *
      obtain ⟨S, hS⟩ : ∃ S, S = k * 8 := ⟨_, rfl⟩
      have hS0 : 0 < S := by omega
      have hS32 : S ≤ 32 := by omega
      have e1 : ((o : Int) % (S : Int)) = ((o % S : Nat) : Int) := by push_cast; rfl
      have e2 : ((o : Int) / (S : Int)) = ((o / S : Nat) : Int) := by push_cast; rfl
      have hb : o % S < S := Nat.mod_lt _ hS0
      have e3 : ((o % S : Nat) : Int) / 4 = ((o % S / 4 : Nat) : Int) := by push_cast; rfl
      have e4 : ((o % S : Nat) : Int) % 4 = ((o % S % 4 : Nat) : Int) := by push_cast; rfl
      have e5 : ((o % S / 4 : Nat) : Int) % (k : Int) = ((unitAt k o : Nat) : Int) := by unfold unitAt; rw [← hS]; push_cast; rfl
      have e6 : ((o % S / 4 : Nat) : Int) / (k : Int) = ((o % S / 4 / k : Nat) : Int) := by push_cast; rfl
      have e7 : ((placeIn k o : Nat) : Int) = ((o % S / 4 / k : Nat) : Int) * 4 + ((o % S % 4 : Nat) : Int) := by unfold placeIn; rw [← hS]; push_cast; rfl
      have hc8 : o % S / 4 ≤ 8 := by omega
      have hd : o % S / 4 / k ≤ 8 := Nat.le_trans (Nat.div_le_self _ _) hc8
      have hr : o % S % 4 < 4 := Nat.mod_lt _ (by omega)
      have hqq : o / S ≤ 100000 := Nat.le_trans (Nat.div_le_self _ _) ho5
      rw [← hS] at HG ⊢
      generalize unitAt k o = u at *
      generalize placeIn k o = pl at *
      generalize o % S % 4 = r at *
      generalize o % S / 4 / k = d at *
      generalize o % S / 4 = c at *
      generalize o % S = b at *
      generalize o / S = q at *
      have HE := Shut.mk e7
      have hSn : ((S : Int) == 0) = false := by rw [beq_eq_false_iff_ne]; omega
      have hkn : ((k : Int) == 0) = false := by rw [beq_eq_false_iff_ne]; omega
      have s0 : (0 : Int) < (S : Int) := by omega
      have k0 : (0 : Int) < (k : Int) := by omega
      have t1 : (o : Int).tmod (S : Int) = (b : Int) := by rw [Int.tmod_eq_emod_of_nonneg (by omega)]; exact e1
      have t2 : (o : Int).tdiv (S : Int) = (q : Int) := by rw [Int.tdiv_eq_ediv_of_nonneg (by omega)]; exact e2
      have t3 : (b : Int).tdiv 4 = (c : Int) := by rw [Int.tdiv_eq_ediv_of_nonneg (by omega)]; exact e3
      have t4 : (b : Int).tmod 4 = (r : Int) := by rw [Int.tmod_eq_emod_of_nonneg (by omega)]; exact e4
      have t5 : (c : Int).tmod (k : Int) = (u : Int) := by rw [Int.tmod_eq_emod_of_nonneg (by omega)]; exact e5
      have t6 : (c : Int).tdiv (k : Int) = (d : Int) := by rw [Int.tdiv_eq_ediv_of_nonneg (by omega)]; exact e6
      clear e7 hS
      go_enter Tw.func28, Tw.ntmps28
      go_wp2_with fail
      refine (HS.out _).mono ?_
      rintro e w1 ⟨rfl, rfl⟩
      go_wp2_with fail
      refine (isIn _ _ _ _ true hin).mono ?_
      rintro e w2 ⟨rfl, rfl⟩
      go_wp2_with fail
      refine (HG.out _).mono ?_
      rintro e w3 ⟨rfl, rfl⟩
      go_wp2_with fail
      go_quiet (fail)
      go_wp2_with fail
      go_ret3
      exact ⟨by rw [HE.out]; rfl, ⟨rfl, rfl, rfl, Nat.le_refl _, fun _ _ => rfl⟩⟩
    · have hin : (decide ((0 : Int) ≤ off) && decide (off ≤ 100000)) = false := by simp only [Bool.and_eq_false_iff, decide_eq_false_iff_not]; omega
      have e0 : placeX s off = (0, 0, 0) := by unfold placeX; rw [if_neg (fun q => ho q.2)]
      rw [e0]
      clear h e0 ho
      generalize schK s = k at *
      generalize schM s = m at *
      go_enter Tw.func28, Tw.ntmps28
      go_wp2_with fail
      refine (HS.out _).mono ?_
      rintro e w1 ⟨rfl, rfl⟩
      go_wp2_with fail
      refine (isIn _ _ _ _ false hin).mono ?_
      rintro e w2 ⟨rfl, rfl⟩
      go_wp2_with fail
      go_ret3
      exact ⟨rfl, Below.refl _ _⟩
/-- The byte that has this place. -/
def offX (s g u a : Int) : Int := if schOk s = true ∧ (0 ≤ g ∧ g ≤ 100000) ∧ (0 ≤ u ∧ u ≤ (schK s : Int) - 1) ∧ (0 ≤ a ∧ a ≤ 7) then (if 100000 < g * (schK s * 8 : Nat) + (a / 4 * (schK s : Int) + u) * 4 + a % 4 then -1 else g * (schK s * 8 : Nat) + (a / 4 * (schK s : Int) + u) * 4 + a % 4) else -1
theorem offX_no {s g u a : Int} (h : ¬ (schOk s = true ∧ (0 ≤ g ∧ g ≤ 100000) ∧ (0 ≤ u ∧ u ≤ (schK s : Int) - 1) ∧ (0 ≤ a ∧ a ≤ 7))) : offX s g u a = -1 := if_neg h
theorem in_bool {a x b : Int} {r : Bool} (h : (decide (a ≤ x) && decide (x ≤ b)) = r) : r = true ↔ a ≤ x ∧ x ≤ b := by rw [← h]; simp
end Go.Proofs.YtfhcpehfmecpjaaT
/- Rows of rows of numbers in memory: one that is read, one that may be written, and what is turned of the world in between. Nothing of the program is read here. -/
namespace Go.Proofs.YtfhcpehfmecpjaaT
open Go.RowKit

/-- What lies from lo up to hi may be turned, what lies beyond the end is new; all else is as it was. -/
structure Turned (w w' : World) (lo hi : Nat) : Prop where
  base : Below 0 w w'
  block : ∀ k, k < w.heap.size → (k < lo ∨ hi ≤ k) → w'.heap[k]? = w.heap[k]?
theorem Turned.refl (w : World) (lo hi : Nat) : Turned w w lo hi := ⟨Below.refl _ _, fun _ _ _ => rfl⟩
theorem Turned.trans {a b c : World} {lo hi : Nat} (h : Turned a b lo hi) (k : Turned b c lo hi) : Turned a c lo hi :=
  ⟨h.base.trans k.base, fun i hi' ho => (k.block i (Nat.lt_of_lt_of_le hi' h.base.size) ho).trans (h.block i hi' ho)⟩
theorem Turned.of_below {w w' : World} (h : Below w.heap.size w w') (lo hi : Nat) : Turned w w' lo hi := ⟨h.mono (Nat.zero_le _), fun k hk _ => h.block k hk⟩
theorem Turned.of_grown {w w' : World} {g lo hi : Nat} (h : w.grownBy w' (some g)) (h1 : lo ≤ g) (h2 : g < hi) : Turned w w' lo hi :=
  ⟨⟨h.os, h.tape, h.output, h.size, fun k hk => by omega⟩, fun k hk ho => h.block k hk (by intro e; cases e; omega)⟩
theorem Turned.wide {w w' : World} {lo hi lo' hi' : Nat} (h : Turned w w' lo hi) (h1 : lo' ≤ lo) (h2 : hi ≤ hi') : Turned w w' lo' hi' := ⟨h.base, fun k hk ho => h.block k hk (by omega)⟩
theorem Turned.below {w w' : World} {lo hi B : Nat} (h : Turned w w' lo hi) (h1 : B ≤ lo) (h2 : B ≤ w.heap.size) : Below B w w' :=
  ⟨h.base.os, h.base.tape, h.base.output, h.base.size, fun k hk => h.block k (by omega) (.inl (by omega))⟩
theorem Turned.size {w w' : World} {lo hi : Nat} (h : Turned w w' lo hi) : w.heap.size ≤ w'.heap.size := h.base.size

/-- A row of cells that is read, its block in a range. -/
def RRow (w : World) (a : Option Addr) (L : List Value) (lo hi : Nat) : Prop :=
  0 < L.length → ∃ b off, a = some ⟨b, off, none⟩ ∧ lo ≤ b ∧ b < hi ∧ b < w.heap.size ∧ ∀ i v, L[i]? = some v → w.cell? ⟨b, off + i, none⟩ = some v
theorem RRow.crow {w : World} {a : Option Addr} {L : List Value} {lo hi : Nat} (h : RRow w a L lo hi) : CRow w a L := fun hp => by
  obtain ⟨b, off, e, _, _, h3, h4⟩ := h hp
  exact ⟨b, off, e, h3, h4⟩
theorem RRow.of_crow {w : World} {a : Option Addr} {L : List Value} (h : CRow w a L) : RRow w a L 0 w.heap.size := fun hp => by
  obtain ⟨b, off, e, h3, h4⟩ := h hp
  exact ⟨b, off, e, Nat.zero_le _, h3, h3, h4⟩
theorem RRow.turned {w w' : World} {a : Option Addr} {L : List Value} {lo hi lo' hi' : Nat} (h : RRow w a L lo hi) (t : Turned w w' lo' hi') (hd : hi ≤ lo' ∨ hi' ≤ lo) : RRow w' a L lo hi := fun hp => by
  obtain ⟨b, off, e, h1, h2, h3, h4⟩ := h hp
  exact ⟨b, off, e, h1, h2, Nat.lt_of_lt_of_le h3 t.size, fun i v hv => (World.cell?_of_block (a := ⟨b, off + i, none⟩) (t.block b h3 (by omega))).trans (h4 i v hv)⟩
theorem RRow.below {w w' : World} {a : Option Addr} {L : List Value} {lo hi : Nat} (h : RRow w a L lo hi) (hb : Below w.heap.size w w') : RRow w' a L lo hi := fun hp => by
  obtain ⟨b, off, e, h1, h2, h3, h4⟩ := h hp
  exact ⟨b, off, e, h1, h2, Nat.lt_of_lt_of_le h3 hb.size, fun i v hv => (hb.cell (p := ⟨b, off + i, none⟩) h3).trans (h4 i v hv)⟩
theorem RRow.wide {w : World} {a : Option Addr} {L : List Value} {lo hi lo' hi' : Nat} (h : RRow w a L lo hi) (h1 : lo' ≤ lo) (h2 : hi ≤ hi') : RRow w a L lo' hi' := fun hp => by
  obtain ⟨b, off, e, q1, q2, q3, q4⟩ := h hp
  exact ⟨b, off, e, by omega, by omega, q3, q4⟩
theorem RRow.of_wcells {w : World} {g lo hi : Nat} {L : List Value} (h : WCells w g L) (h1 : lo ≤ g) (h2 : g < hi) : RRow w (some ⟨g, 0, none⟩) L lo hi := fun _ => ⟨g, 0, rfl, h1, h2, h.1, fun i v hv => by rw [Nat.zero_add]; exact (h.2 i v hv).1⟩
theorem WCells.turned {w w' : World} {g lo hi : Nat} {L : List Value} (h : WCells w g L) (t : Turned w w' lo hi) (hd : g < lo ∨ hi ≤ g) : WCells w' g L :=
  ⟨Nat.lt_of_lt_of_le h.1 t.size, fun i v hv => ⟨(World.cell?_of_block (a := ⟨g, i, none⟩) (t.block g h.1 hd)).trans (h.2 i v hv).1, (World.frozen?_of_block (a := ⟨g, i, none⟩) (t.block g h.1 hd)).trans (h.2 i v hv).2⟩⟩
theorem WCells.apart {w w' : World} {g q : Nat} {L : List Value} (h : WCells w g L) (t : w.grownBy w' (some q)) (hd : g ≠ q) : WCells w' g L :=
  h.turned (Turned.of_grown (lo := q) (hi := q + 1) t (Nat.le_refl _) (by omega)) (by omega)

/-- A row of numbers that stands in a row of rows. -/
structure SR where
  loc : Option Addr
  row : List Int
  cap : Nat
instance : Inhabited SR := ⟨⟨none, [], 0⟩⟩
def srv (s : SR) : Value := .slice s.loc s.row.length s.cap
def svs (ss : List SR) : List Value := ss.map srv
def rws (ss : List SR) : List (List Int) := ss.map (·.row)
theorem svs_len (ss : List SR) : (svs ss).length = ss.length := by simp [svs]
theorem rws_len (ss : List SR) : (rws ss).length = ss.length := by simp [rws]
theorem svs_get (ss : List SR) (i : Nat) (h : i < ss.length) : (svs ss)[i]? = some (srv ss[i]) := by simp [svs, h]
theorem rws_get (ss : List SR) (i : Nat) (h : i < ss.length) : (rws ss)[i]'(by rw [rws_len]; exact h) = ss[i].row := by simp [rws]
theorem rws_snoc (ss : List SR) (s : SR) : rws (ss ++ [s]) = rws ss ++ [s.row] := by simp [rws]
/-- A row of rows that is read, its blocks in a range. -/
def MR (w : World) (a : Option Addr) (ss : List SR) (lo hi : Nat) : Prop := RRow w a (svs ss) lo hi ∧ ∀ s ∈ ss, RRow w s.loc (ics s.row) lo hi
theorem MR.turned {w w' : World} {a : Option Addr} {ss : List SR} {lo hi lo' hi' : Nat} (h : MR w a ss lo hi) (t : Turned w w' lo' hi') (hd : hi ≤ lo' ∨ hi' ≤ lo) : MR w' a ss lo hi := ⟨h.1.turned t hd, fun s hs => (h.2 s hs).turned t hd⟩
theorem MR.below {w w' : World} {a : Option Addr} {ss : List SR} {lo hi : Nat} (h : MR w a ss lo hi) (hb : Below w.heap.size w w') : MR w' a ss lo hi := ⟨h.1.below hb, fun s hs => (h.2 s hs).below hb⟩
theorem MR.wide {w : World} {a : Option Addr} {ss : List SR} {lo hi lo' hi' : Nat} (h : MR w a ss lo hi) (h1 : lo' ≤ lo) (h2 : hi ≤ hi') : MR w a ss lo' hi' := ⟨h.1.wide h1 h2, fun s hs => (h.2 s hs).wide h1 h2⟩
theorem MR.nil (w : World) (a : Option Addr) (lo hi : Nat) : MR w a [] lo hi := ⟨fun h => by simp [svs] at h, by simp⟩
/-- What the walk wants of it: the outer row's place and cells. -/
theorem MR.at {w : World} {a : Option Addr} {ss : List SR} {lo hi : Nat} (h : MR w a ss lo hi) (hp : 0 < ss.length) : ∃ b off, a = some ⟨b, off, none⟩ ∧ b < w.heap.size ∧ ∀ i (hi : i < ss.length), w.cell? ⟨b, off + i, none⟩ = some (srv ss[i]) := by
  obtain ⟨b, off, e, _, _, h3, h4⟩ := h.1 (by rw [svs_len]; exact hp)
  exact ⟨b, off, e, h3, fun i hi => h4 i _ (svs_get ss i hi)⟩
/-- A row of rows that may be written: each row in a block of its own, all in a range. -/
structure MW (w : World) (g : Nat) (ss : List SR) (lo hi : Nat) : Prop where
  out : WCells w g (svs ss)
  glo : lo ≤ g
  ghi : g < hi
  rows : ∀ s ∈ ss, ∃ b, s.loc = some ⟨b, 0, none⟩ ∧ lo ≤ b ∧ b < hi ∧ b ≠ g ∧ WCells w b (ics s.row) ∧ s.row.length ≤ s.cap
  apart : (ss.map SR.loc).Nodup
theorem MW.mr {w : World} {g : Nat} {ss : List SR} {lo hi : Nat} (h : MW w g ss lo hi) : MR w (some ⟨g, 0, none⟩) ss lo hi :=
  ⟨RRow.of_wcells h.out h.glo h.ghi, fun s hs => by obtain ⟨b, e, h1, h2, _, h3, _⟩ := h.rows s hs; rw [e]; exact RRow.of_wcells h3 h1 h2⟩
theorem MW.turned {w w' : World} {g : Nat} {ss : List SR} {lo hi lo' hi' : Nat} (h : MW w g ss lo hi) (t : Turned w w' lo' hi') (hd : hi ≤ lo' ∨ hi' ≤ lo) : MW w' g ss lo hi :=
  ⟨h.out.turned t (by have := h.glo; have := h.ghi; omega), h.glo, h.ghi, fun s hs => by
    obtain ⟨b, e, h1, h2, h3, h4, h5⟩ := h.rows s hs
    exact ⟨b, e, h1, h2, h3, h4.turned t (by omega), h5⟩, h.apart⟩
theorem MW.below {w w' : World} {g : Nat} {ss : List SR} {lo hi : Nat} (h : MW w g ss lo hi) (hb : Below w.heap.size w w') : MW w' g ss lo hi :=
  ⟨h.out.below hb h.out.1, h.glo, h.ghi, fun s hs => by
    obtain ⟨b, e, h1, h2, h3, h4, h5⟩ := h.rows s hs
    exact ⟨b, e, h1, h2, h3, h4.below hb h4.1, h5⟩, h.apart⟩
theorem MW.wide {w : World} {g : Nat} {ss : List SR} {lo hi lo' hi' : Nat} (h : MW w g ss lo hi) (h1 : lo' ≤ lo) (h2 : hi ≤ hi') : MW w g ss lo' hi' :=
  ⟨h.out, Nat.le_trans h1 h.glo, Nat.lt_of_lt_of_le h.ghi h2, fun s hs => by
    obtain ⟨b, e, q1, q2, q3, q4, q5⟩ := h.rows s hs
    exact ⟨b, e, by omega, by omega, q3, q4, q5⟩, h.apart⟩
/-- An answer of rows of numbers: nothing, or a row of rows that may be written. -/
def MAns (w : World) (v : Value) (X : List (List Int)) (lo hi : Nat) : Prop :=
  ∃ (a : Option Addr) (cap : Nat) (ss : List SR), v = .slice a ss.length cap ∧ rws ss = X ∧ ss.length ≤ cap ∧ (ss = [] ∨ ∃ g, a = some ⟨g, 0, none⟩ ∧ MW w g ss lo hi)
theorem MAns.empty (w : World) (a : Option Addr) (cap lo hi : Nat) : MAns w (.slice a 0 cap) [] lo hi := ⟨a, cap, [], rfl, rfl, Nat.zero_le _, .inl rfl⟩
end Go.Proofs.YtfhcpehfmecpjaaT
/- Rows of numbers as values; the walk of the model's Spans. -/
namespace Go.Proofs.YtfhcpehfmecpjaaT
open Go.RowKit
attribute [local go_sem ↓] Go.wp_at_zero Go.wp_at_succ

/-- A value that is these numbers, in memory of its own. -/
def IAns (w : World) (v : Value) (xs : List Int) (lo hi : Nat) : Prop := ∃ (a : Option Addr) (cap : Nat), v = .slice a xs.length cap ∧ xs.length ≤ cap ∧ (xs = [] ∨ ∃ g, a = some ⟨g, 0, none⟩ ∧ lo ≤ g ∧ g < hi ∧ WCells w g (ics xs))
theorem IAns.empty (w : World) (a : Option Addr) (cap lo hi : Nat) : IAns w (.slice a 0 cap) [] lo hi := ⟨a, cap, rfl, Nat.zero_le _, .inl rfl⟩
theorem IAns.crow {w : World} {v : Value} {xs : List Int} {lo hi : Nat} (h : IAns w v xs lo hi) : ∃ a cap, v = .slice a xs.length cap ∧ CRow w a (ics xs) := by
  obtain ⟨a, cap, e, _, q⟩ := h
  refine ⟨a, cap, e, ?_⟩
  rcases q with rfl | ⟨g, rfl, _, _, q⟩
  · intro h; simp [ics] at h
  · exact q.crow
theorem IAns.turned {w w' : World} {v : Value} {xs : List Int} {lo hi lo' hi' : Nat} (h : IAns w v xs lo hi) (t : Turned w w' lo' hi') (hd : hi ≤ lo' ∨ hi' ≤ lo) : IAns w' v xs lo hi := by
  obtain ⟨a, cap, e, hc, q⟩ := h
  refine ⟨a, cap, e, hc, ?_⟩
  rcases q with rfl | ⟨g, rfl, h1, h2, h3⟩
  · exact .inl rfl
  · exact .inr ⟨g, rfl, h1, h2, h3.turned t (by omega)⟩
theorem IAns.below {w w' : World} {v : Value} {xs : List Int} {lo hi : Nat} (h : IAns w v xs lo hi) (hb : Below w.heap.size w w') : IAns w' v xs lo hi := by
  obtain ⟨a, cap, e, hc, q⟩ := h
  refine ⟨a, cap, e, hc, ?_⟩
  rcases q with rfl | ⟨g, rfl, h1, h2, h3⟩
  · exact .inl rfl
  · exact .inr ⟨g, rfl, h1, h2, h3.below hb h3.1⟩
def IPost (xs : List Int) (w : World) (e : Ending) (w' : World) : Prop := ∃ v, e = .returned v ∧ IAns w' v xs w.heap.size w'.heap.size ∧ Below w.heap.size w w'
theorem own_ians {w w' : World} {v : Value} {xs : List Int} {n : Nat} (hn : xs.length = n) (h : w'.ownsRow w.heap.size 3 1 v n (ics xs)) : IAns w' v xs w.heap.size w'.heap.size := by
  have hlt := h.lt
  have hown := h
  subst hn
  obtain ⟨_, ⟨rfl, h0⟩ | ⟨g, cap, cur, rfl, hB, hcur, hn, _⟩⟩ := h
  · have : xs = [] := List.eq_nil_of_length_eq_zero h0
    subst this
    exact IAns.empty _ _ _ _ _
  · exact ⟨_, cap, rfl, hn, .inr ⟨g, rfl, hB, (hlt g rfl).2, own_wcells hown⟩⟩
/-- The lengths of the groups of so many bytes. -/
def spanL (S n : Nat) : List Int := List.replicate ((n - 1) / S) (S : Int) ++ [((n - (n - 1) / S * S : Nat) : Int)]
def spansX (s n : Int) : List Int := if schOk s = true ∧ 1 ≤ n ∧ n ≤ 1000 then spanL (groupN s) n.toNat else []
theorem spansX_no {s n : Int} (h : ¬ (schOk s = true ∧ 1 ≤ n ∧ n ≤ 1000)) : spansX s n = [] := if_neg h
theorem group_pos {s : Int} (h : schOk s = true) : 16 ≤ groupN s := by have := (sch_bounds h).1; unfold groupN; omega
theorem group_zero {s : Int} (h : schOk s = false) : groupN s = 0 := by unfold groupN; rw [(sch_zero h).1]
theorem span_last {S n j : Nat} (hS : 0 < S) (h1 : j * S < n) (h2 : n ≤ j * S + S) : (n - 1) / S = j := by
  have e : n - 1 = (n - 1 - j * S) + j * S := by omega
  rw [e, Nat.add_mul_div_right _ _ hS, Nat.div_eq_of_lt (by omega), Nat.zero_add]
end Go.Proofs.YtfhcpehfmecpjaaT
