/- Texts of ours, laid one behind the other: Bytes, RowsG, IntsA, NestA, NestB, NestC, NestD, NestE, NestF, Words, VarL. -/
import Derived.Test.YtdlgailodhlbmaaRows
import Derived.WalkKit
import Derived.WalkLawsBesides
import Derived.Handy
import Derived.Below
import Derived.Laws.IdiomStrings
import Derived.Laws.BytesArg
import Derived.Maps.AppendAt
import Derived.Laws.DeepStrings4
import Derived.OwnWalk
import Derived.Deep.DrawnRows
import Derived.Deep.RegionHeld3
import Derived.BigQuiet
/- Bytes: Rows of bytes that a call owns, and the string that is made of one: facts for the walks of this seat. -/
namespace Go.Proofs.Ytdlgailodhlbmaa
open Go.RowKit

/-- Bytes as the cells of a row. -/
def bv (l : List UInt8) : List Value := l.map fun b => .int .u8 (b.toNat : Int)
theorem bv_nil : bv [] = [] := rfl
theorem bv_snoc (l : List UInt8) (b : UInt8) : bv l ++ [.int .u8 (b.toNat : Int)] = bv (l ++ [b]) := by simp [bv]
theorem bv_len (l : List UInt8) : (bv l).length = l.length := by simp [bv]
theorem byte_of (n : Int) (h0 : 0 ≤ n) (h1 : n < 256) : Value.int .u8 n = .int .u8 ((UInt8.ofNat n.toNat).toNat : Int) := by
  have : (UInt8.ofNat n.toNat).toNat = n.toNat := by simp; omega
  rw [this]; congr 1; omega

theorem Try.info5 : (Try.prog.info? 5).map (fun i => (i.zero, i.size, i.bytes)) = some (some (.int .u8 0), 1, 1) := by kernel_rfl

/-- The string of a row of bytes that a call owns. -/
theorem own_string {w : World} {base : Nat} {v : Value} {l : List UInt8} (h : w.ownsRow base 5 1 v l.length (bv l)) :
    (convert 22 9 v).run Try.prog w = .ok (.string ⟨l.toArray⟩) w := by
  have hc : ∀ g, v.ownBlock = some g → ∀ j u, (bv l)[j]? = some u → w.cell? ((⟨g, 0, none⟩ : Addr).add j) = some u := fun g hg => h.cells hg
  obtain ⟨h1, ⟨rfl, h0⟩ | ⟨g, cap, cur, rfl, _⟩⟩ := h
  · have : l = [] := List.eq_nil_of_length_eq_zero h0
    subst this
    exact run_convert_bytes_nil _ 22 5 Try.underlying22 Try.underlying5 0 0 _ Try.underlying9
  · exact run_convert_bytes_back w 22 9 5 ⟨g, 0, none⟩ cap l Try.underlying22 Try.underlying5 Try.underlying9 (fun j hj => hc g rfl j _ (by simp [bv, hj]))

/-- A part of a string. -/
theorem slice_str (s : ByteArray) (a b : Nat) (h1 : a ≤ b) (h2 : b ≤ s.size) (w : World) :
    (Instr.slice 9 (.string s) (some (.int .i64 (a : Int))) (some (.int .i64 (b : Int))) none).run Try.prog w = .ok (.string (s.extract a b)) w := by
  rw [run_slice_string_if w 9 s .i64 .i64 a b Try.underlying9, if_pos ⟨by omega, by omega⟩, if_pos ⟨by omega, by omega⟩]
  rfl
end Go.Proofs.Ytdlgailodhlbmaa
/- RowsG: Rows of cells in memory, for elements of any number of cells: what a row holds, and a row that may be written. Nothing of the program is read here. -/
namespace Go.Proofs.Ytdlgailodhlbmaa
open Go.RowKit

theorem flat_len {α : Type} {enc : α → List Value} {sz : Nat} (hsz : ∀ x, (enc x).length = sz) (xs : List α) : (xs.flatMap enc).length = xs.length * sz := by
  induction xs with
  | nil => simp
  | cons x xs ih => simp only [List.flatMap_cons, List.length_append, List.length_cons, ih, hsz, Nat.add_mul]; omega
theorem flat_get {α : Type} {enc : α → List Value} {sz : Nat} (hsz : ∀ x, (enc x).length = sz) (xs : List α) (j : Nat) (h : j < xs.length) (i : Nat) (hi : i < sz) : (xs.flatMap enc)[j * sz + i]? = (enc xs[j])[i]? := by
  induction xs generalizing j with
  | nil => simp at h
  | cons x xs ih =>
    rw [List.flatMap_cons]
    cases j with
    | zero =>
      rw [List.getElem?_append_left (by rw [hsz]; omega)]
      simp
    | succ j =>
      rw [List.getElem?_append_right (by rw [hsz, Nat.add_mul]; omega), hsz]
      have := ih j (by simpa using h)
      rw [show (j + 1) * sz + i - sz = j * sz + i by rw [Nat.add_mul]; omega]
      simpa using this
theorem flat_set {α : Type} {enc : α → List Value} {sz : Nat} (hsz : ∀ x, (enc x).length = sz) (xs : List α) (j : Nat) (h : j < xs.length) (y : α) (n : Nat) (hn : n < xs.length * sz) :
    ((xs.set j y).flatMap enc)[n]? = if n / sz = j then (enc y)[n % sz]? else (xs.flatMap enc)[n]? := by
  have hp : 0 < sz := by
    cases sz with
    | zero => simp at hn
    | succ s => omega
  have hq : n / sz < xs.length := Nat.div_lt_of_lt_mul (by rwa [Nat.mul_comm] at hn)
  have hr := Nat.mod_lt n hp
  have e : n = n / sz * sz + n % sz := by rw [Nat.mul_comm]; exact (Nat.div_add_mod n sz).symm
  have l1 := flat_get hsz (xs.set j y) (n / sz) (by simpa using hq) (n % sz) hr
  have l2 := flat_get hsz xs (n / sz) hq (n % sz) hr
  rw [← e] at l1 l2
  rw [l1, l2]
  by_cases c : n / sz = j
  · subst c; simp
  · rw [if_neg c, List.getElem_set_ne (Ne.symm c)]

/-- A row of cells, from a place on. -/
def CRow (w : World) (a : Option Addr) (L : List Value) : Prop :=
  0 < L.length → ∃ b off, a = some ⟨b, off, none⟩ ∧ b < w.heap.size ∧ ∀ i v, L[i]? = some v → w.cell? ⟨b, off + i, none⟩ = some v
theorem CRow.stays {w w' : World} {a : Option Addr} {L : List Value} (h : CRow w a L) (hb : Below w.heap.size w w') : CRow w' a L := by
  intro hp
  obtain ⟨b, off, e, hlt, hc⟩ := h hp
  exact ⟨b, off, e, Nat.lt_of_lt_of_le hlt hb.size, fun i v hv => by rw [hb.cell (p := ⟨b, off + i, none⟩) hlt]; exact hc i v hv⟩
/-- A row of cells that may be written, in a block of its own. -/
def WCells (w : World) (g : Nat) (L : List Value) : Prop :=
  g < w.heap.size ∧ ∀ i v, L[i]? = some v → w.cell? ⟨g, i, none⟩ = some v ∧ w.frozen? ⟨g, i, none⟩ = false
theorem WCells.crow {w : World} {g : Nat} {L : List Value} (h : WCells w g L) : CRow w (some ⟨g, 0, none⟩) L := fun _ => ⟨g, 0, rfl, h.1, fun i v hv => by rw [Nat.zero_add]; exact (h.2 i v hv).1⟩
theorem WCells.below {w w' : World} {g B : Nat} {L : List Value} (h : WCells w g L) (hb : Below B w w') (hg : g < B) : WCells w' g L :=
  ⟨Nat.lt_of_lt_of_le h.1 hb.size, fun i v hv => ⟨(hb.cell (p := ⟨g, i, none⟩) hg).trans (h.2 i v hv).1, (hb.frozen (p := ⟨g, i, none⟩) hg).trans (h.2 i v hv).2⟩⟩
theorem WCells.set {w : World} {g : Nat} {L : List Value} (h : WCells w g L) (i : Nat) (x : Value) (hi : i < L.length) : WCells (w.setCell ⟨g, i, none⟩ x) g (L.set i x) := by
  refine ⟨by have := h.1; simpa [World.setCell] using this, fun j v hv => ?_⟩
  have hj : j < L.length := by
    have := (List.getElem?_eq_some_iff.1 hv).1
    simpa using this
  have hold := h.2 j L[j] (List.getElem?_eq_getElem hj)
  refine ⟨?_, (World.frozen?_setCell _ _ _ _).trans hold.2⟩
  by_cases e : j = i
  · subst e
    rw [World.cell?_setCell_same _ _ _ hold.1]
    rw [List.getElem?_set_self hi] at hv
    exact hv
  · rw [World.cell?_setCell_other _ _ _ _ (by first | (simp; done) | (simp; omega)), hold.1]
    rw [List.getElem?_set_ne (Ne.symm e), List.getElem?_eq_getElem hj] at hv
    exact hv
theorem own_wcells {w : World} {B g n cap t sz : Nat} {L : List Value} (h : w.ownsRow B t sz (.slice (some ⟨g, 0, none⟩) n cap) n L) : WCells w g L := by
  have hc := h.cells (g := g) rfl
  have hlt := h.lt g rfl
  obtain ⟨_, ⟨h0, _⟩ | ⟨g', cap', cur, he, hB, hcur, _, _, _, _⟩⟩ := h
  · cases h0
  · have eg : g' = g := by simp at he; exact he.1.symm
    subst eg
    refine ⟨hlt.2, fun j v hj => ⟨?_, ?_⟩⟩
    · have := hc j v hj
      have e : (⟨g', 0, none⟩ : Addr).add j = ⟨g', j, none⟩ := by cases j <;> simp [Addr.add]
      rw [e] at this
      exact this
    · unfold World.frozen?
      rw [hcur]; simp

/-- Cells laid one behind the other: in a list, and in a world. -/
def setL (L : List Value) (off : Nat) : List Value → List Value
  | [] => L
  | v :: vs => setL (L.set off v) (off + 1) vs
def setW (w : World) (g off : Nat) : List Value → World
  | [] => w
  | v :: vs => setW (w.setCell ⟨g, off, none⟩ v) g (off + 1) vs
theorem setL_cons (c : Value) (L : List Value) (off : Nat) (vs : List Value) : setL (c :: L) (off + 1) vs = c :: setL L off vs := by
  induction vs generalizing L off with
  | nil => rfl
  | cons v vs ih => simp only [setL, List.set_cons_succ]; exact ih _ _
theorem setL_app (A L : List Value) (off : Nat) (vs : List Value) : setL (A ++ L) (A.length + off) vs = A ++ setL L off vs := by
  induction A with
  | nil => simp
  | cons a A ih => rw [List.cons_append, List.length_cons, show A.length + 1 + off = (A.length + off) + 1 by omega, setL_cons, ih]; rfl
theorem setL_head (A R B : List Value) (h : A.length = B.length) : setL (A ++ R) 0 B = B ++ R := by
  induction B generalizing A with
  | nil => simp at h; subst h; rfl
  | cons b B ih =>
    cases A with
    | nil => simp at h
    | cons a A =>
      simp only [List.cons_append, setL, List.set_cons_zero, setL_cons]
      rw [ih A (by simpa using h)]
theorem flat_setL {α : Type} {enc : α → List Value} {sz : Nat} (hsz : ∀ x, (enc x).length = sz) (xs : List α) (j : Nat) (h : j < xs.length) (y : α) : setL (xs.flatMap enc) (j * sz) (enc y) = (xs.set j y).flatMap enc := by
  induction xs generalizing j with
  | nil => simp at h
  | cons x xs ih =>
    cases j with
    | zero =>
      simp only [Nat.zero_mul, List.flatMap_cons, List.set_cons_zero]
      exact setL_head _ _ _ (by rw [hsz, hsz])
    | succ j =>
      simp only [List.flatMap_cons, List.set_cons_succ]
      rw [show (j + 1) * sz = (enc x).length + j * sz by rw [hsz, Nat.add_mul]; omega, setL_app, ih j (by simpa using h)]
theorem setL_len (L : List Value) (off : Nat) (vs : List Value) : (setL L off vs).length = L.length := by
  induction vs generalizing L off with
  | nil => rfl
  | cons v vs ih => simp only [setL]; rw [ih]; simp
theorem WCells.setW {w : World} {g : Nat} {L : List Value} (h : WCells w g L) (off : Nat) (vs : List Value) (hl : off + vs.length ≤ L.length) : WCells (setW w g off vs) g (setL L off vs) := by
  induction vs generalizing w L off with
  | nil => exact h
  | cons v vs ih =>
    simp only [List.length_cons] at hl
    exact ih (h.set off v (by omega)) (off + 1) (by rw [List.length_set]; omega)
/-- An element of a row is laid anew. -/
theorem WCells.setElem {α : Type} {enc : α → List Value} {sz : Nat} (hsz : ∀ x, (enc x).length = sz) {w : World} {g : Nat} {xs : List α} (h : WCells w g (xs.flatMap enc)) (j : Nat) (hj : j < xs.length) (y : α) :
    WCells (Go.Proofs.Ytdlgailodhlbmaa.setW w g (j * sz) (enc y)) g ((xs.set j y).flatMap enc) := by
  have hl : j * sz + (enc y).length ≤ (xs.flatMap enc).length := by
    rw [hsz, flat_len hsz]
    have := Nat.mul_le_mul_right sz (show j + 1 ≤ xs.length by omega)
    rw [Nat.add_mul] at this; omega
  have := h.setW (j * sz) (enc y) hl
  rwa [flat_setL hsz xs j hj y] at this
theorem below_setW {B g : Nat} {a w : World} (h : Below B a w) (hg : B ≤ g) (off : Nat) (vs : List Value) : Below B a (setW w g off vs) := by
  induction vs generalizing w off with
  | nil => exact h
  | cons v vs ih => exact ih (h.setCell (p := ⟨g, off, none⟩) hg v) _
/-- What 'make' lays, for elements of some cells. -/
theorem made_flat {α : Type} {enc : α → List Value} {sz : Nat} (hsz : ∀ x, (enc x).length = sz) (hp : 0 < sz) (z : Array Value) (d : α) (hz : z.toList = enc d) (n : Nat) : (madeCells z (n * sz)).toList = (List.replicate n d).flatMap enc := by
  have hzs : z.size = sz := by rw [← Array.length_toList, hz, hsz]
  apply List.ext_getElem?
  intro i
  by_cases hi : i < n * sz
  · have hq : i / sz < n := Nat.div_lt_of_lt_mul (by rwa [Nat.mul_comm] at hi)
    have hr := Nat.mod_lt i hp
    have e : i = i / sz * sz + i % sz := by rw [Nat.mul_comm]; exact (Nat.div_add_mod i sz).symm
    have l1 := flat_get hsz (List.replicate n d) (i / sz) (by simpa using hq) (i % sz) hr
    rw [← e] at l1
    rw [l1, List.getElem_replicate, ← hz]
    unfold madeCells
    have h3 : i % sz < z.size := by omega
    simp [hi, hzs]
    rw [getElem!_pos z (i % sz) h3, Array.getElem?_eq_getElem h3]
  · rw [List.getElem?_eq_none (by rw [Array.length_toList, size_madeCells]; omega), List.getElem?_eq_none (by rw [flat_len hsz]; simp; omega)]
theorem wcells_new (w : World) (cs : Array Value) (t : TypeId) : WCells (w.alloc (.cells cs t)) w.heap.size cs.toList := by
  refine ⟨by simp, fun i v hv => ⟨?_, ?_⟩⟩
  · rw [World.cell?_alloc_new]; simpa using hv
  · unfold World.frozen?
    rw [heap_alloc_new]; simp
theorem WCells.alloc {w : World} {g : Nat} {L : List Value} (h : WCells w g L) (o : Obj) : WCells (w.alloc o) g L := h.below ((Below.refl _ _).alloc (Nat.le_refl _) o) h.1
theorem WCells.grow {w w' : World} {g : Nat} {L : List Value} (h : WCells w g L) (hb : Below w.heap.size w w') : WCells w' g L := h.below hb h.1
theorem WCells.other {w : World} {g : Nat} {L : List Value} (h : WCells w g L) (p : Addr) (x : Value) (hp : g ≠ p.block) : WCells (w.setCell p x) g L := by
  refine ⟨by have := h.1; simpa [World.setCell] using this, fun j v hv => ?_⟩
  have hold := h.2 j v hv
  refine ⟨?_, (World.frozen?_setCell _ _ _ _).trans hold.2⟩
  rw [← hold.1]
  exact World.cell?_of_block (Below.heap_setCell w p x g hp)
/-- A fact that no tactic parts. -/
structure Shut (p : Prop) : Prop where
  out : p
end Go.Proofs.Ytdlgailodhlbmaa
/- IntsA: Rows of numbers: their copies, their comparison, marks that are laid into one and found again. -/
namespace Go.Proofs.Ytdlgailodhlbmaa
open Go.RowKit
attribute [local go_sem ↓] Go.wp_at_zero Go.wp_at_succ

def ics (xs : List Int) : List Value := xs.map fun x => .int .i64 x
theorem ics_len (xs : List Int) : (ics xs).length = xs.length := by simp [ics]
theorem ics_get (xs : List Int) (j : Nat) (h : j < xs.length) : (ics xs)[j]? = some (.int .i64 (xs.getD j 0)) := by simp [ics, List.getD, h]
theorem ics_set (xs : List Int) (j : Nat) (x : Int) : (ics xs).set j (.int .i64 x) = ics (xs.set j x) := by simp [ics, List.map_set]
theorem crow_int {w : World} {a : Option Addr} {xs : List Int} (h : CRow w a (ics xs)) (hp : 0 < xs.length) : ∃ b off, a = some ⟨b, off, none⟩ ∧ b < w.heap.size ∧ ∀ j, j < xs.length → w.cell? ⟨b, off + j, none⟩ = some (.int .i64 (xs.getD j 0)) := by
  obtain ⟨b, off, e, hb, hc⟩ := h (by rw [ics_len]; exact hp)
  exact ⟨b, off, e, hb, fun j hj => hc j _ (ics_get xs j hj)⟩
theorem infoIntG : (Try.prog.info? 3).map (fun i => (i.zero, i.size, i.bytes)) = some (some (.int .i64 0), 1, 8) := by kernel_rfl
def ToInts (xs : List Int) (w : World) (e : Ending) (w' : World) : Prop := ∃ g, e = .returned (.slice (some ⟨g, 0, none⟩) xs.length xs.length) ∧ w.heap.size ≤ g ∧ WCells w' g (ics xs) ∧ Below w.heap.size w w'
set_option maxHeartbeats 1000000 in
theorem eqIntS_same (a b : Option Addr) (xs : List Int) (ca cb : Nat) (w : World) (ha : CRow w a (ics xs)) (hb : CRow w b (ics xs)) (hl : xs.length ≤ 1048576) :
    Calls Try.prog 58 #[.slice a xs.length ca, .slice b xs.length cb] w fun e w' => e = .returned (.bool true) ∧ Below w.heap.size w w' := by
  have HA : Hid (CRow w a (ics xs)) := ha
  have HB : Hid (CRow w b (ics xs)) := hb
  clear ha hb
  go_enter Try.func58, Try.ntmps58
  go_wp2_with fail
  go_loopw [5] (fun i wr => ∃ (k : Nat), i = .int .i64 k ∧ k ≤ xs.length ∧ Below w.heap.size w wr) (fun i _ => xs.length - (intOf i).toNat)
  case atStart => exact ⟨0, rfl, Nat.zero_le _, Below.refl _ _⟩
  case round =>
    obtain ⟨k, rfl, hk, hbl⟩ := hrel
    by_cases hlt : k < xs.length
    · obtain ⟨b1, o1, rfl, l1, hc1⟩ := crow_int (HA.out.stays hbl) (by omega)
      obtain ⟨b2, o2, rfl, l2, hc2⟩ := crow_int (HB.out.stays hbl) (by omega)
      have d0 := hc1 k hlt
      have e0 := hc2 k hlt
      have k0 : (0 : Int) ≤ (k : Int) := by omega
      have k1 : (k : Int) < (xs.length : Int) := by omega
      have hbn : ∀ q, Below w.heap.size w (wr.drewN q) := fun q => hbl.trans ⟨rfl, rfl, rfl, Nat.le_refl _, fun _ _ => rfl⟩
      generalize xs.getD k 0 = x at d0 e0
      clear hc1 hc2 hbl
      go_wp2_with fail
      go_quiet (fail)
      go_wp2_with fail
      go_roundw
      case rel => exact ⟨k + 1, by go_num, by omega, hbn _⟩
      case measure => simp [intOf]; omega
    · have e : k = xs.length := by omega
      subst e
      go_wp2_with fail
      go_ret
      exact ⟨rfl, hbl⟩
/-- Marks from k on. -/
def marksI (k n : Nat) : List Int := (List.range n).map fun j => ((k + j : Nat) : Int)
theorem marksI_len (k n : Nat) : (marksI k n).length = n := by simp [marksI]
theorem marksI_at (k n j : Nat) (h : j < n) : (marksI k n).getD j 0 = ((k + j : Nat) : Int) := by simp [marksI, List.getD, h]
theorem markIntS_none (a : Option Addr) (k ca : Nat) (w : World) :
    Calls Try.prog 59 #[.slice a 0 ca, .int .i64 k] w fun e w' => e = .returned (.int .i64 k) ∧ w' = w := by
  go_enter Try.func59, Try.ntmps59
  go_wp2_with fail
  go_rounds 1
  go_ret
  exact ⟨rfl, rfl⟩
def MarkInts (g k n : Nat) (w : World) (e : Ending) (w' : World) : Prop := e = .returned (.int .i64 (k + n : Nat)) ∧ (∃ ys : List Int, ys.length = n ∧ WCells w' g (ics ys)) ∧ w.grownBy w' (some g)
theorem gb_set' (w : World) (g i : Nat) (v : Value) : w.grownBy (w.setCell ⟨g, i, none⟩ v) (some g) :=
  ⟨rfl, rfl, rfl, by simp [World.setCell], fun k _ hk => Below.heap_setCell w ⟨g, i, none⟩ v k (fun e => hk (by rw [e]))⟩
theorem gb_two' {a b c : World} {g : Nat} (h : a.grownBy b (some g)) (k : b.grownBy c (some g)) : a.grownBy c (some g) :=
  ⟨k.os.trans h.os, k.tape.trans h.tape, k.output.trans h.output, Nat.le_trans h.size k.size, fun j hj hn => (k.block j (Nat.lt_of_lt_of_le hj h.size) hn).trans (h.block j hj hn)⟩
set_option maxHeartbeats 1000000 in
theorem markIntS_any (g : Nat) (xs : List Int) (k ca : Nat) (w : World) (ha : WCells w g (ics xs)) (hn : k + xs.length ≤ 1000000000) (hca : xs.length ≤ ca) :
    Calls Try.prog 59 #[.slice (some ⟨g, 0, none⟩) xs.length ca, .int .i64 k] w fun e w' => MarkInts g k xs.length w e w' := by
  obtain ⟨n, hnx⟩ : ∃ n, n = xs.length := ⟨_, rfl⟩
  have HN : Hid (n = xs.length) := hnx
  rw [← hnx]
  rw [← hnx] at hn hca
  clear hnx
  have HA : Shut (WCells w g (ics xs)) := ⟨ha⟩
  clear ha
  go_enter Try.func59, Try.ntmps59
  go_wp2_with fail
  go_loopw [1, 5] (fun c i wr => ∃ (j : Nat) (ys : List Int), i = .int .i64 j ∧ c = .int .i64 (k + j : Nat) ∧ j ≤ n ∧ ys.length = n ∧ Shut (WCells wr g (ics ys)) ∧ w.grownBy wr (some g)) (fun _ i _ => n - (intOf i).toNat)
  case atStart => exact ⟨0, xs, rfl, rfl, Nat.zero_le _, HN.out.symm, HA, ⟨rfl, rfl, rfl, Nat.le_refl _, fun _ _ _ => rfl⟩⟩
  case round =>
    obtain ⟨j, ys, rfl, rfl, hj, hyl, hw, hgr⟩ := hrel
    have HL : Hid (ys.length = n) := hyl
    by_cases hlt : j < n
    · have j0 : (0 : Int) ≤ (j : Int) := by omega
      have j1 : (j : Int) < (n : Int) := by omega
      obtain ⟨c0, z0⟩ := hw.out.2 j _ (ics_get ys j (by omega))
      have hset := hw.out.set j (.int .i64 ((k : Int) + (j : Int))) (by rw [ics_len]; omega)
      rw [ics_set] at hset
      have HS : Shut (WCells (wr.setCell ⟨g, j, none⟩ (.int .i64 ((k : Int) + (j : Int)))) g (ics (ys.set j ((k : Int) + (j : Int))))) := ⟨hset⟩
      have HG : Hid (w.grownBy (wr.setCell ⟨g, j, none⟩ (.int .i64 ((k : Int) + (j : Int)))) (some g)) := gb_two' hgr (gb_set' wr g j _)
      clear hset hyl hgr hw
      go_wp2_with fail
      go_roundw
      case rel => exact ⟨j + 1, _, by go_num, congrArg (Value.int .i64) (by omega), by omega, by rw [List.length_set]; exact HL.out, HS, HG.out⟩
      case measure => simp [intOf]; omega
    · have e : j = n := by omega
      subst e
      go_wp2_with fail
      go_ret
      exact ⟨rfl, ⟨ys, hyl, hw.out⟩, hgr⟩
end Go.Proofs.Ytdlgailodhlbmaa
/- NestA: Rows of rows of numbers in memory: one that is read, one that may be written, and what is turned of the world in between. Nothing of the program is read here. -/
namespace Go.Proofs.Ytdlgailodhlbmaa
open Go.RowKit

/-- What lies from lo up to hi may be turned, what lies beyond the end is new; all else is as it was. -/
structure Turned (w w' : World) (lo hi : Nat) : Prop where
  base : Below 0 w w'
  block : ∀ k, k < w.heap.size → (k < lo ∨ hi ≤ k) → w'.heap[k]? = w.heap[k]?
theorem Turned.refl (w : World) (lo hi : Nat) : Turned w w lo hi := ⟨Below.refl _ _, fun _ _ _ => rfl⟩
theorem Turned.trans {a b c : World} {lo hi : Nat} (h : Turned a b lo hi) (k : Turned b c lo hi) : Turned a c lo hi :=
  ⟨h.base.trans k.base, fun i hi' ho => (k.block i (Nat.lt_of_lt_of_le hi' h.base.size) ho).trans (h.block i hi' ho)⟩
theorem Turned.of_below {w w' : World} (h : Below w.heap.size w w') (lo hi : Nat) : Turned w w' lo hi := ⟨h.mono (Nat.zero_le _), fun k hk _ => h.block k hk⟩
theorem Turned.of_grown {w w' : World} {g lo hi : Nat} (h : w.grownBy w' (some g)) (h1 : lo ≤ g) (h2 : g < hi) : Turned w w' lo hi :=
  ⟨⟨h.os, h.tape, h.output, h.size, fun k hk => by omega⟩, fun k hk ho => h.block k hk (by intro e; cases e; omega)⟩
theorem Turned.wide {w w' : World} {lo hi lo' hi' : Nat} (h : Turned w w' lo hi) (h1 : lo' ≤ lo) (h2 : hi ≤ hi') : Turned w w' lo' hi' := ⟨h.base, fun k hk ho => h.block k hk (by omega)⟩
theorem Turned.below {w w' : World} {lo hi B : Nat} (h : Turned w w' lo hi) (h1 : B ≤ lo) (h2 : B ≤ w.heap.size) : Below B w w' :=
  ⟨h.base.os, h.base.tape, h.base.output, h.base.size, fun k hk => h.block k (by omega) (.inl (by omega))⟩
theorem Turned.size {w w' : World} {lo hi : Nat} (h : Turned w w' lo hi) : w.heap.size ≤ w'.heap.size := h.base.size

/-- A row of cells that is read, its block in a range. -/
def RRow (w : World) (a : Option Addr) (L : List Value) (lo hi : Nat) : Prop :=
  0 < L.length → ∃ b off, a = some ⟨b, off, none⟩ ∧ lo ≤ b ∧ b < hi ∧ b < w.heap.size ∧ ∀ i v, L[i]? = some v → w.cell? ⟨b, off + i, none⟩ = some v
theorem RRow.crow {w : World} {a : Option Addr} {L : List Value} {lo hi : Nat} (h : RRow w a L lo hi) : CRow w a L := fun hp => by
  obtain ⟨b, off, e, _, _, h3, h4⟩ := h hp
  exact ⟨b, off, e, h3, h4⟩
theorem RRow.of_crow {w : World} {a : Option Addr} {L : List Value} (h : CRow w a L) : RRow w a L 0 w.heap.size := fun hp => by
  obtain ⟨b, off, e, h3, h4⟩ := h hp
  exact ⟨b, off, e, Nat.zero_le _, h3, h3, h4⟩
theorem RRow.turned {w w' : World} {a : Option Addr} {L : List Value} {lo hi lo' hi' : Nat} (h : RRow w a L lo hi) (t : Turned w w' lo' hi') (hd : hi ≤ lo' ∨ hi' ≤ lo) : RRow w' a L lo hi := fun hp => by
  obtain ⟨b, off, e, h1, h2, h3, h4⟩ := h hp
  exact ⟨b, off, e, h1, h2, Nat.lt_of_lt_of_le h3 t.size, fun i v hv => (World.cell?_of_block (a := ⟨b, off + i, none⟩) (t.block b h3 (by omega))).trans (h4 i v hv)⟩
theorem RRow.below {w w' : World} {a : Option Addr} {L : List Value} {lo hi : Nat} (h : RRow w a L lo hi) (hb : Below w.heap.size w w') : RRow w' a L lo hi := fun hp => by
  obtain ⟨b, off, e, h1, h2, h3, h4⟩ := h hp
  exact ⟨b, off, e, h1, h2, Nat.lt_of_lt_of_le h3 hb.size, fun i v hv => (hb.cell (p := ⟨b, off + i, none⟩) h3).trans (h4 i v hv)⟩
theorem RRow.wide {w : World} {a : Option Addr} {L : List Value} {lo hi lo' hi' : Nat} (h : RRow w a L lo hi) (h1 : lo' ≤ lo) (h2 : hi ≤ hi') : RRow w a L lo' hi' := fun hp => by
  obtain ⟨b, off, e, q1, q2, q3, q4⟩ := h hp
  exact ⟨b, off, e, by omega, by omega, q3, q4⟩
theorem RRow.of_wcells {w : World} {g lo hi : Nat} {L : List Value} (h : WCells w g L) (h1 : lo ≤ g) (h2 : g < hi) : RRow w (some ⟨g, 0, none⟩) L lo hi := fun _ => ⟨g, 0, rfl, h1, h2, h.1, fun i v hv => by rw [Nat.zero_add]; exact (h.2 i v hv).1⟩
theorem WCells.turned {w w' : World} {g lo hi : Nat} {L : List Value} (h : WCells w g L) (t : Turned w w' lo hi) (hd : g < lo ∨ hi ≤ g) : WCells w' g L :=
  ⟨Nat.lt_of_lt_of_le h.1 t.size, fun i v hv => ⟨(World.cell?_of_block (a := ⟨g, i, none⟩) (t.block g h.1 hd)).trans (h.2 i v hv).1, (World.frozen?_of_block (a := ⟨g, i, none⟩) (t.block g h.1 hd)).trans (h.2 i v hv).2⟩⟩
theorem WCells.apart {w w' : World} {g q : Nat} {L : List Value} (h : WCells w g L) (t : w.grownBy w' (some q)) (hd : g ≠ q) : WCells w' g L :=
  h.turned (Turned.of_grown (lo := q) (hi := q + 1) t (Nat.le_refl _) (by omega)) (by omega)

/-- A row of numbers that stands in a row of rows. -/
structure SR where
  loc : Option Addr
  row : List Int
  cap : Nat
instance : Inhabited SR := ⟨⟨none, [], 0⟩⟩
def srv (s : SR) : Value := .slice s.loc s.row.length s.cap
def svs (ss : List SR) : List Value := ss.map srv
def rws (ss : List SR) : List (List Int) := ss.map (·.row)
theorem svs_len (ss : List SR) : (svs ss).length = ss.length := by simp [svs]
theorem rws_len (ss : List SR) : (rws ss).length = ss.length := by simp [rws]
theorem svs_get (ss : List SR) (i : Nat) (h : i < ss.length) : (svs ss)[i]? = some (srv ss[i]) := by simp [svs, h]
theorem rws_get (ss : List SR) (i : Nat) (h : i < ss.length) : (rws ss)[i]'(by rw [rws_len]; exact h) = ss[i].row := by simp [rws]
theorem rws_snoc (ss : List SR) (s : SR) : rws (ss ++ [s]) = rws ss ++ [s.row] := by simp [rws]
/-- A row of rows that is read, its blocks in a range. -/
def MR (w : World) (a : Option Addr) (ss : List SR) (lo hi : Nat) : Prop := RRow w a (svs ss) lo hi ∧ ∀ s ∈ ss, RRow w s.loc (ics s.row) lo hi
theorem MR.turned {w w' : World} {a : Option Addr} {ss : List SR} {lo hi lo' hi' : Nat} (h : MR w a ss lo hi) (t : Turned w w' lo' hi') (hd : hi ≤ lo' ∨ hi' ≤ lo) : MR w' a ss lo hi := ⟨h.1.turned t hd, fun s hs => (h.2 s hs).turned t hd⟩
theorem MR.below {w w' : World} {a : Option Addr} {ss : List SR} {lo hi : Nat} (h : MR w a ss lo hi) (hb : Below w.heap.size w w') : MR w' a ss lo hi := ⟨h.1.below hb, fun s hs => (h.2 s hs).below hb⟩
theorem MR.wide {w : World} {a : Option Addr} {ss : List SR} {lo hi lo' hi' : Nat} (h : MR w a ss lo hi) (h1 : lo' ≤ lo) (h2 : hi ≤ hi') : MR w a ss lo' hi' := ⟨h.1.wide h1 h2, fun s hs => (h.2 s hs).wide h1 h2⟩
theorem MR.nil (w : World) (a : Option Addr) (lo hi : Nat) : MR w a [] lo hi := ⟨fun h => by simp [svs] at h, by simp⟩
/-- What the walk wants of it: the outer row's place and cells. -/
theorem MR.at {w : World} {a : Option Addr} {ss : List SR} {lo hi : Nat} (h : MR w a ss lo hi) (hp : 0 < ss.length) : ∃ b off, a = some ⟨b, off, none⟩ ∧ b < w.heap.size ∧ ∀ i (hi : i < ss.length), w.cell? ⟨b, off + i, none⟩ = some (srv ss[i]) := by
  obtain ⟨b, off, e, _, _, h3, h4⟩ := h.1 (by rw [svs_len]; exact hp)
  exact ⟨b, off, e, h3, fun i hi => h4 i _ (svs_get ss i hi)⟩
/-- A row of rows that may be written: each row in a block of its own, all in a range. -/
structure MW (w : World) (g : Nat) (ss : List SR) (lo hi : Nat) : Prop where
  out : WCells w g (svs ss)
  glo : lo ≤ g
  ghi : g < hi
  rows : ∀ s ∈ ss, ∃ b, s.loc = some ⟨b, 0, none⟩ ∧ lo ≤ b ∧ b < hi ∧ b ≠ g ∧ WCells w b (ics s.row) ∧ s.row.length ≤ s.cap
  apart : (ss.map SR.loc).Nodup
theorem MW.mr {w : World} {g : Nat} {ss : List SR} {lo hi : Nat} (h : MW w g ss lo hi) : MR w (some ⟨g, 0, none⟩) ss lo hi :=
  ⟨RRow.of_wcells h.out h.glo h.ghi, fun s hs => by obtain ⟨b, e, h1, h2, _, h3, _⟩ := h.rows s hs; rw [e]; exact RRow.of_wcells h3 h1 h2⟩
theorem MW.turned {w w' : World} {g : Nat} {ss : List SR} {lo hi lo' hi' : Nat} (h : MW w g ss lo hi) (t : Turned w w' lo' hi') (hd : hi ≤ lo' ∨ hi' ≤ lo) : MW w' g ss lo hi :=
  ⟨h.out.turned t (by have := h.glo; have := h.ghi; omega), h.glo, h.ghi, fun s hs => by
    obtain ⟨b, e, h1, h2, h3, h4, h5⟩ := h.rows s hs
    exact ⟨b, e, h1, h2, h3, h4.turned t (by omega), h5⟩, h.apart⟩
theorem MW.below {w w' : World} {g : Nat} {ss : List SR} {lo hi : Nat} (h : MW w g ss lo hi) (hb : Below w.heap.size w w') : MW w' g ss lo hi :=
  ⟨h.out.below hb h.out.1, h.glo, h.ghi, fun s hs => by
    obtain ⟨b, e, h1, h2, h3, h4, h5⟩ := h.rows s hs
    exact ⟨b, e, h1, h2, h3, h4.below hb h4.1, h5⟩, h.apart⟩
theorem MW.wide {w : World} {g : Nat} {ss : List SR} {lo hi lo' hi' : Nat} (h : MW w g ss lo hi) (h1 : lo' ≤ lo) (h2 : hi ≤ hi') : MW w g ss lo' hi' :=
  ⟨h.out, Nat.le_trans h1 h.glo, Nat.lt_of_lt_of_le h.ghi h2, fun s hs => by
    obtain ⟨b, e, q1, q2, q3, q4, q5⟩ := h.rows s hs
    exact ⟨b, e, by omega, by omega, q3, q4, q5⟩, h.apart⟩
/-- An answer of rows of numbers: nothing, or a row of rows that may be written. -/
def MAns (w : World) (v : Value) (X : List (List Int)) (lo hi : Nat) : Prop :=
  ∃ (a : Option Addr) (cap : Nat) (ss : List SR), v = .slice a ss.length cap ∧ rws ss = X ∧ ss.length ≤ cap ∧ (ss = [] ∨ ∃ g, a = some ⟨g, 0, none⟩ ∧ MW w g ss lo hi)
theorem MAns.empty (w : World) (a : Option Addr) (cap lo hi : Nat) : MAns w (.slice a 0 cap) [] lo hi := ⟨a, cap, [], rfl, rfl, Nat.zero_le _, .inl rfl⟩
end Go.Proofs.Ytdlgailodhlbmaa
/- NestB: Rows of rows of numbers: the laws' own copies, sizes, comparisons and marks. -/
namespace Go.Proofs.Ytdlgailodhlbmaa
open Go.RowKit
attribute [local go_sem ↓] Go.wp_at_zero Go.wp_at_succ

theorem infoRow : (Try.prog.info? 32).map (fun i => (i.zero, i.size, i.bytes)) = some (some (.slice none 0 0), 1, 24) := by kernel_rfl
/-- Where the copy of a row of rows stands. -/
structure TI (w wr : World) (ss : List SR) (ts : List SR) : Prop where
  rweq : rws ts = rws (ss.take ts.length)
  out : WCells wr w.heap.size (svs ts ++ List.replicate (ss.length - ts.length) (.slice none 0 0))
  rows : ∀ s ∈ ts, ∃ b, s.loc = some ⟨b, 0, none⟩ ∧ w.heap.size ≤ b ∧ b < wr.heap.size ∧ b ≠ w.heap.size ∧ WCells wr b (ics s.row) ∧ s.row.length ≤ s.cap
  apart : (ts.map SR.loc).Nodup
  bel : Below w.heap.size w wr
theorem set_mid (A B : List Value) (x y : Value) (k : Nat) (h : A.length = k) : (A ++ x :: B).set k y = A ++ y :: B := by
  subst h
  rw [List.set_append_right _ _ (Nat.le_refl _)]
  simp
theorem TI.next {w wr w1 : World} {ss ts : List SR} {g1 : Nat} {row : List Int} {n : Nat} (h : TI w wr ss ts) (hk : ts.length < ss.length) (hrow : (ss[ts.length]).row = row) (hn : n = row.length) (hw : w.heap.size < wr.heap.size)
    (hg1 : wr.heap.size ≤ g1) (hc : WCells w1 g1 (ics row)) (hb : Below wr.heap.size wr w1) : TI w (w1.setCell ⟨w.heap.size, ts.length, none⟩ (.slice (some ⟨g1, 0, none⟩) n n)) ss (ts ++ [SR.mk (some ⟨g1, 0, none⟩) row row.length]) := by
  subst hn
  have hne : g1 ≠ w.heap.size := by omega
  have hsz : (w1.setCell ⟨w.heap.size, ts.length, none⟩ (.slice (some ⟨g1, 0, none⟩) row.length row.length)).heap.size = w1.heap.size := by simp [World.setCell]
  have hgs : w1.grownBy (w1.setCell ⟨w.heap.size, ts.length, none⟩ (.slice (some ⟨g1, 0, none⟩) row.length row.length)) (some w.heap.size) := gb_set' _ _ _ _
  refine ⟨?_, ?_, ?_, ?_, ?_⟩
  · rw [rws_snoc, h.rweq, List.length_append, List.length_singleton, List.take_succ_eq_append_getElem hk, rws_snoc, hrow]
  · have o := (h.out.below hb h.out.1).set ts.length (.slice (some ⟨g1, 0, none⟩) row.length row.length) (by rw [List.length_append, svs_len, List.length_replicate]; omega)
    obtain ⟨m, hm⟩ : ∃ m, ss.length - ts.length = m + 1 := ⟨ss.length - ts.length - 1, by omega⟩
    rw [hm, List.replicate_succ, set_mid _ _ _ _ _ (svs_len ts)] at o
    have e : svs (ts ++ [SR.mk (some ⟨g1, 0, none⟩) row row.length]) ++ List.replicate (ss.length - (ts ++ [SR.mk (some ⟨g1, 0, none⟩) row row.length]).length) (.slice none 0 0) = svs ts ++ .slice (some ⟨g1, 0, none⟩) row.length row.length :: List.replicate m (.slice none 0 0) := by
      rw [List.length_append, List.length_singleton, show ss.length - (ts.length + 1) = m by omega]
      simp [svs, srv]
    rw [e]
    exact o
  · intro s hs
    rcases List.mem_append.1 hs with h1 | h1
    · obtain ⟨b, e, q1, q2, q3, q4, q5⟩ := h.rows s h1
      exact ⟨b, e, q1, by rw [hsz]; exact Nat.lt_of_lt_of_le q2 hb.size, q3, (q4.below hb q4.1).apart hgs q3, q5⟩
    · simp at h1
      subst h1
      exact ⟨g1, rfl, by omega, by rw [hsz]; exact hc.1, hne, hc.apart hgs hne, Nat.le_refl _⟩
  · rw [List.map_append, List.nodup_append]
    refine ⟨h.apart, by simp, fun l hl l' hl' => ?_⟩
    obtain ⟨s, hs, rfl⟩ := List.mem_map.1 hl
    simp only [List.map_cons, List.map_nil, List.mem_singleton] at hl'
    subst hl'
    obtain ⟨b, e, _, q2, _⟩ := h.rows s hs
    rw [e]
    intro e2
    have e4 : b = g1 := congrArg Addr.block (Option.some.inj e2)
    omega
  · exact (h.bel.trans (hb.mono h.bel.size)).setCell (p := ⟨w.heap.size, ts.length, none⟩) (Nat.le_refl _) _
theorem TI.fin {w wr : World} {ss ts : List SR} (h : TI w wr ss ts) (hl : ts.length = ss.length) : rws ts = rws ss ∧ MW wr w.heap.size ts w.heap.size wr.heap.size := by
  refine ⟨by rw [h.rweq, hl, List.take_of_length_le (Nat.le_refl _)], ?_, Nat.le_refl _, h.out.1, h.rows, h.apart⟩
  have := h.out
  rwa [hl, Nat.sub_self, List.replicate_zero, List.append_nil] at this
/-- What a copy of a row of rows is. -/
def ToRows (ss : List SR) (w : World) (e : Ending) (w' : World) : Prop :=
  ∃ g ts, e = .returned (.slice (some ⟨g, 0, none⟩) ss.length ss.length) ∧ List.length (α := SR) ts = ss.length ∧ rws ts = rws ss ∧ MW w' g ts w.heap.size w'.heap.size ∧ Below w.heap.size w w'
/-- The size of rows of numbers, as the laws count it. -/
def msum : List SR → Nat
  | [] => 0
  | s :: ss => s.row.length + msum ss
theorem msum_take (ss : List SR) (k : Nat) (h : k < ss.length) : msum (ss.take (k + 1)) = msum (ss.take k) + ss[k].row.length := by
  induction ss generalizing k with
  | nil => simp at h
  | cons s ss ih =>
    cases k with
    | zero => simp [msum]
    | succ k =>
      have := ih k (by simpa using h)
      simp only [List.take_succ_cons, msum, this, List.getElem_cons_succ]
      omega
theorem msum_le (ss : List SR) (k : Nat) : msum (ss.take k) ≤ msum ss := by
  induction ss generalizing k with
  | nil => simp [msum]
  | cons s ss ih =>
    cases k with
    | zero => simp [msum]
    | succ k => have := ih k; simp only [List.take_succ_cons, msum]; omega
theorem msum_mem {ss : List SR} {s : SR} (h : s ∈ ss) : s.row.length ≤ msum ss := by
  induction ss with
  | nil => simp at h
  | cons t ss ih =>
    rcases List.mem_cons.1 h with rfl | h
    · simp only [msum]; omega
    · have := ih h; simp only [msum]; omega
/-- What is left of the room: or a number below 0. -/
def SzRows (left : Int) (n : Nat) (w : World) (e : Ending) (w' : World) : Prop := ∃ r : Int, e = .returned (.int .i64 r) ∧ w' = w ∧ ((n : Int) ≤ left → r = left - n) ∧ (left < n → r < 0)
end Go.Proofs.Ytdlgailodhlbmaa
/- NestC: Rows of rows of numbers: the laws' own comparisons, marks that are laid into one, and found again. -/
namespace Go.Proofs.Ytdlgailodhlbmaa
open Go.RowKit
attribute [local go_sem ↓] Go.wp_at_zero Go.wp_at_succ

set_option maxHeartbeats 1000000 in
theorem eqIntSS_same (a b : Option Addr) (ss tt : List SR) (ca cb : Nat) (w : World) (lo hi lo' hi' : Nat) (ha : MR w a ss lo hi) (hb : MR w b tt lo' hi') (he : rws ss = rws tt) (hl : ss.length ≤ 1048576) (hrl : ∀ s ∈ ss, s.row.length ≤ 1048576) :
    Calls Try.prog 25 #[.slice a ss.length ca, .slice b tt.length cb] w fun e w' => e = .returned (.bool true) ∧ Below w.heap.size w w' := by
  have hlen : tt.length = ss.length := by have := congrArg List.length he; rw [rws_len, rws_len] at this; exact this.symm
  rw [hlen]
  have HA : Hid (MR w a ss lo hi) := ha
  have HB : Hid (MR w b tt lo' hi') := hb
  have HE : Hid (rws ss = rws tt ∧ tt.length = ss.length ∧ ∀ s ∈ ss, s.row.length ≤ 1048576) := ⟨he, hlen, hrl⟩
  clear ha hb he hlen hrl
  go_enter Try.func25, Try.ntmps25
  go_wp2_with fail
  go_loopw [5] (fun i wr => ∃ (k : Nat), i = .int .i64 k ∧ k ≤ ss.length ∧ Below w.heap.size w wr) (fun i _ => ss.length - (intOf i).toNat)
  case atStart => exact ⟨0, rfl, Nat.zero_le _, Below.refl _ _⟩
  case round =>
    obtain ⟨k, rfl, hk, hbl⟩ := hrel
    by_cases hlt : k < ss.length
    · have hlt2 : k < tt.length := by rw [HE.out.2.1]; exact hlt
      have HA' := HA.out.below hbl
      have HB' := HB.out.below hbl
      obtain ⟨b1, o1, rfl, l1, hc1⟩ := HA'.at (by omega)
      obtain ⟨b2, o2, rfl, l2, hc2⟩ := HB'.at (by omega)
      have d1 := hc1 k hlt
      have d2 := hc2 k hlt2
      have r1 := HA'.2 ss[k] (List.getElem_mem hlt)
      have r2 := HB'.2 tt[k] (List.getElem_mem hlt2)
      have hrr : ss[k].row = tt[k].row := by
        rw [← rws_get ss k hlt, ← rws_get tt k hlt2]
        simp only [HE.out.1]
      have hle := HE.out.2.2 ss[k] (List.getElem_mem hlt)
      generalize ss[k] = s1 at *
      generalize tt[k] = s2 at *
      obtain ⟨loc1, row1, cp1⟩ := s1
      obtain ⟨loc2, row2, cp2⟩ := s2
      simp only [srv] at d1 d2 r1 r2 hrr hle
      subst hrr
      have HCALL : Hid (∀ W : World, Below wr.heap.size wr W → Calls Try.prog 58 #[.slice loc1 row1.length cp1, .slice loc2 row1.length cp2] W fun e w' => e = .returned (.bool true) ∧ Below W.heap.size W w') := fun W hW => eqIntS_same loc1 loc2 row1 cp1 cp2 W (r1.crow.stays hW) (r2.crow.stays hW) hle
      have HS : Hid (Below w.heap.size w wr) := hbl
      have k0 : (0 : Int) ≤ (k : Int) := by omega
      have k1 : (k : Int) < (ss.length : Int) := by omega
      clear hc1 hc2 hbl r1 r2 HA' HB' hle
      generalize row1.length = m at *
      go_wp2_with fail
      go_region_held3 (fun w' => w'.cell? ⟨b1, o1 + k, none⟩ = some (.slice loc1 m cp1) ∧ w'.cell? ⟨b2, o2 + k, none⟩ = some (.slice loc2 m cp2))
        (first | go_keep | (refine ⟨?_, ?_⟩ <;> first | (rw [hb2.cell (by exact l1)]; simp [*]) | (rw [hb2.cell (by exact l2)]; simp [*])))
        ((go_at_call 58; refine (HCALL.out _ (Below.drew (Below.refl _ _))).mono ?_; rintro e w2 ⟨rfl, hb2⟩))
      all_goals go_wp2_with fail
      all_goals
        have hb3 : Below w.heap.size w w2 := HS.out.trans ((Below.drew (Below.refl _ _)).trans (hb2.mono HS.out.size))
        exact ⟨⟨k + 1, by go_num, by omega, hb3⟩, by simp [intOf]; omega⟩
    · have e : k = ss.length := by omega
      have HS : Hid (Below w.heap.size w wr) := hbl
      subst e
      clear hbl
      go_wp2_with fail
      go_ret
      exact ⟨rfl, HS.out⟩
set_option maxHeartbeats 1000000 in
theorem sameInts_same (a b : Option Addr) (xs : List Int) (ca cb : Nat) (w : World) (ha : CRow w a (ics xs)) (hb : CRow w b (ics xs)) (hl : xs.length ≤ 1048576) :
    Calls Try.prog 51 #[.slice a xs.length ca, .slice b xs.length cb] w fun e w' => e = .returned (.bool true) ∧ Below w.heap.size w w' := by
  have HA : Hid (CRow w a (ics xs)) := ha
  have HB : Hid (CRow w b (ics xs)) := hb
  clear ha hb
  go_enter Try.func51, Try.ntmps51
  go_wp2_with fail
  go_loopw [5] (fun i wr => ∃ (k : Nat), i = .int .i64 k ∧ k ≤ xs.length ∧ Below w.heap.size w wr) (fun i _ => xs.length - (intOf i).toNat)
  case atStart => exact ⟨0, rfl, Nat.zero_le _, Below.refl _ _⟩
  case round =>
    obtain ⟨k, rfl, hk, hbl⟩ := hrel
    by_cases hlt : k < xs.length
    · obtain ⟨b1, o1, rfl, l1, hc1⟩ := crow_int (HA.out.stays hbl) (by omega)
      obtain ⟨b2, o2, rfl, l2, hc2⟩ := crow_int (HB.out.stays hbl) (by omega)
      have d0 := hc1 k hlt
      have e0 := hc2 k hlt
      have k0 : (0 : Int) ≤ (k : Int) := by omega
      have k1 : (k : Int) < (xs.length : Int) := by omega
      have hbn : ∀ q, Below w.heap.size w (wr.drewN q) := fun q => hbl.trans ⟨rfl, rfl, rfl, Nat.le_refl _, fun _ _ => rfl⟩
      generalize xs.getD k 0 = x at d0 e0
      clear hc1 hc2 hbl
      go_wp2_with fail
      go_quiet (fail)
      go_wp2_with fail
      go_roundw
      case rel => exact ⟨k + 1, by go_num, by omega, hbn _⟩
      case measure => simp [intOf]; omega
    · have e : k = xs.length := by omega
      subst e
      go_wp2_with fail
      go_ret
      exact ⟨rfl, hbl⟩
set_option maxHeartbeats 1000000 in
theorem sameMatrix_same (a b : Option Addr) (ss tt : List SR) (ca cb : Nat) (w : World) (lo hi lo' hi' : Nat) (ha : MR w a ss lo hi) (hb : MR w b tt lo' hi') (he : rws ss = rws tt) (hl : ss.length ≤ 1048576) (hrl : ∀ s ∈ ss, s.row.length ≤ 1048576) :
    Calls Try.prog 20 #[.slice a ss.length ca, .slice b tt.length cb] w fun e w' => e = .returned (.bool true) ∧ Below w.heap.size w w' := by
  have hlen : tt.length = ss.length := by have := congrArg List.length he; rw [rws_len, rws_len] at this; exact this.symm
  rw [hlen]
  have HA : Hid (MR w a ss lo hi) := ha
  have HB : Hid (MR w b tt lo' hi') := hb
  have HE : Hid (rws ss = rws tt ∧ tt.length = ss.length ∧ ∀ s ∈ ss, s.row.length ≤ 1048576) := ⟨he, hlen, hrl⟩
  clear ha hb he hlen hrl
  go_enter Try.func20, Try.ntmps20
  go_wp2_with fail
  go_loopw [5] (fun i wr => ∃ (k : Nat), i = .int .i64 k ∧ k ≤ ss.length ∧ Below w.heap.size w wr) (fun i _ => ss.length - (intOf i).toNat)
  case atStart => exact ⟨0, rfl, Nat.zero_le _, Below.refl _ _⟩
  case round =>
    obtain ⟨k, rfl, hk, hbl⟩ := hrel
    by_cases hlt : k < ss.length
    · have hlt2 : k < tt.length := by rw [HE.out.2.1]; exact hlt
      have HA' := HA.out.below hbl
      have HB' := HB.out.below hbl
      obtain ⟨b1, o1, rfl, l1, hc1⟩ := HA'.at (by omega)
      obtain ⟨b2, o2, rfl, l2, hc2⟩ := HB'.at (by omega)
      have d1 := hc1 k hlt
      have d2 := hc2 k hlt2
      have r1 := HA'.2 ss[k] (List.getElem_mem hlt)
      have r2 := HB'.2 tt[k] (List.getElem_mem hlt2)
      have hrr : ss[k].row = tt[k].row := by
        rw [← rws_get ss k hlt, ← rws_get tt k hlt2]
        simp only [HE.out.1]
      have hle := HE.out.2.2 ss[k] (List.getElem_mem hlt)
      generalize ss[k] = s1 at *
      generalize tt[k] = s2 at *
      obtain ⟨loc1, row1, cp1⟩ := s1
      obtain ⟨loc2, row2, cp2⟩ := s2
      simp only [srv] at d1 d2 r1 r2 hrr hle
      subst hrr
      have HCALL : Hid (∀ W : World, Below wr.heap.size wr W → Calls Try.prog 51 #[.slice loc1 row1.length cp1, .slice loc2 row1.length cp2] W fun e w' => e = .returned (.bool true) ∧ Below W.heap.size W w') := fun W hW => sameInts_same loc1 loc2 row1 cp1 cp2 W (r1.crow.stays hW) (r2.crow.stays hW) hle
      have HS : Hid (Below w.heap.size w wr) := hbl
      have k0 : (0 : Int) ≤ (k : Int) := by omega
      have k1 : (k : Int) < (ss.length : Int) := by omega
      clear hc1 hc2 hbl r1 r2 HA' HB' hle
      generalize row1.length = m at *
      go_wp2_with fail
      go_region_held3 (fun w' => w'.cell? ⟨b1, o1 + k, none⟩ = some (.slice loc1 m cp1) ∧ w'.cell? ⟨b2, o2 + k, none⟩ = some (.slice loc2 m cp2))
        (first | go_keep | (refine ⟨?_, ?_⟩ <;> first | (rw [hb2.cell (by exact l1)]; simp [*]) | (rw [hb2.cell (by exact l2)]; simp [*])))
        ((go_at_call 51; refine (HCALL.out _ (Below.drew (Below.refl _ _))).mono ?_; rintro e w2 ⟨rfl, hb2⟩))
      all_goals go_wp2_with fail
      all_goals
        have hb3 : Below w.heap.size w w2 := HS.out.trans ((Below.drew (Below.refl _ _)).trans (hb2.mono HS.out.size))
        exact ⟨⟨k + 1, by go_num, by omega, hb3⟩, by simp [intOf]; omega⟩
    · have e : k = ss.length := by omega
      have HS : Hid (Below w.heap.size w wr) := hbl
      subst e
      clear hbl
      go_wp2_with fail
      go_ret
      exact ⟨rfl, HS.out⟩
set_option maxHeartbeats 1000000 in
theorem markIntS_marks (g : Nat) (xs : List Int) (k ca : Nat) (w : World) (ha : WCells w g (ics xs)) (hn : k + xs.length ≤ 1000000000) (hca : xs.length ≤ ca) :
    Calls Try.prog 59 #[.slice (some ⟨g, 0, none⟩) xs.length ca, .int .i64 k] w fun e w' => e = .returned (.int .i64 (k + xs.length : Nat)) ∧ WCells w' g (ics (marksI k xs.length)) ∧ w.grownBy w' (some g) := by
  obtain ⟨n, hnx⟩ : ∃ n, n = xs.length := ⟨_, rfl⟩
  have HN : Hid (n = xs.length) := hnx
  rw [← hnx]
  rw [← hnx] at hn hca
  clear hnx
  have HA : Shut (WCells w g (ics xs)) := ⟨ha⟩
  clear ha
  go_enter Try.func59, Try.ntmps59
  go_wp2_with fail
  go_loopw [1, 5] (fun c i wr => ∃ (j : Nat) (ys : List Int), i = .int .i64 j ∧ c = .int .i64 (k + j : Nat) ∧ j ≤ n ∧ Shut (ys.length = n ∧ ∀ t, t < j → ys.getD t 0 = ((k + t : Nat) : Int)) ∧ Shut (WCells wr g (ics ys)) ∧ w.grownBy wr (some g)) (fun _ i _ => n - (intOf i).toNat)
  case atStart => exact ⟨0, xs, rfl, rfl, Nat.zero_le _, ⟨HN.out.symm, fun t ht => by omega⟩, HA, ⟨rfl, rfl, rfl, Nat.le_refl _, fun _ _ _ => rfl⟩⟩
  case round =>
    obtain ⟨j, ys, rfl, rfl, hj, hyl, hw, hgr⟩ := hrel
    by_cases hlt : j < n
    · have j0 : (0 : Int) ≤ (j : Int) := by omega
      have j1 : (j : Int) < (n : Int) := by omega
      obtain ⟨c0, z0⟩ := hw.out.2 j _ (ics_get ys j (by rw [hyl.out.1]; exact hlt))
      have hset := hw.out.set j (.int .i64 ((k : Int) + (j : Int))) (by rw [ics_len, hyl.out.1]; omega)
      rw [ics_set] at hset
      have HS : Shut (WCells (wr.setCell ⟨g, j, none⟩ (.int .i64 ((k : Int) + (j : Int)))) g (ics (ys.set j ((k : Int) + (j : Int))))) := ⟨hset⟩
      have HG : Hid (w.grownBy (wr.setCell ⟨g, j, none⟩ (.int .i64 ((k : Int) + (j : Int)))) (some g)) := gb_two' hgr (gb_set' wr g j _)
      have HY : Shut ((ys.set j ((k : Int) + (j : Int))).length = n ∧ ∀ t, t < j + 1 → (ys.set j ((k : Int) + (j : Int))).getD t 0 = ((k + t : Nat) : Int)) := ⟨by rw [List.length_set]; exact hyl.out.1, fun t ht => by
        by_cases e : t = j
        · subst e; simp [List.getD, show t < ys.length by rw [hyl.out.1]; exact hlt]
        · have := hyl.out.2 t (by omega)
          simpa [List.getD, List.getElem?_set, Ne.symm e] using this⟩
      clear hset hyl hgr hw
      go_wp2_with fail
      go_roundw
      case rel => exact ⟨j + 1, _, by go_num, congrArg (Value.int .i64) (by omega), by omega, HY, HS, HG.out⟩
      case measure => simp [intOf]; omega
    · have e : j = n := by omega
      subst e
      have ey : ys = marksI k j := by
        apply List.ext_getElem
        · rw [hyl.out.1, marksI_len]
        · intro t h1 h2
          have h3 := hyl.out.2 t (by rw [hyl.out.1] at h1; exact h1)
          have h4 := marksI_at k j t (by rw [hyl.out.1] at h1; exact h1)
          rw [← h4] at h3
          simpa [List.getD, h1, h2] using h3
      have HW : Shut (WCells wr g (ics (marksI k j))) := ⟨by rw [← ey]; exact hw.out⟩
      clear ey hyl hw
      go_wp2_with fail
      go_ret
      exact ⟨rfl, HW.out, hgr⟩
set_option maxHeartbeats 1000000 in
theorem heldIntS_marks (a : Option Addr) (k n ca : Nat) (w : World) (ha : CRow w a (ics (marksI k n))) (hn : k + n ≤ 1000000000) :
    Calls Try.prog 60 #[.slice a n ca, .int .i64 k] w fun e w' => e = .returned (.int .i64 (k + n : Nat)) ∧ Below w.heap.size w w' := by
  have HA : Hid (CRow w a (ics (marksI k n))) := ha
  clear ha
  go_enter Try.func60, Try.ntmps60
  go_wp2_with fail
  go_loopw [1, 5] (fun c i wr => ∃ (j : Nat), i = .int .i64 j ∧ c = .int .i64 (k + j : Nat) ∧ j ≤ n ∧ Below w.heap.size w wr) (fun _ i _ => n - (intOf i).toNat)
  case atStart => exact ⟨0, rfl, rfl, Nat.zero_le _, Below.refl _ _⟩
  case round =>
    obtain ⟨j, rfl, rfl, hj, hbl⟩ := hrel
    by_cases hlt : j < n
    · obtain ⟨b1, o1, rfl, l1, hc1⟩ := crow_int (HA.out.stays hbl) (by rw [marksI_len]; omega)
      have d0 := hc1 j (by rw [marksI_len]; exact hlt)
      rw [marksI_at k n j hlt] at d0
      have j0 : (0 : Int) ≤ (j : Int) := by omega
      have j1 : (j : Int) < (n : Int) := by omega
      have hbn : ∀ q, Below w.heap.size w (wr.drewN q) := fun q => hbl.trans ⟨rfl, rfl, rfl, Nat.le_refl _, fun _ _ => rfl⟩
      have HB0 : Hid (Below w.heap.size w wr) := hbl
      clear hc1 hbl
      go_wp2_with fail
      all_goals (try go_quiet (fail))
      all_goals go_wp2_with fail
      all_goals exact ⟨⟨j + 1, by go_num, congrArg (Value.int .i64) (by omega), by omega, by first | exact hbn _ | exact HB0.out⟩, by simp [intOf]; omega⟩
    · have e : j = n := by omega
      subst e
      go_wp2_with fail
      go_ret
      exact ⟨rfl, hbl⟩
end Go.Proofs.Ytdlgailodhlbmaa
/- NestD: Rows of rows of numbers: marks that are laid into all of them, and found again. -/
namespace Go.Proofs.Ytdlgailodhlbmaa
open Go.RowKit
attribute [local go_sem ↓] Go.wp_at_zero Go.wp_at_succ

/-- One row of a row of rows is written anew. -/
theorem MW.setRow {w w' : World} {g : Nat} {ss : List SR} {lo hi : Nat} (h : MW w g ss lo hi) {i b : Nat} (hi' : i < ss.length) (hloc : ss[i].loc = some ⟨b, 0, none⟩) {row : List Int} (hlen : row.length = ss[i].row.length)
    (hg : w.grownBy w' (some b)) (hc : WCells w' b (ics row)) : MW w' g (ss.set i { ss[i] with row := row }) lo hi := by
  obtain ⟨b', e', q1, q2, q3, _, q5⟩ := h.rows ss[i] (List.getElem_mem hi')
  obtain rfl : b' = b := congrArg Addr.block (Option.some.inj (e'.symm.trans hloc))
  have hmap : (ss.set i { ss[i] with row := row }).map SR.loc = ss.map SR.loc := by
    rw [List.map_set]
    show (ss.map SR.loc).set i ss[i].loc = _
    rw [show ss[i].loc = (ss.map SR.loc)[i]'(by simpa using hi') by simp, List.set_getElem_self]
  have hsv : svs (ss.set i { ss[i] with row := row }) = svs ss := by
    unfold svs
    rw [List.map_set]
    have : srv { ss[i] with row := row } = (ss.map srv)[i]'(by simpa using hi') := by simp [srv, hlen]
    rw [this, List.set_getElem_self]
  refine ⟨?_, h.glo, h.ghi, fun s hs => ?_, by rw [hmap]; exact h.apart⟩
  · rw [hsv]; exact h.out.apart hg (Ne.symm q3)
  · obtain ⟨j, hj, rfl⟩ := List.mem_iff_getElem.1 hs
    rw [List.length_set] at hj
    by_cases e : i = j
    · subst e
      rw [List.getElem_set_self]
      exact ⟨b', hloc, q1, q2, q3, hc, by show row.length ≤ ss[i].cap; omega⟩
    · rw [List.getElem_set_ne e]
      obtain ⟨c, f, p1, p2, p3, p4, p5⟩ := h.rows ss[j] (List.getElem_mem hj)
      refine ⟨c, f, p1, p2, p3, p4.apart hg ?_, p5⟩
      intro ec
      subst ec
      have hn := h.apart
      rw [List.nodup_iff_pairwise_ne, List.pairwise_iff_getElem] at hn
      rcases Nat.lt_or_gt_of_ne e with h1 | h1
      · have := hn i j (by simpa using hi') (by simpa using hj) h1
        simp at this
        exact this (e'.trans f.symm)
      · have := hn j i (by simpa using hj) (by simpa using hi') h1
        simp at this
        exact this (f.trans e'.symm)
/-- A row of rows that is marked from k on. -/
structure Marked (k : Nat) (ss ts : List SR) (j : Nat) : Prop where
  len : ts.length = ss.length
  same : ∀ i (h : i < ss.length), ts[i].loc = ss[i].loc ∧ ts[i].cap = ss[i].cap ∧ ts[i].row.length = ss[i].row.length
  marks : ∀ i (h : i < ss.length), i < j → ts[i].row = marksI (k + msum (ss.take i)) ss[i].row.length
theorem Marked.start (k : Nat) (ss : List SR) : Marked k ss ss 0 := ⟨rfl, fun _ _ => ⟨rfl, rfl, rfl⟩, fun i _ h => by omega⟩
theorem Marked.next {k : Nat} {ss ts : List SR} {j : Nat} (h : Marked k ss ts j) (hj : j < ss.length) : Marked k ss (ts.set j { ts[j]'(by rw [h.len]; exact hj) with row := marksI (k + msum (ss.take j)) ss[j].row.length }) (j + 1) := by
  have hj' : j < ts.length := by rw [h.len]; exact hj
  refine ⟨by rw [List.length_set]; exact h.len, fun i hi => ?_, fun i hi hij => ?_⟩
  · by_cases e : j = i
    · subst e
      rw [List.getElem_set_self]
      exact ⟨(h.same j hj).1, (h.same j hj).2.1, by rw [marksI_len]⟩
    · rw [List.getElem_set_ne e]; exact h.same i hi
  · by_cases e : j = i
    · subst e
      rw [List.getElem_set_self]
    · rw [List.getElem_set_ne e]; exact h.marks i hi (by omega)
set_option maxHeartbeats 1000000 in
theorem markIntSS_any (g : Nat) (ss : List SR) (k ca : Nat) (w : World) (lo hi : Nat) (ha : MW w g ss lo hi) (hn : k + msum ss ≤ 1000000000) (hl : ss.length ≤ 1048576) :
    Calls Try.prog 26 #[.slice (some ⟨g, 0, none⟩) ss.length ca, .int .i64 k] w fun e w' => ∃ ts, e = .returned (.int .i64 (k + msum ss : Nat)) ∧ Marked k ss ts ss.length ∧ MW w' g ts lo hi ∧ Turned w w' lo hi := by
  obtain ⟨n, hnx⟩ : ∃ n, n = ss.length := ⟨_, rfl⟩
  have HN : Hid (n = ss.length) := hnx
  rw [← hnx]
  rw [← hnx] at hl
  clear hnx
  have HA : Shut (MW w g ss lo hi) := ⟨ha⟩
  clear ha
  go_enter Try.func26, Try.ntmps26
  go_wp2_with fail
  go_loopw [1, 5] (fun c i wr => ∃ (j : Nat) (ts : List SR), i = .int .i64 j ∧ c = .int .i64 (k + msum (ss.take j) : Nat) ∧ j ≤ n ∧ Shut (Marked k ss ts j) ∧ Shut (MW wr g ts lo hi) ∧ Shut (Turned w wr lo hi)) (fun _ i _ => n - (intOf i).toNat)
  case atStart => exact ⟨0, ss, rfl, by simp [msum], Nat.zero_le _, ⟨Marked.start k ss⟩, HA, ⟨Turned.refl _ _ _⟩⟩
  case round =>
    clear HA
    obtain ⟨j, ts, rfl, rfl, hj, hmk, hmw, htu⟩ := hrel
    by_cases hlt : j < n
    · have hlt' : j < ss.length := by have := HN.out; omega
      have hltt : j < ts.length := by rw [hmk.out.len]; exact hlt'
      have j0 : (0 : Int) ≤ (j : Int) := by omega
      have j1 : (j : Int) < (n : Int) := by omega
      obtain ⟨b, e1, q1, q2, q3, q4, q5⟩ := hmw.out.rows ts[j] (List.getElem_mem hltt)
      obtain ⟨c0, _⟩ := hmw.out.out.2 j _ (svs_get ts j hltt)
      have hmt := msum_take ss j hlt'
      have hml := msum_le ss (j + 1)
      obtain ⟨s1, s2, s3⟩ := hmk.out.same j hlt'
      have hcall := markIntS_marks b ts[j].row (k + msum (ss.take j)) ts[j].cap wr q4 (by omega) q5
      have hnext := hmk.out.next hlt'
      unfold srv at c0
      rw [e1] at c0
      rw [s3] at c0 hcall
      have HSET : Hid (∀ w' : World, wr.grownBy w' (some b) → WCells w' b (ics (marksI (k + msum (ss.take j)) ss[j].row.length)) → MW w' g (ts.set j { ts[j] with row := marksI (k + msum (ss.take j)) ss[j].row.length }) lo hi) := fun w' hg hc => hmw.out.setRow hltt e1 (by rw [marksI_len, s3]) hg hc
      have HTU : Hid (∀ w' : World, wr.grownBy w' (some b) → Turned w w' lo hi) := fun w' hg => htu.out.trans (Turned.of_grown hg q1 q2)
      generalize ts[j].cap = cp at *
      generalize ss[j].row.length = m at *
      obtain ⟨kk, hkk⟩ : ∃ kk, kk = k + msum (ss.take j) := ⟨_, rfl⟩
      have HKK : Hid (k + msum (ss.take (j + 1)) = kk + m) := by show k + msum (ss.take (j + 1)) = kk + m; omega
      rw [← hkk] at hcall hnext HSET ⊢
      have HNX : Shut (Marked k ss (ts.set j { ts[j] with row := marksI kk m }) (j + 1)) := ⟨hnext⟩
      have HCALL : Hid (Calls Try.prog 59 #[.slice (some ⟨b, 0, none⟩) m cp, .int .i64 kk] wr fun e w' => e = .returned (.int .i64 (kk + m : Nat)) ∧ WCells w' b (ics (marksI kk m)) ∧ wr.grownBy w' (some b)) := hcall
      clear hcall hnext hkk hmt hml s1 s2 s3 q4 q5 hmk hmw htu
      go_wp2_with fail
      refine HCALL.out.mono ?_
      rintro e w1 ⟨rfl, hw1, hg1⟩
      have HM : Shut (MW w1 g (ts.set j { ts[j] with row := marksI kk m }) lo hi) := ⟨HSET.out w1 hg1 hw1⟩
      have HT : Shut (Turned w w1 lo hi) := ⟨HTU.out w1 hg1⟩
      clear hw1 hg1 HSET HTU
      go_wp2_with fail
      go_roundw
      case rel => exact ⟨j + 1, _, by go_num, congrArg (Value.int .i64) (by have := HKK.out; omega), by omega, HNX, HM, HT⟩
      case measure => simp [intOf]; omega
    · have e : j = n := by omega
      subst e
      have HS : Hid (msum (ss.take j) = msum ss) := by
        have : msum (ss.take j) = msum ss := by rw [List.take_of_length_le (by have := HN.out; omega)]
        exact this
      go_wp2_with fail
      go_ret
      exact ⟨ts, by rw [HS.out]; rfl, hmk.out, hmw.out, htu.out⟩
set_option maxHeartbeats 1000000 in
theorem heldIntSS_any (a : Option Addr) (ss ts : List SR) (k ca : Nat) (w : World) (lo hi : Nat) (ha : MR w a ts lo hi) (hm : Marked k ss ts ss.length) (hn : k + msum ss ≤ 1000000000) (hl : ss.length ≤ 1048576) :
    Calls Try.prog 27 #[.slice a ss.length ca, .int .i64 k] w fun e w' => e = .returned (.int .i64 (k + msum ss : Nat)) ∧ Below w.heap.size w w' := by
  obtain ⟨n, hnx⟩ : ∃ n, n = ss.length := ⟨_, rfl⟩
  have HN : Hid (n = ss.length) := hnx
  rw [← hnx]
  rw [← hnx] at hl
  clear hnx
  have HA : Shut (MR w a ts lo hi) := ⟨ha⟩
  have HM : Shut (Marked k ss ts ss.length) := ⟨hm⟩
  clear ha hm
  go_enter Try.func27, Try.ntmps27
  go_wp2_with fail
  go_loopw [1, 5] (fun c i wr => ∃ (j : Nat), i = .int .i64 j ∧ c = .int .i64 (k + msum (ss.take j) : Nat) ∧ j ≤ n ∧ Below w.heap.size w wr) (fun _ i _ => n - (intOf i).toNat)
  case atStart => exact ⟨0, rfl, by simp [msum], Nat.zero_le _, Below.refl _ _⟩
  case round =>
    obtain ⟨j, rfl, rfl, hj, hbl⟩ := hrel
    by_cases hlt : j < n
    · have hlt' : j < ss.length := by have := HN.out; omega
      have hltt : j < ts.length := by rw [HM.out.len]; exact hlt'
      have j0 : (0 : Int) ≤ (j : Int) := by omega
      have j1 : (j : Int) < (n : Int) := by omega
      have HA' := HA.out.below hbl
      obtain ⟨b, off, rfl, lb, hc⟩ := HA'.at (by omega)
      have c0 := hc j hltt
      have hr := (HA'.2 ts[j] (List.getElem_mem hltt)).crow
      have hmt := msum_take ss j hlt'
      have hml := msum_le ss (j + 1)
      have s3 := (HM.out.same j hlt').2.2
      have hmk := HM.out.marks j hlt' hlt'
      rw [hmk] at hr
      unfold srv at c0
      rw [s3] at c0
      have hcall := heldIntS_marks ts[j].loc (k + msum (ss.take j)) ss[j].row.length ts[j].cap wr hr (by omega)
      generalize ts[j].cap = cp at *
      generalize ts[j].loc = loc at *
      generalize ss[j].row.length = m at *
      obtain ⟨kk, hkk⟩ : ∃ kk, kk = k + msum (ss.take j) := ⟨_, rfl⟩
      have HKK : Hid (k + msum (ss.take (j + 1)) = kk + m) := by show k + msum (ss.take (j + 1)) = kk + m; omega
      rw [← hkk] at hcall ⊢
      have HCALL : Hid (Calls Try.prog 60 #[.slice loc m cp, .int .i64 kk] wr fun e w' => e = .returned (.int .i64 (kk + m : Nat)) ∧ Below wr.heap.size wr w') := hcall
      have HB : Hid (Below w.heap.size w wr) := hbl
      have hpos : ¬ ((kk : Int) + (m : Int) < 0) := by omega
      clear hcall hkk hmt hml s3 hmk hr hc HA' hbl
      go_wp2_with fail
      refine HCALL.out.mono ?_
      rintro e w1 ⟨rfl, hb1⟩
      have HB1 : Hid (Below w.heap.size w w1) := HB.out.trans (hb1.mono HB.out.size)
      clear hb1
      go_wp2_with fail
      go_roundw
      case rel => exact ⟨j + 1, by go_num, congrArg (Value.int .i64) (by have := HKK.out; omega), by omega, HB1.out⟩
      case measure => simp [intOf]; omega
    · have e : j = n := by omega
      subst e
      have HS : Hid (msum (ss.take j) = msum ss) := by
        have : msum (ss.take j) = msum ss := by rw [List.take_of_length_le (by have := HN.out; omega)]
        exact this
      have HB : Hid (Below w.heap.size w wr) := hbl
      clear hbl
      go_wp2_with fail
      go_ret
      exact ⟨by rw [HS.out]; rfl, HB.out⟩
end Go.Proofs.Ytdlgailodhlbmaa
/- NestE: Rows of rows of numbers as values: what is seen of one, what an answer is, what is marked, and the laws' own functions over them. -/
namespace Go.Proofs.Ytdlgailodhlbmaa
open Go.RowKit

/-- How many numbers there are. -/
def xsum : List (List Int) → Nat
  | [] => 0
  | x :: X => x.length + xsum X
theorem msum_rws (ss : List SR) : msum ss = xsum (rws ss) := by
  induction ss with
  | nil => rfl
  | cons s ss ih => simp only [msum, rws, List.map_cons, xsum]; rw [ih]; rfl
theorem xsum_mem {X : List (List Int)} {x : List Int} (h : x ∈ X) : x.length ≤ xsum X := by
  induction X with
  | nil => simp at h
  | cons t X ih =>
    rcases List.mem_cons.1 h with rfl | h
    · simp only [xsum]; omega
    · have := ih h; simp only [xsum]; omega
/-- A value that is these rows of numbers. -/
def MSee (w : World) (v : Value) (X : List (List Int)) (lo hi : Nat) : Prop := ∃ (a : Option Addr) (cap : Nat) (ss : List SR), v = .slice a ss.length cap ∧ rws ss = X ∧ MR w a ss lo hi
/-- A value that was marked from k on, where it was these rows of numbers. -/
def MHeld (w : World) (v : Value) (k : Nat) (X : List (List Int)) (lo hi : Nat) : Prop := ∃ (a : Option Addr) (cap : Nat) (ss ts : List SR), v = .slice a ss.length cap ∧ rws ss = X ∧ Marked k ss ts ss.length ∧ MR w a ts lo hi
theorem MAns.see {w : World} {v : Value} {X : List (List Int)} {lo hi : Nat} (h : MAns w v X lo hi) : MSee w v X lo hi := by
  obtain ⟨a, cap, ss, e, hr, _, h1⟩ := h
  refine ⟨a, cap, ss, e, hr, ?_⟩
  rcases h1 with rfl | ⟨g, rfl, hm⟩
  · exact MR.nil _ _ _ _
  · exact hm.mr
theorem MSee.turned {w w' : World} {v : Value} {X : List (List Int)} {lo hi lo' hi' : Nat} (h : MSee w v X lo hi) (t : Turned w w' lo' hi') (hd : hi ≤ lo' ∨ hi' ≤ lo) : MSee w' v X lo hi := by
  obtain ⟨a, cap, ss, e, hr, h1⟩ := h
  exact ⟨a, cap, ss, e, hr, h1.turned t hd⟩
theorem MSee.below {w w' : World} {v : Value} {X : List (List Int)} {lo hi : Nat} (h : MSee w v X lo hi) (hb : Below w.heap.size w w') : MSee w' v X lo hi := by
  obtain ⟨a, cap, ss, e, hr, h1⟩ := h
  exact ⟨a, cap, ss, e, hr, h1.below hb⟩
theorem MSee.wide {w : World} {v : Value} {X : List (List Int)} {lo hi lo' hi' : Nat} (h : MSee w v X lo hi) (h1 : lo' ≤ lo) (h2 : hi ≤ hi') : MSee w v X lo' hi' := by
  obtain ⟨a, cap, ss, e, hr, q⟩ := h
  exact ⟨a, cap, ss, e, hr, q.wide h1 h2⟩
theorem MHeld.turned {w w' : World} {v : Value} {k : Nat} {X : List (List Int)} {lo hi lo' hi' : Nat} (h : MHeld w v k X lo hi) (t : Turned w w' lo' hi') (hd : hi ≤ lo' ∨ hi' ≤ lo) : MHeld w' v k X lo hi := by
  obtain ⟨a, cap, ss, ts, e, hr, hm, h1⟩ := h
  exact ⟨a, cap, ss, ts, e, hr, hm, h1.turned t hd⟩
theorem MHeld.below {w w' : World} {v : Value} {k : Nat} {X : List (List Int)} {lo hi : Nat} (h : MHeld w v k X lo hi) (hb : Below w.heap.size w w') : MHeld w' v k X lo hi := by
  obtain ⟨a, cap, ss, ts, e, hr, hm, h1⟩ := h
  exact ⟨a, cap, ss, ts, e, hr, hm, h1.below hb⟩
theorem MAns.turned {w w' : World} {v : Value} {X : List (List Int)} {lo hi lo' hi' : Nat} (h : MAns w v X lo hi) (t : Turned w w' lo' hi') (hd : hi ≤ lo' ∨ hi' ≤ lo) : MAns w' v X lo hi := by
  obtain ⟨a, cap, ss, e, hr, hc, h1⟩ := h
  refine ⟨a, cap, ss, e, hr, hc, ?_⟩
  rcases h1 with rfl | ⟨g, rfl, hm⟩
  · exact .inl rfl
  · exact .inr ⟨g, rfl, hm.turned t hd⟩
theorem MAns.below {w w' : World} {v : Value} {X : List (List Int)} {lo hi : Nat} (h : MAns w v X lo hi) (hb : Below w.heap.size w w') : MAns w' v X lo hi := by
  obtain ⟨a, cap, ss, e, hr, hc, h1⟩ := h
  refine ⟨a, cap, ss, e, hr, hc, ?_⟩
  rcases h1 with rfl | ⟨g, rfl, hm⟩
  · exact .inl rfl
  · exact .inr ⟨g, rfl, hm.below hb⟩
/-- What an answer of rows of numbers is: new memory alone. -/
def MPost (X : List (List Int)) (w : World) (e : Ending) (w' : World) : Prop := ∃ v, e = .returned v ∧ MAns w' v X w.heap.size w'.heap.size ∧ Below w.heap.size w w'
/-- Rows that a machine can hold. -/
def MFit (X : List (List Int)) : Prop := X.length + xsum X ≤ 1048576
theorem rows_fit {ss : List SR} {X : List (List Int)} (hr : rws ss = X) (hf : MFit X) : ss.length ≤ 1048576 ∧ (∀ s ∈ ss, s.row.length ≤ 1048576) ∧ msum ss = xsum X ∧ xsum X ≤ 1048576 := by
  have h1 : ss.length = X.length := by rw [← hr, rws_len]
  have h2 : msum ss = xsum X := by rw [msum_rws, hr]
  have h3 := hf
  unfold MFit at h3
  exact ⟨by omega, fun s hs => by have := msum_mem hs; omega, h2, by omega⟩
theorem eqIntSS_val {w : World} {v u : Value} {X : List (List Int)} {lo hi lo' hi' : Nat} (h : MSee w v X lo hi) (k : MSee w u X lo' hi') (hf : MFit X) : Calls Try.prog 25 #[v, u] w fun e w' => e = .returned (.bool true) ∧ Below w.heap.size w w' := by
  obtain ⟨a, cap, ss, rfl, hr, h1⟩ := h
  obtain ⟨b, cap', tt, rfl, hr', h1'⟩ := k
  obtain ⟨f1, f2, _, _⟩ := rows_fit hr hf
  exact eqIntSS_same a b ss tt cap cap' w lo hi lo' hi' h1 h1' (hr.trans hr'.symm) f1 f2
theorem sameMatrix_val {w : World} {v u : Value} {X : List (List Int)} {lo hi lo' hi' : Nat} (h : MSee w v X lo hi) (k : MSee w u X lo' hi') (hf : MFit X) : Calls Try.prog 20 #[v, u] w fun e w' => e = .returned (.bool true) ∧ Below w.heap.size w w' := by
  obtain ⟨a, cap, ss, rfl, hr, h1⟩ := h
  obtain ⟨b, cap', tt, rfl, hr', h1'⟩ := k
  obtain ⟨f1, f2, _, _⟩ := rows_fit hr hf
  exact sameMatrix_same a b ss tt cap cap' w lo hi lo' hi' h1 h1' (hr.trans hr'.symm) f1 f2
theorem markIntSS_none (a : Option Addr) (k ca : Nat) (w : World) : Calls Try.prog 26 #[.slice a 0 ca, .int .i64 k] w fun e w' => e = .returned (.int .i64 k) ∧ w' = w := by
  go_enter Try.func26, Try.ntmps26
  go_wp2_with fail
  go_rounds 1
  go_ret
  exact ⟨rfl, rfl⟩
theorem markIntSS_val {w : World} {v : Value} {X : List (List Int)} {lo hi : Nat} (k : Nat) (h : MAns w v X lo hi) (hf : MFit X) (hk : k ≤ 100000000) :
    Calls Try.prog 26 #[v, .int .i64 k] w fun e w' => e = .returned (.int .i64 (k + xsum X : Nat)) ∧ MHeld w' v k X lo hi ∧ Turned w w' lo hi := by
  obtain ⟨a, cap, ss, rfl, hr, hc, h1⟩ := h
  obtain ⟨f1, _, f3, f4⟩ := rows_fit hr hf
  rcases h1 with rfl | ⟨g, rfl, hm⟩
  · have hx : X = [] := by rw [← hr]; rfl
    subst hx
    refine (markIntSS_none a k cap w).mono ?_
    rintro e w' ⟨rfl, rfl⟩
    exact ⟨rfl, ⟨a, cap, [], [], rfl, rfl, Marked.start k [], MR.nil _ _ _ _⟩, Turned.refl _ _ _⟩
  · refine (markIntSS_any g ss k cap w lo hi hm (by omega) f1).mono ?_
    rintro e w' ⟨ts, rfl, hmk, hmw, ht⟩
    exact ⟨by rw [f3], ⟨_, cap, ss, ts, rfl, hr, hmk, hmw.mr⟩, ht⟩
theorem heldIntSS_val {w : World} {v : Value} {k : Nat} {X : List (List Int)} {lo hi : Nat} (h : MHeld w v k X lo hi) (hf : MFit X) (hk : k ≤ 100000000) :
    Calls Try.prog 27 #[v, .int .i64 k] w fun e w' => e = .returned (.int .i64 (k + xsum X : Nat)) ∧ Below w.heap.size w w' := by
  obtain ⟨a, cap, ss, ts, rfl, hr, hm, h1⟩ := h
  obtain ⟨f1, _, f3, f4⟩ := rows_fit hr hf
  have := heldIntSS_any a ss ts k cap w lo hi h1 hm (by omega) f1
  rwa [f3] at this
end Go.Proofs.Ytdlgailodhlbmaa
/- NestF: A row of rows of numbers that is made row by row, by append. -/
namespace Go.Proofs.Ytdlgailodhlbmaa
open Go.RowKit

/-- A row of numbers is not the row of rows. -/
theorem row_apart {w : World} {b B t n : Nat} {v : Value} {row : List Int} {ts : List SR} (h : WCells w b (ics row)) (hr : row ≠ []) (ho : w.ownsRow B t 1 v n (svs ts)) (hts : ts ≠ []) : v.ownBlock ≠ some b := by
  intro e
  have hc := ho.cells e
  obtain ⟨x, r, rfl⟩ := List.exists_cons_of_ne_nil hr
  obtain ⟨s, t', rfl⟩ := List.exists_cons_of_ne_nil hts
  have h1 := (h.2 0 (.int .i64 x) rfl).1
  have h2 := hc 0 (srv s) rfl
  have e2 : (⟨b, 0, none⟩ : Addr).add 0 = ⟨b, 0, none⟩ := by simp [Addr.add]
  rw [e2, h1] at h2
  simp [srv] at h2
/-- Where the making of a row of rows stands. -/
structure BI (w wr : World) (v : Value) (ts : List SR) : Prop where
  own : wr.ownsRow w.heap.size 32 1 v ts.length (svs ts)
  rows : ∀ s ∈ ts, ∃ b, s.loc = some ⟨b, 0, none⟩ ∧ w.heap.size ≤ b ∧ WCells wr b (ics s.row) ∧ s.row.length ≤ s.cap ∧ s.row ≠ []
  apart : (ts.map SR.loc).Nodup
  bel : Below w.heap.size w wr
theorem BI.start (w : World) {wr : World} {v : Value} (ho : wr.ownsRow w.heap.size 32 1 v 0 []) (hb : Below w.heap.size w wr) : BI w wr v [] := ⟨ho, by simp, List.nodup_nil, hb⟩
theorem BI.below {w wr w' : World} {v : Value} {ts : List SR} (h : BI w wr v ts) (hb : Below wr.heap.size wr w') : BI w w' v ts :=
  ⟨h.own.kept (row := none) ⟨hb.os, hb.tape, hb.output, hb.size, fun k hk _ => hb.block k hk⟩ (Classical.em _), fun s hs => by
    obtain ⟨b, e, q1, q2, q3⟩ := h.rows s hs
    exact ⟨b, e, q1, q2.below hb q2.1, q3⟩, h.apart, h.bel.trans (hb.mono h.bel.size)⟩
/-- A block beyond is turned. -/
theorem BI.other {w wr w' : World} {v : Value} {ts : List SR} {B g : Nat} (h : BI w wr v ts) (hg : wr.grownBy w' (some g)) (hB : B ≤ g) (ho : ∀ q, v.ownBlock = some q → q < B) (hr : ∀ s ∈ ts, ∀ b, s.loc = some ⟨b, 0, none⟩ → b < B) (hw : w.heap.size ≤ B) (hs : w.heap.size ≤ wr.heap.size) : BI w w' v ts := by
  refine ⟨h.own.kept hg (.inr fun e => by have := ho g e; omega), fun s hs' => ?_, h.apart, h.bel.grown hg hs (fun k e => by cases e; omega)⟩
  obtain ⟨b, e, q1, q2, q3⟩ := h.rows s hs'
  exact ⟨b, e, q1, q2.apart hg (by have := hr s hs' b e; omega), q3⟩
theorem BI.append {w wr w1 : World} {v v' : Value} {ts : List SR} {o : Obj} {b : Nat} {row : List Int} {cap : Nat} (h : BI w wr v ts) (hb : w.heap.size ≤ b) (hrow : WCells wr b (ics row)) (hne : row ≠ []) (hcap : row.length ≤ cap)
    (hv : ∀ q, v.ownBlock = some q → q ≠ b) (hnew : ∀ s ∈ ts, s.loc ≠ some ⟨b, 0, none⟩)
    (hown : w1.ownsRow w.heap.size 32 1 v' (ts.length + 1) (svs ts ++ [.slice (some ⟨b, 0, none⟩) row.length cap])) (hg : (wr.alloc o).grownBy w1 v.ownBlock) : BI w w1 v' (ts ++ [SR.mk (some ⟨b, 0, none⟩) row cap]) := by
  have keep : ∀ {c : Nat} {L : List Value}, WCells wr c L → (∀ q, v.ownBlock = some q → q ≠ c) → WCells w1 c L := fun {c L} hc hq => by
    have h1 : WCells (wr.alloc o) c L := hc.below ((Below.refl wr.heap.size wr).alloc (Nat.le_refl _) o) hc.1
    refine ⟨Nat.lt_of_lt_of_le h1.1 hg.size, fun i u hu => ?_⟩
    have hbk : w1.heap[c]? = (wr.alloc o).heap[c]? := hg.block c h1.1 (fun e => hq c e.symm rfl)
    exact ⟨(World.cell?_of_block (a := ⟨c, i, none⟩) hbk).trans (h1.2 i u hu).1, (World.frozen?_of_block (a := ⟨c, i, none⟩) hbk).trans (h1.2 i u hu).2⟩
  refine ⟨?_, fun s hs => ?_, ?_, (h.bel.alloc h.bel.size o).grown hg (by have := h.bel.size; simp; omega) (fun k e => (h.own.lt k e).1)⟩
  · have e : svs (ts ++ [SR.mk (some ⟨b, 0, none⟩) row cap]) = svs ts ++ [.slice (some ⟨b, 0, none⟩) row.length cap] := by simp [svs, srv]
    rw [e, List.length_append]
    exact hown
  · rcases List.mem_append.1 hs with h1 | h1
    · obtain ⟨c, e, q1, q2, q3, q4⟩ := h.rows s h1
      refine ⟨c, e, q1, keep q2 (fun q hq => ?_), q3, q4⟩
      have := row_apart q2 q4 h.own (List.ne_nil_of_mem h1)
      intro e2; subst e2; exact this hq
    · simp at h1
      subst h1
      exact ⟨b, rfl, hb, keep hrow hv, hcap, hne⟩
  · rw [List.map_append, List.nodup_append]
    refine ⟨h.apart, by simp, fun l hl l' hl' => ?_⟩
    obtain ⟨s, hs, rfl⟩ := List.mem_map.1 hl
    simp only [List.map_cons, List.map_nil, List.mem_singleton] at hl'
    subst hl'
    exact hnew s hs
theorem BI.fin {w wr : World} {v : Value} {ts : List SR} {X : List (List Int)} (h : BI w wr v ts) (hX : rws ts = X) : MAns wr v X w.heap.size wr.heap.size := by
  have hlt := h.own.lt
  have hown := h.own
  obtain ⟨_, ⟨rfl, h0⟩ | ⟨g, cap, cur, rfl, hB, hcur, hn, _⟩⟩ := hown
  · have : ts = [] := List.eq_nil_of_length_eq_zero h0
    subst this
    exact ⟨none, 0, [], rfl, hX, Nat.le_refl _, .inl rfl⟩
  · refine ⟨_, cap, ts, rfl, hX, hn, ?_⟩
    by_cases hts : ts = []
    · exact .inl hts
    · refine .inr ⟨g, rfl, own_wcells h.own, hB, (hlt g rfl).2, fun s hs => ?_, h.apart⟩
      obtain ⟨b, e, q1, q2, q3, q4⟩ := h.rows s hs
      refine ⟨b, e, q1, q2.1, fun eb => ?_, q2, q3⟩
      subst eb
      exact row_apart q2 q4 h.own hts rfl
end Go.Proofs.Ytdlgailodhlbmaa
/- Words: Plain facts on the bytes of numbers: the bytes of a number by sevens of bits are told by 'vt', the number that bytes begin by 'rv'; nothing of the program is read here. -/
namespace Go.Proofs.Ytdlgailodhlbmaa.W
/-- The bytes of a number, by sevens of bits, with fuel. -/
def vtF : Nat → Nat → List UInt8
  | 0, n => [UInt8.ofNat n]
  | f + 1, n => if 127 < n then UInt8.ofNat (n % 128 + 128) :: vtF f (n / 128) else [UInt8.ofNat n]
def vt (n : Nat) : List UInt8 := vtF n n
theorem vtF_enough : ∀ (f g n : Nat), n ≤ f → n ≤ g → vtF f n = vtF g n
  | 0, 0, n, _, _ => rfl
  | 0, g + 1, n, h, _ => by have : n = 0 := by omega
                            subst this; simp [vtF]
  | f + 1, 0, n, _, h => by have : n = 0 := by omega
                            subst this; simp [vtF]
  | f + 1, g + 1, n, h1, h2 => by
    unfold vtF
    by_cases h : 127 < n
    · rw [if_pos h, if_pos h, vtF_enough f g (n / 128) (by omega) (by omega)]
    · rw [if_neg h, if_neg h]
theorem vt_big (n : Nat) (h : 127 < n) : vt n = UInt8.ofNat (n % 128 + 128) :: vt (n / 128) := by
  unfold vt
  match n, h with
  | k + 1, h =>
    rw [vtF, if_pos h, vtF_enough k ((k + 1) / 128) ((k + 1) / 128) (by omega) (by omega)]
theorem vt_small (n : Nat) (h : n ≤ 127) : vt n = [UInt8.ofNat n] := by
  unfold vt
  match n with
  | 0 => rfl
  | k + 1 => rw [vtF, if_neg (by omega)]
theorem vt_len (n : Nat) : (vt n).length ≤ n + 1 := by
  suffices h : ∀ f m, (vtF f m).length ≤ f + 1 from h n n
  intro f
  induction f with
  | zero => intro m; simp [vtF]
  | succ f ih => intro m; unfold vtF; split
                 · have := ih (m / 128); simp; omega
                 · simp

/-- The number of bytes by sevens: each with its high bit left off. -/
def val : List UInt8 → Nat
  | [] => 0
  | b :: l => b.toNat % 128 + 128 * val l

/-- All but the last are 128 or more. -/
def heads (l : List UInt8) : Prop := ∀ b ∈ l, 128 ≤ b.toNat

theorem ofNat_self (b : UInt8) : UInt8.ofNat b.toNat = b := by simp

theorem vt_one (b : UInt8) (h : b.toNat < 128) : vt b.toNat = [b] := by
  rw [vt_small _ (by omega)]; simp

theorem val_pos : ∀ (l : List UInt8) (b : UInt8), b.toNat < 128 → b ≠ 0 → 0 < val (l ++ [b])
  | [], b, h, h0 => by
    have : b.toNat ≠ 0 := fun e => h0 (by have := UInt8.toNat_inj (a := b) (b := 0); simp at this; exact this.1 e)
    simp [val]; omega
  | c :: l, b, h, h0 => by
    have := val_pos l b h h0
    simp [val]; omega

/-- The bytes of the number of some bytes are those bytes, where they have no needless nought at the end. -/
theorem vt_val : ∀ (l : List UInt8) (b : UInt8), heads l → b.toNat < 128 → (l = [] ∨ b ≠ 0) → vt (val (l ++ [b])) = l ++ [b]
  | [], b, _, hb, _ => by
    have : val ([] ++ [b]) = b.toNat := by simp [val]; omega
    rw [this]; exact vt_one b hb
  | c :: l, b, hl, hb, h0 => by
    have h0 : b ≠ 0 := by rcases h0 with h | h; cases h; exact h
    have hc : 128 ≤ c.toNat := hl c (by simp)
    have ih := vt_val l b (fun x hx => hl x (by simp [hx])) hb (.inr h0)
    have hp := val_pos l b hb h0
    have hlt := c.toNat_lt
    have e : val (c :: l ++ [b]) = c.toNat % 128 + 128 * val (l ++ [b]) := rfl
    rw [e, vt_big _ (by omega)]
    have e1 : (c.toNat % 128 + 128 * val (l ++ [b])) % 128 + 128 = c.toNat := by omega
    have e2 : (c.toNat % 128 + 128 * val (l ++ [b])) / 128 = val (l ++ [b]) := by omega
    rw [e1, e2, ih]; simp

/-- With a needless nought at the end they are not. -/
theorem vt_last : ∀ (f n : Nat), n ≤ f → 0 < n → (vtF f n).getLast? ≠ some 0
  | 0, n, h, h' => by omega
  | f + 1, n, h, h' => by
    unfold vtF
    by_cases hb : 127 < n
    · rw [if_pos hb]
      have ih := vt_last f (n / 128) (by omega) (by omega)
      have hne : vtF f (n / 128) ≠ [] := by cases f <;> simp [vtF] <;> split <;> simp
      rw [List.getLast?_cons_of_ne_nil hne]
      exact ih
    · rw [if_neg hb]
      simp
      intro e
      have := congrArg UInt8.toNat e
      simp at this
      omega
theorem vt_not (l : List UInt8) (hl : l ≠ []) : vt (val (l ++ [0])) ≠ l ++ [0] := by
  intro e
  by_cases h : val (l ++ [0]) = 0
  · rw [h] at e
    have := congrArg List.length e
    simp [vt, vtF] at this
    exact hl this
  · have := vt_last _ _ (Nat.le_refl (val (l ++ [0]))) (by omega)
    unfold vt at e
    rw [e] at this
    simp at this

/-- What stands behind some bytes: the number that they begin, its weight, whether none has come yet, the bytes that are left, their place. -/
def rv : Nat → Nat → Bool → List UInt8 → Nat → Option (Nat × Nat)
  | _, _, _, [], _ => none
  | n, w, first, b :: l, p =>
    if 1000000000 < w then none
    else if 127 < b.toNat then rv (n + (b.toNat - 128) * w) (w * 128) false l (p + 1)
    else if b.toNat = 0 ∧ first = false then none
    else if 1000000000 < n + b.toNat * w then none
    else some (n + b.toNat * w, p + 1)

theorem val_snoc : ∀ (l : List UInt8) (b : UInt8), val (l ++ [b]) = val l + b.toNat % 128 * 128 ^ l.length
  | [], b => by simp [val]
  | c :: l, b => by
    have ih := val_snoc l b
    show c.toNat % 128 + 128 * val (l ++ [b]) = _
    rw [ih]
    simp only [val, List.length_cons, Nat.pow_succ, Nat.mul_add]
    rw [← Nat.mul_assoc (b.toNat % 128), Nat.mul_comm 128 (b.toNat % 128 * 128 ^ l.length)]
    omega
theorem val_lt : ∀ (l : List UInt8), val l < 128 ^ l.length
  | [] => by simp [val]
  | c :: l => by
    have := val_lt l
    simp only [val, List.length_cons, Nat.pow_succ]
    omega
theorem rv_nil (n w : Nat) (f : Bool) (p : Nat) : rv n w f [] p = none := rfl
theorem rv_great (n w : Nat) (f : Bool) (l : List UInt8) (p : Nat) (h : 1000000000 < w) : rv n w f l p = none := by
  cases l
  · rfl
  · rw [rv, if_pos h]
theorem rv_head (n w : Nat) (f : Bool) (b : UInt8) (l : List UInt8) (p : Nat) (h : w ≤ 1000000000) (hb : 127 < b.toNat) : rv n w f (b :: l) p = rv (n + (b.toNat - 128) * w) (w * 128) false l (p + 1) := by
  rw [rv, if_neg (by omega), if_pos hb]
theorem rv_nought (n w : Nat) (b : UInt8) (l : List UInt8) (p : Nat) (hb : b.toNat = 0) : rv n w false (b :: l) p = none := by
  rw [rv]; split
  · rfl
  · rw [if_neg (by omega), if_pos ⟨hb, rfl⟩]
theorem rv_far (n w : Nat) (f : Bool) (b : UInt8) (l : List UInt8) (p : Nat) (hb : b.toNat ≤ 127) (h : 1000000000 < n + b.toNat * w) : rv n w f (b :: l) p = none := by
  rw [rv]; split
  · rfl
  · rw [if_neg (by omega)]; split
    · rfl
    · rfl
theorem rv_done (n w : Nat) (f : Bool) (b : UInt8) (l : List UInt8) (p : Nat) (h : w ≤ 1000000000) (hb : b.toNat ≤ 127) (h0 : b.toNat ≠ 0 ∨ f = true) (hm : n + b.toNat * w ≤ 1000000000) :
    rv n w f (b :: l) p = some (n + b.toNat * w, p + 1) := by
  rw [rv, if_neg (by omega), if_neg (by omega), if_neg (by rcases h0 with h | h <;> simp [h]), if_neg (by omega)]

/-- As the bytes so far tell it. -/
def rvs (hd : List UInt8) (l : List UInt8) (p : Nat) : Option (Nat × Nat) := rv (val hd) (128 ^ hd.length) (decide (hd.length = 0)) l p
theorem rvs_step (hd : List UInt8) (b : UInt8) (l : List UInt8) (p : Nat) (hk : hd.length ≤ 4) (hb : 127 < b.toNat) : rvs hd (b :: l) p = rvs (hd ++ [b]) l (p + 1) := by
  have hw : 128 ^ hd.length ≤ 128 ^ 4 := Nat.pow_le_pow_right (by omega) hk
  have hlt := b.toNat_lt
  unfold rvs
  rw [rv_head _ _ _ _ _ _ (by omega) hb, val_snoc, List.length_append, List.length_singleton, Nat.pow_succ, decide_eq_false (p := hd.length + 1 = 0) (by omega)]
  have : b.toNat % 128 = b.toNat - 128 := by omega
  rw [this]
theorem rvs_five (hd : List UInt8) (l : List UInt8) (p : Nat) (hk : 5 ≤ hd.length) : rvs hd l p = none := by
  have hw : 128 ^ 5 ≤ 128 ^ hd.length := Nat.pow_le_pow_right (by omega) hk
  exact rv_great _ _ _ _ _ (by omega)
/-- The test by the bytes of the number says the same as the test for a needless nought. -/
theorem rvs_end (hd : List UInt8) (b : UInt8) (l : List UInt8) (p : Nat) (hk : hd.length ≤ 4) (hh : heads hd) (hb : b.toNat ≤ 127) :
    rvs hd (b :: l) p = if val (hd ++ [b]) ≤ 1000000000 ∧ vt (val (hd ++ [b])) = hd ++ [b] then some (val (hd ++ [b]), p + 1) else none := by
  have hw : 128 ^ hd.length ≤ 128 ^ 4 := Nat.pow_le_pow_right (by omega) hk
  have ev : val (hd ++ [b]) = val hd + b.toNat * 128 ^ hd.length := by rw [val_snoc]; congr 2; omega
  by_cases h0 : b.toNat = 0 ∧ hd ≠ []
  · have eb : b = 0 := by have := UInt8.toNat_inj (a := b) (b := 0); simp at this; exact this.1 h0.1
    rw [if_neg (by rw [eb]; exact fun h => vt_not hd h0.2 h.2)]
    unfold rvs
    rw [decide_eq_false (by simpa using h0.2), rv_nought _ _ _ _ _ h0.1]
  · have hv : vt (val (hd ++ [b])) = hd ++ [b] := vt_val hd b hh (by omega) (by
      by_cases e : hd = []
      · exact .inl e
      · right; intro eb; exact h0 ⟨by rw [eb]; rfl, e⟩)
    by_cases hm : val (hd ++ [b]) ≤ 1000000000
    · rw [if_pos ⟨hm, hv⟩]
      unfold rvs
      rw [rv_done _ _ _ _ _ _ (by omega) hb (by
        by_cases e : hd = []
        · right; simp [e]
        · left; exact fun eb => h0 ⟨eb, e⟩) (by omega), ev]
    · rw [if_neg (fun h => hm h.1)]
      exact rv_far _ _ _ _ _ _ hb (by omega)
end Go.Proofs.Ytdlgailodhlbmaa.W
/- VarL: The walks of l01Var and l01In. -/
namespace Go.Proofs.Ytdlgailodhlbmaa
open Go.RowKit

/-- What one round of the loop does to the row of bytes. -/
theorem step_byte {B n m : Nat} {l : List UInt8} {w wr w1 : World} {v v' : Value} {o : Obj} {x : Int} (hB : B ≤ wr.heap.size) (hx : x = (m % 128 + 128 : Nat))
    (hm : 127 < m) (hl : l.length + m ≤ n) (ht : l ++ W.vt m = W.vt n)
    (hown : wr.ownsRow B 5 1 v l.length (bv l)) (hb : Below B w wr)
    (hown' : w1.ownsRow B 5 1 v' (l.length + 1) (bv l ++ [.int .u8 x])) (hg : (wr.alloc o).grownBy w1 v.ownBlock) :
    ∃ l', l'.length + m / 128 ≤ n ∧ l' ++ W.vt (m / 128) = W.vt n ∧ w1.ownsRow B 5 1 v' l'.length (bv l') ∧ Below B w w1 := by
  refine ⟨l ++ [UInt8.ofNat (m % 128 + 128)], by simp; omega, by rw [← ht, W.vt_big m hm]; simp, ?_, ?_⟩
  · have e := byte_of x (by omega) (by omega)
    rw [e, bv_snoc] at hown'
    have : UInt8.ofNat x.toNat = UInt8.ofNat (m % 128 + 128) := by rw [hx]; rfl
    rw [this] at hown'
    simpa using hown'
  · exact (hb.alloc hB o).grown hg (by simp; omega) (fun j hj => by have := (hown.lt j hj).1; omega)
theorem last_byte {B n m : Nat} {l : List UInt8} {w wr w1 : World} {v v' : Value} {o : Obj} {x : Int} (hB : B ≤ wr.heap.size) (hx : x = m)
    (hm : m ≤ 127) (ht : l ++ W.vt m = W.vt n)
    (hown : wr.ownsRow B 5 1 v l.length (bv l)) (hb : Below B w wr)
    (hown' : w1.ownsRow B 5 1 v' (l.length + 1) (bv l ++ [.int .u8 x])) (hg : (wr.alloc o).grownBy w1 v.ownBlock) :
    (convert 22 9 v').run Try.prog w1 = .ok (.string ⟨(W.vt n).toArray⟩) w1 ∧ Below B w w1 := by
  refine ⟨?_, (hb.alloc hB o).grown hg (by simp; omega) (fun j hj => by have := (hown.lt j hj).1; omega)⟩
  have e := byte_of x (by omega) (by omega)
  rw [e, bv_snoc] at hown'
  have : UInt8.ofNat x.toNat = UInt8.ofNat m := by rw [hx]; rfl
  rw [this] at hown'
  have hn : W.vt n = l ++ [UInt8.ofNat m] := by rw [← ht, W.vt_small m hm]
  rw [hn]
  exact own_string (by simpa using hown')

theorem l01In_any (x a b : Int) (w : World) :
    Calls Try.prog 53 #[.int .i64 x, .int .i64 a, .int .i64 b] w fun e w' => e = .returned (.bool (decide (a ≤ x) && decide (x ≤ b))) ∧ w' = w := by
  by_cases h : a ≤ x
  · by_cases h' : x ≤ b
    · go_enter Try.func53, Try.ntmps53
      go_wp2
      go_ret
      exact ⟨by simp [h, h'], rfl⟩
    · go_enter Try.func53, Try.ntmps53
      go_wp2
      go_ret
      exact ⟨by simp [h'], rfl⟩
  · go_enter Try.func53, Try.ntmps53
    go_wp2
    go_ret
    exact ⟨by simp; omega, rfl⟩
end Go.Proofs.Ytdlgailodhlbmaa
