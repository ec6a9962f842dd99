/- Texts of ours, laid one behind the other: Bytes, RowsG, LsA, StrsA, DecM, Dec, StrsB, MemA, LsAm, IntsA, NestA, GenA. -/
import Derived.Test.YtcnjjbgilpgceaaRows
import Derived.WalkKit
import Derived.WalkLawsBesides
import Derived.Handy
import Derived.Below
import Derived.Laws.IdiomStrings
import Derived.Laws.BytesArg
import Derived.Maps.AppendAt
import Derived.Laws.DeepStrings4
import Derived.OwnWalk
import Derived.Deep.DrawnRows
import Derived.PlainAid
import Derived.Deep.RegionHeld3
import Derived.Deep.QuietTactic
import Derived.BigQuiet
import Derived.Deep.LoopGhost
/- Bytes: Rows of bytes that a call owns, and the string that is made of one: facts for the walks of this seat. -/
namespace Go.Proofs.Ytcnjjbgilpgceaa
set_option maxRecDepth 100000
open Go.RowKit

/-- Bytes as the cells of a row. -/
def bv (l : List UInt8) : List Value := l.map fun b => .int .u8 (b.toNat : Int)
theorem bv_nil : bv [] = [] := rfl
theorem bv_snoc (l : List UInt8) (b : UInt8) : bv l ++ [.int .u8 (b.toNat : Int)] = bv (l ++ [b]) := by simp [bv]
theorem bv_len (l : List UInt8) : (bv l).length = l.length := by simp [bv]
theorem byte_of (n : Int) (h0 : 0 ≤ n) (h1 : n < 256) : Value.int .u8 n = .int .u8 ((UInt8.ofNat n.toNat).toNat : Int) := by
  have : (UInt8.ofNat n.toNat).toNat = n.toNat := by simp; omega
  rw [this]; congr 1; omega

theorem Try.info5 : (Try.prog.info? 5).map (fun i => (i.zero, i.size, i.bytes)) = some (some (.int .u8 0), 1, 1) := by kernel_rfl

/-- The string of a row of bytes that a call owns. -/
theorem own_string {w : World} {base : Nat} {v : Value} {l : List UInt8} (h : w.ownsRow base 5 1 v l.length (bv l)) :
    (convert 22 9 v).run Try.prog w = .ok (.string ⟨l.toArray⟩) w := by
  have hc : ∀ g, v.ownBlock = some g → ∀ j u, (bv l)[j]? = some u → w.cell? ((⟨g, 0, none⟩ : Addr).add j) = some u := fun g hg => h.cells hg
  obtain ⟨h1, ⟨rfl, h0⟩ | ⟨g, cap, cur, rfl, _⟩⟩ := h
  · have : l = [] := List.eq_nil_of_length_eq_zero h0
    subst this
    exact run_convert_bytes_nil _ 22 5 Try.underlying22 Try.underlying5 0 0 _ Try.underlying9
  · exact run_convert_bytes_back w 22 9 5 ⟨g, 0, none⟩ cap l Try.underlying22 Try.underlying5 Try.underlying9 (fun j hj => hc g rfl j _ (by simp [bv, hj]))

/-- A part of a string. -/
theorem slice_str (s : ByteArray) (a b : Nat) (h1 : a ≤ b) (h2 : b ≤ s.size) (w : World) :
    (Instr.slice 9 (.string s) (some (.int .i64 (a : Int))) (some (.int .i64 (b : Int))) none).run Try.prog w = .ok (.string (s.extract a b)) w := by
  rw [run_slice_string_if w 9 s .i64 .i64 a b Try.underlying9, if_pos ⟨by omega, by omega⟩, if_pos ⟨by omega, by omega⟩]
  rfl
end Go.Proofs.Ytcnjjbgilpgceaa
/- RowsG: Rows of cells in memory, for elements of any number of cells: what a row holds, and a row that may be written. Nothing of the program is read here. -/
namespace Go.Proofs.Ytcnjjbgilpgceaa
set_option maxRecDepth 100000
open Go.RowKit

theorem flat_len {α : Type} {enc : α → List Value} {sz : Nat} (hsz : ∀ x, (enc x).length = sz) (xs : List α) : (xs.flatMap enc).length = xs.length * sz := by
  induction xs with
  | nil => simp
  | cons x xs ih => simp only [List.flatMap_cons, List.length_append, List.length_cons, ih, hsz, Nat.add_mul]; omega
theorem flat_get {α : Type} {enc : α → List Value} {sz : Nat} (hsz : ∀ x, (enc x).length = sz) (xs : List α) (j : Nat) (h : j < xs.length) (i : Nat) (hi : i < sz) : (xs.flatMap enc)[j * sz + i]? = (enc xs[j])[i]? := by
  induction xs generalizing j with
  | nil => simp at h
  | cons x xs ih =>
    rw [List.flatMap_cons]
    cases j with
    | zero =>
      rw [List.getElem?_append_left (by rw [hsz]; omega)]
      simp
    | succ j =>
      rw [List.getElem?_append_right (by rw [hsz, Nat.add_mul]; omega), hsz]
      have := ih j (by simpa using h)
      rw [show (j + 1) * sz + i - sz = j * sz + i by rw [Nat.add_mul]; omega]
      simpa using this
theorem flat_set {α : Type} {enc : α → List Value} {sz : Nat} (hsz : ∀ x, (enc x).length = sz) (xs : List α) (j : Nat) (h : j < xs.length) (y : α) (n : Nat) (hn : n < xs.length * sz) :
    ((xs.set j y).flatMap enc)[n]? = if n / sz = j then (enc y)[n % sz]? else (xs.flatMap enc)[n]? := by
  have hp : 0 < sz := by
    cases sz with
    | zero => simp at hn
    | succ s => omega
  have hq : n / sz < xs.length := Nat.div_lt_of_lt_mul (by rwa [Nat.mul_comm] at hn)
  have hr := Nat.mod_lt n hp
  have e : n = n / sz * sz + n % sz := by rw [Nat.mul_comm]; exact (Nat.div_add_mod n sz).symm
  have l1 := flat_get hsz (xs.set j y) (n / sz) (by simpa using hq) (n % sz) hr
  have l2 := flat_get hsz xs (n / sz) hq (n % sz) hr
  rw [← e] at l1 l2
  rw [l1, l2]
  by_cases c : n / sz = j
  · subst c; simp
  · rw [if_neg c, List.getElem_set_ne (Ne.symm c)]

/-- A row of cells, from a place on. -/
def CRow (w : World) (a : Option Addr) (L : List Value) : Prop :=
  0 < L.length → ∃ b off, a = some ⟨b, off, none⟩ ∧ b < w.heap.size ∧ ∀ i v, L[i]? = some v → w.cell? ⟨b, off + i, none⟩ = some v
theorem CRow.stays {w w' : World} {a : Option Addr} {L : List Value} (h : CRow w a L) (hb : Below w.heap.size w w') : CRow w' a L := by
  intro hp
  obtain ⟨b, off, e, hlt, hc⟩ := h hp
  exact ⟨b, off, e, Nat.lt_of_lt_of_le hlt hb.size, fun i v hv => by rw [hb.cell (p := ⟨b, off + i, none⟩) hlt]; exact hc i v hv⟩
/-- A row of cells that may be written, in a block of its own. -/
def WCells (w : World) (g : Nat) (L : List Value) : Prop :=
  g < w.heap.size ∧ ∀ i v, L[i]? = some v → w.cell? ⟨g, i, none⟩ = some v ∧ w.frozen? ⟨g, i, none⟩ = false
theorem WCells.crow {w : World} {g : Nat} {L : List Value} (h : WCells w g L) : CRow w (some ⟨g, 0, none⟩) L := fun _ => ⟨g, 0, rfl, h.1, fun i v hv => by rw [Nat.zero_add]; exact (h.2 i v hv).1⟩
theorem WCells.below {w w' : World} {g B : Nat} {L : List Value} (h : WCells w g L) (hb : Below B w w') (hg : g < B) : WCells w' g L :=
  ⟨Nat.lt_of_lt_of_le h.1 hb.size, fun i v hv => ⟨(hb.cell (p := ⟨g, i, none⟩) hg).trans (h.2 i v hv).1, (hb.frozen (p := ⟨g, i, none⟩) hg).trans (h.2 i v hv).2⟩⟩
theorem WCells.set {w : World} {g : Nat} {L : List Value} (h : WCells w g L) (i : Nat) (x : Value) (hi : i < L.length) : WCells (w.setCell ⟨g, i, none⟩ x) g (L.set i x) := by
  refine ⟨by have := h.1; simpa [World.setCell] using this, fun j v hv => ?_⟩
  have hj : j < L.length := by
    have := (List.getElem?_eq_some_iff.1 hv).1
    simpa using this
  have hold := h.2 j L[j] (List.getElem?_eq_getElem hj)
  refine ⟨?_, (World.frozen?_setCell _ _ _ _).trans hold.2⟩
  by_cases e : j = i
  · subst e
    rw [World.cell?_setCell_same _ _ _ hold.1]
    rw [List.getElem?_set_self hi] at hv
    exact hv
  · rw [World.cell?_setCell_other _ _ _ _ (by first | (simp; done) | (simp; omega)), hold.1]
    rw [List.getElem?_set_ne (Ne.symm e), List.getElem?_eq_getElem hj] at hv
    exact hv
theorem own_wcells {w : World} {B g n cap t sz : Nat} {L : List Value} (h : w.ownsRow B t sz (.slice (some ⟨g, 0, none⟩) n cap) n L) : WCells w g L := by
  have hc := h.cells (g := g) rfl
  have hlt := h.lt g rfl
  obtain ⟨_, ⟨h0, _⟩ | ⟨g', cap', cur, he, hB, hcur, _, _, _, _⟩⟩ := h
  · cases h0
  · have eg : g' = g := by simp at he; exact he.1.symm
    subst eg
    refine ⟨hlt.2, fun j v hj => ⟨?_, ?_⟩⟩
    · have := hc j v hj
      have e : (⟨g', 0, none⟩ : Addr).add j = ⟨g', j, none⟩ := by cases j <;> simp [Addr.add]
      rw [e] at this
      exact this
    · unfold World.frozen?
      rw [hcur]; simp

/-- Cells laid one behind the other: in a list, and in a world. -/
def setL (L : List Value) (off : Nat) : List Value → List Value
  | [] => L
  | v :: vs => setL (L.set off v) (off + 1) vs
def setW (w : World) (g off : Nat) : List Value → World
  | [] => w
  | v :: vs => setW (w.setCell ⟨g, off, none⟩ v) g (off + 1) vs
theorem setL_cons (c : Value) (L : List Value) (off : Nat) (vs : List Value) : setL (c :: L) (off + 1) vs = c :: setL L off vs := by
  induction vs generalizing L off with
  | nil => rfl
  | cons v vs ih => simp only [setL, List.set_cons_succ]; exact ih _ _
theorem setL_app (A L : List Value) (off : Nat) (vs : List Value) : setL (A ++ L) (A.length + off) vs = A ++ setL L off vs := by
  induction A with
  | nil => simp
  | cons a A ih => rw [List.cons_append, List.length_cons, show A.length + 1 + off = (A.length + off) + 1 by omega, setL_cons, ih]; rfl
theorem setL_head (A R B : List Value) (h : A.length = B.length) : setL (A ++ R) 0 B = B ++ R := by
  induction B generalizing A with
  | nil => simp at h; subst h; rfl
  | cons b B ih =>
    cases A with
    | nil => simp at h
    | cons a A =>
      simp only [List.cons_append, setL, List.set_cons_zero, setL_cons]
      rw [ih A (by simpa using h)]
theorem flat_setL {α : Type} {enc : α → List Value} {sz : Nat} (hsz : ∀ x, (enc x).length = sz) (xs : List α) (j : Nat) (h : j < xs.length) (y : α) : setL (xs.flatMap enc) (j * sz) (enc y) = (xs.set j y).flatMap enc := by
  induction xs generalizing j with
  | nil => simp at h
  | cons x xs ih =>
    cases j with
    | zero =>
      simp only [Nat.zero_mul, List.flatMap_cons, List.set_cons_zero]
      exact setL_head _ _ _ (by rw [hsz, hsz])
    | succ j =>
      simp only [List.flatMap_cons, List.set_cons_succ]
      rw [show (j + 1) * sz = (enc x).length + j * sz by rw [hsz, Nat.add_mul]; omega, setL_app, ih j (by simpa using h)]
theorem setL_len (L : List Value) (off : Nat) (vs : List Value) : (setL L off vs).length = L.length := by
  induction vs generalizing L off with
  | nil => rfl
  | cons v vs ih => simp only [setL]; rw [ih]; simp
theorem WCells.setW {w : World} {g : Nat} {L : List Value} (h : WCells w g L) (off : Nat) (vs : List Value) (hl : off + vs.length ≤ L.length) : WCells (setW w g off vs) g (setL L off vs) := by
  induction vs generalizing w L off with
  | nil => exact h
  | cons v vs ih =>
    simp only [List.length_cons] at hl
    exact ih (h.set off v (by omega)) (off + 1) (by rw [List.length_set]; omega)
/-- An element of a row is laid anew. -/
theorem WCells.setElem {α : Type} {enc : α → List Value} {sz : Nat} (hsz : ∀ x, (enc x).length = sz) {w : World} {g : Nat} {xs : List α} (h : WCells w g (xs.flatMap enc)) (j : Nat) (hj : j < xs.length) (y : α) :
    WCells (Go.Proofs.Ytcnjjbgilpgceaa.setW w g (j * sz) (enc y)) g ((xs.set j y).flatMap enc) := by
  have hl : j * sz + (enc y).length ≤ (xs.flatMap enc).length := by
    rw [hsz, flat_len hsz]
    have := Nat.mul_le_mul_right sz (show j + 1 ≤ xs.length by omega)
    rw [Nat.add_mul] at this; omega
  have := h.setW (j * sz) (enc y) hl
  rwa [flat_setL hsz xs j hj y] at this
theorem below_setW {B g : Nat} {a w : World} (h : Below B a w) (hg : B ≤ g) (off : Nat) (vs : List Value) : Below B a (setW w g off vs) := by
  induction vs generalizing w off with
  | nil => exact h
  | cons v vs ih => exact ih (h.setCell (p := ⟨g, off, none⟩) hg v) _
/-- What 'make' lays, for elements of some cells. -/
theorem made_flat {α : Type} {enc : α → List Value} {sz : Nat} (hsz : ∀ x, (enc x).length = sz) (hp : 0 < sz) (z : Array Value) (d : α) (hz : z.toList = enc d) (n : Nat) : (madeCells z (n * sz)).toList = (List.replicate n d).flatMap enc := by
  have hzs : z.size = sz := by rw [← Array.length_toList, hz, hsz]
  apply List.ext_getElem?
  intro i
  by_cases hi : i < n * sz
  · have hq : i / sz < n := Nat.div_lt_of_lt_mul (by rwa [Nat.mul_comm] at hi)
    have hr := Nat.mod_lt i hp
    have e : i = i / sz * sz + i % sz := by rw [Nat.mul_comm]; exact (Nat.div_add_mod i sz).symm
    have l1 := flat_get hsz (List.replicate n d) (i / sz) (by simpa using hq) (i % sz) hr
    rw [← e] at l1
    rw [l1, List.getElem_replicate, ← hz]
    unfold madeCells
    have h3 : i % sz < z.size := by omega
    simp [hi, hzs]
    rw [getElem!_pos z (i % sz) h3, Array.getElem?_eq_getElem h3]
  · rw [List.getElem?_eq_none (by rw [Array.length_toList, size_madeCells]; omega), List.getElem?_eq_none (by rw [flat_len hsz]; simp; omega)]
theorem wcells_new (w : World) (cs : Array Value) (t : TypeId) : WCells (w.alloc (.cells cs t)) w.heap.size cs.toList := by
  refine ⟨by simp, fun i v hv => ⟨?_, ?_⟩⟩
  · rw [World.cell?_alloc_new]; simpa using hv
  · unfold World.frozen?
    rw [heap_alloc_new]; simp
theorem WCells.alloc {w : World} {g : Nat} {L : List Value} (h : WCells w g L) (o : Obj) : WCells (w.alloc o) g L := h.below ((Below.refl _ _).alloc (Nat.le_refl _) o) h.1
theorem WCells.grow {w w' : World} {g : Nat} {L : List Value} (h : WCells w g L) (hb : Below w.heap.size w w') : WCells w' g L := h.below hb h.1
theorem WCells.other {w : World} {g : Nat} {L : List Value} (h : WCells w g L) (p : Addr) (x : Value) (hp : g ≠ p.block) : WCells (w.setCell p x) g L := by
  refine ⟨by have := h.1; simpa [World.setCell] using this, fun j v hv => ?_⟩
  have hold := h.2 j v hv
  refine ⟨?_, (World.frozen?_setCell _ _ _ _).trans hold.2⟩
  rw [← hold.1]
  exact World.cell?_of_block (Below.heap_setCell w p x g hp)
/-- A fact that no tactic parts. -/
structure Shut (p : Prop) : Prop where
  out : p
end Go.Proofs.Ytcnjjbgilpgceaa
/- LsA: Rows of Leases in the laws: their sizes, their copies, two that are the same (written by gen/mkrow.py). -/
namespace Go.Proofs.Ytcnjjbgilpgceaa
set_option maxRecDepth 100000
open Go.RowKit
attribute [local go_sem ↓] Go.wp_at_zero Go.wp_at_succ

structure LsM where
  path : ByteArray
  who : Int
  seen : Int
instance : Inhabited LsM := ⟨⟨⟨#[]⟩, 0, 0⟩⟩
abbrev lsv (f : LsM) : Value := .agg #[.string f.path, .int .i64 f.who, .int .i64 f.seen]
def lsC (f : LsM) : List Value := [.string f.path, .int .i64 f.who, .int .i64 f.seen]
theorem lsC_len (f : LsM) : (lsC f).length = 3 := rfl
def lsS (fs : List LsM) : List Value := fs.flatMap lsC
theorem lsS_len (fs : List LsM) : (lsS fs).length = fs.length * 3 := flat_len lsC_len fs
/-- A row in memory. -/
abbrev LsRow (w : World) (a : Option Addr) (fs : List LsM) : Prop := CRow w a (lsS fs)
theorem LsRow.at {w : World} {a : Option Addr} {fs : List LsM} (h : LsRow w a fs) (hp : 0 < fs.length) :
    ∃ b off, a = some ⟨b, off, none⟩ ∧ b < w.heap.size ∧ ∀ j (h : j < fs.length), w.cell? ⟨b, off + j * 3, none⟩ = some (.string fs[j].path) ∧ w.cell? ⟨b, off + j * 3 + 1, none⟩ = some (.int .i64 fs[j].who) ∧ w.cell? ⟨b, off + j * 3 + 2, none⟩ = some (.int .i64 fs[j].seen) := by
  obtain ⟨b, off, e, hb, hc⟩ := h (by rw [lsS_len]; omega)
  exact ⟨b, off, e, hb, fun j hj => ⟨hc (j * 3) _ (flat_get lsC_len fs j hj 0 (by omega)), hc (j * 3 + 1) _ (flat_get lsC_len fs j hj 1 (by omega)), hc (j * 3 + 2) _ (flat_get lsC_len fs j hj 2 (by omega))⟩⟩
def LsFit (f : LsM) : Prop := f.path.size ≤ 9223372036854775807 ∧ (-9223372036854775808 ≤ f.who ∧ f.who ≤ 9223372036854775807) ∧ (-9223372036854775808 ≤ f.seen ∧ f.seen ≤ 9223372036854775807)
def LsFits (fs : List LsM) : Prop := fs.length ≤ 9223372036854775807 ∧ ∀ f ∈ fs, LsFit f
def lsSum : List LsM → Nat
  | [] => 0
  | f :: fs => f.path.size + lsSum fs
theorem lsSum_take (fs : List LsM) (k : Nat) (h : k < fs.length) : lsSum (fs.take (k + 1)) = lsSum (fs.take k) + (fs[k].path.size) := by
  induction fs generalizing k with
  | nil => simp at h
  | cons f fs ih =>
    cases k with
    | zero => simp [lsSum]
    | succ k =>
      have := ih k (by simpa using h)
      simp only [List.take_succ_cons, lsSum, List.getElem_cons_succ]
      omega
theorem lsSum_mem {fs : List LsM} {f : LsM} (h : f ∈ fs) : f.path.size ≤ lsSum fs := by
  induction fs with
  | nil => cases h
  | cons g fs ih =>
    rcases List.mem_cons.1 h with rfl | q
    · simp only [lsSum]; omega
    · have := ih q
      simp only [lsSum]; omega
def SzPostLs (left : Int) (n : Nat) (w : World) (e : Ending) (w' : World) : Prop := ∃ r : Int, e = .returned (.int .i64 r) ∧ -1 ≤ r ∧ (0 ≤ r → r + n = left) ∧ Below w.heap.size w w'
set_option maxHeartbeats 400000 in
theorem szLease_any (f : LsM) (left : Int) (w : World) (h0 : 0 ≤ left) (h1 : left ≤ 1048576) (hf : LsFit f) :
    Calls Try.prog 48 #[lsv f, .int .i64 left] w fun e w' => SzPostLs left (f.path.size) w e w' := by
  have hh := hf
  unfold LsFit at hh
  clear hf
  by_cases c_path : left - f.path.size < 0
  · go_enter Try.func48, Try.ntmps48
    go_wp2_with fail
    go_ret
    exact ⟨-1, rfl, by omega, by first | omega | (intro _; push_cast; omega), (Below.refl _ _).alloc (Nat.le_refl _) _⟩
  · skip
    go_enter Try.func48, Try.ntmps48
    go_wp2_with fail
    go_ret
    exact ⟨left - f.path.size, rfl, by omega, by first | omega | (intro _; push_cast; omega), (Below.refl _ _).alloc (Nat.le_refl _) _⟩
set_option maxHeartbeats 1000000 in
theorem szLeaseS_any (a : Option Addr) (fs : List LsM) (cap : Nat) (left : Int) (w : World) (hr : LsRow w a fs) (hf : LsFits fs) (h0 : 0 ≤ left) (h1 : left ≤ 1048576) :
    Calls Try.prog 21 #[.slice a fs.length cap, .int .i64 left] w fun e w' => SzPostLs left (fs.length + lsSum fs) w e w' := by
  have hl := hf.1
  by_cases c1 : left - fs.length < 0
  · clear hr hf
    go_enter Try.func21, Try.ntmps21
    go_wp2_with fail
    go_ret
    exact ⟨-1, rfl, by omega, by omega, Below.refl _ _⟩
  · have HR : Hid (LsRow w a fs) := hr
    have HF : Hid (LsFits fs) := hf
    clear hr hf
    go_enter Try.func21, Try.ntmps21
    go_wp2_with fail
    go_loopw [1, 5] (fun v i wr => ∃ (k : Nat) (l : Int), v = .int .i64 l ∧ i = .int .i64 k ∧ k ≤ fs.length ∧ 0 ≤ l ∧ l + fs.length + lsSum (fs.take k) = left ∧ Below w.heap.size w wr) (fun _ i _ => fs.length - (intOf i).toNat)
    case atStart => exact ⟨0, left - fs.length, rfl, rfl, Nat.zero_le _, by omega, by simp [lsSum], Below.refl _ _⟩
    case round =>
      obtain ⟨k, l, rfl, rfl, hk, hl0, hsum, hb⟩ := hrel
      by_cases hlt : k < fs.length
      · obtain ⟨b, off, rfl, hbl, hc⟩ := LsRow.at (HR.out.stays hb) (by omega)
        obtain ⟨d0, d1, d2⟩ := hc k hlt
        have HS : Hid (l + fs.length + lsSum (fs.take k) = left) := hsum
        have hst := lsSum_take fs k hlt
        have HST : Hid (lsSum (fs.take (k + 1)) = lsSum (fs.take k) + (fs[k].path.size)) := hst
        have hfk := HF.out.2 fs[k] (List.getElem_mem hlt)
        obtain ⟨f, hfe⟩ : ∃ f, f = fs[k] := ⟨_, rfl⟩
        rw [← hfe] at d0 d1 d2 hfk
        have HFE : Hid (f = fs[k]) := hfe
        have HB : Hid (Below w.heap.size w wr) := hb
        have hl1 : l ≤ 1048576 := by omega
        have k0 : (0 : Int) ≤ (k : Int) := by omega
        have k1 : (k : Int) < (fs.length : Int) := by omega
        clear hc hsum hst hfe hb
        go_wp2_with fail
        refine (szLease_any f l _ hl0 hl1 hfk).mono ?_
        rintro e w2 ⟨r, rfl, hr1, hr2, hb2⟩
        have HB2 : Hid (Below w.heap.size w w2) := HB.out.trans (hb2.mono HB.out.size)
        clear hb2
        by_cases hr : r < 0
        · go_wp2_with fail
          go_ret
          exact ⟨-1, rfl, by omega, by omega, HB2.out⟩
        · have hr3 := hr2 (by omega)
          have HR3 : Hid (r + ((f.path.size : Nat) : Int) = l) := hr3
          clear hr2 hr3
          go_wp2_with fail
          go_roundw
          case rel => exact ⟨k + 1, r, rfl, by go_num, by omega, by omega, by rw [HST.out, ← HFE.out]; have := HR3.out; have := HS.out; push_cast at *; omega, HB2.out⟩
          case measure => simp [intOf]; omega
      · obtain rfl : k = fs.length := by omega
        rw [List.take_length] at hsum
        go_wp2_with fail
        go_ret
        exact ⟨l, rfl, by omega, by intro _; push_cast; omega, hb⟩
theorem toLease_any (f : LsM) (w : World) :
    Calls Try.prog 50 #[lsv f] w fun e w' => e = .returned (lsv f) ∧ Below w.heap.size w w' := by
  go_enter Try.func50, Try.ntmps50
  go_wp2_with fail
  refine bodyPost_ret (v := lsv f) (by simp [results, Try.results50, go_sem]) rfl ⟨rfl, ?_⟩
  exact (((Below.refl _ _).alloc (Nat.le_refl _) _).alloc (by simp) _).alloc (by simp; omega) _
/-- A copy, in a block of its own. -/
def ToPostLs (fs : List LsM) (w : World) (e : Ending) (w' : World) : Prop := ∃ g, e = .returned (.slice (some ⟨g, 0, none⟩) fs.length fs.length) ∧ w.heap.size ≤ g ∧ WCells w' g (lsS fs) ∧ Below w.heap.size w w'
theorem infoLease : (Try.prog.info? 35).map (fun i => (i.zero, i.size, i.bytes)) = some (some (.agg #[.string ⟨#[]⟩, .int .i64 0, .int .i64 0]), 3, 32) := by kernel_rfl
set_option maxHeartbeats 1000000 in
theorem toLeaseS_any (a : Option Addr) (fs : List LsM) (cap : Nat) (w : World) (hr : LsRow w a fs) (hl : fs.length ≤ 1048576) :
    Calls Try.prog 23 #[.slice a fs.length cap] w fun e w' => ToPostLs fs w e w' := by
  obtain ⟨i0, hi, hz0, hz1, hz2⟩ := info_parts infoLease
  have HR : Hid (LsRow w a fs) := hr
  clear hr
  go_enter Try.func23, Try.ntmps23
  go_wp2_with (at_make; refine wpList_make_full _ rfl _ _ 24 rfl w.heap.size 35 i0 _ 3 Try.underlying24 hi hz0 hz1 .i64 .i64 _ _ fs.length rfl rfl (by omega) (by omega) ?b2 ?b3 ?b4 ?_)
  case b2 => rw [hz2]; omega
  case b3 => unfold maxLen; omega
  case b4 => omega
  intro wm hownm hgrm
  have hbm : Below w.heap.size w wm := (Below.refl _ _).grown hgrm (Nat.le_refl _) (fun j hj => by simp at hj)
  have hrow : WCells wm w.heap.size (lsS (List.replicate fs.length default)) := by
    have h := own_wcells hownm
    have e : (madeCells #[.string ⟨#[]⟩, .int .i64 0, .int .i64 0] (fs.length * 3)).toList = lsS (List.replicate fs.length default) := made_flat lsC_len (by decide) #[.string ⟨#[]⟩, .int .i64 0, .int .i64 0] default rfl _
    rw [e] at h; exact h
  clear hownm hgrm
  go_wp2_with fail
  go_loopw [4] (fun i wr => ∃ (k : Nat) (gs : List LsM), i = .int .i64 k ∧ k ≤ fs.length ∧ gs.length = fs.length ∧ gs.take k = fs.take k ∧ WCells wr w.heap.size (lsS gs) ∧ Below w.heap.size w wr) (fun i _ => fs.length - (intOf i).toNat)
  case atStart => exact ⟨0, _, rfl, by omega, by simp, by simp, hrow, hbm⟩
  case round =>
    clear hrow hbm
    obtain ⟨k, gs, rfl, hk, hgl, hgt, hw, hb⟩ := hrel
    by_cases hlt : k < fs.length
    · obtain ⟨b, off, rfl, hbl, hc⟩ := LsRow.at HR.out (by omega)
      obtain ⟨d0, d1, d2⟩ := hc k hlt
      rw [← hb.cell (p := ⟨b, off + k * 3, none⟩) hbl] at d0
      rw [← hb.cell (p := ⟨b, off + k * 3 + 1, none⟩) hbl] at d1
      rw [← hb.cell (p := ⟨b, off + k * 3 + 2, none⟩) hbl] at d2
      obtain ⟨f, hfe⟩ : ∃ f, f = fs[k] := ⟨_, rfl⟩
      rw [← hfe] at d0 d1 d2
      have k0 : (0 : Int) ≤ (k : Int) := by omega
      have k1 : (k : Int) < (fs.length : Int) := by omega
      have HFE : Hid (f = fs[k]) := hfe
      have HG : Hid (gs.length = fs.length ∧ gs.take k = fs.take k) := ⟨hgl, hgt⟩
      clear hc hfe hgl hgt
      go_wp2_with fail
      refine (toLease_any f _).mono ?_
      rintro e w2 ⟨rfl, hb2⟩
      have hw2 := hw.below hb2 hw.1
      have hb3 : Below w.heap.size w w2 := hb.trans (hb2.mono hb.size)
      clear hw hb hb2 d0 d1 d2
      have hgk : k < gs.length := by have := HG.out.1; omega
      obtain ⟨c0, z0⟩ := hw2.2 (k * 3) _ (flat_get lsC_len gs k hgk 0 (by omega))
      obtain ⟨c1, z1⟩ := hw2.2 (k * 3 + 1) _ (flat_get lsC_len gs k hgk 1 (by omega))
      obtain ⟨c2, z2⟩ := hw2.2 (k * 3 + 2) _ (flat_get lsC_len gs k hgk 2 (by omega))
      have HW : Hid (WCells w2 w.heap.size (lsS gs)) := hw2
      clear hw2
      have hset := HW.out.setElem lsC_len k hgk f
      have hbn := below_setW hb3 (Nat.le_refl _) (k * 3) (lsC f)
      have HS : Hid (WCells (setW w2 w.heap.size (k * 3) (lsC f)) w.heap.size (lsS (gs.set k f))) := hset
      have HBN : Hid (Below w.heap.size w (setW w2 w.heap.size (k * 3) (lsC f))) := hbn
      clear hset hbn
      go_wp2_with fail
      go_roundw
      case rel =>
        refine ⟨k + 1, gs.set k f, by go_num, by omega, by rw [List.length_set]; exact HG.out.1, ?_, HS.out, HBN.out⟩
        rw [List.take_succ_eq_append_getElem (by rw [List.length_set]; exact hgk), List.take_succ_eq_append_getElem hlt, List.take_set_of_le (Nat.le_refl _), HG.out.2, List.getElem_set_self, HFE.out]
      case measure => simp [intOf]; omega
    · have e : gs = fs := by
        rw [List.take_of_length_le (by omega), List.take_of_length_le (by omega)] at hgt; exact hgt
      subst e
      go_wp2_with fail
      go_ret
      exact ⟨_, rfl, Nat.le_refl _, hw, hb⟩
theorem eqLease_same (f : LsM) (w : World) :
    Calls Try.prog 51 #[lsv f, lsv f] w fun e w' => e = .returned (.bool true) ∧ Below w.heap.size w w' := by
  go_enter Try.func51, Try.ntmps51
  go_wp2_with fail
  go_ret
  exact ⟨rfl, ((Below.refl _ _).alloc (Nat.le_refl _) _).alloc (by simp) _⟩
set_option maxHeartbeats 1000000 in
theorem eqLeaseS_same (a b : Option Addr) (fs : List LsM) (ca cb : Nat) (w : World) (ha : LsRow w a fs) (hb : LsRow w b fs) (hl : fs.length ≤ 9000000) :
    Calls Try.prog 24 #[.slice a fs.length ca, .slice b fs.length cb] w fun e w' => e = .returned (.bool true) ∧ Below w.heap.size w w' := by
  have HA : Hid (LsRow w a fs) := ha
  have HB : Hid (LsRow w b fs) := hb
  clear ha hb
  go_enter Try.func24, Try.ntmps24
  go_wp2_with fail
  go_loopw [5] (fun i wr => ∃ (k : Nat), i = .int .i64 k ∧ k ≤ fs.length ∧ Below w.heap.size w wr) (fun i _ => fs.length - (intOf i).toNat)
  case atStart => exact ⟨0, rfl, Nat.zero_le _, Below.refl _ _⟩
  case round =>
    obtain ⟨k, rfl, hk, hbl⟩ := hrel
    by_cases hlt : k < fs.length
    · obtain ⟨b1, o1, rfl, l1, hc1⟩ := LsRow.at (HA.out.stays hbl) (by omega)
      obtain ⟨b2, o2, rfl, l2, hc2⟩ := LsRow.at (HB.out.stays hbl) (by omega)
      obtain ⟨d0, d1, d2⟩ := hc1 k hlt
      obtain ⟨e0, e1, e2⟩ := hc2 k hlt
      obtain ⟨f, hfe⟩ : ∃ f, f = fs[k] := ⟨_, rfl⟩
      rw [← hfe] at d0 d1 d2 e0 e1 e2
      have HS : Hid (Below w.heap.size w wr) := hbl
      have k0 : (0 : Int) ≤ (k : Int) := by omega
      have k1 : (k : Int) < (fs.length : Int) := by omega
      clear hc1 hc2 hfe hbl
      go_wp2_with fail
      go_region_held3 (fun w' => w'.cell? ⟨b1, o1 + k * 3, none⟩ = some (.string f.path) ∧ w'.cell? ⟨b1, o1 + k * 3 + 1, none⟩ = some (.int .i64 f.who) ∧ w'.cell? ⟨b1, o1 + k * 3 + 2, none⟩ = some (.int .i64 f.seen) ∧ w'.cell? ⟨b2, o2 + k * 3, none⟩ = some (.string f.path) ∧ w'.cell? ⟨b2, o2 + k * 3 + 1, none⟩ = some (.int .i64 f.who) ∧ w'.cell? ⟨b2, o2 + k * 3 + 2, none⟩ = some (.int .i64 f.seen))
        (first | go_keep | (refine ⟨?_, ?_, ?_, ?_, ?_, ?_⟩ <;> first | (rw [hb2.cell (by exact l1)]; simp [*]) | (rw [hb2.cell (by exact l2)]; simp [*])))
        ((go_at_call 51; refine (eqLease_same f _).mono ?_; rintro e w2 ⟨rfl, hb2⟩))
      all_goals go_wp2_with fail
      all_goals
        have hb3 : Below w.heap.size w w2 := HS.out.trans ((Below.drew (Below.refl _ _)).trans (hb2.mono HS.out.size))
        exact ⟨⟨k + 1, by go_num, by omega, hb3⟩, by simp [intOf]; omega⟩
    · have e : k = fs.length := by omega
      subst e
      go_wp2_with fail
      go_ret
      exact ⟨rfl, hbl⟩
end Go.Proofs.Ytcnjjbgilpgceaa
/- StrsA: Slices of strings: how they are held against each other. -/
namespace Go.Proofs.Ytcnjjbgilpgceaa
set_option maxRecDepth 100000
open Go.RowKit

theorem drewN_two (w : World) (a b : Nat) : (w.drewN a).drewN b = w.drewN (a + b) := by simp [World.drewN, Nat.add_assoc]
/-- A slice of strings, as it reads. -/
def SRow (w : World) (a : Option Addr) (xs : List ByteArray) : Prop :=
  0 < xs.length → ∃ g, a = some ⟨g, 0, none⟩ ∧ g < w.heap.size ∧ ∀ j, j < xs.length → w.cell? ⟨g, j, none⟩ = some (.string (xs.getD j ⟨#[]⟩))

def eqS (xs ys : List ByteArray) : Bool := decide (xs = ys)
theorem eqS_len (xs ys : List ByteArray) (h : xs.length ≠ ys.length) : eqS xs ys = false := by
  unfold eqS; rw [decide_eq_false]; intro e; rw [e] at h; exact h rfl
/-- The first k are the same. -/
def sameTo (xs ys : List ByteArray) (k : Nat) : Prop := ∀ j, j < k → xs.getD j ⟨#[]⟩ = ys.getD j ⟨#[]⟩
theorem eqS_yes (xs ys : List ByteArray) (h : xs.length = ys.length) (hs : sameTo xs ys xs.length) : eqS xs ys = true := by
  unfold eqS; rw [decide_eq_true]
  apply List.ext_getElem h
  intro j h1 h2
  have := hs j h1
  simpa [List.getD, h1, h2] using this
theorem eqS_no (xs ys : List ByteArray) (k : Nat) (h : xs.getD k ⟨#[]⟩ ≠ ys.getD k ⟨#[]⟩) : eqS xs ys = false := by
  unfold eqS; rw [decide_eq_false]; intro e; rw [e] at h; exact h rfl
theorem sameTo_step (xs ys : List ByteArray) (k : Nat) (h : sameTo xs ys k) (hk : xs.getD k ⟨#[]⟩ = ys.getD k ⟨#[]⟩) : sameTo xs ys (k + 1) := by
  intro j hj
  by_cases e : j = k
  · subst e; exact hk
  · exact h j (by omega)

set_option maxHeartbeats 400000 in
theorem eqStringS_any (a b : Option Addr) (xs ys : List ByteArray) (ca cb : Nat) (w : World) (ha : SRow w a xs) (hb : SRow w b ys) (hn : xs.length ≤ 100000000) (hm : ys.length ≤ 100000000) :
    Calls Try.prog 30 #[.slice a xs.length ca, .slice b ys.length cb] w fun e w' => e = .returned (.bool (eqS xs ys)) ∧ ∃ q, w' = w.drewN q := by
  obtain ⟨n, hnx⟩ : ∃ n, n = xs.length := ⟨_, rfl⟩
  obtain ⟨m, hmy⟩ : ∃ m, m = ys.length := ⟨_, rfl⟩
  have HN : Hid (n = xs.length) := hnx
  have HM : Hid (m = ys.length) := hmy
  rw [← hnx, ← hmy]
  rw [← hnx] at hn
  rw [← hmy] at hm
  clear hnx hmy
  by_cases h : n = m
  · subst h
    have hd : (((n : Int) != (n : Int))) = false := by simp
    go_enter Try.func30, Try.ntmps30
    go_wp2_with fail
    go_loopw [5] (fun i wr => ∃ (k q : Nat), i = .int .i64 k ∧ k ≤ n ∧ sameTo xs ys k ∧ wr = w.drewN q) (fun i _ => n - (intOf i).toNat)
    case atStart => exact ⟨0, 0, rfl, Nat.zero_le _, fun j hj => by omega, rfl⟩
    case round =>
      obtain ⟨k, q, rfl, hk, hs, rfl⟩ := hrel
      by_cases hlt : k < n
      · obtain ⟨g, rfl, _, hc⟩ := ha (by have := HN.out; omega)
        obtain ⟨g', rfl, _, hc'⟩ := hb (by have := HM.out; omega)
        have c1 := hc k (by have := HN.out; omega)
        have c2 := hc' k (by have := HM.out; omega)
        have k0 : (0 : Int) ≤ (k : Int) := by omega
        have k1 : (k : Int) < (n : Int) := by omega
        obtain ⟨x, hx⟩ : ∃ x, x = xs.getD k ⟨#[]⟩ := ⟨_, rfl⟩
        obtain ⟨y, hy⟩ : ∃ y, y = ys.getD k ⟨#[]⟩ := ⟨_, rfl⟩
        rw [← hx] at c1
        rw [← hy] at c2
        have HX : Hid _ := hx
        have HY : Hid _ := hy
        clear hx hy hc hc'
        by_cases hxy : x = y
        · have hst := sameTo_step xs ys k hs (by rw [← HX.out, ← HY.out]; exact hxy)
          subst hxy
          go_wp2_with fail
          go_quiet (fail)
          go_wp2_with fail
          go_roundw
          case rel => exact ⟨k + 1, q + nq, by go_num, by omega, hst, rfl⟩
          case measure => simp [intOf]; omega
        · have hbn : (x.toList == y.toList) = false := by
            rw [beq_eq_false_iff_ne]; intro e; apply hxy
            rw [Go.ByteArray.toList_eq, Go.ByteArray.toList_eq] at e
            exact Go.WideShapes.bytes_inj e
          have HE : Hid (eqS xs ys = false) := eqS_no xs ys k (by rw [← HX.out, ← HY.out]; exact hxy)
          go_wp2_with fail
          go_quiet (fail)
          go_wp2_with fail
          go_ret
          exact ⟨by rw [HE.out]; rfl, q + nq, drewN_two _ _ _⟩
      · have HE : Hid (eqS xs ys = true) := eqS_yes xs ys (by rw [← HN.out, ← HM.out]) (by rw [show xs.length = k from by have := HN.out; omega]; exact hs)
        go_wp2_with fail
        go_ret
        exact ⟨by rw [HE.out]; rfl, q, rfl⟩
  · have HE : Hid (eqS xs ys = false) := eqS_len xs ys (by rw [← HN.out, ← HM.out]; exact h)
    have hd : (((n : Int) != (m : Int))) = true := by rw [bne_iff_ne]; omega
    go_enter Try.func30, Try.ntmps30
    go_wp2_with fail
    go_ret
    exact ⟨by rw [HE.out]; rfl, 0, rfl⟩
end Go.Proofs.Ytcnjjbgilpgceaa
/- DecM: Plain facts on figures: 'dg n' are the figures of n (none of 0), 'decS n' those that Decimal writes; the two ways of reading them back are one. -/
namespace Go.Proofs.Ytcnjjbgilpgceaa.W

def dgF : Nat → Nat → List UInt8
  | 0, _ => []
  | f + 1, n => if n = 0 then [] else dgF f (n / 10) ++ [UInt8.ofNat (48 + n % 10)]
def dg (n : Nat) : List UInt8 := dgF n n
theorem dgF_enough : ∀ (f g n : Nat), n ≤ f → n ≤ g → dgF f n = dgF g n
  | 0, 0, _, _, _ => rfl
  | 0, g + 1, n, h, _ => by have : n = 0 := (by omega); subst this; simp [dgF]
  | f + 1, 0, n, _, h => by have : n = 0 := (by omega); subst this; simp [dgF]
  | f + 1, g + 1, n, h1, h2 => by
    unfold dgF
    by_cases h : n = 0
    · rw [if_pos h, if_pos h]
    · rw [if_neg h, if_neg h, dgF_enough f g (n / 10) (by omega) (by omega)]
theorem dg_zero : dg 0 = [] := rfl
theorem dg_step (n : Nat) (h : 0 < n) : dg n = dg (n / 10) ++ [UInt8.ofNat (48 + n % 10)] := by
  unfold dg
  match n, h with
  | k + 1, _ => rw [dgF, if_neg (by omega), dgF_enough k ((k + 1) / 10) ((k + 1) / 10) (by omega) (by omega)]
def decS (n : Nat) : List UInt8 := if n = 0 then [48] else dg n
theorem dg_len : ∀ (k n : Nat), n < 10 ^ k → (dg n).length ≤ k
  | 0, n, h => by have : n = 0 := (by simpa using h); subst this; simp [dg_zero]
  | k + 1, n, h => by
    by_cases hn : n = 0
    · subst hn; simp [dg_zero]
    · rw [dg_step n (by omega)]
      have := dg_len k (n / 10) (by rw [Nat.pow_succ] at h; omega)
      simp; omega
/-- No figures begin with a nought. -/
theorem dg_head : ∀ (f n : Nat), n ≤ f → (dg n).head? ≠ some 48
  | 0, n, h => by have : n = 0 := (by omega); subst this; simp [dg_zero]
  | f + 1, n, h => by
    by_cases hn : n = 0
    · subst hn; simp [dg_zero]
    · rw [dg_step n (by omega)]
      by_cases h10 : n / 10 = 0
      · rw [h10, dg_zero]
        simp
        intro e
        have := congrArg UInt8.toNat e
        simp at this
        omega
      · have ih := dg_head f (n / 10) (by omega)
        have hne : dg (n / 10) ≠ [] := by rw [dg_step _ (by omega)]; simp
        cases hc : dg (n / 10) with
        | nil => exact absurd hc hne
        | cons a r => rw [hc] at ih; simpa using ih

abbrev isFig (c : UInt8) : Prop := 48 ≤ c.toNat ∧ c.toNat ≤ 57
def numV (l : List UInt8) : Nat := l.foldl (fun n c => 10 * n + (c.toNat - 48)) 0
theorem numV_snoc (l : List UInt8) (c : UInt8) : numV (l ++ [c]) = 10 * numV l + (c.toNat - 48) := by simp [numV]
theorem foldl_le (l : List UInt8) : ∀ n : Nat, n ≤ l.foldl (fun n c => 10 * n + (c.toNat - 48)) n := by
  induction l with
  | nil => intro n; simp
  | cons c l ih => intro n; simp only [List.foldl_cons]; have := ih (10 * n + (c.toNat - 48)); omega
theorem numV_app (l r : List UInt8) : numV l ≤ numV (l ++ r) := by
  unfold numV; rw [List.foldl_append]; exact foldl_le r _
theorem numV_bd : ∀ (l : List UInt8) (n : Nat), (∀ c ∈ l, isFig c) → l.foldl (fun n c => 10 * n + (c.toNat - 48)) n + 1 ≤ (n + 1) * 10 ^ l.length
  | [], n, _ => by simp
  | c :: l, n, h => by
    have hc := h c (by simp)
    have := numV_bd l (10 * n + (c.toNat - 48)) (fun x hx => h x (by simp [hx]))
    simp only [List.foldl_cons, List.length_cons, Nat.pow_succ]
    have h2 : (10 * n + (c.toNat - 48) + 1) * 10 ^ l.length ≤ ((n + 1) * 10) * 10 ^ l.length := Nat.mul_le_mul_right _ (by unfold isFig at hc; omega)
    have h3 : (n + 1) * 10 * 10 ^ l.length = (n + 1) * (10 ^ l.length * 10) := by rw [Nat.mul_assoc, Nat.mul_comm 10]
    omega
theorem numV_lt (l : List UInt8) (h : ∀ c ∈ l, isFig c) : numV l < 10 ^ l.length := by
  have := numV_bd l 0 h
  unfold numV; omega

/-- What ReadDecimal answers. -/
def rdS (l : List UInt8) : Option Nat :=
  if l.length ≤ 10 ∧ (∀ c ∈ l, isFig c) ∧ numV l ≤ 1000000000 ∧ decS (numV l) = l then some (numV l) else none

theorem rdS_no (l : List UInt8) (h : ¬ (l.length ≤ 10 ∧ (∀ c ∈ l, isFig c) ∧ numV l ≤ 1000000000 ∧ decS (numV l) = l)) : rdS l = none := by
  unfold rdS; rw [if_neg h]
theorem rdS_yes (l : List UInt8) (h1 : l.length ≤ 10) (h2 : ∀ c ∈ l, isFig c) (h3 : numV l ≤ 1000000000) (h4 : decS (numV l) = l) : rdS l = some (numV l) := by
  unfold rdS; rw [if_pos ⟨h1, h2, h3, h4⟩]
theorem rdS_nil : rdS [] = none := rdS_no _ (by rintro ⟨_, _, _, h⟩; simp [numV, decS] at h)
theorem rdS_bad (p r : List UInt8) (c : UInt8) (h : ¬ isFig c) : rdS (p ++ c :: r) = none := rdS_no _ (fun x => h (x.2.1 c (by simp)))
theorem rdS_great (p r : List UInt8) (h : 1000000000 < numV p) : rdS (p ++ r) = none := rdS_no _ (fun x => by have := numV_app p r; have := x.2.2.1; omega)
theorem rdS_nought (r : List UInt8) (h : r ≠ []) : rdS (48 :: r) = none := rdS_no _ (fun x => by
  have h4 := x.2.2.2
  unfold decS at h4
  split at h4
  · simp at h4; exact h h4
  · have := dg_head _ _ (Nat.le_refl (numV (48 :: r)))
    rw [h4] at this
    simp at this)

/-- Figures read so far, with no needless nought. -/
def good (p : List UInt8) : Prop := (∀ c ∈ p, isFig c) ∧ (p = [] ∨ p = [48] ∨ (0 < numV p ∧ dg (numV p) = p))
theorem good_nil : good [] := ⟨fun _ h => by simp at h, .inl rfl⟩
theorem fig_byte (c : UInt8) (h : isFig c) : UInt8.ofNat (48 + (c.toNat - 48)) = c := by
  unfold isFig at h
  have : 48 + (c.toNat - 48) = c.toNat := by omega
  rw [this]; simp
theorem good_step (p : List UInt8) (c : UInt8) (hp : good p) (hc : isFig c) (h0 : p = [] ∨ 0 < numV p) : good (p ++ [c]) := by
  have h0c : (∀ x ∈ p ++ [c], isFig x) := by
    intro x hx
    rcases List.mem_append.1 hx with h | h
    · exact hp.1 x h
    · simp at h; subst h; exact hc
  refine ⟨h0c, ?_⟩
  have hd : dg (numV p) = p := by
    rcases hp.2 with h | h | h
    · subst h; rfl
    · subst h; rcases h0 with h | h
      · simp at h
      · simp [numV] at h
    · exact h.2
  by_cases hz : numV (p ++ [c]) = 0
  · rw [numV_snoc] at hz
    have hp0 : p = [] := by
      rcases h0 with h | h
      · exact h
      · omega
    right; left
    subst hp0
    have : c.toNat = 48 := by unfold isFig at hc; omega
    have e : c = 48 := UInt8.toNat_inj.1 (by simpa using this)
    rw [e]; rfl
  · right; right
    refine ⟨by omega, ?_⟩
    have hlt : c.toNat - 48 < 10 := by unfold isFig at hc; omega
    rw [dg_step _ (by omega), numV_snoc]
    have e1 : (10 * numV p + (c.toNat - 48)) / 10 = numV p := by omega
    have e2 : (10 * numV p + (c.toNat - 48)) % 10 = c.toNat - 48 := by omega
    rw [e1, e2, hd, fig_byte c hc]
theorem good_yes (p : List UInt8) (hp : good p) (hne : p ≠ []) (h : numV p ≤ 1000000000) : rdS p = some (numV p) := by
  have h4 : decS (numV p) = p := by
    rcases hp.2 with e | e | e
    · exact absurd e hne
    · subst e; rfl
    · unfold decS; rw [if_neg (by omega)]; exact e.2
  refine rdS_yes p ?_ hp.1 h h4
  rcases hp.2 with e | e | e
  · subst e; simp
  · subst e; simp
  · rw [← e.2]; exact dg_len 10 _ (by omega)
theorem good_again (p r : List UInt8) (hp : good p) (hne : p ≠ []) (hr : r ≠ []) (h : numV p = 0) : rdS (p ++ r) = none := by
  rcases hp.2 with e | e | e
  · exact absurd e hne
  · subst e; exact rdS_nought r hr
  · omega
end Go.Proofs.Ytcnjjbgilpgceaa.W
/- Dec: The walks of the models' Decimal, and of the two ReadDecimal. -/
namespace Go.Proofs.Ytcnjjbgilpgceaa
set_option maxRecDepth 100000
open Go.RowKit
open Go.PlainAid (bt)

/-- The text of one byte. -/
def oneB (c : Int) : ByteArray := ⟨#[UInt8.ofNat c.toNat]⟩
theorem oneB_size (c : Int) : (oneB c).size = 1 := rfl
/-- 'string([]byte{c})'. -/
theorem one_byte (W : World) (c : Int) (h0 : 0 ≤ c) (h1 : c < 256) :
    (convert 22 9 (.slice (some ⟨W.heap.size, 0, none⟩) 1 1)).run Try.prog (W.alloc (.cells #[.int .u8 c] 5)) =
      .ok (.string (oneB c)) (W.alloc (.cells #[.int .u8 c] 5)) := by
  have := run_convert_bytes_back (P := Try.prog) (W.alloc (.cells #[.int .u8 c] 5)) 22 9 5 ⟨W.heap.size, 0, none⟩ 1 [UInt8.ofNat c.toNat] Try.underlying22 Try.underlying5 Try.underlying9
    (fun j hj => by
      have : j = 0 := by simp at hj; omega
      subst this
      have e := byte_of c h0 h1
      rw [e]
      exact cell_one_new W _ _ 0 _ rfl)
  simpa [oneB] using this

theorem dg_more {n m : Nat} {s : ByteArray} (hm : 0 < m) (h : W.dg m ++ s.data.toList = W.dg n) (c : Int) (hc : c = 48 + ((m % 10 : Nat) : Int)) :
    W.dg (m / 10) ++ (oneB c ++ s).data.toList = W.dg n := by
  rw [← h, W.dg_step m hm]
  have e : UInt8.ofNat c.toNat = UInt8.ofNat (48 + m % 10) := by rw [hc]; congr 1
  unfold oneB
  rw [e]
  simp

theorem neg_words (m : Nat) (h : m ≤ 9223372036854775808) : (-(m : Int)).tmod 10 = -((m : Int) % 10) ∧ (-(m : Int)).tdiv 10 = -((m : Int) / 10) := by
  rw [Int.neg_tmod, Int.neg_tdiv, Int.tmod_eq_emod_of_nonneg (by omega), Int.tdiv_eq_ediv_of_nonneg (by omega)]
  exact ⟨rfl, rfl⟩

end Go.Proofs.Ytcnjjbgilpgceaa
/- StrsB: Slices of strings: marks that are laid into one, and found again. -/
namespace Go.Proofs.Ytcnjjbgilpgceaa
set_option maxRecDepth 100000
open Go.RowKit
attribute [local go_sem ↓] Go.wp_at_zero Go.wp_at_succ

/-- The text of a mark. -/
def mt (k : Nat) : ByteArray := (⟨#[109]⟩ : ByteArray) ++ ⟨(W.decS k).toArray⟩

set_option maxHeartbeats 400000 in
theorem markText_any (n : Nat) (w : World) (hn : 0 < n) (hm : n ≤ 1000000000) :
    Calls Try.prog 53 #[.int .i64 n] w fun e w' => e = .returned (.string (mt n)) ∧ Below w.heap.size w w' := by
  have h0 : decide ((n : Int) ≤ 0) = false := by simp; omega
  have hl := W.dg_len 20 n (by omega)
  go_enter Try.func53, Try.ntmps53
  go_wp2_with fail
  go_loopw [0, 3] (fun i v wr => ∃ (m : Nat) (s : ByteArray), i = .int .i64 m ∧ v = .string s ∧ m ≤ n ∧ W.dg m ++ s.data.toList = W.dg n ∧ Below w.heap.size w wr) (fun i _ _ => (intOf i).toNat)
  case atStart => exact ⟨n, ⟨#[]⟩, rfl, rfl, Nat.le_refl _, by simp, Below.refl _ _⟩
  case round =>
    obtain ⟨m, s, rfl, rfl, hmn, hs, hb⟩ := hrel
    have HS : Hid (W.dg m ++ s.data.toList = W.dg n) := hs
    have hsz : s.size ≤ 20 := by have := congrArg List.length hs; simp at this; have e : s.data.size = s.size := rfl; omega
    clear hs
    by_cases hz : m = 0
    · subst hz
      have hst : mt n = (⟨#[109]⟩ : ByteArray) ++ s := by
        have := HS.out
        rw [W.dg_zero, List.nil_append] at this
        unfold mt W.decS
        rw [if_neg (by omega), ← this]
      have HT : Hid _ := hst
      clear hst
      go_wp2_with fail
      go_ret
      refine ⟨?_, hb⟩
      rw [HT.out]
      rfl
    · have hp : 0 < m := by omega
      have hB := hb.size
      have ho := oneB_size (48 + (m : Int) % 10)
      have hcv := one_byte wr (48 + (m : Int) % 10) (by omega) (by omega)
      go_wp2_with fail
      go_roundw
      case rel => exact ⟨m / 10, _, by go_num, rfl, by omega, dg_more hp HS.out _ (by omega), hb.alloc hB _⟩
      case measure => simp [intOf]; omega
theorem markText_int (x : Int) (w : World) (h0 : 0 < x) (h1 : x ≤ 1000000000) :
    Calls Try.prog 53 #[.int .i64 x] w fun e w' => e = .returned (.string (mt x.toNat)) ∧ Below w.heap.size w w' := by
  obtain ⟨n, rfl⟩ := Int.eq_ofNat_of_zero_le (Int.le_of_lt h0)
  exact markText_any n w (by omega) (by omega)

/-- Marks from k on. -/
def marks (k n : Nat) : List ByteArray := (List.range n).map fun j => mt (k + j)
theorem marks_len (k n : Nat) : (marks k n).length = n := by simp [marks]
theorem marks_at (k n j : Nat) (h : j < n) : (marks k n).getD j ⟨#[]⟩ = mt (k + j) := by simp [marks, List.getD, h]

set_option maxHeartbeats 400000 in
theorem heldStringS_any (a : Option Addr) (k n ca : Nat) (w : World) (ha : SRow w a (marks k n)) (hk : 0 < k) (hn : k + n ≤ 100000000) :
    Calls Try.prog 32 #[.slice a n ca, .int .i64 k] w fun e w' => e = .returned (.int .i64 (k + n : Nat)) ∧ Below w.heap.size w w' := by
  go_enter Try.func32, Try.ntmps32
  go_wp2_with fail
  go_loopw [1, 5] (fun c i wr => ∃ (j : Nat), i = .int .i64 j ∧ c = .int .i64 (k + j : Nat) ∧ j ≤ n ∧ Below w.heap.size w wr) (fun _ i _ => n - (intOf i).toNat)
  case atStart => exact ⟨0, rfl, rfl, Nat.zero_le _, Below.refl _ _⟩
  case round =>
    obtain ⟨j, rfl, rfl, hj, hb⟩ := hrel
    have hB := hb.size
    by_cases hlt : j < n
    · obtain ⟨g, rfl, hg, hc⟩ := ha (by rw [marks_len]; omega)
      have c1 := hc j (by rw [marks_len]; omega)
      rw [marks_at k n j hlt, ← hb.cell (p := ⟨g, j, none⟩) hg] at c1
      have j0 : (0 : Int) ≤ (j : Int) := by omega
      have j1 : (j : Int) < (n : Int) := by omega
      clear hc
      go_wp2_with fail
      go_region_held3 (fun w' => w'.cell? ⟨g, j, none⟩ = some (.string (mt (k + j)))) (first | go_keep | (rw [hb1.cell (p := ⟨g, j, none⟩) (by simp; omega)]; assumption)) ((go_at_call 53; refine (markText_any (k + j) _ ?_ ?_).mono ?_; (omega); (omega); rintro e w1 ⟨rfl, hb1⟩))
      all_goals go_wp2_with fail
      exact ⟨⟨j + 1, by go_num, congrArg (Value.int .i64) (by omega), by omega, hb.trans ((Below.drew (Below.refl _ _)).trans (hb1.mono hB))⟩, by simp [intOf]; omega⟩
    · have e : j = n := by omega
      subst e
      go_wp2_with fail
      go_ret
      exact ⟨rfl, hb⟩

/-- A row of strings that may be written. -/
def WRow (w : World) (g : Nat) (xs : List ByteArray) : Prop :=
  g < w.heap.size ∧ ∀ j, j < xs.length → w.cell? ⟨g, j, none⟩ = some (.string (xs.getD j ⟨#[]⟩)) ∧ w.frozen? ⟨g, j, none⟩ = false
theorem WRow.srow {w : World} {g : Nat} {xs : List ByteArray} (h : WRow w g xs) : SRow w (some ⟨g, 0, none⟩) xs := fun _ => ⟨g, rfl, h.1, fun j hj => (h.2 j hj).1⟩
theorem WRow.below {w w' : World} {g B : Nat} {xs : List ByteArray} (h : WRow w g xs) (hb : Below B w w') (hg : g < B) : WRow w' g xs :=
  ⟨Nat.lt_of_lt_of_le h.1 hb.size, fun j hj => ⟨(hb.cell (p := ⟨g, j, none⟩) hg).trans (h.2 j hj).1, (hb.frozen (p := ⟨g, j, none⟩) hg).trans (h.2 j hj).2⟩⟩
theorem WRow.set {w : World} {g : Nat} {xs : List ByteArray} (h : WRow w g xs) (i : Nat) (x : ByteArray) (hi : i < xs.length) : WRow (w.setCell ⟨g, i, none⟩ (.string x)) g (xs.set i x) := by
  refine ⟨by have := h.1; simpa [World.setCell] using this, fun j hj => ?_⟩
  rw [List.length_set] at hj
  refine ⟨?_, (World.frozen?_setCell _ _ _ _).trans (h.2 j hj).2⟩
  by_cases e : j = i
  · subst e
    rw [World.cell?_setCell_same _ _ _ (h.2 j hj).1]
    simp [List.getD, hi]
  · rw [World.cell?_setCell_other _ _ _ _ (by first | (simp; done) | (simp; omega)), (h.2 j hj).1]
    simp [List.getD, Ne.symm e]
theorem grownBy_setCell (w : World) (g i : Nat) (v : Value) : w.grownBy (w.setCell ⟨g, i, none⟩ v) (some g) :=
  ⟨rfl, rfl, rfl, by simp [World.setCell], fun k _ hk => Below.heap_setCell _ _ _ _ (fun e => hk (by rw [e]))⟩
theorem grownBy_below {w w' : World} {g : Nat} (h : Below w.heap.size w w') : w.grownBy w' (some g) := ⟨h.os, h.tape, h.output, h.size, fun k hk _ => h.block k hk⟩
theorem grownBy_two {a b c : World} {g : Nat} (h : a.grownBy b (some g)) (k : b.grownBy c (some g)) : a.grownBy c (some g) :=
  ⟨k.os.trans h.os, k.tape.trans h.tape, k.output.trans h.output, Nat.le_trans h.size k.size, fun i hi hn => (k.block i (Nat.lt_of_lt_of_le hi h.size) hn).trans (h.block i hi hn)⟩

theorem set_marks {k j : Nat} {ys : List ByteArray} (h : ∀ t, t < j → ys.getD t ⟨#[]⟩ = mt (k + t)) (hj : j < ys.length) : ∀ t, t < j + 1 → (ys.set j (mt (k + j))).getD t ⟨#[]⟩ = mt (k + t) := by
  intro t ht
  by_cases e : t = j
  · subst e; simp [List.getD, hj]
  · have := h t (by omega)
    simpa [List.getD, List.getElem?_set, Ne.symm e] using this
theorem wrow_marks {w : World} {g k n : Nat} {ys : List ByteArray} (h : WRow w g ys) (hl : ys.length = n) (hy : ∀ t, t < n → ys.getD t ⟨#[]⟩ = mt (k + t)) : WRow w g (marks k n) := by
  refine ⟨h.1, fun j hj => ?_⟩
  rw [marks_len] at hj
  have := h.2 j (by omega)
  rw [marks_at k n j hj, ← hy j hj]
  exact this
theorem markStringS_none (a : Option Addr) (k ca : Nat) (w : World) :
    Calls Try.prog 31 #[.slice a 0 ca, .int .i64 k] w fun e w' => e = .returned (.int .i64 k) ∧ w' = w := by
  go_enter Try.func31, Try.ntmps31
  go_wp2_with fail
  go_rounds 1
  go_ret
  exact ⟨rfl, rfl⟩

set_option maxHeartbeats 400000 in
theorem markStringS_any (g : Nat) (xs : List ByteArray) (k ca : Nat) (w : World) (ha : WRow w g xs) (hk : 0 < k) (hn : k + xs.length ≤ 100000000) (hca : xs.length ≤ ca) :
    Calls Try.prog 31 #[.slice (some ⟨g, 0, none⟩) xs.length ca, .int .i64 k] w fun e w' => e = .returned (.int .i64 (k + xs.length : Nat)) ∧ WRow w' g (marks k xs.length) ∧ w.grownBy w' (some g) := by
  obtain ⟨n, hnx⟩ : ∃ n, n = xs.length := ⟨_, rfl⟩
  have HN : Hid (n = xs.length) := hnx
  rw [← hnx]
  rw [← hnx] at hn hca
  clear hnx
  go_enter Try.func31, Try.ntmps31
  go_wp2_with fail
  go_loopw [1, 5] (fun c i wr => ∃ (j : Nat) (ys : List ByteArray), i = .int .i64 j ∧ c = .int .i64 (k + j : Nat) ∧ j ≤ n ∧ ys.length = n ∧ (∀ t, t < j → ys.getD t ⟨#[]⟩ = mt (k + t)) ∧ WRow wr g ys ∧ w.grownBy wr (some g)) (fun _ i _ => n - (intOf i).toNat)
  case atStart => exact ⟨0, xs, rfl, rfl, Nat.zero_le _, HN.out.symm, fun t ht => by omega, ha, grownBy_below (Below.refl _ _)⟩
  case round =>
    obtain ⟨j, ys, rfl, rfl, hj, hyl, hys, hw, hgr⟩ := hrel
    have HL : Hid (ys.length = n) := hyl
    have HY : Hid _ := hys
    clear hyl hys
    by_cases hlt : j < n
    · have j0 : (0 : Int) ≤ (j : Int) := by omega
      have j1 : (j : Int) < (n : Int) := by omega
      go_wp2_with fail
      refine (markText_any (k + j) _ (by omega) (by omega)).mono ?_
      rintro e w1 ⟨rfl, hb1⟩
      have hw1 := hw.below hb1 hw.1
      have c1 := (hw1.2 j (by have := HL.out; omega)).1
      have c2 := (hw1.2 j (by have := HL.out; omega)).2
      have hset := hw1.set j (mt (k + j)) (by have := HL.out; omega)
      have hgs := grownBy_two hgr (grownBy_two (grownBy_below hb1) (grownBy_setCell w1 g j (.string (mt (k + j)))))
      clear hw hgr hb1
      go_wp2_with fail
      go_roundw
      case rel => exact ⟨j + 1, _, by go_num, congrArg (Value.int .i64) (by omega), by omega, by rw [List.length_set]; exact HL.out, set_marks HY.out (by have := HL.out; omega), hset, hgs⟩
      case measure => simp [intOf]; omega
    · have e : j = n := by omega
      subst e
      have hfin := wrow_marks hw HL.out HY.out
      go_wp2_with fail
      go_ret
      exact ⟨rfl, hfin, hgr⟩
end Go.Proofs.Ytcnjjbgilpgceaa
/- MemA: What lies in memory through a law: boxes, and rows of their own. -/
namespace Go.Proofs.Ytcnjjbgilpgceaa
set_option maxRecDepth 100000
open Go.RowKit

theorem wc_grown {w w' : World} {g : Nat} {row : Option Nat} {L : List Value} (h : WCells w g L) (hg : w.grownBy w' row) (hr : row ≠ some g) : WCells w' g L := by
  have hblk := hg.block g h.1 (fun e => hr e.symm)
  refine ⟨Nat.lt_of_lt_of_le h.1 hg.size, fun i v hv => ⟨?_, ?_⟩⟩
  · rw [World.cell?_of_block (w := w) hblk]; exact (h.2 i v hv).1
  · rw [World.frozen?_of_block (w := w) hblk]; exact (h.2 i v hv).2
/-- A row of its own between two places, or none. -/
def FRw (w : World) (va : Option Addr) (X : List Value) (lo hi : Nat) : Prop := (va = none ∧ X = []) ∨ ∃ g, va = some ⟨g, 0, none⟩ ∧ lo ≤ g ∧ g < hi ∧ WCells w g X
theorem FRw.crow {w : World} {va : Option Addr} {X : List Value} {lo hi : Nat} (h : FRw w va X lo hi) : CRow w va X := by
  rcases h with ⟨_, rfl⟩ | ⟨g, rfl, _, _, h⟩
  · intro hp; simp at hp
  · exact h.crow
theorem FRw.below {w w' : World} {va : Option Addr} {X : List Value} {lo hi : Nat} (h : FRw w va X lo hi) (hb : Below w.heap.size w w') : FRw w' va X lo hi := by
  rcases h with h | ⟨g, h1, h2, h3, h⟩
  · exact .inl h
  · exact .inr ⟨g, h1, h2, h3, h.grow hb⟩
theorem FRw.grown {w w' : World} {va : Option Addr} {X : List Value} {lo hi : Nat} {row : Option Nat} (h : FRw w va X lo hi) (hg : w.grownBy w' row) (hr : ∀ g, row = some g → g < lo ∨ hi ≤ g) : FRw w' va X lo hi := by
  rcases h with h | ⟨g, h1, h2, h3, h⟩
  · exact .inl h
  · exact .inr ⟨g, h1, h2, h3, wc_grown h hg (fun e => by rcases hr g e with h | h <;> omega)⟩
theorem FRw.of_wcells {w : World} {g lo hi : Nat} {X : List Value} (h : WCells w g X) (h1 : lo ≤ g) (h2 : g < hi) : FRw w (some ⟨g, 0, none⟩) X lo hi := .inr ⟨g, rfl, h1, h2, h⟩
theorem FRw.wcells {w : World} {g lo hi : Nat} {X : List Value} (h : FRw w (some ⟨g, 0, none⟩) X lo hi) : WCells w g X := by
  rcases h with ⟨h, _⟩ | ⟨g', e, _, _, h⟩
  · cases h
  · have : g = g' := by simpa using e
    subst this; exact h
theorem FRw.of_own {w : World} {B n c t sz : Nat} {va : Option Addr} {X : List Value} (h : w.ownsRow B t sz (.slice va n c) n X) : FRw w va X B w.heap.size ∧ n ≤ c := by
  have h' := h
  rcases h.2 with ⟨h0, hX⟩ | ⟨g, cap, cur, he, hB, hcur, hn, _, _, _⟩
  · simp only [Value.slice.injEq] at h0
    obtain ⟨rfl, h1, rfl⟩ := h0
    refine ⟨.inl ⟨rfl, ?_⟩, by omega⟩
    have hl := h'.1
    rw [hX, Nat.zero_mul] at hl
    exact List.eq_nil_of_length_eq_zero hl
  · simp only [Value.slice.injEq] at he
    obtain ⟨rfl, _, rfl⟩ := he
    exact ⟨.inr ⟨g, rfl, hB, (Array.getElem?_eq_some_iff.1 hcur).1, own_wcells h'⟩, hn⟩
/-- Boxes and rows that lie in a world; what was there at the start is as it was. -/
structure Mem (w0 w : World) (L : List (Nat × List Value)) (R : List (Option Addr × List Value × Nat × Nat)) : Prop where
  cells : ∀ p ∈ L, WCells w p.1 p.2
  rows : ∀ r ∈ R, FRw w r.1 r.2.1 r.2.2.1 r.2.2.2
  low : Below w0.heap.size w0 w
theorem Mem.below {w0 w w' : World} {L : List (Nat × List Value)} {R : List (Option Addr × List Value × Nat × Nat)} (M : Mem w0 w L R) (hb : Below w.heap.size w w') : Mem w0 w' L R :=
  ⟨fun p hp => (M.cells p hp).grow hb, fun r hr => (M.rows r hr).below hb, M.low.trans (hb.mono M.low.size)⟩
theorem Mem.alloc {w0 w : World} {L : List (Nat × List Value)} {R : List (Option Addr × List Value × Nat × Nat)} (M : Mem w0 w L R) (o : Obj) : Mem w0 (w.alloc o) L R := M.below ((Below.refl _ _).alloc (Nat.le_refl _) o)
theorem Mem.drew {w0 w : World} {L : List (Nat × List Value)} {R : List (Option Addr × List Value × Nat × Nat)} (M : Mem w0 w L R) : Mem w0 w.drew L R := ⟨fun p hp => M.cells p hp, fun r hr => M.rows r hr, M.low.drew⟩
theorem Mem.box {w0 w : World} {L : List (Nat × List Value)} {R : List (Option Addr × List Value × Nat × Nat)} (M : Mem w0 w L R) (cs : Array Value) (t : TypeId) : Mem w0 (w.alloc (.cells cs t)) ((w.heap.size, cs.toList) :: L) R := by
  refine ⟨fun p hp => ?_, (M.alloc _).rows, (M.alloc _).low⟩
  rcases List.mem_cons.1 hp with rfl | h
  · exact wcells_new w cs t
  · exact (M.alloc _).cells p h
theorem Mem.row {w0 w : World} {L : List (Nat × List Value)} {R : List (Option Addr × List Value × Nat × Nat)} (M : Mem w0 w L R) {va : Option Addr} {X : List Value} {lo hi : Nat} (h : FRw w va X lo hi) : Mem w0 w L ((va, X, lo, hi) :: R) := by
  refine ⟨M.cells, fun r hr => ?_, M.low⟩
  rcases List.mem_cons.1 hr with rfl | h'
  · exact h
  · exact M.rows r h'
theorem Mem.less {w0 w : World} {L L' : List (Nat × List Value)} {R R' : List (Option Addr × List Value × Nat × Nat)} (M : Mem w0 w L R) (hL : ∀ p ∈ L', p ∈ L) (hR : ∀ r ∈ R', r ∈ R) : Mem w0 w L' R' := ⟨fun p hp => M.cells p (hL p hp), fun r hr => M.rows r (hR r hr), M.low⟩
theorem Mem.grown {w0 w w' : World} {L : List (Nat × List Value)} {R : List (Option Addr × List Value × Nat × Nat)} {row : Option Nat} (M : Mem w0 w L R) (hg : w.grownBy w' row) (hL : ∀ p ∈ L, ∀ g, row = some g → g ≠ p.1) (hR : ∀ r ∈ R, ∀ g, row = some g → g < r.2.2.1 ∨ r.2.2.2 ≤ g) (h0 : ∀ g, row = some g → w0.heap.size ≤ g) : Mem w0 w' L R :=
  ⟨fun p hp => wc_grown (M.cells p hp) hg (fun e => hL p hp _ e rfl), fun r hr => (M.rows r hr).grown hg (hR r hr), M.low.grown hg M.low.size h0⟩
theorem Mem.cell {w0 w : World} {L : List (Nat × List Value)} {R : List (Option Addr × List Value × Nat × Nat)} (M : Mem w0 w L R) {g : Nat} {v : Value} (h : (g, [v]) ∈ L) : w.cell? ⟨g, 0, none⟩ = some v := ((M.cells _ h).2 0 _ rfl).1
theorem Mem.lt {w0 w : World} {L : List (Nat × List Value)} {R : List (Option Addr × List Value × Nat × Nat)} (M : Mem w0 w L R) {g : Nat} {X : List Value} (h : (g, X) ∈ L) : g < w.heap.size := (M.cells _ h).1
theorem Mem.at {w0 w : World} {L : List (Nat × List Value)} {R : List (Option Addr × List Value × Nat × Nat)} (M : Mem w0 w L R) {va : Option Addr} {X : List Value} {lo hi : Nat} (h : (va, X, lo, hi) ∈ R) : FRw w va X lo hi := M.rows _ h

theorem Mem.at0 {w0 w : World} {L : List (Nat × List Value)} {R : List (Option Addr × List Value × Nat × Nat)} {va : Option Addr} {X : List Value} {lo hi : Nat} (M : Mem w0 w L ((va, X, lo, hi) :: R)) : FRw w va X lo hi := M.rows _ (List.mem_cons_self ..)
theorem Mem.cell0 {w0 w : World} {L : List (Nat × List Value)} {R : List (Option Addr × List Value × Nat × Nat)} {g : Nat} {v : Value} (M : Mem w0 w ((g, [v]) :: L) R) : w.cell? ⟨g, 0, none⟩ = some v := M.cell (List.mem_cons_self ..)
theorem Mem.lt0 {w0 w : World} {L : List (Nat × List Value)} {R : List (Option Addr × List Value × Nat × Nat)} {g : Nat} {X : List Value} (M : Mem w0 w ((g, X) :: L) R) : g < w.heap.size := M.lt (List.mem_cons_self ..)
theorem Mem.at1 {w0 w : World} {L : List (Nat × List Value)} {R : List (Option Addr × List Value × Nat × Nat)} {r0 : Option Addr × List Value × Nat × Nat} {va : Option Addr} {X : List Value} {lo hi : Nat} (M : Mem w0 w L (r0 :: (va, X, lo, hi) :: R)) : FRw w va X lo hi := M.rows _ (List.mem_cons_of_mem _ (List.mem_cons_self ..))
theorem Mem.cell1 {w0 w : World} {L : List (Nat × List Value)} {R : List (Option Addr × List Value × Nat × Nat)} {p0 : Nat × List Value} {g : Nat} {v : Value} (M : Mem w0 w (p0 :: (g, [v]) :: L) R) : w.cell? ⟨g, 0, none⟩ = some v := M.cell (List.mem_cons_of_mem _ (List.mem_cons_self ..))
theorem Mem.lt1 {w0 w : World} {L : List (Nat × List Value)} {R : List (Option Addr × List Value × Nat × Nat)} {p0 : Nat × List Value} {g : Nat} {X : List Value} (M : Mem w0 w (p0 :: (g, X) :: L) R) : g < w.heap.size := M.lt (List.mem_cons_of_mem _ (List.mem_cons_self ..))
theorem Mem.at2 {w0 w : World} {L : List (Nat × List Value)} {R : List (Option Addr × List Value × Nat × Nat)} {r0 : Option Addr × List Value × Nat × Nat} {r1 : Option Addr × List Value × Nat × Nat} {va : Option Addr} {X : List Value} {lo hi : Nat} (M : Mem w0 w L (r0 :: r1 :: (va, X, lo, hi) :: R)) : FRw w va X lo hi := M.rows _ (List.mem_cons_of_mem _ (List.mem_cons_of_mem _ (List.mem_cons_self ..)))
theorem Mem.cell2 {w0 w : World} {L : List (Nat × List Value)} {R : List (Option Addr × List Value × Nat × Nat)} {p0 : Nat × List Value} {p1 : Nat × List Value} {g : Nat} {v : Value} (M : Mem w0 w (p0 :: p1 :: (g, [v]) :: L) R) : w.cell? ⟨g, 0, none⟩ = some v := M.cell (List.mem_cons_of_mem _ (List.mem_cons_of_mem _ (List.mem_cons_self ..)))
theorem Mem.lt2 {w0 w : World} {L : List (Nat × List Value)} {R : List (Option Addr × List Value × Nat × Nat)} {p0 : Nat × List Value} {p1 : Nat × List Value} {g : Nat} {X : List Value} (M : Mem w0 w (p0 :: p1 :: (g, X) :: L) R) : g < w.heap.size := M.lt (List.mem_cons_of_mem _ (List.mem_cons_of_mem _ (List.mem_cons_self ..)))
theorem Mem.at3 {w0 w : World} {L : List (Nat × List Value)} {R : List (Option Addr × List Value × Nat × Nat)} {r0 : Option Addr × List Value × Nat × Nat} {r1 : Option Addr × List Value × Nat × Nat} {r2 : Option Addr × List Value × Nat × Nat} {va : Option Addr} {X : List Value} {lo hi : Nat} (M : Mem w0 w L (r0 :: r1 :: r2 :: (va, X, lo, hi) :: R)) : FRw w va X lo hi := M.rows _ (List.mem_cons_of_mem _ (List.mem_cons_of_mem _ (List.mem_cons_of_mem _ (List.mem_cons_self ..))))
theorem Mem.cell3 {w0 w : World} {L : List (Nat × List Value)} {R : List (Option Addr × List Value × Nat × Nat)} {p0 : Nat × List Value} {p1 : Nat × List Value} {p2 : Nat × List Value} {g : Nat} {v : Value} (M : Mem w0 w (p0 :: p1 :: p2 :: (g, [v]) :: L) R) : w.cell? ⟨g, 0, none⟩ = some v := M.cell (List.mem_cons_of_mem _ (List.mem_cons_of_mem _ (List.mem_cons_of_mem _ (List.mem_cons_self ..))))
theorem Mem.lt3 {w0 w : World} {L : List (Nat × List Value)} {R : List (Option Addr × List Value × Nat × Nat)} {p0 : Nat × List Value} {p1 : Nat × List Value} {p2 : Nat × List Value} {g : Nat} {X : List Value} (M : Mem w0 w (p0 :: p1 :: p2 :: (g, X) :: L) R) : g < w.heap.size := M.lt (List.mem_cons_of_mem _ (List.mem_cons_of_mem _ (List.mem_cons_of_mem _ (List.mem_cons_self ..))))
theorem Mem.at4 {w0 w : World} {L : List (Nat × List Value)} {R : List (Option Addr × List Value × Nat × Nat)} {r0 : Option Addr × List Value × Nat × Nat} {r1 : Option Addr × List Value × Nat × Nat} {r2 : Option Addr × List Value × Nat × Nat} {r3 : Option Addr × List Value × Nat × Nat} {va : Option Addr} {X : List Value} {lo hi : Nat} (M : Mem w0 w L (r0 :: r1 :: r2 :: r3 :: (va, X, lo, hi) :: R)) : FRw w va X lo hi := M.rows _ (List.mem_cons_of_mem _ (List.mem_cons_of_mem _ (List.mem_cons_of_mem _ (List.mem_cons_of_mem _ (List.mem_cons_self ..)))))
theorem Mem.cell4 {w0 w : World} {L : List (Nat × List Value)} {R : List (Option Addr × List Value × Nat × Nat)} {p0 : Nat × List Value} {p1 : Nat × List Value} {p2 : Nat × List Value} {p3 : Nat × List Value} {g : Nat} {v : Value} (M : Mem w0 w (p0 :: p1 :: p2 :: p3 :: (g, [v]) :: L) R) : w.cell? ⟨g, 0, none⟩ = some v := M.cell (List.mem_cons_of_mem _ (List.mem_cons_of_mem _ (List.mem_cons_of_mem _ (List.mem_cons_of_mem _ (List.mem_cons_self ..)))))
theorem Mem.lt4 {w0 w : World} {L : List (Nat × List Value)} {R : List (Option Addr × List Value × Nat × Nat)} {p0 : Nat × List Value} {p1 : Nat × List Value} {p2 : Nat × List Value} {p3 : Nat × List Value} {g : Nat} {X : List Value} (M : Mem w0 w (p0 :: p1 :: p2 :: p3 :: (g, X) :: L) R) : g < w.heap.size := M.lt (List.mem_cons_of_mem _ (List.mem_cons_of_mem _ (List.mem_cons_of_mem _ (List.mem_cons_of_mem _ (List.mem_cons_self ..)))))
theorem Mem.at5 {w0 w : World} {L : List (Nat × List Value)} {R : List (Option Addr × List Value × Nat × Nat)} {r0 : Option Addr × List Value × Nat × Nat} {r1 : Option Addr × List Value × Nat × Nat} {r2 : Option Addr × List Value × Nat × Nat} {r3 : Option Addr × List Value × Nat × Nat} {r4 : Option Addr × List Value × Nat × Nat} {va : Option Addr} {X : List Value} {lo hi : Nat} (M : Mem w0 w L (r0 :: r1 :: r2 :: r3 :: r4 :: (va, X, lo, hi) :: R)) : FRw w va X lo hi := M.rows _ (List.mem_cons_of_mem _ (List.mem_cons_of_mem _ (List.mem_cons_of_mem _ (List.mem_cons_of_mem _ (List.mem_cons_of_mem _ (List.mem_cons_self ..))))))
theorem Mem.cell5 {w0 w : World} {L : List (Nat × List Value)} {R : List (Option Addr × List Value × Nat × Nat)} {p0 : Nat × List Value} {p1 : Nat × List Value} {p2 : Nat × List Value} {p3 : Nat × List Value} {p4 : Nat × List Value} {g : Nat} {v : Value} (M : Mem w0 w (p0 :: p1 :: p2 :: p3 :: p4 :: (g, [v]) :: L) R) : w.cell? ⟨g, 0, none⟩ = some v := M.cell (List.mem_cons_of_mem _ (List.mem_cons_of_mem _ (List.mem_cons_of_mem _ (List.mem_cons_of_mem _ (List.mem_cons_of_mem _ (List.mem_cons_self ..))))))
theorem Mem.lt5 {w0 w : World} {L : List (Nat × List Value)} {R : List (Option Addr × List Value × Nat × Nat)} {p0 : Nat × List Value} {p1 : Nat × List Value} {p2 : Nat × List Value} {p3 : Nat × List Value} {p4 : Nat × List Value} {g : Nat} {X : List Value} (M : Mem w0 w (p0 :: p1 :: p2 :: p3 :: p4 :: (g, X) :: L) R) : g < w.heap.size := M.lt (List.mem_cons_of_mem _ (List.mem_cons_of_mem _ (List.mem_cons_of_mem _ (List.mem_cons_of_mem _ (List.mem_cons_of_mem _ (List.mem_cons_self ..))))))
end Go.Proofs.Ytcnjjbgilpgceaa
/- LsAm: Rows of Leases: marks that are laid into one, and found again (written by gen/mkflat.py). -/
namespace Go.Proofs.Ytcnjjbgilpgceaa
set_option maxRecDepth 100000
open Go.RowKit
attribute [local go_sem ↓] Go.wp_at_zero Go.wp_at_succ

def markL (k : Nat) : LsM := ⟨mt (k), ((k + 1 : Nat) : Int), ((k + 2 : Nat) : Int)⟩
def marksL (k n : Nat) : List LsM := (List.range n).map fun j => markL (k + 3 * j)
theorem marksL_len (k n : Nat) : (marksL k n).length = n := by simp [marksL]
theorem marksL_at (k n j : Nat) (h : j < (marksL k n).length) : (marksL k n)[j] = markL (k + 3 * j) := by simp [marksL]
theorem marksL_all {k n : Nat} {ys : List LsM} (hl : ys.length = n) (h : ∀ t, t < n → ys[t]? = some (markL (k + 3 * t))) : ys = marksL k n := by
  apply List.ext_getElem
  · rw [hl, marksL_len]
  · intro i h1 h2
    rw [marksL_at]
    have := h i (by omega)
    rw [List.getElem?_eq_getElem h1] at this
    exact Option.some.inj this
theorem markLeaseS_zero (a : Option Addr) (k ca : Nat) (w : World) :
    Calls Try.prog 26 #[.slice a 0 ca, .int .i64 k] w fun e w' => e = .returned (.int .i64 k) ∧ w' = w := by
  go_enter Try.func26, Try.ntmps26
  go_wp2_with fail
  go_rounds 1
  go_ret
  exact ⟨rfl, rfl⟩
set_option maxHeartbeats 1000000 in
theorem markLeaseS_all (g : Nat) (xs : List LsM) (k ca : Nat) (w : World) (ha : WCells w g (lsS xs)) (hk : 0 < k) (hn : k + 3 * xs.length ≤ 1000000000) (hca : xs.length ≤ ca) :
    Calls Try.prog 26 #[.slice (some ⟨g, 0, none⟩) xs.length ca, .int .i64 k] w fun e w' => e = .returned (.int .i64 (k + 3 * xs.length : Nat)) ∧ WCells w' g (lsS (marksL k xs.length)) ∧ w.grownBy w' (some g) := by
  obtain ⟨n, hnx⟩ : ∃ n, n = xs.length := ⟨_, rfl⟩
  have HN := Shut.mk hnx
  rw [← hnx]
  rw [← hnx] at hn hca
  clear hnx
  have HA := Shut.mk ha
  clear ha
  go_enter Try.func26, Try.ntmps26
  go_wp2_with fail
  go_loopw [1, 5] (fun c i wr => ∃ (j : Nat) (ys : List LsM), i = .int .i64 j ∧ c = .int .i64 (k + 3 * j : Nat) ∧ j ≤ n ∧ Shut (ys.length = n ∧ (∀ t, t < j → ys[t]? = some (markL (k + 3 * t))) ∧ WCells wr g (lsS ys) ∧ w.grownBy wr (some g))) (fun _ i _ => n - (intOf i).toNat)
  case atStart => exact ⟨0, xs, rfl, rfl, Nat.zero_le _, ⟨HN.out.symm, fun t ht => by omega, HA.out, grownBy_below (Below.refl _ _)⟩⟩
  case round =>
    obtain ⟨j, ys, rfl, rfl, hj, HH⟩ := hrel
    by_cases hlt : j < n
    · have j0 : (0 : Int) ≤ (j : Int) := by omega
      have j1 : (j : Int) < (n : Int) := by omega
      have hly : (lsS ys).length = n * 3 := by rw [lsS_len, HH.out.1]
      have hw0 := HH.out.2.2.1
      have Q0 : Shut (∀ W : World, Calls Try.prog 53 #[.int .i64 ((k : Int) + 3 * (j : Int))] W fun e w' => e = .returned (.string (mt (k + 3 * j))) ∧ Below W.heap.size W w') := ⟨fun W => by
        have q := markText_any (k + 3 * j) W (by omega) (by omega)
        rwa [show ((k + 3 * j : Nat) : Int) = (k : Int) + 3 * (j : Int) by push_cast; omega] at q⟩
      go_wp2_with fail
      refine (Q0.out _).mono ?_
      rintro e w0 ⟨rfl, hb0⟩
      have hv0 := hw0.grow hb0
      obtain ⟨c0, z0⟩ := hv0.2 (j * 3) _ (List.getElem?_eq_getElem (by first | omega | (simp only [List.length_set]; omega)))
      have HS0 : Shut (WCells (w0.setCell ⟨g, j * 3, none⟩ (.string (mt (k + 3 * j)))) g ((lsS ys).set (j * 3) (.string (mt (k + 3 * j))))) := ⟨hv0.set (j * 3) _ (by first | omega | (simp only [List.length_set]; omega))⟩
      have HG0 : Shut (w.grownBy (w0.setCell ⟨g, j * 3, none⟩ (.string (mt (k + 3 * j)))) (some g)) := ⟨(grownBy_two (grownBy_two HH.out.2.2.2 (grownBy_below hb0)) (grownBy_setCell _ g _ _))⟩
      obtain ⟨c1, z1⟩ := HS0.out.2 (j * 3 + 1) _ (List.getElem?_eq_getElem (by first | omega | (simp only [List.length_set]; omega)))
      have HS1 : Shut (WCells ((w0.setCell ⟨g, j * 3, none⟩ (.string (mt (k + 3 * j)))).setCell ⟨g, j * 3 + 1, none⟩ (.int .i64 ((k : Int) + 3 * (j : Int) + 1))) g (((lsS ys).set (j * 3) (.string (mt (k + 3 * j)))).set (j * 3 + 1) (.int .i64 ((k : Int) + 3 * (j : Int) + 1)))) := ⟨HS0.out.set (j * 3 + 1) _ (by first | omega | (simp only [List.length_set]; omega))⟩
      have HG1 : Shut (w.grownBy ((w0.setCell ⟨g, j * 3, none⟩ (.string (mt (k + 3 * j)))).setCell ⟨g, j * 3 + 1, none⟩ (.int .i64 ((k : Int) + 3 * (j : Int) + 1))) (some g)) := ⟨(grownBy_two HG0.out (grownBy_setCell _ g _ _))⟩
      obtain ⟨c2, z2⟩ := HS1.out.2 (j * 3 + 2) _ (List.getElem?_eq_getElem (by first | omega | (simp only [List.length_set]; omega)))
      have HS2 : Shut (WCells (((w0.setCell ⟨g, j * 3, none⟩ (.string (mt (k + 3 * j)))).setCell ⟨g, j * 3 + 1, none⟩ (.int .i64 ((k : Int) + 3 * (j : Int) + 1))).setCell ⟨g, j * 3 + 2, none⟩ (.int .i64 ((k : Int) + 3 * (j : Int) + 1 + 1))) g ((((lsS ys).set (j * 3) (.string (mt (k + 3 * j)))).set (j * 3 + 1) (.int .i64 ((k : Int) + 3 * (j : Int) + 1))).set (j * 3 + 2) (.int .i64 ((k : Int) + 3 * (j : Int) + 1 + 1)))) := ⟨HS1.out.set (j * 3 + 2) _ (by first | omega | (simp only [List.length_set]; omega))⟩
      have HG2 : Shut (w.grownBy (((w0.setCell ⟨g, j * 3, none⟩ (.string (mt (k + 3 * j)))).setCell ⟨g, j * 3 + 1, none⟩ (.int .i64 ((k : Int) + 3 * (j : Int) + 1))).setCell ⟨g, j * 3 + 2, none⟩ (.int .i64 ((k : Int) + 3 * (j : Int) + 1 + 1))) (some g)) := ⟨(grownBy_two HG1.out (grownBy_setCell _ g _ _))⟩
      have hE : (⟨mt (k + 3 * j), (k : Int) + 3 * (j : Int) + 1, (k : Int) + 3 * (j : Int) + 1 + 1⟩ : LsM) = markL (k + 3 * j) := by
        unfold markL
        congr 1 <;> (push_cast; omega)
      have HF : Shut (WCells (((w0.setCell ⟨g, j * 3, none⟩ (.string (mt (k + 3 * j)))).setCell ⟨g, j * 3 + 1, none⟩ (.int .i64 ((k : Int) + 3 * (j : Int) + 1))).setCell ⟨g, j * 3 + 2, none⟩ (.int .i64 ((k : Int) + 3 * (j : Int) + 1 + 1))) g (lsS (ys.set j ⟨mt (k + 3 * j), (k : Int) + 3 * (j : Int) + 1, (k : Int) + 3 * (j : Int) + 1 + 1⟩))) := ⟨by
        have hfin : ((((lsS ys).set (j * 3) (.string (mt (k + 3 * j)))).set (j * 3 + 1) (.int .i64 ((k : Int) + 3 * (j : Int) + 1))).set (j * 3 + 2) (.int .i64 ((k : Int) + 3 * (j : Int) + 1 + 1))) = lsS (ys.set j ⟨mt (k + 3 * j), (k : Int) + 3 * (j : Int) + 1, (k : Int) + 3 * (j : Int) + 1 + 1⟩) := flat_setL lsC_len ys j (by have := HH.out.1; omega) (⟨mt (k + 3 * j), (k : Int) + 3 * (j : Int) + 1, (k : Int) + 3 * (j : Int) + 1 + 1⟩ : LsM)
        have q := HS2.out
        rw [hfin] at q
        exact q⟩
      rw [hE] at HF
      clear HS0 HS1 HS2 HG0 HG1 hw0 hb0 hv0 hE
      go_wp2_with fail
      go_roundw
      case rel =>
        refine ⟨j + 1, ys.set j (markL (k + 3 * j)), by go_num, congrArg (Value.int .i64) (by omega), by omega, ⟨by rw [List.length_set]; exact HH.out.1, fun t ht => ?_, ?_, ?_⟩⟩
        rotate_left
        · exact HF.out
        · exact HG2.out
        by_cases hjt : t = j
        · subst hjt
          rw [List.getElem?_set_self (by have := HH.out.1; omega)]
        · rw [List.getElem?_set_ne (Ne.symm hjt)]
          exact HH.out.2.1 t (by omega)
      case measure => simp [intOf]; omega
    · have e : j = n := by omega
      subst e
      have hfin := marksL_all HH.out.1 HH.out.2.1
      subst hfin
      go_wp2_with fail
      go_ret
      exact ⟨rfl, HH.out.2.2.1, HH.out.2.2.2⟩
/-- Marks in a row between two places, or in none. -/
theorem markLeaseS_row (va : Option Addr) (xs : List LsM) (k ca lo hi : Nat) (w : World) (h : FRw w va (lsS xs) lo hi) (hk : 0 < k) (hn : k + 3 * xs.length ≤ 1000000000) (hca : xs.length ≤ ca) :
    Calls Try.prog 26 #[.slice va xs.length ca, .int .i64 k] w fun e w' => e = .returned (.int .i64 (k + 3 * xs.length : Nat)) ∧ FRw w' va (lsS (marksL k xs.length)) lo hi ∧ ∃ row, w.grownBy w' row ∧ ∀ g, row = some g → lo ≤ g ∧ g < hi := by
  rcases h with ⟨rfl, hX⟩ | ⟨g, rfl, h1, h2, h3⟩
  · have e : xs = [] := by
      have := congrArg List.length hX
      rw [lsS_len] at this
      exact List.eq_nil_of_length_eq_zero (by simp at this; omega)
    subst e
    refine (markLeaseS_zero none k ca w).mono ?_
    rintro e w' ⟨rfl, rfl⟩
    exact ⟨by simp, .inl ⟨rfl, by simp [marksL, lsS]⟩, none, ⟨rfl, rfl, rfl, Nat.le_refl _, fun _ _ _ => rfl⟩, by simp⟩
  · refine (markLeaseS_all g xs k ca w h3 hk hn hca).mono ?_
    rintro e w' ⟨rfl, h4, h5⟩
    exact ⟨rfl, .inr ⟨g, rfl, h1, h2, h4⟩, some g, h5, fun g' e => by simp at e; omega⟩
set_option maxHeartbeats 1000000 in
theorem heldLeaseS_any (a : Option Addr) (k n ca : Nat) (w : World) (ha : LsRow w a (marksL k n)) (hk : 0 < k) (hn : k + 3 * n ≤ 1000000000) :
    Calls Try.prog 27 #[.slice a n ca, .int .i64 k] w fun e w' => e = .returned (.int .i64 (k + 3 * n : Nat)) ∧ Below w.heap.size w w' := by
  have HA := Shut.mk ha
  clear ha
  go_enter Try.func27, Try.ntmps27
  go_wp2_with fail
  go_loopw [1, 5] (fun c i wr => ∃ (j : Nat), i = .int .i64 j ∧ c = .int .i64 (k + 3 * j : Nat) ∧ j ≤ n ∧ Below w.heap.size w wr) (fun _ i _ => n - (intOf i).toNat)
  case atStart => exact ⟨0, rfl, rfl, Nat.zero_le _, Below.refl _ _⟩
  case round =>
    obtain ⟨j, rfl, rfl, hj, hb⟩ := hrel
    have HB := Shut.mk hb
    by_cases hlt : j < n
    · obtain ⟨b, off, rfl, lb, hc⟩ := LsRow.at (HA.out.stays hb) (by rw [marksL_len]; omega)
      obtain ⟨d0, d1, d2⟩ := hc j (by rw [marksL_len]; omega)
      rw [marksL_at] at d0 d1 d2
      rw [show (markL (k + 3 * j)).path = mt (k + 3 * j) from rfl] at d0
      rw [show (markL (k + 3 * j)).who = (k : Int) + 3 * (j : Int) + 1 by show ((k + 3 * j + 1 : Nat) : Int) = _; push_cast; omega] at d1
      rw [show (markL (k + 3 * j)).seen = (k : Int) + 3 * (j : Int) + 1 + 1 by show ((k + 3 * j + 2 : Nat) : Int) = _; push_cast; omega] at d2
      have j0 : (0 : Int) ≤ (j : Int) := by omega
      have j1 : (j : Int) < (n : Int) := by omega
      have Q0 : Shut (∀ W : World, Calls Try.prog 53 #[.int .i64 ((k : Int) + 3 * (j : Int))] W fun e w' => e = .returned (.string (mt (k + 3 * j))) ∧ Below W.heap.size W w') := ⟨fun W => by
        have q := markText_any (k + 3 * j) W (by omega) (by omega)
        rwa [show ((k + 3 * j : Nat) : Int) = (k : Int) + 3 * (j : Int) by push_cast; omega] at q⟩
      have hs0 : ((mt (k + 3 * j)).toList == (mt (k + 3 * j)).toList) = true := by simp
      clear hc hb
      go_wp2_with fail
      go_region_held3 (fun w' => w'.cell? ⟨b, off + j * 3, none⟩ = some (.string (mt (k + 3 * j)))) (first | go_keep | (rw [hb0.cell (p := ⟨b, off + j * 3, none⟩) (by exact lb)]; assumption)) ((go_at_call 53; refine (Q0.out _).mono ?_; rintro e w0 ⟨rfl, hb0⟩))
      all_goals
        have lb0 : b < w0.heap.size := Nat.lt_of_lt_of_le lb hb0.size
        replace d1 := (hb0.cell (p := ⟨b, off + j * 3 + 1, none⟩) lb).trans d1
        replace d2 := (hb0.cell (p := ⟨b, off + j * 3 + 2, none⟩) lb).trans d2
        have HB0 : Shut (Below w.heap.size w w0) := ⟨HB.out.trans ((Below.drew (Below.refl _ _)).trans (hb0.mono HB.out.size))⟩
        clear hb0 d0
        go_wp2_with fail
        exact ⟨⟨j + 1, by go_num, congrArg (Value.int .i64) (by omega), by omega, HB0.out⟩, by simp [intOf]; omega⟩
    · have e : j = n := by omega
      subst e
      go_wp2_with fail
      go_ret
      exact ⟨rfl, hb⟩
end Go.Proofs.Ytcnjjbgilpgceaa
/- IntsA: Rows of numbers: their copies, their comparison, marks that are laid into one and found again. -/
namespace Go.Proofs.Ytcnjjbgilpgceaa
set_option maxRecDepth 100000
open Go.RowKit
attribute [local go_sem ↓] Go.wp_at_zero Go.wp_at_succ

def ics (xs : List Int) : List Value := xs.map fun x => .int .i64 x
theorem ics_len (xs : List Int) : (ics xs).length = xs.length := by simp [ics]
theorem ics_get (xs : List Int) (j : Nat) (h : j < xs.length) : (ics xs)[j]? = some (.int .i64 (xs.getD j 0)) := by simp [ics, List.getD, h]
theorem ics_set (xs : List Int) (j : Nat) (x : Int) : (ics xs).set j (.int .i64 x) = ics (xs.set j x) := by simp [ics, List.map_set]
theorem crow_int {w : World} {a : Option Addr} {xs : List Int} (h : CRow w a (ics xs)) (hp : 0 < xs.length) : ∃ b off, a = some ⟨b, off, none⟩ ∧ b < w.heap.size ∧ ∀ j, j < xs.length → w.cell? ⟨b, off + j, none⟩ = some (.int .i64 (xs.getD j 0)) := by
  obtain ⟨b, off, e, hb, hc⟩ := h (by rw [ics_len]; exact hp)
  exact ⟨b, off, e, hb, fun j hj => hc j _ (ics_get xs j hj)⟩
theorem infoIntG : (Try.prog.info? 3).map (fun i => (i.zero, i.size, i.bytes)) = some (some (.int .i64 0), 1, 8) := by kernel_rfl
def ToInts (xs : List Int) (w : World) (e : Ending) (w' : World) : Prop := ∃ g, e = .returned (.slice (some ⟨g, 0, none⟩) xs.length xs.length) ∧ w.heap.size ≤ g ∧ WCells w' g (ics xs) ∧ Below w.heap.size w w'
/-- Marks from k on. -/
def marksI (k n : Nat) : List Int := (List.range n).map fun j => ((k + j : Nat) : Int)
theorem marksI_len (k n : Nat) : (marksI k n).length = n := by simp [marksI]
theorem marksI_at (k n j : Nat) (h : j < n) : (marksI k n).getD j 0 = ((k + j : Nat) : Int) := by simp [marksI, List.getD, h]
def MarkInts (g k n : Nat) (w : World) (e : Ending) (w' : World) : Prop := e = .returned (.int .i64 (k + n : Nat)) ∧ (∃ ys : List Int, ys.length = n ∧ WCells w' g (ics ys)) ∧ w.grownBy w' (some g)
theorem gb_set' (w : World) (g i : Nat) (v : Value) : w.grownBy (w.setCell ⟨g, i, none⟩ v) (some g) :=
  ⟨rfl, rfl, rfl, by simp [World.setCell], fun k _ hk => Below.heap_setCell w ⟨g, i, none⟩ v k (fun e => hk (by rw [e]))⟩
theorem gb_two' {a b c : World} {g : Nat} (h : a.grownBy b (some g)) (k : b.grownBy c (some g)) : a.grownBy c (some g) :=
  ⟨k.os.trans h.os, k.tape.trans h.tape, k.output.trans h.output, Nat.le_trans h.size k.size, fun j hj hn => (k.block j (Nat.lt_of_lt_of_le hj h.size) hn).trans (h.block j hj hn)⟩
end Go.Proofs.Ytcnjjbgilpgceaa
/- NestA: Rows of rows of numbers in memory: one that is read, one that may be written, and what is turned of the world in between. Nothing of the program is read here. -/
namespace Go.Proofs.Ytcnjjbgilpgceaa
set_option maxRecDepth 100000
open Go.RowKit

/-- What lies from lo up to hi may be turned, what lies beyond the end is new; all else is as it was. -/
structure Turned (w w' : World) (lo hi : Nat) : Prop where
  base : Below 0 w w'
  block : ∀ k, k < w.heap.size → (k < lo ∨ hi ≤ k) → w'.heap[k]? = w.heap[k]?
theorem Turned.refl (w : World) (lo hi : Nat) : Turned w w lo hi := ⟨Below.refl _ _, fun _ _ _ => rfl⟩
theorem Turned.trans {a b c : World} {lo hi : Nat} (h : Turned a b lo hi) (k : Turned b c lo hi) : Turned a c lo hi :=
  ⟨h.base.trans k.base, fun i hi' ho => (k.block i (Nat.lt_of_lt_of_le hi' h.base.size) ho).trans (h.block i hi' ho)⟩
theorem Turned.of_below {w w' : World} (h : Below w.heap.size w w') (lo hi : Nat) : Turned w w' lo hi := ⟨h.mono (Nat.zero_le _), fun k hk _ => h.block k hk⟩
theorem Turned.of_grown {w w' : World} {g lo hi : Nat} (h : w.grownBy w' (some g)) (h1 : lo ≤ g) (h2 : g < hi) : Turned w w' lo hi :=
  ⟨⟨h.os, h.tape, h.output, h.size, fun k hk => by omega⟩, fun k hk ho => h.block k hk (by intro e; cases e; omega)⟩
theorem Turned.wide {w w' : World} {lo hi lo' hi' : Nat} (h : Turned w w' lo hi) (h1 : lo' ≤ lo) (h2 : hi ≤ hi') : Turned w w' lo' hi' := ⟨h.base, fun k hk ho => h.block k hk (by omega)⟩
theorem Turned.below {w w' : World} {lo hi B : Nat} (h : Turned w w' lo hi) (h1 : B ≤ lo) (h2 : B ≤ w.heap.size) : Below B w w' :=
  ⟨h.base.os, h.base.tape, h.base.output, h.base.size, fun k hk => h.block k (by omega) (.inl (by omega))⟩
theorem Turned.size {w w' : World} {lo hi : Nat} (h : Turned w w' lo hi) : w.heap.size ≤ w'.heap.size := h.base.size

/-- A row of cells that is read, its block in a range. -/
def RRow (w : World) (a : Option Addr) (L : List Value) (lo hi : Nat) : Prop :=
  0 < L.length → ∃ b off, a = some ⟨b, off, none⟩ ∧ lo ≤ b ∧ b < hi ∧ b < w.heap.size ∧ ∀ i v, L[i]? = some v → w.cell? ⟨b, off + i, none⟩ = some v
theorem RRow.crow {w : World} {a : Option Addr} {L : List Value} {lo hi : Nat} (h : RRow w a L lo hi) : CRow w a L := fun hp => by
  obtain ⟨b, off, e, _, _, h3, h4⟩ := h hp
  exact ⟨b, off, e, h3, h4⟩
theorem RRow.of_crow {w : World} {a : Option Addr} {L : List Value} (h : CRow w a L) : RRow w a L 0 w.heap.size := fun hp => by
  obtain ⟨b, off, e, h3, h4⟩ := h hp
  exact ⟨b, off, e, Nat.zero_le _, h3, h3, h4⟩
theorem RRow.turned {w w' : World} {a : Option Addr} {L : List Value} {lo hi lo' hi' : Nat} (h : RRow w a L lo hi) (t : Turned w w' lo' hi') (hd : hi ≤ lo' ∨ hi' ≤ lo) : RRow w' a L lo hi := fun hp => by
  obtain ⟨b, off, e, h1, h2, h3, h4⟩ := h hp
  exact ⟨b, off, e, h1, h2, Nat.lt_of_lt_of_le h3 t.size, fun i v hv => (World.cell?_of_block (a := ⟨b, off + i, none⟩) (t.block b h3 (by omega))).trans (h4 i v hv)⟩
theorem RRow.below {w w' : World} {a : Option Addr} {L : List Value} {lo hi : Nat} (h : RRow w a L lo hi) (hb : Below w.heap.size w w') : RRow w' a L lo hi := fun hp => by
  obtain ⟨b, off, e, h1, h2, h3, h4⟩ := h hp
  exact ⟨b, off, e, h1, h2, Nat.lt_of_lt_of_le h3 hb.size, fun i v hv => (hb.cell (p := ⟨b, off + i, none⟩) h3).trans (h4 i v hv)⟩
theorem RRow.wide {w : World} {a : Option Addr} {L : List Value} {lo hi lo' hi' : Nat} (h : RRow w a L lo hi) (h1 : lo' ≤ lo) (h2 : hi ≤ hi') : RRow w a L lo' hi' := fun hp => by
  obtain ⟨b, off, e, q1, q2, q3, q4⟩ := h hp
  exact ⟨b, off, e, by omega, by omega, q3, q4⟩
theorem RRow.of_wcells {w : World} {g lo hi : Nat} {L : List Value} (h : WCells w g L) (h1 : lo ≤ g) (h2 : g < hi) : RRow w (some ⟨g, 0, none⟩) L lo hi := fun _ => ⟨g, 0, rfl, h1, h2, h.1, fun i v hv => by rw [Nat.zero_add]; exact (h.2 i v hv).1⟩
theorem WCells.turned {w w' : World} {g lo hi : Nat} {L : List Value} (h : WCells w g L) (t : Turned w w' lo hi) (hd : g < lo ∨ hi ≤ g) : WCells w' g L :=
  ⟨Nat.lt_of_lt_of_le h.1 t.size, fun i v hv => ⟨(World.cell?_of_block (a := ⟨g, i, none⟩) (t.block g h.1 hd)).trans (h.2 i v hv).1, (World.frozen?_of_block (a := ⟨g, i, none⟩) (t.block g h.1 hd)).trans (h.2 i v hv).2⟩⟩
theorem WCells.apart {w w' : World} {g q : Nat} {L : List Value} (h : WCells w g L) (t : w.grownBy w' (some q)) (hd : g ≠ q) : WCells w' g L :=
  h.turned (Turned.of_grown (lo := q) (hi := q + 1) t (Nat.le_refl _) (by omega)) (by omega)

/-- A row of numbers that stands in a row of rows. -/
structure SR where
  loc : Option Addr
  row : List Int
  cap : Nat
instance : Inhabited SR := ⟨⟨none, [], 0⟩⟩
def srv (s : SR) : Value := .slice s.loc s.row.length s.cap
def svs (ss : List SR) : List Value := ss.map srv
def rws (ss : List SR) : List (List Int) := ss.map (·.row)
theorem svs_len (ss : List SR) : (svs ss).length = ss.length := by simp [svs]
theorem rws_len (ss : List SR) : (rws ss).length = ss.length := by simp [rws]
theorem svs_get (ss : List SR) (i : Nat) (h : i < ss.length) : (svs ss)[i]? = some (srv ss[i]) := by simp [svs, h]
theorem rws_get (ss : List SR) (i : Nat) (h : i < ss.length) : (rws ss)[i]'(by rw [rws_len]; exact h) = ss[i].row := by simp [rws]
theorem rws_snoc (ss : List SR) (s : SR) : rws (ss ++ [s]) = rws ss ++ [s.row] := by simp [rws]
/-- A row of rows that is read, its blocks in a range. -/
def MR (w : World) (a : Option Addr) (ss : List SR) (lo hi : Nat) : Prop := RRow w a (svs ss) lo hi ∧ ∀ s ∈ ss, RRow w s.loc (ics s.row) lo hi
theorem MR.turned {w w' : World} {a : Option Addr} {ss : List SR} {lo hi lo' hi' : Nat} (h : MR w a ss lo hi) (t : Turned w w' lo' hi') (hd : hi ≤ lo' ∨ hi' ≤ lo) : MR w' a ss lo hi := ⟨h.1.turned t hd, fun s hs => (h.2 s hs).turned t hd⟩
theorem MR.below {w w' : World} {a : Option Addr} {ss : List SR} {lo hi : Nat} (h : MR w a ss lo hi) (hb : Below w.heap.size w w') : MR w' a ss lo hi := ⟨h.1.below hb, fun s hs => (h.2 s hs).below hb⟩
theorem MR.wide {w : World} {a : Option Addr} {ss : List SR} {lo hi lo' hi' : Nat} (h : MR w a ss lo hi) (h1 : lo' ≤ lo) (h2 : hi ≤ hi') : MR w a ss lo' hi' := ⟨h.1.wide h1 h2, fun s hs => (h.2 s hs).wide h1 h2⟩
theorem MR.nil (w : World) (a : Option Addr) (lo hi : Nat) : MR w a [] lo hi := ⟨fun h => by simp [svs] at h, by simp⟩
/-- What the walk wants of it: the outer row's place and cells. -/
theorem MR.at {w : World} {a : Option Addr} {ss : List SR} {lo hi : Nat} (h : MR w a ss lo hi) (hp : 0 < ss.length) : ∃ b off, a = some ⟨b, off, none⟩ ∧ b < w.heap.size ∧ ∀ i (hi : i < ss.length), w.cell? ⟨b, off + i, none⟩ = some (srv ss[i]) := by
  obtain ⟨b, off, e, _, _, h3, h4⟩ := h.1 (by rw [svs_len]; exact hp)
  exact ⟨b, off, e, h3, fun i hi => h4 i _ (svs_get ss i hi)⟩
/-- A row of rows that may be written: each row in a block of its own, all in a range. -/
structure MW (w : World) (g : Nat) (ss : List SR) (lo hi : Nat) : Prop where
  out : WCells w g (svs ss)
  glo : lo ≤ g
  ghi : g < hi
  rows : ∀ s ∈ ss, ∃ b, s.loc = some ⟨b, 0, none⟩ ∧ lo ≤ b ∧ b < hi ∧ b ≠ g ∧ WCells w b (ics s.row) ∧ s.row.length ≤ s.cap
  apart : (ss.map SR.loc).Nodup
theorem MW.mr {w : World} {g : Nat} {ss : List SR} {lo hi : Nat} (h : MW w g ss lo hi) : MR w (some ⟨g, 0, none⟩) ss lo hi :=
  ⟨RRow.of_wcells h.out h.glo h.ghi, fun s hs => by obtain ⟨b, e, h1, h2, _, h3, _⟩ := h.rows s hs; rw [e]; exact RRow.of_wcells h3 h1 h2⟩
theorem MW.turned {w w' : World} {g : Nat} {ss : List SR} {lo hi lo' hi' : Nat} (h : MW w g ss lo hi) (t : Turned w w' lo' hi') (hd : hi ≤ lo' ∨ hi' ≤ lo) : MW w' g ss lo hi :=
  ⟨h.out.turned t (by have := h.glo; have := h.ghi; omega), h.glo, h.ghi, fun s hs => by
    obtain ⟨b, e, h1, h2, h3, h4, h5⟩ := h.rows s hs
    exact ⟨b, e, h1, h2, h3, h4.turned t (by omega), h5⟩, h.apart⟩
theorem MW.below {w w' : World} {g : Nat} {ss : List SR} {lo hi : Nat} (h : MW w g ss lo hi) (hb : Below w.heap.size w w') : MW w' g ss lo hi :=
  ⟨h.out.below hb h.out.1, h.glo, h.ghi, fun s hs => by
    obtain ⟨b, e, h1, h2, h3, h4, h5⟩ := h.rows s hs
    exact ⟨b, e, h1, h2, h3, h4.below hb h4.1, h5⟩, h.apart⟩
theorem MW.wide {w : World} {g : Nat} {ss : List SR} {lo hi lo' hi' : Nat} (h : MW w g ss lo hi) (h1 : lo' ≤ lo) (h2 : hi ≤ hi') : MW w g ss lo' hi' :=
  ⟨h.out, Nat.le_trans h1 h.glo, Nat.lt_of_lt_of_le h.ghi h2, fun s hs => by
    obtain ⟨b, e, q1, q2, q3, q4, q5⟩ := h.rows s hs
    exact ⟨b, e, by omega, by omega, q3, q4, q5⟩, h.apart⟩
/-- An answer of rows of numbers: nothing, or a row of rows that may be written. -/
def MAns (w : World) (v : Value) (X : List (List Int)) (lo hi : Nat) : Prop :=
  ∃ (a : Option Addr) (cap : Nat) (ss : List SR), v = .slice a ss.length cap ∧ rws ss = X ∧ ss.length ≤ cap ∧ (ss = [] ∨ ∃ g, a = some ⟨g, 0, none⟩ ∧ MW w g ss lo hi)
theorem MAns.empty (w : World) (a : Option Addr) (cap lo hi : Nat) : MAns w (.slice a 0 cap) [] lo hi := ⟨a, cap, [], rfl, rfl, Nat.zero_le _, .inl rfl⟩
end Go.Proofs.Ytcnjjbgilpgceaa
/- GenA: Rows of elements of which each one holds a row of its own, in memory: one that is read, one that may be written. Nothing of the program is read here. -/
namespace Go.Proofs.Ytcnjjbgilpgceaa
set_option maxRecDepth 100000
open Go.RowKit

/-- A kind of such elements: how one is laid into cells, where its own row lies, and what that row holds. -/
structure NK (R : Type) where
  enc : R → List Value
  sz : Nat
  len : ∀ r, (enc r).length = sz
  loc : R → Option Addr
  inn : R → List Value
def NK.cells {R : Type} (K : NK R) (rs : List R) : List Value := rs.flatMap K.enc
theorem NK.cells_len {R : Type} (K : NK R) (rs : List R) : (K.cells rs).length = rs.length * K.sz := flat_len K.len rs
theorem NK.cells_get {R : Type} (K : NK R) (rs : List R) (j : Nat) (h : j < rs.length) (i : Nat) (hi : i < K.sz) : (K.cells rs)[j * K.sz + i]? = (K.enc rs[j])[i]? := flat_get K.len rs j h i hi
/-- Such a row, as it is read. -/
def GR {R : Type} (K : NK R) (w : World) (a : Option Addr) (rs : List R) (lo hi : Nat) : Prop := RRow w a (K.cells rs) lo hi ∧ ∀ r ∈ rs, RRow w (K.loc r) (K.inn r) lo hi
theorem GR.turned {R : Type} {K : NK R} {w w' : World} {a : Option Addr} {rs : List R} {lo hi lo' hi' : Nat} (h : GR K w a rs lo hi) (t : Turned w w' lo' hi') (hd : hi ≤ lo' ∨ hi' ≤ lo) : GR K w' a rs lo hi := ⟨h.1.turned t hd, fun r hr => (h.2 r hr).turned t hd⟩
theorem GR.below {R : Type} {K : NK R} {w w' : World} {a : Option Addr} {rs : List R} {lo hi : Nat} (h : GR K w a rs lo hi) (hb : Below w.heap.size w w') : GR K w' a rs lo hi := ⟨h.1.below hb, fun r hr => (h.2 r hr).below hb⟩
theorem GR.wide {R : Type} {K : NK R} {w : World} {a : Option Addr} {rs : List R} {lo hi lo' hi' : Nat} (h : GR K w a rs lo hi) (h1 : lo' ≤ lo) (h2 : hi ≤ hi') : GR K w a rs lo' hi' := ⟨h.1.wide h1 h2, fun r hr => (h.2 r hr).wide h1 h2⟩
theorem GR.nil {R : Type} (K : NK R) (w : World) (a : Option Addr) (lo hi : Nat) : GR K w a [] lo hi := ⟨fun h => by simp [NK.cells] at h, by simp⟩
/-- Where it lies, and its cells. -/
theorem GR.at {R : Type} {K : NK R} {w : World} {a : Option Addr} {rs : List R} {lo hi : Nat} (h : GR K w a rs lo hi) (hp : 0 < rs.length) (hz : 0 < K.sz) :
    ∃ b off, a = some ⟨b, off, none⟩ ∧ b < w.heap.size ∧ ∀ j (hj : j < rs.length) i v, (K.enc rs[j])[i]? = some v → w.cell? ⟨b, off + (j * K.sz + i), none⟩ = some v := by
  obtain ⟨b, off, e, _, _, h3, h4⟩ := h.1 (by rw [K.cells_len]; exact Nat.mul_pos hp hz)
  refine ⟨b, off, e, h3, fun j hj i v hv => h4 _ v ?_⟩
  have hi : i < K.sz := by have := (List.getElem?_eq_some_iff.1 hv).1; rw [K.len] at this; exact this
  rw [K.cells_get rs j hj i hi]; exact hv
/-- Such a row that may be written: each one's own row in a block of its own, all in a range. -/
structure GW {R : Type} (K : NK R) (w : World) (g : Nat) (rs : List R) (lo hi : Nat) : Prop where
  out : WCells w g (K.cells rs)
  glo : lo ≤ g
  ghi : g < hi
  rows : ∀ r ∈ rs, K.inn r = [] ∨ ∃ b, K.loc r = some ⟨b, 0, none⟩ ∧ lo ≤ b ∧ b < hi ∧ b ≠ g ∧ WCells w b (K.inn r)
  apart : rs.Pairwise fun r s => K.inn r ≠ [] → K.inn s ≠ [] → K.loc r ≠ K.loc s
theorem GW.gr {R : Type} {K : NK R} {w : World} {g : Nat} {rs : List R} {lo hi : Nat} (h : GW K w g rs lo hi) : GR K w (some ⟨g, 0, none⟩) rs lo hi :=
  ⟨RRow.of_wcells h.out h.glo h.ghi, fun r hr => by
    rcases h.rows r hr with e | ⟨b, e, h1, h2, _, h3⟩
    · rw [e]; intro hp; simp at hp
    · rw [e]; exact RRow.of_wcells h3 h1 h2⟩
theorem GW.turned {R : Type} {K : NK R} {w w' : World} {g : Nat} {rs : List R} {lo hi lo' hi' : Nat} (h : GW K w g rs lo hi) (t : Turned w w' lo' hi') (hd : hi ≤ lo' ∨ hi' ≤ lo) : GW K w' g rs lo hi :=
  ⟨h.out.turned t (by have := h.glo; have := h.ghi; omega), h.glo, h.ghi, fun r hr => by
    rcases h.rows r hr with e | ⟨b, e, h1, h2, h3, h4⟩
    · exact .inl e
    · exact .inr ⟨b, e, h1, h2, h3, h4.turned t (by omega)⟩, h.apart⟩
theorem GW.below {R : Type} {K : NK R} {w w' : World} {g : Nat} {rs : List R} {lo hi : Nat} (h : GW K w g rs lo hi) (hb : Below w.heap.size w w') : GW K w' g rs lo hi :=
  ⟨h.out.below hb h.out.1, h.glo, h.ghi, fun r hr => by
    rcases h.rows r hr with e | ⟨b, e, h1, h2, h3, h4⟩
    · exact .inl e
    · exact .inr ⟨b, e, h1, h2, h3, h4.below hb h4.1⟩, h.apart⟩
theorem GW.wide {R : Type} {K : NK R} {w : World} {g : Nat} {rs : List R} {lo hi lo' hi' : Nat} (h : GW K w g rs lo hi) (h1 : lo' ≤ lo) (h2 : hi ≤ hi') : GW K w g rs lo' hi' :=
  ⟨h.out, Nat.le_trans h1 h.glo, Nat.lt_of_lt_of_le h.ghi h2, fun r hr => by
    rcases h.rows r hr with e | ⟨b, e, q1, q2, q3, q4⟩
    · exact .inl e
    · exact .inr ⟨b, e, by omega, by omega, q3, q4⟩, h.apart⟩
theorem WCells.setW_other {w : World} {g b : Nat} {L : List Value} (h : WCells w b L) (hne : b ≠ g) (off : Nat) (vs : List Value) : WCells (Go.Proofs.Ytcnjjbgilpgceaa.setW w g off vs) b L := by
  induction vs generalizing w off with
  | nil => exact h
  | cons v vs ih => exact ih (h.other ⟨g, off, none⟩ v hne) _
/-- An element is laid anew. -/
theorem GW.put {R : Type} {K : NK R} {w : World} {g : Nat} {rs : List R} {lo hi : Nat} (h : GW K w g rs lo hi) (j : Nat) (hj : j < rs.length) (r : R) (hr : K.inn r = [] ∨ ∃ b, K.loc r = some ⟨b, 0, none⟩ ∧ lo ≤ b ∧ b < hi ∧ b ≠ g ∧ WCells w b (K.inn r))
    (hap : ∀ s ∈ rs, K.inn s ≠ [] → K.inn r ≠ [] → K.loc s ≠ K.loc r) : GW K (Go.Proofs.Ytcnjjbgilpgceaa.setW w g (j * K.sz) (K.enc r)) g (rs.set j r) lo hi := by
  refine ⟨h.out.setElem K.len j hj r, h.glo, h.ghi, fun s hs => ?_, ?_⟩
  · rcases List.mem_or_eq_of_mem_set hs with q | q
    · rcases h.rows s q with e | ⟨b, e, q1, q2, q3, q4⟩
      · exact .inl e
      · exact .inr ⟨b, e, q1, q2, q3, q4.setW_other q3 _ _⟩
    · subst q
      rcases hr with e | ⟨b, e, q1, q2, q3, q4⟩
      · exact .inl e
      · exact .inr ⟨b, e, q1, q2, q3, q4.setW_other q3 _ _⟩
  · have ha := List.pairwise_iff_getElem.1 h.apart
    refine List.pairwise_iff_getElem.2 (fun a b ha' hb' hab h1 h2 => ?_)
    rw [List.length_set] at ha' hb'
    rw [List.getElem_set] at h1 ⊢
    rw [List.getElem_set] at h2 ⊢
    by_cases ea : j = a
    · by_cases eb : j = b
      · omega
      · rw [if_pos ea] at h1 ⊢
        rw [if_neg eb] at h2 ⊢
        exact (hap _ (List.getElem_mem hb') h2 h1).symm
    · rw [if_neg ea] at h1 ⊢
      by_cases eb : j = b
      · rw [if_pos eb] at h2 ⊢
        exact hap _ (List.getElem_mem ha') h1 h2
      · rw [if_neg eb] at h2 ⊢
        exact ha a b ha' hb' hab h1 h2
/-- A fact on a world, in place of how it came to be. -/
theorem body_shade {P : Program} {f : Func} {R : Ending → World → Prop} {x : Exit} {a : Act} {W : World} (p : World → Prop) (h : p W) (k : ∀ W', p W' → bodyPost P f R x a W') : bodyPost P f R x a W := k W h
theorem wp_shade {P : Program} {c : Code} {Q : Exit → Act → World → Prop} {a : Act} {W : World} (p : World → Prop) (h : p W) (k : ∀ W', p W' → Code.wp P c Q a W') : Code.wp P c Q a W := k W h
end Go.Proofs.Ytcnjjbgilpgceaa
