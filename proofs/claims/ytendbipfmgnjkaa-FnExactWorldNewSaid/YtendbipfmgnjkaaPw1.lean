/- Texts of ours, laid one behind the other: Bytes, RowsG, IntsA, NestA, GenA, TreA, TreC, TreD, TreE, TreF, TreB, DiskA. -/
import Derived.Test.YtendbipfmgnjkaaRows
import Derived.WalkKit
import Derived.WalkLawsBesides
import Derived.Handy
import Derived.Below
import Derived.Laws.IdiomStrings
import Derived.Laws.BytesArg
import Derived.Maps.AppendAt
import Derived.Laws.DeepStrings4
import Derived.OwnWalk
import Derived.Deep.DrawnRows
import Derived.Deep.RegionHeld3
import Derived.BigQuiet
import Derived.Deep.CutRange
import Derived.PlainAid
/- Bytes: Rows of bytes that a call owns, and the string that is made of one: facts for the walks of this seat. -/
namespace Go.Proofs.Ytendbipfmgnjkaa
set_option maxRecDepth 100000
open Go.RowKit

/-- Bytes as the cells of a row. -/
def bv (l : List UInt8) : List Value := l.map fun b => .int .u8 (b.toNat : Int)
theorem bv_nil : bv [] = [] := rfl
theorem bv_snoc (l : List UInt8) (b : UInt8) : bv l ++ [.int .u8 (b.toNat : Int)] = bv (l ++ [b]) := by simp [bv]
theorem bv_len (l : List UInt8) : (bv l).length = l.length := by simp [bv]
theorem byte_of (n : Int) (h0 : 0 ≤ n) (h1 : n < 256) : Value.int .u8 n = .int .u8 ((UInt8.ofNat n.toNat).toNat : Int) := by
  have : (UInt8.ofNat n.toNat).toNat = n.toNat := by simp; omega
  rw [this]; congr 1; omega

theorem Try.info5 : (Try.prog.info? 5).map (fun i => (i.zero, i.size, i.bytes)) = some (some (.int .u8 0), 1, 1) := by kernel_rfl

/-- The string of a row of bytes that a call owns. -/
theorem own_string {w : World} {base : Nat} {v : Value} {l : List UInt8} (h : w.ownsRow base 5 1 v l.length (bv l)) :
    (convert 119 9 v).run Try.prog w = .ok (.string ⟨l.toArray⟩) w := by
  have hc : ∀ g, v.ownBlock = some g → ∀ j u, (bv l)[j]? = some u → w.cell? ((⟨g, 0, none⟩ : Addr).add j) = some u := fun g hg => h.cells hg
  obtain ⟨h1, ⟨rfl, h0⟩ | ⟨g, cap, cur, rfl, _⟩⟩ := h
  · have : l = [] := List.eq_nil_of_length_eq_zero h0
    subst this
    exact run_convert_bytes_nil _ 119 5 Try.underlying119 Try.underlying5 0 0 _ Try.underlying9
  · exact run_convert_bytes_back w 119 9 5 ⟨g, 0, none⟩ cap l Try.underlying119 Try.underlying5 Try.underlying9 (fun j hj => hc g rfl j _ (by simp [bv, hj]))

/-- A part of a string. -/
theorem slice_str (s : ByteArray) (a b : Nat) (h1 : a ≤ b) (h2 : b ≤ s.size) (w : World) :
    (Instr.slice 9 (.string s) (some (.int .i64 (a : Int))) (some (.int .i64 (b : Int))) none).run Try.prog w = .ok (.string (s.extract a b)) w := by
  rw [run_slice_string_if w 9 s .i64 .i64 a b Try.underlying9, if_pos ⟨by omega, by omega⟩, if_pos ⟨by omega, by omega⟩]
  rfl
end Go.Proofs.Ytendbipfmgnjkaa
/- RowsG: Rows of cells in memory, for elements of any number of cells: what a row holds, and a row that may be written. Nothing of the program is read here. -/
namespace Go.Proofs.Ytendbipfmgnjkaa
set_option maxRecDepth 100000
open Go.RowKit

theorem flat_len {α : Type} {enc : α → List Value} {sz : Nat} (hsz : ∀ x, (enc x).length = sz) (xs : List α) : (xs.flatMap enc).length = xs.length * sz := by
  induction xs with
  | nil => simp
  | cons x xs ih => simp only [List.flatMap_cons, List.length_append, List.length_cons, ih, hsz, Nat.add_mul]; omega
theorem flat_get {α : Type} {enc : α → List Value} {sz : Nat} (hsz : ∀ x, (enc x).length = sz) (xs : List α) (j : Nat) (h : j < xs.length) (i : Nat) (hi : i < sz) : (xs.flatMap enc)[j * sz + i]? = (enc xs[j])[i]? := by
  induction xs generalizing j with
  | nil => simp at h
  | cons x xs ih =>
    rw [List.flatMap_cons]
    cases j with
    | zero =>
      rw [List.getElem?_append_left (by rw [hsz]; omega)]
      simp
    | succ j =>
      rw [List.getElem?_append_right (by rw [hsz, Nat.add_mul]; omega), hsz]
      have := ih j (by simpa using h)
      rw [show (j + 1) * sz + i - sz = j * sz + i by rw [Nat.add_mul]; omega]
      simpa using this
theorem flat_set {α : Type} {enc : α → List Value} {sz : Nat} (hsz : ∀ x, (enc x).length = sz) (xs : List α) (j : Nat) (h : j < xs.length) (y : α) (n : Nat) (hn : n < xs.length * sz) :
    ((xs.set j y).flatMap enc)[n]? = if n / sz = j then (enc y)[n % sz]? else (xs.flatMap enc)[n]? := by
  have hp : 0 < sz := by
    cases sz with
    | zero => simp at hn
    | succ s => omega
  have hq : n / sz < xs.length := Nat.div_lt_of_lt_mul (by rwa [Nat.mul_comm] at hn)
  have hr := Nat.mod_lt n hp
  have e : n = n / sz * sz + n % sz := by rw [Nat.mul_comm]; exact (Nat.div_add_mod n sz).symm
  have l1 := flat_get hsz (xs.set j y) (n / sz) (by simpa using hq) (n % sz) hr
  have l2 := flat_get hsz xs (n / sz) hq (n % sz) hr
  rw [← e] at l1 l2
  rw [l1, l2]
  by_cases c : n / sz = j
  · subst c; simp
  · rw [if_neg c, List.getElem_set_ne (Ne.symm c)]

/-- A row of cells, from a place on. -/
def CRow (w : World) (a : Option Addr) (L : List Value) : Prop :=
  0 < L.length → ∃ b off, a = some ⟨b, off, none⟩ ∧ b < w.heap.size ∧ ∀ i v, L[i]? = some v → w.cell? ⟨b, off + i, none⟩ = some v
theorem CRow.stays {w w' : World} {a : Option Addr} {L : List Value} (h : CRow w a L) (hb : Below w.heap.size w w') : CRow w' a L := by
  intro hp
  obtain ⟨b, off, e, hlt, hc⟩ := h hp
  exact ⟨b, off, e, Nat.lt_of_lt_of_le hlt hb.size, fun i v hv => by rw [hb.cell (p := ⟨b, off + i, none⟩) hlt]; exact hc i v hv⟩
/-- A row of cells that may be written, in a block of its own. -/
def WCells (w : World) (g : Nat) (L : List Value) : Prop :=
  g < w.heap.size ∧ ∀ i v, L[i]? = some v → w.cell? ⟨g, i, none⟩ = some v ∧ w.frozen? ⟨g, i, none⟩ = false
theorem WCells.crow {w : World} {g : Nat} {L : List Value} (h : WCells w g L) : CRow w (some ⟨g, 0, none⟩) L := fun _ => ⟨g, 0, rfl, h.1, fun i v hv => by rw [Nat.zero_add]; exact (h.2 i v hv).1⟩
theorem WCells.below {w w' : World} {g B : Nat} {L : List Value} (h : WCells w g L) (hb : Below B w w') (hg : g < B) : WCells w' g L :=
  ⟨Nat.lt_of_lt_of_le h.1 hb.size, fun i v hv => ⟨(hb.cell (p := ⟨g, i, none⟩) hg).trans (h.2 i v hv).1, (hb.frozen (p := ⟨g, i, none⟩) hg).trans (h.2 i v hv).2⟩⟩
theorem WCells.set {w : World} {g : Nat} {L : List Value} (h : WCells w g L) (i : Nat) (x : Value) (hi : i < L.length) : WCells (w.setCell ⟨g, i, none⟩ x) g (L.set i x) := by
  refine ⟨by have := h.1; simpa [World.setCell] using this, fun j v hv => ?_⟩
  have hj : j < L.length := by
    have := (List.getElem?_eq_some_iff.1 hv).1
    simpa using this
  have hold := h.2 j L[j] (List.getElem?_eq_getElem hj)
  refine ⟨?_, (World.frozen?_setCell _ _ _ _).trans hold.2⟩
  by_cases e : j = i
  · subst e
    rw [World.cell?_setCell_same _ _ _ hold.1]
    rw [List.getElem?_set_self hi] at hv
    exact hv
  · rw [World.cell?_setCell_other _ _ _ _ (by first | (simp; done) | (simp; omega)), hold.1]
    rw [List.getElem?_set_ne (Ne.symm e), List.getElem?_eq_getElem hj] at hv
    exact hv
theorem own_wcells {w : World} {B g n cap t sz : Nat} {L : List Value} (h : w.ownsRow B t sz (.slice (some ⟨g, 0, none⟩) n cap) n L) : WCells w g L := by
  have hc := h.cells (g := g) rfl
  have hlt := h.lt g rfl
  obtain ⟨_, ⟨h0, _⟩ | ⟨g', cap', cur, he, hB, hcur, _, _, _, _⟩⟩ := h
  · cases h0
  · have eg : g' = g := by simp at he; exact he.1.symm
    subst eg
    refine ⟨hlt.2, fun j v hj => ⟨?_, ?_⟩⟩
    · have := hc j v hj
      have e : (⟨g', 0, none⟩ : Addr).add j = ⟨g', j, none⟩ := by cases j <;> simp [Addr.add]
      rw [e] at this
      exact this
    · unfold World.frozen?
      rw [hcur]; simp

/-- Cells laid one behind the other: in a list, and in a world. -/
def setL (L : List Value) (off : Nat) : List Value → List Value
  | [] => L
  | v :: vs => setL (L.set off v) (off + 1) vs
def setW (w : World) (g off : Nat) : List Value → World
  | [] => w
  | v :: vs => setW (w.setCell ⟨g, off, none⟩ v) g (off + 1) vs
theorem setL_cons (c : Value) (L : List Value) (off : Nat) (vs : List Value) : setL (c :: L) (off + 1) vs = c :: setL L off vs := by
  induction vs generalizing L off with
  | nil => rfl
  | cons v vs ih => simp only [setL, List.set_cons_succ]; exact ih _ _
theorem setL_app (A L : List Value) (off : Nat) (vs : List Value) : setL (A ++ L) (A.length + off) vs = A ++ setL L off vs := by
  induction A with
  | nil => simp
  | cons a A ih => rw [List.cons_append, List.length_cons, show A.length + 1 + off = (A.length + off) + 1 by omega, setL_cons, ih]; rfl
theorem setL_head (A R B : List Value) (h : A.length = B.length) : setL (A ++ R) 0 B = B ++ R := by
  induction B generalizing A with
  | nil => simp at h; subst h; rfl
  | cons b B ih =>
    cases A with
    | nil => simp at h
    | cons a A =>
      simp only [List.cons_append, setL, List.set_cons_zero, setL_cons]
      rw [ih A (by simpa using h)]
theorem flat_setL {α : Type} {enc : α → List Value} {sz : Nat} (hsz : ∀ x, (enc x).length = sz) (xs : List α) (j : Nat) (h : j < xs.length) (y : α) : setL (xs.flatMap enc) (j * sz) (enc y) = (xs.set j y).flatMap enc := by
  induction xs generalizing j with
  | nil => simp at h
  | cons x xs ih =>
    cases j with
    | zero =>
      simp only [Nat.zero_mul, List.flatMap_cons, List.set_cons_zero]
      exact setL_head _ _ _ (by rw [hsz, hsz])
    | succ j =>
      simp only [List.flatMap_cons, List.set_cons_succ]
      rw [show (j + 1) * sz = (enc x).length + j * sz by rw [hsz, Nat.add_mul]; omega, setL_app, ih j (by simpa using h)]
theorem setL_len (L : List Value) (off : Nat) (vs : List Value) : (setL L off vs).length = L.length := by
  induction vs generalizing L off with
  | nil => rfl
  | cons v vs ih => simp only [setL]; rw [ih]; simp
theorem WCells.setW {w : World} {g : Nat} {L : List Value} (h : WCells w g L) (off : Nat) (vs : List Value) (hl : off + vs.length ≤ L.length) : WCells (setW w g off vs) g (setL L off vs) := by
  induction vs generalizing w L off with
  | nil => exact h
  | cons v vs ih =>
    simp only [List.length_cons] at hl
    exact ih (h.set off v (by omega)) (off + 1) (by rw [List.length_set]; omega)
/-- An element of a row is laid anew. -/
theorem WCells.setElem {α : Type} {enc : α → List Value} {sz : Nat} (hsz : ∀ x, (enc x).length = sz) {w : World} {g : Nat} {xs : List α} (h : WCells w g (xs.flatMap enc)) (j : Nat) (hj : j < xs.length) (y : α) :
    WCells (Go.Proofs.Ytendbipfmgnjkaa.setW w g (j * sz) (enc y)) g ((xs.set j y).flatMap enc) := by
  have hl : j * sz + (enc y).length ≤ (xs.flatMap enc).length := by
    rw [hsz, flat_len hsz]
    have := Nat.mul_le_mul_right sz (show j + 1 ≤ xs.length by omega)
    rw [Nat.add_mul] at this; omega
  have := h.setW (j * sz) (enc y) hl
  rwa [flat_setL hsz xs j hj y] at this
theorem below_setW {B g : Nat} {a w : World} (h : Below B a w) (hg : B ≤ g) (off : Nat) (vs : List Value) : Below B a (setW w g off vs) := by
  induction vs generalizing w off with
  | nil => exact h
  | cons v vs ih => exact ih (h.setCell (p := ⟨g, off, none⟩) hg v) _
/-- What 'make' lays, for elements of some cells. -/
theorem made_flat {α : Type} {enc : α → List Value} {sz : Nat} (hsz : ∀ x, (enc x).length = sz) (hp : 0 < sz) (z : Array Value) (d : α) (hz : z.toList = enc d) (n : Nat) : (madeCells z (n * sz)).toList = (List.replicate n d).flatMap enc := by
  have hzs : z.size = sz := by rw [← Array.length_toList, hz, hsz]
  apply List.ext_getElem?
  intro i
  by_cases hi : i < n * sz
  · have hq : i / sz < n := Nat.div_lt_of_lt_mul (by rwa [Nat.mul_comm] at hi)
    have hr := Nat.mod_lt i hp
    have e : i = i / sz * sz + i % sz := by rw [Nat.mul_comm]; exact (Nat.div_add_mod i sz).symm
    have l1 := flat_get hsz (List.replicate n d) (i / sz) (by simpa using hq) (i % sz) hr
    rw [← e] at l1
    rw [l1, List.getElem_replicate, ← hz]
    unfold madeCells
    have h3 : i % sz < z.size := by omega
    simp [hi, hzs]
    rw [getElem!_pos z (i % sz) h3, Array.getElem?_eq_getElem h3]
  · rw [List.getElem?_eq_none (by rw [Array.length_toList, size_madeCells]; omega), List.getElem?_eq_none (by rw [flat_len hsz]; simp; omega)]
theorem wcells_new (w : World) (cs : Array Value) (t : TypeId) : WCells (w.alloc (.cells cs t)) w.heap.size cs.toList := by
  refine ⟨by simp, fun i v hv => ⟨?_, ?_⟩⟩
  · rw [World.cell?_alloc_new]; simpa using hv
  · unfold World.frozen?
    rw [heap_alloc_new]; simp
theorem WCells.alloc {w : World} {g : Nat} {L : List Value} (h : WCells w g L) (o : Obj) : WCells (w.alloc o) g L := h.below ((Below.refl _ _).alloc (Nat.le_refl _) o) h.1
theorem WCells.grow {w w' : World} {g : Nat} {L : List Value} (h : WCells w g L) (hb : Below w.heap.size w w') : WCells w' g L := h.below hb h.1
theorem WCells.other {w : World} {g : Nat} {L : List Value} (h : WCells w g L) (p : Addr) (x : Value) (hp : g ≠ p.block) : WCells (w.setCell p x) g L := by
  refine ⟨by have := h.1; simpa [World.setCell] using this, fun j v hv => ?_⟩
  have hold := h.2 j v hv
  refine ⟨?_, (World.frozen?_setCell _ _ _ _).trans hold.2⟩
  rw [← hold.1]
  exact World.cell?_of_block (Below.heap_setCell w p x g hp)
/-- A fact that no tactic parts. -/
structure Shut (p : Prop) : Prop where
  out : p
end Go.Proofs.Ytendbipfmgnjkaa
/- IntsA: Rows of numbers: their copies, their comparison, marks that are laid into one and found again. -/
namespace Go.Proofs.Ytendbipfmgnjkaa
set_option maxRecDepth 100000
open Go.RowKit
attribute [local go_sem ↓] Go.wp_at_zero Go.wp_at_succ

def ics (xs : List Int) : List Value := xs.map fun x => .int .i64 x
theorem ics_len (xs : List Int) : (ics xs).length = xs.length := by simp [ics]
theorem ics_get (xs : List Int) (j : Nat) (h : j < xs.length) : (ics xs)[j]? = some (.int .i64 (xs.getD j 0)) := by simp [ics, List.getD, h]
theorem ics_set (xs : List Int) (j : Nat) (x : Int) : (ics xs).set j (.int .i64 x) = ics (xs.set j x) := by simp [ics, List.map_set]
theorem crow_int {w : World} {a : Option Addr} {xs : List Int} (h : CRow w a (ics xs)) (hp : 0 < xs.length) : ∃ b off, a = some ⟨b, off, none⟩ ∧ b < w.heap.size ∧ ∀ j, j < xs.length → w.cell? ⟨b, off + j, none⟩ = some (.int .i64 (xs.getD j 0)) := by
  obtain ⟨b, off, e, hb, hc⟩ := h (by rw [ics_len]; exact hp)
  exact ⟨b, off, e, hb, fun j hj => hc j _ (ics_get xs j hj)⟩
theorem infoIntG : (Try.prog.info? 3).map (fun i => (i.zero, i.size, i.bytes)) = some (some (.int .i64 0), 1, 8) := by kernel_rfl
def ToInts (xs : List Int) (w : World) (e : Ending) (w' : World) : Prop := ∃ g, e = .returned (.slice (some ⟨g, 0, none⟩) xs.length xs.length) ∧ w.heap.size ≤ g ∧ WCells w' g (ics xs) ∧ Below w.heap.size w w'
set_option maxHeartbeats 1000000 in
theorem toIntS_any (a : Option Addr) (xs : List Int) (cap : Nat) (w : World) (hr : CRow w a (ics xs)) (hl : xs.length ≤ 1048576) :
    Calls Try.prog 27 #[.slice a xs.length cap] w fun e w' => ToInts xs w e w' := by
  obtain ⟨i0, hi, hz0, hz1, hz2⟩ := info_parts infoIntG
  have HR : Hid (CRow w a (ics xs)) := hr
  clear hr
  go_enter Try.func27, Try.ntmps27
  go_wp2_with (at_make; refine wpList_make_full _ rfl _ _ 24 rfl w.heap.size 3 i0 _ 1 Try.underlying24 hi hz0 hz1 .i64 .i64 _ _ xs.length rfl rfl (by omega) (by omega) ?b2 ?b3 ?b4 ?_)
  case b2 => rw [hz2]; omega
  case b3 => unfold maxLen; omega
  case b4 => omega
  intro wm hownm hgrm
  have hbm : Below w.heap.size w wm := (Below.refl _ _).grown hgrm (Nat.le_refl _) (fun j hj => by simp at hj)
  have hrow : WCells wm w.heap.size (ics (List.replicate xs.length 0)) := by
    have h := own_wcells hownm
    have e : (madeCells #[Value.int .i64 0] (xs.length * 1)).toList = ics (List.replicate xs.length 0) := by rw [toList_madeCells_one]; simp [ics]
    rw [Nat.mul_one] at e
    first | (rw [e] at h; exact h) | (rw [Nat.mul_one, e] at h; exact h)
  have HRW : Shut (WCells wm w.heap.size (ics (List.replicate xs.length 0))) := ⟨hrow⟩
  clear hownm hgrm hrow
  go_wp2_with fail
  go_loopw [4] (fun i wr => ∃ (k : Nat) (ys : List Int), i = .int .i64 k ∧ k ≤ xs.length ∧ ys.length = xs.length ∧ ys.take k = xs.take k ∧ Shut (WCells wr w.heap.size (ics ys)) ∧ Below w.heap.size w wr) (fun i _ => xs.length - (intOf i).toNat)
  case atStart => exact ⟨0, _, rfl, by omega, by simp, by simp, HRW, hbm⟩
  case round =>
    clear hbm
    obtain ⟨k, ys, rfl, hk, hyl, hyt, hw, hb⟩ := hrel
    have HY : Hid (ys.length = xs.length ∧ ys.take k = xs.take k) := ⟨hyl, hyt⟩
    have HB : Hid (Below w.heap.size w wr) := hb
    by_cases hlt : k < xs.length
    · obtain ⟨b, off, rfl, lb, hc⟩ := crow_int HR.out (by omega)
      have d0 := hc k hlt
      rw [← hb.cell (p := ⟨b, off + k, none⟩) lb] at d0
      obtain ⟨x, hx⟩ : ∃ x, x = xs.getD k 0 := ⟨_, rfl⟩
      rw [← hx] at d0
      have HXE : Hid (x = xs.getD k 0) := hx
      have k0 : (0 : Int) ≤ (k : Int) := by omega
      have k1 : (k : Int) < (xs.length : Int) := by omega
      obtain ⟨c0, z0⟩ := hw.out.2 k _ (ics_get ys k (by omega))
      have hset := hw.out.set k (.int .i64 x) (by rw [ics_len]; omega)
      rw [ics_set] at hset
      have HS : Shut (WCells (wr.setCell ⟨w.heap.size, k, none⟩ (.int .i64 x)) w.heap.size (ics (ys.set k x))) := ⟨hset⟩
      clear hc hx hset hb hyl hyt
      go_wp2_with fail
      all_goals
        refine ⟨⟨k + 1, ys.set k x, by go_num, by omega, by rw [List.length_set]; exact HY.out.1, ?_, ⟨HS.out⟩, HB.out.setCell (p := ⟨w.heap.size, k, none⟩) (Nat.le_refl _) _⟩, by simp [intOf]; omega⟩
        have hky : k < (ys.set k x).length := by rw [List.length_set]; have := HY.out.1; omega
        rw [List.take_succ_eq_append_getElem hky, List.take_succ_eq_append_getElem hlt, List.take_set_of_le (Nat.le_refl _), List.getElem_set_self]
        have e1 : x = xs[k] := by rw [HXE.out]; simp [List.getD, hlt]
        rw [e1]
        exact congrArg (· ++ [xs[k]]) HY.out.2
    · have e : ys = xs := by
        rw [List.take_of_length_le (by omega), List.take_of_length_le (by omega)] at hyt; exact hyt
      subst e
      go_wp2_with fail
      go_ret
      exact ⟨_, rfl, Nat.le_refl _, hw.out, hb⟩
set_option maxHeartbeats 1000000 in
theorem eqIntS_same (a b : Option Addr) (xs : List Int) (ca cb : Nat) (w : World) (ha : CRow w a (ics xs)) (hb : CRow w b (ics xs)) (hl : xs.length ≤ 1048576) :
    Calls Try.prog 30 #[.slice a xs.length ca, .slice b xs.length cb] w fun e w' => e = .returned (.bool true) ∧ Below w.heap.size w w' := by
  have HA : Hid (CRow w a (ics xs)) := ha
  have HB : Hid (CRow w b (ics xs)) := hb
  clear ha hb
  go_enter Try.func30, Try.ntmps30
  go_wp2_with fail
  go_loopw [5] (fun i wr => ∃ (k : Nat), i = .int .i64 k ∧ k ≤ xs.length ∧ Below w.heap.size w wr) (fun i _ => xs.length - (intOf i).toNat)
  case atStart => exact ⟨0, rfl, Nat.zero_le _, Below.refl _ _⟩
  case round =>
    obtain ⟨k, rfl, hk, hbl⟩ := hrel
    by_cases hlt : k < xs.length
    · obtain ⟨b1, o1, rfl, l1, hc1⟩ := crow_int (HA.out.stays hbl) (by omega)
      obtain ⟨b2, o2, rfl, l2, hc2⟩ := crow_int (HB.out.stays hbl) (by omega)
      have d0 := hc1 k hlt
      have e0 := hc2 k hlt
      have k0 : (0 : Int) ≤ (k : Int) := by omega
      have k1 : (k : Int) < (xs.length : Int) := by omega
      have hbn : ∀ q, Below w.heap.size w (wr.drewN q) := fun q => hbl.trans ⟨rfl, rfl, rfl, Nat.le_refl _, fun _ _ => rfl⟩
      generalize xs.getD k 0 = x at d0 e0
      clear hc1 hc2 hbl
      go_wp2_with fail
      go_quiet (fail)
      go_wp2_with fail
      go_roundw
      case rel => exact ⟨k + 1, by go_num, by omega, hbn _⟩
      case measure => simp [intOf]; omega
    · have e : k = xs.length := by omega
      subst e
      go_wp2_with fail
      go_ret
      exact ⟨rfl, hbl⟩
/-- Marks from k on. -/
def marksI (k n : Nat) : List Int := (List.range n).map fun j => ((k + j : Nat) : Int)
theorem marksI_len (k n : Nat) : (marksI k n).length = n := by simp [marksI]
theorem marksI_at (k n j : Nat) (h : j < n) : (marksI k n).getD j 0 = ((k + j : Nat) : Int) := by simp [marksI, List.getD, h]
theorem markIntS_none (a : Option Addr) (k ca : Nat) (w : World) :
    Calls Try.prog 38 #[.slice a 0 ca, .int .i64 k] w fun e w' => e = .returned (.int .i64 k) ∧ w' = w := by
  go_enter Try.func38, Try.ntmps38
  go_wp2_with fail
  go_rounds 1
  go_ret
  exact ⟨rfl, rfl⟩
def MarkInts (g k n : Nat) (w : World) (e : Ending) (w' : World) : Prop := e = .returned (.int .i64 (k + n : Nat)) ∧ (∃ ys : List Int, ys.length = n ∧ WCells w' g (ics ys)) ∧ w.grownBy w' (some g)
theorem gb_set' (w : World) (g i : Nat) (v : Value) : w.grownBy (w.setCell ⟨g, i, none⟩ v) (some g) :=
  ⟨rfl, rfl, rfl, by simp [World.setCell], fun k _ hk => Below.heap_setCell w ⟨g, i, none⟩ v k (fun e => hk (by rw [e]))⟩
theorem gb_two' {a b c : World} {g : Nat} (h : a.grownBy b (some g)) (k : b.grownBy c (some g)) : a.grownBy c (some g) :=
  ⟨k.os.trans h.os, k.tape.trans h.tape, k.output.trans h.output, Nat.le_trans h.size k.size, fun j hj hn => (k.block j (Nat.lt_of_lt_of_le hj h.size) hn).trans (h.block j hj hn)⟩
set_option maxHeartbeats 1000000 in
theorem markIntS_any (g : Nat) (xs : List Int) (k ca : Nat) (w : World) (ha : WCells w g (ics xs)) (hn : k + xs.length ≤ 1000000000) (hca : xs.length ≤ ca) :
    Calls Try.prog 38 #[.slice (some ⟨g, 0, none⟩) xs.length ca, .int .i64 k] w fun e w' => MarkInts g k xs.length w e w' := by
  obtain ⟨n, hnx⟩ : ∃ n, n = xs.length := ⟨_, rfl⟩
  have HN : Hid (n = xs.length) := hnx
  rw [← hnx]
  rw [← hnx] at hn hca
  clear hnx
  have HA : Shut (WCells w g (ics xs)) := ⟨ha⟩
  clear ha
  go_enter Try.func38, Try.ntmps38
  go_wp2_with fail
  go_loopw [1, 5] (fun c i wr => ∃ (j : Nat) (ys : List Int), i = .int .i64 j ∧ c = .int .i64 (k + j : Nat) ∧ j ≤ n ∧ ys.length = n ∧ Shut (WCells wr g (ics ys)) ∧ w.grownBy wr (some g)) (fun _ i _ => n - (intOf i).toNat)
  case atStart => exact ⟨0, xs, rfl, rfl, Nat.zero_le _, HN.out.symm, HA, ⟨rfl, rfl, rfl, Nat.le_refl _, fun _ _ _ => rfl⟩⟩
  case round =>
    obtain ⟨j, ys, rfl, rfl, hj, hyl, hw, hgr⟩ := hrel
    have HL : Hid (ys.length = n) := hyl
    by_cases hlt : j < n
    · have j0 : (0 : Int) ≤ (j : Int) := by omega
      have j1 : (j : Int) < (n : Int) := by omega
      obtain ⟨c0, z0⟩ := hw.out.2 j _ (ics_get ys j (by omega))
      have hset := hw.out.set j (.int .i64 ((k : Int) + (j : Int))) (by rw [ics_len]; omega)
      rw [ics_set] at hset
      have HS : Shut (WCells (wr.setCell ⟨g, j, none⟩ (.int .i64 ((k : Int) + (j : Int)))) g (ics (ys.set j ((k : Int) + (j : Int))))) := ⟨hset⟩
      have HG : Hid (w.grownBy (wr.setCell ⟨g, j, none⟩ (.int .i64 ((k : Int) + (j : Int)))) (some g)) := gb_two' hgr (gb_set' wr g j _)
      clear hset hyl hgr hw
      go_wp2_with fail
      go_roundw
      case rel => exact ⟨j + 1, _, by go_num, congrArg (Value.int .i64) (by omega), by omega, by rw [List.length_set]; exact HL.out, HS, HG.out⟩
      case measure => simp [intOf]; omega
    · have e : j = n := by omega
      subst e
      go_wp2_with fail
      go_ret
      exact ⟨rfl, ⟨ys, hyl, hw.out⟩, hgr⟩
end Go.Proofs.Ytendbipfmgnjkaa
/- NestA: Rows of rows of numbers in memory: one that is read, one that may be written, and what is turned of the world in between. Nothing of the program is read here. -/
namespace Go.Proofs.Ytendbipfmgnjkaa
set_option maxRecDepth 100000
open Go.RowKit

/-- What lies from lo up to hi may be turned, what lies beyond the end is new; all else is as it was. -/
structure Turned (w w' : World) (lo hi : Nat) : Prop where
  base : Below 0 w w'
  block : ∀ k, k < w.heap.size → (k < lo ∨ hi ≤ k) → w'.heap[k]? = w.heap[k]?
theorem Turned.refl (w : World) (lo hi : Nat) : Turned w w lo hi := ⟨Below.refl _ _, fun _ _ _ => rfl⟩
theorem Turned.trans {a b c : World} {lo hi : Nat} (h : Turned a b lo hi) (k : Turned b c lo hi) : Turned a c lo hi :=
  ⟨h.base.trans k.base, fun i hi' ho => (k.block i (Nat.lt_of_lt_of_le hi' h.base.size) ho).trans (h.block i hi' ho)⟩
theorem Turned.of_below {w w' : World} (h : Below w.heap.size w w') (lo hi : Nat) : Turned w w' lo hi := ⟨h.mono (Nat.zero_le _), fun k hk _ => h.block k hk⟩
theorem Turned.of_grown {w w' : World} {g lo hi : Nat} (h : w.grownBy w' (some g)) (h1 : lo ≤ g) (h2 : g < hi) : Turned w w' lo hi :=
  ⟨⟨h.os, h.tape, h.output, h.size, fun k hk => by omega⟩, fun k hk ho => h.block k hk (by intro e; cases e; omega)⟩
theorem Turned.wide {w w' : World} {lo hi lo' hi' : Nat} (h : Turned w w' lo hi) (h1 : lo' ≤ lo) (h2 : hi ≤ hi') : Turned w w' lo' hi' := ⟨h.base, fun k hk ho => h.block k hk (by omega)⟩
theorem Turned.below {w w' : World} {lo hi B : Nat} (h : Turned w w' lo hi) (h1 : B ≤ lo) (h2 : B ≤ w.heap.size) : Below B w w' :=
  ⟨h.base.os, h.base.tape, h.base.output, h.base.size, fun k hk => h.block k (by omega) (.inl (by omega))⟩
theorem Turned.size {w w' : World} {lo hi : Nat} (h : Turned w w' lo hi) : w.heap.size ≤ w'.heap.size := h.base.size

/-- A row of cells that is read, its block in a range. -/
def RRow (w : World) (a : Option Addr) (L : List Value) (lo hi : Nat) : Prop :=
  0 < L.length → ∃ b off, a = some ⟨b, off, none⟩ ∧ lo ≤ b ∧ b < hi ∧ b < w.heap.size ∧ ∀ i v, L[i]? = some v → w.cell? ⟨b, off + i, none⟩ = some v
theorem RRow.crow {w : World} {a : Option Addr} {L : List Value} {lo hi : Nat} (h : RRow w a L lo hi) : CRow w a L := fun hp => by
  obtain ⟨b, off, e, _, _, h3, h4⟩ := h hp
  exact ⟨b, off, e, h3, h4⟩
theorem RRow.of_crow {w : World} {a : Option Addr} {L : List Value} (h : CRow w a L) : RRow w a L 0 w.heap.size := fun hp => by
  obtain ⟨b, off, e, h3, h4⟩ := h hp
  exact ⟨b, off, e, Nat.zero_le _, h3, h3, h4⟩
theorem RRow.turned {w w' : World} {a : Option Addr} {L : List Value} {lo hi lo' hi' : Nat} (h : RRow w a L lo hi) (t : Turned w w' lo' hi') (hd : hi ≤ lo' ∨ hi' ≤ lo) : RRow w' a L lo hi := fun hp => by
  obtain ⟨b, off, e, h1, h2, h3, h4⟩ := h hp
  exact ⟨b, off, e, h1, h2, Nat.lt_of_lt_of_le h3 t.size, fun i v hv => (World.cell?_of_block (a := ⟨b, off + i, none⟩) (t.block b h3 (by omega))).trans (h4 i v hv)⟩
theorem RRow.below {w w' : World} {a : Option Addr} {L : List Value} {lo hi : Nat} (h : RRow w a L lo hi) (hb : Below w.heap.size w w') : RRow w' a L lo hi := fun hp => by
  obtain ⟨b, off, e, h1, h2, h3, h4⟩ := h hp
  exact ⟨b, off, e, h1, h2, Nat.lt_of_lt_of_le h3 hb.size, fun i v hv => (hb.cell (p := ⟨b, off + i, none⟩) h3).trans (h4 i v hv)⟩
theorem RRow.wide {w : World} {a : Option Addr} {L : List Value} {lo hi lo' hi' : Nat} (h : RRow w a L lo hi) (h1 : lo' ≤ lo) (h2 : hi ≤ hi') : RRow w a L lo' hi' := fun hp => by
  obtain ⟨b, off, e, q1, q2, q3, q4⟩ := h hp
  exact ⟨b, off, e, by omega, by omega, q3, q4⟩
theorem RRow.of_wcells {w : World} {g lo hi : Nat} {L : List Value} (h : WCells w g L) (h1 : lo ≤ g) (h2 : g < hi) : RRow w (some ⟨g, 0, none⟩) L lo hi := fun _ => ⟨g, 0, rfl, h1, h2, h.1, fun i v hv => by rw [Nat.zero_add]; exact (h.2 i v hv).1⟩
theorem WCells.turned {w w' : World} {g lo hi : Nat} {L : List Value} (h : WCells w g L) (t : Turned w w' lo hi) (hd : g < lo ∨ hi ≤ g) : WCells w' g L :=
  ⟨Nat.lt_of_lt_of_le h.1 t.size, fun i v hv => ⟨(World.cell?_of_block (a := ⟨g, i, none⟩) (t.block g h.1 hd)).trans (h.2 i v hv).1, (World.frozen?_of_block (a := ⟨g, i, none⟩) (t.block g h.1 hd)).trans (h.2 i v hv).2⟩⟩
theorem WCells.apart {w w' : World} {g q : Nat} {L : List Value} (h : WCells w g L) (t : w.grownBy w' (some q)) (hd : g ≠ q) : WCells w' g L :=
  h.turned (Turned.of_grown (lo := q) (hi := q + 1) t (Nat.le_refl _) (by omega)) (by omega)

/-- A row of numbers that stands in a row of rows. -/
structure SR where
  loc : Option Addr
  row : List Int
  cap : Nat
instance : Inhabited SR := ⟨⟨none, [], 0⟩⟩
def srv (s : SR) : Value := .slice s.loc s.row.length s.cap
def svs (ss : List SR) : List Value := ss.map srv
def rws (ss : List SR) : List (List Int) := ss.map (·.row)
theorem svs_len (ss : List SR) : (svs ss).length = ss.length := by simp [svs]
theorem rws_len (ss : List SR) : (rws ss).length = ss.length := by simp [rws]
theorem svs_get (ss : List SR) (i : Nat) (h : i < ss.length) : (svs ss)[i]? = some (srv ss[i]) := by simp [svs, h]
theorem rws_get (ss : List SR) (i : Nat) (h : i < ss.length) : (rws ss)[i]'(by rw [rws_len]; exact h) = ss[i].row := by simp [rws]
theorem rws_snoc (ss : List SR) (s : SR) : rws (ss ++ [s]) = rws ss ++ [s.row] := by simp [rws]
/-- A row of rows that is read, its blocks in a range. -/
def MR (w : World) (a : Option Addr) (ss : List SR) (lo hi : Nat) : Prop := RRow w a (svs ss) lo hi ∧ ∀ s ∈ ss, RRow w s.loc (ics s.row) lo hi
theorem MR.turned {w w' : World} {a : Option Addr} {ss : List SR} {lo hi lo' hi' : Nat} (h : MR w a ss lo hi) (t : Turned w w' lo' hi') (hd : hi ≤ lo' ∨ hi' ≤ lo) : MR w' a ss lo hi := ⟨h.1.turned t hd, fun s hs => (h.2 s hs).turned t hd⟩
theorem MR.below {w w' : World} {a : Option Addr} {ss : List SR} {lo hi : Nat} (h : MR w a ss lo hi) (hb : Below w.heap.size w w') : MR w' a ss lo hi := ⟨h.1.below hb, fun s hs => (h.2 s hs).below hb⟩
theorem MR.wide {w : World} {a : Option Addr} {ss : List SR} {lo hi lo' hi' : Nat} (h : MR w a ss lo hi) (h1 : lo' ≤ lo) (h2 : hi ≤ hi') : MR w a ss lo' hi' := ⟨h.1.wide h1 h2, fun s hs => (h.2 s hs).wide h1 h2⟩
theorem MR.nil (w : World) (a : Option Addr) (lo hi : Nat) : MR w a [] lo hi := ⟨fun h => by simp [svs] at h, by simp⟩
/-- What the walk wants of it: the outer row's place and cells. -/
theorem MR.at {w : World} {a : Option Addr} {ss : List SR} {lo hi : Nat} (h : MR w a ss lo hi) (hp : 0 < ss.length) : ∃ b off, a = some ⟨b, off, none⟩ ∧ b < w.heap.size ∧ ∀ i (hi : i < ss.length), w.cell? ⟨b, off + i, none⟩ = some (srv ss[i]) := by
  obtain ⟨b, off, e, _, _, h3, h4⟩ := h.1 (by rw [svs_len]; exact hp)
  exact ⟨b, off, e, h3, fun i hi => h4 i _ (svs_get ss i hi)⟩
/-- A row of rows that may be written: each row in a block of its own, all in a range. -/
structure MW (w : World) (g : Nat) (ss : List SR) (lo hi : Nat) : Prop where
  out : WCells w g (svs ss)
  glo : lo ≤ g
  ghi : g < hi
  rows : ∀ s ∈ ss, ∃ b, s.loc = some ⟨b, 0, none⟩ ∧ lo ≤ b ∧ b < hi ∧ b ≠ g ∧ WCells w b (ics s.row) ∧ s.row.length ≤ s.cap
  apart : (ss.map SR.loc).Nodup
theorem MW.mr {w : World} {g : Nat} {ss : List SR} {lo hi : Nat} (h : MW w g ss lo hi) : MR w (some ⟨g, 0, none⟩) ss lo hi :=
  ⟨RRow.of_wcells h.out h.glo h.ghi, fun s hs => by obtain ⟨b, e, h1, h2, _, h3, _⟩ := h.rows s hs; rw [e]; exact RRow.of_wcells h3 h1 h2⟩
theorem MW.turned {w w' : World} {g : Nat} {ss : List SR} {lo hi lo' hi' : Nat} (h : MW w g ss lo hi) (t : Turned w w' lo' hi') (hd : hi ≤ lo' ∨ hi' ≤ lo) : MW w' g ss lo hi :=
  ⟨h.out.turned t (by have := h.glo; have := h.ghi; omega), h.glo, h.ghi, fun s hs => by
    obtain ⟨b, e, h1, h2, h3, h4, h5⟩ := h.rows s hs
    exact ⟨b, e, h1, h2, h3, h4.turned t (by omega), h5⟩, h.apart⟩
theorem MW.below {w w' : World} {g : Nat} {ss : List SR} {lo hi : Nat} (h : MW w g ss lo hi) (hb : Below w.heap.size w w') : MW w' g ss lo hi :=
  ⟨h.out.below hb h.out.1, h.glo, h.ghi, fun s hs => by
    obtain ⟨b, e, h1, h2, h3, h4, h5⟩ := h.rows s hs
    exact ⟨b, e, h1, h2, h3, h4.below hb h4.1, h5⟩, h.apart⟩
theorem MW.wide {w : World} {g : Nat} {ss : List SR} {lo hi lo' hi' : Nat} (h : MW w g ss lo hi) (h1 : lo' ≤ lo) (h2 : hi ≤ hi') : MW w g ss lo' hi' :=
  ⟨h.out, Nat.le_trans h1 h.glo, Nat.lt_of_lt_of_le h.ghi h2, fun s hs => by
    obtain ⟨b, e, q1, q2, q3, q4, q5⟩ := h.rows s hs
    exact ⟨b, e, by omega, by omega, q3, q4, q5⟩, h.apart⟩
/-- An answer of rows of numbers: nothing, or a row of rows that may be written. -/
def MAns (w : World) (v : Value) (X : List (List Int)) (lo hi : Nat) : Prop :=
  ∃ (a : Option Addr) (cap : Nat) (ss : List SR), v = .slice a ss.length cap ∧ rws ss = X ∧ ss.length ≤ cap ∧ (ss = [] ∨ ∃ g, a = some ⟨g, 0, none⟩ ∧ MW w g ss lo hi)
theorem MAns.empty (w : World) (a : Option Addr) (cap lo hi : Nat) : MAns w (.slice a 0 cap) [] lo hi := ⟨a, cap, [], rfl, rfl, Nat.zero_le _, .inl rfl⟩
end Go.Proofs.Ytendbipfmgnjkaa
/- GenA: Rows of elements of which each one holds a row of its own, in memory: one that is read, one that may be written. Nothing of the program is read here. -/
namespace Go.Proofs.Ytendbipfmgnjkaa
set_option maxRecDepth 100000
open Go.RowKit

/-- A kind of such elements: how one is laid into cells, where its own row lies, and what that row holds. -/
structure NK (R : Type) where
  enc : R → List Value
  sz : Nat
  len : ∀ r, (enc r).length = sz
  loc : R → Option Addr
  inn : R → List Value
def NK.cells {R : Type} (K : NK R) (rs : List R) : List Value := rs.flatMap K.enc
theorem NK.cells_len {R : Type} (K : NK R) (rs : List R) : (K.cells rs).length = rs.length * K.sz := flat_len K.len rs
theorem NK.cells_get {R : Type} (K : NK R) (rs : List R) (j : Nat) (h : j < rs.length) (i : Nat) (hi : i < K.sz) : (K.cells rs)[j * K.sz + i]? = (K.enc rs[j])[i]? := flat_get K.len rs j h i hi
/-- Such a row, as it is read. -/
def GR {R : Type} (K : NK R) (w : World) (a : Option Addr) (rs : List R) (lo hi : Nat) : Prop := RRow w a (K.cells rs) lo hi ∧ ∀ r ∈ rs, RRow w (K.loc r) (K.inn r) lo hi
theorem GR.turned {R : Type} {K : NK R} {w w' : World} {a : Option Addr} {rs : List R} {lo hi lo' hi' : Nat} (h : GR K w a rs lo hi) (t : Turned w w' lo' hi') (hd : hi ≤ lo' ∨ hi' ≤ lo) : GR K w' a rs lo hi := ⟨h.1.turned t hd, fun r hr => (h.2 r hr).turned t hd⟩
theorem GR.below {R : Type} {K : NK R} {w w' : World} {a : Option Addr} {rs : List R} {lo hi : Nat} (h : GR K w a rs lo hi) (hb : Below w.heap.size w w') : GR K w' a rs lo hi := ⟨h.1.below hb, fun r hr => (h.2 r hr).below hb⟩
theorem GR.wide {R : Type} {K : NK R} {w : World} {a : Option Addr} {rs : List R} {lo hi lo' hi' : Nat} (h : GR K w a rs lo hi) (h1 : lo' ≤ lo) (h2 : hi ≤ hi') : GR K w a rs lo' hi' := ⟨h.1.wide h1 h2, fun r hr => (h.2 r hr).wide h1 h2⟩
theorem GR.nil {R : Type} (K : NK R) (w : World) (a : Option Addr) (lo hi : Nat) : GR K w a [] lo hi := ⟨fun h => by simp [NK.cells] at h, by simp⟩
/-- Where it lies, and its cells. -/
theorem GR.at {R : Type} {K : NK R} {w : World} {a : Option Addr} {rs : List R} {lo hi : Nat} (h : GR K w a rs lo hi) (hp : 0 < rs.length) (hz : 0 < K.sz) :
    ∃ b off, a = some ⟨b, off, none⟩ ∧ b < w.heap.size ∧ ∀ j (hj : j < rs.length) i v, (K.enc rs[j])[i]? = some v → w.cell? ⟨b, off + (j * K.sz + i), none⟩ = some v := by
  obtain ⟨b, off, e, _, _, h3, h4⟩ := h.1 (by rw [K.cells_len]; exact Nat.mul_pos hp hz)
  refine ⟨b, off, e, h3, fun j hj i v hv => h4 _ v ?_⟩
  have hi : i < K.sz := by have := (List.getElem?_eq_some_iff.1 hv).1; rw [K.len] at this; exact this
  rw [K.cells_get rs j hj i hi]; exact hv
/-- Such a row that may be written: each one's own row in a block of its own, all in a range. -/
structure GW {R : Type} (K : NK R) (w : World) (g : Nat) (rs : List R) (lo hi : Nat) : Prop where
  out : WCells w g (K.cells rs)
  glo : lo ≤ g
  ghi : g < hi
  rows : ∀ r ∈ rs, K.inn r = [] ∨ ∃ b, K.loc r = some ⟨b, 0, none⟩ ∧ lo ≤ b ∧ b < hi ∧ b ≠ g ∧ WCells w b (K.inn r)
  apart : rs.Pairwise fun r s => K.inn r ≠ [] → K.inn s ≠ [] → K.loc r ≠ K.loc s
theorem GW.gr {R : Type} {K : NK R} {w : World} {g : Nat} {rs : List R} {lo hi : Nat} (h : GW K w g rs lo hi) : GR K w (some ⟨g, 0, none⟩) rs lo hi :=
  ⟨RRow.of_wcells h.out h.glo h.ghi, fun r hr => by
    rcases h.rows r hr with e | ⟨b, e, h1, h2, _, h3⟩
    · rw [e]; intro hp; simp at hp
    · rw [e]; exact RRow.of_wcells h3 h1 h2⟩
theorem GW.turned {R : Type} {K : NK R} {w w' : World} {g : Nat} {rs : List R} {lo hi lo' hi' : Nat} (h : GW K w g rs lo hi) (t : Turned w w' lo' hi') (hd : hi ≤ lo' ∨ hi' ≤ lo) : GW K w' g rs lo hi :=
  ⟨h.out.turned t (by have := h.glo; have := h.ghi; omega), h.glo, h.ghi, fun r hr => by
    rcases h.rows r hr with e | ⟨b, e, h1, h2, h3, h4⟩
    · exact .inl e
    · exact .inr ⟨b, e, h1, h2, h3, h4.turned t (by omega)⟩, h.apart⟩
theorem GW.below {R : Type} {K : NK R} {w w' : World} {g : Nat} {rs : List R} {lo hi : Nat} (h : GW K w g rs lo hi) (hb : Below w.heap.size w w') : GW K w' g rs lo hi :=
  ⟨h.out.below hb h.out.1, h.glo, h.ghi, fun r hr => by
    rcases h.rows r hr with e | ⟨b, e, h1, h2, h3, h4⟩
    · exact .inl e
    · exact .inr ⟨b, e, h1, h2, h3, h4.below hb h4.1⟩, h.apart⟩
theorem GW.wide {R : Type} {K : NK R} {w : World} {g : Nat} {rs : List R} {lo hi lo' hi' : Nat} (h : GW K w g rs lo hi) (h1 : lo' ≤ lo) (h2 : hi ≤ hi') : GW K w g rs lo' hi' :=
  ⟨h.out, Nat.le_trans h1 h.glo, Nat.lt_of_lt_of_le h.ghi h2, fun r hr => by
    rcases h.rows r hr with e | ⟨b, e, q1, q2, q3, q4⟩
    · exact .inl e
    · exact .inr ⟨b, e, by omega, by omega, q3, q4⟩, h.apart⟩
theorem WCells.setW_other {w : World} {g b : Nat} {L : List Value} (h : WCells w b L) (hne : b ≠ g) (off : Nat) (vs : List Value) : WCells (Go.Proofs.Ytendbipfmgnjkaa.setW w g off vs) b L := by
  induction vs generalizing w off with
  | nil => exact h
  | cons v vs ih => exact ih (h.other ⟨g, off, none⟩ v hne) _
/-- An element is laid anew. -/
theorem GW.put {R : Type} {K : NK R} {w : World} {g : Nat} {rs : List R} {lo hi : Nat} (h : GW K w g rs lo hi) (j : Nat) (hj : j < rs.length) (r : R) (hr : K.inn r = [] ∨ ∃ b, K.loc r = some ⟨b, 0, none⟩ ∧ lo ≤ b ∧ b < hi ∧ b ≠ g ∧ WCells w b (K.inn r))
    (hap : ∀ s ∈ rs, K.inn s ≠ [] → K.inn r ≠ [] → K.loc s ≠ K.loc r) : GW K (Go.Proofs.Ytendbipfmgnjkaa.setW w g (j * K.sz) (K.enc r)) g (rs.set j r) lo hi := by
  refine ⟨h.out.setElem K.len j hj r, h.glo, h.ghi, fun s hs => ?_, ?_⟩
  · rcases List.mem_or_eq_of_mem_set hs with q | q
    · rcases h.rows s q with e | ⟨b, e, q1, q2, q3, q4⟩
      · exact .inl e
      · exact .inr ⟨b, e, q1, q2, q3, q4.setW_other q3 _ _⟩
    · subst q
      rcases hr with e | ⟨b, e, q1, q2, q3, q4⟩
      · exact .inl e
      · exact .inr ⟨b, e, q1, q2, q3, q4.setW_other q3 _ _⟩
  · have ha := List.pairwise_iff_getElem.1 h.apart
    refine List.pairwise_iff_getElem.2 (fun a b ha' hb' hab h1 h2 => ?_)
    rw [List.length_set] at ha' hb'
    rw [List.getElem_set] at h1 ⊢
    rw [List.getElem_set] at h2 ⊢
    by_cases ea : j = a
    · by_cases eb : j = b
      · omega
      · rw [if_pos ea] at h1 ⊢
        rw [if_neg eb] at h2 ⊢
        exact (hap _ (List.getElem_mem hb') h2 h1).symm
    · rw [if_neg ea] at h1 ⊢
      by_cases eb : j = b
      · rw [if_pos eb] at h2 ⊢
        exact hap _ (List.getElem_mem ha') h1 h2
      · rw [if_neg eb] at h2 ⊢
        exact ha a b ha' hb' hab h1 h2
/-- A fact on a world, in place of how it came to be. -/
theorem body_shade {P : Program} {f : Func} {R : Ending → World → Prop} {x : Exit} {a : Act} {W : World} (p : World → Prop) (h : p W) (k : ∀ W', p W' → bodyPost P f R x a W') : bodyPost P f R x a W := k W h
theorem wp_shade {P : Program} {c : Code} {Q : Exit → Act → World → Prop} {a : Act} {W : World} (p : World → Prop) (h : p W) (k : ∀ W', p W' → Code.wp P c Q a W') : Code.wp P c Q a W := k W h
end Go.Proofs.Ytendbipfmgnjkaa
/- TreA: Trees, plain, and in memory. -/
namespace Go.Proofs.Ytendbipfmgnjkaa
set_option maxRecDepth 100000
open Go.RowKit

/-- A piece. -/
structure PM where
  group : Int
  len : Int
instance : Inhabited PM := ⟨⟨0, 0⟩⟩
abbrev pv (p : PM) : Value := .agg #[.int .i64 p.group, .int .i64 p.len]
def pcells (p : PM) : List Value := [.int .i64 p.group, .int .i64 p.len]
theorem pcells_len (p : PM) : (pcells p).length = 2 := rfl
def pcs (ps : List PM) : List Value := ps.flatMap pcells
theorem pcs_len (ps : List PM) : (pcs ps).length = ps.length * 2 := flat_len pcells_len ps
theorem pcs_nil {ps : List PM} : pcs ps = [] ↔ ps = [] := by
  cases ps with
  | nil => simp [pcs]
  | cons p ps => simp [pcs, pcells]
/-- A node. -/
structure NM where
  id : Int
  parent : Int
  name : ByteArray
  dir : Bool
  schema : Int
  quota : Int
  len : Int
  pieces : List PM
  writer : Int
instance : Inhabited NM := ⟨⟨0, 0, ⟨#[]⟩, false, 0, 0, 0, [], 0⟩⟩
/-- A node in memory: what it is, and where its pieces lie. -/
structure NR where
  nd : NM
  loc : Option Addr
  cap : Nat
instance : Inhabited NR := ⟨⟨default, none, 0⟩⟩
abbrev nv (r : NR) : Value := .agg #[.int .i64 r.nd.id, .int .i64 r.nd.parent, .string r.nd.name, .bool r.nd.dir, .int .i64 r.nd.schema, .int .i64 r.nd.quota, .int .i64 r.nd.len, .slice r.loc r.nd.pieces.length r.cap, .int .i64 r.nd.writer]
def ncells (r : NR) : List Value := [.int .i64 r.nd.id, .int .i64 r.nd.parent, .string r.nd.name, .bool r.nd.dir, .int .i64 r.nd.schema, .int .i64 r.nd.quota, .int .i64 r.nd.len, .slice r.loc r.nd.pieces.length r.cap, .int .i64 r.nd.writer]
theorem ncells_len (r : NR) : (ncells r).length = 9 := rfl
/-- Nodes as elements that hold a row each. -/
abbrev NKind : NK NR := ⟨ncells, 9, ncells_len, NR.loc, fun r => pcs r.nd.pieces⟩
def ncs (rs : List NR) : List Value := rs.flatMap ncells
theorem ncs_len (rs : List NR) : (ncs rs).length = rs.length * 9 := flat_len ncells_len rs
def nds (rs : List NR) : List NM := rs.map NR.nd
theorem nds_len (rs : List NR) : (nds rs).length = rs.length := by simp [nds]
theorem nds_snoc (rs : List NR) (r : NR) : nds (rs ++ [r]) = nds rs ++ [r.nd] := by simp [nds]
/-- A tree. -/
structure TM where
  nodes : List NM
  next : Int
/-- Nine cells of a node. -/
def NAt (w : World) (b o : Nat) (r : NR) : Prop :=
  w.cell? ⟨b, o, none⟩ = some (.int .i64 r.nd.id) ∧ w.cell? ⟨b, o + 1, none⟩ = some (.int .i64 r.nd.parent) ∧ w.cell? ⟨b, o + 2, none⟩ = some (.string r.nd.name) ∧ w.cell? ⟨b, o + 3, none⟩ = some (.bool r.nd.dir) ∧ w.cell? ⟨b, o + 4, none⟩ = some (.int .i64 r.nd.schema) ∧ w.cell? ⟨b, o + 5, none⟩ = some (.int .i64 r.nd.quota) ∧ w.cell? ⟨b, o + 6, none⟩ = some (.int .i64 r.nd.len) ∧ w.cell? ⟨b, o + 7, none⟩ = some (.slice r.loc r.nd.pieces.length r.cap) ∧ w.cell? ⟨b, o + 8, none⟩ = some (.int .i64 r.nd.writer)
abbrev TR (w : World) (a : Option Addr) (rs : List NR) (lo hi : Nat) : Prop := GR NKind w a rs lo hi
abbrev TW (w : World) (g : Nat) (rs : List NR) (lo hi : Nat) : Prop := GW NKind w g rs lo hi
theorem TR.nat {w : World} {a : Option Addr} {rs : List NR} {lo hi : Nat} (h : TR w a rs lo hi) (hp : 0 < rs.length) : ∃ b off, a = some ⟨b, off, none⟩ ∧ b < w.heap.size ∧ ∀ j (hj : j < rs.length), NAt w b (off + j * 9) rs[j] := by
  obtain ⟨b, off, e, hb, hc⟩ := h.at hp (by decide)
  refine ⟨b, off, e, hb, fun j hj => ?_⟩
  have hcc : ∀ i v, (ncells rs[j])[i]? = some v → w.cell? ⟨b, off + j * 9 + i, none⟩ = some v := fun i v hv => by
    have := hc j hj i v hv
    rw [← Nat.add_assoc] at this
    exact this
  exact ⟨hcc 0 _ rfl, hcc 1 _ rfl, hcc 2 _ rfl, hcc 3 _ rfl, hcc 4 _ rfl, hcc 5 _ rfl, hcc 6 _ rfl, hcc 7 _ rfl, hcc 8 _ rfl⟩
theorem NAt.below {w w' : World} {b o : Nat} {r : NR} (h : NAt w b o r) (hb : Below w.heap.size w w') (hl : b < w.heap.size) : NAt w' b o r := by
  obtain ⟨h0, h1, h2, h3, h4, h5, h6, h7, h8⟩ := h
  have k : ∀ i v, w.cell? ⟨b, i, none⟩ = some v → w'.cell? ⟨b, i, none⟩ = some v := fun i v hv => (hb.cell (p := ⟨b, i, none⟩) hl).trans hv
  exact ⟨k _ _ h0, k _ _ h1, k _ _ h2, k _ _ h3, k _ _ h4, k _ _ h5, k _ _ h6, k _ _ h7, k _ _ h8⟩
/-- Pieces that are read. -/
theorem pcs_at {w : World} {a : Option Addr} {ps : List PM} {lo hi : Nat} (h : RRow w a (pcs ps) lo hi) (hp : 0 < ps.length) : ∃ b off, a = some ⟨b, off, none⟩ ∧ b < w.heap.size ∧ ∀ j (hj : j < ps.length), w.cell? ⟨b, off + j * 2, none⟩ = some (.int .i64 ps[j].group) ∧ w.cell? ⟨b, off + j * 2 + 1, none⟩ = some (.int .i64 ps[j].len) := by
  obtain ⟨b, off, e, _, _, hb, hc⟩ := h (by rw [pcs_len]; omega)
  exact ⟨b, off, e, hb, fun j hj => ⟨hc (j * 2) _ (flat_get pcells_len ps j hj 0 (by omega)), hc (j * 2 + 1) _ (flat_get pcells_len ps j hj 1 (by omega))⟩⟩
/-- A value that is this tree. -/
def TSee (w : World) (v : Value) (T : TM) (lo hi : Nat) : Prop := ∃ (a : Option Addr) (cap : Nat) (rs : List NR), v = .agg #[.slice a rs.length cap, .int .i64 T.next] ∧ nds rs = T.nodes ∧ TR w a rs lo hi
/-- An answer that is this tree: nothing, or nodes that may be written. -/
def TAns (w : World) (v : Value) (T : TM) (lo hi : Nat) : Prop := ∃ (a : Option Addr) (cap : Nat) (rs : List NR), v = .agg #[.slice a rs.length cap, .int .i64 T.next] ∧ nds rs = T.nodes ∧ rs.length ≤ cap ∧ (rs = [] ∨ ∃ g, a = some ⟨g, 0, none⟩ ∧ TW w g rs lo hi)
theorem TAns.see {w : World} {v : Value} {T : TM} {lo hi : Nat} (h : TAns w v T lo hi) : TSee w v T lo hi := by
  obtain ⟨a, cap, rs, e, hr, _, h1⟩ := h
  refine ⟨a, cap, rs, e, hr, ?_⟩
  rcases h1 with rfl | ⟨g, rfl, hm⟩
  · exact GR.nil _ _ _ _ _
  · exact hm.gr
theorem TSee.turned {w w' : World} {v : Value} {T : TM} {lo hi lo' hi' : Nat} (h : TSee w v T lo hi) (t : Turned w w' lo' hi') (hd : hi ≤ lo' ∨ hi' ≤ lo) : TSee w' v T lo hi := by
  obtain ⟨a, cap, rs, e, hr, h1⟩ := h
  exact ⟨a, cap, rs, e, hr, h1.turned t hd⟩
theorem TSee.below {w w' : World} {v : Value} {T : TM} {lo hi : Nat} (h : TSee w v T lo hi) (hb : Below w.heap.size w w') : TSee w' v T lo hi := by
  obtain ⟨a, cap, rs, e, hr, h1⟩ := h
  exact ⟨a, cap, rs, e, hr, h1.below hb⟩
theorem TSee.wide {w : World} {v : Value} {T : TM} {lo hi lo' hi' : Nat} (h : TSee w v T lo hi) (h1 : lo' ≤ lo) (h2 : hi ≤ hi') : TSee w v T lo' hi' := by
  obtain ⟨a, cap, rs, e, hr, q⟩ := h
  exact ⟨a, cap, rs, e, hr, q.wide h1 h2⟩
theorem TAns.turned {w w' : World} {v : Value} {T : TM} {lo hi lo' hi' : Nat} (h : TAns w v T lo hi) (t : Turned w w' lo' hi') (hd : hi ≤ lo' ∨ hi' ≤ lo) : TAns w' v T lo hi := by
  obtain ⟨a, cap, rs, e, hr, hc, h1⟩ := h
  refine ⟨a, cap, rs, e, hr, hc, ?_⟩
  rcases h1 with rfl | ⟨g, rfl, hm⟩
  · exact .inl rfl
  · exact .inr ⟨g, rfl, hm.turned t hd⟩
theorem TAns.below {w w' : World} {v : Value} {T : TM} {lo hi : Nat} (h : TAns w v T lo hi) (hb : Below w.heap.size w w') : TAns w' v T lo hi := by
  obtain ⟨a, cap, rs, e, hr, hc, h1⟩ := h
  refine ⟨a, cap, rs, e, hr, hc, ?_⟩
  rcases h1 with rfl | ⟨g, rfl, hm⟩
  · exact .inl rfl
  · exact .inr ⟨g, rfl, hm.below hb⟩
/-- What an answer of a tree is: new memory alone. -/
def TrPost (T : TM) (w : World) (e : Ending) (w' : World) : Prop := ∃ v, e = .returned v ∧ TAns w' v T w.heap.size w'.heap.size ∧ Below w.heap.size w w'
/-- How much there is in nodes: their names' bytes and their pieces. -/
def nsum : List NM → Nat
  | [] => 0
  | n :: ns => n.name.size + n.pieces.length + nsum ns
theorem nsum_take (ns : List NM) (k : Nat) (h : k < ns.length) : nsum (ns.take (k + 1)) = nsum (ns.take k) + (ns[k].name.size + ns[k].pieces.length) := by
  induction ns generalizing k with
  | nil => simp at h
  | cons n ns ih =>
    cases k with
    | zero => simp [nsum]
    | succ k =>
      have := ih k (by simpa using h)
      simp only [List.take_succ_cons, nsum, List.getElem_cons_succ]
      omega
theorem nsum_mem {ns : List NM} {n : NM} (h : n ∈ ns) : n.name.size + n.pieces.length ≤ nsum ns := by
  induction ns with
  | nil => simp at h
  | cons x ns ih =>
    rcases List.mem_cons.1 h with rfl | h
    · simp only [nsum]; omega
    · have := ih h; simp only [nsum]; omega
/-- A tree that a machine can hold. -/
def NFit (T : TM) : Prop := T.nodes.length + nsum T.nodes ≤ 1048576
end Go.Proofs.Ytendbipfmgnjkaa
/- TreC: Copies of trees. -/
namespace Go.Proofs.Ytendbipfmgnjkaa
set_option maxRecDepth 100000
open Go.RowKit
attribute [local go_sem ↓] Go.wp_at_zero Go.wp_at_succ

theorem infoPiece : (Try.prog.info? 136).map (fun i => (i.zero, i.size, i.bytes)) = some (some (.agg #[.int .i64 0, .int .i64 0]), 2, 16) := by kernel_rfl
/-- A copy of pieces. -/
def ToPieces (ps : List PM) (w : World) (e : Ending) (w' : World) : Prop := ∃ g, e = .returned (.slice (some ⟨g, 0, none⟩) ps.length ps.length) ∧ w.heap.size ≤ g ∧ WCells w' g (pcs ps) ∧ Below w.heap.size w w'
/-- A copy of a node. -/
def ToNode (r : NR) (w : World) (e : Ending) (w' : World) : Prop := ∃ g, e = .returned (nv ⟨r.nd, some ⟨g, 0, none⟩, r.nd.pieces.length⟩) ∧ w.heap.size ≤ g ∧ WCells w' g (pcs r.nd.pieces) ∧ Below w.heap.size w w'
/-- Three new blocks: what came in, the answer, and what is made on the way. -/
structure Tri (w W : World) (L1 L2 L3 : List Value) : Prop where
  bel : Below w.heap.size w W
  b1 : WCells W w.heap.size L1
  b2 : WCells W (w.heap.size + 1) L2
  b3 : WCells W (w.heap.size + 1 + 1) L3
theorem Tri.new (w : World) (A B C : Array Value) (tA tB tC : TypeId) : Tri w (((w.alloc (.cells A tA)).alloc (.cells B tB)).alloc (.cells C tC)) A.toList B.toList C.toList := by
  have e1 : (w.alloc (.cells A tA)).heap.size = w.heap.size + 1 := by simp
  have e2 : ((w.alloc (.cells A tA)).alloc (.cells B tB)).heap.size = w.heap.size + 1 + 1 := by simp
  refine ⟨(((Below.refl _ _).alloc (Nat.le_refl _) _).alloc (by simp) _).alloc (by simp; omega) _, ((wcells_new w A tA).alloc _).alloc _, ?_, ?_⟩
  · have := (wcells_new (w.alloc (.cells A tA)) B tB).alloc (.cells C tC)
    rw [e1] at this; exact this
  · have := wcells_new ((w.alloc (.cells A tA)).alloc (.cells B tB)) C tC
    rw [e2] at this; exact this
theorem Tri.set {w W : World} {L1 L2 L3 : List Value} (h : Tri w W L1 L2 L3) (i : Nat) (v : Value) (hi : i < L3.length) : Tri w (W.setCell ⟨w.heap.size + 1 + 1, i, none⟩ v) L1 L2 (L3.set i v) :=
  ⟨h.bel.setCell (p := ⟨w.heap.size + 1 + 1, i, none⟩) (by show w.heap.size ≤ w.heap.size + 1 + 1; omega) v, h.b1.other _ _ (by show w.heap.size ≠ w.heap.size + 1 + 1; omega), h.b2.other _ _ (by show w.heap.size + 1 ≠ w.heap.size + 1 + 1; omega), h.b3.set i v hi⟩
theorem Tri.below {w W W' : World} {L1 L2 L3 : List Value} (h : Tri w W L1 L2 L3) (hb : Below W.heap.size W W') : Tri w W' L1 L2 L3 := ⟨h.bel.trans (hb.mono h.bel.size), h.b1.grow hb, h.b2.grow hb, h.b3.grow hb⟩
end Go.Proofs.Ytendbipfmgnjkaa
/- TreD: Copies of rows of nodes, and of trees. -/
namespace Go.Proofs.Ytendbipfmgnjkaa
set_option maxRecDepth 100000
open Go.RowKit
attribute [local go_sem ↓] Go.wp_at_zero Go.wp_at_succ

theorem infoNode : (Try.prog.info? 108).map (fun i => (i.zero, i.size, i.bytes)) = some (some (.agg #[.int .i64 0, .int .i64 0, .string ⟨#[]⟩, .bool false, .int .i64 0, .int .i64 0, .int .i64 0, .slice none 0 0, .int .i64 0]), 9, 96) := by kernel_rfl
theorem pcs_ne {ps : List PM} (h : ps ≠ []) : pcs ps ≠ [] := fun e => h (pcs_nil.1 e)
/-- A node that was copied takes its place. -/
theorem TW.copy {wr w2 : World} {g g' : Nat} {gs : List NR} {B : Nat} (h : TW wr g gs B wr.heap.size) (hb : Below wr.heap.size wr w2) (j : Nat) (hj : j < gs.length) (nd : NM) (hg : wr.heap.size ≤ g') (hw : WCells w2 g' (pcs nd.pieces)) (hB : B ≤ wr.heap.size) :
    TW (setW w2 g (j * 9) (ncells ⟨nd, some ⟨g', 0, none⟩, nd.pieces.length⟩)) g (gs.set j ⟨nd, some ⟨g', 0, none⟩, nd.pieces.length⟩) B w2.heap.size := by
  refine GW.put (K := NKind) ((h.below hb).wide (Nat.le_refl _) hb.size) j hj ⟨nd, some ⟨g', 0, none⟩, nd.pieces.length⟩ ?_ ?_
  · exact .inr ⟨g', rfl, by omega, hw.1, by have := h.out.1; omega, hw⟩
  · intro s hs h1 _ e
    rcases h.rows s hs with q | ⟨b, e2, _, q2, _, _⟩
    · exact h1 q
    · have : b = g' := congrArg Addr.block (Option.some.inj (e2.symm.trans e))
      omega
theorem setW_size (w : World) (g off : Nat) (vs : List Value) : (setW w g off vs).heap.size = w.heap.size := by
  induction vs generalizing w off with
  | nil => rfl
  | cons v vs ih => show (setW _ g (off + 1) vs).heap.size = _; rw [ih]; simp [World.setCell]
theorem setW9 (w : World) (g o : Nat) (v0 v1 v2 v3 v4 v5 v6 v7 v8 : Value) : setW w g o [v0, v1, v2, v3, v4, v5, v6, v7, v8] = ((((((((w.setCell ⟨g, o, none⟩ v0).setCell ⟨g, o + 1, none⟩ v1).setCell ⟨g, o + 2, none⟩ v2).setCell ⟨g, o + 3, none⟩ v3).setCell ⟨g, o + 4, none⟩ v4).setCell ⟨g, o + 5, none⟩ v5).setCell ⟨g, o + 6, none⟩ v6).setCell ⟨g, o + 7, none⟩ v7).setCell ⟨g, o + 8, none⟩ v8 := rfl
/-- A copy of a row of nodes. -/
def ToNodes (rs : List NR) (w : World) (e : Ending) (w' : World) : Prop := ∃ g ts, e = .returned (.slice (some ⟨g, 0, none⟩) ts.length ts.length) ∧ nds ts = nds rs ∧ TW w' g ts w.heap.size w'.heap.size ∧ Below w.heap.size w w'
end Go.Proofs.Ytendbipfmgnjkaa
/- TreE: Copies of trees. -/
namespace Go.Proofs.Ytendbipfmgnjkaa
set_option maxRecDepth 100000
open Go.RowKit
attribute [local go_sem ↓] Go.wp_at_zero Go.wp_at_succ

end Go.Proofs.Ytendbipfmgnjkaa
/- TreF: Trees that are the same are told so (written by gen/mktref.py). -/
namespace Go.Proofs.Ytendbipfmgnjkaa
set_option maxRecDepth 100000
open Go.RowKit
attribute [local go_sem ↓] Go.wp_at_zero Go.wp_at_succ

theorem eqPiece_same (p : PM) (w : World) : Calls Try.prog 118 #[pv p, pv p] w fun e w' => e = .returned (.bool true) ∧ Below w.heap.size w w' := by
  go_enter Try.func118, Try.ntmps118
  go_wp2_with fail
  go_ret
  exact ⟨rfl, ((Below.refl _ _).alloc (Nat.le_refl _) _).alloc (by simp) _⟩
set_option maxHeartbeats 1000000 in
theorem eqPieceS_same (a b : Option Addr) (ps : List PM) (ca cb : Nat) (w : World) (lo hi lo' hi' : Nat) (ha : RRow w a (pcs ps) lo hi) (hb : RRow w b (pcs ps) lo' hi') (hl : ps.length ≤ 1048576) :
    Calls Try.prog 113 #[.slice a ps.length ca, .slice b ps.length cb] w fun e w' => e = .returned (.bool true) ∧ Below w.heap.size w w' := by
  have HA := Shut.mk ha
  have HB := Shut.mk hb
  clear ha hb
  go_enter Try.func113, Try.ntmps113
  go_wp2_with fail
  go_loopw [5] (fun i wr => ∃ (k : Nat), i = .int .i64 k ∧ k ≤ ps.length ∧ Shut (Below w.heap.size w wr)) (fun i _ => ps.length - (intOf i).toNat)
  case atStart => exact ⟨0, rfl, Nat.zero_le _, ⟨Below.refl _ _⟩⟩
  case round =>
    obtain ⟨k, rfl, hk, hbl⟩ := hrel
    by_cases hlt : k < ps.length
    · obtain ⟨b1, o1, rfl, l1, hc1⟩ := pcs_at (HA.out.below hbl.out) (by omega)
      obtain ⟨b2, o2, rfl, l2, hc2⟩ := pcs_at (HB.out.below hbl.out) (by omega)
      obtain ⟨d0, d1⟩ := hc1 k hlt
      obtain ⟨e0, e1⟩ := hc2 k hlt
      generalize ps[k] = f at *
      have k0 : (0 : Int) ≤ (k : Int) := by omega
      have k1 : (k : Int) < (ps.length : Int) := by omega
      clear hc1 hc2
      go_wp2_with fail
      go_region_held3 (fun w' => w'.cell? ⟨b1, o1 + k * 2, none⟩ = some (.int .i64 f.group) ∧ w'.cell? ⟨b1, o1 + k * 2 + 1, none⟩ = some (.int .i64 f.len) ∧ w'.cell? ⟨b2, o2 + k * 2, none⟩ = some (.int .i64 f.group) ∧ w'.cell? ⟨b2, o2 + k * 2 + 1, none⟩ = some (.int .i64 f.len))
        (first | go_keep | (refine ⟨?_, ?_, ?_, ?_⟩ <;> first | (rw [hb2.cell (by exact l1)]; simp [*]) | (rw [hb2.cell (by exact l2)]; simp [*])))
        ((go_at_call 118; refine (eqPiece_same f _).mono ?_; rintro e w2 ⟨rfl, hb2⟩))
      all_goals go_wp2_with fail
      all_goals
        have hb3 : Below w.heap.size w w2 := hbl.out.trans ((Below.drew (Below.refl _ _)).trans (hb2.mono hbl.out.size))
        exact ⟨⟨k + 1, by go_num, by omega, ⟨hb3⟩⟩, by simp [intOf]; omega⟩
    · have hlt' : ¬ (k : Int) < (ps.length : Int) := by omega
      go_wp2_with fail
      go_ret
      exact ⟨rfl, hbl.out⟩
theorem same_text (x : ByteArray) : (x.toList != x.toList) = false := by simp
set_option maxRecDepth 100000 in
set_option maxHeartbeats 2000000 in
theorem eqInode_same (r s : NR) (w : World) (lo hi lo' hi' : Nat) (hn : r.nd = s.nd) (ha : RRow w r.loc (pcs r.nd.pieces) lo hi) (hb : RRow w s.loc (pcs s.nd.pieces) lo' hi') (hl : r.nd.pieces.length ≤ 1048576) :
    Calls Try.prog 94 #[nv r, nv s] w fun e w' => e = .returned (.bool true) ∧ Below w.heap.size w w' := by
  obtain ⟨n, loc, cap⟩ := r
  obtain ⟨n', loc', cap'⟩ := s
  dsimp only at hn
  subst hn
  obtain ⟨id, parent, name, dir, schema, quota, len, pieces, writer⟩ := n
  dsimp only [nv] at *
  have HP := Shut.mk (fun W (hW : Below w.heap.size w W) => eqPieceS_same loc loc' pieces cap cap' W lo hi lo' hi' (ha.below hW) (hb.below hW) hl)
  generalize pieces.length = np at *
  have HB0 := Shut.mk (show Below w.heap.size w ((w.alloc (.cells #[.int .i64 id, .int .i64 parent, .string name, .bool dir, .int .i64 schema, .int .i64 quota, .int .i64 len, .slice loc np cap, .int .i64 writer] 108)).alloc (.cells #[.int .i64 id, .int .i64 parent, .string name, .bool dir, .int .i64 schema, .int .i64 quota, .int .i64 len, .slice loc' np cap', .int .i64 writer] 108)) from ((Below.refl _ _).alloc (Nat.le_refl _) _).alloc (by simp) _)
  have hst := same_text name
  have hdd : (dir != dir) = false := by cases dir <;> rfl
  have HW1 := Shut.mk (wcells_new w #[.int .i64 id, .int .i64 parent, .string name, .bool dir, .int .i64 schema, .int .i64 quota, .int .i64 len, .slice loc np cap, .int .i64 writer] 108)
  have HW2 := Shut.mk (wcells_new (w.alloc (.cells #[.int .i64 id, .int .i64 parent, .string name, .bool dir, .int .i64 schema, .int .i64 quota, .int .i64 len, .slice loc np cap, .int .i64 writer] 108)) #[.int .i64 id, .int .i64 parent, .string name, .bool dir, .int .i64 schema, .int .i64 quota, .int .i64 len, .slice loc' np cap', .int .i64 writer] 108)
  have hz : (w.alloc (.cells #[.int .i64 id, .int .i64 parent, .string name, .bool dir, .int .i64 schema, .int .i64 quota, .int .i64 len, .slice loc np cap, .int .i64 writer] 108)).heap.size = w.heap.size + 1 := by simp
  rw [hz] at HW2
  replace HW1 := Shut.mk (HW1.out.alloc (.cells #[.int .i64 id, .int .i64 parent, .string name, .bool dir, .int .i64 schema, .int .i64 quota, .int .i64 len, .slice loc' np cap', .int .i64 writer] 108))
  clear ha hb hl hz
  go_enter Try.func94, Try.ntmps94
  go_wp2_with fail
  refine (HP.out _ HB0.out).mono ?_
  rintro e w2 ⟨rfl, hb2⟩
  have a8 := ((HW1.out.grow hb2).2 8 _ rfl).1
  have c8 := ((HW2.out.grow hb2).2 8 _ rfl).1
  have HB2 := Shut.mk (HB0.out.trans (hb2.mono HB0.out.size))
  clear hb2 HW1 HW2 HB0 HP
  go_wp2_with fail
  go_ret
  exact ⟨rfl, HB2.out⟩
set_option maxRecDepth 100000 in
set_option maxHeartbeats 4000000 in
theorem eqInodeS_same (a b : Option Addr) (rs ts : List NR) (ca cb : Nat) (w : World) (lo hi lo' hi' : Nat) (hn : nds rs = nds ts) (ha : TR w a rs lo hi) (hb : TR w b ts lo' hi') (hl : rs.length ≤ 1048576) (hp : ∀ r ∈ rs, r.nd.pieces.length ≤ 1048576) :
    Calls Try.prog 78 #[.slice a rs.length ca, .slice b ts.length cb] w fun e w' => e = .returned (.bool true) ∧ Below w.heap.size w w' := by
  have hlen : ts.length = rs.length := by rw [← nds_len, ← hn, nds_len]
  have HA := Shut.mk (And.intro ha hp)
  have HB := Shut.mk (And.intro hb hn)
  obtain ⟨n, hnn⟩ : ∃ n, n = rs.length := ⟨_, rfl⟩
  have HN := Shut.mk (And.intro hnn hlen)
  rw [hlen, ← hnn]
  rw [← hnn] at hl
  have hne : ((n : Int) != (n : Int)) = false := by simp
  clear ha hb hn hp hlen hnn
  go_enter Try.func78, Try.ntmps78
  go_wp2_with fail
  go_loopw [5] (fun i wr => ∃ (k : Nat), i = .int .i64 k ∧ k ≤ n ∧ Shut (Below w.heap.size w wr)) (fun i _ => n - (intOf i).toNat)
  case atStart => exact ⟨0, rfl, Nat.zero_le _, ⟨Below.refl _ _⟩⟩
  case round =>
    obtain ⟨k, rfl, hk, hbl⟩ := hrel
    by_cases hlt : k < n
    · have hlr : k < rs.length := by have := HN.out.1; omega
      have hlt2 : k < ts.length := by have := HN.out; omega
      obtain ⟨b1, o1, rfl, l1, hc1⟩ := TR.nat (HA.out.1.below hbl.out) (by omega)
      obtain ⟨b2, o2, rfl, l2, hc2⟩ := TR.nat (HB.out.1.below hbl.out) (by omega)
      obtain ⟨d0, d1, d2, d3, d4, d5, d6, d7, d8⟩ := hc1 k hlr
      obtain ⟨e0, e1, e2, e3, e4, e5, e6, e7, e8⟩ := hc2 k hlt2
      have heq : rs[k].nd = ts[k].nd := by
        have h1 : (nds rs)[k]'(by rw [nds_len]; exact hlr) = rs[k].nd := by simp [nds]
        have h2 : (nds ts)[k]'(by rw [nds_len]; exact hlt2) = ts[k].nd := by simp [nds]
        rw [← h1, ← h2]
        simp only [HB.out.2]
      have HQ := Shut.mk (fun W (hW : Below wr.heap.size wr W) => eqInode_same rs[k] ts[k] W lo hi lo' hi' heq (((HA.out.1.below hbl.out).2 rs[k] (List.getElem_mem hlr)).below hW) (((HB.out.1.below hbl.out).2 ts[k] (List.getElem_mem hlt2)).below hW) (HA.out.2 rs[k] (List.getElem_mem hlr)))
      generalize rs[k] = r at *
      generalize ts[k] = s at *
      have k0 : (0 : Int) ≤ (k : Int) := by omega
      have k1 : (k : Int) < (n : Int) := by omega
      clear hc1 hc2 heq
      go_wp2_with fail
      go_region_held3 (fun w' => w'.cell? ⟨b1, o1 + k * 9, none⟩ = some (.int .i64 r.nd.id) ∧ w'.cell? ⟨b1, o1 + k * 9 + 1, none⟩ = some (.int .i64 r.nd.parent) ∧ w'.cell? ⟨b1, o1 + k * 9 + 2, none⟩ = some (.string r.nd.name) ∧ w'.cell? ⟨b1, o1 + k * 9 + 3, none⟩ = some (.bool r.nd.dir) ∧ w'.cell? ⟨b1, o1 + k * 9 + 4, none⟩ = some (.int .i64 r.nd.schema) ∧ w'.cell? ⟨b1, o1 + k * 9 + 5, none⟩ = some (.int .i64 r.nd.quota) ∧ w'.cell? ⟨b1, o1 + k * 9 + 6, none⟩ = some (.int .i64 r.nd.len) ∧ w'.cell? ⟨b1, o1 + k * 9 + 7, none⟩ = some (.slice r.loc r.nd.pieces.length r.cap) ∧ w'.cell? ⟨b1, o1 + k * 9 + 8, none⟩ = some (.int .i64 r.nd.writer) ∧ w'.cell? ⟨b2, o2 + k * 9, none⟩ = some (.int .i64 s.nd.id) ∧ w'.cell? ⟨b2, o2 + k * 9 + 1, none⟩ = some (.int .i64 s.nd.parent) ∧ w'.cell? ⟨b2, o2 + k * 9 + 2, none⟩ = some (.string s.nd.name) ∧ w'.cell? ⟨b2, o2 + k * 9 + 3, none⟩ = some (.bool s.nd.dir) ∧ w'.cell? ⟨b2, o2 + k * 9 + 4, none⟩ = some (.int .i64 s.nd.schema) ∧ w'.cell? ⟨b2, o2 + k * 9 + 5, none⟩ = some (.int .i64 s.nd.quota) ∧ w'.cell? ⟨b2, o2 + k * 9 + 6, none⟩ = some (.int .i64 s.nd.len) ∧ w'.cell? ⟨b2, o2 + k * 9 + 7, none⟩ = some (.slice s.loc s.nd.pieces.length s.cap) ∧ w'.cell? ⟨b2, o2 + k * 9 + 8, none⟩ = some (.int .i64 s.nd.writer))
        (first | go_keep | (refine ⟨?_, ?_, ?_, ?_, ?_, ?_, ?_, ?_, ?_, ?_, ?_, ?_, ?_, ?_, ?_, ?_, ?_, ?_⟩ <;> first | (rw [hb2.cell (by exact l1)]; simp [*]) | (rw [hb2.cell (by exact l2)]; simp [*])))
        ((go_at_call 94; refine (HQ.out _ (by first | exact Below.refl _ _ | exact Below.drew (Below.refl _ _))).mono ?_; rintro e w2 ⟨rfl, hb2⟩))
      all_goals go_wp2_with fail
      all_goals
        have hb3 : Below w.heap.size w w2 := hbl.out.trans ((Below.drew (Below.refl _ _)).trans (hb2.mono hbl.out.size))
        exact ⟨⟨k + 1, by go_num, by omega, ⟨hb3⟩⟩, by simp [intOf]; omega⟩
    · have hlt' : ¬ (k : Int) < (n : Int) := by omega
      go_wp2_with fail
      go_ret
      exact ⟨rfl, hbl.out⟩
set_option maxHeartbeats 1000000 in
theorem eqTree_val {w : World} {v u : Value} {T : TM} {lo hi lo' hi' : Nat} (h : TSee w v T lo hi) (k : TSee w u T lo' hi') (hf : NFit T) : Calls Try.prog 59 #[v, u] w fun e w' => e = .returned (.bool true) ∧ Below w.heap.size w w' := by
  obtain ⟨a, cap, rs, rfl, hr, hm⟩ := h
  obtain ⟨b, cap', ts, rfl, hr', hm'⟩ := k
  have hl : rs.length ≤ 1048576 := by
    have : rs.length = T.nodes.length := by rw [← hr, nds_len]
    unfold NFit at hf; omega
  have hp : ∀ r ∈ rs, r.nd.pieces.length ≤ 1048576 := fun r hx => by
    have := nsum_mem (ns := T.nodes) (n := r.nd) (by rw [← hr]; exact List.mem_map.2 ⟨r, hx, rfl⟩)
    unfold NFit at hf
    omega
  have HS := Shut.mk (fun W (hW : Below w.heap.size w W) => eqInodeS_same a b rs ts cap cap' W lo hi lo' hi' (hr.trans hr'.symm) (hm.below hW) (hm'.below hW) hl hp)
  generalize T.next = nx at *
  generalize rs.length = n at *
  generalize ts.length = m at *
  have HB0 := Shut.mk (show Below w.heap.size w ((w.alloc (.cells #[.slice a n cap, .int .i64 nx] 37)).alloc (.cells #[.slice b m cap', .int .i64 nx] 37)) from ((Below.refl _ _).alloc (Nat.le_refl _) _).alloc (by simp) _)
  have HW1 := Shut.mk ((wcells_new w #[.slice a n cap, .int .i64 nx] 37).alloc (.cells #[.slice b m cap', .int .i64 nx] 37))
  have HW2 := Shut.mk (wcells_new (w.alloc (.cells #[.slice a n cap, .int .i64 nx] 37)) #[.slice b m cap', .int .i64 nx] 37)
  have hz : (w.alloc (.cells #[.slice a n cap, .int .i64 nx] 37)).heap.size = w.heap.size + 1 := by simp
  rw [hz] at HW2
  clear hz hm hm' hr hr' hl hp hf
  go_enter Try.func59, Try.ntmps59
  go_wp2_with fail
  refine (HS.out _ HB0.out).mono ?_
  rintro e w2 ⟨rfl, hb2⟩
  have a1 := ((HW1.out.grow hb2).2 1 _ rfl).1
  have c1 := ((HW2.out.grow hb2).2 1 _ rfl).1
  have HB2 := Shut.mk (HB0.out.trans (hb2.mono HB0.out.size))
  clear hb2 HW1 HW2 HB0 HS
  go_wp2_with fail
  go_ret
  exact ⟨rfl, HB2.out⟩
end Go.Proofs.Ytendbipfmgnjkaa
/- TreB: Trees that came in: how much there is in one. -/
namespace Go.Proofs.Ytendbipfmgnjkaa
set_option maxRecDepth 100000
open Go.RowKit
attribute [local go_sem ↓] Go.wp_at_zero Go.wp_at_succ

/-- What a measure answers. -/
def SzT (left : Int) (n : Nat) (w : World) (e : Ending) (w' : World) : Prop := ∃ r : Int, e = .returned (.int .i64 r) ∧ -1 ≤ r ∧ (0 ≤ r → r + n = left) ∧ Below w.heap.size w w'
/-- Numbers of nodes are numbers of the machine. -/
def NInt (ns : List NM) : Prop := ∀ n ∈ ns, (Lit.int .i64 n.id).wf = true ∧ (Lit.int .i64 n.parent).wf = true
/-- Nodes whose texts and rows a machine can count. -/
def NOk (ns : List NM) : Prop := ns.length ≤ 9223372036854775807 ∧ ∀ n ∈ ns, n.name.size ≤ 9223372036854775807 ∧ n.pieces.length ≤ 9223372036854775807
end Go.Proofs.Ytendbipfmgnjkaa
/- DiskA: Rows of files, as the model holds them: their sizes, their copies, their comparison. -/
namespace Go.Proofs.Ytendbipfmgnjkaa
set_option maxRecDepth 100000
open Go.RowKit
attribute [local go_sem ↓] Go.wp_at_zero Go.wp_at_succ

/-- A file. -/
structure FM where
  name : ByteArray
  text : ByteArray
  kept : Int
instance : Inhabited FM := ⟨⟨⟨#[]⟩, ⟨#[]⟩, 0⟩⟩
abbrev fv (f : FM) : Value := .agg #[.string f.name, .string f.text, .int .i64 f.kept]
def fcells (f : FM) : List Value := [.string f.name, .string f.text, .int .i64 f.kept]
theorem fcells_len (f : FM) : (fcells f).length = 3 := rfl
def fcs (fs : List FM) : List Value := fs.flatMap fcells
theorem fcs_len (fs : List FM) : (fcs fs).length = fs.length * 3 := flat_len fcells_len fs
/-- A row of files in memory. -/
abbrev FRow (w : World) (a : Option Addr) (fs : List FM) : Prop := CRow w a (fcs fs)
theorem FRow.at {w : World} {a : Option Addr} {fs : List FM} (h : FRow w a fs) (hp : 0 < fs.length) :
    ∃ b off, a = some ⟨b, off, none⟩ ∧ b < w.heap.size ∧ ∀ j (h : j < fs.length), w.cell? ⟨b, off + j * 3, none⟩ = some (.string fs[j].name) ∧ w.cell? ⟨b, off + j * 3 + 1, none⟩ = some (.string fs[j].text) ∧ w.cell? ⟨b, off + j * 3 + 2, none⟩ = some (.int .i64 fs[j].kept) := by
  obtain ⟨b, off, e, hb, hc⟩ := h (by rw [fcs_len]; omega)
  exact ⟨b, off, e, hb, fun j hj => ⟨hc (j * 3) _ (flat_get fcells_len fs j hj 0 (by omega)), hc (j * 3 + 1) _ (flat_get fcells_len fs j hj 1 (by omega)), hc (j * 3 + 2) _ (flat_get fcells_len fs j hj 2 (by omega))⟩⟩
/-- What is in the files: their texts fit a machine. -/
def FFit (fs : List FM) : Prop := fs.length ≤ 9223372036854775807 ∧ ∀ f ∈ fs, f.name.size ≤ 9223372036854775807 ∧ f.text.size ≤ 9223372036854775807 ∧ -9223372036854775808 ≤ f.kept ∧ f.kept ≤ 9223372036854775807
/-- How many bytes they have. -/
def fsum : List FM → Nat
  | [] => 0
  | f :: fs => f.name.size + f.text.size + fsum fs
theorem fsum_take (fs : List FM) (k : Nat) (h : k < fs.length) : fsum (fs.take (k + 1)) = fsum (fs.take k) + (fs[k].name.size + fs[k].text.size) := by
  induction fs generalizing k with
  | nil => simp at h
  | cons f fs ih =>
    cases k with
    | zero => simp [fsum]
    | succ k =>
      have := ih k (by simpa using h)
      simp only [List.take_succ_cons, fsum, List.getElem_cons_succ]
      omega

def SzPost (left : Int) (n : Nat) (w : World) (e : Ending) (w' : World) : Prop := ∃ r : Int, e = .returned (.int .i64 r) ∧ -1 ≤ r ∧ (0 ≤ r → r + n = left) ∧ Below w.heap.size w w'
/-- A copy of the files, in a block of its own. -/
def ToPost (fs : List FM) (w : World) (e : Ending) (w' : World) : Prop := ∃ g, e = .returned (.slice (some ⟨g, 0, none⟩) fs.length fs.length) ∧ w.heap.size ≤ g ∧ WCells w' g (fcs fs) ∧ Below w.heap.size w w'
theorem infoFile : (Try.prog.info? 129).map (fun i => (i.zero, i.size, i.bytes)) = some (some (.agg #[.string ⟨#[]⟩, .string ⟨#[]⟩, .int .i64 0]), 3, 40) := by kernel_rfl
def ToPostD (fs : List FM) (w : World) (e : Ending) (w' : World) : Prop := ∃ g, e = .returned (.agg #[.slice (some ⟨g, 0, none⟩) fs.length fs.length]) ∧ w.heap.size ≤ g ∧ WCells w' g (fcs fs) ∧ Below w.heap.size w w'
end Go.Proofs.Ytendbipfmgnjkaa
