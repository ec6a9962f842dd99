/- Rows of Leases in the laws: their sizes, their copies, two that are the same (written by gen/mkrow.py). -/
import Derived.Test.YtendbipfmgnjkaaRowsG
import Derived.PlainAid
import Derived.OwnWalk
import Derived.Deep.RegionHeld3
import Derived.Deep.DrawnRows
namespace Go.Proofs.Ytendbipfmgnjkaa
set_option maxRecDepth 100000
open Go.RowKit
attribute [local go_sem ↓] Go.wp_at_zero Go.wp_at_succ

structure LsM where
  path : ByteArray
  who : Int
  seen : Int
instance : Inhabited LsM := ⟨⟨⟨#[]⟩, 0, 0⟩⟩
abbrev lsv (f : LsM) : Value := .agg #[.string f.path, .int .i64 f.who, .int .i64 f.seen]
def lsC (f : LsM) : List Value := [.string f.path, .int .i64 f.who, .int .i64 f.seen]
theorem lsC_len (f : LsM) : (lsC f).length = 3 := rfl
def lsS (fs : List LsM) : List Value := fs.flatMap lsC
theorem lsS_len (fs : List LsM) : (lsS fs).length = fs.length * 3 := flat_len lsC_len fs
/-- A row in memory. -/
abbrev LsRow (w : World) (a : Option Addr) (fs : List LsM) : Prop := CRow w a (lsS fs)
theorem LsRow.at {w : World} {a : Option Addr} {fs : List LsM} (h : LsRow w a fs) (hp : 0 < fs.length) :
    ∃ b off, a = some ⟨b, off, none⟩ ∧ b < w.heap.size ∧ ∀ j (h : j < fs.length), w.cell? ⟨b, off + j * 3, none⟩ = some (.string fs[j].path) ∧ w.cell? ⟨b, off + j * 3 + 1, none⟩ = some (.int .i64 fs[j].who) ∧ w.cell? ⟨b, off + j * 3 + 2, none⟩ = some (.int .i64 fs[j].seen) := by
  obtain ⟨b, off, e, hb, hc⟩ := h (by rw [lsS_len]; omega)
  exact ⟨b, off, e, hb, fun j hj => ⟨hc (j * 3) _ (flat_get lsC_len fs j hj 0 (by omega)), hc (j * 3 + 1) _ (flat_get lsC_len fs j hj 1 (by omega)), hc (j * 3 + 2) _ (flat_get lsC_len fs j hj 2 (by omega))⟩⟩
def LsFit (f : LsM) : Prop := f.path.size ≤ 9223372036854775807 ∧ (-9223372036854775808 ≤ f.who ∧ f.who ≤ 9223372036854775807) ∧ (-9223372036854775808 ≤ f.seen ∧ f.seen ≤ 9223372036854775807)
def LsFits (fs : List LsM) : Prop := fs.length ≤ 9223372036854775807 ∧ ∀ f ∈ fs, LsFit f
def lsSum : List LsM → Nat
  | [] => 0
  | f :: fs => f.path.size + lsSum fs
theorem lsSum_take (fs : List LsM) (k : Nat) (h : k < fs.length) : lsSum (fs.take (k + 1)) = lsSum (fs.take k) + (fs[k].path.size) := by
  induction fs generalizing k with
  | nil => simp at h
  | cons f fs ih =>
    cases k with
    | zero => simp [lsSum]
    | succ k =>
      have := ih k (by simpa using h)
      simp only [List.take_succ_cons, lsSum, List.getElem_cons_succ]
      omega
theorem lsSum_mem {fs : List LsM} {f : LsM} (h : f ∈ fs) : f.path.size ≤ lsSum fs := by
  induction fs with
  | nil => cases h
  | cons g fs ih =>
    rcases List.mem_cons.1 h with rfl | q
    · simp only [lsSum]; omega
    · have := ih q
      simp only [lsSum]; omega
def SzPostLs (left : Int) (n : Nat) (w : World) (e : Ending) (w' : World) : Prop := ∃ r : Int, e = .returned (.int .i64 r) ∧ -1 ≤ r ∧ (0 ≤ r → r + n = left) ∧ Below w.heap.size w w'
/-- A copy, in a block of its own. -/
def ToPostLs (fs : List LsM) (w : World) (e : Ending) (w' : World) : Prop := ∃ g, e = .returned (.slice (some ⟨g, 0, none⟩) fs.length fs.length) ∧ w.heap.size ≤ g ∧ WCells w' g (lsS fs) ∧ Below w.heap.size w w'
theorem infoLease : (Try.prog.info? 113).map (fun i => (i.zero, i.size, i.bytes)) = some (some (.agg #[.string ⟨#[]⟩, .int .i64 0, .int .i64 0]), 3, 32) := by kernel_rfl
theorem eqLease_same (f : LsM) (w : World) :
    Calls Try.prog 80 #[lsv f, lsv f] w fun e w' => e = .returned (.bool true) ∧ Below w.heap.size w w' := by
  go_enter Try.func80, Try.ntmps80
  go_wp2_with fail
  go_ret
  exact ⟨rfl, ((Below.refl _ _).alloc (Nat.le_refl _) _).alloc (by simp) _⟩
set_option maxHeartbeats 1000000 in
theorem eqLeaseS_same (a b : Option Addr) (fs : List LsM) (ca cb : Nat) (w : World) (ha : LsRow w a fs) (hb : LsRow w b fs) (hl : fs.length ≤ 9000000) :
    Calls Try.prog 61 #[.slice a fs.length ca, .slice b fs.length cb] w fun e w' => e = .returned (.bool true) ∧ Below w.heap.size w w' := by
  have HA : Hid (LsRow w a fs) := ha
  have HB : Hid (LsRow w b fs) := hb
  clear ha hb
  go_enter Try.func61, Try.ntmps61
  go_wp2_with fail
  go_loopw [5] (fun i wr => ∃ (k : Nat), i = .int .i64 k ∧ k ≤ fs.length ∧ Below w.heap.size w wr) (fun i _ => fs.length - (intOf i).toNat)
  case atStart => exact ⟨0, rfl, Nat.zero_le _, Below.refl _ _⟩
  case round =>
    obtain ⟨k, rfl, hk, hbl⟩ := hrel
    by_cases hlt : k < fs.length
    · obtain ⟨b1, o1, rfl, l1, hc1⟩ := LsRow.at (HA.out.stays hbl) (by omega)
      obtain ⟨b2, o2, rfl, l2, hc2⟩ := LsRow.at (HB.out.stays hbl) (by omega)
      obtain ⟨d0, d1, d2⟩ := hc1 k hlt
      obtain ⟨e0, e1, e2⟩ := hc2 k hlt
      obtain ⟨f, hfe⟩ : ∃ f, f = fs[k] := ⟨_, rfl⟩
      rw [← hfe] at d0 d1 d2 e0 e1 e2
      have HS : Hid (Below w.heap.size w wr) := hbl
      have k0 : (0 : Int) ≤ (k : Int) := by omega
      have k1 : (k : Int) < (fs.length : Int) := by omega
      clear hc1 hc2 hfe hbl
      go_wp2_with fail
      go_region_held3 (fun w' => w'.cell? ⟨b1, o1 + k * 3, none⟩ = some (.string f.path) ∧ w'.cell? ⟨b1, o1 + k * 3 + 1, none⟩ = some (.int .i64 f.who) ∧ w'.cell? ⟨b1, o1 + k * 3 + 2, none⟩ = some (.int .i64 f.seen) ∧ w'.cell? ⟨b2, o2 + k * 3, none⟩ = some (.string f.path) ∧ w'.cell? ⟨b2, o2 + k * 3 + 1, none⟩ = some (.int .i64 f.who) ∧ w'.cell? ⟨b2, o2 + k * 3 + 2, none⟩ = some (.int .i64 f.seen))
        (first | go_keep | (refine ⟨?_, ?_, ?_, ?_, ?_, ?_⟩ <;> first | (rw [hb2.cell (by exact l1)]; simp [*]) | (rw [hb2.cell (by exact l2)]; simp [*])))
        ((go_at_call 80; refine (eqLease_same f _).mono ?_; rintro e w2 ⟨rfl, hb2⟩))
      all_goals go_wp2_with fail
      all_goals
        have hb3 : Below w.heap.size w w2 := HS.out.trans ((Below.drew (Below.refl _ _)).trans (hb2.mono HS.out.size))
        exact ⟨⟨k + 1, by go_num, by omega, hb3⟩, by simp [intOf]; omega⟩
    · have e : k = fs.length := by omega
      subst e
      go_wp2_with fail
      go_ret
      exact ⟨rfl, hbl⟩
end Go.Proofs.Ytendbipfmgnjkaa
