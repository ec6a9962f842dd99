/- Rows of Units in the laws: their sizes, their copies, two that are the same (written by gen/mkrow.py). -/
import Derived.Test.YtendbipfmgnjkaaRowsG
import Derived.PlainAid
import Derived.OwnWalk
import Derived.Deep.RegionHeld3
import Derived.Deep.DrawnRows
namespace Go.Proofs.Ytendbipfmgnjkaa
set_option maxRecDepth 100000
open Go.RowKit
attribute [local go_sem ↓] Go.wp_at_zero Go.wp_at_succ

structure UnM where
  group : Int
  index : Int
  text : ByteArray
  sum : Int
instance : Inhabited UnM := ⟨⟨0, 0, ⟨#[]⟩, 0⟩⟩
abbrev unv (f : UnM) : Value := .agg #[.int .i64 f.group, .int .i64 f.index, .string f.text, .int .i64 f.sum]
def unC (f : UnM) : List Value := [.int .i64 f.group, .int .i64 f.index, .string f.text, .int .i64 f.sum]
theorem unC_len (f : UnM) : (unC f).length = 4 := rfl
def unS (fs : List UnM) : List Value := fs.flatMap unC
theorem unS_len (fs : List UnM) : (unS fs).length = fs.length * 4 := flat_len unC_len fs
/-- A row in memory. -/
abbrev UnRow (w : World) (a : Option Addr) (fs : List UnM) : Prop := CRow w a (unS fs)
theorem UnRow.at {w : World} {a : Option Addr} {fs : List UnM} (h : UnRow w a fs) (hp : 0 < fs.length) :
    ∃ b off, a = some ⟨b, off, none⟩ ∧ b < w.heap.size ∧ ∀ j (h : j < fs.length), w.cell? ⟨b, off + j * 4, none⟩ = some (.int .i64 fs[j].group) ∧ w.cell? ⟨b, off + j * 4 + 1, none⟩ = some (.int .i64 fs[j].index) ∧ w.cell? ⟨b, off + j * 4 + 2, none⟩ = some (.string fs[j].text) ∧ w.cell? ⟨b, off + j * 4 + 3, none⟩ = some (.int .i64 fs[j].sum) := by
  obtain ⟨b, off, e, hb, hc⟩ := h (by rw [unS_len]; omega)
  exact ⟨b, off, e, hb, fun j hj => ⟨hc (j * 4) _ (flat_get unC_len fs j hj 0 (by omega)), hc (j * 4 + 1) _ (flat_get unC_len fs j hj 1 (by omega)), hc (j * 4 + 2) _ (flat_get unC_len fs j hj 2 (by omega)), hc (j * 4 + 3) _ (flat_get unC_len fs j hj 3 (by omega))⟩⟩
def UnFit (f : UnM) : Prop := f.text.size ≤ 9223372036854775807 ∧ (-9223372036854775808 ≤ f.group ∧ f.group ≤ 9223372036854775807) ∧ (-9223372036854775808 ≤ f.index ∧ f.index ≤ 9223372036854775807) ∧ (-9223372036854775808 ≤ f.sum ∧ f.sum ≤ 9223372036854775807)
def UnFits (fs : List UnM) : Prop := fs.length ≤ 9223372036854775807 ∧ ∀ f ∈ fs, UnFit f
def unSum : List UnM → Nat
  | [] => 0
  | f :: fs => f.text.size + unSum fs
theorem unSum_take (fs : List UnM) (k : Nat) (h : k < fs.length) : unSum (fs.take (k + 1)) = unSum (fs.take k) + (fs[k].text.size) := by
  induction fs generalizing k with
  | nil => simp at h
  | cons f fs ih =>
    cases k with
    | zero => simp [unSum]
    | succ k =>
      have := ih k (by simpa using h)
      simp only [List.take_succ_cons, unSum, List.getElem_cons_succ]
      omega
theorem unSum_mem {fs : List UnM} {f : UnM} (h : f ∈ fs) : f.text.size ≤ unSum fs := by
  induction fs with
  | nil => cases h
  | cons g fs ih =>
    rcases List.mem_cons.1 h with rfl | q
    · simp only [unSum]; omega
    · have := ih q
      simp only [unSum]; omega
def SzPostUn (left : Int) (n : Nat) (w : World) (e : Ending) (w' : World) : Prop := ∃ r : Int, e = .returned (.int .i64 r) ∧ -1 ≤ r ∧ (0 ≤ r → r + n = left) ∧ Below w.heap.size w w'
/-- A copy, in a block of its own. -/
def ToPostUn (fs : List UnM) (w : World) (e : Ending) (w' : World) : Prop := ∃ g, e = .returned (.slice (some ⟨g, 0, none⟩) fs.length fs.length) ∧ w.heap.size ≤ g ∧ WCells w' g (unS fs) ∧ Below w.heap.size w w'
theorem infoUnit : (Try.prog.info? 118).map (fun i => (i.zero, i.size, i.bytes)) = some (some (.agg #[.int .i64 0, .int .i64 0, .string ⟨#[]⟩, .int .i64 0]), 4, 40) := by kernel_rfl
theorem eqUnit_same (f : UnM) (w : World) :
    Calls Try.prog 96 #[unv f, unv f] w fun e w' => e = .returned (.bool true) ∧ Below w.heap.size w w' := by
  go_enter Try.func96, Try.ntmps96
  go_wp2_with fail
  go_ret
  exact ⟨rfl, ((Below.refl _ _).alloc (Nat.le_refl _) _).alloc (by simp) _⟩
set_option maxHeartbeats 1000000 in
theorem eqUnitS_same (a b : Option Addr) (fs : List UnM) (ca cb : Nat) (w : World) (ha : UnRow w a fs) (hb : UnRow w b fs) (hl : fs.length ≤ 9000000) :
    Calls Try.prog 81 #[.slice a fs.length ca, .slice b fs.length cb] w fun e w' => e = .returned (.bool true) ∧ Below w.heap.size w w' := by
  have HA : Hid (UnRow w a fs) := ha
  have HB : Hid (UnRow w b fs) := hb
  clear ha hb
  go_enter Try.func81, Try.ntmps81
  go_wp2_with fail
  go_loopw [5] (fun i wr => ∃ (k : Nat), i = .int .i64 k ∧ k ≤ fs.length ∧ Below w.heap.size w wr) (fun i _ => fs.length - (intOf i).toNat)
  case atStart => exact ⟨0, rfl, Nat.zero_le _, Below.refl _ _⟩
  case round =>
    obtain ⟨k, rfl, hk, hbl⟩ := hrel
    by_cases hlt : k < fs.length
    · obtain ⟨b1, o1, rfl, l1, hc1⟩ := UnRow.at (HA.out.stays hbl) (by omega)
      obtain ⟨b2, o2, rfl, l2, hc2⟩ := UnRow.at (HB.out.stays hbl) (by omega)
      obtain ⟨d0, d1, d2, d3⟩ := hc1 k hlt
      obtain ⟨e0, e1, e2, e3⟩ := hc2 k hlt
      obtain ⟨f, hfe⟩ : ∃ f, f = fs[k] := ⟨_, rfl⟩
      rw [← hfe] at d0 d1 d2 d3 e0 e1 e2 e3
      have HS : Hid (Below w.heap.size w wr) := hbl
      have k0 : (0 : Int) ≤ (k : Int) := by omega
      have k1 : (k : Int) < (fs.length : Int) := by omega
      clear hc1 hc2 hfe hbl
      go_wp2_with fail
      go_region_held3 (fun w' => w'.cell? ⟨b1, o1 + k * 4, none⟩ = some (.int .i64 f.group) ∧ w'.cell? ⟨b1, o1 + k * 4 + 1, none⟩ = some (.int .i64 f.index) ∧ w'.cell? ⟨b1, o1 + k * 4 + 2, none⟩ = some (.string f.text) ∧ w'.cell? ⟨b1, o1 + k * 4 + 3, none⟩ = some (.int .i64 f.sum) ∧ w'.cell? ⟨b2, o2 + k * 4, none⟩ = some (.int .i64 f.group) ∧ w'.cell? ⟨b2, o2 + k * 4 + 1, none⟩ = some (.int .i64 f.index) ∧ w'.cell? ⟨b2, o2 + k * 4 + 2, none⟩ = some (.string f.text) ∧ w'.cell? ⟨b2, o2 + k * 4 + 3, none⟩ = some (.int .i64 f.sum))
        (first | go_keep | (refine ⟨?_, ?_, ?_, ?_, ?_, ?_, ?_, ?_⟩ <;> first | (rw [hb2.cell (by exact l1)]; simp [*]) | (rw [hb2.cell (by exact l2)]; simp [*])))
        ((go_at_call 96; refine (eqUnit_same f _).mono ?_; rintro e w2 ⟨rfl, hb2⟩))
      all_goals go_wp2_with fail
      all_goals
        have hb3 : Below w.heap.size w w2 := HS.out.trans ((Below.drew (Below.refl _ _)).trans (hb2.mono HS.out.size))
        exact ⟨⟨k + 1, by go_num, by omega, hb3⟩, by simp [intOf]; omega⟩
    · have e : k = fs.length := by omega
      subst e
      go_wp2_with fail
      go_ret
      exact ⟨rfl, hbl⟩
end Go.Proofs.Ytendbipfmgnjkaa
