/- Rows of Asks in the laws: their sizes, their copies, two that are the same (written by gen/mkrow.py). -/
import Derived.Test.YtendbipfmgnjkaaRowsG
import Derived.PlainAid
import Derived.OwnWalk
import Derived.Deep.RegionHeld3
import Derived.Deep.DrawnRows
namespace Go.Proofs.Ytendbipfmgnjkaa
set_option maxRecDepth 100000
open Go.RowKit
attribute [local go_sem ↓] Go.wp_at_zero Go.wp_at_succ

structure AkM where
  kind : Int
  who : Int
  path : ByteArray
  dest : ByteArray
  text : ByteArray
  num : Int
instance : Inhabited AkM := ⟨⟨0, 0, ⟨#[]⟩, ⟨#[]⟩, ⟨#[]⟩, 0⟩⟩
abbrev akv (f : AkM) : Value := .agg #[.int .i64 f.kind, .int .i64 f.who, .string f.path, .string f.dest, .string f.text, .int .i64 f.num]
def akC (f : AkM) : List Value := [.int .i64 f.kind, .int .i64 f.who, .string f.path, .string f.dest, .string f.text, .int .i64 f.num]
theorem akC_len (f : AkM) : (akC f).length = 6 := rfl
def akS (fs : List AkM) : List Value := fs.flatMap akC
theorem akS_len (fs : List AkM) : (akS fs).length = fs.length * 6 := flat_len akC_len fs
/-- A row in memory. -/
abbrev AkRow (w : World) (a : Option Addr) (fs : List AkM) : Prop := CRow w a (akS fs)
theorem AkRow.at {w : World} {a : Option Addr} {fs : List AkM} (h : AkRow w a fs) (hp : 0 < fs.length) :
    ∃ b off, a = some ⟨b, off, none⟩ ∧ b < w.heap.size ∧ ∀ j (h : j < fs.length), w.cell? ⟨b, off + j * 6, none⟩ = some (.int .i64 fs[j].kind) ∧ w.cell? ⟨b, off + j * 6 + 1, none⟩ = some (.int .i64 fs[j].who) ∧ w.cell? ⟨b, off + j * 6 + 2, none⟩ = some (.string fs[j].path) ∧ w.cell? ⟨b, off + j * 6 + 3, none⟩ = some (.string fs[j].dest) ∧ w.cell? ⟨b, off + j * 6 + 4, none⟩ = some (.string fs[j].text) ∧ w.cell? ⟨b, off + j * 6 + 5, none⟩ = some (.int .i64 fs[j].num) := by
  obtain ⟨b, off, e, hb, hc⟩ := h (by rw [akS_len]; omega)
  exact ⟨b, off, e, hb, fun j hj => ⟨hc (j * 6) _ (flat_get akC_len fs j hj 0 (by omega)), hc (j * 6 + 1) _ (flat_get akC_len fs j hj 1 (by omega)), hc (j * 6 + 2) _ (flat_get akC_len fs j hj 2 (by omega)), hc (j * 6 + 3) _ (flat_get akC_len fs j hj 3 (by omega)), hc (j * 6 + 4) _ (flat_get akC_len fs j hj 4 (by omega)), hc (j * 6 + 5) _ (flat_get akC_len fs j hj 5 (by omega))⟩⟩
def AkFit (f : AkM) : Prop := f.path.size ≤ 9223372036854775807 ∧ f.dest.size ≤ 9223372036854775807 ∧ f.text.size ≤ 9223372036854775807 ∧ (-9223372036854775808 ≤ f.kind ∧ f.kind ≤ 9223372036854775807) ∧ (-9223372036854775808 ≤ f.who ∧ f.who ≤ 9223372036854775807) ∧ (-9223372036854775808 ≤ f.num ∧ f.num ≤ 9223372036854775807)
def AkFits (fs : List AkM) : Prop := fs.length ≤ 9223372036854775807 ∧ ∀ f ∈ fs, AkFit f
def akSum : List AkM → Nat
  | [] => 0
  | f :: fs => f.path.size + f.dest.size + f.text.size + akSum fs
theorem akSum_take (fs : List AkM) (k : Nat) (h : k < fs.length) : akSum (fs.take (k + 1)) = akSum (fs.take k) + (fs[k].path.size + fs[k].dest.size + fs[k].text.size) := by
  induction fs generalizing k with
  | nil => simp at h
  | cons f fs ih =>
    cases k with
    | zero => simp [akSum]
    | succ k =>
      have := ih k (by simpa using h)
      simp only [List.take_succ_cons, akSum, List.getElem_cons_succ]
      omega
theorem akSum_mem {fs : List AkM} {f : AkM} (h : f ∈ fs) : f.path.size + f.dest.size + f.text.size ≤ akSum fs := by
  induction fs with
  | nil => cases h
  | cons g fs ih =>
    rcases List.mem_cons.1 h with rfl | q
    · simp only [akSum]; omega
    · have := ih q
      simp only [akSum]; omega
def SzPostAk (left : Int) (n : Nat) (w : World) (e : Ending) (w' : World) : Prop := ∃ r : Int, e = .returned (.int .i64 r) ∧ -1 ≤ r ∧ (0 ≤ r → r + n = left) ∧ Below w.heap.size w w'
set_option maxHeartbeats 400000 in
theorem szAsk_any (f : AkM) (left : Int) (w : World) (h0 : 0 ≤ left) (h1 : left ≤ 1048576) (hf : AkFit f) :
    Calls Try.prog 22 #[akv f, .int .i64 left] w fun e w' => SzPostAk left (f.path.size + f.dest.size + f.text.size) w e w' := by
  have hh := hf
  unfold AkFit at hh
  clear hf
  by_cases c_path : left - f.path.size < 0
  · go_enter Try.func22, Try.ntmps22
    go_wp2_with fail
    go_ret
    exact ⟨-1, rfl, by omega, by first | omega | (intro _; push_cast; omega), (Below.refl _ _).alloc (Nat.le_refl _) _⟩
  · skip
    by_cases c_dest : left - f.path.size - f.dest.size < 0
    · go_enter Try.func22, Try.ntmps22
      go_wp2_with fail
      go_ret
      exact ⟨-1, rfl, by omega, by first | omega | (intro _; push_cast; omega), (Below.refl _ _).alloc (Nat.le_refl _) _⟩
    · skip
      by_cases c_text : left - f.path.size - f.dest.size - f.text.size < 0
      · go_enter Try.func22, Try.ntmps22
        go_wp2_with fail
        go_ret
        exact ⟨-1, rfl, by omega, by first | omega | (intro _; push_cast; omega), (Below.refl _ _).alloc (Nat.le_refl _) _⟩
      · skip
        go_enter Try.func22, Try.ntmps22
        go_wp2_with fail
        go_ret
        exact ⟨left - f.path.size - f.dest.size - f.text.size, rfl, by omega, by first | omega | (intro _; push_cast; omega), (Below.refl _ _).alloc (Nat.le_refl _) _⟩
theorem toAsk_any (f : AkM) (w : World) :
    Calls Try.prog 26 #[akv f] w fun e w' => e = .returned (akv f) ∧ Below w.heap.size w w' := by
  go_enter Try.func26, Try.ntmps26
  go_wp2_with fail
  refine bodyPost_ret (v := akv f) (by simp [results, Try.results26, go_sem]) rfl ⟨rfl, ?_⟩
  exact (((Below.refl _ _).alloc (Nat.le_refl _) _).alloc (by simp) _).alloc (by simp; omega) _
/-- A copy, in a block of its own. -/
def ToPostAk (fs : List AkM) (w : World) (e : Ending) (w' : World) : Prop := ∃ g, e = .returned (.slice (some ⟨g, 0, none⟩) fs.length fs.length) ∧ w.heap.size ≤ g ∧ WCells w' g (akS fs) ∧ Below w.heap.size w w'
theorem infoAsk : (Try.prog.info? 29).map (fun i => (i.zero, i.size, i.bytes)) = some (some (.agg #[.int .i64 0, .int .i64 0, .string ⟨#[]⟩, .string ⟨#[]⟩, .string ⟨#[]⟩, .int .i64 0]), 6, 72) := by kernel_rfl
theorem eqAsk_same (f : AkM) (w : World) :
    Calls Try.prog 29 #[akv f, akv f] w fun e w' => e = .returned (.bool true) ∧ Below w.heap.size w w' := by
  go_enter Try.func29, Try.ntmps29
  go_wp2_with fail
  go_ret
  exact ⟨rfl, ((Below.refl _ _).alloc (Nat.le_refl _) _).alloc (by simp) _⟩
end Go.Proofs.Ytendbipfmgnjkaa
