/- The model's walks that look for a file, and whether all is kept. -/
import Derived.Test.YtonffkdlnhjjfaaDiskC
namespace Go.Proofs.Ytonffkdlnhjjfaa
open Go.RowKit
attribute [local go_sem ↓] Go.wp_at_zero Go.wp_at_succ

theorem str_ne {a b : ByteArray} (h : a ≠ b) : (a.toList == b.toList) = false := by
  rw [ByteArray.toList_eq, ByteArray.toList_eq, beq_eq_false_iff_ne]
  exact fun e => h (ByteArray.ext (Array.toList_inj.1 e))
/-- Where the file of a name is: its place, or -1. -/
def AtR (fs : List FM) (n : ByteArray) (r : Int) : Prop :=
  (r = -1 ∧ ∀ f ∈ fs, f.name ≠ n) ∨ ∃ k : Nat, r = (k : Int) ∧ k < fs.length ∧ (fs.getD k default).name = n ∧ ∀ j, j < k → (fs.getD j default).name ≠ n
def AtPost (fs : List FM) (n : ByteArray) (w : World) (e : Ending) (w' : World) : Prop := ∃ r : Int, e = .returned (.int .i64 r) ∧ AtR fs n r ∧ Below w.heap.size w w'
set_option maxHeartbeats 1000000 in
theorem l03At_any (a : Option Addr) (fs : List FM) (cap : Nat) (n : ByteArray) (w : World) (hr : FRow w a fs) (hl : fs.length ≤ 1048576) :
    Calls Try.prog 55 #[.agg #[.slice a fs.length cap], .string n] w fun e w' => AtPost fs n w e w' := by
  have HR : Hid (FRow w a fs) := hr
  have HX : Hid (WCells (w.alloc (.cells #[.slice a fs.length cap] 26)) w.heap.size [.slice a fs.length cap]) := wcells_new w #[.slice a fs.length cap] 26
  have HB0 : Hid (Below w.heap.size w (w.alloc (.cells #[.slice a fs.length cap] 26))) := (Below.refl _ _).alloc (Nat.le_refl _) _
  clear hr
  go_enter Try.func55, Try.ntmps55
  go_wp2_with fail
  go_loopw [5] (fun i wr => ∃ (k : Nat), i = .int .i64 k ∧ k ≤ fs.length ∧ (∀ j, j < k → (fs.getD j default).name ≠ n) ∧ WCells wr w.heap.size [.slice a fs.length cap] ∧ Below w.heap.size w wr) (fun i _ => fs.length - (intOf i).toNat)
  case atStart => exact ⟨0, rfl, Nat.zero_le _, fun j hj => by omega, HX.out, HB0.out⟩
  case round =>
    obtain ⟨k, rfl, hk, hno, hx, hb⟩ := hrel
    have HN : Hid (∀ j, j < k → (fs.getD j default).name ≠ n) := hno
    have x0 := (hx.2 0 _ rfl).1
    have HXX : Hid (WCells wr w.heap.size [.slice a fs.length cap]) := hx
    have HB : Hid (Below w.heap.size w wr) := hb
    clear hno hx
    by_cases hlt : k < fs.length
    · obtain ⟨b, off, rfl, lb, hc⟩ := FRow.at (HR.out.stays hb) (by omega)
      obtain ⟨d0, _, _⟩ := hc k hlt
      obtain ⟨f, hfe⟩ : ∃ f, f = fs[k] := ⟨_, rfl⟩
      rw [← hfe] at d0
      have HFE : Hid (fs.getD k default = f) := (getD_at fs k hlt).trans hfe.symm
      have k0 : (0 : Int) ≤ (k : Int) := by omega
      have k1 : (k : Int) < (fs.length : Int) := by omega
      clear hfe hb hc
      by_cases hn : f.name = n
      · have HNE : Hid (f.name = n) := hn
        have hq : (f.name.toList == n.toList) = true := by rw [hn]; simp
        clear hn
        go_wp2_with fail
        go_ret
        exact ⟨k, rfl, .inr ⟨k, rfl, hlt, by rw [HFE.out]; exact HNE.out, HN.out⟩, HB.out⟩
      · have hq := str_ne hn
        have HNE : Hid (f.name ≠ n) := hn
        clear hn
        go_wp2_with fail
        go_roundw
        case rel => exact ⟨k + 1, by go_num, by omega, fun j hj => by rcases Nat.lt_succ_iff_lt_or_eq.1 hj with h | h; exact HN.out j h; subst h; rw [HFE.out]; exact HNE.out, HXX.out, HB.out⟩
        case measure => simp [intOf]; omega
    · have e : k = fs.length := by omega
      subst e
      clear hb
      go_wp2_with fail
      go_ret
      refine ⟨-1, rfl, .inl ⟨rfl, fun f hf => ?_⟩, HB.out⟩
      obtain ⟨j, hj, rfl⟩ := List.getElem_of_mem hf
      rw [← getD_at fs j hj]
      exact HN.out j hj

/-- What FileAt answers. -/
def fileV (fs : List FM) (n : ByteArray) : Value :=
  match fs.find? (fun f => decide (f.name = n)) with
  | none => .tuple #[.string ⟨#[]⟩, .bool false]
  | some f => .tuple #[.string f.text, .bool true]
theorem fileV_none {fs : List FM} {n : ByteArray} (h : ∀ f ∈ fs, f.name ≠ n) : fileV fs n = .tuple #[.string ⟨#[]⟩, .bool false] := by
  unfold fileV
  rw [List.find?_eq_none.2 (fun f hf => by simpa using h f hf)]
theorem fileV_some {fs : List FM} {n : ByteArray} {k : Nat} (hk : k < fs.length) (h1 : (fs.getD k default).name = n) (h2 : ∀ j, j < k → (fs.getD j default).name ≠ n) : fileV fs n = .tuple #[.string (fs.getD k default).text, .bool true] := by
  unfold fileV
  have e : fs.find? (fun f => decide (f.name = n)) = some fs[k] := by
    rw [List.find?_eq_some_iff_getElem]
    refine ⟨by rw [← getD_at fs k hk]; simpa using h1, k, hk, rfl, fun j hj => ?_⟩
    have := h2 j hj
    rw [getD_at fs j (by omega)] at this
    simpa using this
  rw [e, getD_at fs k hk]
end Go.Proofs.Ytonffkdlnhjjfaa
