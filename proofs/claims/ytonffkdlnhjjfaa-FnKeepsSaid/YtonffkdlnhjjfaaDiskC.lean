/- The model's walk over a disk: it tells whether the disk is right. -/
import Derived.Test.YtonffkdlnhjjfaaDiskB
import Derived.Deep.QuietTactic
import Derived.BigQuiet
namespace Go.Proofs.Ytonffkdlnhjjfaa
open Go.RowKit
attribute [local go_sem ↓] Go.wp_at_zero Go.wp_at_succ

/-- A file is right by itself. -/
def FOk (f : FM) : Prop := (1 ≤ f.name.size ∧ f.name.size ≤ 8) ∧ f.text.size ≤ 20000 ∧ 0 ≤ f.kept ∧ f.kept ≤ f.text.size
/-- .. and at its place. -/
def FAt (fs : List FM) (k : Nat) : Prop := FOk (fs.getD k default) ∧ (0 < k → Op.bytesLess (fs.getD (k - 1) default).name.toList (fs.getD k default).name.toList = true)
def DOk (fs : List FM) : Prop := fs.length ≤ 30 ∧ ∀ k, k < fs.length → FAt fs k
open Classical in
noncomputable def dOkB (fs : List FM) : Bool := decide (DOk fs)
theorem dOkB_yes {fs : List FM} (h : DOk fs) : dOkB fs = true := by unfold dOkB; simp [h]
theorem dOkB_no {fs : List FM} (h : ¬ DOk fs) : dOkB fs = false := by unfold dOkB; simp [h]
theorem getD_at (fs : List FM) (k : Nat) (h : k < fs.length) : fs.getD k default = fs[k] := by simp [List.getD, h]

theorem l03Name_is (s : ByteArray) (w : World) (b : Bool) (h : decide (1 ≤ s.size ∧ s.size ≤ 8) = b) : Calls Try.prog 54 #[.string s] w fun e w' => e = .returned (.bool b) ∧ w' = w := by
  have := l03Name_any s w
  rwa [h] at this
theorem l01In_is (x l m : Int) (w : World) (b : Bool) (h : decide (l ≤ x ∧ x ≤ m) = b) : Calls Try.prog 40 #[.int .i64 x, .int .i64 l, .int .i64 m] w fun e w' => e = .returned (.bool b) ∧ w' = w := by
  have := l01In_any x l m w
  rwa [h] at this
set_option maxHeartbeats 2000000 in
theorem specDiskOk (a : Option Addr) (fs : List FM) (cap : Nat) (w : World) (hr : FRow w a fs) (hf : FFit fs) (hl : fs.length ≤ 1048576) :
    Calls Try.prog 53 #[.agg #[.slice a fs.length cap]] w fun e w' => e = .returned (.bool (dOkB fs)) ∧ Below w.heap.size w w' := by
  have hb0 : Below w.heap.size w (w.alloc (.cells #[.slice a fs.length cap] 26)) := (Below.refl _ _).alloc (Nat.le_refl _) _
  by_cases h30 : 30 < fs.length
  · rw [dOkB_no (fun h => by have := h.1; omega)]
    have h30' : (30 : Int) < (fs.length : Int) := by omega
    clear hr hf
    go_enter Try.func53, Try.ntmps53
    go_wp2_with fail
    go_ret
    exact ⟨rfl, hb0⟩
  · have h30' : ¬ (30 : Int) < (fs.length : Int) := by omega
    have HR : Hid (FRow w a fs) := hr
    have HF : Hid (FFit fs) := hf
    have hbox := wcells_new w #[.slice a fs.length cap] 26
    have HX : Hid (WCells (w.alloc (.cells #[.slice a fs.length cap] 26)) w.heap.size [.slice a fs.length cap]) := hbox
    have HB0 : Hid (Below w.heap.size w (w.alloc (.cells #[.slice a fs.length cap] 26))) := hb0
    clear hr hf hbox hb0
    generalize hO : dOkB fs = O
    have HO : Hid (dOkB fs = O) := hO
    clear hO
    go_enter Try.func53, Try.ntmps53
    go_wp2_with fail
    go_loopw [3] (fun i wr => ∃ (k : Nat), i = .int .i64 k ∧ k ≤ fs.length ∧ (∀ j, j < k → FAt fs j) ∧ WCells wr w.heap.size [.slice a fs.length cap] ∧ Below w.heap.size w wr) (fun i _ => fs.length - (intOf i).toNat)
    case atStart => exact ⟨0, rfl, Nat.zero_le _, fun j hj => by omega, HX.out, HB0.out⟩
    case round =>
      obtain ⟨k, rfl, hk, hgood, hx, hb⟩ := hrel
      have HGD : Hid (∀ j, j < k → FAt fs j) := hgood
      have x0 := (hx.2 0 _ rfl).1
      by_cases hlt : k < fs.length
      · obtain ⟨b, off, rfl, lb, hc⟩ := FRow.at (HR.out.stays hb) (by omega)
        obtain ⟨d0, d1, d2⟩ := hc k hlt
        obtain ⟨f, hfe⟩ : ∃ f, f = fs[k] := ⟨_, rfl⟩
        rw [← hfe] at d0 d1 d2
        have HFE : Hid (fs.getD k default = f) := (getD_at fs k hlt).trans hfe.symm
        have k0 : (0 : Int) ≤ (k : Int) := by omega
        have k1 : (k : Int) < (fs.length : Int) := by omega
        have hbx : Below w.heap.size w (wr.alloc (.cells #[.string f.name, .string f.text, .int .i64 f.kept] 36)) := hb.alloc hb.size _
        have HBX : Hid (Below w.heap.size w (wr.alloc (.cells #[.string f.name, .string f.text, .int .i64 f.kept] 36))) := hbx
        have hxx := hx.alloc (.cells #[.string f.name, .string f.text, .int .i64 f.kept] 36)
        have HXX : Hid (WCells (wr.alloc (.cells #[.string f.name, .string f.text, .int .i64 f.kept] 36)) w.heap.size [.slice (some ⟨b, off, none⟩) fs.length cap]) := hxx
        have y0 := (hxx.2 0 _ rfl).1
        have HXN : ∀ q, WCells ((wr.alloc (.cells #[.string f.name, .string f.text, .int .i64 f.kept] 36)).drewN q) w.heap.size [.slice (some ⟨b, off, none⟩) fs.length cap] := fun q => hxx
        have HBN : ∀ q, Below w.heap.size w ((wr.alloc (.cells #[.string f.name, .string f.text, .int .i64 f.kept] 36)).drewN q) := fun q => hbx.trans ⟨rfl, rfl, rfl, Nat.le_refl _, fun _ _ => rfl⟩
        have lb' : b < wr.heap.size := lb
        clear hfe hbx hxx hx
        by_cases hA : decide (1 ≤ f.name.size ∧ f.name.size ≤ 8) = true
        · by_cases hB : f.text.size ≤ 20000
          · have hB' : decide ((20000 : Int) < (f.text.size : Int)) = false := by simp; omega
            by_cases hC : decide (0 ≤ f.kept ∧ f.kept ≤ (f.text.size : Int)) = true
            · by_cases hk0 : 0 < k
              · obtain ⟨p0, _, _⟩ := hc (k - 1) (by omega)
                obtain ⟨f1, hf1⟩ : ∃ f1, f1 = fs[k - 1] := ⟨_, rfl⟩
                rw [← hf1] at p0
                have HF1 : Hid (fs.getD (k - 1) default = f1) := (getD_at fs (k - 1) (by omega)).trans hf1.symm
                have q0 : (wr.alloc (.cells #[.string f.name, .string f.text, .int .i64 f.kept] 36)).cell? ⟨b, off + (k - 1) * 3, none⟩ = some (.string f1.name) := (((Below.refl _ _).alloc (Nat.le_refl _) _ : Below wr.heap.size wr (wr.alloc (.cells #[.string f.name, .string f.text, .int .i64 f.kept] 36))).cell (p := ⟨b, off + (k - 1) * 3, none⟩) lb').trans p0
                have hkp : (0 : Int) < (k : Int) := by omega
                have hk1 : (k : Int) - 1 = ((k - 1 : Nat) : Int) := by omega
                have hk2 : (0 : Int) ≤ ((k - 1 : Nat) : Int) := by omega
                have hk3 : ((k - 1 : Nat) : Int) < (fs.length : Int) := by omega
                clear hc hf1 p0
                by_cases hD : Op.bytesLess f1.name.toList f.name.toList = true
                · go_wp2_with fail
                  go_quiet (first
                    | (go_at_call 54; exact Calls.quiet_of_same (l03Name_is _ _ true hA))
                    | (go_at_call 40; exact Calls.quiet_of_same (l01In_is _ _ _ _ true hC)))
                  go_wp2_with fail
                  go_roundw
                  case rel => exact ⟨k + 1, by go_num, by omega, fun j hj => by rcases Nat.lt_succ_iff_lt_or_eq.1 hj with h | h; exact HGD.out j h; subst h; exact ⟨by rw [HFE.out]; exact ⟨of_decide_eq_true hA, hB, (of_decide_eq_true hC).1, (of_decide_eq_true hC).2⟩, fun _ => by rw [HFE.out, HF1.out]; exact hD⟩, HXN _, HBN _⟩
                  case measure => simp [intOf]; omega
                · have hD' : Op.bytesLess f1.name.toList f.name.toList = false := by simpa using hD
                  go_wp2_with fail
                  go_quiet (first
                    | (go_at_call 54; exact Calls.quiet_of_same (l03Name_is _ _ true hA))
                    | (go_at_call 40; exact Calls.quiet_of_same (l01In_is _ _ _ _ true hC)))
                  go_wp2_with fail
                  go_ret
                  exact ⟨congrArg (fun b => Ending.returned (.bool b)) ((HO.out.symm.trans (dOkB_no (fun h => hD (by have h2 := (h.2 k hlt).2 hk0; rw [HFE.out, HF1.out] at h2; exact h2)))).symm), HBN _⟩
              · have hkn : decide ((0 : Int) < (k : Int)) = false := by simp; omega
                clear hc
                go_wp2_with fail
                go_quiet (first
                  | (go_at_call 54; exact Calls.quiet_of_same (l03Name_is _ _ true hA))
                  | (go_at_call 40; exact Calls.quiet_of_same (l01In_is _ _ _ _ true hC)))
                go_wp2_with fail
                go_roundw
                case rel => exact ⟨k + 1, by go_num, by omega, fun j hj => by rcases Nat.lt_succ_iff_lt_or_eq.1 hj with h | h; exact HGD.out j h; subst h; exact ⟨by rw [HFE.out]; exact ⟨of_decide_eq_true hA, hB, (of_decide_eq_true hC).1, (of_decide_eq_true hC).2⟩, fun h => absurd h hk0⟩, HXN _, HBN _⟩
                case measure => simp [intOf]; omega
            · replace hC : decide (0 ≤ f.kept ∧ f.kept ≤ (f.text.size : Int)) = false := by simpa using hC
              clear hc
              go_wp2_with fail
              go_quiet (first
                | (go_at_call 54; exact Calls.quiet_of_same (l03Name_is _ _ true hA))
                | (go_at_call 40; exact Calls.quiet_of_same (l01In_is _ _ _ _ false hC)))
              go_wp2_with fail
              go_ret
              exact ⟨congrArg (fun b => Ending.returned (.bool b)) ((HO.out.symm.trans (dOkB_no (fun h => of_decide_eq_false hC (by have h2 := (h.2 k hlt).1; rw [HFE.out] at h2; exact ⟨h2.2.2.1, h2.2.2.2⟩)))).symm), HBN _⟩
          · have hB' : decide ((20000 : Int) < (f.text.size : Int)) = true := by simp; omega
            clear hc
            go_wp2_with fail
            go_quiet (first
              | (go_at_call 54; exact Calls.quiet_of_same (l03Name_is _ _ true hA)))
            go_wp2_with fail
            go_ret
            exact ⟨congrArg (fun b => Ending.returned (.bool b)) ((HO.out.symm.trans (dOkB_no (fun h => hB (by have h2 := (h.2 k hlt).1; rw [HFE.out] at h2; exact h2.2.1)))).symm), HBN _⟩
        · replace hA : decide (1 ≤ f.name.size ∧ f.name.size ≤ 8) = false := by simpa using hA
          clear hc
          go_wp2_with fail
          go_quiet (first
            | (go_at_call 54; exact Calls.quiet_of_same (l03Name_is _ _ false hA)))
          go_wp2_with fail
          go_ret
          exact ⟨congrArg (fun b => Ending.returned (.bool b)) ((HO.out.symm.trans (dOkB_no (fun h => of_decide_eq_false hA (by have h2 := (h.2 k hlt).1; rw [HFE.out] at h2; exact h2.1)))).symm), HBN _⟩
      · have e : k = fs.length := by omega
        subst e
        go_wp2_with fail
        go_ret
        exact ⟨congrArg (fun b => Ending.returned (.bool b)) ((HO.out.symm.trans (dOkB_yes ⟨by omega, fun j hj => HGD.out j (by omega)⟩)).symm), hb⟩
end Go.Proofs.Ytonffkdlnhjjfaa
