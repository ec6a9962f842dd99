/- Rows of files: two that are the same are told so. -/
import Derived.Test.YtendbipfmgnjkaaDiskA
namespace Go.Proofs.Ytendbipfmgnjkaa
set_option maxRecDepth 100000
open Go.RowKit
attribute [local go_sem ↓] Go.wp_at_zero Go.wp_at_succ

theorem eqFile_same (f : FM) (w : World) :
    Calls Try.prog 95 #[fv f, fv f] w fun e w' => e = .returned (.bool true) ∧ Below w.heap.size w w' := by
  go_enter Try.func95, Try.ntmps95
  go_wp2_with fail
  go_ret
  exact ⟨rfl, ((Below.refl _ _).alloc (Nat.le_refl _) _).alloc (by simp) _⟩
set_option maxHeartbeats 1000000 in
theorem eqFileS_same (a b : Option Addr) (fs : List FM) (ca cb : Nat) (w : World) (ha : FRow w a fs) (hb : FRow w b fs) (hl : fs.length ≤ 1048576) :
    Calls Try.prog 79 #[.slice a fs.length ca, .slice b fs.length cb] w fun e w' => e = .returned (.bool true) ∧ Below w.heap.size w w' := by
  have HA : Hid (FRow w a fs) := ha
  have HB : Hid (FRow w b fs) := hb
  clear ha hb
  go_enter Try.func79, Try.ntmps79
  go_wp2_with fail
  go_loopw [5] (fun i wr => ∃ (k : Nat), i = .int .i64 k ∧ k ≤ fs.length ∧ Below w.heap.size w wr) (fun i _ => fs.length - (intOf i).toNat)
  case atStart => exact ⟨0, rfl, Nat.zero_le _, Below.refl _ _⟩
  case round =>
    obtain ⟨k, rfl, hk, hbl⟩ := hrel
    by_cases hlt : k < fs.length
    · obtain ⟨b1, o1, rfl, l1, hc1⟩ := FRow.at (HA.out.stays hbl) (by omega)
      obtain ⟨b2, o2, rfl, l2, hc2⟩ := FRow.at (HB.out.stays hbl) (by omega)
      obtain ⟨d0, d1, d2⟩ := hc1 k hlt
      obtain ⟨e0, e1, e2⟩ := hc2 k hlt
      obtain ⟨f, hfe⟩ : ∃ f, f = fs[k] := ⟨_, rfl⟩
      rw [← hfe] at d0 d1 d2 e0 e1 e2
      have HS : Hid (Below w.heap.size w wr) := hbl
      have k0 : (0 : Int) ≤ (k : Int) := by omega
      have k1 : (k : Int) < (fs.length : Int) := by omega
      clear hc1 hc2 hfe hbl
      go_wp2_with fail
      go_region_held3 (fun w' => w'.cell? ⟨b1, o1 + k * 3, none⟩ = some (.string f.name) ∧ w'.cell? ⟨b1, o1 + k * 3 + 1, none⟩ = some (.string f.text) ∧ w'.cell? ⟨b1, o1 + k * 3 + 2, none⟩ = some (.int .i64 f.kept) ∧ w'.cell? ⟨b2, o2 + k * 3, none⟩ = some (.string f.name) ∧ w'.cell? ⟨b2, o2 + k * 3 + 1, none⟩ = some (.string f.text) ∧ w'.cell? ⟨b2, o2 + k * 3 + 2, none⟩ = some (.int .i64 f.kept))
        (first | go_keep | (refine ⟨?_, ?_, ?_, ?_, ?_, ?_⟩ <;> first | (rw [hb2.cell (by exact l1)]; simp [*]) | (rw [hb2.cell (by exact l2)]; simp [*])))
        ((go_at_call 95; refine (eqFile_same f _).mono ?_; rintro e w2 ⟨rfl, hb2⟩))
      all_goals go_wp2_with fail
      all_goals
        have hb3 : Below w.heap.size w w2 := HS.out.trans ((Below.drew (Below.refl _ _)).trans (hb2.mono HS.out.size))
        exact ⟨⟨k + 1, by go_num, by omega, hb3⟩, by simp [intOf]; omega⟩
    · have e : k = fs.length := by omega
      subst e
      go_wp2_with fail
      go_ret
      exact ⟨rfl, hbl⟩
theorem eqDisk_same (a b : Option Addr) (fs : List FM) (ca cb : Nat) (w : World) (ha : FRow w a fs) (hb : FRow w b fs) (hl : fs.length ≤ 1048576) :
    Calls Try.prog 60 #[.agg #[.slice a fs.length ca], .agg #[.slice b fs.length cb]] w fun e w' => e = .returned (.bool true) ∧ Below w.heap.size w w' := by
  have hb0 : Below w.heap.size w ((w.alloc (.cells #[.slice a fs.length ca] 40)).alloc (.cells #[.slice b fs.length cb] 40)) := ((Below.refl _ _).alloc (Nat.le_refl _) _).alloc (by simp) _
  have HA : Hid (FRow ((w.alloc (.cells #[.slice a fs.length ca] 40)).alloc (.cells #[.slice b fs.length cb] 40)) a fs) := ha.stays hb0
  have HB : Hid (FRow ((w.alloc (.cells #[.slice a fs.length ca] 40)).alloc (.cells #[.slice b fs.length cb] 40)) b fs) := hb.stays hb0
  have HB0 : Hid (Below w.heap.size w ((w.alloc (.cells #[.slice a fs.length ca] 40)).alloc (.cells #[.slice b fs.length cb] 40))) := hb0
  clear ha hb hb0
  go_enter Try.func60, Try.ntmps60
  go_wp2_with fail
  refine (eqFileS_same a b fs ca cb _ HA.out HB.out hl).mono ?_
  rintro e w2 ⟨rfl, hb2⟩
  have HB2 : Hid (Below w.heap.size w w2) := HB0.out.trans (hb2.mono HB0.out.size)
  clear hb2
  go_wp2_with fail
  go_ret
  exact ⟨rfl, HB2.out⟩
theorem l01In_anyD (x l m : Int) (w : World) :
    Calls Try.prog 24 #[.int .i64 x, .int .i64 l, .int .i64 m] w fun e w' => e = .returned (.bool (decide (l ≤ x ∧ x ≤ m))) ∧ w' = w := by
  by_cases c1 : l ≤ x
  · by_cases c2 : x ≤ m
    · go_enter Try.func24, Try.ntmps24
      go_wp2_with fail
      go_ret
      exact ⟨by rw [decide_eq_true ⟨c1, c2⟩]; rfl, rfl⟩
    · go_enter Try.func24, Try.ntmps24
      go_wp2_with fail
      go_ret
      exact ⟨by rw [decide_eq_false (by omega)]; rfl, rfl⟩
  · have c1' : decide (l ≤ x) = false := by simp; omega
    have e : decide (l ≤ x ∧ x ≤ m) = false := decide_eq_false (fun h => c1 h.1)
    rw [e]
    clear e
    go_enter Try.func24, Try.ntmps24
    go_wp2_with fail
    go_ret
    exact ⟨rfl, rfl⟩
end Go.Proofs.Ytendbipfmgnjkaa
