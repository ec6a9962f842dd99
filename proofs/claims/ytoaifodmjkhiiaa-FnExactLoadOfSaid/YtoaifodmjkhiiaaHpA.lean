/- The program's own: one unit held against another; units and hosts that are right (written by gen/mkhpa.py). -/
import Derived.Test.YtoaifodmjkhiiaaUnP
import Derived.Test.YtoaifodmjkhiiaaGrwB
import Derived.Handy
namespace Go.Proofs.Ytoaifodmjkhiiaa
set_option maxRecDepth 100000
open Go.RowKit BigFrame
attribute [local go_sem ↓] Go.wp_at_zero Go.wp_at_succ

def cmpI (x y : Int) : Int := if x < y then -1 else if y < x then 1 else 0
def cmpU (a b : UnM) : Int := if cmpI a.group b.group = 0 then cmpI a.index b.index else cmpI a.group b.group
theorem cmpI_is (x y : Int) : (x < y ∧ cmpI x y = -1) ∨ (y < x ∧ cmpI x y = 1) ∨ (x = y ∧ cmpI x y = 0) := by
  unfold cmpI
  split
  · exact .inl ⟨by assumption, rfl⟩
  · split
    · exact .inr (.inl ⟨by assumption, rfl⟩)
    · exact .inr (.inr ⟨by omega, rfl⟩)
theorem cmpU_neg (a b : UnM) : cmpU a b < 0 ↔ unLt a b = true := by
  rw [lt_iff]
  unfold cmpU
  have h1 := cmpI_is a.group b.group
  have h2 := cmpI_is a.index b.index
  split <;> omega
theorem cmpU_zero (a b : UnM) : cmpU a b = 0 ↔ unSame a b = true := by
  rw [same_iff]
  unfold cmpU
  have h1 := cmpI_is a.group b.group
  have h2 := cmpI_is a.index b.index
  split <;> omega
theorem nan_int (x : Int) (w : World) : Calls Try.prog 99 #[.int .i64 x] w fun e w' => e = .returned (.bool false) ∧ w' = w := by
  have h : (x != x) = false := by simp
  go_enter Try.func99, Try.ntmps99
  go_wp2_with fail
  go_ret
  exact ⟨rfl, rfl⟩
theorem cmp_int (x y : Int) (w : World) : Calls Try.prog 98 #[.int .i64 x, .int .i64 y] w fun e w' => e = .returned (.int .i64 (cmpI x y)) ∧ w' = w := by
  have HN := Shut.mk (fun z => nan_int z w)
  rcases cmpI_is x y with ⟨h, e⟩ | ⟨h, e⟩ | ⟨h, e⟩
  · rw [e]
    clear e
    go_enter Try.func98, Try.ntmps98
    go_wp2_with (go_at_call 99; refine (HN.out _).mono ?_; rintro e w1 ⟨rfl, hw1⟩; subst hw1)
    go_ret
    exact ⟨rfl, rfl⟩
  · rw [e]
    have h1 : ¬ x < y := by omega
    clear e
    go_enter Try.func98, Try.ntmps98
    go_wp2_with (go_at_call 99; refine (HN.out _).mono ?_; rintro e w1 ⟨rfl, hw1⟩; subst hw1)
    go_ret
    exact ⟨rfl, rfl⟩
  · rw [e]
    have h1 : ¬ x < y := by omega
    have h2 : ¬ y < x := by omega
    clear e h
    go_enter Try.func98, Try.ntmps98
    go_wp2_with (go_at_call 99; refine (HN.out _).mono ?_; rintro e w1 ⟨rfl, hw1⟩; subst hw1)
    go_ret
    exact ⟨rfl, rfl⟩
theorem or_two (g : Nat) (x y : Int) (c : Nat) (w : World) (h0 : w.cell? ⟨g, 0, none⟩ = some (.int .i64 x)) (h1 : w.cell? ⟨g, 1, none⟩ = some (.int .i64 y)) :
    Calls Try.prog 97 #[.slice (some ⟨g, 0, none⟩) 2 c] w fun e w' => e = .returned (.int .i64 (if x = 0 then y else x)) ∧ w' = w := by
  obtain ⟨R, hR⟩ : ∃ R, R = if x = 0 then y else x := ⟨_, rfl⟩
  rw [← hR]
  have HR := Shut.mk hR
  clear hR
  go_enter Try.func97, Try.ntmps97
  go_wp2_with fail
  go_loop [8] (fun i9 => ∃ (k : Nat), i9 = .int .i64 k ∧ k ≤ 2 ∧ Shut (1 ≤ k → x = 0) ∧ Shut (2 ≤ k → y = 0)) (fun i9 => 2 - (intOf i9).toNat)
  case atStart => exact ⟨0, rfl, by omega, ⟨by omega⟩, ⟨by omega⟩⟩
  case round =>
    obtain ⟨k, rfl, hk, HX, HY⟩ := hrel
    match k, hk with
    | 0, _ =>
      by_cases hx : x = 0
      · have hx1 : (x != 0) = false := by simp [hx]
        have HX0 := Shut.mk hx
        clear hx
        go_wp2_with fail
        go_round
        case rel => exact ⟨1, by go_num, by omega, ⟨fun _ => HX0.out⟩, ⟨by omega⟩⟩
        case measure => simp [intOf]
      · have hx1 : (x != 0) = true := by simp [hx]
        have HE : Shut (R = x) := ⟨by rw [HR.out, if_neg hx]⟩
        clear hx
        go_wp2_with fail
        go_ret
        exact ⟨by rw [HE.out]; rfl, rfl⟩
    | 1, _ =>
      have HE : Shut (R = y) := ⟨by rw [HR.out, if_pos (HX.out (Nat.le_refl _))]⟩
      by_cases hy : y = 0
      · have hy1 : (y != 0) = false := by simp [hy]
        have HY0 := Shut.mk hy
        clear hy
        go_wp2_with fail
        go_round
        case rel => exact ⟨2, by go_num, by omega, ⟨fun _ => HX.out (Nat.le_refl _)⟩, ⟨fun _ => HY0.out⟩⟩
        case measure => simp [intOf]
      · have hy1 : (y != 0) = true := by simp [hy]
        clear hy
        go_wp2_with fail
        go_ret
        exact ⟨by rw [HE.out]; rfl, rfl⟩
    | 2, _ =>
      have HE : Shut (R = 0) := ⟨by rw [HR.out, if_pos (HX.out (by omega)), HY.out (Nat.le_refl _)]⟩
      go_wp2_with fail
      go_ret
      exact ⟨by rw [HE.out]; rfl, rfl⟩
end Go.Proofs.Ytoaifodmjkhiiaa
