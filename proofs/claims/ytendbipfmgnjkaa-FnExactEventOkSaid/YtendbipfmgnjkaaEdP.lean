/- The program's own test of a record. -/
import Derived.Test.YtendbipfmgnjkaaEdA
import Derived.Test.YtendbipfmgnjkaaEdC
import Derived.Test.YtendbipfmgnjkaaHasN
import Derived.Test.YtendbipfmgnjkaaSchQ
namespace Go.Proofs.Ytendbipfmgnjkaa
set_option maxRecDepth 100000
open Go.RowKit BigFrame
attribute [local go_sem ↓] Go.wp_at_zero Go.wp_at_succ

/-- What the program asks of a record's path, of where it goes, of its number, of who. -/
def pathQ (e : EM) : Bool := if e.kind = 10 then e.path.toList == [47] else if e.kind = 5 ∨ e.kind = 6 then (e.path.toList == [47]) || named e.path else named e.path
def destQ (e : EM) : Bool := if e.kind = 3 then named e.dest else e.dest.toList == []
def numQ (e : EM) : Bool := if e.kind = 5 then inI e.num 1 3 else if e.kind = 6 then inI e.num 0 1000 else if e.kind = 7 then inI e.num 1 200 else e.num == 0
def whoQ (e : EM) : Bool := if e.kind = 2 ∨ e.kind = 9 then inI e.who 1 9 else e.who == 0
theorem not_named_nil {p : ByteArray} (h : (p.toList == []) = true) : named p = false := by
  rw [Go.ByteArray.toList_eq, beq_iff_eq] at h
  have hp : p = ⟨#[]⟩ := ByteArray.ext (Array.toList_inj.1 h)
  subst hp
  rfl
theorem edit_is (e : EM) : editOk e = (inI e.kind 1 10 && pathQ e && destQ e && numQ e && whoQ e) := by
  unfold editOk pathBad numsOk pathQ destQ numQ whoQ
  have hn := @not_named_nil e.dest
  generalize named e.dest = nd at *
  generalize named e.path = np at *
  generalize (e.path.toList == [47]) = rt at *
  have hne : (e.dest.toList != []) = !(e.dest.toList == []) := rfl
  rw [hne]
  generalize (e.dest.toList == []) = te at *
  generalize inI e.num 1 3 = a1 at *
  generalize inI e.num 0 1000 = a2 at *
  generalize inI e.num 1 200 = a3 at *
  generalize inI e.who 1 9 = a4 at *
  generalize (e.num == 0) = a5 at *
  generalize (e.who == 0) = a6 at *
  cases hk : inI e.kind 1 10 with
  | false => simp
  | true =>
    have hk' := inI_iff.1 hk
    have hc : e.kind = 1 ∨ e.kind = 2 ∨ e.kind = 3 ∨ e.kind = 4 ∨ e.kind = 5 ∨ e.kind = 6 ∨ e.kind = 7 ∨ e.kind = 8 ∨ e.kind = 9 ∨ e.kind = 10 := by omega
    rcases hc with h | h | h | h | h | h | h | h | h | h <;> rw [h] <;> simp <;> revert hn <;> cases nd <;> cases te <;> simp <;> cases np <;> cases rt <;> simp [Bool.and_comm]
set_option maxRecDepth 100000 in
set_option maxHeartbeats 1000000 in
theorem implPathQ (e : EM) (w : World) (hf : EFit e) : Calls Try.prog 89 #[ev e] w fun r w' => r = .returned (.bool (pathQ e)) ∧ Below w.heap.size w w' := by
  have HN := Shut.mk (fun W => implHasName e.path W hf.1)
  have HR : Shut (pathQ e = if e.kind = 10 then e.path.toList == [47] else if e.kind = 5 ∨ e.kind = 6 then (e.path.toList == [47]) || named e.path else named e.path) := ⟨rfl⟩
  generalize pathQ e = R at *
  generalize named e.path = np at *
  obtain ⟨kind, path, dest, num, who⟩ := e
  dsimp only at *
  clear hf
  go_enter Try.func89, Try.ntmps89
  go_wp2_with (go_at_call 75; refine (HN.out _).mono ?_; rintro r w1 ⟨rfl, hb1⟩)
  all_goals
    go_ret
    refine ⟨by rw [HR.out]; (try simp only [beq_iff_eq, beq_eq_false_iff_ne, ne_eq] at *); simp [*], ?_⟩
    first
      | exact (Below.refl _ _).alloc (Nat.le_refl _) _
      | exact ((Below.refl _ _).alloc (Nat.le_refl _) _).trans (hb1.mono (by simp))
set_option maxRecDepth 100000 in
set_option maxHeartbeats 1000000 in
theorem implDestQ (e : EM) (w : World) (hf : EFit e) : Calls Try.prog 90 #[ev e] w fun r w' => r = .returned (.bool (destQ e)) ∧ Below w.heap.size w w' := by
  have HN := Shut.mk (fun W => implHasName e.dest W hf.2)
  have HR : Shut (destQ e = if e.kind = 3 then named e.dest else e.dest.toList == []) := ⟨rfl⟩
  generalize destQ e = R at *
  generalize named e.dest = np at *
  obtain ⟨kind, path, dest, num, who⟩ := e
  dsimp only at *
  clear hf
  go_enter Try.func90, Try.ntmps90
  go_wp2_with (go_at_call 75; refine (HN.out _).mono ?_; rintro r w1 ⟨rfl, hb1⟩)
  all_goals
    go_ret
    refine ⟨by rw [HR.out]; (try simp only [beq_iff_eq, beq_eq_false_iff_ne, ne_eq] at *); simp [*], ?_⟩
    first
      | exact (Below.refl _ _).alloc (Nat.le_refl _) _
      | exact ((Below.refl _ _).alloc (Nat.le_refl _) _).trans (hb1.mono (by simp))
set_option maxRecDepth 100000 in
set_option maxHeartbeats 1000000 in
theorem implNumQ (e : EM) (w : World) : Calls Try.prog 91 #[ev e] w fun r w' => r = .returned (.bool (numQ e)) ∧ Below w.heap.size w w' := by
  have HR : Shut (numQ e = if e.kind = 5 then inI e.num 1 3 else if e.kind = 6 then (decide (0 ≤ e.num) && decide (e.num ≤ 1000)) else if e.kind = 7 then (decide (1 ≤ e.num) && decide (e.num ≤ 200)) else e.num == 0) := ⟨rfl⟩
  generalize numQ e = R at *
  obtain ⟨kind, path, dest, num, who⟩ := e
  dsimp only at *
  go_enter Try.func91, Try.ntmps91
  go_wp2_with (go_at_call 102; refine (implSchemaOk _ _).mono ?_; rintro r w1 ⟨rfl, rfl⟩)
  all_goals
    go_ret
    refine ⟨by rw [HR.out]; (try simp only [beq_iff_eq, beq_eq_false_iff_ne, ne_eq] at *); first | (simp [*]; done) | (simp [*]; omega), ?_⟩
    exact (Below.refl _ _).alloc (Nat.le_refl _) _
set_option maxRecDepth 100000 in
set_option maxHeartbeats 1000000 in
theorem implWhoQ (e : EM) (w : World) : Calls Try.prog 92 #[ev e] w fun r w' => r = .returned (.bool (whoQ e)) ∧ Below w.heap.size w w' := by
  have HR : Shut (whoQ e = if e.kind = 2 ∨ e.kind = 9 then (decide (1 ≤ e.who) && decide (e.who ≤ 9)) else e.who == 0) := ⟨rfl⟩
  generalize whoQ e = R at *
  obtain ⟨kind, path, dest, num, who⟩ := e
  dsimp only at *
  go_enter Try.func92, Try.ntmps92
  go_wp2_with fail
  all_goals
    go_ret
    refine ⟨by rw [HR.out]; (try simp only [beq_iff_eq, beq_eq_false_iff_ne, ne_eq] at *); first | (simp [*]; done) | (simp [*]; omega), ?_⟩
    exact (Below.refl _ _).alloc (Nat.le_refl _) _
end Go.Proofs.Ytendbipfmgnjkaa
