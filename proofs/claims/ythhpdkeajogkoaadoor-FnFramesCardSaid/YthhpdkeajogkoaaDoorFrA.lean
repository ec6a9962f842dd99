/- The walks of the two Frame, and of the program's own reader of one frame. -/
import Derived.Test.YthhpdkeajogkoaaDoorFrM
import Derived.Test.YthhpdkeajogkoaaDoorVar
import Derived.Test.YthhpdkeajogkoaaDoorReadVar
namespace Go.Proofs.YthhpdkeajogkoaaDoor
open Go.RowKit
open W (B32)
attribute [local go_sem ↓] Go.wp_at_zero Go.wp_at_succ

/-- A record in its frame. -/
def frameB (s : ByteArray) : ByteArray := (⟨(W.vt s.size).toArray⟩ ++ fourB (W.sumOf s)) ++ s
/-- What Frame answers. -/
def frV (s : ByteArray) : Value := if 1 ≤ s.size ∧ s.size ≤ 9000 then .tuple #[.string (frameB s), .bool true] else .tuple #[.string ⟨#[]⟩, .bool false]
theorem specFrame_no (s : ByteArray) (w : World) (h : ¬ (1 ≤ s.size ∧ s.size ≤ 9000)) :
    Calls Tryd.prog 12 #[.string s] w fun e w' => e = .returned (.tuple #[.string ⟨#[]⟩, .bool false]) ∧ Below w.heap.size w w' := by
  have hd : (decide ((1 : Int) ≤ (s.size : Int)) && decide ((s.size : Int) ≤ 9000)) = false := by
    simp only [Bool.and_eq_false_iff, decide_eq_false_iff_not]; omega
  go_enter Tryd.func12, Tryd.ntmps12
  go_wp2_with fail
  refine (l01In_any _ _ _ _).mono ?_
  rw [hd]
  rintro e w' ⟨rfl, rfl⟩
  go_wp2_with fail
  go_ret2
  exact ⟨rfl, Below.refl _ _⟩
theorem implFrame_no (s : ByteArray) (w : World) (h : ¬ (1 ≤ s.size ∧ s.size ≤ 9000)) :
    Calls Tryd.prog 9 #[.string s] w fun e w' => e = .returned (.tuple #[.string ⟨#[]⟩, .bool false]) ∧ Below w.heap.size w w' := by
  by_cases h1 : s.size < 1
  · have h1' : (s.size : Int) < 1 := by omega
    go_enter Tryd.func9, Tryd.ntmps9
    go_wp2_with fail
    go_ret2
    exact ⟨rfl, Below.refl _ _⟩
  · have h1' : ¬ (s.size : Int) < 1 := by omega
    have h2' : (9000 : Int) < (s.size : Int) := by omega
    go_enter Tryd.func9, Tryd.ntmps9
    go_wp2_with fail
    go_ret2
    exact ⟨rfl, Below.refl _ _⟩
theorem specFrame_yes (s : ByteArray) (w : World) (h : 1 ≤ s.size ∧ s.size ≤ 9000) :
    Calls Tryd.prog 12 #[.string s] w fun e w' => e = .returned (.tuple #[.string (frameB s), .bool true]) ∧ Below w.heap.size w w' := by
  have h1 : decide ((1 : Int) ≤ (s.size : Int)) = true := by simp; omega
  have h2 : decide ((s.size : Int) ≤ 9000) = true := by simp; omega
  have hl := W.vt_len s.size
  have hz := fourB_size (W.sumOf s)
  obtain ⟨hs1, hs2⟩ := h
  go_enter Tryd.func12, Tryd.ntmps12
  go_wp2_with fail
  refine (l01In_any _ _ _ _).mono ?_
  rw [h1, h2]
  rintro e w' ⟨rfl, rfl⟩
  go_wp2_with fail
  refine (l01Var_any s.size _ (by omega)).mono ?_
  rintro e w1 ⟨rfl, hb1⟩
  go_wp2_with fail
  refine (specSumOf s _ (by omega)).mono ?_
  rintro e w2 ⟨rfl, rfl⟩
  go_wp2_with fail
  refine (specFour (W.sumOf s) _).mono ?_
  rintro e w3 ⟨rfl, hb3⟩
  have hb := hb1.trans (hb3.mono hb1.size)
  go_wp2_with fail
  go_ret2
  exact ⟨rfl, hb⟩
theorem implFrame_yes (s : ByteArray) (w : World) (ht : SumTab w) (h : 1 ≤ s.size ∧ s.size ≤ 9000) :
    Calls Tryd.prog 9 #[.string s] w fun e w' => e = .returned (.tuple #[.string (frameB s), .bool true]) ∧ Below w.heap.size w w' := by
  have HT : Hid (SumTab w) := ht
  clear ht
  have hw := u32_wrap (W.sumOf s)
  have hl := W.vt_len s.size
  have hz := fourB_size (W.sumOf s)
  obtain ⟨hs1, hs2⟩ := h
  have h1' : ¬ (s.size : Int) < 1 := by omega
  have h2' : ¬ (9000 : Int) < (s.size : Int) := by omega
  go_enter Tryd.func9, Tryd.ntmps9
  go_wp2_with fail
  refine (implVarText_yes s.size _ (by omega)).mono ?_
  rintro e w1 ⟨rfl, hb1⟩
  go_wp2_with fail
  refine (implSumOf s _ (HT.out.stays hb1) (by omega)).mono ?_
  rintro e w2 ⟨rfl, rfl⟩
  go_wp2_with fail
  refine (implFour (W.sumOf s) _).mono ?_
  rintro e w3 ⟨rfl, hb3⟩
  have hb := hb1.trans (hb3.mono hb1.size)
  go_wp2_with fail
  go_ret2
  exact ⟨rfl, hb⟩
theorem specFrame (s : ByteArray) (w : World) : Calls Tryd.prog 12 #[.string s] w fun e w' => e = .returned (frV s) ∧ Below w.heap.size w w' := by
  unfold frV
  by_cases h : 1 ≤ s.size ∧ s.size ≤ 9000
  · rw [if_pos h]; exact specFrame_yes s w h
  · rw [if_neg h]; exact specFrame_no s w h
theorem implFrame (s : ByteArray) (w : World) (ht : SumTab w) : Calls Tryd.prog 9 #[.string s] w fun e w' => e = .returned (frV s) ∧ Below w.heap.size w w' := by
  unfold frV
  by_cases h : 1 ≤ s.size ∧ s.size ≤ 9000
  · rw [if_pos h]; exact implFrame_yes s w ht h
  · rw [if_neg h]; exact implFrame_no s w h

/-- What the reader of one frame answers. -/
def faV : Option (ByteArray × Nat) → Value
  | none => .tuple #[.string ⟨#[]⟩, .int .i64 0, .bool false]
  | some (r, b) => .tuple #[.string r, .int .i64 b, .bool true]
theorem rv_some {n p : Nat} : rvV (some (n, p)) = .tuple #[.int .i64 n, .int .i64 p, .bool true] := rfl
theorem rv_none : rvV none = .tuple #[.int .i64 0, .int .i64 0, .bool false] := rfl

theorem frameAt_no1 (s : ByteArray) (a : Nat) (w : World) (hs : s.size ≤ 20000) (ha : a ≤ s.size) (h : W.readVar s a = none) :
    Calls Tryd.prog 34 #[.string s, .int .i64 a] w fun e w' => e = .returned (faV none) ∧ Below w.heap.size w w' := by
  have HR : Hid _ := h
  clear h
  go_enter Tryd.func34, Tryd.ntmps34
  go_wp2_with fail
  refine (implReadVar_yes s a _ (by omega) ha).mono ?_
  rw [HR.out, rv_none]
  rintro e w1 ⟨rfl, rfl⟩
  go_wp2_with fail
  go_ret3
  exact ⟨rfl, Below.refl _ _⟩
theorem frameAt_no2 (s : ByteArray) (a n p : Nat) (w : World) (hs : s.size ≤ 20000) (ha : a ≤ s.size) (h : W.readVar s a = some (n, p)) (hp : p ≤ s.size) (hm : n ≤ 1000000000) (hn : n < 1 ∨ 9000 < n ∨ s.size < p + 4 + n) :
    Calls Tryd.prog 34 #[.string s, .int .i64 a] w fun e w' => e = .returned (faV none) ∧ Below w.heap.size w w' := by
  have HR : Hid _ := h
  clear h
  by_cases h1 : n < 1
  · have h1' : (n : Int) < 1 := by omega
    go_enter Tryd.func34, Tryd.ntmps34
    go_wp2_with fail
    refine (implReadVar_yes s a _ (by omega) ha).mono ?_
    rw [HR.out, rv_some]
    rintro e w1 ⟨rfl, rfl⟩
    go_wp2_with fail
    go_ret3
    exact ⟨rfl, Below.refl _ _⟩
  · have h1' : ¬ (n : Int) < 1 := by omega
    by_cases h2 : 9000 < n
    · have h2' : (9000 : Int) < (n : Int) := by omega
      go_enter Tryd.func34, Tryd.ntmps34
      go_wp2_with fail
      refine (implReadVar_yes s a _ (by omega) ha).mono ?_
      rw [HR.out, rv_some]
      rintro e w1 ⟨rfl, rfl⟩
      go_wp2_with fail
      go_ret3
      exact ⟨rfl, Below.refl _ _⟩
    · have h2' : ¬ (9000 : Int) < (n : Int) := by omega
      have h3' : (s.size : Int) - (p : Int) - 4 < (n : Int) := by omega
      go_enter Tryd.func34, Tryd.ntmps34
      go_wp2_with fail
      refine (implReadVar_yes s a _ (by omega) ha).mono ?_
      rw [HR.out, rv_some]
      rintro e w1 ⟨rfl, rfl⟩
      go_wp2_with fail
      go_ret3
      exact ⟨rfl, Below.refl _ _⟩
theorem cut_rec (s : ByteArray) (p n : Nat) (h : p + 4 + n ≤ s.size) (w : World) : (Instr.slice 9 (.string s) (some (.int .i64 ((p : Int) + 4))) (some (.int .i64 ((p : Int) + 4 + (n : Int)))) none).run Tryd.prog w = .ok (.string (s.extract (p + 4) (p + 4 + n))) w := by
  have := slice_str s (p + 4) (p + 4 + n) (by omega) h w
  rw [show ((p + 4 + n : Nat) : Int) = (p : Int) + 4 + (n : Int) by omega, show ((p + 4 : Nat) : Int) = (p : Int) + 4 by omega] at this
  exact this
theorem cut_sum (s : ByteArray) (p : Nat) (h : p + 4 ≤ s.size) (w : World) : (Instr.slice 9 (.string s) (some (.int .i64 (p : Int))) (some (.int .i64 ((p : Int) + 4))) none).run Tryd.prog w = .ok (.string (s.extract p (p + 4))) w := by
  have := slice_str s p (p + 4) (by omega) h w
  rw [show ((p + 4 : Nat) : Int) = (p : Int) + 4 by omega] at this
  exact this
set_option maxHeartbeats 1000000 in
theorem frameAt_no3 (s : ByteArray) (a n p : Nat) (w : World) (ht : SumTab w) (hs : s.size ≤ 20000) (ha : a ≤ s.size) (h : W.readVar s a = some (n, p)) (h1 : 1 ≤ n) (h2 : n ≤ 9000) (h3 : p + 4 + n ≤ s.size)
    (h4 : fourB (W.sumOf (s.extract (p + 4) (p + 4 + n))) ≠ s.extract p (p + 4)) :
    Calls Tryd.prog 34 #[.string s, .int .i64 a] w fun e w' => e = .returned (faV none) ∧ Below w.heap.size w w' := by
  have HR : Hid _ := h
  clear h
  have h1' : ¬ (n : Int) < 1 := by omega
  have h2' : ¬ (9000 : Int) < (n : Int) := by omega
  have h3' : ¬ (s.size : Int) - (p : Int) - 4 < (n : Int) := by omega
  have c1 := cut_rec s p n h3
  have c2 := cut_sum s p (by omega)
  have hal : (s.extract (p + 4) (p + 4 + n)).size ≤ 1048576 := by simp; omega
  generalize s.extract (p + 4) (p + 4 + n) = r at *
  generalize s.extract p (p + 4) = z at *
  have hw := u32_wrap (W.sumOf r)
  have hne := bytes_ne h4
  go_enter Tryd.func34, Tryd.ntmps34
  go_wp2_with fail
  refine (implReadVar_yes s a _ (by omega) ha).mono ?_
  rw [HR.out, rv_some]
  rintro e w1 ⟨rfl, rfl⟩
  go_wp2_with fail
  go_region_held3 (fun w' => SumTab w') (first | assumption | (exact SumTab.stays (by assumption) hb) | go_keep) (first
    | (go_at_call 24; refine (implSumOf r _ (by assumption) hal).mono ?_; rintro e w1 ⟨rfl, rfl⟩)
    | (go_at_call 25; refine (implFour (W.sumOf r) _).mono ?_; rintro e w2 ⟨rfl, hb⟩))
  all_goals go_wp2_with fail
  all_goals
    go_ret3
    exact ⟨rfl, (Below.drew (Below.refl _ _)).trans hb⟩
set_option maxHeartbeats 1000000 in
theorem frameAt_yes (s : ByteArray) (a n p : Nat) (w : World) (ht : SumTab w) (hs : s.size ≤ 20000) (ha : a ≤ s.size) (h : W.readVar s a = some (n, p)) (h1 : 1 ≤ n) (h2 : n ≤ 9000) (h3 : p + 4 + n ≤ s.size)
    (h4 : fourB (W.sumOf (s.extract (p + 4) (p + 4 + n))) = s.extract p (p + 4)) :
    Calls Tryd.prog 34 #[.string s, .int .i64 a] w fun e w' => e = .returned (faV (some (s.extract (p + 4) (p + 4 + n), p + 4 + n))) ∧ Below w.heap.size w w' := by
  have HR : Hid _ := h
  clear h
  have h1' : ¬ (n : Int) < 1 := by omega
  have h2' : ¬ (9000 : Int) < (n : Int) := by omega
  have h3' : ¬ (s.size : Int) - (p : Int) - 4 < (n : Int) := by omega
  have c1 := cut_rec s p n h3
  have c2 := cut_sum s p (by omega)
  have hal : (s.extract (p + 4) (p + 4 + n)).size ≤ 1048576 := by simp; omega
  generalize s.extract (p + 4) (p + 4 + n) = r at *
  generalize s.extract p (p + 4) = z at *
  subst h4
  have hw := u32_wrap (W.sumOf r)
  go_enter Tryd.func34, Tryd.ntmps34
  go_wp2_with fail
  refine (implReadVar_yes s a _ (by omega) ha).mono ?_
  rw [HR.out, rv_some]
  rintro e w1 ⟨rfl, rfl⟩
  go_wp2_with fail
  go_region_held3 (fun w' => SumTab w') (first | assumption | (exact SumTab.stays (by assumption) hb) | go_keep) (first
    | (go_at_call 24; refine (implSumOf r _ (by assumption) hal).mono ?_; rintro e w1 ⟨rfl, rfl⟩)
    | (go_at_call 25; refine (implFour (W.sumOf r) _).mono ?_; rintro e w2 ⟨rfl, hb⟩))
  all_goals go_wp2_with fail
  all_goals
    refine (strCloneS r _ (by omega)).mono ?_
    rintro e w3 ⟨rfl, hb3⟩
    go_wp2_with fail
    go_ret3
    exact ⟨rfl, (Below.drew (Below.refl _ _)).trans (hb.trans (hb3.mono hb.size))⟩
theorem implFrameAt (s : ByteArray) (a : Nat) (w : World) (ht : SumTab w) (hs : s.size ≤ 20000) (ha : a ≤ s.size) :
    Calls Tryd.prog 34 #[.string s, .int .i64 a] w fun e w' => e = .returned (faV (W.frameAt s a)) ∧ Below w.heap.size w w' := by
  unfold W.frameAt
  cases h : W.readVar s a with
  | none => exact frameAt_no1 s a w hs ha h
  | some x =>
    obtain ⟨n, p⟩ := x
    simp only
    have hb := W.readVar_bounds ha h
    by_cases hc : 1 ≤ n ∧ n ≤ 9000 ∧ p + 4 + n ≤ s.size
    · by_cases h4 : fourB (W.sumOf (s.extract (p + 4) (p + 4 + n))) = s.extract p (p + 4)
      · rw [if_pos ⟨hc.1, hc.2.1, hc.2.2, h4⟩]; exact frameAt_yes s a n p w ht hs ha h hc.1 hc.2.1 hc.2.2 h4
      · rw [if_neg (fun e => h4 e.2.2.2)]; exact frameAt_no3 s a n p w ht hs ha h hc.1 hc.2.1 hc.2.2 h4
    · rw [if_neg (fun e => hc ⟨e.1, e.2.1, e.2.2.1⟩)]; exact frameAt_no2 s a n p w hs ha h hb.2 hb.1 (by omega)
end Go.Proofs.YthhpdkeajogkoaaDoor
