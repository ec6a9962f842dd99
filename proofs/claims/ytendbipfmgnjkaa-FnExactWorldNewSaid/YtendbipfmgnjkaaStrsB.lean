/- Slices of strings: marks that are laid into one, and found again. -/
import Derived.Test.YtendbipfmgnjkaaStrsA
import Derived.Test.YtendbipfmgnjkaaDec
import Derived.Deep.RegionHeld3
import Derived.Deep.DrawnRows
namespace Go.Proofs.Ytendbipfmgnjkaa
set_option maxRecDepth 100000
open Go.RowKit
attribute [local go_sem ↓] Go.wp_at_zero Go.wp_at_succ

/-- The text of a mark. -/
def mt (k : Nat) : ByteArray := (⟨#[109]⟩ : ByteArray) ++ ⟨(W.decS k).toArray⟩

set_option maxHeartbeats 400000 in
theorem markText_any (n : Nat) (w : World) (hn : 0 < n) (hm : n ≤ 1000000000) :
    Calls Try.prog 67 #[.int .i64 n] w fun e w' => e = .returned (.string (mt n)) ∧ Below w.heap.size w w' := by
  have h0 : decide ((n : Int) ≤ 0) = false := by simp; omega
  have hl := W.dg_len 20 n (by omega)
  go_enter Try.func67, Try.ntmps67
  go_wp2_with fail
  go_loopw [0, 3] (fun i v wr => ∃ (m : Nat) (s : ByteArray), i = .int .i64 m ∧ v = .string s ∧ m ≤ n ∧ W.dg m ++ s.data.toList = W.dg n ∧ Below w.heap.size w wr) (fun i _ _ => (intOf i).toNat)
  case atStart => exact ⟨n, ⟨#[]⟩, rfl, rfl, Nat.le_refl _, by simp, Below.refl _ _⟩
  case round =>
    obtain ⟨m, s, rfl, rfl, hmn, hs, hb⟩ := hrel
    have HS : Hid (W.dg m ++ s.data.toList = W.dg n) := hs
    have hsz : s.size ≤ 20 := by have := congrArg List.length hs; simp at this; have e : s.data.size = s.size := rfl; omega
    clear hs
    by_cases hz : m = 0
    · subst hz
      have hst : mt n = (⟨#[109]⟩ : ByteArray) ++ s := by
        have := HS.out
        rw [W.dg_zero, List.nil_append] at this
        unfold mt W.decS
        rw [if_neg (by omega), ← this]
      have HT : Hid _ := hst
      clear hst
      go_wp2_with fail
      go_ret
      refine ⟨?_, hb⟩
      rw [HT.out]
      rfl
    · have hp : 0 < m := by omega
      have hB := hb.size
      have ho := oneB_size (48 + (m : Int) % 10)
      have hcv := one_byte wr (48 + (m : Int) % 10) (by omega) (by omega)
      go_wp2_with fail
      go_roundw
      case rel => exact ⟨m / 10, _, by go_num, rfl, by omega, dg_more hp HS.out _ (by omega), hb.alloc hB _⟩
      case measure => simp [intOf]; omega
theorem markText_int (x : Int) (w : World) (h0 : 0 < x) (h1 : x ≤ 1000000000) :
    Calls Try.prog 67 #[.int .i64 x] w fun e w' => e = .returned (.string (mt x.toNat)) ∧ Below w.heap.size w w' := by
  obtain ⟨n, rfl⟩ := Int.eq_ofNat_of_zero_le (Int.le_of_lt h0)
  exact markText_any n w (by omega) (by omega)

/-- Marks from k on. -/
def marks (k n : Nat) : List ByteArray := (List.range n).map fun j => mt (k + j)
theorem marks_len (k n : Nat) : (marks k n).length = n := by simp [marks]
theorem marks_at (k n j : Nat) (h : j < n) : (marks k n).getD j ⟨#[]⟩ = mt (k + j) := by simp [marks, List.getD, h]

set_option maxHeartbeats 400000 in
theorem heldStringS_any (a : Option Addr) (k n ca : Nat) (w : World) (ha : SRow w a (marks k n)) (hk : 0 < k) (hn : k + n ≤ 100000000) :
    Calls Try.prog 44 #[.slice a n ca, .int .i64 k] w fun e w' => e = .returned (.int .i64 (k + n : Nat)) ∧ Below w.heap.size w w' := by
  go_enter Try.func44, Try.ntmps44
  go_wp2_with fail
  go_loopw [1, 5] (fun c i wr => ∃ (j : Nat), i = .int .i64 j ∧ c = .int .i64 (k + j : Nat) ∧ j ≤ n ∧ Below w.heap.size w wr) (fun _ i _ => n - (intOf i).toNat)
  case atStart => exact ⟨0, rfl, rfl, Nat.zero_le _, Below.refl _ _⟩
  case round =>
    obtain ⟨j, rfl, rfl, hj, hb⟩ := hrel
    have hB := hb.size
    by_cases hlt : j < n
    · obtain ⟨g, rfl, hg, hc⟩ := ha (by rw [marks_len]; omega)
      have c1 := hc j (by rw [marks_len]; omega)
      rw [marks_at k n j hlt, ← hb.cell (p := ⟨g, j, none⟩) hg] at c1
      have j0 : (0 : Int) ≤ (j : Int) := by omega
      have j1 : (j : Int) < (n : Int) := by omega
      clear hc
      go_wp2_with fail
      go_region_held3 (fun w' => w'.cell? ⟨g, j, none⟩ = some (.string (mt (k + j)))) (first | go_keep | (rw [hb1.cell (p := ⟨g, j, none⟩) (by simp; omega)]; assumption)) ((go_at_call 67; refine (markText_any (k + j) _ ?_ ?_).mono ?_; (omega); (omega); rintro e w1 ⟨rfl, hb1⟩))
      all_goals go_wp2_with fail
      exact ⟨⟨j + 1, by go_num, congrArg (Value.int .i64) (by omega), by omega, hb.trans ((Below.drew (Below.refl _ _)).trans (hb1.mono hB))⟩, by simp [intOf]; omega⟩
    · have e : j = n := by omega
      subst e
      go_wp2_with fail
      go_ret
      exact ⟨rfl, hb⟩

/-- A row of strings that may be written. -/
def WRow (w : World) (g : Nat) (xs : List ByteArray) : Prop :=
  g < w.heap.size ∧ ∀ j, j < xs.length → w.cell? ⟨g, j, none⟩ = some (.string (xs.getD j ⟨#[]⟩)) ∧ w.frozen? ⟨g, j, none⟩ = false
theorem WRow.srow {w : World} {g : Nat} {xs : List ByteArray} (h : WRow w g xs) : SRow w (some ⟨g, 0, none⟩) xs := fun _ => ⟨g, rfl, h.1, fun j hj => (h.2 j hj).1⟩
theorem WRow.below {w w' : World} {g B : Nat} {xs : List ByteArray} (h : WRow w g xs) (hb : Below B w w') (hg : g < B) : WRow w' g xs :=
  ⟨Nat.lt_of_lt_of_le h.1 hb.size, fun j hj => ⟨(hb.cell (p := ⟨g, j, none⟩) hg).trans (h.2 j hj).1, (hb.frozen (p := ⟨g, j, none⟩) hg).trans (h.2 j hj).2⟩⟩
theorem WRow.set {w : World} {g : Nat} {xs : List ByteArray} (h : WRow w g xs) (i : Nat) (x : ByteArray) (hi : i < xs.length) : WRow (w.setCell ⟨g, i, none⟩ (.string x)) g (xs.set i x) := by
  refine ⟨by have := h.1; simpa [World.setCell] using this, fun j hj => ?_⟩
  rw [List.length_set] at hj
  refine ⟨?_, (World.frozen?_setCell _ _ _ _).trans (h.2 j hj).2⟩
  by_cases e : j = i
  · subst e
    rw [World.cell?_setCell_same _ _ _ (h.2 j hj).1]
    simp [List.getD, hi]
  · rw [World.cell?_setCell_other _ _ _ _ (by first | (simp; done) | (simp; omega)), (h.2 j hj).1]
    simp [List.getD, Ne.symm e]
theorem grownBy_setCell (w : World) (g i : Nat) (v : Value) : w.grownBy (w.setCell ⟨g, i, none⟩ v) (some g) :=
  ⟨rfl, rfl, rfl, by simp [World.setCell], fun k _ hk => Below.heap_setCell _ _ _ _ (fun e => hk (by rw [e]))⟩
theorem grownBy_below {w w' : World} {g : Nat} (h : Below w.heap.size w w') : w.grownBy w' (some g) := ⟨h.os, h.tape, h.output, h.size, fun k hk _ => h.block k hk⟩
theorem grownBy_two {a b c : World} {g : Nat} (h : a.grownBy b (some g)) (k : b.grownBy c (some g)) : a.grownBy c (some g) :=
  ⟨k.os.trans h.os, k.tape.trans h.tape, k.output.trans h.output, Nat.le_trans h.size k.size, fun i hi hn => (k.block i (Nat.lt_of_lt_of_le hi h.size) hn).trans (h.block i hi hn)⟩

theorem set_marks {k j : Nat} {ys : List ByteArray} (h : ∀ t, t < j → ys.getD t ⟨#[]⟩ = mt (k + t)) (hj : j < ys.length) : ∀ t, t < j + 1 → (ys.set j (mt (k + j))).getD t ⟨#[]⟩ = mt (k + t) := by
  intro t ht
  by_cases e : t = j
  · subst e; simp [List.getD, hj]
  · have := h t (by omega)
    simpa [List.getD, List.getElem?_set, Ne.symm e] using this
theorem wrow_marks {w : World} {g k n : Nat} {ys : List ByteArray} (h : WRow w g ys) (hl : ys.length = n) (hy : ∀ t, t < n → ys.getD t ⟨#[]⟩ = mt (k + t)) : WRow w g (marks k n) := by
  refine ⟨h.1, fun j hj => ?_⟩
  rw [marks_len] at hj
  have := h.2 j (by omega)
  rw [marks_at k n j hj, ← hy j hj]
  exact this
theorem markStringS_none (a : Option Addr) (k ca : Nat) (w : World) :
    Calls Try.prog 39 #[.slice a 0 ca, .int .i64 k] w fun e w' => e = .returned (.int .i64 k) ∧ w' = w := by
  go_enter Try.func39, Try.ntmps39
  go_wp2_with fail
  go_rounds 1
  go_ret
  exact ⟨rfl, rfl⟩

set_option maxHeartbeats 400000 in
theorem markStringS_any (g : Nat) (xs : List ByteArray) (k ca : Nat) (w : World) (ha : WRow w g xs) (hk : 0 < k) (hn : k + xs.length ≤ 100000000) (hca : xs.length ≤ ca) :
    Calls Try.prog 39 #[.slice (some ⟨g, 0, none⟩) xs.length ca, .int .i64 k] w fun e w' => e = .returned (.int .i64 (k + xs.length : Nat)) ∧ WRow w' g (marks k xs.length) ∧ w.grownBy w' (some g) := by
  obtain ⟨n, hnx⟩ : ∃ n, n = xs.length := ⟨_, rfl⟩
  have HN : Hid (n = xs.length) := hnx
  rw [← hnx]
  rw [← hnx] at hn hca
  clear hnx
  go_enter Try.func39, Try.ntmps39
  go_wp2_with fail
  go_loopw [1, 5] (fun c i wr => ∃ (j : Nat) (ys : List ByteArray), i = .int .i64 j ∧ c = .int .i64 (k + j : Nat) ∧ j ≤ n ∧ ys.length = n ∧ (∀ t, t < j → ys.getD t ⟨#[]⟩ = mt (k + t)) ∧ WRow wr g ys ∧ w.grownBy wr (some g)) (fun _ i _ => n - (intOf i).toNat)
  case atStart => exact ⟨0, xs, rfl, rfl, Nat.zero_le _, HN.out.symm, fun t ht => by omega, ha, grownBy_below (Below.refl _ _)⟩
  case round =>
    obtain ⟨j, ys, rfl, rfl, hj, hyl, hys, hw, hgr⟩ := hrel
    have HL : Hid (ys.length = n) := hyl
    have HY : Hid _ := hys
    clear hyl hys
    by_cases hlt : j < n
    · have j0 : (0 : Int) ≤ (j : Int) := by omega
      have j1 : (j : Int) < (n : Int) := by omega
      go_wp2_with fail
      refine (markText_any (k + j) _ (by omega) (by omega)).mono ?_
      rintro e w1 ⟨rfl, hb1⟩
      have hw1 := hw.below hb1 hw.1
      have c1 := (hw1.2 j (by have := HL.out; omega)).1
      have c2 := (hw1.2 j (by have := HL.out; omega)).2
      have hset := hw1.set j (mt (k + j)) (by have := HL.out; omega)
      have hgs := grownBy_two hgr (grownBy_two (grownBy_below hb1) (grownBy_setCell w1 g j (.string (mt (k + j)))))
      clear hw hgr hb1
      go_wp2_with fail
      go_roundw
      case rel => exact ⟨j + 1, _, by go_num, congrArg (Value.int .i64) (by omega), by omega, by rw [List.length_set]; exact HL.out, set_marks HY.out (by have := HL.out; omega), hset, hgs⟩
      case measure => simp [intOf]; omega
    · have e : j = n := by omega
      subst e
      have hfin := wrow_marks hw HL.out HY.out
      go_wp2_with fail
      go_ret
      exact ⟨rfl, hfin, hgr⟩
end Go.Proofs.Ytendbipfmgnjkaa
