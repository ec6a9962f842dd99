/- The walks of l01Var and l01In. -/
import Derived.Test.YthhpdkeajogkoaaDoorWords
import Derived.Test.YthhpdkeajogkoaaDoorBytes
namespace Go.Proofs.YthhpdkeajogkoaaDoor
open Go.RowKit

/-- What one round of the loop does to the row of bytes. -/
theorem step_byte {B n m : Nat} {l : List UInt8} {w wr w1 : World} {v v' : Value} {o : Obj} {x : Int} (hB : B ≤ wr.heap.size) (hx : x = (m % 128 + 128 : Nat))
    (hm : 127 < m) (hl : l.length + m ≤ n) (ht : l ++ W.vt m = W.vt n)
    (hown : wr.ownsRow B 5 1 v l.length (bv l)) (hb : Below B w wr)
    (hown' : w1.ownsRow B 5 1 v' (l.length + 1) (bv l ++ [.int .u8 x])) (hg : (wr.alloc o).grownBy w1 v.ownBlock) :
    ∃ l', l'.length + m / 128 ≤ n ∧ l' ++ W.vt (m / 128) = W.vt n ∧ w1.ownsRow B 5 1 v' l'.length (bv l') ∧ Below B w w1 := by
  refine ⟨l ++ [UInt8.ofNat (m % 128 + 128)], by simp; omega, by rw [← ht, W.vt_big m hm]; simp, ?_, ?_⟩
  · have e := byte_of x (by omega) (by omega)
    rw [e, bv_snoc] at hown'
    have : UInt8.ofNat x.toNat = UInt8.ofNat (m % 128 + 128) := by rw [hx]; rfl
    rw [this] at hown'
    simpa using hown'
  · exact (hb.alloc hB o).grown hg (by simp; omega) (fun j hj => by have := (hown.lt j hj).1; omega)
theorem last_byte {B n m : Nat} {l : List UInt8} {w wr w1 : World} {v v' : Value} {o : Obj} {x : Int} (hB : B ≤ wr.heap.size) (hx : x = m)
    (hm : m ≤ 127) (ht : l ++ W.vt m = W.vt n)
    (hown : wr.ownsRow B 5 1 v l.length (bv l)) (hb : Below B w wr)
    (hown' : w1.ownsRow B 5 1 v' (l.length + 1) (bv l ++ [.int .u8 x])) (hg : (wr.alloc o).grownBy w1 v.ownBlock) :
    (convert 22 9 v').run Tryd.prog w1 = .ok (.string ⟨(W.vt n).toArray⟩) w1 ∧ Below B w w1 := by
  refine ⟨?_, (hb.alloc hB o).grown hg (by simp; omega) (fun j hj => by have := (hown.lt j hj).1; omega)⟩
  have e := byte_of x (by omega) (by omega)
  rw [e, bv_snoc] at hown'
  have : UInt8.ofNat x.toNat = UInt8.ofNat m := by rw [hx]; rfl
  rw [this] at hown'
  have hn : W.vt n = l ++ [UInt8.ofNat m] := by rw [← ht, W.vt_small m hm]
  rw [hn]
  exact own_string (by simpa using hown')

set_option maxHeartbeats 400000 in
theorem l01Var_any (n : Nat) (w : World) (hn : n ≤ 1099511627776) :
    Calls Tryd.prog 28 #[.int .i64 n] w fun e w' => e = .returned (.string ⟨(W.vt n).toArray⟩) ∧ Below w.heap.size w w' := by
  obtain ⟨i0, hi, hz0, hz1, hz2⟩ := info_parts Tryd.info5
  go_enter Tryd.func28, Tryd.ntmps28
  go_wp2_with fail
  go_loopw [0, 3] (fun i v wr => ∃ (m : Nat) (l : List UInt8), i = .int .i64 m ∧ l.length + m ≤ n ∧ l ++ W.vt m = W.vt n ∧ wr.ownsRow w.heap.size 5 1 v l.length (bv l) ∧ Below w.heap.size w wr) (fun i _ _ => (intOf i).toNat)
  case atStart => exact ⟨n, [], rfl, by simp, rfl, World.ownsRow_made w #[] 0 (Nat.le_refl _) (by decide) rfl, (Below.refl _ _).alloc (Nat.le_refl _) _⟩
  case round =>
    obtain ⟨m, l, rfl, hl, ht, hown, hb⟩ := hrel
    have hB := hb.size
    have HT : Hid (l ++ W.vt m = W.vt n) := ht
    clear ht
    by_cases hm : 127 < m
    · go_wp2_with (at_builtin; refine wpList_append_own _ rfl _ _ 22 rfl w.heap.size 5 i0 (.int .u8 0) 1 1 Tryd.underlying22 hi hz0 hz1 hz2 rfl (by decide) _ _ _ rfl (hown.alloc _) ⟨wr.heap.size, 0, none⟩ 1 1 [.int .u8 _] rfl rfl (cell_one_new _ _ _) ?c2 ?c3 ?c4 ?c5 ?_)
      case c2 => intro u hu; simp at hu; subst hu; rfl
      case c3 => unfold maxLen; omega
      case c4 => omega
      case c5 => simp; omega
      · intro v' w1 hown' hgrow _
        obtain ⟨l', h1, h2, h3, h4⟩ := step_byte hB (by omega) hm hl HT.out hown hb hown' hgrow
        have H2 : Hid (l' ++ W.vt (m / 128) = W.vt n) := h2
        clear hown' hgrow hown h2
        go_wp2
        go_roundw
        case rel => exact ⟨m / 128, l', by go_num, h1, H2.out, h3, h4⟩
        case measure => simp [intOf]; omega
    · go_wp2_with (at_builtin; refine wpList_append_own _ rfl _ _ 22 rfl w.heap.size 5 i0 (.int .u8 0) 1 1 Tryd.underlying22 hi hz0 hz1 hz2 rfl (by decide) _ _ _ rfl (hown.alloc _) ⟨wr.heap.size, 0, none⟩ 1 1 [.int .u8 _] rfl rfl (cell_one_new _ _ _) ?c2 ?c3 ?c4 ?c5 ?_)
      case c2 => intro u hu; simp at hu; subst hu; rfl
      case c3 => unfold maxLen; omega
      case c4 => omega
      case c5 => simp; omega
      · intro v' w1 hown' hgrow _
        obtain ⟨hc, h4⟩ := last_byte hB (by omega) (by omega) HT.out hown hb hown' hgrow
        clear hown' hgrow hown
        go_wp2
        go_ret
        exact ⟨rfl, h4⟩

theorem l01Var_int (x : Int) (w : World) (h0 : 0 ≤ x) (h1 : x ≤ 1099511627776) :
    Calls Tryd.prog 28 #[.int .i64 x] w fun e w' => e = .returned (.string ⟨(W.vt x.toNat).toArray⟩) ∧ Below w.heap.size w w' := by
  obtain ⟨n, rfl⟩ := Int.eq_ofNat_of_zero_le h0
  exact l01Var_any n w (by omega)

theorem l01In_any (x a b : Int) (w : World) :
    Calls Tryd.prog 27 #[.int .i64 x, .int .i64 a, .int .i64 b] w fun e w' => e = .returned (.bool (decide (a ≤ x) && decide (x ≤ b))) ∧ w' = w := by
  by_cases h : a ≤ x
  · by_cases h' : x ≤ b
    · go_enter Tryd.func27, Tryd.ntmps27
      go_wp2
      go_ret
      exact ⟨by simp [h, h'], rfl⟩
    · go_enter Tryd.func27, Tryd.ntmps27
      go_wp2
      go_ret
      exact ⟨by simp [h'], rfl⟩
  · go_enter Tryd.func27, Tryd.ntmps27
    go_wp2
    go_ret
    exact ⟨by simp; omega, rfl⟩
end Go.Proofs.YthhpdkeajogkoaaDoor
