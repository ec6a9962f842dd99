/- The walks of l01Var and l01In. -/
import Derived.Test.YtendbipfmgnjkaaWords
import Derived.Test.YtendbipfmgnjkaaBytes
namespace Go.Proofs.Ytendbipfmgnjkaa
set_option maxRecDepth 100000
open Go.RowKit

/-- What one round of the loop does to the row of bytes. -/
theorem step_byte {B n m : Nat} {l : List UInt8} {w wr w1 : World} {v v' : Value} {o : Obj} {x : Int} (hB : B ≤ wr.heap.size) (hx : x = (m % 128 + 128 : Nat))
    (hm : 127 < m) (hl : l.length + m ≤ n) (ht : l ++ W.vt m = W.vt n)
    (hown : wr.ownsRow B 5 1 v l.length (bv l)) (hb : Below B w wr)
    (hown' : w1.ownsRow B 5 1 v' (l.length + 1) (bv l ++ [.int .u8 x])) (hg : (wr.alloc o).grownBy w1 v.ownBlock) :
    ∃ l', l'.length + m / 128 ≤ n ∧ l' ++ W.vt (m / 128) = W.vt n ∧ w1.ownsRow B 5 1 v' l'.length (bv l') ∧ Below B w w1 := by
  refine ⟨l ++ [UInt8.ofNat (m % 128 + 128)], by simp; omega, by rw [← ht, W.vt_big m hm]; simp, ?_, ?_⟩
  · have e := byte_of x (by omega) (by omega)
    rw [e, bv_snoc] at hown'
    have : UInt8.ofNat x.toNat = UInt8.ofNat (m % 128 + 128) := by rw [hx]; rfl
    rw [this] at hown'
    simpa using hown'
  · exact (hb.alloc hB o).grown hg (by simp; omega) (fun j hj => by have := (hown.lt j hj).1; omega)
theorem last_byte {B n m : Nat} {l : List UInt8} {w wr w1 : World} {v v' : Value} {o : Obj} {x : Int} (hB : B ≤ wr.heap.size) (hx : x = m)
    (hm : m ≤ 127) (ht : l ++ W.vt m = W.vt n)
    (hown : wr.ownsRow B 5 1 v l.length (bv l)) (hb : Below B w wr)
    (hown' : w1.ownsRow B 5 1 v' (l.length + 1) (bv l ++ [.int .u8 x])) (hg : (wr.alloc o).grownBy w1 v.ownBlock) :
    (convert 119 9 v').run Try.prog w1 = .ok (.string ⟨(W.vt n).toArray⟩) w1 ∧ Below B w w1 := by
  refine ⟨?_, (hb.alloc hB o).grown hg (by simp; omega) (fun j hj => by have := (hown.lt j hj).1; omega)⟩
  have e := byte_of x (by omega) (by omega)
  rw [e, bv_snoc] at hown'
  have : UInt8.ofNat x.toNat = UInt8.ofNat m := by rw [hx]; rfl
  rw [this] at hown'
  have hn : W.vt n = l ++ [UInt8.ofNat m] := by rw [← ht, W.vt_small m hm]
  rw [hn]
  exact own_string (by simpa using hown')

theorem l01In_any (x a b : Int) (w : World) :
    Calls Try.prog 24 #[.int .i64 x, .int .i64 a, .int .i64 b] w fun e w' => e = .returned (.bool (decide (a ≤ x) && decide (x ≤ b))) ∧ w' = w := by
  by_cases h : a ≤ x
  · by_cases h' : x ≤ b
    · go_enter Try.func24, Try.ntmps24
      go_wp2
      go_ret
      exact ⟨by simp [h, h'], rfl⟩
    · go_enter Try.func24, Try.ntmps24
      go_wp2
      go_ret
      exact ⟨by simp [h'], rfl⟩
  · go_enter Try.func24, Try.ntmps24
    go_wp2
    go_ret
    exact ⟨by simp; omega, rfl⟩
end Go.Proofs.Ytendbipfmgnjkaa
