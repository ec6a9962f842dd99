/- Plain facts on reading hexadecimal figures back. -/
import Derived.Test.YtphhiomiiapcpaaDoorHexM
import Derived.Lib.Bytealg
namespace Go.Proofs.YtphhiomiiapcpaaDoor.W
open Go.PlainAid (bt)

/-- The value of a figure, or -1. -/
def hvI (x : Int) : Int := if 48 ≤ x ∧ x ≤ 57 then x - 48 else if 97 ≤ x ∧ x ≤ 102 then x - 87 else -1
theorem hvI_bd (x : Int) : -1 ≤ hvI x ∧ hvI x ≤ 15 := by unfold hvI; split <;> (try split) <;> omega
def unh : List UInt8 → Option (List UInt8)
  | a :: b :: r => if hvI a.toNat < 0 ∨ hvI b.toNat < 0 then none else (unh r).map (UInt8.ofNat (hvI a.toNat * 16 + hvI b.toNat).toNat :: ·)
  | _ => some []

def UhRel (s : ByteArray) (j : Nat) (l : List UInt8) : Prop := (unh (s.data.toList.drop j)).map (l ++ ·) = unh s.data.toList ∧ j = 2 * l.length ∧ j ≤ s.size
theorem UhRel.start (s : ByteArray) : UhRel s 0 [] := ⟨by simp, rfl, by omega⟩
theorem two_at (s : ByteArray) (j : Nat) (h : j + 1 < s.size) : ∃ (a b : UInt8) (r : List UInt8), s.data.toList.drop j = a :: b :: r ∧ s.data.toList.drop (j + 2) = r ∧ bt s j = (a.toNat : Int) ∧ bt s (j + 1) = (b.toNat : Int) := by
  have e : s.data.toList.length = s.size := rfl
  refine ⟨s[j], s[j + 1], s.data.toList.drop (j + 2), ?_, rfl, ?_, ?_⟩
  · rw [List.drop_eq_getElem_cons (by omega), List.drop_eq_getElem_cons (by omega)]; rfl
  · unfold bt; rw [dif_pos (by omega)]
  · unfold bt; rw [dif_pos h]
theorem UhRel.bad {s : ByteArray} {j : Nat} {l : List UInt8} (h : UhRel s j l) (hk : j + 1 < s.size) (hb : hvI (bt s j) < 0 ∨ hvI (bt s (j + 1)) < 0) : unh s.data.toList = none := by
  obtain ⟨a, b, r, h1, _, h3, h4⟩ := two_at s j hk
  rw [← h.1, h1, unh, if_pos (by rw [← h3, ← h4]; exact hb)]; rfl
theorem UhRel.next {s : ByteArray} {j : Nat} {l : List UInt8} (h : UhRel s j l) (hk : j + 1 < s.size) (ha : 0 ≤ hvI (bt s j)) (hb : 0 ≤ hvI (bt s (j + 1))) :
    UhRel s (j + 2) (l ++ [UInt8.ofNat (hvI (bt s j) * 16 + hvI (bt s (j + 1))).toNat]) := by
  obtain ⟨a, b, r, h1, h2, h3, h4⟩ := two_at s j hk
  refine ⟨?_, by have := h.2.1; simp; omega, by omega⟩
  rw [← h.1, h1, unh, if_neg (by rw [← h3, ← h4]; omega), h3, h4, h2]
  cases unh r <;> simp
theorem UhRel.fin {s : ByteArray} {j : Nat} {l : List UInt8} (h : UhRel s j l) (hk : s.size ≤ j) : unh s.data.toList = some l := by
  have e : s.data.toList.length = s.size := rfl
  rw [← h.1, List.drop_of_length_le (by omega)]; simp [unh]
theorem fig_index : ∀ n, n < 256 → Lib.indexByte [48, 49, 50, 51, 52, 53, 54, 55, 56, 57, 97, 98, 99, 100, 101, 102] (UInt8.ofNat n) = hvI n := by decide +kernel
end Go.Proofs.YtphhiomiiapcpaaDoor.W
namespace Go.Proofs.YtphhiomiiapcpaaDoor
open Go.RowKit
theorem unhex_own {B : Nat} {l : List UInt8} {w wr w1 : World} {v v' : Value} {o : Obj} {x : Int} (hB : B ≤ wr.heap.size) (h0 : 0 ≤ x) (h1 : x < 256)
    (hown : wr.ownsRow B 5 1 v l.length (bv l)) (hb : Below B w wr)
    (hown' : w1.ownsRow B 5 1 v' (l.length + 1) (bv l ++ [.int .u8 x])) (hg : (wr.alloc o).grownBy w1 v.ownBlock) :
    w1.ownsRow B 5 1 v' (l ++ [UInt8.ofNat x.toNat]).length (bv (l ++ [UInt8.ofNat x.toNat])) ∧ Below B w w1 := by
  refine ⟨?_, (hb.alloc hB o).grown hg (by simp; omega) (fun j hj => (hown.lt j hj).1)⟩
  rw [byte_of x h0 h1, bv_snoc] at hown'
  simpa using hown'
end Go.Proofs.YtphhiomiiapcpaaDoor
