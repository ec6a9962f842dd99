/- Plain facts: the bytes of a number are read back, whatever stands behind them. -/
import Derived.Test.YthhpdkeajogkoaaDoorReadVarM
namespace Go.Proofs.YthhpdkeajogkoaaDoor.W

theorem rv_back (r : List UInt8) : ∀ (f m acc w : Nat) (first : Bool) (p : Nat), m ≤ f → (first = true ∨ 0 < m) → acc + m * w ≤ 1000000000 → 0 < w → w ≤ 1000000000 → rv acc w first (vtF f m ++ r) p = some (acc + m * w, p + (vtF f m).length)
  | 0, m, acc, w, first, p, hm, hf, hs, hw, hw2 => by
    have : m = 0 := by omega
    subst this
    have e : first = true := hf.elim id (fun h => by omega)
    subst e
    have eb : (UInt8.ofNat 0).toNat = 0 := rfl
    show rv acc w true (UInt8.ofNat 0 :: r) p = _
    rw [rv_done acc w true _ r p hw2 (by rw [eb]; omega) (.inr rfl) (by rw [eb]; omega), eb]
    simp [vtF]
  | f + 1, m, acc, w, first, p, hm, hf, hs, hw, hw2 => by
    by_cases hb : 127 < m
    · have e : vtF (f + 1) m = UInt8.ofNat (m % 128 + 128) :: vtF f (m / 128) := by rw [vtF, if_pos hb]
      have eb : (UInt8.ofNat (m % 128 + 128)).toNat = m % 128 + 128 := by simp; omega
      have hsplit : m * w = (m % 128) * w + (m / 128) * (w * 128) := by
        have h1 : m / 128 * (w * 128) = 128 * (m / 128) * w := by rw [Nat.mul_comm w 128, ← Nat.mul_assoc, Nat.mul_comm (m / 128) 128]
        rw [h1, ← Nat.add_mul]
        congr 1
        omega
      have hpos : 0 < m / 128 := by omega
      have hw3 : w * 128 ≤ (m / 128) * (w * 128) := Nat.le_mul_of_pos_left _ hpos
      rw [e, List.cons_append, rv_head acc w first _ _ p hw2 (by rw [eb]; omega), eb, Nat.add_sub_cancel, rv_back r f (m / 128) _ _ false (p + 1) (by omega) (.inr hpos) (by omega) (by omega) (by omega)]
      simp only [List.length_cons]
      congr 2
      · omega
      · omega
    · have e : vtF (f + 1) m = [UInt8.ofNat m] := by rw [vtF, if_neg hb]
      have eb : (UInt8.ofNat m).toNat = m := by simp; omega
      rw [e, List.singleton_append, rv_done acc w first _ _ p hw2 (by rw [eb]; omega) (by rw [eb]; exact hf.elim .inr (fun h => .inl (by omega))) (by rw [eb]; omega), eb]
      simp
theorem readVar_back (s : ByteArray) (a n : Nat) (r : List UInt8) (hn : n ≤ 1000000000) (h : s.data.toList.drop a = vt n ++ r) : readVar s a = some (n, a + (vt n).length) := by
  unfold readVar rvs
  rw [h]
  have := rv_back r n n 0 1 true a (Nat.le_refl _) (.inl rfl) (by omega) (by omega) (by omega)
  simpa [val, vt] using this
end Go.Proofs.YthhpdkeajogkoaaDoor.W
