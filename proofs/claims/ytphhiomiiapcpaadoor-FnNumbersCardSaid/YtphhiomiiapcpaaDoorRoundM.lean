/- Plain facts: what is written is read back. -/
import Derived.Test.YtphhiomiiapcpaaDoorReadVarM
import Derived.Test.YtphhiomiiapcpaaDoorRdM
import Derived.Test.YtphhiomiiapcpaaDoorUnhexM
namespace Go.Proofs.YtphhiomiiapcpaaDoor.W

theorem rv_back (r : List UInt8) : ∀ (f m acc w : Nat) (first : Bool) (p : Nat), m ≤ f → (first = true ∨ 0 < m) → acc + m * w ≤ 1000000000 → 0 < w → w ≤ 1000000000 → rv acc w first (vtF f m ++ r) p = some (acc + m * w, p + (vtF f m).length)
  | 0, m, acc, w, first, p, hm, hf, hs, hw, hw2 => by
    have : m = 0 := by omega
    subst this
    have e : first = true := hf.elim id (fun h => by omega)
    subst e
    have eb : (UInt8.ofNat 0).toNat = 0 := rfl
    show rv acc w true (UInt8.ofNat 0 :: r) p = _
    rw [rv_done acc w true _ r p hw2 (by rw [eb]; omega) (.inr rfl) (by rw [eb]; omega), eb]
    simp [vtF]
  | f + 1, m, acc, w, first, p, hm, hf, hs, hw, hw2 => by
    by_cases hb : 127 < m
    · have e : vtF (f + 1) m = UInt8.ofNat (m % 128 + 128) :: vtF f (m / 128) := by rw [vtF, if_pos hb]
      have eb : (UInt8.ofNat (m % 128 + 128)).toNat = m % 128 + 128 := by simp; omega
      have hsplit : m * w = (m % 128) * w + (m / 128) * (w * 128) := by
        have h1 : m / 128 * (w * 128) = 128 * (m / 128) * w := by rw [Nat.mul_comm w 128, ← Nat.mul_assoc, Nat.mul_comm (m / 128) 128]
        rw [h1, ← Nat.add_mul]
        congr 1
        omega
      have hpos : 0 < m / 128 := by omega
      have hw3 : w * 128 ≤ (m / 128) * (w * 128) := Nat.le_mul_of_pos_left _ hpos
      rw [e, List.cons_append, rv_head acc w first _ _ p hw2 (by rw [eb]; omega), eb, Nat.add_sub_cancel, rv_back r f (m / 128) _ _ false (p + 1) (by omega) (.inr hpos) (by omega) (by omega) (by omega)]
      simp only [List.length_cons]
      congr 2
      · omega
      · omega
    · have e : vtF (f + 1) m = [UInt8.ofNat m] := by rw [vtF, if_neg hb]
      have eb : (UInt8.ofNat m).toNat = m := by simp; omega
      rw [e, List.singleton_append, rv_done acc w first _ _ p hw2 (by rw [eb]; omega) (by rw [eb]; exact hf.elim .inr (fun h => .inl (by omega))) (by rw [eb]; omega), eb]
      simp
theorem readVar_back (s : ByteArray) (a n : Nat) (r : List UInt8) (hn : n ≤ 1000000000) (h : s.data.toList.drop a = vt n ++ r) : readVar s a = some (n, a + (vt n).length) := by
  unfold readVar rvs
  rw [h]
  have := rv_back r n n 0 1 true a (Nat.le_refl _) (.inl rfl) (by omega) (by omega) (by omega)
  simpa [val, vt] using this

theorem dg_isFig : ∀ (f n : Nat), n ≤ f → ∀ c ∈ dg n, isFig c
  | 0, n, h => by have : n = 0 := by omega
                  subst this; intro c hc; simp [dg_zero] at hc
  | f + 1, n, h => by
    by_cases hn : n = 0
    · subst hn; intro c hc; simp [dg_zero] at hc
    · intro c hc
      rw [dg_step n (by omega)] at hc
      rcases List.mem_append.1 hc with h1 | h1
      · exact dg_isFig f (n / 10) (by omega) c h1
      · simp at h1; subst h1
        have e : (UInt8.ofNat (48 + n % 10)).toNat = 48 + n % 10 := by simp; omega
        simp at e
        unfold isFig
        simp
        omega
theorem numV_dg : ∀ (f n : Nat), n ≤ f → numV (dg n) = n
  | 0, n, h => by have : n = 0 := by omega
                  subst this; simp [dg_zero, numV]
  | f + 1, n, h => by
    by_cases hn : n = 0
    · subst hn; simp [dg_zero, numV]
    · rw [dg_step n (by omega), numV_snoc, numV_dg f (n / 10) (by omega)]
      have e : (UInt8.ofNat (48 + n % 10)).toNat = 48 + n % 10 := by simp; omega
      rw [e]; omega
theorem rdS_back (n : Nat) (hn : n ≤ 1000000000) : rdS (decS n) = some n := by
  by_cases h : n = 0
  · subst h
    exact rdS_yes [48] (by simp) (fun c hc => by simp at hc; subst hc; decide) (by simp [numV]) (by simp [numV, decS])
  · have e : decS n = dg n := by unfold decS; rw [if_neg h]
    have ev : numV (dg n) = n := numV_dg n n (Nat.le_refl _)
    rw [e, rdS_yes (dg n) (dg_len 10 n (by omega)) (dg_isFig n n (Nat.le_refl _)) (by rw [ev]; exact hn) (by rw [ev]; exact e), ev]

theorem hv_hf (x : Nat) (h : x < 16) : hvI ((hf x).toNat : Int) = x := by
  rw [hf_toNat x h]
  unfold hvI hfI
  split <;> rename_i h1
  · rw [if_pos (by omega)]; omega
  · rw [if_neg (by omega), if_pos (by omega)]; omega
theorem unh_hexL : ∀ l : List UInt8, unh (hexL l) = some l
  | [] => rfl
  | b :: l => by
    have hlt := b.toNat_lt
    have e : hexL (b :: l) = hf (b.toNat / 16) :: hf (b.toNat % 16) :: hexL l := by simp [hexL]
    rw [e, unh, hv_hf _ (by omega), hv_hf _ (by omega), if_neg (by omega), unh_hexL l]
    have e2 : UInt8.ofNat (((b.toNat / 16 : Nat) : Int) * 16 + ((b.toNat % 16 : Nat) : Int)).toNat = b := by
      have : (((b.toNat / 16 : Nat) : Int) * 16 + ((b.toNat % 16 : Nat) : Int)).toNat = b.toNat := by omega
      rw [this]; simp
    rw [e2]; rfl
end Go.Proofs.YtphhiomiiapcpaaDoor.W
