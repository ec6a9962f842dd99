/- What the loops of ReadDecimal hold from round to round. -/
import Derived.Test.YtphhiomiiapcpaaDoorDecM
import Derived.PlainAid
namespace Go.Proofs.YtphhiomiiapcpaaDoor.W
open Go.PlainAid (bt)

theorem byte_at0 (s : ByteArray) (p r : List UInt8) (he : s.data.toList = p ++ r) (hj : p.length < s.size) : ∃ c r', r = c :: r' ∧ bt s p.length = (c.toNat : Int) := by
  cases r with
  | nil =>
    have hl := congrArg List.length he
    simp at hl
    have : s.data.size = s.size := rfl
    omega
  | cons c r =>
    refine ⟨c, r, rfl, ?_⟩
    have h1 : s.data.toList[p.length]? = some c := by rw [he]; simp
    have h2 : s.data.toList[p.length]'(by simpa using hj) = c := (List.getElem?_eq_some_iff.1 h1).2
    unfold bt
    rw [dif_pos hj]
    have h3 : s[p.length] = s.data.toList[p.length]'(by simpa using hj) := rfl
    rw [h3, h2]
theorem size_of (s : ByteArray) (p r : List UInt8) (he : s.data.toList = p ++ r) : s.size = p.length + r.length := by
  have hl := congrArg List.length he
  simp at hl
  exact hl

def RdRel (s : ByteArray) (k : Nat) (nn : Int) : Prop := ∃ p r : List UInt8, s.data.toList = p ++ r ∧ k = p.length ∧ good p ∧ nn = (numV p : Int) ∧ numV p ≤ 1000000000 ∧ (r ≠ [] ∨ p = [])
theorem RdRel.start (s : ByteArray) : RdRel s 0 0 := ⟨[], s.data.toList, rfl, rfl, good_nil, rfl, by simp [numV], .inr rfl⟩
theorem RdRel.bounds {s : ByteArray} {k : Nat} {nn : Int} (h : RdRel s k nn) : 0 ≤ nn ∧ nn ≤ 1000000000 ∧ k ≤ s.size := by
  obtain ⟨p, r, he, rfl, _, rfl, hm, _⟩ := h
  have := size_of s p r he
  omega
theorem RdRel.none {s : ByteArray} {k : Nat} {nn : Int} (h : RdRel s k nn) (hk : s.size ≤ k) : rdS s.data.toList = none := by
  obtain ⟨p, r, he, rfl, _, rfl, hm, hr⟩ := h
  have := size_of s p r he
  have e : r = [] := List.eq_nil_of_length_eq_zero (by omega)
  rcases hr with h | h
  · exact absurd e h
  · rw [he, e, h]; exact rdS_nil
theorem RdRel.bad {s : ByteArray} {k : Nat} {nn : Int} (h : RdRel s k nn) (hk : k < s.size) (hb : bt s k < 48 ∨ 57 < bt s k) : rdS s.data.toList = Option.none := by
  obtain ⟨p, r, he, rfl, _, rfl, hm, hr⟩ := h
  obtain ⟨c, r', rfl, hc⟩ := byte_at0 s p r he hk
  rw [he]; exact rdS_bad p r' c (by unfold isFig; omega)
theorem RdRel.again {s : ByteArray} {k : Nat} {nn : Int} (h : RdRel s k nn) (hk : k < s.size) (h0 : nn = 0) (h1 : 0 < k) : rdS s.data.toList = Option.none := by
  obtain ⟨p, r, he, rfl, hg, rfl, hm, hr⟩ := h
  obtain ⟨c, r', rfl, hc⟩ := byte_at0 s p r he hk
  rw [he]; exact good_again p _ hg (fun e => by rw [e] at h1; simp at h1) (by simp) (by omega)
theorem RdRel.more {s : ByteArray} {k : Nat} {nn : Int} (h : RdRel s k nn) (hk : k < s.size) (hb : 48 ≤ bt s k) (hb' : bt s k ≤ 57) (h0 : nn ≠ 0 ∨ k = 0) :
    (1000000000 < nn * 10 + (bt s k - 48) → rdS s.data.toList = Option.none) ∧
    (nn * 10 + (bt s k - 48) ≤ 1000000000 → k + 1 = s.size → rdS s.data.toList = some (nn * 10 + (bt s k - 48)).toNat) ∧
    (nn * 10 + (bt s k - 48) ≤ 1000000000 → k + 1 < s.size → RdRel s (k + 1) (nn * 10 + (bt s k - 48))) := by
  obtain ⟨p, r, he, rfl, hg, rfl, hm, hr⟩ := h
  obtain ⟨c, r', rfl, hc⟩ := byte_at0 s p r he hk
  have hsz := size_of s p _ he
  rw [hc] at hb hb' ⊢
  have hf : isFig c := by unfold isFig; omega
  have e : ((numV p : Int)) * 10 + ((c.toNat : Int) - 48) = ((numV (p ++ [c]) : Nat) : Int) := by rw [numV_snoc]; omega
  have he' : s.data.toList = (p ++ [c]) ++ r' := by rw [he]; simp
  have hg' : good (p ++ [c]) := good_step p c hg hf (by
    rcases h0 with h | h
    · right; omega
    · left; exact List.eq_nil_of_length_eq_zero h)
  rw [e]
  refine ⟨fun h => ?_, fun h hl => ?_, fun h hl => ?_⟩
  · rw [he']; exact rdS_great _ _ (by omega)
  · have : r' = [] := List.eq_nil_of_length_eq_zero (by simp at hsz; omega)
    subst this
    rw [he', List.append_nil, good_yes _ hg' (by simp) (by omega), Int.toNat_natCast]
  · refine ⟨p ++ [c], r', he', by simp, hg', rfl, by omega, .inl (fun e => ?_)⟩
    subst e
    simp at hsz; omega

def SdRel (s : ByteArray) (k : Nat) (nn : Int) : Prop := ∃ p r : List UInt8, s.data.toList = p ++ r ∧ k = p.length ∧ (∀ c ∈ p, isFig c) ∧ nn = (numV p : Int)
theorem SdRel.start (s : ByteArray) : SdRel s 0 0 := ⟨[], s.data.toList, rfl, rfl, fun _ h => by simp at h, rfl⟩
theorem SdRel.bounds {s : ByteArray} {k : Nat} {nn : Int} (h : SdRel s k nn) (hs : s.size ≤ 10) : 0 ≤ nn ∧ nn < 10000000000 ∧ k ≤ s.size := by
  obtain ⟨p, r, he, rfl, hf, rfl⟩ := h
  have := size_of s p r he
  have h1 := numV_lt p hf
  have h2 : 10 ^ p.length ≤ 10 ^ 10 := Nat.pow_le_pow_right (by omega) (by omega)
  omega
theorem SdRel.bad {s : ByteArray} {k : Nat} {nn : Int} (h : SdRel s k nn) (hk : k < s.size) (hb : bt s k < 48 ∨ 57 < bt s k) : rdS s.data.toList = Option.none := by
  obtain ⟨p, r, he, rfl, _, rfl⟩ := h
  obtain ⟨c, r', rfl, hc⟩ := byte_at0 s p r he hk
  rw [he]; exact rdS_bad p r' c (by unfold isFig; omega)
theorem SdRel.next {s : ByteArray} {k : Nat} {nn : Int} (h : SdRel s k nn) (hk : k < s.size) (hb : 48 ≤ bt s k) (hb' : bt s k ≤ 57) : SdRel s (k + 1) (10 * nn + bt s k - 48) := by
  obtain ⟨p, r, he, rfl, hf, rfl⟩ := h
  obtain ⟨c, r', rfl, hc⟩ := byte_at0 s p r he hk
  rw [hc] at hb hb' ⊢
  refine ⟨p ++ [c], r', by rw [he]; simp, by simp, fun x hx => ?_, by rw [numV_snoc]; omega⟩
  rcases List.mem_append.1 hx with h | h
  · exact hf x h
  · simp at h; subst h; unfold isFig; omega
theorem SdRel.fin {s : ByteArray} {k : Nat} {nn : Int} (h : SdRel s k nn) (hs : s.size ≤ 10) (hk : s.size ≤ k) :
    rdS s.data.toList = if nn ≤ 1000000000 ∧ decS nn.toNat = s.data.toList then some nn.toNat else Option.none := by
  obtain ⟨p, r, he, rfl, hf, rfl⟩ := h
  have hsz := size_of s p r he
  have : r = [] := List.eq_nil_of_length_eq_zero (by omega)
  subst this
  rw [List.append_nil] at he
  rw [he, Int.toNat_natCast]
  by_cases h1 : ((numV p : Nat) : Int) ≤ 1000000000 ∧ decS (numV p) = p
  · rw [if_pos h1]; exact rdS_yes p (by omega) hf (by omega) h1.2
  · rw [if_neg h1]; exact rdS_no p (fun x => h1 ⟨by have := x.2.2.1; omega, x.2.2.2⟩)
theorem rdS_long (s : ByteArray) (h : 10 < s.size) : rdS s.data.toList = Option.none := rdS_no _ (fun x => by have := x.1; have e : s.data.size = s.size := rfl; simp at this; omega)
end Go.Proofs.YtphhiomiiapcpaaDoor.W
