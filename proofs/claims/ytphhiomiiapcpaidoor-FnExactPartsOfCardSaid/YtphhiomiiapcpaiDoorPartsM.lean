/- Plain facts on the parts of a line: what the model's loop gathers is what the library's Fields gathers, where every byte is between 32 and 126. -/
import Derived.Test.YtphhiomiiapcpaiDoorBytes
import Derived.PlainAid
import Derived.Lib.Fields
namespace Go.Proofs.YtphhiomiiapcpaiDoor.W
open Go.PlainAid (bt)
open Go.Lib

abbrev okB (b : UInt8) : Prop := 32 ≤ b.toNat ∧ b.toNat ≤ 126
theorem isSp_ok (b : UInt8) (h : okB b) : isSp b = decide (b.toNat = 32) := by
  have key : ∀ n, n < 127 → 32 ≤ n → isSp (UInt8.ofNat n) = decide (n = 32) := by decide +kernel
  have := key b.toNat (by omega) h.1
  simpa using this

/-- The bytes from bg to i. -/
def cut (s : ByteArray) (bg i : Nat) : List UInt8 := (s.extract bg i).data.toList
theorem cut_eq (s : ByteArray) (bg i : Nat) : cut s bg i = (s.data.toList.drop bg).take (i - bg) := by simp [cut, ByteArray.data_extract]
theorem cut_self (s : ByteArray) (i : Nat) : cut s i i = [] := by rw [cut_eq]; simp
theorem cut_len (s : ByteArray) (bg i : Nat) (h : i ≤ s.size) (hb : bg ≤ i) : (cut s bg i).length = i - bg := by
  have e : s.data.toList.length = s.size := rfl
  rw [cut_eq]; simp at e ⊢; omega
theorem cut_step (s : ByteArray) (bg i : Nat) (h : i < s.size) (hb : bg ≤ i) : ∃ b : UInt8, cut s bg (i + 1) = cut s bg i ++ [b] ∧ s.data.toList.drop i = b :: s.data.toList.drop (i + 1) ∧ bt s i = (b.toNat : Int) := by
  have e : s.data.toList.length = s.size := rfl
  refine ⟨s[i], ?_, ?_, ?_⟩
  · rw [cut_eq, cut_eq, show i + 1 - bg = (i - bg) + 1 from by omega, List.take_succ_eq_append_getElem (by simp at e ⊢; omega)]
    congr 2
    rw [List.getElem_drop]
    have : bg + (i - bg) = i := by omega
    simp only [this]; rfl
  · rw [List.drop_eq_getElem_cons (by omega)]; rfl
  · unfold bt; rw [dif_pos h]

/-- What has been gathered ahead of i. -/
def PfRel (s : ByteArray) (i bg : Nat) (done : List (List UInt8)) : Prop :=
  bg ≤ i ∧ i ≤ s.size ∧ (∀ j, j < i → 32 ≤ bt s j ∧ bt s j ≤ 126) ∧ done ++ fieldsGo (cut s bg i) (s.data.toList.drop i) = fields s.data.toList
theorem PfRel.start (s : ByteArray) : PfRel s 0 0 [] := ⟨Nat.le_refl _, Nat.zero_le _, fun j h => by omega, by rw [cut_self]; rfl⟩
theorem PfRel.word {s : ByteArray} {i bg : Nat} {done : List (List UInt8)} (h : PfRel s i bg done) (hi : i < s.size) (h1 : 32 ≤ bt s i) (h2 : bt s i ≤ 126) (h3 : bt s i ≠ 32) : PfRel s (i + 1) bg done := by
  obtain ⟨b, c1, c2, c3⟩ := cut_step s bg i hi h.1
  refine ⟨by have := h.1; omega, by omega, fun j hj => ?_, ?_⟩
  · by_cases e : j = i
    · subst e; exact ⟨h1, h2⟩
    · exact h.2.2.1 j (by omega)
  · rw [← h.2.2.2, c2, c1, fieldsGo_more _ _ _ (by rw [isSp_ok b ⟨by omega, by omega⟩, decide_eq_false]; omega)]
theorem PfRel.blank {s : ByteArray} {i bg : Nat} {done : List (List UInt8)} (h : PfRel s i bg done) (hi : i < s.size) (h3 : bt s i = 32) :
    (i ≤ bg → PfRel s (i + 1) (i + 1) done) ∧ (bg < i → PfRel s (i + 1) (i + 1) (done ++ [cut s bg i])) := by
  obtain ⟨b, c1, c2, c3⟩ := cut_step s bg i hi h.1
  have hsp : isSp b = true := by rw [isSp_ok b ⟨by omega, by omega⟩, decide_eq_true]; omega
  have hok : ∀ j, j < i + 1 → 32 ≤ bt s j ∧ bt s j ≤ 126 := fun j hj => by
    by_cases e : j = i
    · subst e; omega
    · exact h.2.2.1 j (by omega)
  have h4 := h.2.2.2
  rw [c2] at h4
  refine ⟨fun hb => ⟨Nat.le_refl _, by omega, hok, ?_⟩, fun hb => ⟨Nat.le_refl _, by omega, hok, ?_⟩⟩
  · have e : bg = i := by have := h.1; omega
    rw [e, cut_self, fieldsGo_sp _ _ hsp] at h4
    rw [cut_self]; exact h4
  · rw [fieldsGo_end _ _ _ hsp (fun e => by have := cut_len s bg i (by omega) h.1; rw [e] at this; simp at this; omega)] at h4
    rw [cut_self, ← h4]; simp
theorem PfRel.fin {s : ByteArray} {i bg : Nat} {done : List (List UInt8)} (h : PfRel s i bg done) (hi : s.size ≤ i) :
    (i ≤ bg → fields s.data.toList = done) ∧ (bg < i → fields s.data.toList = done ++ [cut s bg i]) := by
  have e0 : s.data.toList.length = s.size := rfl
  have h4 := h.2.2.2
  rw [List.drop_of_length_le (by omega)] at h4
  refine ⟨fun hb => ?_, fun hb => ?_⟩
  · have e : bg = i := by have := h.1; omega
    rw [e, cut_self] at h4
    rw [← h4]; simp [fieldsGo]
  · rw [← h4]
    have hne : cut s bg i ≠ [] := fun e => by have := cut_len s bg i h.2.1 h.1; rw [e] at this; simp at this; omega
    cases hc : cut s bg i with
    | nil => exact absurd hc hne
    | cons x r => simp [fieldsGo]

/-- The parts, where there are some to answer. -/
def printable (s : ByteArray) : Prop := ∀ j, j < s.size → 32 ≤ bt s j ∧ bt s j ≤ 126
theorem PfRel.len {s : ByteArray} {i bg : Nat} {done : List (List UInt8)} (h : PfRel s i bg done) : done.length ≤ (fields s.data.toList).length := by
  rw [← h.2.2.2]; simp
theorem fields_le (s : ByteArray) : ∀ (l cur : List UInt8), (fieldsGo cur l).length ≤ l.length + 1
  | [], cur => by cases cur <;> simp [fieldsGo]
  | b :: l, cur => by
    by_cases h : isSp b = true
    · cases cur with
      | nil => rw [fieldsGo_sp _ _ h]; have := fields_le s l []; simp; omega
      | cons x r => rw [fieldsGo_end _ _ _ h (by simp)]; have := fields_le s l []; simp; omega
    · rw [fieldsGo_more _ _ _ (by simpa using h)]; have := fields_le s l (cur ++ [b]); simp; omega
theorem fields_len (s : ByteArray) : (fields s.data.toList).length ≤ s.size + 1 := fields_le s s.data.toList []
end Go.Proofs.YtphhiomiiapcpaiDoor.W
