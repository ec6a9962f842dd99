/- Plain facts on sealed texts: a sealed text is right, and with one byte turned it is not. -/
import Derived.Test.YtmgfciamfdkjdaaDoorSeal
namespace Go.Proofs.YtmgfciamfdkjdaaDoor
open Go.RowKit
open W (B32)

theorem seal_list (t : ByteArray) : (sealB t).data.toList = t.data.toList ++ W.four (W.sumOf t) := by
  unfold sealB fourB; simp
theorem seal_size (t : ByteArray) : (sealB t).size = t.size + 4 := by
  unfold sealB; rw [ByteArray.size_append]; rfl
theorem seal_lo (t : ByteArray) : (sealB t).extract 0 ((sealB t).size - 4) = t := by
  rw [seal_size]
  apply Go.WideShapes.bytes_inj
  have h : t.data.toList.length = t.size := Array.length_toList
  simp [ByteArray.data_extract, seal_list, h]
theorem seal_ok (t : ByteArray) (h : t.size ≤ 20000) : SealOk (sealB t) := by
  have hs := seal_size t
  refine ⟨by omega, by omega, ?_⟩
  rw [seal_lo]
  apply Go.WideShapes.bytes_inj
  have hl : t.data.toList.length = t.size := Array.length_toList
  simp [ByteArray.data_extract, seal_list, hs, hl, fourB]
  exact (List.take_of_length_le (Nat.le_of_eq (W.four_len _))).symm
theorem turned_bad (M : B32) (t : List UInt8) (i : Nat) (b : UInt8) (hi : i < (t ++ W.four (W.crc M t)).length) (hb : b ≠ (t ++ W.four (W.crc M t))[i]) :
    W.four (W.crc M (((t ++ W.four (W.crc M t)).set i b).take t.length)) ≠ ((t ++ W.four (W.crc M t)).set i b).drop t.length := by
  intro h
  rw [List.set_append] at h
  by_cases hc : i < t.length
  · rw [if_pos hc] at h
    have e1 : ((t.set i b) ++ W.four (W.crc M t)).take t.length = t.set i b := by
      rw [List.take_append_of_le_length (by simp)]; exact List.take_of_length_le (by simp)
    have e2 : ((t.set i b) ++ W.four (W.crc M t)).drop t.length = W.four (W.crc M t) := List.drop_left' (by simp)
    rw [e1, e2] at h
    have h2 := W.four_inj _ _ h
    have h3 : t = t.take i ++ t[i] :: t.drop (i + 1) := by simp
    rw [List.set_eq_take_append_cons_drop, if_pos hc] at h2
    have h4 : W.crc M (t.take i ++ b :: t.drop (i + 1)) = W.crc M (t.take i ++ t[i] :: t.drop (i + 1)) := by rw [← h3]; exact h2
    have h5 := W.crc_turned _ _ _ _ _ h4
    apply hb
    rw [h5, List.getElem_append_left hc]
  · rw [if_neg hc] at h
    have e1 : (t ++ (W.four (W.crc M t)).set (i - t.length) b).take t.length = t := List.take_left' rfl
    have e2 : (t ++ (W.four (W.crc M t)).set (i - t.length) b).drop t.length = (W.four (W.crc M t)).set (i - t.length) b := List.drop_left' rfl
    rw [e1, e2] at h
    have hj : i - t.length < (W.four (W.crc M t)).length := by simp at hi; omega
    have h2 : (W.four (W.crc M t))[i - t.length]? = ((W.four (W.crc M t)).set (i - t.length) b)[i - t.length]? := congrArg (·[i - t.length]?) h
    rw [List.getElem?_set_self hj, List.getElem?_eq_getElem hj] at h2
    apply hb
    rw [List.getElem_append_right (by omega)]
    exact (Option.some.inj h2).symm
/-- A sealed text of which one byte is another. -/
theorem turned_not (t : ByteArray) (i : Nat) (b : UInt8) (hi : i < (sealB t).data.toList.length) (hb : b ≠ (sealB t).data.toList[i]) : ¬ SealOk ⟨((sealB t).data.toList.set i b).toArray⟩ := by
  rintro ⟨_, _, h⟩
  have hs := seal_size t
  have hl : t.data.toList.length = t.size := Array.length_toList
  have hL : (sealB t).data.toList.length = (sealB t).size := Array.length_toList
  have hsz : (⟨((sealB t).data.toList.set i b).toArray⟩ : ByteArray).size = t.size + 4 := by
    show ((sealB t).data.toList.set i b).toArray.size = _
    simp; rw [← hs]
  rw [hsz] at h
  have key := turned_bad 4294967295#32 t.data.toList i b (by rw [seal_list] at hi; exact hi) (fun e => hb (e.trans (List.getElem_of_eq (seal_list t) hi).symm))
  apply key
  have h2 := congrArg (fun x : ByteArray => x.data.toList) h
  simp only [W.sumOf, fourB, seal_list, ByteArray.data_extract, Array.toList_extract] at h2
  simp [hl] at h2 ⊢
  rw [h2]
  exact List.take_of_length_le (by simp [hl]; rw [W.four_len]; omega)
theorem u8_turn (o : UInt8) (y : Int) (h1 : 1 ≤ y) (h2 : y ≤ 255) : ∃ b : UInt8, b ≠ o ∧ bits .xor .u8 (o.toNat : Int) y = (b.toNat : Int) := by
  obtain ⟨n, rfl⟩ := Int.eq_ofNat_of_zero_le (show 0 ≤ y by omega)
  refine ⟨o ^^^ UInt8.ofNat n, ?_, ?_⟩
  · intro h
    have h3 : UInt8.ofNat n = 0 := by
      have := congrArg (o ^^^ ·) h
      simpa [← UInt8.xor_assoc] using this
    have h4 := congrArg UInt8.toNat h3
    simp at h4
    omega
  · unfold bits
    have e1 : BitVec.ofInt IntKind.u8.bits (o.toNat : Int) = o.toBitVec := by
      show BitVec.ofInt 8 (o.toNat : Int) = o.toBitVec
      apply BitVec.eq_of_toNat_eq; simp
    have e2 : BitVec.ofInt IntKind.u8.bits (n : Int) = (UInt8.ofNat n).toBitVec := by
      show BitVec.ofInt 8 (n : Int) = (UInt8.ofNat n).toBitVec
      apply BitVec.eq_of_toNat_eq; simp
    simp only [e1, e2]
    have hlt := (o ^^^ UInt8.ofNat n).toNat_lt
    show IntKind.u8.wrap ((o ^^^ UInt8.ofNat n).toNat : Int) = _
    exact IntWalk.u8_in _ ⟨by omega, by omega⟩
/-- A text and one byte more. -/
theorem sum_more (t : ByteArray) : W.crc (W.sumOf t) (⟨#[120]⟩ : ByteArray).data.toList = W.sumOf (t ++ ⟨#[120]⟩) := by
  unfold W.sumOf
  rw [← W.crc_app]
  simp
theorem more_x (t : ByteArray) (w : World) (h : SumTab w) :
    Calls Tryd.prog 20 #[u32 (W.sumOf t), .string ⟨#[120]⟩] w fun e w' => e = .returned (u32 (W.sumOf (t ++ ⟨#[120]⟩))) ∧ w' = w := by
  have hc := implSumMore (W.sumOf t) ⟨#[120]⟩ w h (by show 1 ≤ 1048576; omega)
  rw [sum_more] at hc
  exact hc
end Go.Proofs.YtmgfciamfdkjdaaDoor
