/- The walks of the two Sealed and the two Unsealed. -/
import Derived.Test.YthhpdkeajogkoaaDoorSumS
import Derived.Test.YthhpdkeajogkoaaDoorShelf
import Derived.BigQuiet
namespace Go.Proofs.YthhpdkeajogkoaaDoor
open Go.RowKit
open W (B32)
attribute [local go_sem ↓] Go.wp_at_zero Go.wp_at_succ

theorem four_words (x : B32) : IntKind.u8.wrap ((x.toNat : Int) / 16777216) = ((UInt8.ofNat (x.toNat / 16777216)).toNat : Int) ∧ IntKind.u8.wrap ((x.toNat : Int) / 65536) = ((UInt8.ofNat (x.toNat / 65536)).toNat : Int) ∧
    IntKind.u8.wrap ((x.toNat : Int) / 256) = ((UInt8.ofNat (x.toNat / 256)).toNat : Int) ∧ IntKind.u8.wrap (x.toNat : Int) = ((UInt8.ofNat x.toNat).toNat : Int) := by
  refine ⟨?_, ?_, ?_, ?_⟩ <;> simp [IntKind.wrap, IntKind.bits, IntKind.signed]
/-- The four bytes of a sum, as a text. -/
def fourB (x : B32) : ByteArray := ⟨(W.four x).toArray⟩
theorem fourB_size (x : B32) : (fourB x).size = 4 := rfl
theorem four_made (w : World) (c1 c2 c3 c4 : UInt8) : (convert 22 9 (.slice (some ⟨w.heap.size, 0, none⟩) 4 4)).run Tryd.prog (w.alloc (.cells #[.int .u8 (c1.toNat : Int), .int .u8 (c2.toNat : Int), .int .u8 (c3.toNat : Int), .int .u8 (c4.toNat : Int)] 5)) =
    .ok (.string ⟨[c1, c2, c3, c4].toArray⟩) (w.alloc (.cells #[.int .u8 (c1.toNat : Int), .int .u8 (c2.toNat : Int), .int .u8 (c3.toNat : Int), .int .u8 (c4.toNat : Int)] 5)) := by
  refine run_convert_bytes_back _ 22 9 5 ⟨w.heap.size, 0, none⟩ 4 [c1, c2, c3, c4] Tryd.underlying22 Tryd.underlying5 Tryd.underlying9 (fun j hj => ?_)
  have e : (⟨w.heap.size, 0, none⟩ : Addr).add j = ⟨w.heap.size, j, none⟩ := by cases j <;> simp [Addr.add]
  rw [e, World.cell?_alloc_mark]
  match j, hj with
  | 0, _ | 1, _ | 2, _ | 3, _ => rfl
def FourPost (x : B32) (w : World) (e : Ending) (w' : World) : Prop := e = .returned (.string (fourB x)) ∧ Below w.heap.size w w'
theorem implFour (x : B32) (w : World) :
    Calls Tryd.prog 25 #[u32 x] w fun e w' => FourPost x w e w' := by
  obtain ⟨h1, h2, h3, h4⟩ := four_words x
  have hf : W.four x = [UInt8.ofNat (x.toNat / 16777216), UInt8.ofNat (x.toNat / 65536), UInt8.ofNat (x.toNat / 256), UInt8.ofNat x.toNat] := rfl
  generalize UInt8.ofNat (x.toNat / 16777216) = c1 at h1 hf
  generalize UInt8.ofNat (x.toNat / 65536) = c2 at h2 hf
  generalize UInt8.ofNat (x.toNat / 256) = c3 at h3 hf
  generalize UInt8.ofNat x.toNat = c4 at h4 hf
  have HF : Hid (W.four x = [c1, c2, c3, c4]) := hf
  clear hf
  have hmade := four_made w c1 c2 c3 c4
  go_enter Tryd.func25, Tryd.ntmps25
  go_wp2_with fail
  go_ret
  exact ⟨by unfold fourB; rw [HF.out]; rfl, (Below.refl _ _).alloc (Nat.le_refl _) _⟩
theorem specFour (x : B32) (w : World) :
    Calls Tryd.prog 29 #[u32 x] w fun e w' => FourPost x w e w' := by
  obtain ⟨h1, h2, h3, h4⟩ := four_words x
  have hf : W.four x = [UInt8.ofNat (x.toNat / 16777216), UInt8.ofNat (x.toNat / 65536), UInt8.ofNat (x.toNat / 256), UInt8.ofNat x.toNat] := rfl
  generalize UInt8.ofNat (x.toNat / 16777216) = c1 at h1 hf
  generalize UInt8.ofNat (x.toNat / 65536) = c2 at h2 hf
  generalize UInt8.ofNat (x.toNat / 256) = c3 at h3 hf
  generalize UInt8.ofNat x.toNat = c4 at h4 hf
  have HF : Hid (W.four x = [c1, c2, c3, c4]) := hf
  clear hf
  have hmade := four_made w c1 c2 c3 c4
  go_enter Tryd.func29, Tryd.ntmps29
  go_wp2_with fail
  go_ret
  exact ⟨by unfold fourB; rw [HF.out]; rfl, (Below.refl _ _).alloc (Nat.le_refl _) _⟩

/-- A text, sealed. -/
def sealB (s : ByteArray) : ByteArray := s ++ fourB (W.sumOf s)
theorem strCloneS (s : ByteArray) (w : World) (h : s.size ≤ 281474976710656) :
    Calls Tryd.prog 38 #[.string s] w fun e w' => e = .returned (.string s) ∧ Below w.heap.size w w' := by
  go_enter Tryd.func38, Tryd.ntmps38
  go_wp2_with fail
  refine (Tryd.stringslite_Clone s _ h).mono ?_
  rintro e w1 ⟨rfl, hb⟩
  go_wp2_with fail
  go_ret
  exact ⟨rfl, hb⟩
/-- The text and the sum of what is sealed. -/
theorem cut_lo (s : ByteArray) (h : 4 ≤ s.size) (w : World) : (Instr.slice 9 (.string s) none (some (.int .i64 ((s.size : Int) - 4))) none).run Tryd.prog w = .ok (.string (s.extract 0 (s.size - 4))) w := by
  rw [run_slice_string_h (ht := Tryd.underlying9) (kh := .i64) (h0 := by omega) (h2 := by omega), show ((s.size : Int) - 4).toNat = s.size - 4 by omega]
theorem cut_hi (s : ByteArray) (h : 4 ≤ s.size) (w : World) : (Instr.slice 9 (.string s) (some (.int .i64 ((s.size : Int) - 4))) none none).run Tryd.prog w = .ok (.string (s.extract (s.size - 4) s.size)) w := by
  rw [run_slice_string_l (ht := Tryd.underlying9) (kl := .i64) (h0 := by omega) (h1 := by omega), show ((s.size : Int) - 4).toNat = s.size - 4 by omega]
theorem bytes_ne {a b : ByteArray} (h : a ≠ b) : (a.toList == b.toList) = false := by
  rw [ByteArray.toList_eq, ByteArray.toList_eq, beq_eq_false_iff_ne]
  exact fun e => h (ByteArray.ext (Array.toList_inj.1 e))
/-- What is sealed right. -/
def SealOk (s : ByteArray) : Prop := 4 ≤ s.size ∧ s.size ≤ 20004 ∧ fourB (W.sumOf (s.extract 0 (s.size - 4))) = s.extract (s.size - 4) s.size
end Go.Proofs.YthhpdkeajogkoaaDoor
