/- The walks of the models' Decimal, and of the two ReadDecimal. -/
import Derived.Test.YtendbipfmgnjkaaDecM
import Derived.Test.YtendbipfmgnjkaaBytes
import Derived.PlainAid
import Derived.Deep.LoopGhost
import Derived.BigQuiet
import Derived.Deep.QuietTactic
namespace Go.Proofs.Ytendbipfmgnjkaa
set_option maxRecDepth 100000
open Go.RowKit
open Go.PlainAid (bt)

/-- The text of one byte. -/
def oneB (c : Int) : ByteArray := ⟨#[UInt8.ofNat c.toNat]⟩
theorem oneB_size (c : Int) : (oneB c).size = 1 := rfl
/-- 'string([]byte{c})'. -/
theorem one_byte (W : World) (c : Int) (h0 : 0 ≤ c) (h1 : c < 256) :
    (convert 119 9 (.slice (some ⟨W.heap.size, 0, none⟩) 1 1)).run Try.prog (W.alloc (.cells #[.int .u8 c] 5)) =
      .ok (.string (oneB c)) (W.alloc (.cells #[.int .u8 c] 5)) := by
  have := run_convert_bytes_back (P := Try.prog) (W.alloc (.cells #[.int .u8 c] 5)) 119 9 5 ⟨W.heap.size, 0, none⟩ 1 [UInt8.ofNat c.toNat] Try.underlying119 Try.underlying5 Try.underlying9
    (fun j hj => by
      have : j = 0 := by simp at hj; omega
      subst this
      have e := byte_of c h0 h1
      rw [e]
      exact cell_one_new W _ _ 0 _ rfl)
  simpa [oneB] using this

theorem dg_more {n m : Nat} {s : ByteArray} (hm : 0 < m) (h : W.dg m ++ s.data.toList = W.dg n) (c : Int) (hc : c = 48 + ((m % 10 : Nat) : Int)) :
    W.dg (m / 10) ++ (oneB c ++ s).data.toList = W.dg n := by
  rw [← h, W.dg_step m hm]
  have e : UInt8.ofNat c.toNat = UInt8.ofNat (48 + m % 10) := by rw [hc]; congr 1
  unfold oneB
  rw [e]
  simp

theorem neg_words (m : Nat) (h : m ≤ 9223372036854775808) : (-(m : Int)).tmod 10 = -((m : Int) % 10) ∧ (-(m : Int)).tdiv 10 = -((m : Int) / 10) := by
  rw [Int.neg_tmod, Int.neg_tdiv, Int.tmod_eq_emod_of_nonneg (by omega), Int.tdiv_eq_ediv_of_nonneg (by omega)]
  exact ⟨rfl, rfl⟩

end Go.Proofs.Ytendbipfmgnjkaa
