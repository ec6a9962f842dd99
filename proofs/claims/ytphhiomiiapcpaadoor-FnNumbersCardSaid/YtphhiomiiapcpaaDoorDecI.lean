/- The program's Decimal, by the library's Itoa. -/
import Derived.Test.YtphhiomiiapcpaaDoorDecM
import Derived.Test.YtphhiomiiapcpaaDoorShelf
import Derived.WalkKit
import Derived.Handy
import Derived.Below
import Derived.Lib.LaidTab
import Derived.Lib.SmallJoins
import Derived.Lib.ItoaNum
import Derived.Lib.AppendIntMem
namespace Go.Proofs.YtphhiomiiapcpaaDoor
open Go.RowKit

theorem dec_is (n : Nat) : Lib.decDigits n = W.decS n := by
  suffices h : ∀ f n, n ≤ f → 0 < n → Lib.decDigits n = W.dg n by
    by_cases hn : n = 0
    · subst hn; rw [Lib.decDigits_one (by omega)]; rfl
    · rw [h n n (Nat.le_refl _) (by omega)]; unfold W.decS; rw [if_neg hn]
  intro f
  induction f with
  | zero => intro n h h0; omega
  | succ f ih =>
    intro n h h0
    rw [W.dg_step n h0]
    by_cases h1 : n < 10
    · rw [Lib.decDigits_one h1]
      have e : n / 10 = 0 := by omega
      rw [e, W.dg_zero, Nat.mod_eq_of_lt h1]; rfl
    · rw [Lib.decDigits, dif_neg h1, ih (n / 10) (by omega) (by omega)]

theorem gPow : Tryd.prog.globalNamed "internal/strconv.uint64pow10" = some 1 := by kernel_rfl
theorem implDecimal (n : Int) (w : World) (h0 : -9223372036854775808 ≤ n) (h1 : n ≤ 9223372036854775807) (htab : Lib.TabIs Tryd.prog w "internal/strconv.uint64pow10" .u64 Lib.pow10Tab) :
    Calls Tryd.prog 9 #[.int .i64 n] w fun e w' => e = .returned (.string ⟨(Lib.itoa n).toArray⟩) ∧ Below w.heap.size w w' := by
  go_enter Tryd.func9, Tryd.ntmps9
  go_wp2_with fail
  refine (Tryd.strconv_Itoa n h0 h1 _ htab).mono ?_
  rintro e w1 ⟨rfl, k, os, rfl⟩
  go_wp2_with fail
  go_ret
  exact ⟨rfl, Lib.below_grow _ _ (Nat.le_refl _) _ _⟩
end Go.Proofs.YtphhiomiiapcpaaDoor
