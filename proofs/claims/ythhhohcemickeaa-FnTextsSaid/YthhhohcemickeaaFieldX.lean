/- The walks of the two exact laws of texts in the field of bytes, over what is told of the program's own functions at every argument. -/
import Derived.Test.YthhhohcemickeaaFieldU
namespace Go.Proofs.Ythhhohcemickeaa
open Go.RowKit
open W (B8)
attribute [local irreducible] W.gm addB mulT

theorem exactAddText (h : TextsOk) (a b : ByteArray) (w : World) : Calls Try.prog 8 #[.string a, .string b] w fun e w' => e = .returned (.bool true) ∧ Below w.heap.size w w' := by
  by_cases ha : a.size ≤ 1048576
  · have ha' : ¬ (1048576 : Int) < (a.size : Int) := by omega
    by_cases hb : b.size ≤ 1048576
    · have hb' : ¬ (1048576 : Int) < (b.size : Int) := by omega
      have c1 := fun w => specAddText a b w ha hb
      have c2 := fun w => h.add a b w ha hb
      generalize addB a b = R at c1 c2
      clear h ha hb
      go_enter Try.func8, Try.ntmps8
      go_wp2_with fail
      refine (c1 _).mono ?_
      rintro e w1 ⟨rfl, hb1⟩
      go_wp2_with fail
      refine (c2 _).mono ?_
      rintro e w2 ⟨rfl, hb2⟩
      clear c1 c2
      go_wp2_with fail
      go_ret
      exact ⟨rfl, hb1.trans (hb2.mono hb1.size)⟩
    · have hb' : (1048576 : Int) < (b.size : Int) := by omega
      go_enter Try.func8, Try.ntmps8
      go_wp2_with fail
      go_ret
      exact ⟨rfl, Below.refl _ _⟩
  · have ha' : (1048576 : Int) < (a.size : Int) := by omega
    go_enter Try.func8, Try.ntmps8
    go_wp2_with fail
    go_ret
    exact ⟨rfl, Below.refl _ _⟩
theorem exactMulText (h : TextsOk) (x : Int) (s : ByteArray) (w : World) : Calls Try.prog 9 #[.int .i64 x, .string s] w fun e w' => e = .returned (.bool true) ∧ Below w.heap.size w w' := by
  by_cases hs : s.size ≤ 1048576
  · have hs' : ¬ (1048576 : Int) < (s.size : Int) := by omega
    have c1 := fun w => specMulText x s w hs
    have c2 := fun w => h.mul x s w hs
    generalize mulT (g8 x) s = R at c1 c2
    clear h hs
    go_enter Try.func9, Try.ntmps9
    go_wp2_with fail
    refine (c1 _).mono ?_
    rintro e w1 ⟨rfl, hb1⟩
    go_wp2_with fail
    refine (c2 _).mono ?_
    rintro e w2 ⟨rfl, hb2⟩
    clear c1 c2
    go_wp2_with fail
    go_ret
    exact ⟨rfl, hb1.trans (hb2.mono hb1.size)⟩
  · have hs' : (1048576 : Int) < (s.size : Int) := by omega
    go_enter Try.func9, Try.ntmps9
    go_wp2_with fail
    go_ret
    exact ⟨rfl, Below.refl _ _⟩
end Go.Proofs.Ythhhohcemickeaa
