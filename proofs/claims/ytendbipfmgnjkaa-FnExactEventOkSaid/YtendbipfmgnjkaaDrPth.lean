/- The draws of paths. -/
import Derived.Test.YtendbipfmgnjkaaDrPk
import Derived.Test.YtendbipfmgnjkaaRowsG
namespace Go.Proofs.Ytendbipfmgnjkaa
set_option maxRecDepth 100000
open Go.RowKit
attribute [local go_sem ↓] Go.wp_at_zero Go.wp_at_succ

def PathPost (m : Nat) (w : World) (g B : Nat) (a : Option Addr) (len cap : Nat) (e : Ending) (w' : World) : Prop :=
  ∃ t : ByteArray, e = .returned (.string t) ∧ (t.size ≤ m ∧ noZ t = true) ∧ Cur w' g B a len cap ∧ w.grownBy w' (some g)
theorem any_texts (w : World) (j : Nat) (hj : j < 11) : ∃ y : ByteArray, (w.alloc (.cells #[.string ⟨#[]⟩, .string ⟨#[47]⟩, .string ⟨#[97]⟩, .string ⟨#[47, 65]⟩, .string ⟨#[47, 47]⟩, .string ⟨#[47, 97, 47]⟩, .string ⟨#[47, 97, 47, 47, 98]⟩, .string ⟨#[47, 97, 47, 98, 47, 99, 47, 97]⟩, .string ⟨#[47, 97, 47, 98, 47, 99, 47, 97, 47, 98]⟩, .string ⟨#[47, 97, 98, 99, 100, 101, 102, 103, 104]⟩, .string ⟨#[47, 97, 98, 99, 100, 101, 102, 103, 104, 105]⟩] 9)).cell? ⟨w.heap.size, j, none⟩ = some (.string y) ∧ (y.size ≤ 16 ∧ noZ y = true) :=
  new_texts w 9 (fun y => y.size ≤ 16 ∧ noZ y = true) [⟨#[]⟩, ⟨#[47]⟩, ⟨#[97]⟩, ⟨#[47, 65]⟩, ⟨#[47, 47]⟩, ⟨#[47, 97, 47]⟩, ⟨#[47, 97, 47, 47, 98]⟩, ⟨#[47, 97, 47, 98, 47, 99, 47, 97]⟩, ⟨#[47, 97, 47, 98, 47, 99, 47, 97, 47, 98]⟩, ⟨#[47, 97, 98, 99, 100, 101, 102, 103, 104]⟩, ⟨#[47, 97, 98, 99, 100, 101, 102, 103, 104, 105]⟩] (by decide) j hj
end Go.Proofs.Ytendbipfmgnjkaa
