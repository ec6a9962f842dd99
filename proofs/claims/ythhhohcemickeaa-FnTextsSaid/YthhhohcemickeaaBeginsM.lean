/- The laws' own test whether a text begins another. -/
import Derived.Test.YthhhohcemickeaaBytes
import Derived.WalkKit
namespace Go.Proofs.Ythhhohcemickeaa
open Go.RowKit

/-- A beginning of a text begins it. -/
theorem begins_yes (s : ByteArray) (n : Nat) (w : World) (hn : n ≤ s.size) (hs : s.size ≤ 9223372036854775807) :
    Calls Try.prog 18 #[.string (s.extract 0 n), .string s] w fun e w' => e = .returned (.bool true) ∧ w' = w := by
  obtain ⟨t, ht⟩ : ∃ t, t = s.extract 0 n := ⟨_, rfl⟩
  have hts : t.size = n := by rw [ht, ByteArray.size_extract]; omega
  have hle : (t.size : Int) ≤ (s.size : Int) := by omega
  have hsl : ∀ W : World, (Instr.slice 9 (.string s) none (some (.int .i64 (t.size : Int))) none).run Try.prog W = .ok (.string t) W := fun W => by
    rw [run_slice_string_h (ht := Try.underlying9) (kh := .i64) (h0 := by omega) (h2 := hle), Int.toNat_natCast, hts, ht]
  rw [← ht]
  clear ht hts hn
  go_enter Try.func18, Try.ntmps18
  go_wp2_with fail
  go_ret
  exact ⟨rfl, rfl⟩
end Go.Proofs.Ythhhohcemickeaa
