/- The program's own InvG. -/
import Derived.Test.YtdlgailodhlbmaaFieldP
namespace Go.Proofs.Ytdlgailodhlbmaa
open Go.RowKit
open W (B8)
attribute [local go_sem ↓] Go.wp_at_zero Go.wp_at_succ
attribute [local irreducible] W.gm W.xt W.gp W.gi

theorem implInvG (x : Int) (w : World) : Calls Try.prog 68 #[.int .i64 x] w fun e w' => e = .returned (.int .i64 ((W.gi (g8 x)).toNat : Int)) ∧ w' = w := by
  have hc := implInverse (g8 x)
  rw [g8_nat] at hc
  have hl := b8_lt (W.gi (g8 x))
  generalize W.gi (g8 x) = R at *
  go_enter Try.func68, Try.ntmps68
  go_wp2_with fail
  refine (hc _).mono ?_
  rintro e w1 ⟨rfl, rfl⟩
  go_wp2_with fail
  go_ret
  exact ⟨rfl, rfl⟩
end Go.Proofs.Ytdlgailodhlbmaa
