/- The size of a row of texts. -/
import Derived.Test.YteckimgacmobdaaStrV
import Derived.Test.YteckimgacmobdaaNestB
namespace Go.Proofs.Yteckimgacmobdaa
open Go.RowKit
attribute [local go_sem ↓] Go.wp_at_zero Go.wp_at_succ

set_option maxHeartbeats 1000000 in
theorem szStringS_any (a : Option Addr) (L : List ByteArray) (cap : Nat) (left : Int) (w : World) (hr : CRow w a (tv L)) (h0 : 0 ≤ left) (h1 : left ≤ 1048576) (hl : L.length ≤ 9223372036854775807) (hrl : ∀ s ∈ L, s.size ≤ 9223372036854775807) :
    Calls Try.prog 20 #[.slice a L.length cap, .int .i64 left] w fun e w' => SzRows left (L.length + tsum L) w e w' := by
  have hw : IntKind.i64.wrap (left - (L.length : Int)) = left - (L.length : Int) := IntWalk.i64_in _ ⟨by omega, by omega⟩
  have HRL : Hid (∀ s ∈ L, s.size ≤ 9223372036854775807) := hrl
  have HR : Hid (CRow w a (tv L)) := hr
  clear hrl hr
  by_cases h : (L.length : Int) ≤ left
  · have h' : ¬ left - (L.length : Int) < 0 := by omega
    go_enter Try.func20, Try.ntmps20
    go_wp2_with fail
    go_loopw [1, 5] (fun c i wr => ∃ (k : Nat) (r : Int), i = .int .i64 k ∧ c = .int .i64 r ∧ k ≤ L.length ∧ r = left - L.length - tsum (L.take k) ∧ 0 ≤ r ∧ wr = w) (fun _ i _ => L.length - (intOf i).toNat)
    case atStart => exact ⟨0, left - L.length, rfl, rfl, by omega, by simp [tsum], by omega, rfl⟩
    case round =>
      obtain ⟨k, r, rfl, rfl, hk, hre, hr0, rfl⟩ := hrel
      have HRE : Hid (r = left - L.length - tsum (L.take k)) := hre
      have hr1 : r ≤ 1048576 := by omega
      clear hre
      by_cases hlt : k < L.length
      · obtain ⟨b, off, rfl, lb, hc⟩ := HR.out (by rw [tv_len]; omega)
        have d0 := hc k _ (tv_get L k hlt)
        have hlen := HRL.out (L.getD k ⟨#[]⟩) (by simp [List.getD, hlt])
        have hmt := tsum_take L k hlt
        have hml := tsum_le L (k + 1)
        generalize L.getD k ⟨#[]⟩ = x at *
        have HMT : Hid (tsum (L.take (k + 1)) = tsum (L.take k) + x.size ∧ tsum (L.take (k + 1)) ≤ tsum L) := ⟨hmt, hml⟩
        have k0 : (0 : Int) ≤ (k : Int) := by omega
        have k1 : (k : Int) < (L.length : Int) := by omega
        have hwr : IntKind.i64.wrap (r - (x.size : Int)) = r - (x.size : Int) := IntWalk.i64_in _ ⟨by omega, by omega⟩
        clear hmt hml hc
        by_cases hfit : (x.size : Int) ≤ r
        · have hneg : ¬ r - (x.size : Int) < 0 := by omega
          go_wp2_with fail
          go_roundw
          case rel => exact ⟨k + 1, r - x.size, by go_num, rfl, by omega, by have := HRE.out; have := HMT.out.1; omega, by omega, by first | rfl | trivial⟩
          case measure => simp [intOf]; omega
        · have hneg : r - (x.size : Int) < 0 := by omega
          have hno : left < (L.length + tsum L : Nat) := by have := HRE.out; have := HMT.out.1; have := HMT.out.2; omega
          have HNO : Hid (left < (L.length + tsum L : Nat)) := hno
          clear hno
          go_wp2_with fail
          go_ret
          exact ⟨-1, rfl, rfl, fun q => by have := HNO.out; omega, fun _ => by omega⟩
      · have e : k = L.length := by omega
        have hlt' : ¬ (k : Int) < (L.length : Int) := by omega
        have he : r = left - (L.length + tsum L : Nat) := by have := HRE.out; rw [e, List.take_length] at this; omega
        have HE : Hid (r = left - (L.length + tsum L : Nat)) := he
        clear e he
        go_wp2_with fail
        go_ret
        exact ⟨r, rfl, rfl, fun _ => HE.out, fun q => by have := HE.out; omega⟩
  · have h' : left - (L.length : Int) < 0 := by omega
    go_enter Try.func20, Try.ntmps20
    go_wp2_with fail
    go_ret
    exact ⟨-1, rfl, rfl, fun q => by omega, fun _ => by omega⟩
theorem szStringS_val {w : World} {v : Value} {L : List ByteArray} {lo hi : Nat} (left : Int) (h : SSee w v L lo hi) (hL : L.length ≤ 9223372036854775807 ∧ ∀ x ∈ L, x.size ≤ 9223372036854775807) (h0 : 0 ≤ left) (h1 : left ≤ 1048576) :
    Calls Try.prog 20 #[v, .int .i64 left] w fun e w' => SzRows left (L.length + tsum L) w e w' := by
  obtain ⟨a, cap, rfl, hm⟩ := h
  exact szStringS_any a L cap left w hm.crow h0 h1 hL.1 hL.2
end Go.Proofs.Yteckimgacmobdaa
