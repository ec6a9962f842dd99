/- The walks of the two Hex. -/
import Derived.Test.YtphhiomiiapcpaaDoorHexM
import Derived.Deep.RegionHeld3
import Derived.Deep.DrawnRows
import Derived.Deep.AppendLies
import Derived.OwnWalk
namespace Go.Proofs.YtphhiomiiapcpaaDoor
open Go.RowKit
open Go.PlainAid (bt)
attribute [local go_sem ↓] Go.wp_at_zero Go.wp_at_succ

theorem implHex_no (s : ByteArray) (w : World) (hs : 20000 < s.size) :
    Calls Tryd.prog 13 #[.string s] w fun e w' => e = .returned (.tuple #[.string ⟨#[]⟩, .bool false]) ∧ Below w.heap.size w w' := by
  go_enter Tryd.func13, Tryd.ntmps13
  go_wp2_with fail
  go_ret2
  exact ⟨rfl, Below.refl _ _⟩

theorem figs_at (x : Int) (h0 : 0 ≤ x) (h1 : x < 16) (w : World) :
    (Instr.index 9 (.string ⟨#[48, 49, 50, 51, 52, 53, 54, 55, 56, 57, 97, 98, 99, 100, 101, 102]⟩) (.int .u8 x)).run Tryd.prog w = .ok (.int .u8 (W.hfI x)) w := by
  obtain ⟨n, rfl⟩ := Int.eq_ofNat_of_zero_le h0
  have hn : n < 16 := by omega
  rw [run_index_string _ 9 _ .u8 n Tryd.underlying9, dif_pos ⟨by omega, show (n : Int) < ((16 : Nat) : Int) from by omega⟩]
  match n, hn with
  | 0, _ => rfl
  | 1, _ => rfl
  | 2, _ => rfl
  | 3, _ => rfl
  | 4, _ => rfl
  | 5, _ => rfl
  | 6, _ => rfl
  | 7, _ => rfl
  | 8, _ => rfl
  | 9, _ => rfl
  | 10, _ => rfl
  | 11, _ => rfl
  | 12, _ => rfl
  | 13, _ => rfl
  | 14, _ => rfl
  | 15, _ => rfl

set_option maxHeartbeats 1000000 in
theorem implHex_yes (s : ByteArray) (w : World) (hs : s.size ≤ 20000) :
    Calls Tryd.prog 13 #[.string s] w fun e w' => e = .returned (.tuple #[.string ⟨(W.hexL s.data.toList).toArray⟩, .bool true]) ∧ Below w.heap.size w w' := by
  obtain ⟨i0, hi, hz0, hz1, hz2⟩ := info_parts Tryd.info5
  have hb := Go.PlainAid.get_bt s
  have hsd : decide ((20000 : Int) < s.size) = false := by simp; omega
  go_enter Tryd.func13, Tryd.ntmps13
  go_wp2_with (at_make; refine wpList_make_own _ rfl _ _ 22 rfl w.heap.size 5 i0 (.int .u8 0) 1 Tryd.underlying22 hi hz0 hz1 .i64 .i64 _ (2 * s.size) rfl rfl (by omega) ?b2 ?b3 ?b4 ?_)
  case b2 => rw [hz2]; omega
  case b3 => unfold maxLen; omega
  case b4 => omega
  intro wm hownm hgrm
  have hbm : Below w.heap.size w wm := (Below.refl _ _).grown hgrm (Nat.le_refl _) (fun j hj => by simp at hj)
  go_wp2_with fail
  go_loopw [4, 15] (fun v i wr => ∃ (k : Nat), i = .int .i64 k ∧ k ≤ s.size ∧ wr.ownsRow w.heap.size 5 1 v (2 * k) (bv (W.hexL (W.firstK s k))) ∧ Below w.heap.size w wr) (fun _ i _ => s.size - (intOf i).toNat)
  case atStart => exact ⟨0, rfl, Nat.zero_le _, hownm, hbm⟩
  case round =>
    obtain ⟨k, rfl, hk, hown, hbl⟩ := hrel
    have hB := hbl.size
    clear hownm hgrm hbm
    by_cases hlt : k < s.size
    · have b0 := Go.PlainAid.bt_nonneg s k
      have b1 := Go.PlainAid.bt_le s k
      have k0 : (0 : Int) ≤ (k : Int) := by omega
      have k1 : (k : Int) < (s.size : Int) := by omega
      have hix := index_str s k hlt
      have hf0 := figs_at (bt s k / 16) (by omega) (by omega)
      have hf1 := figs_at (bt s k % 16) (by omega) (by omega)
      obtain ⟨u1, u2, u3, u4, u5⟩ := bt_words s k
      obtain ⟨u6, u7⟩ := bt_words8 s k
      go_wp2_with fail
      go_region_held3 (fun _ => True) (exact trivial) ((refine step_append_lies _ (by rfl) _ _ _ (by rfl) w.heap.size 5 i0 _ 1 1 Tryd.underlying22 hi hz0 hz1 hz2 rfl (by omega) _ (2 * k) _ (by rfl) ((hown.alloc _).drew) ⟨wr.heap.size, 0, none⟩ 2 2 [.int .u8 (W.hfI (bt s k / 16)), .int .u8 (W.hfI (bt s k % 16))] (by rfl) (by rfl) (World.news_of_block (cs := #[.int .u8 (W.hfI (bt s k / 16)), .int .u8 (W.hfI (bt s k % 16))]) (t := 5) (fr := (0, 0)) (heap_alloc_new wr _)) (by simp [Value.oneCell']) (by omega) (by unfold maxLen; omega) (by omega) (by simp; omega) (wr.heap.size + 1) (by simp) ?_; intro gg cap w1 hown1 hgrow hat hlt'))
      all_goals go_wp2_with fail
      all_goals
        have hn := hex_own hlt rfl rfl hown1
        have hbn := ((hbl.alloc hB _).drew).grown hgrow (by simp; omega) (fun j hj => (hown.lt j hj).1)
        exact ⟨⟨k + 1, by go_num, by omega, hn, hbn⟩, by simp [intOf]; omega⟩
    · have hc := own_string (w := wr) (l := W.hexL (W.firstK s k)) (by rw [W.hexL_len, W.firstK_len s k hk]; exact hown)
      have e : W.firstK s k = s.data.toList := W.firstK_all s k (by omega)
      rw [e] at hc
      clear e
      go_wp2
      go_ret2
      exact ⟨rfl, hbl⟩
end Go.Proofs.YtphhiomiiapcpaaDoor
