/- The program's own sums and products of texts. -/
import Derived.Test.YtdpcndbfbmphjaaFieldP
namespace Go.Proofs.Ytdpcndbfbmphjaa
open Go.RowKit
open W (B8)
attribute [local go_sem ↓] Go.wp_at_zero Go.wp_at_succ
attribute [local irreducible] W.gm W.xt W.gp W.gi
set_option maxHeartbeats 1000000 in
theorem implAdd_long (a b : ByteArray) (w : World) (ha : a.size ≤ 1048576) (h : b.size ≤ a.size) :
    Calls Try.prog 53 #[.string a, .string b] w fun e w' => e = .returned (.string (addB a b)) ∧ Below w.heap.size w w' := by
  have hlt' : ¬ (a.size : Int) < (b.size : Int) := by omega
  obtain ⟨w1, c1, hcv, hrow, hb1⟩ := bytes_made w a
  have hla : a.data.toList.length = a.size := rfl
  have hlb : b.data.toList.length = b.size := rfl
  have HB1 : Hid (Below w.heap.size w w1) := hb1
  have HROW : Hid (BRow w1 w.heap.size a.data.toList) := hrow
  clear hb1 hrow
  go_enter Try.func53, Try.ntmps53
  go_wp2_with fail
  go_loopw [18] (fun i wr => ∃ k : Nat, i = .int .i64 k ∧ k ≤ b.size ∧ BRow wr w.heap.size (W.addTo a.data.toList b.data.toList k) ∧ Below w.heap.size w wr) (fun i _ => b.size - (intOf i).toNat)
  case atStart => exact ⟨0, rfl, Nat.zero_le _, by rw [W.addTo_zero]; exact HROW.out, HB1.out⟩
  case round =>
    obtain ⟨k, rfl, hk, hrw, hbl⟩ := hrel
    have hll := W.addTo_len (a := a.data.toList) (b := b.data.toList) (k := k) h
    by_cases hlt : k < b.size
    · have k0 : (0 : Int) ≤ (k : Int) := by omega
      have k1 : (k : Int) < (b.size : Int) := by omega
      have k2 : (k : Int) < (a.size : Int) := by omega
      have hst := W.addTo_step (a := a.data.toList) (b := b.data.toList) (k := k) h hlt
      have hc := hrw.2 k (by omega)
      obtain ⟨hc1, hc2⟩ := hc
      have hset := hrw.set k (a.data.toList.getD k 0 ^^^ b.data.toList.getD k 0) (by omega)
      rw [hst.2] at hset
      have hix := index_str b k hlt
      rw [get_list b k hlt] at hix
      have hiy := index_str a k (by omega)
      rw [get_list a k (by omega)] at hiy
      have hp : ∀ w : World, Calls Try.prog 71 #[.int .u8 ((a.data.toList.getD k 0).toNat : Int), .int .u8 ((b.data.toList.getD k 0).toNat : Int)] w fun e w' => e = .returned (.int .u8 ((a.data.toList.getD k 0 ^^^ b.data.toList.getD k 0).toNat : Int)) ∧ w' = w := fun w => implPlus (a.data.toList.getD k 0).toBitVec (b.data.toList.getD k 0).toBitVec w
      generalize (W.addTo a.data.toList b.data.toList k).getD k 0 = o at *
      generalize a.data.toList.getD k 0 = x at *
      generalize b.data.toList.getD k 0 = y at *
      have HS : Hid (BRow (wr.setCell ⟨w.heap.size, k, none⟩ (.int .u8 ((x ^^^ y).toNat : Int))) w.heap.size (W.addTo a.data.toList b.data.toList (k + 1))) := hset
      have HBL : Hid (Below w.heap.size w wr) := hbl
      clear hset hst hrw hbl
      generalize x ^^^ y = z at *
      go_wp2_with fail
      go_region_with ((go_at_call 71; refine (hp _).mono ?_; rintro e w9 ⟨rfl, rfl⟩))
      all_goals go_wp2_with fail
      all_goals exact ⟨⟨k + 1, by go_num, by omega, HS.out, Below.drew (HBL.out.setCell (Nat.le_refl _) _)⟩, by simp [intOf]; omega⟩
    · have e : k = b.size := by omega
      subst e
      have hall := W.addTo_all (a := a.data.toList) (b := b.data.toList) h
      rw [hlb] at hall
      have hcv2 := brow_string (cap := c1) hrw
      rw [hall] at hcv2
      have hl2 : (W.addL a.data.toList b.data.toList).length = a.size := by rw [← hall]; exact hll
      rw [hl2] at hcv2
      have HBL : Hid (Below w.heap.size w wr) := hbl
      clear hrw hall hl2 hll hbl
      go_wp2_with fail
      go_ret
      exact ⟨rfl, HBL.out⟩
set_option maxHeartbeats 1000000 in
theorem implAdd_short (a b : ByteArray) (w : World) (ha : a.size ≤ 1048576) (h' : b.size < a.size) :
    Calls Try.prog 53 #[.string b, .string a] w fun e w' => e = .returned (.string (addB a b)) ∧ Below w.heap.size w w' := by
  have hlt' : (b.size : Int) < (a.size : Int) := by omega
  have h : b.size ≤ a.size := by omega
  clear h'
  obtain ⟨w1, c1, hcv, hrow, hb1⟩ := bytes_made w a
  have hla : a.data.toList.length = a.size := rfl
  have hlb : b.data.toList.length = b.size := rfl
  have HB1 : Hid (Below w.heap.size w w1) := hb1
  have HROW : Hid (BRow w1 w.heap.size a.data.toList) := hrow
  clear hb1 hrow
  go_enter Try.func53, Try.ntmps53
  go_wp2_with fail
  go_loopw [18] (fun i wr => ∃ k : Nat, i = .int .i64 k ∧ k ≤ b.size ∧ BRow wr w.heap.size (W.addTo a.data.toList b.data.toList k) ∧ Below w.heap.size w wr) (fun i _ => b.size - (intOf i).toNat)
  case atStart => exact ⟨0, rfl, Nat.zero_le _, by rw [W.addTo_zero]; exact HROW.out, HB1.out⟩
  case round =>
    obtain ⟨k, rfl, hk, hrw, hbl⟩ := hrel
    have hll := W.addTo_len (a := a.data.toList) (b := b.data.toList) (k := k) h
    by_cases hlt : k < b.size
    · have k0 : (0 : Int) ≤ (k : Int) := by omega
      have k1 : (k : Int) < (b.size : Int) := by omega
      have k2 : (k : Int) < (a.size : Int) := by omega
      have hst := W.addTo_step (a := a.data.toList) (b := b.data.toList) (k := k) h hlt
      have hc := hrw.2 k (by omega)
      obtain ⟨hc1, hc2⟩ := hc
      have hset := hrw.set k (a.data.toList.getD k 0 ^^^ b.data.toList.getD k 0) (by omega)
      rw [hst.2] at hset
      have hix := index_str b k hlt
      rw [get_list b k hlt] at hix
      have hiy := index_str a k (by omega)
      rw [get_list a k (by omega)] at hiy
      have hp : ∀ w : World, Calls Try.prog 71 #[.int .u8 ((a.data.toList.getD k 0).toNat : Int), .int .u8 ((b.data.toList.getD k 0).toNat : Int)] w fun e w' => e = .returned (.int .u8 ((a.data.toList.getD k 0 ^^^ b.data.toList.getD k 0).toNat : Int)) ∧ w' = w := fun w => implPlus (a.data.toList.getD k 0).toBitVec (b.data.toList.getD k 0).toBitVec w
      generalize (W.addTo a.data.toList b.data.toList k).getD k 0 = o at *
      generalize a.data.toList.getD k 0 = x at *
      generalize b.data.toList.getD k 0 = y at *
      have HS : Hid (BRow (wr.setCell ⟨w.heap.size, k, none⟩ (.int .u8 ((x ^^^ y).toNat : Int))) w.heap.size (W.addTo a.data.toList b.data.toList (k + 1))) := hset
      have HBL : Hid (Below w.heap.size w wr) := hbl
      clear hset hst hrw hbl
      generalize x ^^^ y = z at *
      go_wp2_with fail
      go_region_with ((go_at_call 71; refine (hp _).mono ?_; rintro e w9 ⟨rfl, rfl⟩))
      all_goals go_wp2_with fail
      all_goals exact ⟨⟨k + 1, by go_num, by omega, HS.out, Below.drew (HBL.out.setCell (Nat.le_refl _) _)⟩, by simp [intOf]; omega⟩
    · have e : k = b.size := by omega
      subst e
      have hall := W.addTo_all (a := a.data.toList) (b := b.data.toList) h
      rw [hlb] at hall
      have hcv2 := brow_string (cap := c1) hrw
      rw [hall] at hcv2
      have hl2 : (W.addL a.data.toList b.data.toList).length = a.size := by rw [← hall]; exact hll
      rw [hl2] at hcv2
      have HBL : Hid (Below w.heap.size w wr) := hbl
      clear hrw hall hl2 hll hbl
      go_wp2_with fail
      go_ret
      exact ⟨rfl, HBL.out⟩
theorem implAddText (a b : ByteArray) (w : World) (ha : a.size ≤ 1048576) (hb : b.size ≤ 1048576) : Calls Try.prog 53 #[.string a, .string b] w fun e w' => e = .returned (.string (addB a b)) ∧ Below w.heap.size w w' := by
  by_cases h : b.size ≤ a.size
  · exact implAdd_long a b w ha h
  · rw [addB_comm]; exact implAdd_short b a w hb (by omega)
set_option maxHeartbeats 1000000 in
theorem implMulText (x : Int) (s : ByteArray) (w : World) (hs : s.size ≤ 1048576) : Calls Try.prog 54 #[.int .i64 x, .string s] w fun e w' => e = .returned (.string (mulT (g8 x) s)) ∧ Below w.heap.size w w' := by
  have hm := g8_nat x
  generalize g8 x = A at *
  obtain ⟨w1, c1, hcv, hrow, hb1⟩ := bytes_made w s
  have HB1 : Hid (Below w.heap.size w w1) := hb1
  have HROW : Hid (BRow w1 w.heap.size s.data.toList) := hrow
  clear hb1 hrow
  go_enter Try.func54, Try.ntmps54
  go_wp2_with fail
  go_loopw [11] (fun i wr => ∃ k : Nat, i = .int .i64 k ∧ k ≤ s.size ∧ BRow wr w.heap.size (W.mulTo A s.data.toList k) ∧ Below w.heap.size w wr) (fun i _ => s.size - (intOf i).toNat)
  case atStart => exact ⟨0, rfl, Nat.zero_le _, by rw [W.mulTo_zero]; exact HROW.out, HB1.out⟩
  case round =>
    obtain ⟨k, rfl, hk, hrw, hbl⟩ := hrel
    have hll := W.mulTo_len A s.data.toList k
    have hls : s.data.toList.length = s.size := rfl
    by_cases hlt : k < s.size
    · have k0 : (0 : Int) ≤ (k : Int) := by omega
      have k1 : (k : Int) < (s.size : Int) := by omega
      have hst := W.mulTo_step A (l := s.data.toList) (k := k) hlt
      have hc := hrw.2 k (by omega)
      rw [hst.1] at hc
      obtain ⟨hc1, hc2⟩ := hc
      have hset := hrw.set k (W.mulB A (s.data.toList.getD k 0)) (by omega)
      rw [hst.2] at hset
      have hix := index_str s k hlt
      rw [get_list s k hlt] at hix
      generalize s.data.toList.getD k 0 = c at *
      have hcall : ∀ w : World, Calls Try.prog 72 #[.int .u8 (x % 256), .int .u8 (c.toNat : Int)] w fun e w' => e = .returned (.int .u8 ((W.mulB A c).toNat : Int)) ∧ w' = w := fun w => by rw [← hm]; exact implTimes A c.toBitVec w
      have HS : Hid (BRow (wr.setCell ⟨w.heap.size, k, none⟩ (.int .u8 ((W.mulB A c).toNat : Int))) w.heap.size (W.mulTo A s.data.toList (k + 1))) := hset
      have HBL : Hid (Below w.heap.size w wr) := hbl
      clear hset hst hrw hbl
      generalize W.mulB A c = y at *
      go_wp2_with fail
      refine (hcall _).mono ?_
      rintro e w2 ⟨rfl, rfl⟩
      go_wp2_with fail
      go_roundw
      case rel => exact ⟨k + 1, by go_num, by omega, HS.out, HBL.out.setCell (Nat.le_refl _) _⟩
      case measure => simp [intOf]; omega
    · have e : k = s.size := by omega
      have hlt' : ¬ (k : Int) < (s.size : Int) := by omega
      subst e
      have hall := W.mulTo_all A s.data.toList (k := s.size) (Nat.le_of_eq hls)
      have hcv2 := brow_string (cap := c1) hrw
      rw [hall] at hcv2
      have hl2 : (W.mulL A s.data.toList).length = s.size := by rw [W.mulL_len]; exact hls
      rw [hl2] at hcv2
      have HBL : Hid (Below w.heap.size w wr) := hbl
      clear hrw hall hl2 hll hbl
      go_wp2_with fail
      go_ret
      exact ⟨rfl, HBL.out⟩
end Go.Proofs.Ytdpcndbfbmphjaa
