/- The walks of the models of the field of bytes over texts: AddText, MulText. -/
import Derived.Test.YtdlgailodhlbmaaFieldS
import Derived.Test.YtdlgailodhlbmaaBRowM
import Derived.Test.YtdlgailodhlbmaaHexM
import Derived.PlainAid
import Derived.BigQuiet
namespace Go.Proofs.Ytdlgailodhlbmaa
open Go.RowKit
open W (B8)
attribute [local go_sem ↓] Go.wp_at_zero Go.wp_at_succ
attribute [local irreducible] W.gm

/-- The sum of two texts, and a text so many times. -/
def addB (a b : ByteArray) : ByteArray := ⟨(W.addL a.data.toList b.data.toList).toArray⟩
def mulT (A : B8) (s : ByteArray) : ByteArray := ⟨(W.mulL A s.data.toList).toArray⟩
theorem addB_comm (a b : ByteArray) : addB a b = addB b a := by unfold addB; rw [W.addL_comm]
theorem u8_xor (x y : UInt8) : bits .xor .u8 (x.toNat : Int) (y.toNat : Int) = ((x ^^^ y).toNat : Int) := by
  have h1 : ∀ z : UInt8, (BitVec.ofInt 8 (z.toNat : Int)).toNat = z.toNat := fun z => by rw [BitVec.toNat_ofInt]; have := z.toNat_lt; omega
  have h2 := (x ^^^ y).toNat_lt
  show IntKind.u8.wrap ((BitVec.ofInt 8 (x.toNat : Int) ^^^ BitVec.ofInt 8 (y.toNat : Int)).toNat : Nat) = _
  rw [BitVec.toNat_xor, h1, h1, ← UInt8.toNat_xor]
  rw [UInt8.toNat_xor] at h2 ⊢
  simp [IntKind.wrap, IntKind.bits, IntKind.signed]
  omega
theorem get_list (s : ByteArray) (k : Nat) (h : k < s.size) : Go.PlainAid.bt s k = ((s.data.toList.getD k 0).toNat : Int) := by
  unfold Go.PlainAid.bt
  rw [dif_pos h]
  have : s.data.toList.getD k 0 = s[k] := by
    have hk : k < s.data.size := h
    rw [List.getD_eq_getElem?_getD, Array.getElem?_toList, Array.getElem?_eq_getElem hk]
    rfl
  rw [this]
set_option maxHeartbeats 1000000 in
theorem specAdd_long (a b : ByteArray) (w : World) (ha : a.size ≤ 1048576) (h : b.size ≤ a.size) :
    Calls Try.prog 43 #[.string a, .string b] w fun e w' => e = .returned (.string (addB a b)) ∧ Below w.heap.size w w' := by
  have hg := Go.PlainAid.get_bt b
  have hlt' : ¬ (a.size : Int) < (b.size : Int) := by omega
  obtain ⟨w1, c1, hcv, hrow, hb1⟩ := bytes_made w a
  have hla : a.data.toList.length = a.size := rfl
  have hlb : b.data.toList.length = b.size := rfl
  have HB1 : Hid (Below w.heap.size w w1) := hb1
  have HROW : Hid (BRow w1 w.heap.size a.data.toList) := hrow
  clear hb1 hrow
  go_enter Try.func43, Try.ntmps43
  go_wp2_with fail
  go_loopw [7] (fun i wr => ∃ k : Nat, i = .int .i64 k ∧ k ≤ b.size ∧ BRow wr w.heap.size (W.addTo a.data.toList b.data.toList k) ∧ Below w.heap.size w wr) (fun i _ => b.size - (intOf i).toNat)
  case atStart => exact ⟨0, rfl, Nat.zero_le _, by rw [W.addTo_zero]; exact HROW.out, HB1.out⟩
  case round =>
    obtain ⟨k, rfl, hk, hrw, hbl⟩ := hrel
    have hll := W.addTo_len (a := a.data.toList) (b := b.data.toList) (k := k) h
    by_cases hlt : k < b.size
    · have k0 : (0 : Int) ≤ (k : Int) := by omega
      have k1 : (k : Int) < (b.size : Int) := by omega
      have k2 : (k : Int) < (a.size : Int) := by omega
      have hst := W.addTo_step (a := a.data.toList) (b := b.data.toList) (k := k) h hlt
      have hc := hrw.2 k (by omega)
      rw [hst.1] at hc
      obtain ⟨hc1, hc2⟩ := hc
      have hgl := get_list b k hlt
      have hset := hrw.set k (a.data.toList.getD k 0 ^^^ b.data.toList.getD k 0) (by omega)
      rw [hst.2] at hset
      have hix := index_str b k hlt
      rw [hgl] at hix
      have hxo := u8_xor (a.data.toList.getD k 0) (b.data.toList.getD k 0)
      generalize a.data.toList.getD k 0 = x at *
      generalize b.data.toList.getD k 0 = y at *
      have HS : Hid (BRow (wr.setCell ⟨w.heap.size, k, none⟩ (.int .u8 ((x ^^^ y).toNat : Int))) w.heap.size (W.addTo a.data.toList b.data.toList (k + 1))) := hset
      have HBL : Hid (Below w.heap.size w wr) := hbl
      clear hset hst hgl hrw hbl hg
      generalize x ^^^ y = z at *
      go_wp2_with fail
      go_region
      all_goals go_wp2_with fail
      all_goals exact ⟨⟨k + 1, by go_num, by omega, HS.out, Below.drew (HBL.out.setCell (Nat.le_refl _) _)⟩, by simp [intOf]; omega⟩
    · have e : k = b.size := by omega
      subst e
      have hall := W.addTo_all (a := a.data.toList) (b := b.data.toList) h
      rw [hlb] at hall
      have hcv2 := brow_string (cap := c1) hrw
      rw [hall] at hcv2
      have hl2 : (W.addL a.data.toList b.data.toList).length = a.size := by rw [← hall]; exact hll
      rw [hl2] at hcv2
      have HBL : Hid (Below w.heap.size w wr) := hbl
      clear hrw hall hl2 hll hbl hg
      go_wp2_with fail
      go_ret
      exact ⟨rfl, HBL.out⟩
set_option maxHeartbeats 1000000 in
theorem specAdd_short (b a : ByteArray) (w : World) (ha : a.size ≤ 1048576) (h' : b.size < a.size) :
    Calls Try.prog 43 #[.string b, .string a] w fun e w' => e = .returned (.string (addB b a)) ∧ Below w.heap.size w w' := by
  rw [addB_comm b a]
  have h : b.size ≤ a.size := by omega
  have hg := Go.PlainAid.get_bt b
  have hlt' : (b.size : Int) < (a.size : Int) := by omega
  clear h'
  obtain ⟨w1, c1, hcv, hrow, hb1⟩ := bytes_made w a
  have hla : a.data.toList.length = a.size := rfl
  have hlb : b.data.toList.length = b.size := rfl
  have HB1 : Hid (Below w.heap.size w w1) := hb1
  have HROW : Hid (BRow w1 w.heap.size a.data.toList) := hrow
  clear hb1 hrow
  go_enter Try.func43, Try.ntmps43
  go_wp2_with fail
  go_loopw [7] (fun i wr => ∃ k : Nat, i = .int .i64 k ∧ k ≤ b.size ∧ BRow wr w.heap.size (W.addTo a.data.toList b.data.toList k) ∧ Below w.heap.size w wr) (fun i _ => b.size - (intOf i).toNat)
  case atStart => exact ⟨0, rfl, Nat.zero_le _, by rw [W.addTo_zero]; exact HROW.out, HB1.out⟩
  case round =>
    obtain ⟨k, rfl, hk, hrw, hbl⟩ := hrel
    have hll := W.addTo_len (a := a.data.toList) (b := b.data.toList) (k := k) h
    by_cases hlt : k < b.size
    · have k0 : (0 : Int) ≤ (k : Int) := by omega
      have k1 : (k : Int) < (b.size : Int) := by omega
      have k2 : (k : Int) < (a.size : Int) := by omega
      have hst := W.addTo_step (a := a.data.toList) (b := b.data.toList) (k := k) h hlt
      have hc := hrw.2 k (by omega)
      rw [hst.1] at hc
      obtain ⟨hc1, hc2⟩ := hc
      have hgl := get_list b k hlt
      have hset := hrw.set k (a.data.toList.getD k 0 ^^^ b.data.toList.getD k 0) (by omega)
      rw [hst.2] at hset
      have hix := index_str b k hlt
      rw [hgl] at hix
      have hxo := u8_xor (a.data.toList.getD k 0) (b.data.toList.getD k 0)
      generalize a.data.toList.getD k 0 = x at *
      generalize b.data.toList.getD k 0 = y at *
      have HS : Hid (BRow (wr.setCell ⟨w.heap.size, k, none⟩ (.int .u8 ((x ^^^ y).toNat : Int))) w.heap.size (W.addTo a.data.toList b.data.toList (k + 1))) := hset
      have HBL : Hid (Below w.heap.size w wr) := hbl
      clear hset hst hgl hrw hbl hg
      generalize x ^^^ y = z at *
      go_wp2_with fail
      go_region
      all_goals go_wp2_with fail
      all_goals exact ⟨⟨k + 1, by go_num, by omega, HS.out, Below.drew (HBL.out.setCell (Nat.le_refl _) _)⟩, by simp [intOf]; omega⟩
    · have e : k = b.size := by omega
      subst e
      have hall := W.addTo_all (a := a.data.toList) (b := b.data.toList) h
      rw [hlb] at hall
      have hcv2 := brow_string (cap := c1) hrw
      rw [hall] at hcv2
      have hl2 : (W.addL a.data.toList b.data.toList).length = a.size := by rw [← hall]; exact hll
      rw [hl2] at hcv2
      have HBL : Hid (Below w.heap.size w wr) := hbl
      clear hrw hall hl2 hll hbl hg
      go_wp2_with fail
      go_ret
      exact ⟨rfl, HBL.out⟩
theorem specAddText (a b : ByteArray) (w : World) (ha : a.size ≤ 1048576) (hb : b.size ≤ 1048576) : Calls Try.prog 43 #[.string a, .string b] w fun e w' => e = .returned (.string (addB a b)) ∧ Below w.heap.size w w' := by
  by_cases h : b.size ≤ a.size
  · exact specAdd_long a b w ha h
  · exact specAdd_short a b w hb (by omega)
theorem mul_word (A : B8) (c : UInt8) (x : Int) (h : A = g8 x) : W.gm (g8 x) (g8 (c.toNat : Int)) = (W.mulB A c).toBitVec ∧ IntKind.u8.wrap ((W.mulB A c).toBitVec.toNat : Int) = ((W.mulB A c).toNat : Int) ∧ IntKind.i64.wrap (c.toNat : Int) = (c.toNat : Int) := by
  have e : g8 (c.toNat : Int) = c.toBitVec := g8_back c.toBitVec
  have hl := (W.mulB A c).toNat_lt
  have hc := c.toNat_lt
  refine ⟨by rw [e, ← h]; rfl, ?_, IntWalk.i64_in _ ⟨by omega, by omega⟩⟩
  show IntKind.u8.wrap ((W.mulB A c).toNat : Int) = _
  simp [IntKind.wrap, IntKind.bits, IntKind.signed]
  omega
set_option maxHeartbeats 1000000 in
theorem specMulText (x : Int) (s : ByteArray) (w : World) (hs : s.size ≤ 1048576) : Calls Try.prog 66 #[.int .i64 x, .string s] w fun e w' => e = .returned (.string (mulT (g8 x) s)) ∧ Below w.heap.size w w' := by
  obtain ⟨A, hA⟩ : ∃ A, A = g8 x := ⟨_, rfl⟩
  rw [← hA]
  have HA : Hid (A = g8 x) := hA
  clear hA
  obtain ⟨w1, c1, hcv, hrow, hb1⟩ := bytes_made w s
  have HB1 : Hid (Below w.heap.size w w1) := hb1
  have HROW : Hid (BRow w1 w.heap.size s.data.toList) := hrow
  clear hb1 hrow
  go_enter Try.func66, Try.ntmps66
  go_wp2_with fail
  go_loopw [6] (fun i wr => ∃ k : Nat, i = .int .i64 k ∧ k ≤ s.size ∧ BRow wr w.heap.size (W.mulTo A s.data.toList k) ∧ Below w.heap.size w wr) (fun i _ => s.size - (intOf i).toNat)
  case atStart => exact ⟨0, rfl, Nat.zero_le _, by rw [W.mulTo_zero]; exact HROW.out, HB1.out⟩
  case round =>
    obtain ⟨k, rfl, hk, hrw, hbl⟩ := hrel
    have hll := W.mulTo_len A s.data.toList k
    have hls : s.data.toList.length = s.size := rfl
    by_cases hlt : k < s.size
    · have k0 : (0 : Int) ≤ (k : Int) := by omega
      have k1 : (k : Int) < (s.size : Int) := by omega
      have hst := W.mulTo_step A (l := s.data.toList) (k := k) hlt
      have hc := hrw.2 k (by omega)
      rw [hst.1] at hc
      obtain ⟨hc1, hc2⟩ := hc
      have hset := hrw.set k (W.mulB A (s.data.toList.getD k 0)) (by omega)
      rw [hst.2] at hset
      generalize s.data.toList.getD k 0 = c at *
      obtain ⟨m1, m2, m3⟩ := mul_word A c x HA.out
      have hcall := specMulG x (c.toNat : Int)
      rw [m1] at hcall
      have HS : Hid (BRow (wr.setCell ⟨w.heap.size, k, none⟩ (.int .u8 ((W.mulB A c).toNat : Int))) w.heap.size (W.mulTo A s.data.toList (k + 1))) := hset
      have HBL : Hid (Below w.heap.size w wr) := hbl
      clear hset hst hrw hbl m1
      generalize (W.mulB A c).toBitVec = z at *
      generalize W.mulB A c = y at *
      go_wp2_with fail
      refine (hcall _).mono ?_
      clear hcall
      rintro e w2 ⟨rfl, rfl⟩
      go_wp2_with fail
      go_roundw
      case rel => exact ⟨k + 1, by go_num, by omega, HS.out, HBL.out.setCell (Nat.le_refl _) _⟩
      case measure => simp [intOf]; omega
    · have e : k = s.size := by omega
      subst e
      have hall := W.mulTo_all A s.data.toList (k := s.size) (by omega)
      have hcv2 := brow_string (cap := c1) hrw
      rw [hall, W.mulL_len, hls] at hcv2
      have HBL : Hid (Below w.heap.size w wr) := hbl
      clear hrw hall hll hbl
      go_wp2_with fail
      go_ret
      exact ⟨rfl, HBL.out⟩
theorem addB_size (a b : ByteArray) : (addB a b).size = max a.size b.size := by
  unfold addB
  show (W.addL a.data.toList b.data.toList).toArray.size = _
  rw [List.size_toArray, W.addL_len]
  rfl
theorem mulT_size (A : B8) (s : ByteArray) : (mulT A s).size = s.size := by
  unfold mulT
  show (W.mulL A s.data.toList).toArray.size = _
  rw [List.size_toArray, W.mulL_len]
  rfl
theorem addB_twice (a b : ByteArray) : (addB (addB a b) b).extract 0 a.size = a := by
  obtain ⟨r, hr⟩ := W.addL_twice a.data.toList b.data.toList
  apply Go.WideShapes.bytes_inj
  have e : (addB (addB a b) b).data.toList = a.data.toList ++ r := by unfold addB; simpa using hr
  simp only [ByteArray.data_extract, Array.toList_extract]
  rw [e]
  simp only [List.extract_eq_take_drop, List.drop_zero]
  exact List.take_left' rfl
theorem mulT_add (A : B8) (a b : ByteArray) : addB (mulT A a) (mulT A b) = mulT A (addB a b) := by
  unfold addB mulT
  simp only [W.mulL_add]
theorem mulT_one (a : ByteArray) : mulT 1#8 a = a := by
  unfold mulT
  rw [W.mulL_one]
end Go.Proofs.Ytdlgailodhlbmaa
