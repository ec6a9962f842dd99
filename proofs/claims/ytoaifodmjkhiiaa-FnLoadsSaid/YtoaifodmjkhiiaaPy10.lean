/- Texts of ours, laid one behind the other: FieldT, MatK, CodA, CodB, CodC, HcB. -/
import Derived.Test.YtoaifodmjkhiiaaPy9
import Derived.PlainAid
import Derived.BigQuiet
import Derived.Deep.AppendLies
import Derived.Deep.OwnRows
import Derived.Deep.RegionLaw
/- FieldT: The walks of the models of the field of bytes over texts: AddText, MulText. -/
namespace Go.Proofs.Ytoaifodmjkhiiaa
set_option maxRecDepth 100000
open Go.RowKit
open W (B8)
attribute [local go_sem ↓] Go.wp_at_zero Go.wp_at_succ
attribute [local irreducible] W.gm

/-- The sum of two texts, and a text so many times. -/
def addB (a b : ByteArray) : ByteArray := ⟨(W.addL a.data.toList b.data.toList).toArray⟩
def mulT (A : B8) (s : ByteArray) : ByteArray := ⟨(W.mulL A s.data.toList).toArray⟩
theorem addB_comm (a b : ByteArray) : addB a b = addB b a := by unfold addB; rw [W.addL_comm]
theorem u8_xor (x y : UInt8) : bits .xor .u8 (x.toNat : Int) (y.toNat : Int) = ((x ^^^ y).toNat : Int) := by
  have h1 : ∀ z : UInt8, (BitVec.ofInt 8 (z.toNat : Int)).toNat = z.toNat := fun z => by rw [BitVec.toNat_ofInt]; have := z.toNat_lt; omega
  have h2 := (x ^^^ y).toNat_lt
  show IntKind.u8.wrap ((BitVec.ofInt 8 (x.toNat : Int) ^^^ BitVec.ofInt 8 (y.toNat : Int)).toNat : Nat) = _
  rw [BitVec.toNat_xor, h1, h1, ← UInt8.toNat_xor]
  rw [UInt8.toNat_xor] at h2 ⊢
  simp [IntKind.wrap, IntKind.bits, IntKind.signed]
  omega
theorem get_list (s : ByteArray) (k : Nat) (h : k < s.size) : Go.PlainAid.bt s k = ((s.data.toList.getD k 0).toNat : Int) := by
  unfold Go.PlainAid.bt
  rw [dif_pos h]
  have : s.data.toList.getD k 0 = s[k] := by
    have hk : k < s.data.size := h
    rw [List.getD_eq_getElem?_getD, Array.getElem?_toList, Array.getElem?_eq_getElem hk]
    rfl
  rw [this]
set_option maxHeartbeats 1000000 in
theorem specAdd_long (a b : ByteArray) (w : World) (ha : a.size ≤ 1048576) (h : b.size ≤ a.size) :
    Calls Try.prog 60 #[.string a, .string b] w fun e w' => e = .returned (.string (addB a b)) ∧ Below w.heap.size w w' := by
  have hg := Go.PlainAid.get_bt b
  have hlt' : ¬ (a.size : Int) < (b.size : Int) := by omega
  obtain ⟨w1, c1, hcv, hrow, hb1⟩ := bytes_made w a
  have hla : a.data.toList.length = a.size := rfl
  have hlb : b.data.toList.length = b.size := rfl
  have HB1 : Hid (Below w.heap.size w w1) := hb1
  have HROW : Hid (BRow w1 w.heap.size a.data.toList) := hrow
  clear hb1 hrow
  go_enter Try.func60, Try.ntmps60
  go_wp2_with fail
  go_loopw [7] (fun i wr => ∃ k : Nat, i = .int .i64 k ∧ k ≤ b.size ∧ BRow wr w.heap.size (W.addTo a.data.toList b.data.toList k) ∧ Below w.heap.size w wr) (fun i _ => b.size - (intOf i).toNat)
  case atStart => exact ⟨0, rfl, Nat.zero_le _, by rw [W.addTo_zero]; exact HROW.out, HB1.out⟩
  case round =>
    obtain ⟨k, rfl, hk, hrw, hbl⟩ := hrel
    have hll := W.addTo_len (a := a.data.toList) (b := b.data.toList) (k := k) h
    by_cases hlt : k < b.size
    · have k0 : (0 : Int) ≤ (k : Int) := by omega
      have k1 : (k : Int) < (b.size : Int) := by omega
      have k2 : (k : Int) < (a.size : Int) := by omega
      have hst := W.addTo_step (a := a.data.toList) (b := b.data.toList) (k := k) h hlt
      have hc := hrw.2 k (by omega)
      rw [hst.1] at hc
      obtain ⟨hc1, hc2⟩ := hc
      have hgl := get_list b k hlt
      have hset := hrw.set k (a.data.toList.getD k 0 ^^^ b.data.toList.getD k 0) (by omega)
      rw [hst.2] at hset
      have hix := index_str b k hlt
      rw [hgl] at hix
      have hxo := u8_xor (a.data.toList.getD k 0) (b.data.toList.getD k 0)
      generalize a.data.toList.getD k 0 = x at *
      generalize b.data.toList.getD k 0 = y at *
      have HS : Hid (BRow (wr.setCell ⟨w.heap.size, k, none⟩ (.int .u8 ((x ^^^ y).toNat : Int))) w.heap.size (W.addTo a.data.toList b.data.toList (k + 1))) := hset
      have HBL : Hid (Below w.heap.size w wr) := hbl
      clear hset hst hgl hrw hbl hg
      generalize x ^^^ y = z at *
      go_wp2_with fail
      go_region
      all_goals go_wp2_with fail
      all_goals exact ⟨⟨k + 1, by go_num, by omega, HS.out, Below.drew (HBL.out.setCell (Nat.le_refl _) _)⟩, by simp [intOf]; omega⟩
    · have e : k = b.size := by omega
      subst e
      have hall := W.addTo_all (a := a.data.toList) (b := b.data.toList) h
      rw [hlb] at hall
      have hcv2 := brow_string (cap := c1) hrw
      rw [hall] at hcv2
      have hl2 : (W.addL a.data.toList b.data.toList).length = a.size := by rw [← hall]; exact hll
      rw [hl2] at hcv2
      have HBL : Hid (Below w.heap.size w wr) := hbl
      clear hrw hall hl2 hll hbl hg
      go_wp2_with fail
      go_ret
      exact ⟨rfl, HBL.out⟩
set_option maxHeartbeats 1000000 in
theorem specAdd_short (b a : ByteArray) (w : World) (ha : a.size ≤ 1048576) (h' : b.size < a.size) :
    Calls Try.prog 60 #[.string b, .string a] w fun e w' => e = .returned (.string (addB b a)) ∧ Below w.heap.size w w' := by
  rw [addB_comm b a]
  have h : b.size ≤ a.size := by omega
  have hg := Go.PlainAid.get_bt b
  have hlt' : (b.size : Int) < (a.size : Int) := by omega
  clear h'
  obtain ⟨w1, c1, hcv, hrow, hb1⟩ := bytes_made w a
  have hla : a.data.toList.length = a.size := rfl
  have hlb : b.data.toList.length = b.size := rfl
  have HB1 : Hid (Below w.heap.size w w1) := hb1
  have HROW : Hid (BRow w1 w.heap.size a.data.toList) := hrow
  clear hb1 hrow
  go_enter Try.func60, Try.ntmps60
  go_wp2_with fail
  go_loopw [7] (fun i wr => ∃ k : Nat, i = .int .i64 k ∧ k ≤ b.size ∧ BRow wr w.heap.size (W.addTo a.data.toList b.data.toList k) ∧ Below w.heap.size w wr) (fun i _ => b.size - (intOf i).toNat)
  case atStart => exact ⟨0, rfl, Nat.zero_le _, by rw [W.addTo_zero]; exact HROW.out, HB1.out⟩
  case round =>
    obtain ⟨k, rfl, hk, hrw, hbl⟩ := hrel
    have hll := W.addTo_len (a := a.data.toList) (b := b.data.toList) (k := k) h
    by_cases hlt : k < b.size
    · have k0 : (0 : Int) ≤ (k : Int) := by omega
      have k1 : (k : Int) < (b.size : Int) := by omega
      have k2 : (k : Int) < (a.size : Int) := by omega
      have hst := W.addTo_step (a := a.data.toList) (b := b.data.toList) (k := k) h hlt
      have hc := hrw.2 k (by omega)
      rw [hst.1] at hc
      obtain ⟨hc1, hc2⟩ := hc
      have hgl := get_list b k hlt
      have hset := hrw.set k (a.data.toList.getD k 0 ^^^ b.data.toList.getD k 0) (by omega)
      rw [hst.2] at hset
      have hix := index_str b k hlt
      rw [hgl] at hix
      have hxo := u8_xor (a.data.toList.getD k 0) (b.data.toList.getD k 0)
      generalize a.data.toList.getD k 0 = x at *
      generalize b.data.toList.getD k 0 = y at *
      have HS : Hid (BRow (wr.setCell ⟨w.heap.size, k, none⟩ (.int .u8 ((x ^^^ y).toNat : Int))) w.heap.size (W.addTo a.data.toList b.data.toList (k + 1))) := hset
      have HBL : Hid (Below w.heap.size w wr) := hbl
      clear hset hst hgl hrw hbl hg
      generalize x ^^^ y = z at *
      go_wp2_with fail
      go_region
      all_goals go_wp2_with fail
      all_goals exact ⟨⟨k + 1, by go_num, by omega, HS.out, Below.drew (HBL.out.setCell (Nat.le_refl _) _)⟩, by simp [intOf]; omega⟩
    · have e : k = b.size := by omega
      subst e
      have hall := W.addTo_all (a := a.data.toList) (b := b.data.toList) h
      rw [hlb] at hall
      have hcv2 := brow_string (cap := c1) hrw
      rw [hall] at hcv2
      have hl2 : (W.addL a.data.toList b.data.toList).length = a.size := by rw [← hall]; exact hll
      rw [hl2] at hcv2
      have HBL : Hid (Below w.heap.size w wr) := hbl
      clear hrw hall hl2 hll hbl hg
      go_wp2_with fail
      go_ret
      exact ⟨rfl, HBL.out⟩
theorem specAddText (a b : ByteArray) (w : World) (ha : a.size ≤ 1048576) (hb : b.size ≤ 1048576) : Calls Try.prog 60 #[.string a, .string b] w fun e w' => e = .returned (.string (addB a b)) ∧ Below w.heap.size w w' := by
  by_cases h : b.size ≤ a.size
  · exact specAdd_long a b w ha h
  · exact specAdd_short a b w hb (by omega)
theorem mul_word (A : B8) (c : UInt8) (x : Int) (h : A = g8 x) : W.gm (g8 x) (g8 (c.toNat : Int)) = (W.mulB A c).toBitVec ∧ IntKind.u8.wrap ((W.mulB A c).toBitVec.toNat : Int) = ((W.mulB A c).toNat : Int) ∧ IntKind.i64.wrap (c.toNat : Int) = (c.toNat : Int) := by
  have e : g8 (c.toNat : Int) = c.toBitVec := g8_back c.toBitVec
  have hl := (W.mulB A c).toNat_lt
  have hc := c.toNat_lt
  refine ⟨by rw [e, ← h]; rfl, ?_, IntWalk.i64_in _ ⟨by omega, by omega⟩⟩
  show IntKind.u8.wrap ((W.mulB A c).toNat : Int) = _
  simp [IntKind.wrap, IntKind.bits, IntKind.signed]
  omega
set_option maxHeartbeats 1000000 in
theorem specMulText (x : Int) (s : ByteArray) (w : World) (hs : s.size ≤ 1048576) : Calls Try.prog 68 #[.int .i64 x, .string s] w fun e w' => e = .returned (.string (mulT (g8 x) s)) ∧ Below w.heap.size w w' := by
  obtain ⟨A, hA⟩ : ∃ A, A = g8 x := ⟨_, rfl⟩
  rw [← hA]
  have HA : Hid (A = g8 x) := hA
  clear hA
  obtain ⟨w1, c1, hcv, hrow, hb1⟩ := bytes_made w s
  have HB1 : Hid (Below w.heap.size w w1) := hb1
  have HROW : Hid (BRow w1 w.heap.size s.data.toList) := hrow
  clear hb1 hrow
  go_enter Try.func68, Try.ntmps68
  go_wp2_with fail
  go_loopw [6] (fun i wr => ∃ k : Nat, i = .int .i64 k ∧ k ≤ s.size ∧ BRow wr w.heap.size (W.mulTo A s.data.toList k) ∧ Below w.heap.size w wr) (fun i _ => s.size - (intOf i).toNat)
  case atStart => exact ⟨0, rfl, Nat.zero_le _, by rw [W.mulTo_zero]; exact HROW.out, HB1.out⟩
  case round =>
    obtain ⟨k, rfl, hk, hrw, hbl⟩ := hrel
    have hll := W.mulTo_len A s.data.toList k
    have hls : s.data.toList.length = s.size := rfl
    by_cases hlt : k < s.size
    · have k0 : (0 : Int) ≤ (k : Int) := by omega
      have k1 : (k : Int) < (s.size : Int) := by omega
      have hst := W.mulTo_step A (l := s.data.toList) (k := k) hlt
      have hc := hrw.2 k (by omega)
      rw [hst.1] at hc
      obtain ⟨hc1, hc2⟩ := hc
      have hset := hrw.set k (W.mulB A (s.data.toList.getD k 0)) (by omega)
      rw [hst.2] at hset
      generalize s.data.toList.getD k 0 = c at *
      obtain ⟨m1, m2, m3⟩ := mul_word A c x HA.out
      have hcall := specMulG x (c.toNat : Int)
      rw [m1] at hcall
      have HS : Hid (BRow (wr.setCell ⟨w.heap.size, k, none⟩ (.int .u8 ((W.mulB A c).toNat : Int))) w.heap.size (W.mulTo A s.data.toList (k + 1))) := hset
      have HBL : Hid (Below w.heap.size w wr) := hbl
      clear hset hst hrw hbl m1
      generalize (W.mulB A c).toBitVec = z at *
      generalize W.mulB A c = y at *
      go_wp2_with fail
      refine (hcall _).mono ?_
      clear hcall
      rintro e w2 ⟨rfl, rfl⟩
      go_wp2_with fail
      go_roundw
      case rel => exact ⟨k + 1, by go_num, by omega, HS.out, HBL.out.setCell (Nat.le_refl _) _⟩
      case measure => simp [intOf]; omega
    · have e : k = s.size := by omega
      subst e
      have hall := W.mulTo_all A s.data.toList (k := s.size) (by omega)
      have hcv2 := brow_string (cap := c1) hrw
      rw [hall, W.mulL_len, hls] at hcv2
      have HBL : Hid (Below w.heap.size w wr) := hbl
      clear hrw hall hll hbl
      go_wp2_with fail
      go_ret
      exact ⟨rfl, HBL.out⟩
theorem addB_size (a b : ByteArray) : (addB a b).size = max a.size b.size := by
  unfold addB
  show (W.addL a.data.toList b.data.toList).toArray.size = _
  rw [List.size_toArray, W.addL_len]
  rfl
theorem mulT_size (A : B8) (s : ByteArray) : (mulT A s).size = s.size := by
  unfold mulT
  show (W.mulL A s.data.toList).toArray.size = _
  rw [List.size_toArray, W.mulL_len]
  rfl
theorem addB_twice (a b : ByteArray) : (addB (addB a b) b).extract 0 a.size = a := by
  obtain ⟨r, hr⟩ := W.addL_twice a.data.toList b.data.toList
  apply Go.WideShapes.bytes_inj
  have e : (addB (addB a b) b).data.toList = a.data.toList ++ r := by unfold addB; simpa using hr
  simp only [ByteArray.data_extract, Array.toList_extract]
  rw [e]
  simp only [List.extract_eq_take_drop, List.drop_zero]
  exact List.take_left' rfl
theorem mulT_add (A : B8) (a b : ByteArray) : addB (mulT A a) (mulT A b) = mulT A (addB a b) := by
  unfold addB mulT
  simp only [W.mulL_add]
theorem mulT_one (a : ByteArray) : mulT 1#8 a = a := by
  unfold mulT
  rw [W.mulL_one]
end Go.Proofs.Ytoaifodmjkhiiaa
/- MatK: The walk of the model's ApplyM. -/
namespace Go.Proofs.Ytoaifodmjkhiiaa
set_option maxRecDepth 100000
open Go.RowKit
open W (B8 Mx)
attribute [local go_sem ↓] Go.wp_at_zero Go.wp_at_succ
attribute [local irreducible] W.gm W.xs W.mm W.gi mx addB mulT

/-- The sum of texts so many times, of the first k. -/
def accB (row : List Int) (L : List ByteArray) : Nat → ByteArray
  | 0 => ⟨#[]⟩
  | k + 1 => addB (accB row L k) (mulT (g8 (row.getD k 0)) (L.getD k ⟨#[]⟩))
/-- ApplyM, as it is answered. -/
def appX (X : List (List Int)) (L : List ByteArray) : List ByteArray := if matOk X = true ∧ colsOf X = L.length then X.map fun row => accB row L L.length else []
theorem accB_size (row : List Int) (L : List ByteArray) {n : Nat} (h : ∀ x ∈ L, x.size ≤ n) : ∀ k, (accB row L k).size ≤ n
  | 0 => Nat.zero_le _
  | k + 1 => by
    unfold accB
    rw [addB_size, mulT_size]
    have h1 := accB_size row L h k
    have h2 : (L.getD k ⟨#[]⟩).size ≤ n := by
      by_cases hk : k < L.length
      · exact h _ (by simp [List.getD, hk])
      · rw [List.getD_eq_getElem?_getD, List.getElem?_eq_none (by omega)]; exact Nat.zero_le _
    omega
theorem appX_no {X : List (List Int)} {L : List ByteArray} (h : ¬ (matOk X = true ∧ colsOf X = L.length)) : appX X L = [] := if_neg h
theorem cell_in {w : World} {p : Addr} {v : Value} (h : w.cell? p = some v) : p.block < w.heap.size := by
  unfold World.cell? at h
  cases hb : w.heap[p.block]? with
  | none => rw [hb] at h; simp at h
  | some o => exact (Array.getElem?_eq_some_iff.1 hb).1
theorem cells3 {w w' : World} {p q r : Addr} {a b c : Value} (h : w.cell? p = some a ∧ w.cell? q = some b ∧ w.cell? r = some c) (hb : Below w.heap.size w w') : w'.cell? p = some a ∧ w'.cell? q = some b ∧ w'.cell? r = some c :=
  ⟨(hb.cell (p := p) (cell_in h.1)).trans h.1, (hb.cell (p := q) (cell_in h.2.1)).trans h.2.1, (hb.cell (p := r) (cell_in h.2.2)).trans h.2.2⟩
set_option maxRecDepth 100000 in
set_option maxHeartbeats 4000000 in
theorem applyM_walk (X : List (List Int)) (L : List ByteArray) (n m b1 o1 b2 o2 cap1 cap2 : Nat) (w : World) (hn1 : 1 ≤ n) (hn8 : n ≤ 8) (hm1 : 1 ≤ m) (hm8 : m ≤ 8) (hxl : X.length = n) (hll : L.length = m)
    (hR : b1 < w.heap.size ∧ ∀ i, i < n → ∃ b' o' cp, w.cell? ⟨b1, o1 + i, none⟩ = some (.slice (some ⟨b', o', none⟩) m cp) ∧ b' < w.heap.size ∧ ∀ j, j < m → w.cell? ⟨b', o' + j, none⟩ = some (.int .i64 ((X.getD i []).getD j 0)))
    (hU : b2 < w.heap.size ∧ ∀ j, j < m → w.cell? ⟨b2, o2 + j, none⟩ = some (.string (L.getD j ⟨#[]⟩))) (hf : ∀ x ∈ L, x.size ≤ 1048576)
    (hc1 : ∀ W : World, Below w.heap.size w W → Calls Try.prog 67 #[.slice (some ⟨b1, o1, none⟩) n cap1] W fun e w' => e = .returned (.bool true) ∧ Below W.heap.size W w') :
    Calls Try.prog 61 #[.slice (some ⟨b1, o1, none⟩) n cap1, .slice (some ⟨b2, o2, none⟩) m cap2] w fun e w' => SPost (X.map fun row => accB row L L.length) w e w' := by
  obtain ⟨i0, hi0, hz0, hz1, hz2⟩ := info_parts infoTextG
  have hal : Below w.heap.size w (w.alloc (.cells #[] 9)) := (Below.refl _ _).alloc (Nat.le_refl _) _
  have HC1 : Hid _ := hc1
  have HR : Shut (b1 < w.heap.size ∧ ∀ i, i < n → ∃ b' o' cp, w.cell? ⟨b1, o1 + i, none⟩ = some (.slice (some ⟨b', o', none⟩) m cp) ∧ b' < w.heap.size ∧ ∀ j, j < m → w.cell? ⟨b', o' + j, none⟩ = some (.int .i64 ((X.getD i []).getD j 0))) := ⟨hR⟩
  have HU : Shut (b2 < w.heap.size ∧ ∀ j, j < m → w.cell? ⟨b2, o2 + j, none⟩ = some (.string (L.getD j ⟨#[]⟩))) := ⟨hU⟩
  have HF : Shut (∀ x ∈ L, x.size ≤ 1048576) := ⟨hf⟩
  have HX : Shut (X.length = n ∧ L.length = m) := ⟨hxl, hll⟩
  have hne : ((m : Int) != (m : Int)) = false := by simp
  have n0 : (0 : Int) < (n : Int) := by omega
  clear hc1 hR hU hf hxl hll
  go_enter Try.func61, Try.ntmps61
  go_wp2_with fail
  refine (HC1.out _ hal).mono ?_
  rintro e w1 ⟨rfl, hb1⟩
  have hbw1 : Below w.heap.size w w1 := hal.trans (hb1.mono hal.size)
  obtain ⟨br, or, cr, d0', lr, _⟩ := HR.out.2 0 (by omega)
  have d0 : w1.cell? ⟨b1, o1, none⟩ = some (.slice (some ⟨br, or, none⟩) m cr) := (hbw1.cell (p := ⟨b1, o1 + 0, none⟩) HR.out.1).trans d0'
  have HOWN : Shut (w1.ownsRow w.heap.size 9 1 (.slice (some ⟨w.heap.size, 0, none⟩) 0 0) 0 []) := ⟨(World.ownsRow_made w #[] 0 (Nat.le_refl _) (by decide) rfl).kept (row := none) ⟨hb1.os, hb1.tape, hb1.output, hb1.size, fun k hk _ => hb1.block k hk⟩ (Classical.em _)⟩
  have HB1 : Shut (Below w.heap.size w w1) := ⟨hbw1⟩
  clear hb1 hbw1 HC1 d0' hal
  go_wp2_with fail
  go_loopw [5, 6] (fun v i wr => ∃ (k : Nat) (vv : Value), vv = v ∧ i = .int .i64 k ∧ k ≤ n ∧ Shut (wr.ownsRow w.heap.size 9 1 vv k (tv ((X.map fun row => accB row L L.length).take k))) ∧ Shut (Below w.heap.size w wr)) (fun _ i _ => n - (intOf i).toNat)
  case atStart => exact ⟨0, _, rfl, rfl, by omega, HOWN, HB1⟩
  case round =>
    clear HOWN HB1 d0 lr
    obtain ⟨k, v, rfl, rfl, hk, hown, hb⟩ := hrel
    obtain ⟨wo, rfl⟩ : ∃ wo, wo = wr := ⟨_, rfl⟩
    by_cases hlt : k < n
    · have hlt' : (k : Int) < (n : Int) := by omega
      have k0 : (0 : Int) ≤ (k : Int) := by omega
      obtain ⟨r, hre⟩ : ∃ r, r = X.getD k [] := ⟨_, rfl⟩
      have HRE : Shut (r = X.getD k []) := ⟨hre⟩
      clear hre
      go_wp2_with fail
      go_loopw [7, 8] (fun s j wq => ∃ (t : Nat), j = .int .i64 t ∧ t ≤ m ∧ s = .string (accB r L t) ∧ Shut (wq.ownsRow w.heap.size 9 1 v k (tv ((X.map fun row => accB row L L.length).take k))) ∧ Shut (Below w.heap.size w wq)) (fun _ j _ => m - (intOf j).toNat)
      case atStart => exact ⟨0, rfl, by omega, rfl, hown, hb⟩
      case round =>
        clear hown hb
        obtain ⟨t, rfl, ht, rfl, hown, hb⟩ := hrel
        obtain ⟨wi, rfl⟩ : ∃ wi, wi = wr := ⟨_, rfl⟩
        by_cases htl : t < m
        · have htl' : (t : Int) < (m : Int) := by omega
          have t0 : (0 : Int) ≤ (t : Int) := by omega
          obtain ⟨b', o', cp, e1, l1, e2⟩ := HR.out.2 k hlt
          have d1 := (hb.out.cell (p := ⟨b1, o1 + k, none⟩) HR.out.1).trans e1
          have d2 := (hb.out.cell (p := ⟨b', o' + t, none⟩) l1).trans (e2 t htl)
          have d3 := (hb.out.cell (p := ⟨b2, o2 + t, none⟩) HU.out.1).trans (HU.out.2 t htl)
          rw [← HRE.out] at d2
          have hsz := hb.out.size
          have l2 : b1 < wi.heap.size := Nat.lt_of_lt_of_le HR.out.1 hsz
          have l3 : b2 < wi.heap.size := Nat.lt_of_lt_of_le HU.out.1 hsz
          have l4 : b' < wi.heap.size := Nat.lt_of_lt_of_le l1 hsz
          have hst : accB r L (t + 1) = addB (accB r L t) (mulT (g8 (r.getD t 0)) (L.getD t ⟨#[]⟩)) := rfl
          have hz1 := accB_size r L HF.out t
          have hz2 := HF.out (L.getD t ⟨#[]⟩) (by have := HX.out.2; simp [List.getD, show t < L.length by omega])
          have hz3 := mulT_size (g8 (r.getD t 0)) (L.getD t ⟨#[]⟩)
          have HM := Shut.mk fun W => specMulText (r.getD t 0) (L.getD t ⟨#[]⟩) W hz2
          have HA := Shut.mk fun W => specAddText (accB r L t) (mulT (g8 (r.getD t 0)) (L.getD t ⟨#[]⟩)) W hz1 (by omega)
          generalize mulT (g8 (r.getD t 0)) (L.getD t ⟨#[]⟩) = M at HM HA hst
          generalize r.getD t 0 = x at *
          generalize L.getD t ⟨#[]⟩ = u at *
          have HST := Shut.mk hst
          clear hst hz1 hz2 hz3 e1 e2
          go_wp2_with fail
          have tokA : True := trivial
          have tokB : True := trivial
          go_region_held3 (fun w' => w'.cell? ⟨b1, o1 + k, none⟩ = some (.slice (some ⟨b', o', none⟩) m cp) ∧ w'.cell? ⟨b', o' + t, none⟩ = some (.int .i64 x) ∧ w'.cell? ⟨b2, o2 + t, none⟩ = some (.string u))
            (first | assumption | (exact cells3 (by assumption) hbB) | (exact cells3 (by assumption) hbA) | go_keep)
            (first
              | (go_at_call 68; have _t := tokA; refine (HM.out _).mono ?_; rintro e w6 ⟨rfl, hbA⟩; clear _t tokA)
              | (go_at_call 60; have _t := tokB; refine (HA.out _).mono ?_; rintro e w7 ⟨rfl, hbB⟩; clear _t tokB))
          all_goals
            have hbx : Below wi.heap.size wi w7 := ((Below.drew (Below.refl wi.heap.size wi)).trans hbA).trans (hbB.mono hbA.size)
            have HO := Shut.mk (hown.out.kept (row := none) ⟨hbx.os, hbx.tape, hbx.output, hbx.size, fun k hk _ => hbx.block k hk⟩ (Classical.em _))
            have HB2 := Shut.mk (hb.out.trans (hbx.mono hb.out.size))
            clear hbx hbA hbB hown hb
            go_wp2_with fail
            go_roundw
            case rel => exact ⟨t + 1, by go_num, by omega, by rw [HST.out], HO, HB2⟩
            case measure => simp [intOf]; omega
        · have e : t = m := by omega
          have htl' : ¬ (t : Int) < (m : Int) := by omega
          have hsz := hb.out.size
          have hown' := hown.out
          have HST : Shut (tv ((X.map fun row => accB row L L.length).take (k + 1)) = tv ((X.map fun row => accB row L L.length).take k) ++ [.string (accB r L t)]) := ⟨by
            have hkx : k < X.length := by have := HX.out.1; omega
            rw [List.take_succ_eq_append_getElem (by rw [List.length_map]; exact hkx), ← tv_snoc, List.getElem_map, HRE.out, e, HX.out.2]
            congr 3
            simp [List.getD, hkx]⟩
          clear e hown
          generalize accB r L t = T at *
          go_wp2_with (at_builtin; refine wpList_append_own _ rfl _ _ 99 rfl w.heap.size 9 i0 (.string ⟨#[]⟩) 1 16 Try.underlying99 hi0 hz0 hz1 hz2 rfl (by decide) _ _ _ rfl (hown'.alloc _) ⟨wi.heap.size, 0, none⟩ 1 1 [.string T] rfl rfl (cell_one_new _ _ _) ?c2 ?c3 ?c4 ?c5 ?_)
          case c2 => first | rfl | (intro u hu; simp at hu; subst hu; rfl)
          case c3 => unfold maxLen; omega
          case c4 => omega
          case c5 => first | omega | (simp; omega)
          intro v' w8 hown8 hgrow _
          rw [← HST.out] at hown8
          have hb8 : Below w.heap.size w w8 := (hb.out.alloc hsz _).grown hgrow (by simp; omega) (fun j hj => (hown'.lt j hj).1)
          have HO8 := Shut.mk hown8
          have HB8 := Shut.mk hb8
          clear hgrow hown8 hb8 hown' hb HST
          go_wp2_with fail
          go_roundw
          case rel => exact ⟨k + 1, v', rfl, by go_num, by omega, HO8, HB8⟩
          case measure => simp [intOf]; omega
    · have e : k = n := by omega
      have hlt' : ¬ (k : Int) < (n : Int) := by omega
      have hfin : SAns wo v (X.map fun row => accB row L L.length) w.heap.size wo.heap.size := own_sans (n := k) (by rw [List.length_map]; have := HX.out.1; omega) (by
        have h := hown.out
        rw [List.take_of_length_le (by rw [List.length_map]; have := HX.out.1; omega)] at h
        exact h)
      have HFIN := Shut.mk hfin
      clear hfin hown e
      go_wp2_with fail
      go_ret
      exact ⟨v, rfl, HFIN.out, hb.out⟩
/-- What the walk wants of a matrix that is right, and of units. -/
theorem rows_in {w : World} {a : Option Addr} {ss : List SR} {lo hi : Nat} {X : List (List Int)} (h : MR w a ss lo hi) (hX : rws ss = X) (hok : matOk X = true) :
    ∃ b off, a = some ⟨b, off, none⟩ ∧ b < w.heap.size ∧ ∀ i, i < X.length → ∃ b' o' cp, w.cell? ⟨b, off + i, none⟩ = some (.slice (some ⟨b', o', none⟩) (colsOf X) cp) ∧ b' < w.heap.size ∧ ∀ j, j < colsOf X → w.cell? ⟨b', o' + j, none⟩ = some (.int .i64 ((X.getD i []).getD j 0)) := by
  have hl : ss.length = X.length := by rw [← hX, rws_len]
  obtain ⟨h1, h2, h3⟩ := matOk_iff hok
  obtain ⟨b, off, e, hb, hc⟩ := h.at (by omega)
  refine ⟨b, off, e, hb, fun i hi => ?_⟩
  have his : i < ss.length := by omega
  have hget : X.getD i [] = ss[i].row := by rw [← hX, List.getD_eq_getElem?_getD]; simp [rws, his]
  have hmem : ss[i].row ∈ X := by rw [← hX]; exact List.mem_map.2 ⟨ss[i], List.getElem_mem his, rfl⟩
  have hlen : ss[i].row.length = colsOf X := (h3 _ hmem).1
  obtain ⟨b', o', e', hb', hc'⟩ := crow_int (h.2 _ (List.getElem_mem his)).crow (by omega)
  have := hc i his
  unfold srv at this
  rw [hlen, e'] at this
  exact ⟨b', o', ss[i].cap, this, hb', fun j hj => by rw [hget]; exact hc' j (by omega)⟩
theorem units_in {w : World} {a : Option Addr} {L : List ByteArray} {lo hi : Nat} (h : RRow w a (tv L) lo hi) (hp : 0 < L.length) : ∃ b off, a = some ⟨b, off, none⟩ ∧ b < w.heap.size ∧ ∀ j, j < L.length → w.cell? ⟨b, off + j, none⟩ = some (.string (L.getD j ⟨#[]⟩)) := by
  obtain ⟨b, off, e, _, _, hb, hc⟩ := h (by rw [tv_len]; exact hp)
  exact ⟨b, off, e, hb, fun j hj => hc j _ (tv_get L j hj)⟩
set_option maxRecDepth 100000 in
set_option maxHeartbeats 4000000 in
theorem specApplyM {w : World} {v u : Value} {X : List (List Int)} {L : List ByteArray} {lo hi lo' hi' : Nat} (hs : MSee w v X lo hi) (ht : SSee w u L lo' hi') (hf : MFit X) (hg : TFit L) : Calls Try.prog 61 #[v, u] w fun e w' => SPost (appX X L) w e w' := by
  have hs' := hs
  obtain ⟨a1, cap1, ss, rfl, hr1, hm1⟩ := hs
  obtain ⟨a2, cap2, rfl, hm2⟩ := ht
  have hl1 : ss.length = X.length := by rw [← hr1, rws_len]
  rw [hl1] at hs' ⊢
  have hal : Below w.heap.size w (w.alloc (.cells #[] 9)) := (Below.refl _ _).alloc (Nat.le_refl _) _
  have hc1 := fun W (hW : Below w.heap.size w W) => specMatrixOk (hs'.below hW) hf
  cases h1 : matOk X with
  | false =>
    have HX : Hid (appX X L = []) := appX_no (fun h => by rw [h1] at h; cases h.1)
    rw [h1] at hc1
    have HC1 : Hid _ := hc1
    clear hc1 hm1 hm2 h1 hs' hf hg
    go_enter Try.func61, Try.ntmps61
    go_wp2_with fail
    refine (HC1.out _ hal).mono ?_
    rintro e w1 ⟨rfl, hb1⟩
    have HB : Hid (Below w.heap.size w w1) := hal.trans (hb1.mono hal.size)
    clear hb1
    go_wp2_with fail
    go_ret
    exact ⟨_, rfl, by rw [HX.out]; exact SAns.empty _ _ _ _ _, HB.out⟩
  | true =>
    rw [h1] at hc1
    obtain ⟨⟨hx1, hx8⟩, ⟨hcx1, hcx8⟩, _⟩ := matOk_iff h1
    obtain ⟨b1, o1, rfl, lb1, hrow1⟩ := rows_in hm1 hr1 h1
    by_cases h3 : colsOf X = L.length
    · obtain ⟨b2, o2, rfl, lb2, hrow2⟩ := units_in hm2 (by omega)
      have hX : appX X L = X.map fun row => accB row L L.length := if_pos ⟨h1, h3⟩
      rw [hX]
      rw [h3] at hrow1
      exact applyM_walk X L X.length L.length b1 o1 b2 o2 cap1 cap2 w hx1 hx8 (by omega) (by omega) rfl rfl ⟨lb1, hrow1⟩ ⟨lb2, hrow2⟩ (fun x hx => by have := tsum_mem hx; unfold TFit at hg; omega) hc1
    · have HX : Hid (appX X L = []) := appX_no (fun h => h3 h.2)
      obtain ⟨br, or, cr, d0', lr, _⟩ := hrow1 0 (by omega)
      have HD0 : Hid (∀ W : World, Below w.heap.size w W → W.cell? ⟨b1, o1, none⟩ = some (.slice (some ⟨br, or, none⟩) (colsOf X) cr)) := fun W hW => (hW.cell (p := ⟨b1, o1 + 0, none⟩) lb1).trans d0'
      have HC1 : Hid (∀ W : World, Below w.heap.size w W → Calls Try.prog 67 #[.slice (some ⟨b1, o1, none⟩) X.length cap1] W fun e w' => e = .returned (.bool true) ∧ Below W.heap.size W w') := hc1
      have hne : ((colsOf X : Int) != (L.length : Int)) = true := by rw [bne_iff_ne]; omega
      have n0 : (0 : Int) < (X.length : Int) := by omega
      clear hc1 hm1 hm2 hs' d0' lr hrow1 h1 h3 hr1 hl1 hf hg
      go_enter Try.func61, Try.ntmps61
      go_wp2_with fail
      refine (HC1.out _ hal).mono ?_
      rintro e w1 ⟨rfl, hb1⟩
      have hbw1 : Below w.heap.size w w1 := hal.trans (hb1.mono hal.size)
      have d0 := HD0.out w1 hbw1
      have HB : Hid (Below w.heap.size w w1) := hbw1
      clear hb1 hbw1
      go_wp2_with fail
      go_ret
      exact ⟨_, rfl, by rw [HX.out]; exact SAns.empty _ _ _ _ _, HB.out⟩
end Go.Proofs.Ytoaifodmjkhiiaa
/- CodA: Units and sums, plain: the schemas, their codes, what is encoded, decoded and built again. Nothing of the program is read here. -/
namespace Go.Proofs.Ytoaifodmjkhiiaa
set_option maxRecDepth 100000
open Go.RowKit
open W (B8 Mx)

/-- The row of a sum. -/
def codeRow (k i : Nat) : List Int := (List.range k).map fun j => ((W.gi (g8 (((k + i) ^^^ j : Nat) : Int))).toNat : Int)
def codeX (s : Int) : List (List Int) := if schOk s = true then (List.range (schK s)).map (oneRow (schK s)) ++ (List.range (schM s)).map (codeRow (schK s)) else []
theorem codeX_no {s : Int} (h : schOk s = false) : codeX s = [] := by unfold codeX; rw [if_neg (by rw [h]; decide)]
theorem codeX_yes {s : Int} (h : schOk s = true) : codeX s = (List.range (schK s)).map (oneRow (schK s)) ++ (List.range (schM s)).map (codeRow (schK s)) := by unfold codeX; rw [if_pos h]
theorem codeRow_len (k i : Nat) : (codeRow k i).length = k := by simp [codeRow]
theorem codeX_len {s : Int} (h : schOk s = true) : (codeX s).length = schK s + schM s := by rw [codeX_yes h]; simp
theorem codeX_rows {s : Int} (h : schOk s = true) : ∀ r ∈ codeX s, r.length = schK s ∧ ∀ y ∈ r, 0 ≤ y ∧ y ≤ 255 := fun r hr => by
  rw [codeX_yes h] at hr
  rcases List.mem_append.1 hr with q | q
  · obtain ⟨i, _, rfl⟩ := List.mem_map.1 q
    refine ⟨oneRow_len _ _, fun y hy => ?_⟩
    obtain ⟨j, _, rfl⟩ := List.mem_map.1 hy
    split <;> omega
  · obtain ⟨i, _, rfl⟩ := List.mem_map.1 q
    refine ⟨codeRow_len _ _, fun y hy => ?_⟩
    obtain ⟨j, _, rfl⟩ := List.mem_map.1 hy
    exact b8_num _
theorem codeX_at {s : Int} (h : schOk s = true) {i : Nat} (hi : i < schK s + schM s) : ((codeX s).getD i []).length = schK s ∧ (codeX s).getD i [] ∈ codeX s := by
  have hi' : i < (codeX s).length := by rw [codeX_len h]; exact hi
  have e : (codeX s).getD i [] = (codeX s)[i] := by simp [List.getD, hi']
  rw [e]
  exact ⟨(codeX_rows h _ (List.getElem_mem hi')).1, List.getElem_mem hi'⟩
/-- Rows of a code, a few of them, are a matrix that is right. -/
theorem rows_ok {s : Int} (h : schOk s = true) {X : List (List Int)} (hX : ∀ r ∈ X, r ∈ codeX s) (h1 : 1 ≤ X.length) (h8 : X.length ≤ 8) : matOk X = true ∧ colsOf X = schK s := by
  obtain ⟨b1, b2, _, _⟩ := sch_bounds h
  have hc : colsOf X = schK s := by
    cases X with
    | nil => simp at h1
    | cons x X => exact (codeX_rows h x (hX x (by simp))).1
  refine ⟨?_, hc⟩
  unfold matOk
  rw [show (X.headD []).length = colsOf X from rfl, hc, decide_eq_true (show (1 : Int) ≤ (X.length : Int) by omega), decide_eq_true (show (X.length : Int) ≤ 8 by omega), Bool.and_self, Bool.and_true, List.all_eq_true]
  intro x hx
  obtain ⟨q1, q2⟩ := codeX_rows h x (hX x hx)
  unfold rowOk numOk
  rw [decide_eq_true q1, q1, decide_eq_true (show (1 : Int) ≤ (schK s : Int) by omega), decide_eq_true (show (schK s : Int) ≤ 8 by omega), Bool.and_self, Bool.and_self, Bool.true_and, List.all_eq_true]
  intro y hy
  obtain ⟨y1, y2⟩ := q2 y hy
  rw [decide_eq_true y1, decide_eq_true y2]; rfl
theorem codeX_ok {s : Int} (h : schOk s = true) : matOk (codeX s) = true ∧ colsOf (codeX s) = schK s := by
  obtain ⟨b1, b2, b3, b4⟩ := sch_bounds h
  exact rows_ok h (fun _ h => h) (by rw [codeX_len h]; omega) (by rw [codeX_len h]; omega)
/-- The longest of some texts. -/
def mostL : List ByteArray → Nat
  | [] => 0
  | x :: L => max x.size (mostL L)
theorem mostL_le {L : List ByteArray} {x : ByteArray} (h : x ∈ L) : x.size ≤ mostL L := by
  induction L with
  | nil => simp at h
  | cons y L ih =>
    rcases List.mem_cons.1 h with rfl | h
    · simp only [mostL]; omega
    · have := ih h; simp only [mostL]; omega
theorem mostL_snoc (L : List ByteArray) (x : ByteArray) : mostL (L ++ [x]) = max (mostL L) x.size := by
  induction L with
  | nil => simp [mostL]
  | cons y L ih => simp only [List.cons_append, mostL, ih]; omega
theorem mostL_all {L : List ByteArray} {n : Nat} (h : ∀ x ∈ L, x.size ≤ n) : mostL L ≤ n := by
  induction L with
  | nil => simp [mostL]
  | cons y L ih => simp only [mostL]; have h1 := h y (by simp); have h2 := ih (fun x hx => h x (by simp [hx])); omega
def zerosB (n : Nat) : ByteArray := ⟨(List.replicate n (0 : UInt8)).toArray⟩
theorem zerosB_size (n : Nat) : (zerosB n).size = n := by simp [zerosB, ByteArray.size]
/-- Units, each filled to the length of the longest one. -/
def fillL (L : List ByteArray) : List ByteArray := L.map fun x => addB x (zerosB (mostL L))
theorem fillL_len (L : List ByteArray) : (fillL L).length = L.length := by simp [fillL]
def shortL (L : List ByteArray) : Bool := L.all fun x => decide (x.size ≤ 200)
/-- Encode, as it is answered. -/
def encX (s : Int) (L : List ByteArray) : List ByteArray × Bool := if schOk s = true ∧ L.length = schK s ∧ shortL L = true then (appX (codeX s) (fillL L), true) else ([], false)
theorem encX_no {s : Int} {L : List ByteArray} (h : ¬ (schOk s = true ∧ L.length = schK s ∧ shortL L = true)) : encX s L = ([], false) := if_neg h
theorem encX_yes {s : Int} {L : List ByteArray} (h : schOk s = true ∧ L.length = schK s ∧ shortL L = true) : encX s L = (appX (codeX s) (fillL L), true) := if_pos h
/-- The places that are there. -/
def thereI (H : List Bool) (n : Nat) : List Nat := (List.range n).filter fun i => H.getD i false
theorem thereI_succ (H : List Bool) (n : Nat) : thereI H (n + 1) = thereI H n ++ if H.getD n false = true then [n] else [] := by
  unfold thereI
  rw [List.range_succ, List.filter_append]
  congr 1
  by_cases h : H.getD n false = true
  · rw [if_pos h, List.filter_cons_of_pos (p := fun i => H.getD i false) h]; rfl
  · rw [if_neg h, List.filter_cons_of_neg (p := fun i => H.getD i false) h]; rfl
theorem thereI_mem {H : List Bool} {n i : Nat} : i ∈ thereI H n ↔ i < n ∧ H.getD i false = true := by
  unfold thereI; rw [List.mem_filter, List.mem_range]
/-- Texts that are there are of one length. -/
def OneLen (L : List ByteArray) (H : List Bool) (n : Nat) : Prop := ∀ i ∈ thereI H n, ∀ j ∈ thereI H n, (L.getD i ⟨#[]⟩).size = (L.getD j ⟨#[]⟩).size
def pickI (s : Int) (H : List Bool) (n : Nat) : List Nat := (thereI H n).take (schK s)
def rowsP (s : Int) (I : List Nat) : List (List Int) := I.map fun i => (codeX s).getD i []
def unitsP (L : List ByteArray) (I : List Nat) : List ByteArray := I.map fun i => L.getD i ⟨#[]⟩
def DecOk (s : Int) (L : List ByteArray) (H : List Bool) : Prop := schOk s = true ∧ L.length = schK s + schM s ∧ H.length = schK s + schM s ∧ OneLen L H H.length ∧ schK s ≤ (thereI H H.length).length
open Classical in
/-- Decode, as it is answered. -/
noncomputable def decX (s : Int) (L : List ByteArray) (H : List Bool) : List ByteArray × Bool :=
  if DecOk s L H ∧ (invX (rowsP s (pickI s H H.length))).2 = true then (appX (invX (rowsP s (pickI s H H.length))).1 (unitsP L (pickI s H H.length)), true) else ([], false)
theorem decX_no {s : Int} {L : List ByteArray} {H : List Bool} (h : ¬ (DecOk s L H ∧ (invX (rowsP s (pickI s H H.length))).2 = true)) : decX s L H = ([], false) := by unfold decX; rw [if_neg h]
theorem decX_yes {s : Int} {L : List ByteArray} {H : List Bool} (h : DecOk s L H) (h2 : (invX (rowsP s (pickI s H H.length))).2 = true) : decX s L H = (appX (invX (rowsP s (pickI s H H.length))).1 (unitsP L (pickI s H H.length)), true) := by unfold decX; rw [if_pos ⟨h, h2⟩]
/-- Rebuild, as it is answered. -/
noncomputable def rebX (s : Int) (L : List ByteArray) (H : List Bool) : List ByteArray × Bool := if (decX s L H).2 = true then encX s (decX s L H).1 else ([], false)
/-- What such an answer is. -/
def TPost (R : List ByteArray × Bool) (w : World) (e : Ending) (w' : World) : Prop := ∃ v, e = .returned (.tuple #[v, .bool R.2]) ∧ SAns w' v R.1 w.heap.size w'.heap.size ∧ Below w.heap.size w w'
theorem tpost_no {R : List ByteArray × Bool} {w w' : World} {e : Ending} {a : Option Addr} {cap : Nat} (h : R = ([], false)) (he : e = .returned (.tuple #[.slice a 0 cap, .bool false])) (hb : Below w.heap.size w w') : TPost R w e w' := by
  unfold TPost
  rw [h]
  exact ⟨_, he, SAns.empty _ _ _ _ _, hb⟩
end Go.Proofs.Ytoaifodmjkhiiaa
/- CodB: The walk of the model's CodeOf. -/
namespace Go.Proofs.Ytoaifodmjkhiiaa
set_option maxRecDepth 100000
open Go.RowKit
open W (B8 Mx)
attribute [local go_sem ↓] Go.wp_at_zero Go.wp_at_succ
attribute [local irreducible] W.gm W.xs W.mm W.gi mx matOk

/-- The rows of an answer, as they are cells. -/
theorem news_rows {w : World} {g : Nat} {ss : List SR} (h : WCells w g (svs ss)) : ∀ j u, (svs ss)[j]? = some u → w.cell? ((⟨g, 0, none⟩ : Addr).add j) = some u := fun j u hj => by
  have e : (⟨g, 0, none⟩ : Addr).add j = ⟨g, j, none⟩ := by cases j <;> simp [Addr.add]
  rw [e]; exact (h.2 j u hj).1
theorem one_rows' (ss : List SR) : ∀ u ∈ svs ss, u.oneCell' = true := fun u hu => by
  obtain ⟨x, _, rfl⟩ := List.mem_map.1 hu
  rfl
/-- Rows that were answered are taken over by append. -/
theorem BI.over {w w1 w2 : World} {v1 v' : Value} {ss : List SR} {g : Nat} (hw : MW w1 g ss w.heap.size w1.heap.size) (hne : ∀ s ∈ ss, s.row ≠ []) (hb : Below w.heap.size w w1)
    (hv : ∀ q, v1.ownBlock = some q → w.heap.size ≤ q ∧ ∀ s ∈ ss, s.loc ≠ some ⟨q, 0, none⟩) (hown : w2.ownsRow w.heap.size 35 1 v' ss.length (svs ss)) (hg : w1.grownBy w2 v1.ownBlock) : BI w w2 v' ss := by
  refine ⟨hown, fun s hs => ?_, hw.apart, hb.grown hg hb.size (fun q hq => (hv q hq).1)⟩
  obtain ⟨b, e, h1, h2, h3, h4, h5⟩ := hw.rows s hs
  refine ⟨b, e, h1, ⟨Nat.lt_of_lt_of_le h4.1 hg.size, fun i u hu => ?_⟩, h5, hne s hs⟩
  have hbk : w2.heap[b]? = w1.heap[b]? := hg.block b h4.1 (fun q => by
    have := (hv b q.symm).2 s hs
    exact this e)
  exact ⟨(World.cell?_of_block (a := ⟨b, i, none⟩) hbk).trans (h4.2 i u hu).1, (World.frozen?_of_block (a := ⟨b, i, none⟩) hbk).trans (h4.2 i u hu).2⟩
theorem codeX_take {s : Int} (h : schOk s = true) {i : Nat} (hi : i < schM s) : (codeX s).take (schK s + i + 1) = (codeX s).take (schK s + i) ++ [codeRow (schK s) i] := by
  have hl : schK s + i < (codeX s).length := by rw [codeX_len h]; omega
  rw [List.take_succ_eq_append_getElem hl]
  congr 2
  simp only [codeX_yes h]
  rw [List.getElem_append_right (by simp)]
  simp
theorem codeX_start {s : Int} (h : schOk s = true) : (codeX s).take (schK s) = oneX (schK s : Nat) := by
  obtain ⟨b1, b2, _, _⟩ := sch_bounds h
  rw [codeX_yes h, List.take_append_of_le_length (by simp), List.take_of_length_le (by simp)]
  unfold oneX
  rw [if_pos (by omega)]; rfl
set_option maxRecDepth 100000 in
set_option maxHeartbeats 4000000 in
theorem specCodeOf (s : Int) (w : World) : Calls Try.prog 62 #[.int .i64 s] w fun e w' => MPost (codeX s) w e w' := by
  have HS := Shut.mk (fun W => specSchema s W)
  cases h : schOk s with
  | false =>
    rw [codeX_no h]
    unfold SchPost at HS
    rw [h] at HS
    clear h
    go_enter Try.func62, Try.ntmps62
    go_wp2_with fail
    refine (HS.out _).mono ?_
    rintro e w1 ⟨rfl, rfl⟩
    go_wp2_with fail
    go_ret
    exact ⟨_, rfl, MAns.empty _ _ _ _ _, (Below.refl _ _).alloc (Nat.le_refl _) _⟩
  | true =>
    obtain ⟨i0, hi0, hz0, hz1, hz2⟩ := info_parts infoRow
    obtain ⟨i1, hi1, hy0, hy1, hy2⟩ := info_parts infoIntG
    unfold SchPost at HS
    rw [h] at HS
    obtain ⟨b1, b2, b3, b4⟩ := sch_bounds h
    have HSTA := Shut.mk (codeX_start h)
    have HTK := Shut.mk (fun i (hi : i < schM s) => codeX_take h hi)
    have HLEN := Shut.mk (codeX_len h)
    clear h
    generalize schK s = k at *
    generalize schM s = m at *
    generalize codeX s = C at *
    have HONE := Shut.mk (fun W => specOneM (k : Int) W)
    have hal : Below w.heap.size w (w.alloc (.cells #[] 35)) := (Below.refl _ _).alloc (Nat.le_refl _) _
    have HAL := Shut.mk hal
    have HOWN0 := Shut.mk (World.ownsRow_made (base := w.heap.size) (e := 35) (size := 1) w #[] 0 (Nat.le_refl _) (by decide) rfl)
    clear hal
    go_enter Try.func62, Try.ntmps62
    go_wp2_with fail
    refine (HS.out _).mono ?_
    rintro e w0 ⟨rfl, rfl⟩
    go_wp2_with fail
    refine (HONE.out _).mono ?_
    rintro e w1 ⟨v1, rfl, ha1, hb1⟩
    have hlo : (oneX (k : Int)).length = k := by unfold oneX; rw [if_pos (by omega)]; simp
    obtain ⟨a1, cap1, ss, rfl, hr1, hc1, q1⟩ := ha1
    have hls : ss.length = k := by rw [← rws_len, hr1, hlo]
    obtain ⟨g, rfl, hm1⟩ : ∃ g, a1 = some ⟨g, 0, none⟩ ∧ MW w1 g ss (w0.alloc (.cells #[] 35)).heap.size w1.heap.size := by
      rcases q1 with rfl | q1
      · simp at hls; omega
      · exact q1
    have hown0 : w1.ownsRow w0.heap.size 35 1 (.slice (some ⟨w0.heap.size, 0, none⟩) 0 0) 0 [] := HOWN0.out.kept (row := none) ⟨hb1.os, hb1.tape, hb1.output, hb1.size, fun k hk _ => hb1.block k hk⟩ (Classical.em _)
    have HNEWS := Shut.mk (news_rows hm1.out)
    have HM1 := Shut.mk hm1
    have HB1 := Shut.mk (HAL.out.trans (hb1.mono HAL.out.size))
    have HR1 := Shut.mk hr1
    have HLS : Hid (ss.length = k) := hls
    rw [hls]
    clear q1 hm1 hb1 hr1 hls hlo hc1 HAL HOWN0 HONE
    go_wp2_with (at_builtin; refine wpList_append_own _ rfl _ _ 113 rfl w0.heap.size 35 i0 (.slice none 0 0) 1 24 Try.underlying113 hi0 hz0 hz1 hz2 rfl (by decide) _ 0 [] rfl hown0 ⟨g, 0, none⟩ k cap1 (svs ss) rfl ?c1 HNEWS.out (one_rows' ss) ?c3 ?c4 ?c5 ?_)
    case c1 => rw [svs_len, Nat.mul_one]; exact HLS.out
    case c3 => unfold maxLen; omega
    case c4 => omega
    case c5 => exact HB1.out.size
    intro v2 w2 hown2 hg2 _
    have hbi : BI w0 w2 v2 ss := BI.over (HM1.out.wide (by simp) (Nat.le_refl _)) (fun s hs => by
        have : s.row ∈ oneX (k : Int) := by rw [← HR1.out]; exact List.mem_map.2 ⟨s, hs, rfl⟩
        unfold oneX at this
        rw [if_pos (by omega)] at this
        obtain ⟨i, _, hi⟩ := List.mem_map.1 this
        intro e0
        have hl := oneRow_len (k : Int).toNat i
        rw [hi, e0] at hl
        simp at hl; omega) HB1.out (fun q hq => by
        have : q = w0.heap.size := by simp [Value.ownBlock] at hq; exact hq.symm
        subst this
        refine ⟨Nat.le_refl _, fun s hs e0 => ?_⟩
        obtain ⟨b, e1, h1, _⟩ := HM1.out.rows s hs
        have : b = w0.heap.size := congrArg Addr.block (Option.some.inj (e1.symm.trans e0))
        simp at h1; omega) (by rw [HLS.out]; exact hown2) hg2
    have HBI := Shut.mk hbi
    have HRW : Shut (rws ss = C.take (k + 0)) := ⟨by rw [HR1.out, Nat.add_zero, HSTA.out]⟩
    clear hbi hown2 hg2 hown0 HM1 HR1 HSTA HNEWS HB1
    go_wp2_with fail
    go_loopw [6, 7] (fun v ii wr => ∃ (i : Nat) (ts : List SR) (vv : Value), vv = v ∧ ii = .int .i64 (i : Nat) ∧ i ≤ m ∧ ts.length = k + i ∧ Shut (rws ts = C.take (k + i)) ∧ Shut (BI w0 wr vv ts)) (fun _ ii _ => m - (intOf ii).toNat)
    case atStart => exact ⟨0, ss, _, rfl, rfl, Nat.zero_le _, HLS.out, HRW, HBI⟩
    case round =>
      clear HBI HRW HLS
      obtain ⟨i, ts, v, rfl, rfl, him, htl, hrw, hbi⟩ := hrel
      obtain ⟨wo, rfl⟩ : ∃ wo, wo = wr := ⟨_, rfl⟩
      have HTL : Hid (ts.length = k + i) := htl
      clear htl
      by_cases hlt : i < m
      · have hlt' : (i : Int) < (m : Int) := by omega
        have k0 : (0 : Int) ≤ (i : Int) := by omega
        have HST := Shut.mk (HTK.out i hlt)
        have HBA := Shut.mk (show Below wo.heap.size wo (wo.alloc (.cells #[] 3)) from (Below.refl _ _).alloc (Nat.le_refl _) _)
        have HOA : Shut ((wo.alloc (.cells #[] 3)).ownsRow wo.heap.size 3 1 (.slice (some ⟨wo.heap.size, 0, none⟩) 0 0) 0 (ics ((codeRow k i).take 0))) := ⟨World.ownsRow_made wo #[] 0 (Nat.le_refl _) (by decide) rfl⟩
        go_wp2_with fail
        go_loopw [8, 9] (fun rv jj wq => ∃ (j : Nat) (rr : Value), rr = rv ∧ jj = .int .i64 j ∧ j ≤ k ∧ Shut (wq.ownsRow wo.heap.size 3 1 rr j (ics ((codeRow k i).take j))) ∧ Shut (Below wo.heap.size wo wq)) (fun _ jj _ => k - (intOf jj).toNat)
        case atStart => exact ⟨0, _, rfl, rfl, by omega, HOA, HBA⟩
        case round =>
          clear HOA HBA
          obtain ⟨j, rr, rfl, rfl, hjk, hown, hbq⟩ := hrel
          obtain ⟨wi, rfl⟩ : ∃ wi, wi = wr := ⟨_, rfl⟩
          by_cases hjl : j < k
          · have hjl' : (j : Int) < (k : Int) := by omega
            have j0 : (0 : Int) ≤ (j : Int) := by omega
            have hx : bits .xor .i64 ((k : Int) + (i : Int)) (j : Int) = (((k + i) ^^^ j : Nat) : Int) := by
              have := i64_xor (k + i) j (by omega) (by omega)
              rw [← this]; push_cast; rfl
            have hst : ics ((codeRow k i).take (j + 1)) = ics ((codeRow k i).take j) ++ [.int .i64 ((W.gi (g8 (((k + i) ^^^ j : Nat) : Int))).toNat : Int)] := by
              have hj2 : j < (codeRow k i).length := by rw [codeRow_len]; exact hjl
              rw [List.take_succ_eq_append_getElem hj2]
              simp [codeRow, ics]
            have HINV := Shut.mk (fun W => specInvG (((k + i) ^^^ j : Nat) : Int) W)
            generalize W.gi (g8 (((k + i) ^^^ j : Nat) : Int)) = G at *
            have HS2 := Shut.mk hst
            have hs3 := hbq.out.size
            generalize (((k + i) ^^^ j : Nat) : Int) = X at *
            clear hst
            go_wp2_with fail
            refine (HINV.out _).mono ?_
            rintro e w5 ⟨rfl, rfl⟩
            have hown3 := hown.out
            clear hown HINV
            go_wp2_with (at_builtin; refine wpList_append_own _ rfl _ _ 35 rfl wo.heap.size 3 i1 (.int .i64 0) 1 8 Try.underlying35 hi1 hy0 hy1 hy2 rfl (by decide) _ _ _ rfl (hown3.alloc _) ⟨w5.heap.size, 0, none⟩ 1 1 [.int .i64 (G.toNat : Int)] rfl rfl (cell_one_new _ _ _) ?c2 ?c3 ?c4 ?c5 ?_)
            case c2 => first | rfl | (intro u hu; simp at hu; subst hu; rfl)
            case c3 => unfold maxLen; omega
            case c4 => omega
            case c5 => first | omega | (simp; omega)
            intro v' w4 hown' hgrow _
            rw [← HS2.out] at hown'
            have Q1 := Shut.mk hown'
            have Q2 := Shut.mk ((hbq.out.alloc hs3 (.cells #[.int .i64 (G.toNat : Int)] 3)).grown hgrow (by simp; omega) (fun j hj => (hown3.lt j hj).1))
            clear hown' hgrow hown3 hbq
            go_wp2_with fail
            go_roundw
            case rel => exact ⟨j + 1, v', rfl, by go_num, by omega, Q1, Q2⟩
            case measure => simp [intOf]; omega
          · have e : j = k := by omega
            have hjl' : ¬ (j : Int) < (k : Int) := by omega
            have hown2 := hown.out
            rw [e, List.take_of_length_le (by rw [codeRow_len]; exact Nat.le_refl _)] at hown2
            obtain ⟨gr, cr, rfl, hcr⟩ := own_some hown2 (by omega)
            have hgr := hown2.lt gr rfl
            have HROW := Shut.mk (own_wcells hown2)
            have HBI := Shut.mk (show BI w0 wi v ts ∧ (∀ q, v.ownBlock = some q → q ≠ gr) ∧ ∀ s ∈ ts, s.loc ≠ some ⟨gr, 0, none⟩ from ⟨hbi.out.below hbq.out, fun q hq => by have := (hbi.out.own.lt q hq).2; omega, fun s hs e => by obtain ⟨b', e', _, q, _⟩ := hbi.out.rows s hs; have : b' = gr := congrArg Addr.block (Option.some.inj (e'.symm.trans e)); have := q.1; omega⟩)
            have hsi : wo.heap.size ≤ wi.heap.size := hbq.out.size
            have hso := hbi.out.bel.size
            have hgr1 := hgr.1
            have hown := HBI.out.1.own
            clear hown2 hbq hbi hgr e
            go_wp2_with (at_builtin; refine wpList_append_own _ rfl _ _ 113 rfl w0.heap.size 35 i0 (.slice none 0 0) 1 24 Try.underlying113 hi0 hz0 hz1 hz2 rfl (by decide) _ _ _ rfl (hown.alloc _) ⟨wi.heap.size, 0, none⟩ 1 1 [.slice (some ⟨gr, 0, none⟩) k cr] rfl rfl (cell_one_new _ _ _) ?c2 ?c3 ?c4 ?c5 ?_)
            case c2 => first | rfl | (intro u hu; simp at hu; subst hu; rfl)
            case c3 => unfold maxLen; have := HTL.out; omega
            case c4 => have := HTL.out; omega
            case c5 => first | omega | (simp; omega)
            intro v' w6 hown' hgrow _
            have hne : codeRow k i ≠ [] := fun e => by have := congrArg List.length e; rw [codeRow_len] at this; simp at this; omega
            have hap := HBI.out.1.append (cap := cr) (by omega) HROW.out hne (by rw [codeRow_len]; exact hcr) HBI.out.2.1 HBI.out.2.2 (by rw [codeRow_len]; exact hown') hgrow
            have HAP := Shut.mk hap
            have HR2 : Shut (rws (ts ++ [SR.mk (some ⟨gr, 0, none⟩) (codeRow k i) cr]) = C.take (k + (i + 1))) := ⟨by rw [rws_snoc, hrw.out, ← Nat.add_assoc, HST.out]⟩
            clear hap hown' hgrow hown HBI HROW hrw hne
            go_wp2_with fail
            go_roundw
            case rel => exact ⟨i + 1, _, v', rfl, by go_num, by omega, by rw [List.length_append, List.length_singleton, HTL.out]; omega, HR2, HAP⟩
            case measure => simp [intOf]; omega
      · have e : i = m := by omega
        have hlt' : ¬ (i : Int) < (m : Int) := by omega
        have HF := Shut.mk (hbi.out.fin (X := C) (by rw [hrw.out, List.take_of_length_le (by rw [HLEN.out]; omega)]))
        have HB := Shut.mk hbi.out.bel
        clear e hbi hrw
        go_wp2_with fail
        go_ret
        exact ⟨v, rfl, HF.out, HB.out⟩
end Go.Proofs.Ytoaifodmjkhiiaa
/- CodC: The walk of the model's Encode. -/
namespace Go.Proofs.Ytoaifodmjkhiiaa
set_option maxRecDepth 100000
open Go.RowKit
open W (B8 Mx)
attribute [local go_sem ↓] Go.wp_at_zero Go.wp_at_succ
attribute [local irreducible] W.gm W.xs W.mm W.gi mx matOk addB mulT appX codeX

theorem infoByteG : (Try.prog.info? 5).map (fun i => (i.zero, i.size, i.bytes)) = some (some (.int .u8 0), 1, 1) := by kernel_rfl
theorem make_zeros (n : Nat) (h : n ≤ 1000) (W : World) : (Instr.makeSlice 45 (.int .i64 (n : Int)) (.int .i64 (n : Int))).run Try.prog W = .ok (.slice (some ⟨W.heap.size, 0, none⟩) n n) (W.alloc (.cells (madeCells #[.int .u8 0] n) 5)) :=
  run_make_row' 45 5 (.int .u8 0) 1 Try.underlying45 infoByteG rfl .i64 .i64 n (by omega) (by omega) W
theorem zeros_row (n : Nat) (W : World) : BRow (W.alloc (.cells (madeCells #[.int .u8 0] n) 5)) W.heap.size (List.replicate n (0 : UInt8)) := by
  have h := wcells_new W (madeCells #[.int .u8 0] n) 5
  rw [toList_madeCells_one] at h
  refine ⟨h.1, fun j hj => ?_⟩
  have hj' : j < n := by simpa using hj
  have := h.2 j (.int .u8 0) (by simp [hj'])
  have e : (List.replicate n (0 : UInt8)).getD j 0 = 0 := by simp [List.getD, hj']
  rw [e]
  exact this
theorem zeros_text {n : Nat} {W : World} {g : Nat} (h : BRow W g (List.replicate n (0 : UInt8))) : (convert 45 9 (.slice (some ⟨g, 0, none⟩) n n)).run Try.prog W = .ok (.string (zerosB n)) W := by
  have := brow_string (cap := n) h
  rw [List.length_replicate] at this
  exact this
theorem brow_below {w w' : World} {g : Nat} {l : List UInt8} (h : BRow w g l) (hb : Below w.heap.size w w') : BRow w' g l :=
  ⟨Nat.lt_of_lt_of_le h.1 hb.size, fun j hj => ⟨(hb.cell (p := ⟨g, j, none⟩) h.1).trans (h.2 j hj).1, (hb.frozen (p := ⟨g, j, none⟩) h.1).trans (h.2 j hj).2⟩⟩
theorem cell_kept {w w' : World} {p : Addr} {v : Value} (h : w.cell? p = some v) (hb : Below w.heap.size w w') : w'.cell? p = some v := (hb.cell (p := p) (cell_in h)).trans h
theorem cell_grown {w w' : World} {p : Addr} {v : Value} {r : Option Nat} (h : w.cell? p = some v) (hg : w.grownBy w' r) (hn : r ≠ some p.block) : w'.cell? p = some v := (World.cell?_of_block (a := p) (hg.block p.block (cell_in h) (fun e => hn e.symm))).trans h
theorem own_kept {w w' : World} {B n sz : Nat} {t : TypeId} {v : Value} {L : List Value} (h : w.ownsRow B t sz v n L) (hb : Below w.drew.heap.size w.drew w') : w'.ownsRow B t sz v n L :=
  h.kept (row := none) ⟨hb.os, hb.tape, hb.output, hb.size, fun k hk _ => hb.block k hk⟩ (Classical.em _)
theorem mostL_take {L : List ByteArray} {i : Nat} (hi : i < L.length) : mostL (L.take (i + 1)) = max (mostL (L.take i)) (L.getD i ⟨#[]⟩).size := by
  have e : L[i] = L.getD i ⟨#[]⟩ := by simp [List.getD, hi]
  rw [List.take_succ_eq_append_getElem hi, mostL_snoc, e]
theorem shortL_no {L : List ByteArray} {i : Nat} (hi : i < L.length) (h : 200 < (L.getD i ⟨#[]⟩).size) : shortL L = false := by
  have e : L[i] = L.getD i ⟨#[]⟩ := by simp [List.getD, hi]
  unfold shortL
  rw [List.all_eq_false]
  exact ⟨L[i], List.getElem_mem hi, by rw [e]; simp only [decide_eq_true_eq]; omega⟩
theorem shortL_yes {L : List ByteArray} (h : ∀ i, i < L.length → (L.getD i ⟨#[]⟩).size ≤ 200) : shortL L = true := by
  unfold shortL
  rw [List.all_eq_true]
  intro x hx
  obtain ⟨i, hi, rfl⟩ := List.mem_iff_getElem.1 hx
  have e : L[i] = L.getD i ⟨#[]⟩ := by simp [List.getD, hi]
  rw [e]; simp only [decide_eq_true_eq]; exact h i hi
theorem shortL_size {L : List ByteArray} (h : shortL L = true) : ∀ x ∈ L, x.size ≤ 200 := fun x hx => by
  unfold shortL at h
  rw [List.all_eq_true] at h
  simpa using h x hx
theorem SAns.broad {w : World} {v : Value} {L : List ByteArray} {lo hi lo' hi' : Nat} (h : SAns w v L lo hi) (h1 : lo' ≤ lo) (h2 : hi ≤ hi') : SAns w v L lo' hi' := by
  obtain ⟨a, cap, e, hc, q⟩ := h
  refine ⟨a, cap, e, hc, ?_⟩
  rcases q with rfl | ⟨g, rfl, q1, q2, hm⟩
  · exact .inl rfl
  · exact .inr ⟨g, rfl, by omega, by omega, hm⟩
theorem xsum_le {X : List (List Int)} {m : Nat} (h : ∀ x ∈ X, x.length ≤ m) : xsum X ≤ X.length * m := by
  induction X with
  | nil => simp [xsum]
  | cons x X ih =>
    have h1 := h x (by simp)
    have h2 := ih (fun y hy => h y (by simp [hy]))
    simp only [xsum, List.length_cons]
    rw [Nat.add_mul]; omega
theorem tsum_all {L : List ByteArray} {m : Nat} (h : ∀ x ∈ L, x.size ≤ m) : tsum L ≤ L.length * m := by
  induction L with
  | nil => simp [tsum]
  | cons x X ih =>
    have h1 := h x (by simp)
    have h2 := ih (fun y hy => h y (by simp [hy]))
    simp only [tsum, List.length_cons]
    rw [Nat.add_mul]; omega
theorem codeX_fit {s : Int} (h : schOk s = true) : MFit (codeX s) := by
  obtain ⟨b1, b2, b3, b4⟩ := sch_bounds h
  have h1 := codeX_len h
  have h2 := xsum_le (X := codeX s) (m := 4) (fun x hx => by have := (codeX_rows h x hx).1; omega)
  unfold MFit
  omega
theorem fillL_size {L : List ByteArray} (h : shortL L = true) : ∀ x ∈ fillL L, x.size ≤ 200 := fun x hx => by
  obtain ⟨y, hy, rfl⟩ := List.mem_map.1 hx
  rw [addB_size, zerosB_size]
  have h1 := shortL_size h y hy
  have h2 := mostL_all (shortL_size h)
  omega
theorem fillL_fit {L : List ByteArray} (hl : L.length ≤ 8) (h : shortL L = true) : TFit (fillL L) := by
  have h1 := tsum_all (fillL_size h)
  unfold TFit
  rw [fillL_len] at *
  omega
set_option maxRecDepth 100000 in
set_option maxHeartbeats 4000000 in
theorem specEncode_walk (s : Int) (L : List ByteArray) (k b2 o2 cap2 : Nat) (w : World) (hs : schOk s = true) (hk : schK s = k) (hl : L.length = k) (hU : b2 < w.heap.size ∧ ∀ j, j < k → w.cell? ⟨b2, o2 + j, none⟩ = some (.string (L.getD j ⟨#[]⟩))) (hf : TFit L) :
    Calls Try.prog 52 #[.int .i64 s, .slice (some ⟨b2, o2, none⟩) k cap2] w fun e w' => TPost (encX s L) w e w' := by
  obtain ⟨i0, hi0, hz0, hz1, hz2⟩ := info_parts infoTextG
  obtain ⟨b1, b3, _, _⟩ := sch_bounds hs
  rw [hk] at b1 b3
  have HS := Shut.mk (fun W => specSchema s W)
  unfold SchPost at HS
  rw [hs, hk] at HS
  have HU := Shut.mk hU
  have HL : Hid (L.length = k) := hl
  have HOK := Shut.mk (And.intro hs hk)
  have hfz : ∀ j, j < k → (L.getD j ⟨#[]⟩).size ≤ 1048576 := fun j hj => by
    have hj' : j < L.length := by omega
    have := tsum_mem (L := L) (x := L.getD j ⟨#[]⟩) (by simp [List.getD, hj'])
    unfold TFit at hf; omega
  have HFZ := Shut.mk hfz
  have hne : ((k : Int) != (k : Int)) = false := by simp
  clear hU hl hf hs hk hfz
  go_enter Try.func52, Try.ntmps52
  go_wp2_with fail
  refine (HS.out _).mono ?_
  rintro e w0 ⟨rfl, rfl⟩
  go_wp2_with fail
  go_loop [9, 10] (fun mm ii => ∃ (i : Nat), ii = .int .i64 (i : Nat) ∧ mm = .int .i64 (mostL (L.take i) : Nat) ∧ i ≤ k ∧ Shut (∀ j, j < i → (L.getD j ⟨#[]⟩).size ≤ 200)) (fun _ ii => k - (intOf ii).toNat)
  case atStart => exact ⟨0, rfl, rfl, Nat.zero_le _, ⟨fun j hj => by omega⟩⟩
  case round =>
    obtain ⟨i, rfl, rfl, hik, hsh⟩ := hrel
    by_cases hlt : i < k
    · have hlt' : (i : Int) < (k : Int) := by omega
      have i0' : (0 : Int) ≤ (i : Int) := by omega
      have d := HU.out.2 i hlt
      have hsz := HFZ.out i hlt
      have hmt := mostL_take (L := L) (i := i) (by have := HL.out; omega)
      have hml : mostL (L.take i) ≤ 200 := mostL_all (fun x hx => by
        obtain ⟨j, hj, rfl⟩ := List.mem_iff_getElem.1 hx
        have hj1 : j < i := by rw [List.length_take] at hj; omega
        have hj2 : j < L.length := by have := HL.out; omega
        have := hsh.out j hj1
        have e : L.getD j ⟨#[]⟩ = L[j] := by simp [List.getD, hj2]
        rw [e] at this
        simpa using this)
      by_cases hbig : (200 : Int) < ((L.getD i ⟨#[]⟩).size : Int)
      · have HNO := Shut.mk (encX_no (s := s) (L := L) (fun h => by have := shortL_no (L := L) (i := i) (by have := HL.out; omega) (by omega); rw [this] at h; cases h.2.2))
        generalize L.getD i ⟨#[]⟩ = x at *
        clear hmt hml hsh
        go_wp2_with fail
        go_ret2
        exact tpost_no HNO.out rfl ((Below.refl _ _).alloc (Nat.le_refl _) _)
      · have HSH : Shut (∀ j, j < i + 1 → (L.getD j ⟨#[]⟩).size ≤ 200) := ⟨fun j hj => by
          by_cases e : j = i
          · subst e; omega
          · exact hsh.out j (by omega)⟩
        have HMT := Shut.mk hmt
        generalize L.getD i ⟨#[]⟩ = x at *
        generalize mostL (L.take i) = m at *
        clear hmt hsh
        by_cases hm : (m : Int) < (x.size : Int)
        · go_wp2_with fail
          go_round
          case rel => exact ⟨i + 1, by go_num, by rw [HMT.out, Nat.max_eq_right (by omega)], by omega, HSH⟩
          case measure => simp [intOf]; omega
        · go_wp2_with fail
          go_round
          case rel => exact ⟨i + 1, by go_num, by rw [HMT.out, Nat.max_eq_left (by omega)], by omega, HSH⟩
          case measure => simp [intOf]; omega
    · have e : i = k := by omega
      subst e
      rw [List.take_of_length_le (by rw [HL.out]; exact Nat.le_refl _)]
      have HSHL : Shut (shortL L = true) := ⟨shortL_yes (fun j hj => hsh.out j (by rw [← HL.out]; exact hj))⟩
      have hM : mostL L ≤ 200 := mostL_all (shortL_size HSHL.out)
      have HENC := Shut.mk (encX_yes (s := s) (L := L) ⟨HOK.out.1, by rw [HL.out, HOK.out.2], HSHL.out⟩)
      have HFL : Shut (∀ j, j < i → (fillL L).take (j + 1) = (fillL L).take j ++ [addB (L.getD j ⟨#[]⟩) (zerosB (mostL L))]) := ⟨fun j hj => by
        have h1 : j < (fillL L).length := by rw [fillL_len, HL.out]; exact hj
        have h2 : j < L.length := by rw [HL.out]; exact hj
        rw [List.take_succ_eq_append_getElem h1]
        simp [fillL, List.getD, h2]⟩
      have hlt' : ¬ (i : Int) < (i : Int) := by omega
      obtain ⟨M, hMe⟩ : ∃ M, M = mostL L := ⟨_, rfl⟩
      rw [← hMe] at hM HFL ⊢
      clear hMe hsh
      have HOW : Shut ((w0.alloc (.cells #[] 9)).ownsRow w0.heap.size 9 1 (.slice (some ⟨w0.heap.size, 0, none⟩) 0 0) 0 (tv ((fillL L).take 0))) := ⟨World.ownsRow_made w0 #[] 0 (Nat.le_refl _) (by decide) rfl⟩
      have HBW := Shut.mk (show Below w0.heap.size w0 (w0.alloc (.cells #[] 9)) from (Below.refl _ _).alloc (Nat.le_refl _) _)
      go_wp2_with fail
      go_loopw [11, 12] (fun v jj wr => ∃ (j : Nat) (vv : Value), vv = v ∧ jj = .int .i64 (j : Nat) ∧ j ≤ i ∧ Shut (wr.ownsRow w0.heap.size 9 1 vv j (tv ((fillL L).take j))) ∧ Shut (Below w0.heap.size w0 wr)) (fun _ jj _ => i - (intOf jj).toNat)
      case atStart => exact ⟨0, _, rfl, rfl, Nat.zero_le _, HOW, HBW⟩
      case round =>
        clear HOW HBW
        obtain ⟨j, v, rfl, rfl, hji, hown, hb⟩ := hrel
        obtain ⟨wo, rfl⟩ : ∃ wo, wo = wr := ⟨_, rfl⟩
        by_cases hjl : j < i
        · have hjl' : (j : Int) < (i : Int) := by omega
          have j0 : (0 : Int) ≤ (j : Int) := by omega
          have hso := hb.out.size
          have d := (hb.out.cell (p := ⟨b2, o2 + j, none⟩) HU.out.1).trans (HU.out.2 j hjl)
          have hsz := HFZ.out j hjl
          have HST := Shut.mk (HFL.out j hjl)
          have hmk := make_zeros M (by omega)
          have HADD := Shut.mk (fun W => specAddText (L.getD j ⟨#[]⟩) (zerosB M) W hsz (by rw [zerosB_size]; omega))
          generalize L.getD j ⟨#[]⟩ = x at *
          generalize addB x (zerosB M) = T at *
          have hcv1 := zeros_text (zeros_row M wo)
          have hcv2 := zeros_text (brow_below (zeros_row M wo) (Below.drew (Below.refl _ _)))
          have hown3 := hown.out
          have l2 : b2 < wo.heap.size := Nat.lt_of_lt_of_le HU.out.1 hso
          go_wp2_with fail
          have nv : v.ownBlock ≠ some (⟨b2, o2 + j, none⟩ : Addr).block := fun e => by have := (hown3.lt _ e).1; have := HU.out.1; simp at *; omega
          have tokA : True := trivial
          go_region_law
            (first
              | (have _t := tokA; go_simp; go_at_call 60; refine (HADD.out _).mono ?_; rintro e w6 ⟨rfl, hbA⟩; clear _t tokA)
              | (refine step_append_lies _ (by rfl) _ _ _ (by rfl) w0.heap.size 9 i0 (.string ⟨#[]⟩) 1 16 Try.underlying99 hi0 hz0 hz1 hz2 rfl (by decide) _ _ _ (by rfl) ((own_kept (hown3.alloc (.cells (madeCells #[.int .u8 0] M) 5)) hbA).alloc _) ⟨w6.heap.size, 0, none⟩ 1 1 [.string T] (by rfl) (by rfl) (cell_one_new _ _ _) (by simp [Value.oneCell']) (by omega) (by unfold maxLen; omega) (by omega) (by have h1 := hbA.size; simp at h1 ⊢; omega) (w6.heap.size + 1) (by simp) ?_; intro gg cap1 w8 hown1 hgrow hat hlt8))
          all_goals go_wp2_with fail
          all_goals
            have hb6 : Below w0.heap.size w0 w6 := (Below.drew (hb.out.alloc hso _)).trans (hbA.mono (by simp; omega))
            have hb8 : Below w0.heap.size w0 w8 := (hb6.alloc hb6.size _).grown hgrow (by have := hb6.size; simp; omega) (fun q hq => (hown3.lt q hq).1)
            exact ⟨⟨j + 1, _, rfl, by go_num, by omega, ⟨by rw [HST.out, ← tv_snoc]; exact hown1⟩, ⟨hb8⟩⟩, by simp [intOf]; omega⟩
        · have e : j = i := by omega
          have hjl' : ¬ (j : Int) < (i : Int) := by omega
          have hso := hb.out.size
          have hown3 := hown.out
          rw [e, List.take_of_length_le (by rw [fillL_len, HL.out]; exact Nat.le_refl _)] at hown3
          have HSA := Shut.mk (own_sans (by rw [fillL_len, HL.out]) hown3)
          have HCO := Shut.mk (specCodeOf s wo)
          have HB := hb
          clear hown hown3 e hb
          go_wp2_with fail
          refine HCO.out.mono ?_
          rintro e w6 ⟨v6, rfl, ha6, hb6⟩
          have HB6 := Shut.mk (HB.out.trans (hb6.mono HB.out.size))
          have HAP := Shut.mk (specApplyM ha6.see (HSA.out.see.below hb6) (codeX_fit HOK.out.1) (fillL_fit (by rw [HL.out]; omega) HSHL.out))
          clear ha6 hb6 HCO HSA
          go_wp2_with fail
          refine HAP.out.mono ?_
          rintro e w7 ⟨v7, rfl, ha7, hb7⟩
          have HR := Shut.mk (show TPost (encX s L) w0 (.returned (.tuple #[v7, .bool true])) w7 from ⟨v7, by rw [HENC.out], by rw [HENC.out]; exact ha7.broad HB6.out.size (Nat.le_refl _), HB6.out.trans (hb7.mono HB6.out.size)⟩)
          clear ha7 hb7 HAP
          go_wp2_with fail
          go_ret2
          exact HR.out
/-- Encode's model, at every argument. -/
theorem specEncode {w : World} {u : Value} {L : List ByteArray} {lo hi : Nat} (s : Int) (hu : SSee w u L lo hi) (hf : TFit L) : Calls Try.prog 52 #[.int .i64 s, u] w fun e w' => TPost (encX s L) w e w' := by
  obtain ⟨a2, cap2, rfl, hm2⟩ := hu
  cases h : schOk s with
  | false =>
    have HNO := Shut.mk (encX_no (s := s) (L := L) (fun q => by rw [h] at q; cases q.1))
    have HS := Shut.mk (fun W => specSchema s W)
    unfold SchPost at HS
    rw [h] at HS
    clear h hm2 hf
    go_enter Try.func52, Try.ntmps52
    go_wp2_with fail
    refine (HS.out _).mono ?_
    rintro e w0 ⟨rfl, rfl⟩
    go_wp2_with fail
    go_ret2
    exact tpost_no HNO.out rfl ((Below.refl _ _).alloc (Nat.le_refl _) _)
  | true =>
    obtain ⟨b1, b2, _, _⟩ := sch_bounds h
    by_cases hl : L.length = schK s
    · obtain ⟨b, off, rfl, lb, hc⟩ := units_in hm2 (by omega)
      rw [hl]
      exact specEncode_walk s L (schK s) b off cap2 w h rfl hl ⟨lb, fun j hj => hc j (by omega)⟩ hf
    · have HNO := Shut.mk (encX_no (s := s) (L := L) (fun q => hl q.2.1))
      have hne : ((L.length : Int) != (schK s : Int)) = true := by rw [bne_iff_ne]; omega
      have HS := Shut.mk (fun W => specSchema s W)
      unfold SchPost at HS
      rw [h] at HS
      generalize schK s = k at *
      clear h hm2 hf hl
      go_enter Try.func52, Try.ntmps52
      go_wp2_with fail
      refine (HS.out _).mono ?_
      rintro e w0 ⟨rfl, rfl⟩
      go_wp2_with fail
      go_ret2
      exact tpost_no HNO.out rfl ((Below.refl _ _).alloc (Nat.le_refl _) _)
end Go.Proofs.Ytoaifodmjkhiiaa
/- HcB: The models' l15Host; what WriteGroup leaves of good hosts (written by gen/mkhcb.py). -/
namespace Go.Proofs.Ytoaifodmjkhiiaa
set_option maxRecDepth 100000
open Go.RowKit BigFrame
attribute [local go_sem ↓] Go.wp_at_zero Go.wp_at_succ

set_option maxRecDepth 100000 in
set_option maxHeartbeats 1000000 in
theorem specHost15 (a : Option Addr) (rs : List HoR) (cap : Nat) (k : Nat) (w : World) (hr : HsRow w a rs) (hl : rs.length ≤ 1048576) (hg : ∀ i (h : i < rs.length), rs[i].h.id = (i : Int) + 1) (hk : k < rs.length) :
    Calls Try.prog 54 #[.slice a rs.length cap, .int .i64 ((k : Int) + 1)] w fun e w' => e = .returned (.int .i64 (k : Nat)) ∧ w' = w := by
  obtain ⟨n, hn⟩ : ∃ n, n = rs.length := ⟨_, rfl⟩
  have HR := Shut.mk (And.intro hr hg)
  have HN := Shut.mk hn
  rw [← hn] at hl hk ⊢
  clear hr hg hn
  go_enter Try.func54, Try.ntmps54
  go_wp2_with fail
  go_loopw [5] (fun i9 wr => ∃ (i : Nat), i9 = .int .i64 (i : Nat) ∧ i ≤ k ∧ wr = w) (fun i9 _ => n - (intOf i9).toNat)
  case atStart => exact ⟨0, rfl, Nat.zero_le _, rfl⟩
  case round =>
    obtain ⟨i, rfl, hi, rfl⟩ := hrel
    have hir : i < rs.length := by rw [← HN.out]; omega
    obtain ⟨b, off, r, rfl, hre, lb, hc⟩ := hs_at HR.out.1 (Below.refl _ _) hir
    obtain ⟨d0, _, _, _⟩ := hc wr (Below.refl _ _)
    have hid : r.h.id = (i : Int) + 1 := by rw [hre]; exact HR.out.2 i hir
    rw [hid] at d0
    have i0 : (0 : Int) ≤ (i : Int) := by omega
    have i1 : (i : Int) < (n : Int) := by omega
    clear hc hre hid
    by_cases e : i = k
    · subst e
      go_wp2_with fail
      go_ret
      exact ⟨rfl, rfl⟩
    · have e1 : ((i : Int) == (k : Int)) = false := by simp; omega
      have e2 : ¬ (i : Int) = (k : Int) := by omega
      have e3 : (((i : Int) + 1) == ((k : Int) + 1)) = false := by simp; omega
      have e4 : ¬ (i : Int) + 1 = (k : Int) + 1 := by omega
      have e5 : ¬ i = k := e
      go_wp2_with fail
      go_roundw
      case rel => exact ⟨i + 1, by go_num, by omega, by first | rfl | trivial⟩
      case measure => simp [intOf]; omega
/-- Good hosts in rows of the call's own. -/
structure WG (w4 W : World) (g : Nat) (gs : List HoR) (m : Nat) : Prop where
  bel : Below w4.heap.size w4 W
  gw : GW HK W g gs w4.heap.size W.heap.size
  caps : ∀ r ∈ gs, r.h.us.length ≤ r.cap
  good : GH (hms gs) m
theorem WG.below {w4 W W' : World} {g m : Nat} {gs : List HoR} (h : WG w4 W g gs m) (hb : Below W.heap.size W W') : WG w4 W' g gs m := ⟨h.bel.trans (hb.mono h.bel.size), (h.gw.below hb).wide (Nat.le_refl _) hb.size, h.caps, h.good⟩
theorem WG.len {w4 W : World} {g m : Nat} {gs : List HoR} (h : WG w4 W g gs m) : gs.length = 7 := by have := h.good.1; rw [hms_len] at this; exact this
theorem WG.row {w4 W : World} {g m : Nat} {gs : List HoR} (h : WG w4 W g gs m) : HsRow W (some ⟨g, 0, none⟩) gs := (show HsW W (some ⟨g, 0, none⟩) gs w4.heap.size W.heap.size from ⟨h.caps, .inr ⟨g, rfl, h.gw⟩⟩).row
theorem WG.id {w4 W : World} {g m : Nat} {gs : List HoR} (h : WG w4 W g gs m) (i : Nat) (hi : i < gs.length) : gs[i].h.id = (i : Int) + 1 := by
  have q := (h.good.2 i (by rw [hms_len]; exact hi)).1
  simpa [hms] using q
/-- One host is laid anew. -/
theorem WG.host {w4 W W2 : World} {g m m' : Nat} {gs : List HoR} (h : WG w4 W g gs m) (hb : Below W.heap.size W W2) (j : Nat) (hj : j < gs.length) (H : HM) (a : Option Addr) (cap : Nat) (hF : FRw W2 a (unS H.us) W.heap.size W2.heap.size) (hc : H.us.length ≤ cap) (hm : m ≤ m') (hid : H.id = (j : Int) + 1) (hg : HGood H.id H.us m') :
    WG w4 (setW W2 g (j * 3) (hC ⟨H, a, cap⟩)) g (gs.set j ⟨H, a, cap⟩) m' := by
  refine ⟨below_setW (h.bel.trans (hb.mono h.bel.size)) h.gw.glo _ _, ?_, fun r hr => ?_, ?_⟩
  · have q := h.gw.host hb j hj H a cap hF h.bel.size
    rw [setW_sz]
    exact q
  · rcases List.mem_or_eq_of_mem_set hr with q | rfl
    · exact h.caps r q
    · exact hc
  · have e : hms (gs.set j ⟨H, a, cap⟩) = (hms gs).set j H := by unfold hms; rw [List.map_set]
    rw [e]
    exact h.good.set j H hm hid hg
/-- What WriteGroup leaves. -/
def WrPost (m : Nat) (w : World) (e : Ending) (w' : World) : Prop := ∃ g c gs ok, e = .returned (.tuple #[.slice (some ⟨g, 0, none⟩) 7 c, .bool ok]) ∧ 7 ≤ c ∧ WG w w' g gs m
theorem wg_of {hs : List HM} {w w' : World} {e : Ending} {m : Nat} (h : HsPost hs w e w') (hg : GH hs m) : ∃ g c gs, e = .returned (.slice (some ⟨g, 0, none⟩) 7 c) ∧ 7 ≤ c ∧ WG w w' g gs m := by
  obtain ⟨va, cap, rs, rfl, e1, hw, hc, hb⟩ := h
  have hl : rs.length = 7 := by rw [← hms_len, e1]; exact hg.1
  rcases hw.2 with ⟨_, e2⟩ | ⟨g, rfl, hgw⟩
  · rw [e2] at hl; simp at hl
  · exact ⟨g, cap, rs, by rw [hl], by omega, hb, hgw, hw.1, by rw [e1]; exact hg⟩
theorem WG.base {w w4 W : World} {g m : Nat} {gs : List HoR} (h : WG w4 W g gs m) (hb : Below w.heap.size w w4) : WG w W g gs m := ⟨hb.trans (h.bel.mono hb.size), h.gw.wide hb.size (Nat.le_refl _), h.caps, h.good⟩
theorem own_any3 {W : World} {B ty sz n : Nat} {v : Value} {L : List Value} (h : W.ownsRow B ty sz v n L) : ∃ a c, v = .slice a n c := by
  rcases h.2 with ⟨rfl, h0⟩ | ⟨g, cap, cur, e, _⟩
  · exact ⟨none, 0, by rw [h0]⟩
  · exact ⟨_, _, e⟩
theorem iv_len9 (L : List Int) : (iv L).length = L.length := by simp [iv]
theorem WG.more9 {w4 W : World} {g m n : Nat} {gs : List HoR} (h : WG w4 W g gs m) (hn : m ≤ n) : WG w4 W g gs n := ⟨h.bel, h.gw, h.caps, h.good.mono hn⟩
theorem cut_fit (s : Int) (t : ByteArray) : TFit (cutX s t).1 := by
  by_cases h : schOk s = true ∧ t.size ≤ groupN s
  · have h1 := cut_sizes h.1 h.2
    have hl : (cutX s t).1.length ≤ 4 := by
      unfold cutX
      rw [if_pos h, cutL_len]
      unfold schK
      split <;> (try split) <;> (try split) <;> omega
    have h2 : ∀ L : List ByteArray, (∀ x ∈ L, x.size ≤ 8) → tsum L ≤ L.length * 8 := by
      intro L
      induction L with
      | nil => intro _; simp [tsum]
      | cons x L ih =>
        intro hL
        have q1 := ih fun y hy => hL y (List.mem_cons_of_mem _ hy)
        have q2 := hL x (List.mem_cons_self ..)
        simp only [tsum, List.length_cons] at *
        omega
    have := h2 _ h1
    unfold TFit
    omega
  · unfold cutX
    rw [if_neg h]
    simp [TFit, tsum]
theorem enc_len (s : Int) (L : List ByteArray) : (encX s L).1.length ≤ 6 := by
  unfold encX
  split
  · rename_i h
    have e : (appX (codeX s) (fillL L)).length ≤ (codeX s).length := by
      unfold appX
      split
      · simp
      · exact Nat.zero_le _
    have e2 := codeX_len h.1
    have e3 : schK s + schM s ≤ 6 := by unfold schK schM; split <;> (try split) <;> (try split) <;> omega
    show (appX (codeX s) (fillL L)).length ≤ 6
    omega
  · exact Nat.zero_le _
theorem enc_size (s : Int) (L : List ByteArray) : ∀ x ∈ (encX s L).1, x.size ≤ 200 := by
  unfold encX
  split
  · rename_i h
    intro x hx
    change x ∈ appX (codeX s) (fillL L) at hx
    unfold appX at hx
    split at hx
    · obtain ⟨row, _, rfl⟩ := List.mem_map.1 hx
      exact accB_size row _ (fillL_size h.2.2) _
    · cases hx
  · intro x hx; cases hx
set_option maxRecDepth 100000 in
set_option maxHeartbeats 8000000 in
theorem specWrite15 (a : Option Addr) (rs : List HoR) (cap : Nat) (s grp : Int) (t : ByteArray) (m : Nat) (w : World) (hr : HsRow w a rs) (hg : GH (hms rs) m) (hm : m ≤ 500) (ht : t.size ≤ 1048576) (hgb : -9223372036854775808 ≤ grp ∧ grp ≤ 9223372036854775807) :
    Calls Try.prog 46 #[.slice a rs.length cap, .int .i64 s, .int .i64 grp, .string t] w fun e w' => WrPost (m + 6) w e w' := by
  have hn : rs.length = 7 := by rw [← hms_len]; exact hg.1
  have HGH := Shut.mk (hg.mono (Nat.le_add_right m 6))
  have HGM := Shut.mk hg
  have HR := Shut.mk hr
  have HCU := Shut.mk (fun W => specCutUnits s t W (by omega))
  have HEN : Shut (∀ (W : World) (u : Value) (lo hi : Nat), SSee W u (cutX s t).1 lo hi → Calls Try.prog 52 #[.int .i64 s, u] W fun e w' => TPost (encX s (cutX s t).1) W e w') := ⟨fun W u lo hi hu => specEncode s hu (cut_fit s t)⟩
  have HEL := Shut.mk (enc_len s (cutX s t).1)
  have HES := Shut.mk (enc_size s (cutX s t).1)
  generalize encX s (cutX s t).1 = EN at *
  obtain ⟨all, okE⟩ := EN
  have HPG : Shut (∀ W, Below w.heap.size w W → Calls Try.prog 12 #[.slice a rs.length cap, .int .i64 (all.length : Nat)] W fun e w' => PlcPost (plcX (hms rs) (all.length : Nat)) W e w') := ⟨fun W hW => specPlaceGroup a rs cap _ W (hr.stays hW) (by omega)⟩
  have HPM : Shut (∀ x ∈ (plcX (hms rs) (all.length : Nat)).1, ∃ k : Nat, k < 7 ∧ x = (k : Int) + 1) := ⟨fun x hx => by
    obtain ⟨y, hy, rfl⟩ := plc_mem hx
    obtain ⟨i, hi, rfl⟩ := List.getElem_of_mem hy
    exact ⟨i, by have := hg.1; omega, (hg.2 i hi).1⟩⟩
  have HPLen : Shut ((plcX (hms rs) (all.length : Nat)).1.length ≤ all.length) := ⟨by
    unfold plcX
    split
    · simp only [List.length_map, List.length_take, Int.toNat_natCast]; omega
    · exact Nat.zero_le _⟩
  have HCP : Shut (∀ W, Below w.heap.size w W → Calls Try.prog 53 #[.slice a rs.length cap] W fun e w' => HsPost (hms rs) W e w') := ⟨fun W hW => specCopy15 a rs cap W (hr.stays hW) (by omega) (fun r hr' => by have := (hg.fit (by omega) (List.mem_map_of_mem (f := HoR.h) hr')).2.2.1; omega)⟩
  generalize cutX s t = CU at *
  obtain ⟨uts, okC⟩ := CU
  generalize plcX (hms rs) (all.length : Nat) = PG at *
  obtain ⟨ids, okP⟩ := PG
  unfold TPost8 at HCU
  unfold TPost at HEN
  unfold PlcPost at HPG
  dsimp only at *
  rw [hn] at HPG HCP ⊢
  clear hr hg hn
  go_enter Try.func46, Try.ntmps46
  go_upto_region 2 with (go_at_call 51; refine (HCU.out _).mono ?_; rintro e w1 ⟨v1, rfl, hA, hb⟩; have HA1 := Shut.mk hA.see; have HB1 := Shut.mk hb; clear hA hb)
  go_upto_region 3 with (go_at_call 52; refine (HEN.out _ _ _ _ HA1.out).mono ?_; rintro e w2 ⟨v2, rfl, hA, hb⟩; have HA2 := Shut.mk hA; have HB2 := Shut.mk (HB1.out.trans (hb.mono HB1.out.size)); have hs1 := HB1.out.size; clear hA hb HA1 HB1)
  obtain ⟨at2, ct2, rfl, hct2, hrow2⟩ := HA2.out
  have HT2 := Shut.mk (show SSee w2 (.slice at2 all.length ct2) all w.heap.size w2.heap.size from (show SAns w2 (.slice at2 all.length ct2) all w.heap.size w2.heap.size from ⟨at2, ct2, rfl, hct2, hrow2.imp id fun ⟨g, e, q1, q2, q3⟩ => ⟨g, e, by omega, q2, q3⟩⟩).see)
  clear hct2 hrow2 HA2 hs1
  obtain ⟨na, hna⟩ : ∃ q, q = all.length := ⟨_, rfl⟩
  rw [← hna] at HPG ⊢
  rw [← hna] at HEL HPLen
  have hna6 : na ≤ 6 := HEL.out
  have HNA := Shut.mk hna
  clear hna
  go_upto_region 4 with (go_at_call 12; refine (HPG.out _ HB2.out).mono ?_; rintro e w3 ⟨v3, rfl, hown, hb⟩; have HI3 := Shut.mk hown; have HB3 := Shut.mk (HB2.out.trans (hb.mono HB2.out.size)); have HT3 := Shut.mk (HT2.out.below hb); clear hown hb HT2)
  obtain ⟨ai, ci, rfl⟩ := own_any3 HI3.out
  obtain ⟨ni, hni⟩ : ∃ q, q = ids.length := ⟨_, rfl⟩
  have hni6 : ni ≤ na := by rw [hni]; exact HPLen.out
  have HID : Shut (CRow w3 ai (iv ids)) := ⟨(FRw.of_own HI3.out).1.crow⟩
  have HNI := Shut.mk (And.intro hni HNA.out)
  rw [← hni]
  clear hni HI3 HEL HPLen
  cases okC with
  | false =>
    go_wp2_with (go_at_call 53; refine (HCP.out _ HB3.out).mono ?_; rintro e w9 hpost; obtain ⟨g9, c9, gs9, rfl, hc9, hwg⟩ := wg_of hpost HGH.out; have H9 := Shut.mk hwg; have HC9 := Shut.mk hc9; clear hpost hwg hc9)
    go_ret2
    exact ⟨g9, c9, gs9, false, rfl, HC9.out, H9.out.base HB3.out⟩
  | true =>
  cases okE with
  | false =>
    go_wp2_with (go_at_call 53; refine (HCP.out _ HB3.out).mono ?_; rintro e w9 hpost; obtain ⟨g9, c9, gs9, rfl, hc9, hwg⟩ := wg_of hpost HGH.out; have H9 := Shut.mk hwg; have HC9 := Shut.mk hc9; clear hpost hwg hc9)
    go_ret2
    exact ⟨g9, c9, gs9, false, rfl, HC9.out, H9.out.base HB3.out⟩
  | true =>
  cases okP with
  | false =>
    go_wp2_with (go_at_call 53; refine (HCP.out _ HB3.out).mono ?_; rintro e w9 hpost; obtain ⟨g9, c9, gs9, rfl, hc9, hwg⟩ := wg_of hpost HGH.out; have H9 := Shut.mk hwg; have HC9 := Shut.mk hc9; clear hpost hwg hc9)
    go_ret2
    exact ⟨g9, c9, gs9, false, rfl, HC9.out, H9.out.base HB3.out⟩
  | true =>
  go_upto_region 7 with (go_at_call 53; refine (HCP.out _ HB3.out).mono ?_; rintro e w9 hpost; obtain ⟨g9, c9, gs9, rfl, hc9, hwg⟩ := wg_of hpost HGM.out; have H9 := Shut.mk hwg; have HC9 := Shut.mk hc9; clear hpost hwg hc9)
  go_upto_region 8 with fail
  go_loopw [17] (fun i9 wr => ∃ (i : Nat), i9 = .int .i64 (i : Nat) ∧ i ≤ ni ∧ Shut (∃ gs, WG w3 wr g9 gs (m + i))) (fun i9 _ => ni - (intOf i9).toNat)
  case atStart => exact ⟨0, rfl, Nat.zero_le _, ⟨gs9, H9.out⟩⟩
  case round =>
    clear H9
    obtain ⟨i, rfl, hi, HW⟩ := hrel
    obtain ⟨gs, hwg⟩ := HW.out
    have HG := Shut.mk hwg
    clear HW hwg
    by_cases hlt : i < ni
    case neg =>
      obtain rfl : ni = i := by omega
      go_wp2_with fail
      go_ret2
      exact ⟨g9, c9, gs, true, rfl, HC9.out, (HG.out.more9 (by omega)).base HB3.out⟩
    have hii : i < ids.length := by rw [← HNI.out.1]; exact hlt
    have hia : i < all.length := by rw [← HNI.out.2]; omega
    obtain ⟨k, hk7, hke⟩ := HPM.out (ids[i]) (List.getElem_mem hii)
    obtain ⟨bi, oi, rfl, lbi, hci⟩ := (HID.out.stays HG.out.bel) (by rw [iv_len9]; omega)
    have d9 := hci i (.int .i64 ((k : Int) + 1)) (by rw [← hke]; simp [iv, hii])
    have hkg : k < gs.length := by rw [HG.out.len]; exact hk7
    obtain ⟨bt, ot, rfl, lbt, hct⟩ : ∃ b off, at2 = some ⟨b, off, none⟩ ∧ b < w3.heap.size ∧ ∀ j v, (tv all)[j]? = some v → w3.cell? ⟨b, off + j, none⟩ = some v := by
      obtain ⟨a9, c9', e9, hrow9⟩ := HT3.out
      cases e9
      exact hrow9.crow (by rw [tv_len]; omega)
    have dt := hct i _ (tv_get all i hia)
    obtain ⟨b1, o1, r, e1, hre, lb1, hc1⟩ := hs_at HG.out.row (Below.refl _ _) hkg
    simp only [Option.some.injEq, Addr.mk.injEq, and_true] at e1
    obtain ⟨rfl, rfl⟩ := e1
    obtain ⟨tx, htx⟩ : ∃ q, q = all.getD i ⟨#[]⟩ := ⟨_, rfl⟩
    have htm : tx ∈ all := by rw [htx]; simp [List.getD, hia]
    have hts : tx.size ≤ 200 := HES.out tx htm
    rw [← htx] at dt
    have hrid : r.h.id = (k : Int) + 1 := by rw [hre]; exact HG.out.id k hkg
    have hgd : HGood r.h.id r.h.us (m + i) := by
      have q := (HG.out.good.2 k (by rw [hms_len]; exact hkg)).2
      have e : (hms gs)[k]'(by rw [hms_len]; exact hkg) = r.h := by rw [hre]; simp [hms]
      rw [e] at q
      exact q
    have hgf := hgd.fit (by omega)
    have hgl := hgd.2
    have HCE : Shut (∀ x, Below wr.heap.size wr x → x.cell? ⟨g9, k * 3, none⟩ = some (.int .i64 r.h.id) ∧ x.cell? ⟨g9, k * 3 + 1, none⟩ = some (.bool r.h.up) ∧ x.cell? ⟨g9, k * 3 + 2, none⟩ = some (.slice r.loc r.h.us.length r.cap) ∧ x.cell? ⟨bt, ot + i, none⟩ = some (.string tx)) := ⟨fun x hx => by
      obtain ⟨q0, q1, q2, _⟩ := hc1 x hx
      rw [Nat.zero_add] at q0 q1 q2
      exact ⟨q0, q1, q2, ((HG.out.bel.trans (hx.mono HG.out.bel.size)).cell (p := ⟨bt, ot + i, none⟩) lbt).trans dt⟩⟩
    have HPU : Shut (∀ x, Below wr.heap.size wr x → Calls Try.prog 55 #[hov r.h r.loc r.cap, unv ⟨grp, (i : Nat), tx, 0⟩] x fun e w' => HbPost (putX r.h ⟨grp, (i : Nat), tx, 0⟩) x e w') := ⟨fun x hx => specPutUnit r.h r.loc r.cap _ x (hc1 x hx).2.2.2 (by omega) hgf.1 ⟨by show tx.size ≤ _; omega, ⟨by show _ ≤ grp; omega, by show grp ≤ _; omega⟩, ⟨by show _ ≤ (i : Int); omega, by show (i : Int) ≤ _; omega⟩, by show (-9223372036854775808 : Int) ≤ 0; omega, by show (0 : Int) ≤ 9223372036854775807; omega⟩ (by show tx.size ≤ _; omega)⟩
    have HPA := Shut.mk (put_any hgd ⟨grp, (i : Nat), tx, 0⟩)
    have HHO := Shut.mk (specHost15 (some ⟨g9, 0, none⟩) gs c9 k wr HG.out.row (by rw [HG.out.len]; omega) (fun i hi => HG.out.id i hi) hkg)
    rw [HG.out.len] at HHO
    generalize putX r.h ⟨grp, (i : Nat), tx, 0⟩ = PX at *
    obtain ⟨⟨pid, pup, pus⟩, pok⟩ := PX
    have HRI := Shut.mk hrid
    obtain ⟨⟨rid, rup, rus⟩, rl, rc⟩ := r
    unfold HbPost at HPU
    dsimp only [hov, unv] at HPU HCE HPA HRI
    obtain ⟨rn, hrn⟩ : ∃ q, q = rus.length := ⟨_, rfl⟩
    obtain ⟨pn, hpn⟩ : ∃ q, q = pus.length := ⟨_, rfl⟩
    rw [← hrn] at HPU HCE
    rw [← hpn] at HPU
    have HPN := Shut.mk hpn
    have HKG := Shut.mk hkg
    have i0 : (0 : Int) ≤ (i : Int) := by omega
    have i1 : (i : Int) < (ni : Int) := by omega
    have i2 : (i : Int) < (na : Int) := by omega
    have k0 : (0 : Int) ≤ (k : Int) := by omega
    have k7 : (k : Int) < 7 := by omega
    have k8 : k < 7 := hk7
    clear hci hct hc1 hre hrid hgd hgf hgl htx htm hts dt hrn hpn hii hia hke hkg
    go_upto_region 11 with (go_at_call 54; refine HHO.out.mono ?_; rintro e w5 ⟨rfl, hw5⟩; subst hw5)
    clear d9 HHO
    go_cut [19, 20] from 66 to 80 (fun u8 u9 wq => ∃ (nb : Nat) (a8 : Option Addr) (c8 lo hi : Nat), u8 = .pointer (some ⟨nb, 0, none⟩) ∧ u9 = .bool pok ∧ Shut (SL w5 wq [bxS nb [.int .i64 pid, .bool pup, .slice a8 pn c8], rwS a8 (unS pus) lo hi]) ∧ pn ≤ c8)
    case first =>
      have HTX : Shut (∀ x, Later w5.drew x → SL w5 x []) := ⟨fun x hx => (SL.start w5).below (Below.trans (Below.drew (Below.refl _ _)) hx)⟩
      have HLE : Shut (∀ x, Later w5.drew x → x.cell? ⟨g9, k * 3, none⟩ = some (.int .i64 rid) ∧ x.cell? ⟨g9, k * 3 + 1, none⟩ = some (.bool rup) ∧ x.cell? ⟨g9, k * 3 + 2, none⟩ = some (.slice rl rn rc) ∧ x.cell? ⟨bt, ot + i, none⟩ = some (.string tx)) := ⟨fun x hx => HCE.out x (HTX.out x hx).bel⟩
      refine wp_region_set (fun j => decide (j = 12 ∨ j = 13 ∨ j = 14 ∨ 15 < j)) (by kernel_rfl) ?_
      refine wpD_val (i := 0) (v := ?vr0) rfl (by kernel_rfl) (by kernel_rfl) (by kernel_rfl) (by kernel_rfl) (fun _ _ _ h => h) (by rfl) ?hyr0 ?restr0
      case hyr0 => (intro x hx; obtain ⟨d0, d1, d2, d3⟩ := HLE.out x hx; go_simp; try with_reducible rfl)
      try simp only [Act.put, List.setIfInBounds_toArray, List.set_cons_zero, List.set_cons_succ]
      refine wpD_val (i := 1) (v := ?vr1) rfl (by kernel_rfl) (by kernel_rfl) (by kernel_rfl) (by kernel_rfl) (fun _ _ _ h => h) (by rfl) ?hyr1 ?restr1
      case hyr1 => (intro x hx; obtain ⟨d0, d1, d2, d3⟩ := HLE.out x hx; go_simp; try with_reducible rfl)
      try simp only [Act.put, List.setIfInBounds_toArray, List.set_cons_zero, List.set_cons_succ]
      refine wpD_val (i := 2) (v := ?vr2) rfl (by kernel_rfl) (by kernel_rfl) (by kernel_rfl) (by kernel_rfl) (fun _ _ _ h => h) (by rfl) ?hyr2 ?restr2
      case hyr2 => (intro x hx; obtain ⟨d0, d1, d2, d3⟩ := HLE.out x hx; go_simp; try with_reducible rfl)
      try simp only [Act.put, List.setIfInBounds_toArray, List.set_cons_zero, List.set_cons_succ]
      refine wpD_val (i := 3) (v := ?vr3) rfl (by kernel_rfl) (by kernel_rfl) (by kernel_rfl) (by kernel_rfl) (fun _ _ _ h => h) (by rfl) ?hyr3 ?restr3
      case hyr3 => (intro x hx; obtain ⟨d0, d1, d2, d3⟩ := HLE.out x hx; go_simp; try with_reducible rfl)
      try simp only [Act.put, List.setIfInBounds_toArray, List.set_cons_zero, List.set_cons_succ]
      refine wpD_val (i := 4) (v := ?vr4) rfl (by kernel_rfl) (by kernel_rfl) (by kernel_rfl) (by kernel_rfl) (fun _ _ _ h => h) (by rfl) ?hyr4 ?restr4
      case hyr4 => (intro x hx; obtain ⟨d0, d1, d2, d3⟩ := HLE.out x hx; go_simp; try with_reducible rfl)
      try simp only [Act.put, List.setIfInBounds_toArray, List.set_cons_zero, List.set_cons_succ]
      refine wpD_val (i := 5) (v := ?vr5) rfl (by kernel_rfl) (by kernel_rfl) (by kernel_rfl) (by kernel_rfl) (fun _ _ _ h => h) (by rfl) ?hyr5 ?restr5
      case hyr5 => (intro x hx; obtain ⟨d0, d1, d2, d3⟩ := HLE.out x hx; go_simp; try with_reducible rfl)
      try simp only [Act.put, List.setIfInBounds_toArray, List.set_cons_zero, List.set_cons_succ]
      refine wpD_val (i := 6) (v := ?vr6) rfl (by kernel_rfl) (by kernel_rfl) (by kernel_rfl) (by kernel_rfl) (fun _ _ _ h => h) (by rfl) ?hyr6 ?restr6
      case hyr6 => (intro x hx; obtain ⟨d0, d1, d2, d3⟩ := HLE.out x hx; go_simp; try with_reducible rfl)
      try simp only [Act.put, List.setIfInBounds_toArray, List.set_cons_zero, List.set_cons_succ]
      refine wpD_val (i := 7) (v := ?vr7) rfl (by kernel_rfl) (by kernel_rfl) (by kernel_rfl) (by kernel_rfl) (fun _ _ _ h => h) (by rfl) ?hyr7 ?restr7
      case hyr7 => (intro x hx; obtain ⟨d0, d1, d2, d3⟩ := HLE.out x hx; go_simp; try with_reducible rfl)
      try simp only [Act.put, List.setIfInBounds_toArray, List.set_cons_zero, List.set_cons_succ]
      refine wpD_val (i := 8) (v := ?vr8) rfl (by kernel_rfl) (by kernel_rfl) (by kernel_rfl) (by kernel_rfl) (fun _ _ _ h => h) (by rfl) ?hyr8 ?restr8
      case hyr8 => (intro x hx; obtain ⟨d0, d1, d2, d3⟩ := HLE.out x hx; go_simp; try with_reducible rfl)
      try simp only [Act.put, List.setIfInBounds_toArray, List.set_cons_zero, List.set_cons_succ]
      refine wpD_val (i := 9) (v := ?vr9) rfl (by kernel_rfl) (by kernel_rfl) (by kernel_rfl) (by kernel_rfl) (fun _ _ _ h => h) (by rfl) ?hyr9 ?restr9
      case hyr9 => (intro x hx; obtain ⟨d0, d1, d2, d3⟩ := HLE.out x hx; go_simp; try with_reducible rfl)
      try simp only [Act.put, List.setIfInBounds_toArray, List.set_cons_zero, List.set_cons_succ]
      refine wpD_val (i := 10) (v := ?vr10) rfl (by kernel_rfl) (by kernel_rfl) (by kernel_rfl) (by kernel_rfl) (fun _ _ _ h => h) (by rfl) ?hyr10 ?restr10
      case hyr10 => (intro x hx; obtain ⟨d0, d1, d2, d3⟩ := HLE.out x hx; go_simp; try with_reducible rfl)
      try simp only [Act.put, List.setIfInBounds_toArray, List.set_cons_zero, List.set_cons_succ]
      refine wpD_callbox (f := 55) (args := #[.agg #[.int .i64 rid, .bool rup, .slice rl rn rc], .agg #[.int .i64 grp, .int .i64 (i : Nat), .string tx, .int .i64 0]]) (C := #[.int .i64 0, .bool false, .slice none 0 0]) (t := 29) (i := 11) (j := 15) (by kernel_rfl) rfl rfl (by rfl) (by rfl) (fun x hx => by go_simp) (fun x hx => by kernel_rfl) (fun x hx => (HPU.out x (HTX.out x hx).bel).mono ?_) (fun x hx => ?_)
      · rintro e y2 ⟨a8, c8, rfl, hF, hc8, hb2⟩
        refine ⟨_, rfl, hb2, ?_⟩
        have HY := Shut.mk ((HTX.out x hx).add (s := rwS a8 (unS pus) _ _) hb2 hF (rwS.loc _ _ _ _) (Nat.le_refl _) (Nat.le_refl _))
        clear hF hb2 hx
        try simp only [Act.put, List.setIfInBounds_toArray, List.set_cons_zero, List.set_cons_succ]
        refine wpD_pure (i := 12) (v := ?va12) rfl (by kernel_rfl) (by kernel_rfl) (by kernel_rfl) (by kernel_rfl) (fun _ _ _ h => h) (by rfl) ?hya12 ?resta12
        case hya12 => (intro x; go_simp; try with_reducible rfl)
        try simp only [Act.put, List.setIfInBounds_toArray, List.set_cons_zero, List.set_cons_succ]
        refine wpD_pure (i := 13) (v := ?va13) rfl (by kernel_rfl) (by kernel_rfl) (by kernel_rfl) (by kernel_rfl) (fun _ _ _ h => h) (by rfl) ?hya13 ?resta13
        case hya13 => (intro x; go_simp; try with_reducible rfl)
        try simp only [Act.put, List.setIfInBounds_toArray, List.set_cons_zero, List.set_cons_succ]
        refine wpD_pure (i := 14) (v := ?va14) rfl (by kernel_rfl) (by kernel_rfl) (by kernel_rfl) (by kernel_rfl) (fun _ _ _ h => h) (by rfl) ?hya14 ?resta14
        case hya14 => (intro x; go_simp; try with_reducible rfl)
        try simp only [Act.put, List.setIfInBounds_toArray, List.set_cons_zero, List.set_cons_succ]
        refine wpD_one (i := 15) (by kernel_rfl) rfl (by rfl) (fun x2 hx2 => ⟨.pointer (some ⟨x2.heap.size, 0, none⟩), x2.alloc (.cells #[.int .i64 0, .bool false, .slice none 0 0] 29), by kernel_rfl, (Below.refl _ _).alloc (Nat.le_refl _) _, ?_⟩)
        have HY2 := Shut.mk ((HY.out.below hx2).new #[.int .i64 0, .bool false, .slice none 0 0] 29)
        obtain ⟨nb, hnb⟩ : ∃ nb, nb = x2.heap.size := ⟨_, rfl⟩
        rw [← hnb] at HY2 ⊢
        clear hx2 hnb HY
        try simp only [Act.put, List.setIfInBounds_toArray, List.set_cons_zero, List.set_cons_succ]
        refine wpD_tail (by kernel_rfl) ?_
        intro x5 hx5
        have HY3 := Shut.mk (HY2.out.below hx5)
        obtain ⟨q0, qf0⟩ := HY3.out.bx 0 rfl 0 _ rfl
        obtain ⟨q1, qf1⟩ := HY3.out.bx 0 rfl 1 _ rfl
        obtain ⟨q2, qf2⟩ := HY3.out.bx 0 rfl 2 _ rfl
        refine wpA_step (y := ((x5.setCell ⟨nb, 0, none⟩ (.int .i64 pid)).setCell ⟨nb, 1, none⟩ (.bool pup)).setCell ⟨nb, 2, none⟩ (.slice a8 pn c8)) (i := 16) (by kernel_rfl) rfl (by rfl) (by go_simp) ?_
        have HZ := Shut.mk (((HY3.out.put 0 rfl 0 (.int .i64 pid) (by simp)).put 0 rfl 1 (.bool pup) (by simp)).put 0 rfl 2 (.slice a8 pn c8) (by simp))
        clear q0 qf0 q1 qf1 q2 qf2 hx5 HY2 HY3
        simp only [List.set_cons_zero, List.set_cons_succ] at HZ
        simp only [Act.put]
        refine wpA_val (i := 17) (v := .bool pok) rfl (by kernel_rfl) (by kernel_rfl) (by kernel_rfl) (fun _ _ _ h => h) (by rfl) (fun x => by go_simp) ?_
        try simp only [Act.put, List.setIfInBounds_toArray, List.set_cons_zero, List.set_cons_succ]
        refine wpA_done (by kernel_rfl) ?_ _
        go_wp2_with fail
        go_meet
        case rel => exact ⟨nb, a8, c8, _, _, rfl, rfl, ⟨HZ.out⟩, hc8⟩
      · have HW := Shut.mk ((HTX.out x hx).new #[.int .i64 0, .bool false, .slice none 0 0] 29)
        obtain ⟨nb, hnb⟩ : ∃ nb, nb = x.heap.size := ⟨_, rfl⟩
        rw [← hnb] at HW ⊢
        generalize x.alloc (.cells #[.int .i64 0, .bool false, .slice none 0 0] 29) = xx at HW ⊢
        clear hnb hx
        try simp only [Act.put, List.setIfInBounds_toArray, List.set_cons_zero, List.set_cons_succ]
        refine wpD_onecall (f := 55) (args := #[.agg #[.int .i64 rid, .bool rup, .slice rl rn rc], .agg #[.int .i64 grp, .int .i64 (i : Nat), .string tx, .int .i64 0]]) (i := 11) (by kernel_rfl) rfl (by rfl) (fun x hx => by go_simp) (fun x hx => (HPU.out x (HW.out.below hx).bel).mono ?_)
        rintro e y2 ⟨a8, c8, rfl, hF, hc8, hb2⟩
        refine ⟨_, rfl, hb2, ?_⟩
        have HY2 := Shut.mk ((HW.out.below hx).add (s := rwS a8 (unS pus) _ _) hb2 hF (rwS.loc _ _ _ _) (Nat.le_refl _) (Nat.le_refl _))
        clear hF hb2 hx HW
        try simp only [Act.put, List.setIfInBounds_toArray, List.set_cons_zero, List.set_cons_succ]
        refine wpD_pure (i := 12) (v := ?vb12) rfl (by kernel_rfl) (by kernel_rfl) (by kernel_rfl) (by kernel_rfl) (fun _ _ _ h => h) (by rfl) ?hyb12 ?restb12
        case hyb12 => (intro x; go_simp; try with_reducible rfl)
        try simp only [Act.put, List.setIfInBounds_toArray, List.set_cons_zero, List.set_cons_succ]
        refine wpD_pure (i := 13) (v := ?vb13) rfl (by kernel_rfl) (by kernel_rfl) (by kernel_rfl) (by kernel_rfl) (fun _ _ _ h => h) (by rfl) ?hyb13 ?restb13
        case hyb13 => (intro x; go_simp; try with_reducible rfl)
        try simp only [Act.put, List.setIfInBounds_toArray, List.set_cons_zero, List.set_cons_succ]
        refine wpD_pure (i := 14) (v := ?vb14) rfl (by kernel_rfl) (by kernel_rfl) (by kernel_rfl) (by kernel_rfl) (fun _ _ _ h => h) (by rfl) ?hyb14 ?restb14
        case hyb14 => (intro x; go_simp; try with_reducible rfl)
        try simp only [Act.put, List.setIfInBounds_toArray, List.set_cons_zero, List.set_cons_succ]
        refine wpD_tail (by kernel_rfl) ?_
        intro x5 hx5
        have HY3 := Shut.mk (HY2.out.below hx5)
        obtain ⟨q0, qf0⟩ := HY3.out.bx 1 rfl 0 _ rfl
        obtain ⟨q1, qf1⟩ := HY3.out.bx 1 rfl 1 _ rfl
        obtain ⟨q2, qf2⟩ := HY3.out.bx 1 rfl 2 _ rfl
        refine wpA_step (y := ((x5.setCell ⟨nb, 0, none⟩ (.int .i64 pid)).setCell ⟨nb, 1, none⟩ (.bool pup)).setCell ⟨nb, 2, none⟩ (.slice a8 pn c8)) (i := 16) (by kernel_rfl) rfl (by rfl) (by go_simp) ?_
        have HZ := Shut.mk (((HY3.out.put 1 rfl 0 (.int .i64 pid) (by simp)).put 1 rfl 1 (.bool pup) (by simp)).put 1 rfl 2 (.slice a8 pn c8) (by simp))
        clear q0 qf0 q1 qf1 q2 qf2 hx5 HY2 HY3
        simp only [List.set_cons_zero, List.set_cons_succ] at HZ
        simp only [Act.put]
        refine wpA_val (i := 17) (v := .bool pok) rfl (by kernel_rfl) (by kernel_rfl) (by kernel_rfl) (fun _ _ _ h => h) (by rfl) (fun x => by go_simp) ?_
        try simp only [Act.put, List.setIfInBounds_toArray, List.set_cons_zero, List.set_cons_succ]
        refine wpA_done (by kernel_rfl) ?_ _
        go_wp2_with fail
        go_meet
        case rel => exact ⟨nb, a8, c8, _, _, rfl, rfl, ⟨HZ.out.swap⟩, hc8⟩
    case rest =>
      obtain ⟨nb, a8, c8, lo, hi, rfl, rfl, HS, hc8⟩ := hcut
      have HBQ := Shut.mk HS.out.bel
      cases pok with
      | false =>
        have HBW : Shut (Below w.heap.size w wc) := ⟨HB3.out.trans ((HG.out.bel.trans (HBQ.out.mono HG.out.bel.size)).mono HB3.out.size)⟩
        clear HS
        go_wp2_with (go_at_call 53; refine (HCP.out _ HBW.out).mono ?_; rintro e w8 hpost; obtain ⟨g8, c8', gs8, rfl, hc8', hwg⟩ := wg_of hpost HGH.out; have H8 := Shut.mk hwg; have HC8 := Shut.mk hc8'; clear hpost hwg hc8')
        go_ret2
        exact ⟨g8, c8', gs8, false, rfl, HC8.out, H8.out.base HBW.out⟩
      | true =>
        obtain ⟨x0, _⟩ := HS.out.bx 0 rfl 0 _ rfl
        obtain ⟨x1, _⟩ := HS.out.bx 0 rfl 1 _ rfl
        obtain ⟨x2, _⟩ := HS.out.bx 0 rfl 2 _ rfl
        have hrw := HS.out.is _ (List.mem_of_getElem? (show _[1]? = some (rwS a8 (unS pus) lo hi) from rfl))
        have HNW := Shut.mk (HG.out.host HBQ.out k HKG.out ⟨pid, pup, pus⟩ a8 c8 (frw_wide (show FRw _ _ (unS pus) lo hi from hrw.1) hrw.2.2.1 hrw.2.2.2) (by rw [← HPN.out]; exact hc8) (Nat.le_succ (m + i)) (by show pid = _; rw [HPA.out.1]; exact HRI.out) HPA.out.2)
        unfold hC at HNW
        dsimp only at HNW
        rw [setW3, ← HPN.out] at HNW
        have hwo := (HG.out.below HBQ.out).gw.out
        obtain ⟨y0, z0⟩ := hwo.2 (k * 3) _ (flat_get hC_len gs k HKG.out 0 (by omega))
        obtain ⟨y1, z1⟩ := hwo.2 (k * 3 + 1) _ (flat_get hC_len gs k HKG.out 1 (by omega))
        obtain ⟨y2, z2⟩ := hwo.2 (k * 3 + 2) _ (flat_get hC_len gs k HKG.out 2 (by omega))
        clear hwo hrw HS
        go_wp2_with fail
        go_roundw
        case rel => exact ⟨i + 1, by go_num, by omega, ⟨_, HNW.out⟩⟩
        case measure => simp [intOf]; omega
end Go.Proofs.Ytoaifodmjkhiiaa
