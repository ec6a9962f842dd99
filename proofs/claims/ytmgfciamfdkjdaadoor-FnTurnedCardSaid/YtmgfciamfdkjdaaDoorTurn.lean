/- The walk of the law on a sealed text of which one byte is turned. -/
import Derived.Test.YtmgfciamfdkjdaaDoorTurnM
import Derived.Test.YtmgfciamfdkjdaaDoorDrawP
import Derived.Test.YtmgfciamfdkjdaaDoorDrawC
import Derived.Deep.RegionHeld3
import Derived.Deep.DrawnRows
namespace Go.Proofs.YtmgfciamfdkjdaaDoor
open Go.RowKit
open W (B32)
attribute [local go_sem ↓] Go.wp_at_zero Go.wp_at_succ
attribute [local irreducible] W.crc W.sumOf sealB

/-- The bytes of a text, in a block of their own. -/
theorem bytes_made (w : World) (s : ByteArray) : ∃ (w' : World) (c : Nat), (convert 9 22 (.string s)).run Tryd.prog w = .ok (.slice (some ⟨w.heap.size, 0, none⟩) s.size c) w' ∧ BRow w' w.heap.size s.data.toList ∧ Below w.heap.size w w' := by
  refine ⟨_, _, run_bytes_of_string w 9 22 5 s Tryd.underlying9 Tryd.underlying22 Tryd.underlying5, ⟨?_, fun j hj => ⟨?_, ?_⟩⟩, ?_⟩
  · show w.heap.size < (w.heap.push _).size
    simp
  · rw [show w.heap.size = w.drew.heap.size from rfl, World.cell?_alloc_mark]
    have hj' : j < s.data.size := by simpa using hj
    unfold bytesRow
    rw [Array.getElem?_append_left (by simpa using hj')]
    simp only [Array.getElem?_map, List.getD, Array.getElem?_toList]
    rw [Array.getElem?_eq_getElem hj']
    rfl
  · rw [show w.heap.size = w.drew.heap.size from rfl, World.frozen?_alloc_mark]
    have hj' : j < s.data.size := by simpa using hj
    have h2 : j < (bytesRow s (grownCap w s.size 0 5)).size := by unfold bytesRow; rw [Array.size_append, Array.size_map]; omega
    rw [decide_eq_false (show ¬ (bytesRow s (grownCap w s.size 0 5)).size ≤ j by omega)]
    rfl
  · exact (Below.drew (Below.refl _ _)).alloc (Nat.le_refl _) _
set_option maxHeartbeats 1000000 in
theorem turned_walk (a : Option Addr) (len cap : Nat) (w : World) (hcode : CodeAt w w.heap.size a len) (htab : SumTab w) :
    Calls Tryd.prog 4 #[.slice a len cap] w fun e w' => e = .returned (.bool true) ∧ Below w.heap.size w w' := by
  have hl := hcode.1
  have hbig : decide ((1048576 : Int) < (len : Int)) = false := by simp; omega
  have HC : Hid (CodeAt w w.heap.size a len) := hcode
  have HT : Hid (SumTab w) := htab
  clear hcode htab
  go_enter Tryd.func4, Tryd.ntmps4
  go_wp2_with fail
  refine (big_any a len cap _).mono ?_
  rintro e w1 ⟨rfl, hw1⟩
  obtain rfl : w = w1 := hw1.symm
  clear hw1
  rw [hbig]
  go_wp2_with fail
  refine (drawSumOf_any _ a len cap HC.out).mono ?_
  rintro e w2 ⟨t, rfl, ht, hb2⟩
  have HB2 : Hid (Below w.heap.size w w2) := hb2
  have HC2 : Hid (CodeAt w2 w2.heap.size a len) := ⟨HC.out.1, fun h => by obtain ⟨b, off, e1, e2, e3⟩ := (HC.out.below hb2 (Nat.le_refl _)).2 h; exact ⟨b, off, e1, by have := hb2.size; omega, e3⟩⟩
  clear hb2
  go_wp2_with fail
  refine (drawPlaces_any _ a len cap HC2.out).mono ?_
  rintro e w3 ⟨gp, pcap, l, rfl, hgp, hgp3, hll, hlx, hcell, hb3⟩
  have HB3 : Hid (Below w.heap.size w w3) := HB2.out.trans (hb3.mono HB2.out.size)
  have HX : Hid (∀ j, j < 12 → w3.cell? ⟨gp, j, none⟩ = some (.int .i64 (l.getD j 0))) := hcell
  have HLX : Hid (l.length = 12 ∧ ∀ x ∈ l, 0 ≤ x ∧ x < 10000) := ⟨hll, hlx⟩
  clear hb3 hcell hll hlx HC2 HB2
  go_wp2_with fail
  refine (implSealed_yes t _ (HT.out.stays HB3.out) (by omega)).mono ?_
  rintro e w4 ⟨rfl, hb4⟩
  have HB4 : Hid (Below w3.heap.size w3 w4) := hb4
  clear hb4
  go_wp2_with fail
  refine (implUnsealed_yes (sealB t) _ ((HT.out.stays HB3.out).stays HB4.out) (seal_ok t (by omega))).mono ?_
  rw [seal_lo]
  rintro e w5 ⟨rfl, hb5⟩
  have HB5 : Hid (Below w3.heap.size w3 w5) := HB4.out.trans (hb5.mono HB4.out.size)
  clear hb5 HB4
  have hsz := seal_size t
  have hsz1 : ((sealB t).size : Int) = (t.size : Int) + 4 := by omega
  obtain ⟨w6, c6, hcv, hrow, hb6⟩ := bytes_made w5 (sealB t)
  have HR : Hid (BRow w6 w5.heap.size (sealB t).data.toList) := hrow
  have HB6 : Hid (Below w5.heap.size w5 w6) := hb6
  have HG : Hid (gp < w5.heap.size) := Nat.lt_of_lt_of_le hgp3 HB5.out.size
  have hx0 : w6.cell? ⟨gp, 0, none⟩ = some (.int .i64 (l.getD 0 0)) := by
    rw [hb6.cell (p := ⟨gp, 0, none⟩) HG.out, HB5.out.cell (p := ⟨gp, 0, none⟩) hgp3]; exact HX.out 0 (by omega)
  have hx1 : w6.cell? ⟨gp, 1, none⟩ = some (.int .i64 (l.getD 1 0)) := by
    rw [hb6.cell (p := ⟨gp, 1, none⟩) HG.out, HB5.out.cell (p := ⟨gp, 1, none⟩) hgp3]; exact HX.out 1 (by omega)
  have hb0 : 0 ≤ l.getD 0 0 ∧ l.getD 0 0 < 10000 := HLX.out.2 _ (by simp [List.getD, HLX.out.1])
  have hb1 : 0 ≤ l.getD 1 0 ∧ l.getD 1 0 < 10000 := HLX.out.2 _ (by simp [List.getD, HLX.out.1])
  generalize l.getD 0 0 = x0 at *
  generalize l.getD 1 0 = x1 at *
  clear hrow hb6 HX HLX hgp3 hgp
  obtain ⟨i, hi⟩ : ∃ i : Nat, x0.tmod ((t.size : Int) + 4) = (i : Int) := by
    rw [Int.tmod_eq_emod_of_nonneg hb0.1]
    exact Int.eq_ofNat_of_zero_le (Int.emod_nonneg _ (by omega))
  have hi2 : i < t.size + 4 := by
    have := Int.emod_lt_of_pos x0 (show (0 : Int) < (t.size : Int) + 4 by omega)
    rw [Int.tmod_eq_emod_of_nonneg hb0.1] at hi
    omega
  have hne : ¬ ((t.size : Int) + 4 = 0) := by omega
  have hL : (sealB t).data.toList.length = t.size + 4 := by rw [← hsz]; exact Array.length_toList
  obtain ⟨o, ho⟩ : ∃ o : UInt8, (sealB t).data.toList.getD i 0 = o := ⟨_, rfl⟩
  obtain ⟨b, hbo, hxor⟩ := u8_turn o (1 + x1 % 255) (by omega) (by omega)
  have hyw : IntKind.u8.wrap (1 + x1 % 255) = 1 + x1 % 255 := IntWalk.u8_in _ ⟨by omega, by omega⟩
  have hci := HR.out.2 i (by omega)
  rw [ho] at hci
  obtain ⟨hc1, hc2⟩ := hci
  have HO : Hid ((sealB t).data.toList.getD i 0 = o) := ho
  have HBO : Hid (b ≠ o) := hbo
  clear ho hbo
  have i0 : (0 : Int) ≤ (i : Int) := by omega
  have i1 : (i : Int) < (t.size : Int) + 4 := by omega
  go_wp2_with fail
  have hrow7 : BRow (w6.setCell ⟨w5.heap.size, i, none⟩ (.int .u8 (b.toNat : Int))).drew w5.heap.size ((sealB t).data.toList.set i b) := HR.out.set i b (by omega)
  have hcv7 := brow_string (cap := c6) hrow7
  rw [List.length_set, hL] at hcv7
  have hb7 : Below w5.heap.size w5 (w6.setCell ⟨w5.heap.size, i, none⟩ (.int .u8 (b.toNat : Int))).drew := Below.drew (HB6.out.setCell (Nat.le_refl _) _)
  have HB7 : Hid (Below w5.heap.size w5 (w6.setCell ⟨w5.heap.size, i, none⟩ (.int .u8 (b.toNat : Int))).drew) := hb7
  have hnot : ¬ SealOk ⟨((sealB t).data.toList.set i b).toArray⟩ := turned_not t i b (by omega) (by
    have e := HO.out
    have hi3 : i < (sealB t).data.toList.length := by omega
    rw [List.getD_eq_getElem?_getD, List.getElem?_eq_getElem hi3, Option.getD_some] at e
    rw [e]; exact HBO.out)
  have HN : Hid (¬ SealOk ⟨((sealB t).data.toList.set i b).toArray⟩) := hnot
  have hTs : (⟨((sealB t).data.toList.set i b).toArray⟩ : ByteArray).size = t.size + 4 := by
    show ((sealB t).data.toList.set i b).toArray.size = _
    rw [List.size_toArray, List.length_set, hL]
  clear hrow7 hb7 hnot
  generalize (⟨((sealB t).data.toList.set i b).toArray⟩ : ByteArray) = T at *
  go_region
  all_goals go_wp2_with fail
  refine (implUnsealed_no T _ (((HT.out.stays HB3.out).stays HB5.out).stays HB7.out) (by omega) (by omega) HN.out).mono ?_
  rintro e w8 ⟨rfl, hb8⟩
  have HB8 : Hid (Below w5.heap.size w5 w8) := HB7.out.trans (hb8.mono HB7.out.size)
  clear hb8
  have HT8 : Hid (SumTab w8) := ((HT.out.stays HB3.out).stays HB5.out).stays HB8.out
  have htx : (t ++ ⟨#[120]⟩ : ByteArray).size ≤ 1048576 := by rw [ByteArray.size_append]; show t.size + 1 ≤ _; omega
  have q1 := implSumOf t w8 HT8.out (by omega)
  have q2 := more_x t w8 HT8.out
  have q3 := implSumOf (t ++ ⟨#[120]⟩) w8 HT8.out htx
  clear htx
  generalize W.sumOf t = z1 at q1 q2
  generalize W.sumOf (t ++ ⟨#[120]⟩) = z2 at q2 q3
  have Q1 : Hid (Calls Tryd.prog 21 #[.string t] w8 fun e w' => e = .returned (u32 z1) ∧ w' = w8) := q1
  have Q2 : Hid (Calls Tryd.prog 20 #[u32 z1, .string ⟨#[120]⟩] w8 fun e w' => e = .returned (u32 z2) ∧ w' = w8) := q2
  have Q3 : Hid (Calls Tryd.prog 21 #[.string (t ++ ⟨#[120]⟩)] w8 fun e w' => e = .returned (u32 z2) ∧ w' = w8) := q3
  clear q1 q2 q3
  go_wp2_with fail
  refine Q1.out.mono ?_
  rintro e w9 ⟨rfl, hw9⟩
  obtain rfl : w8 = w9 := hw9.symm
  clear hw9
  go_wp2_with fail
  refine Q2.out.mono ?_
  rintro e w9 ⟨rfl, hw9⟩
  obtain rfl : w8 = w9 := hw9.symm
  clear hw9
  go_wp2_with fail
  refine Q3.out.mono ?_
  rintro e w9 ⟨rfl, hw9⟩
  obtain rfl : w8 = w9 := hw9.symm
  clear hw9
  go_wp2_with fail
  go_ret
  exact ⟨rfl, HB3.out.trans ((HB5.out.trans (HB8.out.mono HB5.out.size)).mono HB3.out.size)⟩
end Go.Proofs.YtmgfciamfdkjdaaDoor
