/- The walk of the law on sums of texts and texts so many times, over what is told of the program's own functions. -/
import Derived.Test.YthhhohcemickeaaFieldT
import Derived.Test.YthhhohcemickeaaDrawP
import Derived.Test.YthhhohcemickeaaBeginsM
namespace Go.Proofs.Ythhhohcemickeaa
open Go.RowKit
open W (B8)
attribute [local irreducible] W.gm addB mulT

set_option maxHeartbeats 400000 in
theorem drawAddText_any (w : World) (a : Option Addr) (len cap : Nat) (hc : CodeAt w w.heap.size a len) :
    Calls Try.prog 16 #[.slice a len cap] w fun e w' => ∃ t u : ByteArray, e = .returned (.tuple #[.string t, .string u]) ∧ t.size ≤ 9 ∧ u.size ≤ 9 ∧ Below w.heap.size w w' := by
  have HC : Hid (CodeAt w w.heap.size a len) := hc
  clear hc
  go_enter Try.func16, Try.ntmps16
  go_wp2_with fail
  refine (l01New_any _ a len cap HC.out).mono ?_
  rintro e w1 ⟨g, rfl, hg, hcur, hb1⟩
  have HC1 : Hid (Cur w1 g w.heap.size a len cap) := hcur
  clear hcur
  go_wp2_with fail
  refine (l01Below_any _ g _ a len cap 9 (by omega) HC1.out).mono ?_
  rintro e w2 ⟨x, rfl, x0, x1, hc2, hg2⟩
  have HC2 : Hid (Cur w2 g w.heap.size a len cap) := hc2
  have hb2 : Below w.heap.size w w2 := hb1.trans (below_gb hg2 hg hb1.size)
  obtain ⟨n, rfl⟩ := Int.eq_ofNat_of_zero_le x0
  clear hc2 hg2
  go_wp2_with fail
  refine (l01Text_any _ g _ a len cap n (by omega) HC2.out).mono ?_
  rintro e w3 ⟨t, rfl, ht, hc3, hg3⟩
  have HC3 : Hid (Cur w3 g w.heap.size a len cap) := hc3
  have hb3 : Below w.heap.size w w3 := hb2.trans (below_gb hg3 hg hb2.size)
  clear hc3 hg3
  go_wp2_with fail
  refine (l01Below_any _ g _ a len cap 9 (by omega) HC3.out).mono ?_
  rintro e w4 ⟨y, rfl, y0, y1, hc4, hg4⟩
  have HC4 : Hid (Cur w4 g w.heap.size a len cap) := hc4
  have hb4 : Below w.heap.size w w4 := hb3.trans (below_gb hg4 hg hb3.size)
  obtain ⟨m, rfl⟩ := Int.eq_ofNat_of_zero_le y0
  clear hc4 hg4
  go_wp2_with fail
  refine (l01Text_any _ g _ a len cap m (by omega) HC4.out).mono ?_
  rintro e w5 ⟨u, rfl, hu, _, hg5⟩
  have hb5 : Below w.heap.size w w5 := hb4.trans (below_gb hg5 hg hb4.size)
  clear hg5
  go_wp2_with fail
  go_ret2
  exact ⟨t, u, rfl, by omega, by omega, hb5⟩
/-- What is told of the program's AddText and MulText. -/
structure TextsOk : Prop where
  add : ∀ (a b : ByteArray) (w : World), a.size ≤ 1048576 → b.size ≤ 1048576 → Calls Try.prog 17 #[.string a, .string b] w fun e w' => e = .returned (.string (addB a b)) ∧ Below w.heap.size w w'
  mul : ∀ (x : Int) (s : ByteArray) (w : World), s.size ≤ 1048576 → Calls Try.prog 20 #[.int .i64 x, .string s] w fun e w' => e = .returned (.string (mulT (g8 x) s)) ∧ Below w.heap.size w w'
abbrev AddIs (a b r : ByteArray) : Prop := ∀ w : World, Calls Try.prog 17 #[.string a, .string b] w fun e w' => e = .returned (.string r) ∧ Below w.heap.size w w'
theorem TextsOk.addIs (h : TextsOk) {a b r : ByteArray} (ha : a.size ≤ 1048576) (hb : b.size ≤ 1048576) (e : addB a b = r) : AddIs a b r := fun w => by have := h.add a b w ha hb; rwa [e] at this
abbrev MulTIs (x : Int) (s r : ByteArray) : Prop := ∀ w : World, Calls Try.prog 20 #[.int .i64 x, .string s] w fun e w' => e = .returned (.string r) ∧ Below w.heap.size w w'
theorem TextsOk.mulIs (h : TextsOk) {x : Int} {s r : ByteArray} (hs : s.size ≤ 1048576) (e : mulT (g8 x) s = r) : MulTIs x s r := fun w => by have := h.mul x s w hs; rwa [e] at this
theorem addB_size (a b : ByteArray) : (addB a b).size = max a.size b.size := by
  unfold addB
  show (W.addL a.data.toList b.data.toList).toArray.size = _
  rw [List.size_toArray, W.addL_len]
  rfl
theorem mulT_size (A : B8) (s : ByteArray) : (mulT A s).size = s.size := by
  unfold mulT
  show (W.mulL A s.data.toList).toArray.size = _
  rw [List.size_toArray, W.mulL_len]
  rfl
theorem addB_twice (a b : ByteArray) : (addB (addB a b) b).extract 0 a.size = a := by
  obtain ⟨r, hr⟩ := W.addL_twice a.data.toList b.data.toList
  apply Go.WideShapes.bytes_inj
  have e : (addB (addB a b) b).data.toList = a.data.toList ++ r := by unfold addB; simpa using hr
  simp only [ByteArray.data_extract, Array.toList_extract]
  rw [e]
  simp only [List.extract_eq_take_drop, List.drop_zero]
  exact List.take_left' rfl
theorem mulT_add (A : B8) (a b : ByteArray) : addB (mulT A a) (mulT A b) = mulT A (addB a b) := by
  unfold addB mulT
  simp only [W.mulL_add]
theorem mulT_one (a : ByteArray) : mulT 1#8 a = a := by
  unfold mulT
  rw [W.mulL_one]
set_option maxRecDepth 100000 in
set_option maxHeartbeats 2000000 in
theorem texts_walk (hT : TextsOk) (a : Option Addr) (len cap : Nat) (w : World) (hcode : CodeAt w w.heap.size a len) :
    Calls Try.prog 4 #[.slice a len cap] w fun e w' => e = .returned (.bool true) ∧ Below w.heap.size w w' := by
  have hl := hcode.1
  have hbig : decide ((1048576 : Int) < (len : Int)) = false := by simp; omega
  have HC : Hid (CodeAt w w.heap.size a len) := hcode
  have HF : Hid TextsOk := hT
  clear hcode hT
  go_enter Try.func4, Try.ntmps4
  go_wp2_with fail
  refine (big_any a len cap _).mono ?_
  rintro e w1 ⟨rfl, hw1⟩
  obtain rfl : w = w1 := hw1.symm
  clear hw1
  rw [hbig]
  go_wp2_with fail
  refine (drawAddText_any _ a len cap HC.out).mono ?_
  rintro e w2 ⟨t, u, rfl, ht, hu, hb2⟩
  have B2 : Hid (Below w.heap.size w w2) := hb2
  have HC2 : Hid (CodeAt w2 w2.heap.size a len) := ⟨HC.out.1, fun h => by obtain ⟨b, off, e1, e2, e3⟩ := (HC.out.below hb2 (Nat.le_refl _)).2 h; exact ⟨b, off, e1, by have := hb2.size; omega, e3⟩⟩
  clear hb2
  go_wp2_with fail
  refine (drawPlaces_any _ a len cap HC2.out).mono ?_
  rintro e w3 ⟨gp, pcap, l, rfl, hgp, hgp2, hll, hlx, hcell, hb3⟩
  have B3 : Hid (Below w.heap.size w w3) := B2.out.trans (hb3.mono B2.out.size)
  have y0 := hcell 0 (by omega)
  have q0 : 0 ≤ l.getD 0 0 ∧ l.getD 0 0 < 10000 := hlx _ (by simp [List.getD, hll])
  generalize l.getD 0 0 = x0 at *
  obtain ⟨A, hA⟩ : ∃ A : B8, x0 % 256 = (A.toNat : Int) := ⟨g8 x0, (g8_nat x0).symm⟩
  clear hcell hll hlx hb3 B2 HC2
  have z1 := addB_size t u
  have z2 := mulT_size 0#8 t
  have z3 := mulT_size A t
  have z4 := mulT_size A u
  obtain ⟨S, e1⟩ : ∃ R, addB t u = R := ⟨_, rfl⟩
  obtain ⟨T, e2⟩ : ∃ R, addB S u = R := ⟨_, rfl⟩
  obtain ⟨M1, e3⟩ : ∃ R, mulT A S = R := ⟨_, rfl⟩
  obtain ⟨M2, e4⟩ : ∃ R, mulT A t = R := ⟨_, rfl⟩
  obtain ⟨M3, e5⟩ : ∃ R, mulT A u = R := ⟨_, rfl⟩
  obtain ⟨Z, e6⟩ : ∃ R, mulT 0#8 t = R := ⟨_, rfl⟩
  rw [e1] at z1
  rw [e6] at z2
  rw [e4] at z3
  rw [e5] at z4
  have c1 : AddIs t u S := HF.out.addIs (by omega) (by omega) e1
  have c2 : AddIs S u T := HF.out.addIs (by omega) (by omega) e2
  have c3 : ∀ w : World, Calls Try.prog 18 #[.string t, .string T] w fun e w' => e = .returned (.bool true) ∧ Below w.heap.size w w' := fun w => by
    have hz : T.size = max S.size u.size := by rw [← e2]; exact addB_size S u
    have := begins_yes T t.size w (by omega) (by omega)
    rw [← e2, ← e1, addB_twice, e1, e2] at this
    exact this.mono fun e w' h => ⟨h.1, by rw [h.2]; exact Below.refl _ _⟩
  have c4 : AddIs u t S := HF.out.addIs (by omega) (by omega) (by rw [addB_comm, e1])
  have c5 : ∀ w : World, Calls Try.prog 19 #[.string t, .string u] w fun e w' => e = .returned (.string S) ∧ Below w.heap.size w w' := fun w => by have := specAddText t u w (by omega) (by omega); rwa [e1] at this
  have c6 : MulTIs (A.toNat : Int) S M1 := HF.out.mulIs (by omega) (by rw [g8_back, e3])
  have c7 : MulTIs (A.toNat : Int) t M2 := HF.out.mulIs (by omega) (by rw [g8_back, e4])
  have c8 : MulTIs (A.toNat : Int) u M3 := HF.out.mulIs (by omega) (by rw [g8_back, e5])
  have c9 : AddIs M2 M3 M1 := HF.out.addIs (by omega) (by omega) (by rw [← e4, ← e5, mulT_add, e1, e3])
  have c10 : MulTIs 1 t t := HF.out.mulIs (by omega) (by rw [show g8 1 = 1#8 from rfl, mulT_one])
  have c11 : MulTIs 0 t Z := HF.out.mulIs (by omega) (by rw [show g8 0 = 0#8 from rfl, e6])
  have c12 := c7
  have c13 : ∀ w : World, Calls Try.prog 21 #[.int .i64 (A.toNat : Int), .string t] w fun e w' => e = .returned (.string M2) ∧ Below w.heap.size w w' := fun w => by have := specMulText (A.toNat : Int) t w (by omega); rwa [g8_back, e4] at this
  have s1 : ¬ (S.size : Int) < (t.size : Int) := by omega
  have s2 : ¬ (S.size : Int) < (u.size : Int) := by omega
  have s3 : ¬ (t.size : Int) + (u.size : Int) < (S.size : Int) := by omega
  have s4 : ((Z.size : Int) == (t.size : Int)) = true := by rw [beq_iff_eq]; omega
  clear e1 e2 e3 e4 e5 e6 z1 z2 z3 z4 HF
  go_wp2_with fail
  refine (c1 _).mono ?_
  rintro e w4 ⟨rfl, hb4⟩
  have B4 : Hid (Below w.heap.size w w4) := B3.out.trans (hb4.mono B3.out.size)
  clear hb4 B3
  go_wp2_with fail
  refine (c2 _).mono ?_
  rintro e w5 ⟨rfl, hb5⟩
  have B5 : Hid (Below w.heap.size w w5) := B4.out.trans (hb5.mono B4.out.size)
  clear hb5 B4
  go_wp2_with fail
  refine (c3 _).mono ?_
  rintro e w6 ⟨rfl, hb6⟩
  have B6 : Hid (Below w.heap.size w w6) := B5.out.trans (hb6.mono B5.out.size)
  clear hb6 B5
  go_wp2_with fail
  refine (c4 _).mono ?_
  rintro e w7 ⟨rfl, hb7⟩
  have B7 : Hid (Below w.heap.size w w7) := B6.out.trans (hb7.mono B6.out.size)
  clear hb7 B6
  go_wp2_with fail
  refine (c5 _).mono ?_
  rintro e w8 ⟨rfl, hb8⟩
  have B8 : Hid (Below w.heap.size w w8) := B7.out.trans (hb8.mono B7.out.size)
  clear hb8 B7
  go_wp2_with fail
  refine (c6 _).mono ?_
  rintro e w9 ⟨rfl, hb9⟩
  have B9 : Hid (Below w.heap.size w w9) := B8.out.trans (hb9.mono B8.out.size)
  clear hb9 B8
  go_wp2_with fail
  refine (c7 _).mono ?_
  rintro e w10 ⟨rfl, hb10⟩
  have B10 : Hid (Below w.heap.size w w10) := B9.out.trans (hb10.mono B9.out.size)
  clear hb10 B9
  go_wp2_with fail
  refine (c8 _).mono ?_
  rintro e w11 ⟨rfl, hb11⟩
  have B11 : Hid (Below w.heap.size w w11) := B10.out.trans (hb11.mono B10.out.size)
  clear hb11 B10
  go_wp2_with fail
  refine (c9 _).mono ?_
  rintro e w12 ⟨rfl, hb12⟩
  have B12 : Hid (Below w.heap.size w w12) := B11.out.trans (hb12.mono B11.out.size)
  clear hb12 B11
  go_wp2_with fail
  refine (c10 _).mono ?_
  rintro e w13 ⟨rfl, hb13⟩
  have B13 : Hid (Below w.heap.size w w13) := B12.out.trans (hb13.mono B12.out.size)
  clear hb13 B12
  go_wp2_with fail
  refine (c11 _).mono ?_
  rintro e w14 ⟨rfl, hb14⟩
  have B14 : Hid (Below w.heap.size w w14) := B13.out.trans (hb14.mono B13.out.size)
  clear hb14 B13
  go_wp2_with fail
  refine (c12 _).mono ?_
  rintro e w15 ⟨rfl, hb15⟩
  have B15 : Hid (Below w.heap.size w w15) := B14.out.trans (hb15.mono B14.out.size)
  clear hb15 B14
  go_wp2_with fail
  refine (c13 _).mono ?_
  rintro e w16 ⟨rfl, hb16⟩
  have B16 : Hid (Below w.heap.size w w16) := B15.out.trans (hb16.mono B15.out.size)
  clear hb16 B15
  go_wp2_with fail
  go_ret
  exact ⟨rfl, B16.out⟩
end Go.Proofs.Ythhhohcemickeaa
