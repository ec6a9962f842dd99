/- The law FnMatrices, over what is told of the program's own functions (written by gen/mklawsq.py). -/
import Derived.Test.YtdpcndbfbmphjaaSqA
import Derived.Test.YtdpcndbfbmphjaaFits
import Derived.Test.YtdpcndbfbmphjaaMatD
import Derived.Test.YtdpcndbfbmphjaaOpenC
namespace Go.Proofs.Ytdpcndbfbmphjaa
open Go.RowKit
open W (B8 Mx)
attribute [local go_sem ↓] Go.wp_at_zero Go.wp_at_succ
attribute [local irreducible] W.gm W.xs W.mm W.gi

theorem sq_matOk {n : Nat} {X : List (List Int)} (h : Sq n X) (h1 : 1 ≤ n) (h8 : n ≤ 8) : matOk X = true ∧ colsOf X = n := by
  have hc : colsOf X = n := by
    have hl := h.len
    cases X with
    | nil => simp at hl; omega
    | cons x X => exact (h.row x (by simp)).1
  refine ⟨?_, hc⟩
  unfold matOk
  rw [Bool.and_eq_true, List.all_eq_true]
  refine ⟨fun x hx => ?_, by rw [h.len]; simp; omega⟩
  obtain ⟨q1, q2⟩ := h.row x hx
  have hc' : (X.headD []).length = n := hc
  unfold rowOk numOk
  rw [hc']
  simp only [Bool.and_eq_true, decide_eq_true_eq, List.all_eq_true]
  exact ⟨⟨q1, by omega, by omega⟩, fun y hy => q2 y hy⟩
theorem sq_rowsX (n : Nat) (A : Mx) : Sq n (rowsX n n A) := ⟨by simp [rowsX], fun x hx => by
  obtain ⟨i, _, rfl⟩ := List.mem_map.1 hx
  exact ⟨by simp, fun y hy => by obtain ⟨j, _, rfl⟩ := List.mem_map.1 hy; exact b8_num _⟩⟩
theorem mx_rowsX (n : Nat) (A : Mx) : W.eqM n n (mx (rowsX n n A)) A := fun i hi j hj => by
  have a1 : (rowsX n n A).getD i [] = (List.range n).map fun j => ((A i j).toNat : Int) := by unfold rowsX; rw [List.getD_eq_getElem?_getD, List.getElem?_map, List.getElem?_range hi]; rfl
  unfold mx
  rw [a1, List.getD_eq_getElem?_getD, List.getElem?_map, List.getElem?_range hj]
  exact g8_back _
theorem mulX_sq {n : Nat} {X Y : List (List Int)} (h : Sq n X) (k : Sq n Y) (h1 : 1 ≤ n) (h8 : n ≤ 8) : mulX X Y = rowsX n n (W.mm n (mx X) (mx Y)) := by
  obtain ⟨a1, a2⟩ := sq_matOk h h1 h8
  obtain ⟨b1, b2⟩ := sq_matOk k h1 h8
  unfold mulX
  rw [if_pos ⟨a1, b1, by rw [a2, k.len]⟩, h.len, k.len, b2]
theorem mulX_is {n : Nat} {X Y Z : List (List Int)} (h : Sq n X) (k : Sq n Y) (z : Sq n Z) (h1 : 1 ≤ n) (h8 : n ≤ 8) (e : W.eqM n n (W.mm n (mx X) (mx Y)) (mx Z)) : mulX X Y = Z := by
  rw [mulX_sq h k h1 h8]
  exact (sq_rowsX n _).ext z ((mx_rowsX n _).trans e)
theorem mulX_sq' {n : Nat} {X Y : List (List Int)} (h : Sq n X) (k : Sq n Y) (h1 : 1 ≤ n) (h8 : n ≤ 8) : Sq n (mulX X Y) ∧ W.eqM n n (mx (mulX X Y)) (W.mm n (mx X) (mx Y)) := by
  rw [mulX_sq h k h1 h8]; exact ⟨sq_rowsX n _, mx_rowsX n _⟩
theorem mulX_assoc {n : Nat} {X Y Z : List (List Int)} (h : Sq n X) (k : Sq n Y) (z : Sq n Z) (h1 : 1 ≤ n) (h8 : n ≤ 8) : mulX (mulX X Y) Z = mulX X (mulX Y Z) := by
  obtain ⟨a1, a2⟩ := mulX_sq' h k h1 h8
  obtain ⟨b1, b2⟩ := mulX_sq' k z h1 h8
  obtain ⟨c1, c2⟩ := mulX_sq' h b1 h1 h8
  refine mulX_is a1 z c1 h1 h8 ?_
  refine (W.mm_left a2).trans ?_
  rw [W.mm_assoc]
  exact (W.mm_right b2.symm).trans c2.symm
theorem mulX_one {n : Nat} {X : List (List Int)} (h : Sq n X) (h1 : 1 ≤ n) (h8 : n ≤ 8) : mulX X (oneX (n : Int)) = X ∧ mulX (oneX (n : Int)) X = X := by
  obtain ⟨_, q1, q2⟩ := mx_one h1 h8
  refine ⟨mulX_is h q1 h h1 h8 ((W.mm_right q2.symm).trans fun i _ j hj => W.mm_one hj _ i), mulX_is q1 h h h1 h8 ((W.mm_left q2.symm).trans fun i hi j _ => W.one_mm hi _ j)⟩
theorem mulX_eight {n : Nat} {X : List (List Int)} (h : Sq n X) (h1 : 1 ≤ n) (h3 : n ≤ 3) : mulX X (oneX 8) = [] := by
  refine mulX_no fun ⟨_, _, e⟩ => ?_
  rw [(sq_matOk h h1 (by omega)).2] at e
  have : (oneX 8).length = 8 := by
    have := (mx_one (n := 8) (by omega) (by omega)).2.1.len
    exact this
  omega
theorem Sq.fit {n : Nat} {X : List (List Int)} (h : Sq n X) (h8 : n ≤ 8) : MFit X := fit_square (n := 8) (m := 8) (by rw [h.len]; exact h8) (fun x hx => by rw [(h.row x hx).1]; exact h8) (by omega)
theorem MAns.form {w : World} {v : Value} {X : List (List Int)} {lo hi : Nat} (h : MAns w v X lo hi) : ∃ a cap, v = .slice a X.length cap := by
  obtain ⟨a, cap, ss, e, hr, _⟩ := h
  exact ⟨a, cap, by rw [e, ← hr, rws_len]⟩
theorem MAns.none {w : World} {v : Value} {lo hi : Nat} (h : MAns w v [] lo hi) : ∃ a cap, v = .slice a 0 cap := h.form
theorem oneX_0 : oneX 0 = [] := by unfold oneX; rw [if_neg (by omega)]
/-- What is told of the program's MatrixOk, MulM and OneM. -/
structure MatAll : Prop where
  ok : ∀ (w : World) (v : Value) (X : List (List Int)) (lo hi : Nat), MSee w v X lo hi → MFit X → Calls Try.prog 15 #[v] w fun e w' => e = .returned (.bool (matOk X)) ∧ Below w.heap.size w w'
  mul : ∀ (w : World) (v u : Value) (X Y : List (List Int)) (lo hi lo' hi' : Nat), MSee w v X lo hi → MSee w u Y lo' hi' → MFit X → MFit Y → Calls Try.prog 14 #[v, u] w fun e w' => MPost (mulX X Y) w e w'
  one : ∀ (x : Int) (w : World), Calls Try.prog 13 #[.int .i64 x] w fun e w' => MPost (oneX x) w e w'
set_option maxRecDepth 100000 in
set_option maxHeartbeats 4000000 in
theorem matrices_walk (h : MatAll) (a : Option Addr) (len cap : Nat) (w : World) (hcode : CodeAt w w.heap.size a len) :
    Calls Try.prog 3 #[.slice a len cap] w fun e w' => e = .returned (.bool true) ∧ Below w.heap.size w w' := by
  have hbig : decide ((1048576 : Int) < (len : Int)) = false := by have := hcode.1; simp; omega
  have HC : Hid (CodeAt w w.heap.size a len) := hcode
  have HH := Shut.mk h
  clear hcode h
  go_enter Try.func3, Try.ntmps3
  go_wp2_with fail
  refine (big_any a len cap _).mono ?_
  rintro e w1 ⟨rfl, hw1⟩
  obtain rfl : w = w1 := hw1.symm
  clear hw1
  rw [hbig]
  go_wp2_with fail
  refine (drawSquares_any _ a len cap HC.out).mono ?_
  rintro e w1 ⟨n, v1, v2, v3, X, Y, Z, rfl, hn1, hn3, hX, hY, hZ, f1, f2, f3, hb1⟩
  obtain ⟨p1, c1, rfl⟩ := f1.form
  rw [hX.len] at f1 ⊢
  have n8 : n ≤ 8 := by omega
  have HN := Shut.mk (And.intro hX (And.intro hY hZ))
  have FX := Shut.mk f1.see
  have FY := Shut.mk f2.see
  have FZ := Shut.mk f3.see
  have HB := Shut.mk hb1
  have hfX := Shut.mk (hX.fit n8)
  have hfY := Shut.mk (hY.fit n8)
  have hfZ := Shut.mk (hZ.fit n8)
  have hXY := Shut.mk (mulX_sq' hX hY hn1 n8).1
  have hYZ := Shut.mk (mulX_sq' hY hZ hn1 n8).1
  have hO := Shut.mk (mx_one hn1 n8).2.1
  have hAS := Shut.mk (mulX_assoc hX hY hZ hn1 n8)
  have hL := Shut.mk (mulX_sq' hX hYZ.out hn1 n8).1
  have hON := Shut.mk (mulX_one hX hn1 n8)
  have hEI := Shut.mk (mulX_eight hX hn1 hn3)
  have hOK := Shut.mk fun (w : World) (v : Value) (lo hi : Nat) (hs : MSee w v X lo hi) => by have q := HH.out.ok w v X lo hi hs (hX.fit n8); rw [(sq_matOk hX hn1 n8).1] at q; exact q
  have hnn : ((n : Int) == (n : Int)) = true := by simp
  clear hX hY hZ f1 f2 f3 hb1
  go_wp2_with fail
  refine (HH.out.one (n : Int) _).mono ?_
  rintro e w2 ⟨o, rfl, hA, hb⟩
  have Fo := Shut.mk hA
  clear hA
  replace FX := Shut.mk (FX.out.below hb)
  replace FY := Shut.mk (FY.out.below hb)
  replace FZ := Shut.mk (FZ.out.below hb)
  have z2 := hb.size
  replace HB := Shut.mk (HB.out.trans (hb.mono HB.out.size))
  clear hb
  replace Fo := Shut.mk Fo.out.see
  go_wp2_with fail
  refine (HH.out.mul _ _ _ _ _ _ _ _ _ FX.out FY.out hfX.out hfY.out).mono ?_
  rintro e w3 ⟨ab, rfl, hA, hb⟩
  have Fab := Shut.mk hA
  clear hA
  replace FX := Shut.mk (FX.out.below hb)
  replace FY := Shut.mk (FY.out.below hb)
  replace FZ := Shut.mk (FZ.out.below hb)
  replace Fo := Shut.mk (Fo.out.below hb)
  have z3 := hb.size
  replace HB := Shut.mk (HB.out.trans (hb.mono HB.out.size))
  clear hb
  replace Fab := Shut.mk Fab.out.see
  go_wp2_with fail
  refine (HH.out.mul _ _ _ _ _ _ _ _ _ Fab.out FZ.out (hXY.out.fit n8) hfZ.out).mono ?_
  rintro e w4 ⟨l, rfl, hA, hb⟩
  have Fl := Shut.mk hA
  clear hA
  replace FX := Shut.mk (FX.out.below hb)
  replace FY := Shut.mk (FY.out.below hb)
  replace FZ := Shut.mk (FZ.out.below hb)
  replace Fo := Shut.mk (Fo.out.below hb)
  replace Fab := Shut.mk (Fab.out.below hb)
  have z4 := hb.size
  replace HB := Shut.mk (HB.out.trans (hb.mono HB.out.size))
  clear hb
  rw [hAS.out] at Fl
  obtain ⟨p2, c2, rfl⟩ := Fl.out.form
  have hll := hL.out.len
  rw [hll] at Fl ⊢
  clear hll
  replace Fl := Shut.mk Fl.out.see
  go_wp2_with fail
  refine (HH.out.mul _ _ _ _ _ _ _ _ _ FY.out FZ.out hfY.out hfZ.out).mono ?_
  rintro e w5 ⟨bc, rfl, hA, hb⟩
  have Fbc := Shut.mk hA
  clear hA
  replace FX := Shut.mk (FX.out.below hb)
  replace FY := Shut.mk (FY.out.below hb)
  replace FZ := Shut.mk (FZ.out.below hb)
  replace Fo := Shut.mk (Fo.out.below hb)
  replace Fab := Shut.mk (Fab.out.below hb)
  replace Fl := Shut.mk (Fl.out.below hb)
  have z5 := hb.size
  replace HB := Shut.mk (HB.out.trans (hb.mono HB.out.size))
  clear hb
  replace Fbc := Shut.mk Fbc.out.see
  go_wp2_with fail
  refine (HH.out.mul _ _ _ _ _ _ _ _ _ FX.out Fbc.out hfX.out (hYZ.out.fit n8)).mono ?_
  rintro e w6 ⟨r, rfl, hA, hb⟩
  have Fr := Shut.mk hA
  clear hA
  replace FX := Shut.mk (FX.out.below hb)
  replace FY := Shut.mk (FY.out.below hb)
  replace FZ := Shut.mk (FZ.out.below hb)
  replace Fo := Shut.mk (Fo.out.below hb)
  replace Fab := Shut.mk (Fab.out.below hb)
  replace Fl := Shut.mk (Fl.out.below hb)
  replace Fbc := Shut.mk (Fbc.out.below hb)
  have z6 := hb.size
  replace HB := Shut.mk (HB.out.trans (hb.mono HB.out.size))
  clear hb
  replace Fr := Shut.mk Fr.out.see
  go_wp2_with fail
  refine (hOK.out _ _ _ _ FX.out).mono ?_
  rintro e w7 ⟨rfl, hb⟩
  replace FX := Shut.mk (FX.out.below hb)
  replace FY := Shut.mk (FY.out.below hb)
  replace FZ := Shut.mk (FZ.out.below hb)
  replace Fo := Shut.mk (Fo.out.below hb)
  replace Fab := Shut.mk (Fab.out.below hb)
  replace Fl := Shut.mk (Fl.out.below hb)
  replace Fbc := Shut.mk (Fbc.out.below hb)
  replace Fr := Shut.mk (Fr.out.below hb)
  have z7 := hb.size
  replace HB := Shut.mk (HB.out.trans (hb.mono HB.out.size))
  clear hb
  go_wp2_with fail
  refine (sameMatrix_val Fl.out Fr.out (hL.out.fit n8)).mono ?_
  rintro e w8 ⟨rfl, hb⟩
  replace FX := Shut.mk (FX.out.below hb)
  replace FY := Shut.mk (FY.out.below hb)
  replace FZ := Shut.mk (FZ.out.below hb)
  replace Fo := Shut.mk (Fo.out.below hb)
  replace Fab := Shut.mk (Fab.out.below hb)
  replace Fl := Shut.mk (Fl.out.below hb)
  replace Fbc := Shut.mk (Fbc.out.below hb)
  replace Fr := Shut.mk (Fr.out.below hb)
  have z8 := hb.size
  replace HB := Shut.mk (HB.out.trans (hb.mono HB.out.size))
  clear hb
  clear Fl
  clear Fr
  clear Fbc
  go_wp2_with fail
  refine (HH.out.mul _ _ _ _ _ _ _ _ _ FX.out Fo.out hfX.out (hO.out.fit n8)).mono ?_
  rintro e w9 ⟨t1, rfl, hA, hb⟩
  have Ft1 := Shut.mk hA
  clear hA
  replace FX := Shut.mk (FX.out.below hb)
  replace FY := Shut.mk (FY.out.below hb)
  replace FZ := Shut.mk (FZ.out.below hb)
  replace Fo := Shut.mk (Fo.out.below hb)
  replace Fab := Shut.mk (Fab.out.below hb)
  have z9 := hb.size
  replace HB := Shut.mk (HB.out.trans (hb.mono HB.out.size))
  clear hb
  rw [hON.out.1] at Ft1
  go_wp2_with fail
  refine (sameMatrix_val Ft1.out.see FX.out hfX.out).mono ?_
  rintro e w10 ⟨rfl, hb⟩
  replace FX := Shut.mk (FX.out.below hb)
  replace FY := Shut.mk (FY.out.below hb)
  replace FZ := Shut.mk (FZ.out.below hb)
  replace Fo := Shut.mk (Fo.out.below hb)
  replace Fab := Shut.mk (Fab.out.below hb)
  replace Ft1 := Shut.mk (Ft1.out.below hb)
  have z10 := hb.size
  replace HB := Shut.mk (HB.out.trans (hb.mono HB.out.size))
  clear hb
  clear Ft1
  go_wp2_with fail
  refine (HH.out.mul _ _ _ _ _ _ _ _ _ Fo.out FX.out (hO.out.fit n8) hfX.out).mono ?_
  rintro e w11 ⟨t2, rfl, hA, hb⟩
  have Ft2 := Shut.mk hA
  clear hA
  replace FX := Shut.mk (FX.out.below hb)
  replace FY := Shut.mk (FY.out.below hb)
  replace FZ := Shut.mk (FZ.out.below hb)
  replace Fo := Shut.mk (Fo.out.below hb)
  replace Fab := Shut.mk (Fab.out.below hb)
  have z11 := hb.size
  replace HB := Shut.mk (HB.out.trans (hb.mono HB.out.size))
  clear hb
  rw [hON.out.2] at Ft2
  go_wp2_with fail
  refine (sameMatrix_val Ft2.out.see FX.out hfX.out).mono ?_
  rintro e w12 ⟨rfl, hb⟩
  replace FX := Shut.mk (FX.out.below hb)
  replace FY := Shut.mk (FY.out.below hb)
  replace FZ := Shut.mk (FZ.out.below hb)
  replace Fo := Shut.mk (Fo.out.below hb)
  replace Fab := Shut.mk (Fab.out.below hb)
  replace Ft2 := Shut.mk (Ft2.out.below hb)
  have z12 := hb.size
  replace HB := Shut.mk (HB.out.trans (hb.mono HB.out.size))
  clear hb
  clear Ft2
  go_wp2_with fail
  refine (specMulM FX.out FY.out hfX.out hfY.out).mono ?_
  rintro e w13 ⟨t3, rfl, hA, hb⟩
  have Ft3 := Shut.mk hA
  clear hA
  replace FX := Shut.mk (FX.out.below hb)
  replace FY := Shut.mk (FY.out.below hb)
  replace FZ := Shut.mk (FZ.out.below hb)
  replace Fo := Shut.mk (Fo.out.below hb)
  replace Fab := Shut.mk (Fab.out.below hb)
  have z13 := hb.size
  replace HB := Shut.mk (HB.out.trans (hb.mono HB.out.size))
  clear hb
  go_wp2_with fail
  refine (sameMatrix_val Fab.out Ft3.out.see (hXY.out.fit n8)).mono ?_
  rintro e w14 ⟨rfl, hb⟩
  replace FX := Shut.mk (FX.out.below hb)
  replace FY := Shut.mk (FY.out.below hb)
  replace FZ := Shut.mk (FZ.out.below hb)
  replace Fo := Shut.mk (Fo.out.below hb)
  replace Fab := Shut.mk (Fab.out.below hb)
  replace Ft3 := Shut.mk (Ft3.out.below hb)
  have z14 := hb.size
  replace HB := Shut.mk (HB.out.trans (hb.mono HB.out.size))
  clear hb
  clear Ft3
  clear Fab
  go_wp2_with fail
  refine (HH.out.one 0 _).mono ?_
  rintro e w15 ⟨t4, rfl, hA, hb⟩
  have Ft4 := Shut.mk hA
  clear hA
  replace FX := Shut.mk (FX.out.below hb)
  replace FY := Shut.mk (FY.out.below hb)
  replace FZ := Shut.mk (FZ.out.below hb)
  replace Fo := Shut.mk (Fo.out.below hb)
  have z15 := hb.size
  replace HB := Shut.mk (HB.out.trans (hb.mono HB.out.size))
  clear hb
  rw [oneX_0] at Ft4
  obtain ⟨p4, c4, rfl⟩ := Ft4.out.none
  clear Ft4
  go_wp2_with fail
  refine (HH.out.one 8 _).mono ?_
  rintro e w16 ⟨t5, rfl, hA, hb⟩
  have Ft5 := Shut.mk hA
  clear hA
  replace FX := Shut.mk (FX.out.below hb)
  replace FY := Shut.mk (FY.out.below hb)
  replace FZ := Shut.mk (FZ.out.below hb)
  replace Fo := Shut.mk (Fo.out.below hb)
  have z16 := hb.size
  replace HB := Shut.mk (HB.out.trans (hb.mono HB.out.size))
  clear hb
  go_wp2_with fail
  refine (HH.out.mul _ _ _ _ _ _ _ _ _ FX.out Ft5.out.see hfX.out (fit_one 8)).mono ?_
  rintro e w17 ⟨t6, rfl, hA, hb⟩
  have Ft6 := Shut.mk hA
  clear hA
  replace FX := Shut.mk (FX.out.below hb)
  replace FY := Shut.mk (FY.out.below hb)
  replace FZ := Shut.mk (FZ.out.below hb)
  replace Fo := Shut.mk (Fo.out.below hb)
  replace Ft5 := Shut.mk (Ft5.out.below hb)
  have z17 := hb.size
  replace HB := Shut.mk (HB.out.trans (hb.mono HB.out.size))
  clear hb
  rw [hEI.out] at Ft6
  obtain ⟨p6, c6, rfl⟩ := Ft6.out.none
  clear Ft6
  go_wp2_with fail
  go_ret
  exact ⟨rfl, HB.out⟩
end Go.Proofs.Ytdpcndbfbmphjaa
