/- The law FnInverses, over what is told of the program's own InvM (written by gen/mklawinv.py). -/
import Derived.Test.YtdpcndbfbmphjaaLawSq
import Derived.Test.YtdpcndbfbmphjaaMatJ
namespace Go.Proofs.Ytdpcndbfbmphjaa
open Go.RowKit
open W (B8 Mx)
attribute [local go_sem ↓] Go.wp_at_zero Go.wp_at_succ
attribute [local irreducible] W.gm W.xs W.mm W.gi

theorem MSee.top {w : World} {p : Option Addr} {n c : Nat} {X : List (List Int)} {lo hi : Nat} (h : MSee w (.slice p n c) X lo hi) (hs : Sq n X) (h1 : 1 ≤ n) :
    ∃ b off loc cp, p = some ⟨b, off, none⟩ ∧ b < w.heap.size ∧ w.cell? ⟨b, off, none⟩ = some (.slice loc n cp) ∧ RRow w loc (ics (X.getD 0 [])) lo hi := by
  obtain ⟨a, cap, ss, e, hr, hm⟩ := h
  have hl : ss.length = n := by rw [← hs.len, ← hr, rws_len]
  simp only [Value.slice.injEq] at e
  obtain ⟨rfl, _, _⟩ := e
  obtain ⟨b, off, e2, hb, hc⟩ := hm.at (by omega)
  have h0 : 0 < ss.length := by omega
  have hget : X.getD 0 [] = ss[0].row := by rw [← hr, List.getD_eq_getElem?_getD]; simp [rws, h0]
  have hlen : ss[0].row.length = n := by rw [← hget]; exact (hs.at (by omega)).1
  have hc0 := hc 0 h0
  unfold srv at hc0
  rw [hlen] at hc0
  exact ⟨b, off, ss[0].loc, ss[0].cap, e2, hb, hc0, by rw [hget]; exact hm.2 _ (List.getElem_mem h0)⟩
theorem svs_rep (n : Nat) (s : SR) : svs (List.replicate n s) = List.replicate n (srv s) := by simp [svs]
theorem rws_rep (n : Nat) (s : SR) : rws (List.replicate n s) = List.replicate n s.row := by simp [rws]
theorem twice_see {w : World} {B n cp lo hi : Nat} {v : Value} {loc : Option Addr} {r : List Int} (ho : w.ownsRow B 33 1 v n (List.replicate n (.slice loc n cp))) (hp : 1 ≤ n) (hr : RRow w loc (ics r) lo hi) (hl : r.length = n) (hh : hi ≤ w.heap.size) : MSee w v (List.replicate n r) 0 w.heap.size := by
  obtain ⟨g, cap, rfl, _⟩ := own_some ho (by omega)
  have hw := own_wcells ho
  have e : List.replicate n (Value.slice loc n cp) = svs (List.replicate n ⟨loc, r, cp⟩) := by rw [svs_rep]; unfold srv; rw [hl]
  rw [e] at hw
  refine ⟨_, cap, List.replicate n ⟨loc, r, cp⟩, by simp, by rw [rws_rep], RRow.of_wcells hw (Nat.zero_le _) hw.1, fun s hs => ?_⟩
  rw [List.eq_of_mem_replicate hs]
  exact hr.wide (Nat.zero_le _) hh
theorem twice_sq {n : Nat} {r : List Int} (hl : r.length = n) (hr : ∀ y ∈ r, 0 ≤ y ∧ y ≤ 255) : Sq n (List.replicate n r) := ⟨by simp, fun x hx => by rw [List.eq_of_mem_replicate hx]; exact ⟨hl, hr⟩⟩
theorem twice_no {n : Nat} {r : List Int} (h : 1 < n) : (invX (List.replicate n r)).2 = false := by
  rw [invX_no]
  rintro ⟨Y, _, _, _, _, hY⟩
  rw [List.length_replicate] at hY
  refine W.twin_none (n := n) (p := 0) (q := 1) (by omega) h (by omega) (fun j _ => ?_) hY
  have e : ∀ i, i < n → (List.replicate n r).getD i [] = r := fun i hi => by simp [List.getD, hi]
  rw [mx_is, mx_is, e 0 (by omega), e 1 h]
theorem inv_one {n : Nat} {X R : List (List Int)} (h : Sq n X) (h1 : 1 ≤ n) (h8 : n ≤ 8) (hR : IsInv X R) : Sq n R ∧ mulX X R = oneX (n : Int) ∧ mulX R X = oneX (n : Int) := by
  obtain ⟨_, q1, q2⟩ := mx_one h1 h8
  obtain ⟨_, _, s, l1, l2⟩ := hR
  rw [h.len] at s l1 l2
  exact ⟨s, mulX_is h s q1 h1 h8 (l2.trans q2), mulX_is s h q1 h1 h8 (l1.trans q2)⟩
theorem invX_true {X R : List (List Int)} (h : invX X = (R, true)) : IsInv X R := by
  by_cases hx : ∃ Y, IsInv X Y
  · obtain ⟨Y, hY⟩ := hx
    rw [invX_yes hY] at h
    simp at h
    rw [← h]; exact hY
  · rw [invX_no hx] at h; simp at h
theorem invX_false {X R : List (List Int)} (h : invX X = (R, false)) : R = [] := by
  by_cases hx : ∃ Y, IsInv X Y
  · obtain ⟨Y, hY⟩ := hx
    rw [invX_yes hY] at h; simp at h
  · rw [invX_no hx] at h; simp at h; exact h
set_option maxRecDepth 100000 in
set_option maxHeartbeats 4000000 in
theorem inverses_walk (h : ∀ (w : World) (v : Value) (X : List (List Int)) (lo hi : Nat), MSee w v X lo hi → MFit X → Calls Try.prog 18 #[v] w fun e w' => InvPost X w e w') (a : Option Addr) (len cap : Nat) (w : World) (hcode : CodeAt w w.heap.size a len) :
    Calls Try.prog 4 #[.slice a len cap] w fun e w' => e = .returned (.bool true) ∧ Below w.heap.size w w' := by
  obtain ⟨i0, hi0, hz0, hz1, hz2⟩ := info_parts infoRow
  have hbig : decide ((1048576 : Int) < (len : Int)) = false := by have := hcode.1; simp; omega
  have HC : Hid (CodeAt w w.heap.size a len) := hcode
  have HH := Shut.mk h
  clear hcode h
  go_enter Try.func4, Try.ntmps4
  go_wp2_with fail
  refine (big_any a len cap _).mono ?_
  rintro e w1 ⟨rfl, hw1⟩
  obtain rfl : w = w1 := hw1.symm
  clear hw1
  rw [hbig]
  go_wp2_with fail
  refine (drawSquares_any _ a len cap HC.out).mono ?_
  rintro e w1 ⟨n, v1, v2, v3, X, Y, Z, rfl, hn1, hn3, hX, _, _, f1, _, _, hb1⟩
  obtain ⟨p1, c1, rfl⟩ := f1.form
  rw [hX.len] at f1 ⊢
  have n8 : n ≤ 8 := by omega
  have HN := Shut.mk hX
  have FX := Shut.mk f1.see
  have HB := Shut.mk hb1
  have hfX := Shut.mk (hX.fit n8)
  obtain ⟨R, ok, hre⟩ : ∃ R ok, invX X = (R, ok) := ⟨_, _, rfl⟩
  have HRE := Shut.mk hre
  have HFR : Shut (MFit R) := ⟨by have := fit_inv X; rw [hre] at this; exact this⟩
  have hoo : (ok != ok) = false := by cases ok <;> rfl
  clear hX f1 hb1 hre
  have hre := HRE.out
  go_wp2_with fail
  refine (HH.out _ _ _ _ _ FX.out hfX.out).mono ?_
  rintro e w2 ⟨b, rfl, hA, hb⟩
  rw [hre] at hA
  rw [hre]
  have Fb := Shut.mk hA
  clear hA
  replace FX := Shut.mk (FX.out.below hb)
  have z2 := hb.size
  replace HB := Shut.mk (HB.out.trans (hb.mono HB.out.size))
  clear hb
  clear hre
  have hre := HRE.out
  go_wp2_with fail
  refine (specInvM FX.out hfX.out).mono ?_
  rintro e w3 ⟨c, rfl, hA, hb⟩
  rw [hre] at hA
  rw [hre]
  have Fc := Shut.mk hA
  clear hA
  replace FX := Shut.mk (FX.out.below hb)
  replace Fb := Shut.mk (Fb.out.below hb)
  have z3 := hb.size
  replace HB := Shut.mk (HB.out.trans (hb.mono HB.out.size))
  clear hb
  clear hre
  go_wp2_with fail
  refine (sameMatrix_val Fb.out.see Fc.out.see HFR.out).mono ?_
  rintro e w4 ⟨rfl, hb⟩
  replace FX := Shut.mk (FX.out.below hb)
  replace Fb := Shut.mk (Fb.out.below hb)
  replace Fc := Shut.mk (Fc.out.below hb)
  have z4 := hb.size
  replace HB := Shut.mk (HB.out.trans (hb.mono HB.out.size))
  clear hb
  clear Fc
  go_wp2_with fail
  refine (specOneM (n : Int) _).mono ?_
  rintro e w5 ⟨o, rfl, hA, hb⟩
  have Fo := Shut.mk hA
  clear hA
  replace FX := Shut.mk (FX.out.below hb)
  replace Fb := Shut.mk (Fb.out.below hb)
  have z5 := hb.size
  replace HB := Shut.mk (HB.out.trans (hb.mono HB.out.size))
  clear hb
  obtain ⟨b1, o1, loc, cp, rfl, lb, d0, hrr⟩ := FX.out.top HN.out hn1
  have HD := Shut.mk (And.intro lb (And.intro d0 hrr))
  have HTW : Shut ((X.getD 0 []).length = n ∧ ∀ y ∈ X.getD 0 [], 0 ≤ y ∧ y ≤ 255) := ⟨HN.out.at (by omega)⟩
  generalize X.getD 0 [] = r at HD HTW
  clear lb d0 hrr
  have HO5 : Shut ((w5.alloc (.cells #[] 33)).ownsRow w5.heap.size 33 1 (.slice (some ⟨w5.heap.size, 0, none⟩) 0 0) 0 []) := ⟨World.ownsRow_made w5 #[] 0 (Nat.le_refl _) (by decide) rfl⟩
  have HB5 : Shut (Below w5.heap.size w5 (w5.alloc (.cells #[] 33))) := ⟨(Below.refl _ _).alloc (Nat.le_refl _) _⟩
  have n0 : (0 : Int) < (n : Int) := by omega
  go_wp2_with fail
  go_loopw [11, 12] (fun v i wr => ∃ (k : Nat) (vv : Value), vv = v ∧ i = .int .i64 k ∧ k ≤ n ∧ Shut (wr.ownsRow w5.heap.size 33 1 vv k (List.replicate k (.slice loc n cp))) ∧ Shut (Below w5.heap.size w5 wr)) (fun _ i _ => n - (intOf i).toNat)
  case atStart => exact ⟨0, _, rfl, rfl, by omega, HO5, HB5⟩
  case round =>
    clear HO5 HB5
    obtain ⟨k, tw, rfl, rfl, hk, hown, hb⟩ := hrel
    obtain ⟨w6, rfl⟩ : ∃ w6, w6 = wr := ⟨_, rfl⟩
    have hb := hb.out
    have z6 := hb.size
    by_cases hlt : k < n
    · have hlt' : (k : Int) < (n : Int) := by omega
      have d0 := (hb.cell (p := ⟨b1, o1, none⟩) HD.out.1).trans HD.out.2.1
      have lb : b1 < w6.heap.size := Nat.lt_of_lt_of_le HD.out.1 z6
      have hown' := hown.out
      have HBL := Shut.mk hb
      clear hown hb
      go_wp2_with (at_builtin; refine wpList_append_own _ rfl _ _ 24 rfl w5.heap.size 33 i0 (.slice none 0 0) 1 24 Try.underlying24 hi0 hz0 hz1 hz2 rfl (by decide) _ _ _ rfl (hown'.alloc _) ⟨w6.heap.size, 0, none⟩ 1 1 [.slice loc n cp] rfl rfl (cell_one_new _ _ _) ?c2 ?c3 ?c4 ?c5 ?_)
      case c2 => first | rfl | (intro u hu; simp at hu; subst hu; rfl)
      case c3 => unfold maxLen; omega
      case c4 => omega
      case c5 => first | omega | (simp; omega)
      intro v' w7 hown7 hgrow _
      have e7 : List.replicate (k + 1) (Value.slice loc n cp) = List.replicate k (.slice loc n cp) ++ [.slice loc n cp] := List.replicate_succ'
      rw [← e7] at hown7
      have hb7 : Below w5.heap.size w5 w7 := (HBL.out.alloc z6 _).grown hgrow (by simp; omega) (fun j hj => (hown'.lt j hj).1)
      have HO7 := Shut.mk hown7
      have HB7 := Shut.mk hb7
      clear hgrow hown7 hb7 hown' e7
      go_wp2_with fail
      go_roundw
      case rel => exact ⟨k + 1, v', rfl, by go_num, by omega, HO7, HB7⟩
      case measure => simp [intOf]; omega
    · have e : k = n := by omega
      have hlt' : ¬ (k : Int) < (n : Int) := by omega
      have hown2 := hown.out
      rw [e] at hown2
      have FT := Shut.mk (twice_see hown2 hn1 (HD.out.2.2.below hb) HTW.out.1 (by omega))
      have hfT := Shut.mk ((twice_sq HTW.out.1 HTW.out.2).fit n8)
      clear hown hown2 e
      replace FX := Shut.mk (FX.out.below hb)
      replace Fb := Shut.mk (Fb.out.below hb)
      replace Fo := Shut.mk (Fo.out.below hb)
      have z6 := hb.size
      replace HB := Shut.mk (HB.out.trans (hb.mono HB.out.size))
      clear hb
      go_wp2_with fail
      refine (HH.out _ _ _ _ _ FT.out hfT.out).mono ?_
      rintro e w7 ⟨t7, rfl, _, hb⟩
      replace FX := Shut.mk (FX.out.below hb)
      replace Fb := Shut.mk (Fb.out.below hb)
      replace Fo := Shut.mk (Fo.out.below hb)
      replace FT := Shut.mk (FT.out.below hb)
      have z7 := hb.size
      replace HB := Shut.mk (HB.out.trans (hb.mono HB.out.size))
      clear hb
      by_cases h1n : 1 < n
      · have h1n' : (1 : Int) < (n : Int) := by omega
        rw [twice_no h1n]
        cases ok with
        | true =>
          have hI := invX_true HRE.out
          have hR := Shut.mk (inv_one HN.out hn1 n8 hI)
          have hfO := Shut.mk ((mx_one hn1 n8).2.1.fit n8)
          clear hI
          go_wp2_with fail
          refine (specMulM FX.out Fb.out.see hfX.out HFR.out).mono ?_
          rintro e w8 ⟨u1, rfl, hA, hb⟩
          have Fu1 := Shut.mk hA
          clear hA
          replace FX := Shut.mk (FX.out.below hb)
          replace Fb := Shut.mk (Fb.out.below hb)
          replace Fo := Shut.mk (Fo.out.below hb)
          replace FT := Shut.mk (FT.out.below hb)
          have z8 := hb.size
          replace HB := Shut.mk (HB.out.trans (hb.mono HB.out.size))
          clear hb
          rw [hR.out.2.1] at Fu1
          go_wp2_with fail
          refine (sameMatrix_val Fu1.out.see Fo.out.see hfO.out).mono ?_
          rintro e w9 ⟨rfl, hb⟩
          replace FX := Shut.mk (FX.out.below hb)
          replace Fb := Shut.mk (Fb.out.below hb)
          replace Fo := Shut.mk (Fo.out.below hb)
          replace FT := Shut.mk (FT.out.below hb)
          replace Fu1 := Shut.mk (Fu1.out.below hb)
          have z9 := hb.size
          replace HB := Shut.mk (HB.out.trans (hb.mono HB.out.size))
          clear hb
          go_wp2_with fail
          refine (specMulM Fb.out.see FX.out HFR.out hfX.out).mono ?_
          rintro e w10 ⟨u2, rfl, hA, hb⟩
          have Fu2 := Shut.mk hA
          clear hA
          replace FX := Shut.mk (FX.out.below hb)
          replace Fb := Shut.mk (Fb.out.below hb)
          replace Fo := Shut.mk (Fo.out.below hb)
          replace FT := Shut.mk (FT.out.below hb)
          replace Fu1 := Shut.mk (Fu1.out.below hb)
          have z10 := hb.size
          replace HB := Shut.mk (HB.out.trans (hb.mono HB.out.size))
          clear hb
          rw [hR.out.2.2] at Fu2
          go_wp2_with fail
          refine (sameMatrix_val Fu2.out.see Fo.out.see hfO.out).mono ?_
          rintro e w11 ⟨rfl, hb⟩
          replace FX := Shut.mk (FX.out.below hb)
          replace Fb := Shut.mk (Fb.out.below hb)
          replace Fo := Shut.mk (Fo.out.below hb)
          replace FT := Shut.mk (FT.out.below hb)
          replace Fu1 := Shut.mk (Fu1.out.below hb)
          replace Fu2 := Shut.mk (Fu2.out.below hb)
          have z11 := hb.size
          replace HB := Shut.mk (HB.out.trans (hb.mono HB.out.size))
          clear hb
          go_wp2_with fail
          go_ret
          exact ⟨rfl, HB.out⟩
        | false =>
          have hR := invX_false HRE.out
          subst hR
          obtain ⟨pb, cb, rfl⟩ := Fb.out.none
          go_wp2_with fail
          go_ret
          exact ⟨rfl, HB.out⟩
      · have h1n' : ¬ (1 : Int) < (n : Int) := by omega
        generalize (invX (List.replicate n r)).2 = no
        cases ok with
        | true =>
          have hI := invX_true HRE.out
          have hR := Shut.mk (inv_one HN.out hn1 n8 hI)
          have hfO := Shut.mk ((mx_one hn1 n8).2.1.fit n8)
          clear hI
          go_wp2_with fail
          refine (specMulM FX.out Fb.out.see hfX.out HFR.out).mono ?_
          rintro e w8 ⟨u1, rfl, hA, hb⟩
          have Fu1 := Shut.mk hA
          clear hA
          replace FX := Shut.mk (FX.out.below hb)
          replace Fb := Shut.mk (Fb.out.below hb)
          replace Fo := Shut.mk (Fo.out.below hb)
          replace FT := Shut.mk (FT.out.below hb)
          have z8 := hb.size
          replace HB := Shut.mk (HB.out.trans (hb.mono HB.out.size))
          clear hb
          rw [hR.out.2.1] at Fu1
          go_wp2_with fail
          refine (sameMatrix_val Fu1.out.see Fo.out.see hfO.out).mono ?_
          rintro e w9 ⟨rfl, hb⟩
          replace FX := Shut.mk (FX.out.below hb)
          replace Fb := Shut.mk (Fb.out.below hb)
          replace Fo := Shut.mk (Fo.out.below hb)
          replace FT := Shut.mk (FT.out.below hb)
          replace Fu1 := Shut.mk (Fu1.out.below hb)
          have z9 := hb.size
          replace HB := Shut.mk (HB.out.trans (hb.mono HB.out.size))
          clear hb
          go_wp2_with fail
          refine (specMulM Fb.out.see FX.out HFR.out hfX.out).mono ?_
          rintro e w10 ⟨u2, rfl, hA, hb⟩
          have Fu2 := Shut.mk hA
          clear hA
          replace FX := Shut.mk (FX.out.below hb)
          replace Fb := Shut.mk (Fb.out.below hb)
          replace Fo := Shut.mk (Fo.out.below hb)
          replace FT := Shut.mk (FT.out.below hb)
          replace Fu1 := Shut.mk (Fu1.out.below hb)
          have z10 := hb.size
          replace HB := Shut.mk (HB.out.trans (hb.mono HB.out.size))
          clear hb
          rw [hR.out.2.2] at Fu2
          go_wp2_with fail
          refine (sameMatrix_val Fu2.out.see Fo.out.see hfO.out).mono ?_
          rintro e w11 ⟨rfl, hb⟩
          replace FX := Shut.mk (FX.out.below hb)
          replace Fb := Shut.mk (Fb.out.below hb)
          replace Fo := Shut.mk (Fo.out.below hb)
          replace FT := Shut.mk (FT.out.below hb)
          replace Fu1 := Shut.mk (Fu1.out.below hb)
          replace Fu2 := Shut.mk (Fu2.out.below hb)
          have z11 := hb.size
          replace HB := Shut.mk (HB.out.trans (hb.mono HB.out.size))
          clear hb
          go_wp2_with fail
          go_ret
          exact ⟨rfl, HB.out⟩
        | false =>
          have hR := invX_false HRE.out
          subst hR
          obtain ⟨pb, cb, rfl⟩ := Fb.out.none
          go_wp2_with fail
          go_ret
          exact ⟨rfl, HB.out⟩
end Go.Proofs.Ytdpcndbfbmphjaa
