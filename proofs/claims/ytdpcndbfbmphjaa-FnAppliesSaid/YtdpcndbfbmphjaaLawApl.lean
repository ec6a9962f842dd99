/- The law FnApplies, over what is told of the program's own ApplyM (written by gen/mklawapl.py). -/
import Derived.Test.YtdpcndbfbmphjaaUnA
import Derived.Test.YtdpcndbfbmphjaaLawInv
import Derived.Test.YtdpcndbfbmphjaaStrW
import Derived.Test.YtdpcndbfbmphjaaFrT
namespace Go.Proofs.Ytdpcndbfbmphjaa
open Go.RowKit
open W (B8 Mx)
attribute [local go_sem ↓] Go.wp_at_zero Go.wp_at_succ
attribute [local irreducible] W.gm W.xs W.mm W.gi

theorem sameTexts_val {w : World} {v u : Value} {L : List ByteArray} {lo hi lo' hi' : Nat} (h : SAns w v L lo hi) (k : SAns w u L lo' hi') (hf : L.length ≤ 1000000) : Calls Try.prog 23 #[v, u] w fun e w' => e = .returned (.bool true) ∧ Below w.heap.size w w' := by
  obtain ⟨a, cap, rfl, h1⟩ := h.srow
  obtain ⟨b, cap', rfl, h2⟩ := k.srow
  refine (sameTexts_any a b L L cap cap' w h1 h2 (by omega) (by omega)).mono ?_
  rintro e w' ⟨rfl, q, rfl⟩
  exact ⟨by unfold eqS; simp, ⟨rfl, rfl, rfl, Nat.le_refl _, fun _ _ => rfl⟩⟩
theorem SAns.form {w : World} {v : Value} {L : List ByteArray} {lo hi : Nat} (h : SAns w v L lo hi) : ∃ a cap, v = .slice a L.length cap := by
  obtain ⟨a, cap, e, _⟩ := h
  exact ⟨a, cap, e⟩
theorem SAns.none {w : World} {v : Value} {lo hi : Nat} (h : SAns w v [] lo hi) : ∃ a cap, v = .slice a 0 cap := h.form
theorem SSee.nil (w : World) (a : Option Addr) (cap lo hi : Nat) : SSee w (.slice a 0 cap) [] lo hi := ⟨a, cap, rfl, fun h => by simp [tv] at h⟩
theorem tsum_rep {L : List ByteArray} {s : Nat} (h : ∀ x ∈ L, x.size ≤ s) : tsum L ≤ L.length * s := by
  induction L with
  | nil => simp [tsum]
  | cons x L ih =>
    have h1 := h x (by simp)
    have h2 := ih (fun y hy => h y (by simp [hy]))
    simp only [tsum, List.length_cons, Nat.add_mul]
    omega
theorem Un.fit {n s : Nat} {L : List ByteArray} (h : Un n s L) (hn : n ≤ 8) (hs : s ≤ 9) : TFit L := by
  have h1 := tsum_rep (fun x hx => Nat.le_of_eq (h.size x hx))
  have h2 : L.length * s ≤ 8 * 9 := Nat.mul_le_mul (by rw [h.len]; exact hn) hs
  have := h.len
  unfold TFit
  omega
/-- Units out of a list, over and over. -/
def overL (L : List ByteArray) (k n : Nat) : List ByteArray := (List.range n).map fun i => L.getD (i % k) ⟨#[]⟩
theorem over_un {k s n : Nat} {L : List ByteArray} (h : Un k s L) (hk : 0 < k) : Un n s (overL L k n) := ⟨by simp [overL], fun x hx => by
  obtain ⟨i, _, rfl⟩ := List.mem_map.1 hx
  exact h.at (Nat.mod_lt i hk)⟩
theorem over_snoc (L : List ByteArray) (k n : Nat) : overL L k (n + 1) = overL L k n ++ [L.getD (n % k) ⟨#[]⟩] := by unfold overL; rw [List.range_succ, List.map_append]; rfl
set_option maxRecDepth 100000 in
set_option maxHeartbeats 4000000 in
theorem applies_walk (h : ∀ (w : World) (v u : Value) (X : List (List Int)) (L : List ByteArray) (lo hi lo' hi' : Nat), MSee w v X lo hi → SSee w u L lo' hi' → MFit X → TFit L → Calls Try.prog 22 #[v, u] w fun e w' => SPost (appX X L) w e w') (a : Option Addr) (len cap : Nat) (w : World) (hcode : CodeAt w w.heap.size a len) :
    Calls Try.prog 5 #[.slice a len cap] w fun e w' => e = .returned (.bool true) ∧ Below w.heap.size w w' := by
  obtain ⟨i0, hi0, hz0, hz1, hz2⟩ := info_parts infoTextG
  have hbig : decide ((1048576 : Int) < (len : Int)) = false := by have := hcode.1; simp; omega
  have HC : Hid (CodeAt w w.heap.size a len) := hcode
  have HH := Shut.mk h
  clear hcode h
  go_enter Try.func5, Try.ntmps5
  go_wp2_with fail
  refine (big_any a len cap _).mono ?_
  rintro e w1 ⟨rfl, hw1⟩
  obtain rfl : w = w1 := hw1.symm
  clear hw1
  rw [hbig]
  go_wp2_with fail
  refine (drawSquares_any _ a len cap HC.out).mono ?_
  rintro e w1 ⟨n, v1, v2, v3, X, Y, Z, rfl, hn1, hn3, hX, hY, _, f1, f2, _, hb1⟩
  obtain ⟨p1, c1, rfl⟩ := f1.form
  rw [hX.len] at f1 ⊢
  have n8 : n ≤ 8 := by omega
  have FX := Shut.mk f1.see
  have FY := Shut.mk f2.see
  have HB := Shut.mk hb1
  have hfX := Shut.mk (hX.fit n8)
  have hfY := Shut.mk (hY.fit n8)
  have HN := Shut.mk (And.intro hX hY)
  have HC2 : Hid (CodeAt w1 w1.heap.size a len) := ⟨HC.out.1, fun h => by obtain ⟨b, off, e1, e2, e3⟩ := (HC.out.below hb1 (Nat.le_refl _)).2 h; exact ⟨b, off, e1, by have := hb1.size; omega, e3⟩⟩
  clear f1 f2 hb1 hX hY
  go_wp2_with fail
  refine (drawUnits_any _ a len cap HC2.out).mono ?_
  rintro e w2 ⟨xs, k, s, v4, L, rfl, _, hk2, hk4, hs9, hL, f4, hb⟩
  have F4 := Shut.mk f4
  have HL := Shut.mk hL
  clear f4 hL HC2
  replace FX := Shut.mk (FX.out.below hb)
  replace FY := Shut.mk (FY.out.below hb)
  have z2 := hb.size
  replace HB := Shut.mk (HB.out.trans (hb.mono HB.out.size))
  clear hb
  obtain ⟨pl, cl, hf4⟩ := F4.out.form
  have hll := HL.out.len
  rw [hll] at hf4
  subst hf4
  obtain ⟨b4, o4, rfl, lb4, hc4⟩ : ∃ b o, pl = some ⟨b, o, none⟩ ∧ b < w2.heap.size ∧ ∀ j, j < k → w2.cell? ⟨b, o + j, none⟩ = some (.string (L.getD j ⟨#[]⟩)) := by
    obtain ⟨a', c', e', hr'⟩ := F4.out.see
    simp only [Value.slice.injEq] at e'
    obtain ⟨rfl, _, _⟩ := e'
    obtain ⟨b, o, e1, e2, e3⟩ := units_in hr' (by omega)
    exact ⟨b, o, e1, e2, fun j hj => e3 j (by omega)⟩
  have HD := Shut.mk (And.intro lb4 hc4)
  clear lb4 hc4 hll
  have HO2 : Shut ((w2.alloc (.cells #[] 9)).ownsRow w2.heap.size 9 1 (.slice (some ⟨w2.heap.size, 0, none⟩) 0 0) 0 (tv (overL L k 0))) := ⟨World.ownsRow_made w2 #[] 0 (Nat.le_refl _) (by decide) rfl⟩
  have HB2 : Shut (Below w2.heap.size w2 (w2.alloc (.cells #[] 9))) := ⟨(Below.refl _ _).alloc (Nat.le_refl _) _⟩
  have kne : (k : Int) ≠ 0 := by omega
  go_wp2_with fail
  go_loopw [8, 9] (fun v i wr => ∃ (t : Nat) (vv : Value), vv = v ∧ i = .int .i64 t ∧ t ≤ n ∧ Shut (wr.ownsRow w2.heap.size 9 1 vv t (tv (overL L k t))) ∧ Shut (Below w2.heap.size w2 wr)) (fun _ i _ => n - (intOf i).toNat)
  case atStart => exact ⟨0, _, rfl, rfl, by omega, HO2, HB2⟩
  case round =>
    clear HO2 HB2
    obtain ⟨t, us, rfl, rfl, ht, hown, hb⟩ := hrel
    obtain ⟨w3, rfl⟩ : ∃ w3, w3 = wr := ⟨_, rfl⟩
    have hb := hb.out
    have z3 := hb.size
    by_cases hlt : t < n
    · have hlt' : (t : Int) < (n : Int) := by omega
      obtain ⟨q, hq⟩ : ∃ q, q = t % k := ⟨_, rfl⟩
      have hqk : q < k := by rw [hq]; exact Nat.mod_lt t (by omega)
      have m1 : (t : Int) % (k : Int) = (q : Int) := by rw [hq]; rfl
      have m2 : (t : Int).tmod (k : Int) = (q : Int) := by rw [Int.tmod_eq_emod_of_nonneg (by omega)]; exact m1
      have q0 : (0 : Int) ≤ (q : Int) := by omega
      have q1 : (q : Int) < (k : Int) := by omega
      have d0 := (hb.cell (p := ⟨b4, o4 + q, none⟩) HD.out.1).trans (HD.out.2 q hqk)
      have lb : b4 < w3.heap.size := Nat.lt_of_lt_of_le HD.out.1 z3
      have HSN : Shut (tv (overL L k (t + 1)) = tv (overL L k t) ++ [.string (L.getD q ⟨#[]⟩)]) := ⟨by rw [over_snoc, ← tv_snoc, hq]⟩
      generalize L.getD q ⟨#[]⟩ = u at *
      have hown' := hown.out
      have HBL := Shut.mk hb
      clear hown hb hq
      go_wp2_with (at_builtin; refine wpList_append_own _ rfl _ _ 34 rfl w2.heap.size 9 i0 (.string ⟨#[]⟩) 1 16 Try.underlying34 hi0 hz0 hz1 hz2 rfl (by decide) _ _ _ rfl (hown'.alloc _) ⟨w3.heap.size, 0, none⟩ 1 1 [.string u] rfl rfl (cell_one_new _ _ _) ?c2 ?c3 ?c4 ?c5 ?_)
      case c2 => first | rfl | (intro u hu; simp at hu; subst hu; rfl)
      case c3 => unfold maxLen; omega
      case c4 => omega
      case c5 => first | omega | (simp; omega)
      intro v' w7 hown7 hgrow _
      rw [← HSN.out] at hown7
      have hb7 : Below w2.heap.size w2 w7 := (HBL.out.alloc z3 _).grown hgrow (by simp; omega) (fun j hj => (hown'.lt j hj).1)
      have HO7 := Shut.mk hown7
      have HB7 := Shut.mk hb7
      clear hgrow hown7 hb7 hown' HSN
      go_wp2_with fail
      go_roundw
      case rel => exact ⟨t + 1, v', rfl, by go_num, by omega, HO7, HB7⟩
      case measure => simp [intOf]; omega
    · have e : t = n := by omega
      have hlt' : ¬ (t : Int) < (n : Int) := by omega
      have hown2 := hown.out
      rw [e] at hown2
      have hU := over_un (n := n) HL.out (show 0 < k by omega)
      have FU := Shut.mk (own_sans hU.len hown2)
      obtain ⟨pu, cu, rfl⟩ := FU.out.form
      have hul := hU.len
      rw [hul] at FU ⊢
      generalize overL L k n = U at *
      have hfU := Shut.mk (hU.fit n8 hs9)
      obtain ⟨R, ok, hre⟩ : ∃ R ok, invX X = (R, ok) := ⟨_, _, rfl⟩
      have HRE := Shut.mk hre
      have HFR : Shut (MFit R) := ⟨by have := fit_inv X; rw [hre] at this; exact this⟩
      have hXY := Shut.mk (mulX_sq' HN.out.1 HN.out.2 hn1 n8).1
      have hYU := Shut.mk (app_is HN.out.2 hU hn1 n8).1
      have hXU := Shut.mk (app_is HN.out.1 hU hn1 n8).1
      have hXYU := Shut.mk (app_is HN.out.1 hYU.out hn1 n8).1
      have hAM := Shut.mk (app_mul HN.out.1 HN.out.2 hU hn1 n8)
      have hA1 := Shut.mk (app_one hU hn1 n8)
      have hA0 := Shut.mk (app_none HN.out.1 hn1 n8)
      have hO := Shut.mk ((mx_one hn1 n8).2.1.fit n8)
      have hBK : Shut (ok = true → appX R (appX X U) = U) := ⟨fun h => by subst h; obtain ⟨s1, _, s3⟩ := inv_one HN.out.1 hn1 n8 (invX_true hre); exact app_back HN.out.1 s1 s3 hU hn1 n8⟩
      have hnn : ((n : Int) == (n : Int)) = true := by simp
      have hun1 : U.length ≤ 1000000 := by omega
      have HUL := Shut.mk hul
      clear hown hown2 e hU hre hul
      replace FX := Shut.mk (FX.out.below hb)
      replace FY := Shut.mk (FY.out.below hb)
      replace F4 := Shut.mk (F4.out.below hb)
      have z3 := hb.size
      replace HB := Shut.mk (HB.out.trans (hb.mono HB.out.size))
      clear hb
      have z4 := z3
      go_wp2_with fail
      refine (specMulM FX.out FY.out hfX.out hfY.out).mono ?_
      rintro e w4 ⟨t1, rfl, hA, hb⟩
      have Ft1 := Shut.mk hA
      clear hA
      replace FX := Shut.mk (FX.out.below hb)
      replace FY := Shut.mk (FY.out.below hb)
      replace F4 := Shut.mk (F4.out.below hb)
      replace FU := Shut.mk (FU.out.below hb)
      have z4 := hb.size
      replace HB := Shut.mk (HB.out.trans (hb.mono HB.out.size))
      clear hb
      go_wp2_with fail
      refine (HH.out _ _ _ _ _ _ _ _ _ Ft1.out.see FU.out.see (hXY.out.fit n8) hfU.out).mono ?_
      rintro e w5 ⟨x, rfl, hA, hb⟩
      have Fx := Shut.mk hA
      clear hA
      replace FX := Shut.mk (FX.out.below hb)
      replace FY := Shut.mk (FY.out.below hb)
      replace F4 := Shut.mk (F4.out.below hb)
      replace FU := Shut.mk (FU.out.below hb)
      replace Ft1 := Shut.mk (Ft1.out.below hb)
      have z5 := hb.size
      replace HB := Shut.mk (HB.out.trans (hb.mono HB.out.size))
      clear hb
      clear Ft1
      rw [hAM.out] at Fx
      obtain ⟨px, cx, rfl⟩ := Fx.out.form
      have hxl := hXYU.out.len
      rw [hxl] at Fx ⊢
      clear hxl
      go_wp2_with fail
      refine (HH.out _ _ _ _ _ _ _ _ _ FY.out FU.out.see hfY.out hfU.out).mono ?_
      rintro e w6 ⟨y1, rfl, hA, hb⟩
      have Fy1 := Shut.mk hA
      clear hA
      replace FX := Shut.mk (FX.out.below hb)
      replace FY := Shut.mk (FY.out.below hb)
      replace F4 := Shut.mk (F4.out.below hb)
      replace FU := Shut.mk (FU.out.below hb)
      replace Fx := Shut.mk (Fx.out.below hb)
      have z6 := hb.size
      replace HB := Shut.mk (HB.out.trans (hb.mono HB.out.size))
      clear hb
      go_wp2_with fail
      refine (HH.out _ _ _ _ _ _ _ _ _ FX.out Fy1.out.see hfX.out (hYU.out.fit n8 hs9)).mono ?_
      rintro e w7 ⟨y, rfl, hA, hb⟩
      have Fy := Shut.mk hA
      clear hA
      replace FX := Shut.mk (FX.out.below hb)
      replace FY := Shut.mk (FY.out.below hb)
      replace F4 := Shut.mk (F4.out.below hb)
      replace FU := Shut.mk (FU.out.below hb)
      replace Fx := Shut.mk (Fx.out.below hb)
      replace Fy1 := Shut.mk (Fy1.out.below hb)
      have z7 := hb.size
      replace HB := Shut.mk (HB.out.trans (hb.mono HB.out.size))
      clear hb
      clear Fy1
      have hre := HRE.out
      go_wp2_with fail
      refine (specInvM FX.out hfX.out).mono ?_
      rintro e w8 ⟨iv, rfl, hA, hb⟩
      rw [hre] at hA
      rw [hre]
      have Fiv := Shut.mk hA
      clear hA
      replace FX := Shut.mk (FX.out.below hb)
      replace FY := Shut.mk (FY.out.below hb)
      replace F4 := Shut.mk (F4.out.below hb)
      replace FU := Shut.mk (FU.out.below hb)
      replace Fx := Shut.mk (Fx.out.below hb)
      replace Fy := Shut.mk (Fy.out.below hb)
      have z8 := hb.size
      replace HB := Shut.mk (HB.out.trans (hb.mono HB.out.size))
      clear hb
      clear hre
      go_wp2_with fail
      refine (HH.out _ _ _ _ _ _ _ _ _ FX.out FU.out.see hfX.out hfU.out).mono ?_
      rintro e w9 ⟨b1, rfl, hA, hb⟩
      have Fb1 := Shut.mk hA
      clear hA
      replace FX := Shut.mk (FX.out.below hb)
      replace FY := Shut.mk (FY.out.below hb)
      replace F4 := Shut.mk (F4.out.below hb)
      replace FU := Shut.mk (FU.out.below hb)
      replace Fx := Shut.mk (Fx.out.below hb)
      replace Fy := Shut.mk (Fy.out.below hb)
      replace Fiv := Shut.mk (Fiv.out.below hb)
      have z9 := hb.size
      replace HB := Shut.mk (HB.out.trans (hb.mono HB.out.size))
      clear hb
      go_wp2_with fail
      refine (HH.out _ _ _ _ _ _ _ _ _ Fiv.out.see Fb1.out.see HFR.out (hXU.out.fit n8 hs9)).mono ?_
      rintro e w10 ⟨bk, rfl, hA, hb⟩
      have Fbk := Shut.mk hA
      clear hA
      replace FX := Shut.mk (FX.out.below hb)
      replace FY := Shut.mk (FY.out.below hb)
      replace F4 := Shut.mk (F4.out.below hb)
      replace FU := Shut.mk (FU.out.below hb)
      replace Fx := Shut.mk (Fx.out.below hb)
      replace Fy := Shut.mk (Fy.out.below hb)
      replace Fiv := Shut.mk (Fiv.out.below hb)
      replace Fb1 := Shut.mk (Fb1.out.below hb)
      have z10 := hb.size
      replace HB := Shut.mk (HB.out.trans (hb.mono HB.out.size))
      clear hb
      clear Fb1
      go_wp2_with fail
      refine (sameTexts_val Fx.out Fy.out (by have := hXYU.out.len; omega)).mono ?_
      rintro e w11 ⟨rfl, hb⟩
      replace FX := Shut.mk (FX.out.below hb)
      replace FY := Shut.mk (FY.out.below hb)
      replace F4 := Shut.mk (F4.out.below hb)
      replace FU := Shut.mk (FU.out.below hb)
      replace Fx := Shut.mk (Fx.out.below hb)
      replace Fy := Shut.mk (Fy.out.below hb)
      replace Fiv := Shut.mk (Fiv.out.below hb)
      replace Fbk := Shut.mk (Fbk.out.below hb)
      have z11 := hb.size
      replace HB := Shut.mk (HB.out.trans (hb.mono HB.out.size))
      clear hb
      cases ok with
      | true =>
        rw [hBK.out rfl] at Fbk
        go_wp2_with fail
        refine (sameTexts_val Fbk.out FU.out hun1).mono ?_
        rintro e w12 ⟨rfl, hb⟩
        replace FX := Shut.mk (FX.out.below hb)
        replace FY := Shut.mk (FY.out.below hb)
        replace F4 := Shut.mk (F4.out.below hb)
        replace FU := Shut.mk (FU.out.below hb)
        replace Fx := Shut.mk (Fx.out.below hb)
        replace Fy := Shut.mk (Fy.out.below hb)
        replace Fiv := Shut.mk (Fiv.out.below hb)
        replace Fbk := Shut.mk (Fbk.out.below hb)
        have z12 := hb.size
        replace HB := Shut.mk (HB.out.trans (hb.mono HB.out.size))
        clear hb
        go_wp2_with fail
        refine (specOneM (n : Int) _).mono ?_
        rintro e w13 ⟨o, rfl, hA, hb⟩
        have Fo := Shut.mk hA
        clear hA
        replace FX := Shut.mk (FX.out.below hb)
        replace FY := Shut.mk (FY.out.below hb)
        replace F4 := Shut.mk (F4.out.below hb)
        replace FU := Shut.mk (FU.out.below hb)
        replace Fx := Shut.mk (Fx.out.below hb)
        replace Fy := Shut.mk (Fy.out.below hb)
        replace Fiv := Shut.mk (Fiv.out.below hb)
        replace Fbk := Shut.mk (Fbk.out.below hb)
        have z13 := hb.size
        replace HB := Shut.mk (HB.out.trans (hb.mono HB.out.size))
        clear hb
        go_wp2_with fail
        refine (HH.out _ _ _ _ _ _ _ _ _ Fo.out.see FU.out.see hO.out hfU.out).mono ?_
        rintro e w14 ⟨ou, rfl, hA, hb⟩
        have Fou := Shut.mk hA
        clear hA
        replace FX := Shut.mk (FX.out.below hb)
        replace FY := Shut.mk (FY.out.below hb)
        replace F4 := Shut.mk (F4.out.below hb)
        replace FU := Shut.mk (FU.out.below hb)
        replace Fx := Shut.mk (Fx.out.below hb)
        replace Fy := Shut.mk (Fy.out.below hb)
        replace Fiv := Shut.mk (Fiv.out.below hb)
        replace Fbk := Shut.mk (Fbk.out.below hb)
        replace Fo := Shut.mk (Fo.out.below hb)
        have z14 := hb.size
        replace HB := Shut.mk (HB.out.trans (hb.mono HB.out.size))
        clear hb
        rw [hA1.out] at Fou
        go_wp2_with fail
        refine (sameTexts_val Fou.out FU.out hun1).mono ?_
        rintro e w15 ⟨rfl, hb⟩
        replace FX := Shut.mk (FX.out.below hb)
        replace FY := Shut.mk (FY.out.below hb)
        replace F4 := Shut.mk (F4.out.below hb)
        replace FU := Shut.mk (FU.out.below hb)
        replace Fx := Shut.mk (Fx.out.below hb)
        replace Fy := Shut.mk (Fy.out.below hb)
        replace Fiv := Shut.mk (Fiv.out.below hb)
        replace Fbk := Shut.mk (Fbk.out.below hb)
        replace Fo := Shut.mk (Fo.out.below hb)
        replace Fou := Shut.mk (Fou.out.below hb)
        have z15 := hb.size
        replace HB := Shut.mk (HB.out.trans (hb.mono HB.out.size))
        clear hb
        have hba : Below w15.heap.size w15 (w15.alloc (.cells #[] 9)) := (Below.refl _ _).alloc (Nat.le_refl _) _
        go_wp2_with fail
        refine (HH.out _ _ _ _ _ _ _ _ _ (FX.out.below hba) (SSee.nil _ _ _ 0 0) hfX.out (by unfold TFit; simp [tsum])).mono ?_
        rintro e w16 ⟨zz, rfl, hZ, hb⟩
        rw [hA0.out] at hZ
        obtain ⟨pz, cz, rfl⟩ := hZ.none
        replace HB := Shut.mk ((HB.out.trans (hba.mono HB.out.size)).trans (hb.mono (by have := hba.size; have := HB.out.size; omega)))
        clear hZ hb hba
        go_wp2_with fail
        go_ret
        exact ⟨rfl, HB.out⟩
      | false =>
        go_wp2_with fail
        refine (specOneM (n : Int) _).mono ?_
        rintro e w12 ⟨o, rfl, hA, hb⟩
        have Fo := Shut.mk hA
        clear hA
        replace FX := Shut.mk (FX.out.below hb)
        replace FY := Shut.mk (FY.out.below hb)
        replace F4 := Shut.mk (F4.out.below hb)
        replace FU := Shut.mk (FU.out.below hb)
        replace Fx := Shut.mk (Fx.out.below hb)
        replace Fy := Shut.mk (Fy.out.below hb)
        replace Fiv := Shut.mk (Fiv.out.below hb)
        replace Fbk := Shut.mk (Fbk.out.below hb)
        have z12 := hb.size
        replace HB := Shut.mk (HB.out.trans (hb.mono HB.out.size))
        clear hb
        go_wp2_with fail
        refine (HH.out _ _ _ _ _ _ _ _ _ Fo.out.see FU.out.see hO.out hfU.out).mono ?_
        rintro e w13 ⟨ou, rfl, hA, hb⟩
        have Fou := Shut.mk hA
        clear hA
        replace FX := Shut.mk (FX.out.below hb)
        replace FY := Shut.mk (FY.out.below hb)
        replace F4 := Shut.mk (F4.out.below hb)
        replace FU := Shut.mk (FU.out.below hb)
        replace Fx := Shut.mk (Fx.out.below hb)
        replace Fy := Shut.mk (Fy.out.below hb)
        replace Fiv := Shut.mk (Fiv.out.below hb)
        replace Fbk := Shut.mk (Fbk.out.below hb)
        replace Fo := Shut.mk (Fo.out.below hb)
        have z13 := hb.size
        replace HB := Shut.mk (HB.out.trans (hb.mono HB.out.size))
        clear hb
        rw [hA1.out] at Fou
        go_wp2_with fail
        refine (sameTexts_val Fou.out FU.out hun1).mono ?_
        rintro e w14 ⟨rfl, hb⟩
        replace FX := Shut.mk (FX.out.below hb)
        replace FY := Shut.mk (FY.out.below hb)
        replace F4 := Shut.mk (F4.out.below hb)
        replace FU := Shut.mk (FU.out.below hb)
        replace Fx := Shut.mk (Fx.out.below hb)
        replace Fy := Shut.mk (Fy.out.below hb)
        replace Fiv := Shut.mk (Fiv.out.below hb)
        replace Fbk := Shut.mk (Fbk.out.below hb)
        replace Fo := Shut.mk (Fo.out.below hb)
        replace Fou := Shut.mk (Fou.out.below hb)
        have z14 := hb.size
        replace HB := Shut.mk (HB.out.trans (hb.mono HB.out.size))
        clear hb
        have hba : Below w14.heap.size w14 (w14.alloc (.cells #[] 9)) := (Below.refl _ _).alloc (Nat.le_refl _) _
        go_wp2_with fail
        refine (HH.out _ _ _ _ _ _ _ _ _ (FX.out.below hba) (SSee.nil _ _ _ 0 0) hfX.out (by unfold TFit; simp [tsum])).mono ?_
        rintro e w15 ⟨zz, rfl, hZ, hb⟩
        rw [hA0.out] at hZ
        obtain ⟨pz, cz, rfl⟩ := hZ.none
        replace HB := Shut.mk ((HB.out.trans (hba.mono HB.out.size)).trans (hb.mono (by have := hba.size; have := HB.out.size; omega)))
        clear hZ hb hba
        go_wp2_with fail
        go_ret
        exact ⟨rfl, HB.out⟩
end Go.Proofs.Ytdpcndbfbmphjaa
