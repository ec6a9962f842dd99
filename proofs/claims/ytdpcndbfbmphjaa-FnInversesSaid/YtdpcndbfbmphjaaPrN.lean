/- The program's own InvM. -/
import Derived.Test.YtdpcndbfbmphjaaPrL
import Derived.Test.YtdpcndbfbmphjaaMatH
namespace Go.Proofs.Ytdpcndbfbmphjaa
open Go.RowKit
open W (B8 Mx)
attribute [local go_sem ↓] Go.wp_at_zero Go.wp_at_succ
attribute [local irreducible] W.gm W.xs W.mm W.gi matOk invX

def InverseP (n : Nat) (X : List (List Int)) (w : World) (e : Ending) (w' : World) : Prop :=
  Below w.heap.size w w' ∧ ((∃ v K, e = .returned (.tuple #[v, .bool true]) ∧ KSee w' v (halfU n K) 0 w'.heap.size ∧ PuK n n (mx X) K) ∨ (e = .returned (.tuple #[.slice none 0 0, .bool false]) ∧ ¬ ∃ Y, IsInv X Y))
theorem toBs_row {X : List (List Int)} (h : matOk X = true) {i : Nat} (hi : i < X.length) : ((toBs X).getD i []).length = colsOf X := by
  have hi' : i < (toBs X).length := by rw [toBs_len]; exact hi
  have e : (toBs X).getD i [] = (toBs X)[i] := by simp [List.getD, hi']
  rw [e]
  exact toBs_rows h _ (List.getElem_mem hi')
theorem solv_start {n : Nat} {X : List (List Int)} {w : World} {v : Value} {lo hi : Nat} (h : KAns w v (besideU (toBs X) (onesU 1#8 n)) lo hi) (hX : matOk X = true) (hn : X.length = n) (hc : colsOf X = n) (hp : 1 ≤ n) : ∃ g cap ss, v = .slice (some ⟨g, 0, none⟩) n cap ∧ Solv n 0 (mx X) w w lo g ss := by
  obtain ⟨a, cap, ss, rfl, hr, _, q⟩ := h
  have hl : ss.length = n := by rw [← kws_len, hr, besideU_len, toBs_len]; exact hn
  rcases q with rfl | ⟨g, rfl, hm⟩
  · simp at hl; omega
  · refine ⟨g, cap, ss, by rw [hl], hl, hm.kx, ?_, Below.refl _ _⟩
    rw [hr, ← lf_toBs]
    exact PuK.start (by rw [toBs_len]; exact hn) (fun i hi => by rw [toBs_row hX (by omega)]; exact hc)
set_option maxRecDepth 100000 in
set_option maxHeartbeats 4000000 in
theorem implInverseM (n b1 o1 c1 : Nat) (X : List (List Int)) (w : World) (h1 : KAt w b1 o1 (toBs X) n) (hX : matOk X = true) (hn : X.length = n) (hc : colsOf X = n) (hn1 : 1 ≤ n) (hn8 : n ≤ 8) :
    Calls Try.prog 46 #[.slice (some ⟨b1, o1, none⟩) n c1, .int .u8 1] w fun e w' => InverseP n X w e w' := by
  have H1 := Shut.mk h1
  have HX := Shut.mk (And.intro hX (And.intro hn hc))
  have HC := Shut.mk (fun W => implOnes 1#8 n W hn1 hn8)
  clear h1 hX hn hc
  go_enter Try.func46, Try.ntmps46
  go_wp2_with fail
  refine (HC.out _).mono ?_
  rintro e w1 ⟨v1, rfl, ha1, hb1⟩
  obtain ⟨b2, o2, c2, rfl, k2⟩ := ha1.see.kat (m := n) (by simp [onesU]; omega) (fun r hr => by obtain ⟨i, _, rfl⟩ := List.mem_map.1 hr; exact oneU_len _ _ _) (by omega)
  have HB1 := Shut.mk hb1
  have HC2 := Shut.mk (implBeside (toBs X) (onesU 1#8 n) b1 o1 c1 b2 o2 c2 n w1 (H1.out.below hb1) k2 (by rw [toBs_len]; exact HX.out.2.1) (by simp [onesU]) (fun i hi => by rw [toBs_row HX.out.1 (by rw [HX.out.2.1]; exact hi)]; exact HX.out.2.2) (fun i hi => by rw [onesU_at hi, oneU_len]) hn1 hn8)
  rw [show (onesU 1#8 n).length = n by simp [onesU]]
  clear ha1 hb1 k2 HC
  go_wp2_with fail
  refine HC2.out.mono ?_
  rintro e w2 ⟨v2, rfl, ha2, hb2⟩
  obtain ⟨g, cap, ss, rfl, hS⟩ := solv_start ha2 HX.out.1 HX.out.2.1 HX.out.2.2 hn1
  have hs2 := hb2.size
  have hs1 := HB1.out.size
  have HB2 := Shut.mk (HB1.out.trans (hb2.mono hs1))
  have HC3 := Shut.mk (implSolve n w1.heap.size g cap X ss w2 hS HX.out.2.1 hn8 hs2)
  clear ha2 hb2 HC2 hS
  go_wp2_with fail
  refine HC3.out.mono ?_
  rintro e w3 ⟨hb3, ⟨rfl, ss3, hS3⟩ | ⟨rfl, hno⟩⟩
  · have HB3 := Shut.mk (HB2.out.trans (hb3.mono hs1))
    have HC4 := Shut.mk (implFrom n w1.heap.size g cap ss3 w3 hS3.kx hS3.len hS3.pu.row hn1 hn8)
    have HP := Shut.mk hS3.pu
    clear hb3 hS3 HC3
    go_wp2_with fail
    refine HC4.out.mono ?_
    rintro e w4 ⟨v4, rfl, hk4, hb4⟩
    have HR := Shut.mk (show InverseP n X w (.returned (.tuple #[v4, .bool true])) w4 from ⟨HB3.out.trans (hb4.mono HB3.out.size), .inl ⟨v4, _, rfl, hk4, HP.out⟩⟩)
    clear hk4 hb4 HC4
    go_wp2_with fail
    go_ret2
    exact HR.out
  · have HB3 := Shut.mk (HB2.out.trans (hb3.mono hs1))
    have HNO := Shut.mk hno
    clear hb3 hno HC3
    go_wp2_with fail
    go_ret2
    exact ⟨HB3.out, .inr ⟨rfl, HNO.out⟩⟩
set_option maxRecDepth 100000 in
set_option maxHeartbeats 4000000 in
theorem implInvM (w : World) (v : Value) (X : List (List Int)) (lo hi : Nat) (hv : MSee w v X lo hi) (fX : MFit X) :
    Calls Try.prog 18 #[v] w fun e w' => InvPost X w e w' := by
  have H1 := Shut.mk (implMatrixOk w v X lo hi hv fX)
  have HV := Shut.mk hv
  by_cases hX : matOk X = true
  · rw [hX] at H1
    obtain ⟨b, off, cap, loc, cp, rfl, lb, d⟩ := hv.head hX
    obtain ⟨⟨x1, x2⟩, ⟨x3, x4⟩, _⟩ := matOk_iff hX
    have n0 : (0 : Int) < (X.length : Int) := by omega
    have D := Shut.mk d
    by_cases hcol : colsOf X = X.length
    · have HOK := Shut.mk (And.intro hX hcol)
      rw [hcol] at D
      have e1 : ((X.length : Int) != (X.length : Int)) = false := by simp
      clear hv fX d hX hcol
      go_enter Try.func18, Try.ntmps18
      go_wp2_with fail
      refine H1.out.mono ?_
      rintro e w1 ⟨rfl, hb1⟩
      have HB1 := Shut.mk hb1
      have d1 := (hb1.cell (p := ⟨b, off, none⟩) lb).trans D.out
      have HC1 := Shut.mk (implMatrixOf w1 _ X lo hi (HV.out.below hb1) (matOk_ne HOK.out.1).1 (matOk_ne HOK.out.1).2)
      clear hb1
      go_wp2_with fail
      refine HC1.out.mono ?_
      rintro e w2 ⟨v2, rfl, ha2, hb2⟩
      obtain ⟨b2, o2, c2, rfl, k2⟩ := ha2.see.kat (by rw [toBs_len]; omega) (toBs_rows HOK.out.1) (by omega)
      have HB2 := Shut.mk (HB1.out.trans (hb2.mono HB1.out.size))
      have HC2 := Shut.mk (implInverseM X.length b2 o2 c2 X w2 (by rw [← HOK.out.2]; exact k2) HOK.out.1 rfl HOK.out.2 x1 x2)
      rw [toBs_len]
      clear ha2 hb2 k2 HC1 d1
      go_wp2_with fail
      refine HC2.out.mono ?_
      rintro e w3 ⟨hb3, ⟨v3, K, rfl, hk3, hp3⟩ | ⟨rfl, hno⟩⟩
      · have HB3 := Shut.mk (HB2.out.trans (hb3.mono HB2.out.size))
        have hinv := hp3.done HOK.out.1 rfl HOK.out.2
        have HINV := Shut.mk (invX_yes hinv)
        have hlK := hp3.len
        have HC3 := Shut.mk (implIntsOf w3 v3 (halfU X.length K) _ _ hk3 (fun r hr => by
          obtain ⟨r', hr', rfl⟩ := List.mem_map.1 hr
          obtain ⟨i, hi, rfl⟩ := List.mem_iff_getElem.1 hr'
          have e : K.getD i [] = K[i] := by simp [List.getD, hi]
          have := hp3.row i (by omega)
          rw [e] at this
          have hl : (K[i].drop X.length).length = X.length := by rw [List.length_drop, this]; omega
          exact ⟨fun e => by rw [e] at hl; simp at hl; omega, by omega⟩) (by unfold halfU; rw [List.length_map]; omega))
        clear hb3 hk3 hp3 hinv HC2 hlK
        go_wp2_with fail
        refine HC3.out.mono ?_
        rintro e w4 ⟨v4, rfl, ha4, hb4⟩
        have HR := Shut.mk (show InvPost X w (.returned (.tuple #[v4, .bool true])) w4 from ⟨v4, by rw [HINV.out], by rw [HINV.out]; exact ha4.broad HB3.out.size (Nat.le_refl _), HB3.out.trans (hb4.mono HB3.out.size)⟩)
        clear ha4 hb4 HC3
        go_wp2_with fail
        go_ret2
        exact HR.out
      · have HB3 := Shut.mk (HB2.out.trans (hb3.mono HB2.out.size))
        have HINV := Shut.mk (invX_no hno)
        have HC3 := Shut.mk (implIntsOf w3 (.slice none 0 0) [] 0 0 ⟨none, 0, [], rfl, rfl, KR.nil _ _ _ _⟩ (fun r hr => by simp at hr) (by simp))
        clear hb3 hno HC2
        go_wp2_with fail
        refine HC3.out.mono ?_
        rintro e w4 ⟨v4, rfl, ha4, hb4⟩
        have HR := Shut.mk (show InvPost X w (.returned (.tuple #[v4, .bool false])) w4 from ⟨v4, by rw [HINV.out], by rw [HINV.out]; exact ha4.broad HB3.out.size (Nat.le_refl _), HB3.out.trans (hb4.mono HB3.out.size)⟩)
        clear ha4 hb4 HC3
        go_wp2_with fail
        go_ret2
        exact HR.out
    · have HINV := Shut.mk (invX_no (X := X) (fun ⟨_, h⟩ => hcol h.2.1))
      have e1 : ((X.length : Int) != (colsOf X : Int)) = true := by rw [bne_iff_ne]; omega
      obtain ⟨c, hc⟩ : ∃ c, c = colsOf X := ⟨_, rfl⟩
      rw [← hc] at D e1
      clear hv fX d hX hcol hc
      go_enter Try.func18, Try.ntmps18
      go_wp2_with fail
      refine H1.out.mono ?_
      rintro e w1 ⟨rfl, hb1⟩
      have HB1 := Shut.mk hb1
      have d1 := (hb1.cell (p := ⟨b, off, none⟩) lb).trans D.out
      clear hb1
      go_wp2_with fail
      go_ret2
      exact invPost_no HINV.out rfl HB1.out
  · have hX' : matOk X = false := by simpa using hX
    rw [hX'] at H1
    have HINV := Shut.mk (invX_no (X := X) (fun ⟨_, h⟩ => hX h.1))
    clear hv fX hX hX'
    go_enter Try.func18, Try.ntmps18
    go_wp2_with fail
    refine H1.out.mono ?_
    rintro e w1 ⟨rfl, hb1⟩
    have HB1 := Shut.mk hb1
    clear hb1
    go_wp2_with fail
    go_ret2
    exact invPost_no HINV.out rfl HB1.out
end Go.Proofs.Ytdpcndbfbmphjaa
