/- The model's SizeOf, and its exact law over what is told of the program's. -/
import Derived.Test.YtendbipfmgnjkaaPzR
import Derived.Test.YtendbipfmgnjkaaSlG
import Derived.Test.YtendbipfmgnjkaaGenA
import Derived.Deep.CutRange
import Derived.Deep.Cut
namespace Go.Proofs.Ytendbipfmgnjkaa
set_option maxRecDepth 100000
open Go.RowKit BigFrame
attribute [local go_sem ↓] Go.wp_at_zero Go.wp_at_succ

/-- The last one of a group. -/
def sizeX (L : List PzM) (g : Int) : PzM := L.foldl (fun o x => if x.group = g then x else o) ⟨0, ⟨#[]⟩⟩
theorem sizeX_take {L : List PzM} {g : Int} {k : Nat} (hk : k < L.length) : sizeX (L.take (k + 1)) g = if L[k].group = g then L[k] else sizeX (L.take k) g := by
  unfold sizeX
  rw [List.take_succ_eq_append_getElem hk, List.foldl_append]
  rfl
set_option maxHeartbeats 2000000 in
set_option maxRecDepth 100000 in
theorem specSizeOf (L : List PzM) (a : Option Addr) (cap : Nat) (g : Int) (w : World) (hr : PzRow w a L) (hl : L.length ≤ 1048576) :
    Calls Try.prog 17 #[.slice a L.length cap, .int .i64 g] w fun e w' => e = .returned (pzv (sizeX L g)) ∧ Below w.heap.size w w' := by
  have HR := Shut.mk (fun (W : World) (hb : Below w.heap.size w W) => hr.stays hb)
  obtain ⟨n, hn⟩ : ∃ n, n = L.length := ⟨_, rfl⟩
  have HN := Shut.mk hn
  rw [← hn] at hl ⊢
  clear hr hn
  have HS := Shut.mk (((SL.start w).new #[.int .i64 0, .string ⟨#[]⟩] 56).new #[.int .i64 0, .string ⟨#[]⟩] 56)
  simp only [World.size_alloc] at HS
  obtain ⟨b1, hb1⟩ : ∃ q, q = w.heap.size := ⟨_, rfl⟩
  go_enter Try.func17, Try.ntmps17
  go_upto_region 2 with fail
  rw [← hb1] at HS
  refine wp_shade (fun W => SL w W [bxS (b1 + 1) [.int .i64 0, .string ⟨#[]⟩], bxS b1 [.int .i64 0, .string ⟨#[]⟩]]) HS.out ?_
  rw [← hb1]
  intro W0 hS0
  have H := Shut.mk hS0
  clear hS0 HS hb1
  go_wp2_with fail
  go_loopw [6] (fun i wr => ∃ (k : Nat) (x : PzM), i = .int .i64 (k : Nat) ∧ k ≤ n ∧ Shut (x = sizeX (L.take k) g) ∧ Shut (SL w wr [bxS (b1 + 1) [.int .i64 x.group, .string x.text], bxS b1 [.int .i64 0, .string ⟨#[]⟩]])) (fun i _ => n - (intOf i).toNat)
  case atStart => exact ⟨0, ⟨0, ⟨#[]⟩⟩, rfl, Nat.zero_le _, ⟨rfl⟩, H⟩
  case round =>
    clear H
    obtain ⟨k, x, rfl, hk, HX, H⟩ := hrel
    by_cases hlt : k < n
    · have hku : k < L.length := by rw [← HN.out]; exact hlt
      obtain ⟨b, off, rfl, lb, hc⟩ := PzRow.at (HR.out wr H.out.bel) (by omega)
      obtain ⟨d0, d1⟩ := hc k hku
      have HT := Shut.mk (sizeX_take (g := g) hku)
      obtain ⟨u, hu⟩ : ∃ u, u = L[k] := ⟨_, rfl⟩
      rw [← hu] at d0 d1 HT
      have k0 : (0 : Int) ≤ (k : Int) := by omega
      have k1 : (k : Int) < (n : Int) := by omega
      obtain ⟨y0, z0⟩ := H.out.bx 0 rfl 0 _ rfl
      obtain ⟨y1, z1⟩ := H.out.bx 0 rfl 1 _ rfl
      clear hc hu
      by_cases hg : u.group = g
      · have hg' : (u.group == g) = true := by simpa using hg
        have HX2 : Shut (u = sizeX (L.take (k + 1)) g) := ⟨by rw [HT.out, if_pos hg]⟩
        have HZ := Shut.mk ((H.out.put 0 rfl 0 (.int .i64 u.group) (by simp)).put 0 rfl 1 (.string u.text) (by simp))
        simp only [List.set_cons_zero, List.set_cons_succ] at HZ
        clear H HX hg
        go_wp2_with fail
        go_roundw
        case rel => exact ⟨k + 1, u, by go_num, by omega, HX2, HZ⟩
        case measure => simp [intOf]; omega
      · have hg' : (u.group == g) = false := by simpa using hg
        have HX2 : Shut (x = sizeX (L.take (k + 1)) g) := ⟨by rw [HT.out, if_neg hg, HX.out]⟩
        clear HX hg y0 y1 z0 z1
        go_wp2_with fail
        go_roundw
        case rel => exact ⟨k + 1, x, by go_num, by omega, HX2, H⟩
        case measure => simp [intOf]; omega
    · have e : k = L.length := by have := HN.out; omega
      have HX2 : Shut (x = sizeX L g) := ⟨by rw [HX.out, e, List.take_length]⟩
      have k9 : ¬ (k : Int) < (n : Int) := by omega
      have y0 := (H.out.bx 0 rfl 0 _ rfl).1
      have y1 := (H.out.bx 0 rfl 1 _ rfl).1
      obtain ⟨r0, s0⟩ := H.out.bx 1 rfl 0 _ rfl
      obtain ⟨r1, s1⟩ := H.out.bx 1 rfl 1 _ rfl
      have HZ := Shut.mk ((H.out.put 1 rfl 0 (.int .i64 x.group) (by simp)).put 1 rfl 1 (.string x.text) (by simp))
      go_wp2_with fail
      refine bodyPost_ret (v := pzv x) (by simp [results, Try.results17, go_sem, r0, r1]) rfl ?_
      exact ⟨by rw [HX2.out], HZ.out.bel⟩
set_option maxHeartbeats 4000000 in
set_option maxRecDepth 100000 in
theorem lawSizeOf (L : List PzM) (a : Option Addr) (cap : Nat) (g : Int) (R : PzM) (w : World) (hr : PzRow w a L) (hf : PzFits L)
    (hsp : L.length ≤ 1048576 → ∀ (W : World) (b : Option Addr) (c : Nat), PzRow W b L → Calls Try.prog 17 #[.slice b L.length c, .int .i64 g] W fun e w' => e = .returned (pzv R) ∧ Below W.heap.size W w')
    (him : L.length ≤ 1048576 → pzSum L ≤ 1048576 → ∀ (W : World) (b : Option Addr) (c : Nat), PzRow W b L → Below w.heap.size w W → Calls Try.prog 19 #[.slice b L.length c, .int .i64 g] W fun e w' => e = .returned (pzv R) ∧ Below W.heap.size W w') :
    Calls Try.prog 5 #[.slice a L.length cap, .int .i64 g] w fun e w' => e = .returned (.bool true) ∧ Below w.heap.size w w' := by
  have HSZ := Shut.mk (szSizeS_any a L cap 1048576 w hr hf (by omega) (by omega))
  have HTO := Shut.mk (fun (hl : L.length ≤ 1048576) (W : World) (hb : Below w.heap.size w W) => toSizeS_any a L cap W (hr.stays hb) hl)
  have HEQ := Shut.mk (fun (W : World) => eqSize_same R W)
  have HES := Shut.mk (fun (hl : L.length ≤ 1048576) (W : World) (b c : Option Addr) (cb cc : Nat) (h1 : PzRow W b L) (h2 : PzRow W c L) => eqSizeS_same b c L cb cc W h1 h2 (by omega))
  have HSP := Shut.mk hsp
  have HIM := Shut.mk him
  unfold ToPostPz at HTO
  obtain ⟨n, hn⟩ : ∃ n, n = L.length := ⟨_, rfl⟩
  rw [← hn] at HSZ HTO HES HSP HIM ⊢
  clear hr hf hsp him hn
  obtain ⟨rg, rt⟩ := R
  go_enter Try.func5, Try.ntmps5
  go_wp2_with fail
  refine HSZ.out.mono ?_
  rintro e w1 ⟨r, rfl, r0, r1, hb⟩
  have H := Shut.mk ((SL.start w).below hb)
  clear hb HSZ
  by_cases hq : r < 0
  · clear r1
    go_wp2_with fail
    go_ret
    exact ⟨rfl, H.out.bel⟩
  have hr1 := r1 (by omega)
  replace HTO := Shut.mk (HTO.out (by omega))
  replace HSP := Shut.mk (HSP.out (by omega))
  replace HIM := Shut.mk (HIM.out (by omega) (by omega))
  replace HES := Shut.mk (HES.out (by omega))
  clear r1 hr1 r0
  go_wp2_with fail
  refine (HTO.out _ H.out.bel).mono ?_
  rintro e w2 ⟨g1, rfl, h1, hwc, hb⟩
  replace H := Shut.mk (H.out.add (s := rwS (some ⟨g1, 0, none⟩) (pzS L) _ _) hb (.inr ⟨g1, rfl, h1, hwc.1, hwc⟩) (rwS.loc _ _ _ _) (Nat.le_refl _) (Nat.le_refl _))
  clear hb h1 hwc
  go_wp2_with fail
  refine (HSP.out _ _ _ (show FRw _ _ _ _ _ from H.out.at 0 rfl).crow).mono ?_
  rintro e w3 ⟨rfl, hb⟩
  replace H := Shut.mk ((H.out.below hb).new #[.int .i64 rg, .string rt] 56)
  obtain ⟨b6, hb6⟩ : ∃ q, q = w3.heap.size := ⟨_, rfl⟩
  rw [← hb6] at H
  clear hb HSP
  go_upto_region 6 with fail
  refine wp_shade (fun W => SL w W [bxS b6 [.int .i64 rg, .string rt], rwS (some ⟨g1, 0, none⟩) (pzS L) w1.heap.size w2.heap.size]) H.out ?_
  rw [← hb6]
  intro W3 hW
  replace H := Shut.mk hW
  clear hW hb6
  go_wp2_with fail
  refine (HTO.out _ H.out.bel).mono ?_
  rintro e w4 ⟨g2, rfl, h1, hwc, hb⟩
  replace H := Shut.mk (H.out.add (s := rwS (some ⟨g2, 0, none⟩) (pzS L) _ _) hb (.inr ⟨g2, rfl, h1, hwc.1, hwc⟩) (rwS.loc _ _ _ _) (Nat.le_refl _) (Nat.le_refl _))
  clear hb h1 hwc
  go_wp2_with fail
  refine (HIM.out _ _ _ (show FRw _ _ _ _ _ from H.out.at 0 rfl).crow H.out.bel).mono ?_
  rintro e w5 ⟨rfl, hb⟩
  replace H := Shut.mk ((H.out.below hb).new #[.int .i64 rg, .string rt] 56)
  obtain ⟨b8, hb8⟩ : ∃ q, q = w5.heap.size := ⟨_, rfl⟩
  rw [← hb8] at H
  clear hb HIM
  go_upto_region 8 with fail
  refine wp_shade (fun W => SL w W [bxS b8 [.int .i64 rg, .string rt], rwS (some ⟨g2, 0, none⟩) (pzS L) W3.heap.size w4.heap.size, bxS b6 [.int .i64 rg, .string rt], rwS (some ⟨g1, 0, none⟩) (pzS L) w1.heap.size w2.heap.size]) H.out ?_
  rw [← hb8]
  intro W5 hW
  replace H := Shut.mk hW
  clear hW hb8
  have x0 := (H.out.bx 0 rfl 0 _ rfl).1
  have x1 := (H.out.bx 0 rfl 1 _ rfl).1
  have y0 := (H.out.bx 2 rfl 0 _ rfl).1
  have y1 := (H.out.bx 2 rfl 1 _ rfl).1
  go_wp2_with fail
  refine (HEQ.out _).mono ?_
  rintro e w6 ⟨rfl, hb⟩
  replace H := Shut.mk (H.out.below hb)
  clear hb x0 x1 y0 y1
  go_wp2_with fail
  refine (HTO.out _ H.out.bel).mono ?_
  rintro e w7 ⟨g3, rfl, h1, hwc, hb⟩
  replace H := Shut.mk (H.out.add (s := rwS (some ⟨g3, 0, none⟩) (pzS L) _ _) hb (.inr ⟨g3, rfl, h1, hwc.1, hwc⟩) (rwS.loc _ _ _ _) (Nat.le_refl _) (Nat.le_refl _))
  clear hb h1 hwc
  go_wp2_with fail
  refine (HES.out _ _ _ _ _ (show FRw _ _ _ _ _ from H.out.at 2 rfl).crow (show FRw _ _ _ _ _ from H.out.at 0 rfl).crow).mono ?_
  rintro e w8 ⟨rfl, hb⟩
  replace H := Shut.mk (H.out.below hb)
  clear hb
  go_wp2_with fail
  go_ret
  exact ⟨rfl, H.out.bel⟩
end Go.Proofs.Ytendbipfmgnjkaa
