/- The exact law of DropUnit (written by gen/mklawho.py). -/
import Derived.Test.YtbanfccnmbmcfaaHoA
import Derived.Test.YtbanfccnmbmcfaaSpK
import Derived.Test.YtbanfccnmbmcfaaGrwD
namespace Go.Proofs.Ytbanfccnmbmcfaa
set_option maxRecDepth 100000
open Go.RowKit BigFrame
attribute [local go_sem ↓] Go.wp_at_zero Go.wp_at_succ
set_option maxRecDepth 100000 in
set_option maxHeartbeats 8000000 in
theorem lawDropUnit (H : HM) (a : Option Addr) (cap : Nat) (g i : Int) (R : HM × Bool) (w : World) (hr : UnRow w a H.us) (hf : UnFits H.us) (hrl : R.1.us.length ≤ 3000000 ∨ 1048576 < H.us.length)
    (hsp : H.us.length ≤ 1048576 → unSum H.us ≤ 1048576 → ∀ (W : World) (b : Option Addr) (c : Nat), UnRow W b H.us → Calls Try.prog 10 #[hov H b c, .int .i64 g, .int .i64 i] W fun e w' => HbPost R W e w')
    (him : H.us.length ≤ 1048576 → unSum H.us ≤ 1048576 → ∀ (W : World) (b : Option Addr) (c : Nat), UnRow W b H.us → Below w.heap.size w W → Calls Try.prog 11 #[hov H b c, .int .i64 g, .int .i64 i] W fun e w' => HbPost R W e w') :
    Calls Try.prog 4 #[hov H a cap, .int .i64 g, .int .i64 i] w fun e w' => e = .returned (.bool true) ∧ Below w.heap.size w w' := by
  have HSZ := Shut.mk (fun (W : World) (hb : Below w.heap.size w W) => szHost_any H a cap 1048576 W (hr.stays hb) hf (by omega) (by omega))
  have HTO := Shut.mk (fun (hl : H.us.length ≤ 1048576) (W : World) (hb : Below w.heap.size w W) => toHost_any H a cap W (hr.stays hb) hl)
  have HSP := Shut.mk hsp
  have HIM := Shut.mk him
  have HEQ := Shut.mk (fun (hl : H.us.length ≤ 1048576) (W : World) (b c : Option Addr) (cb cc : Nat) (h1 : UnRow W b H.us) (h2 : UnRow W c H.us) => eqHost_same H b c cb cc W h1 h2 (by omega))
  have HMH := Shut.mk (fun (hl : H.us.length ≤ 1048576) (W : World) (b : Option Addr) (c lo hi : Nat) (h : FRw W b (unS H.us) lo hi) (hc : H.us.length ≤ c) => markHost_row H b 1 c lo hi W h (by omega) (by omega) hc)
  have HER := Shut.mk (fun (hrl : R.1.us.length ≤ 3000000) (W : World) (b c : Option Addr) (cb cc : Nat) (h1 : UnRow W b R.1.us) (h2 : UnRow W c R.1.us) => eqHost_same R.1 b c cb cc W h1 h2 (by omega))
  have HMR := Shut.mk (fun (hrl : R.1.us.length ≤ 3000000) (W : World) (b : Option Addr) (c lo hi : Nat) (h : FRw W b (unS R.1.us) lo hi) (hc : R.1.us.length ≤ c) => markHost_row R.1 b 1 c lo hi W h (by omega) (by omega) hc)
  have HHR := Shut.mk (fun (hrl : R.1.us.length ≤ 3000000) (W : World) (b : Option Addr) (c : Nat) (h : UnRow W b (marksU 1 R.1.us.length)) => heldHost_any R.1 b 1 c W h (by omega) (by omega))
  unfold HbPost at HSP HIM
  obtain ⟨⟨rid, rup, rus⟩, ok⟩ := R
  unfold HoPost at HTO
  obtain ⟨id, up, us⟩ := H
  dsimp only [hov] at *
  obtain ⟨n, hn⟩ : ∃ n, n = us.length := ⟨_, rfl⟩
  obtain ⟨m, hm⟩ : ∃ m, m = rus.length := ⟨_, rfl⟩
  rw [← hm] at HSP HIM HER HMR HHR hrl
  rw [← hn] at HSZ HTO HSP HIM HEQ HMH hrl ⊢
  clear hr hf hsp him hn hm
  have HS0 := Shut.mk ((SL.start w).new #[.int .i64 id, .bool up, .slice a n cap] 24)
  have hdd : (ok != ok) = false := by simp
  go_enter Try.func4, Try.ntmps4
  go_upto_region 2 with fail
  refine wp_shade (fun W => SL w W [bxS w.heap.size [.int .i64 id, .bool up, .slice a n cap]]) HS0.out ?_
  intro W0 hS0
  have H := Shut.mk hS0
  clear hS0 HS0
  have x0 := (H.out.bx 0 rfl 0 _ rfl).1
  have x1 := (H.out.bx 0 rfl 1 _ rfl).1
  have x2 := (H.out.bx 0 rfl 2 _ rfl).1
  go_upto_region 3 with (go_at_call 5; refine (HSZ.out _ H.out.bel).mono ?_; rintro e w1 ⟨r, rfl, r0, r1, hb⟩; replace H := Shut.mk (H.out.below hb); clear hb x0 x1 x2)
  by_cases hq : r < 0
  · clear r1
    go_wp2_with fail
    go_ret
    exact ⟨rfl, H.out.bel⟩
  have hr1 := r1 (by omega)
  have hnl : n ≤ 1048576 := by omega
  replace HTO := Shut.mk (HTO.out (by omega))
  replace HSP := Shut.mk (HSP.out (by omega) (by omega))
  replace HIM := Shut.mk (HIM.out (by omega) (by omega))
  replace HEQ := Shut.mk (HEQ.out (by omega))
  replace HMH := Shut.mk (HMH.out (by omega))
  have hml : m ≤ 3000000 := by omega
  replace HER := Shut.mk (HER.out (by omega))
  replace HMR := Shut.mk (HMR.out (by omega))
  replace HHR := Shut.mk (HHR.out (by omega))
  clear hrl
  clear r1 hr1 r0 HSZ
  have x0 := (H.out.bx 0 rfl 0 _ rfl).1
  have x1 := (H.out.bx 0 rfl 1 _ rfl).1
  have x2 := (H.out.bx 0 rfl 2 _ rfl).1
  go_upto_region 6 with (first
    | (go_at_call 7; refine (HTO.out _ H.out.bel).mono ?_; rintro e w2 ⟨aw2, cw2, rfl, hF, hc, hb⟩; replace H := Shut.mk (H.out.below hb); have HW := Shut.mk hF.crow; clear hb hF hc x0 x1 x2)
    | (go_at_call 10; refine (HSP.out _ _ _ HW.out).mono ?_; rintro e w3 ⟨a3, c3, rfl, hF, hc, hb⟩; have HS3 := Shut.mk (H.out.add (s := rwS a3 (unS rus) _ w3.heap.size) hb hF (rwS.loc _ _ _ _) (Nat.le_refl _) (Nat.le_refl _)); have hc3 := hc; clear hF hc hb H HW))
  generalize w2.heap.size = l3 at HS3
  obtain ⟨h3, hh3⟩ : ∃ q, q = w3.heap.size := ⟨_, rfl⟩
  rw [← hh3] at HS3
  clear hh3
  obtain ⟨b3, hb3⟩ : ∃ q, q = w3.heap.size := ⟨_, rfl⟩
  refine wp_shade (fun W => SL w W [bxS b3 [.int .i64 rid, .bool rup, .slice a3 m c3], rwS a3 (unS rus) l3 h3, bxS w.heap.size [.int .i64 id, .bool up, .slice a n cap]]) (by rw [hb3]; exact HS3.out.new _ _) ?_
  intro Wb3 hS
  have H := Shut.mk hS
  rw [← hb3]
  clear hS hb3 HS3
  have x0 := (H.out.bx 2 rfl 0 _ rfl).1
  have x1 := (H.out.bx 2 rfl 1 _ rfl).1
  have x2 := (H.out.bx 2 rfl 2 _ rfl).1
  go_upto_region 7 with (go_at_call 7; refine (HTO.out _ H.out.bel).mono ?_; rintro e w5 ⟨a5, c5, rfl, hF, hc5, hb⟩; have HS5 := Shut.mk (H.out.add (s := rwS a5 (unS us) _ w5.heap.size) hb hF (rwS.loc _ _ _ _) (Nat.le_refl _) (Nat.le_refl _)); clear hb hF x0 x1 x2 H)
  generalize Wb3.heap.size = l5 at HS5
  obtain ⟨h5, hh5⟩ : ∃ q, q = w5.heap.size := ⟨_, rfl⟩
  rw [← hh5] at HS5
  clear hh5
  obtain ⟨b5, hb5⟩ : ∃ q, q = w5.heap.size := ⟨_, rfl⟩
  refine wp_shade (fun W => SL w W [bxS b5 [.int .i64 id, .bool up, .slice a5 n c5], rwS a5 (unS us) l5 h5, bxS b3 [.int .i64 rid, .bool rup, .slice a3 m c3], rwS a3 (unS rus) l3 h3, bxS w.heap.size [.int .i64 id, .bool up, .slice a n cap]]) (by rw [hb5]; exact HS5.out.new _ _) ?_
  intro Wb5 hS
  have H := Shut.mk hS
  rw [← hb5]
  clear hS hb5 HS5
  have x0 := (H.out.bx 0 rfl 0 _ rfl).1
  have x1 := (H.out.bx 0 rfl 1 _ rfl).1
  have x2 := (H.out.bx 0 rfl 2 _ rfl).1
  go_upto_region 8 with (go_at_call 11; refine (HIM.out _ _ _ (show FRw _ _ _ _ _ from H.out.at 1 rfl).crow H.out.bel).mono ?_; rintro e w7 ⟨a7, c7, rfl, hF, hc, hb⟩; have HS7 := Shut.mk (H.out.add (s := rwS a7 (unS rus) _ w7.heap.size) hb hF (rwS.loc _ _ _ _) (Nat.le_refl _) (Nat.le_refl _)); have hc7 := hc; clear hF hc hb H x0 x1 x2)
  generalize Wb5.heap.size = l7 at HS7
  obtain ⟨h7, hh7⟩ : ∃ q, q = w7.heap.size := ⟨_, rfl⟩
  rw [← hh7] at HS7
  clear hh7
  obtain ⟨b7, hb7⟩ : ∃ q, q = w7.heap.size := ⟨_, rfl⟩
  refine wp_shade (fun W => SL w W [bxS b7 [.int .i64 rid, .bool rup, .slice a7 m c7], rwS a7 (unS rus) l7 h7, bxS b5 [.int .i64 id, .bool up, .slice a5 n c5], rwS a5 (unS us) l5 h5, bxS b3 [.int .i64 rid, .bool rup, .slice a3 m c3], rwS a3 (unS rus) l3 h3, bxS w.heap.size [.int .i64 id, .bool up, .slice a n cap]]) (by rw [hb7]; exact HS7.out.new _ _) ?_
  intro Wb7 hS
  have H := Shut.mk hS
  rw [← hb7]
  clear hS hb7 HS7
  have x0 := (H.out.bx 0 rfl 0 _ rfl).1
  have x1 := (H.out.bx 0 rfl 1 _ rfl).1
  have x2 := (H.out.bx 0 rfl 2 _ rfl).1
  have y0 := (H.out.bx 4 rfl 0 _ rfl).1
  have y1 := (H.out.bx 4 rfl 1 _ rfl).1
  have y2 := (H.out.bx 4 rfl 2 _ rfl).1
  go_upto_region 10 with (go_at_call 9; refine (HER.out _ _ _ _ _ (show FRw _ _ _ _ _ from H.out.at 1 rfl).crow (show FRw _ _ _ _ _ from H.out.at 5 rfl).crow).mono ?_; rintro e w8 ⟨rfl, hb⟩; replace H := Shut.mk (H.out.below hb); clear hb x0 x1 x2 y0 y1 y2)
  have HTX : Shut (∀ x, Later w8.drew x → SL w x [bxS b7 [.int .i64 rid, .bool rup, .slice a7 m c7], rwS a7 (unS rus) l7 h7, bxS b5 [.int .i64 id, .bool up, .slice a5 n c5], rwS a5 (unS us) l5 h5, bxS b3 [.int .i64 rid, .bool rup, .slice a3 m c3], rwS a3 (unS rus) l3 h3, bxS w.heap.size [.int .i64 id, .bool up, .slice a n cap]]) := ⟨fun x hx => H.out.below (Below.trans (Below.drew (Below.refl _ _)) hx)⟩
  have HLE : Shut (∀ x, Later w8.drew x → x.cell? ⟨b5, 0, none⟩ = some (.int .i64 id) ∧ x.cell? ⟨b5, 1, none⟩ = some (.bool up) ∧ x.cell? ⟨b5, 2, none⟩ = some (.slice a5 n c5) ∧ x.cell? ⟨w.heap.size, 0, none⟩ = some (.int .i64 id) ∧ x.cell? ⟨w.heap.size, 1, none⟩ = some (.bool up) ∧ x.cell? ⟨w.heap.size, 2, none⟩ = some (.slice a n cap)) := ⟨fun x hx => ⟨((HTX.out x hx).bx 2 rfl 0 _ rfl).1, ((HTX.out x hx).bx 2 rfl 1 _ rfl).1, ((HTX.out x hx).bx 2 rfl 2 _ rfl).1, ((HTX.out x hx).bx 6 rfl 0 _ rfl).1, ((HTX.out x hx).bx 6 rfl 1 _ rfl).1, ((HTX.out x hx).bx 6 rfl 2 _ rfl).1⟩⟩
  refine wp_region_set (fun _ => false) (by kernel_rfl) ?_
  refine wpD_val (i := 0) (v := ?v0) rfl (by kernel_rfl) (by kernel_rfl) (by kernel_rfl) (by kernel_rfl) (fun _ _ _ h => h) (by rfl) ?hy0 ?rest0
  case hy0 => (intro x hx; obtain ⟨d0, d1, d2, d3, d4, d5⟩ := HLE.out x hx; go_simp; try with_reducible rfl)
  try simp only [Act.put, List.setIfInBounds_toArray, List.set_cons_zero, List.set_cons_succ]
  refine wpD_val (i := 1) (v := ?v1) rfl (by kernel_rfl) (by kernel_rfl) (by kernel_rfl) (by kernel_rfl) (fun _ _ _ h => h) (by rfl) ?hy1 ?rest1
  case hy1 => (intro x hx; obtain ⟨d0, d1, d2, d3, d4, d5⟩ := HLE.out x hx; go_simp; try with_reducible rfl)
  try simp only [Act.put, List.setIfInBounds_toArray, List.set_cons_zero, List.set_cons_succ]
  refine wpD_onecall (f := 7) (args := #[.agg #[.int .i64 id, .bool up, .slice a n cap]]) (i := 2) (by kernel_rfl) rfl (by rfl) (fun x hx => by go_simp) (fun x hx => (HTO.out x (HTX.out x hx).bel).mono ?_)
  rintro e y ⟨a6, c6, rfl, hF, hc, hby⟩
  refine ⟨_, rfl, hby, ?_⟩
  have HT1 := Shut.mk ((HTX.out x hx).below hby)
  have HW := Shut.mk hF.crow
  clear hF hc hby hx
  try simp only [Act.put, List.setIfInBounds_toArray, List.set_cons_zero, List.set_cons_succ]
  refine wpD_onecall (f := 9) (args := #[.agg #[.int .i64 id, .bool up, .slice a5 n c5], .agg #[.int .i64 id, .bool up, .slice a6 n c6]]) (i := 3) (by kernel_rfl) rfl (by rfl) (fun x hx => by go_simp) (fun x hx => (HEQ.out x _ _ _ _ (show FRw _ _ _ _ _ from (HT1.out.below hx).at 3 rfl).crow (HW.out.stays hx)).mono ?_)
  rintro e y2 ⟨rfl, hby⟩
  refine ⟨_, rfl, hby, ?_⟩
  have HT2 := Shut.mk ((HT1.out.below hx).below hby)
  clear hby hx HT1 HW
  try simp only [Act.put, List.setIfInBounds_toArray, List.set_cons_zero, List.set_cons_succ]
  refine wpD_val (i := 4) (v := ?v4) rfl (by kernel_rfl) (by kernel_rfl) (by kernel_rfl) (by kernel_rfl) (fun _ _ _ h => h) (by rfl) ?hy4 ?rest4
  case hy4 => (intro x hx; go_simp; try with_reducible rfl)
  try simp only [Act.put, List.setIfInBounds_toArray, List.set_cons_zero, List.set_cons_succ]
  refine wpD_done (by kernel_rfl) ?_ _
  intro W6 hy6
  replace H := Shut.mk (HT2.out.below hy6)
  clear hy6 HT2 HTX HLE
  have x0 := (H.out.bx 2 rfl 0 _ rfl).1
  have x1 := (H.out.bx 2 rfl 1 _ rfl).1
  have x2 := (H.out.bx 2 rfl 2 _ rfl).1
  go_upto_region 14 with (go_at_call 12; refine (HMH.out _ _ _ _ _ (H.out.at 3 rfl) hc5).mono ?_; rintro e w9 ⟨rfl, hF, hg⟩; replace H := Shut.mk (H.out.turn 3 rfl hg hF (rwS.loc _ _ _ _)); clear hF hg x0 x1 x2)
  have x0 := (H.out.bx 0 rfl 0 _ rfl).1
  have x1 := (H.out.bx 0 rfl 1 _ rfl).1
  have x2 := (H.out.bx 0 rfl 2 _ rfl).1
  have y0 := (H.out.bx 4 rfl 0 _ rfl).1
  have y1 := (H.out.bx 4 rfl 1 _ rfl).1
  have y2 := (H.out.bx 4 rfl 2 _ rfl).1
  go_upto_region 17 with (go_at_call 9; refine (HER.out _ _ _ _ _ (show FRw _ _ _ _ _ from H.out.at 1 rfl).crow (show FRw _ _ _ _ _ from H.out.at 5 rfl).crow).mono ?_; rintro e w10 ⟨rfl, hb⟩; replace H := Shut.mk (H.out.below hb); clear hb x0 x1 x2 y0 y1 y2)
  have x0 := (H.out.bx 0 rfl 0 _ rfl).1
  have x1 := (H.out.bx 0 rfl 1 _ rfl).1
  have x2 := (H.out.bx 0 rfl 2 _ rfl).1
  go_upto_region 19 with (go_at_call 12; refine (HMR.out _ _ _ _ _ (H.out.at 1 rfl) hc7).mono ?_; rintro e w11 ⟨rfl, hF, hg⟩; replace H := Shut.mk (H.out.turn 1 rfl hg hF (rwS.loc _ _ _ _)); clear hF hg x0 x1 x2)
  have x0 := (H.out.bx 0 rfl 0 _ rfl).1
  have x1 := (H.out.bx 0 rfl 1 _ rfl).1
  have x2 := (H.out.bx 0 rfl 2 _ rfl).1
  go_upto_region 24 with (go_at_call 13; refine (HHR.out _ _ _ (show FRw _ _ _ _ _ from H.out.at 1 rfl).crow).mono ?_; rintro e w12 ⟨rfl, hb⟩; replace H := Shut.mk (H.out.below hb); clear hb x0 x1 x2)
  have x0 := (H.out.bx 6 rfl 0 _ rfl).1
  have x1 := (H.out.bx 6 rfl 1 _ rfl).1
  have x2 := (H.out.bx 6 rfl 2 _ rfl).1
  go_upto_region 25 with (first
    | (go_at_call 7; refine (HTO.out _ H.out.bel).mono ?_; rintro e w13 ⟨aw13, cw13, rfl, hF, hc, hb⟩; replace H := Shut.mk (H.out.below hb); have HW := Shut.mk hF.crow; clear hb hF hc x0 x1 x2)
    | (go_at_call 11; refine (HIM.out _ _ _ HW.out H.out.bel).mono ?_; rintro e w14 ⟨a14, c14, rfl, hF, hc, hb⟩; have HS14 := Shut.mk (H.out.add (s := rwS a14 (unS rus) _ w14.heap.size) hb hF (rwS.loc _ _ _ _) (Nat.le_refl _) (Nat.le_refl _)); have hc14 := hc; clear hF hc hb H HW))
  generalize w13.heap.size = l14 at HS14
  obtain ⟨h14, hh14⟩ : ∃ q, q = w14.heap.size := ⟨_, rfl⟩
  rw [← hh14] at HS14
  clear hh14
  obtain ⟨b14, hb14⟩ : ∃ q, q = w14.heap.size := ⟨_, rfl⟩
  refine wp_shade (fun W => SL w W [bxS b14 [.int .i64 rid, .bool rup, .slice a14 m c14], rwS a14 (unS rus) l14 h14, bxS b7 [.int .i64 rid, .bool rup, .slice a7 m c7], rwS a7 (unS (marksU 1 m)) l7 h7, bxS b5 [.int .i64 id, .bool up, .slice a5 n c5], rwS a5 (unS (marksU 1 n)) l5 h5, bxS b3 [.int .i64 rid, .bool rup, .slice a3 m c3], rwS a3 (unS rus) l3 h3, bxS w.heap.size [.int .i64 id, .bool up, .slice a n cap]]) (by rw [hb14]; exact HS14.out.new _ _) ?_
  intro Wb14 hS
  have H := Shut.mk hS
  rw [← hb14]
  clear hS hb14 HS14
  have x0 := (H.out.bx 0 rfl 0 _ rfl).1
  have x1 := (H.out.bx 0 rfl 1 _ rfl).1
  have x2 := (H.out.bx 0 rfl 2 _ rfl).1
  have y0 := (H.out.bx 6 rfl 0 _ rfl).1
  have y1 := (H.out.bx 6 rfl 1 _ rfl).1
  have y2 := (H.out.bx 6 rfl 2 _ rfl).1
  go_upto_region 28 with (go_at_call 9; refine (HER.out _ _ _ _ _ (show FRw _ _ _ _ _ from H.out.at 1 rfl).crow (show FRw _ _ _ _ _ from H.out.at 7 rfl).crow).mono ?_; rintro e w15 ⟨rfl, hb⟩; replace H := Shut.mk (H.out.below hb); clear hb x0 x1 x2 y0 y1 y2)
  have x0 := (H.out.bx 2 rfl 0 _ rfl).1
  have x1 := (H.out.bx 2 rfl 1 _ rfl).1
  have x2 := (H.out.bx 2 rfl 2 _ rfl).1
  go_wp2_with (go_at_call 13; refine (HHR.out _ _ _ (show FRw _ _ _ _ _ from H.out.at 3 rfl).crow).mono ?_; rintro e w16 ⟨rfl, hb⟩; replace H := Shut.mk (H.out.below hb); clear hb x0 x1 x2)
  go_ret
  exact ⟨rfl, H.out.bel⟩
end Go.Proofs.Ytbanfccnmbmcfaa
