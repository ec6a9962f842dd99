/- The exact law of LoadOf (written by gen/mklawpl.py). -/
import Derived.Test.YtoaifodmjkhiiaaHoA
import Derived.Test.YtoaifodmjkhiiaaGrwD
namespace Go.Proofs.Ytoaifodmjkhiiaa
set_option maxRecDepth 100000
open Go.RowKit BigFrame
attribute [local go_sem ↓] Go.wp_at_zero Go.wp_at_succ
theorem specLoadOf (H : HM) (a : Option Addr) (cap : Nat) (w : World) : Calls Try.prog 7 #[hov H a cap] w fun e w' => e = .returned (.int .i64 (H.us.length : Nat)) ∧ Below w.heap.size w w' := by
  obtain ⟨id, up, us⟩ := H
  dsimp only [hov]
  generalize us.length = n
  go_enter Try.func7, Try.ntmps7
  go_wp2_with fail
  go_ret
  exact ⟨rfl, (Below.refl _ _).alloc (Nat.le_refl _) _⟩
set_option maxRecDepth 100000 in
set_option maxHeartbeats 8000000 in
theorem lawLoadOf (H : HM) (a : Option Addr) (cap : Nat) (ok : Int) (w : World) (hr : UnRow w a H.us) (hf : UnFits H.us)
    (hsp : H.us.length ≤ 1048576 → unSum H.us ≤ 1048576 → ∀ (W : World) (b : Option Addr) (c : Nat), UnRow W b H.us → Calls Try.prog 7 #[hov H b c] W fun e w' => e = .returned (.int .i64 ok) ∧ Below W.heap.size W w')
    (him : H.us.length ≤ 1048576 → unSum H.us ≤ 1048576 → ∀ (W : World) (b : Option Addr) (c : Nat), UnRow W b H.us → Below w.heap.size w W → Calls Try.prog 9 #[hov H b c] W fun e w' => e = .returned (.int .i64 ok) ∧ Below W.heap.size W w') :
    Calls Try.prog 3 #[hov H a cap] w fun e w' => e = .returned (.bool true) ∧ Below w.heap.size w w' := by
  have HSZ := Shut.mk (fun (W : World) (hb : Below w.heap.size w W) => szHost_any H a cap 1048576 W (hr.stays hb) hf (by omega) (by omega))
  have HTO := Shut.mk (fun (hl : H.us.length ≤ 1048576) (W : World) (hb : Below w.heap.size w W) => toHost_any H a cap W (hr.stays hb) hl)
  have HSP := Shut.mk hsp
  have HIM := Shut.mk him
  have HEQ := Shut.mk (fun (hl : H.us.length ≤ 1048576) (W : World) (b c : Option Addr) (cb cc : Nat) (h1 : UnRow W b H.us) (h2 : UnRow W c H.us) => eqHost_same H b c cb cc W h1 h2 (by omega))
  unfold HoPost at HTO
  obtain ⟨id, up, us⟩ := H
  dsimp only [hov] at *
  obtain ⟨n, hn⟩ : ∃ n, n = us.length := ⟨_, rfl⟩
  rw [← hn] at HSZ HTO HSP HIM HEQ ⊢
  clear hr hf hsp him hn
  have HS0 := Shut.mk ((SL.start w).new #[.int .i64 id, .bool up, .slice a n cap] 24)
  have hdd : (ok != ok) = false := by simp
  go_enter Try.func3, Try.ntmps3
  go_upto_region 2 with fail
  refine wp_shade (fun W => SL w W [bxS w.heap.size [.int .i64 id, .bool up, .slice a n cap]]) HS0.out ?_
  intro W0 hS0
  have H := Shut.mk hS0
  clear hS0 HS0
  have x0 := (H.out.bx 0 rfl 0 _ rfl).1
  have x1 := (H.out.bx 0 rfl 1 _ rfl).1
  have x2 := (H.out.bx 0 rfl 2 _ rfl).1
  go_upto_region 3 with (go_at_call 6; refine (HSZ.out _ H.out.bel).mono ?_; rintro e w1 ⟨r, rfl, r0, r1, hb⟩; replace H := Shut.mk (H.out.below hb); clear hb x0 x1 x2)
  by_cases hq : r < 0
  · clear r1
    go_wp2_with fail
    go_ret
    exact ⟨rfl, H.out.bel⟩
  have hr1 := r1 (by omega)
  have hnl : n ≤ 1048576 := by omega
  replace HTO := Shut.mk (HTO.out (by omega))
  replace HSP := Shut.mk (HSP.out (by omega) (by omega))
  replace HIM := Shut.mk (HIM.out (by omega) (by omega))
  replace HEQ := Shut.mk (HEQ.out (by omega))
  clear r1 hr1 r0 HSZ
  have x0 := (H.out.bx 0 rfl 0 _ rfl).1
  have x1 := (H.out.bx 0 rfl 1 _ rfl).1
  have x2 := (H.out.bx 0 rfl 2 _ rfl).1
  go_upto_region 6 with (first
    | (go_at_call 8; refine (HTO.out _ H.out.bel).mono ?_; rintro e w2 ⟨aw2, cw2, rfl, hF, hc, hb⟩; replace H := Shut.mk (H.out.below hb); have HW := Shut.mk hF.crow; clear hb hF hc x0 x1 x2)
    | (go_at_call 7; refine (HSP.out _ _ _ HW.out).mono ?_; rintro e w3 ⟨rfl, hb⟩; replace H := Shut.mk (H.out.below hb); clear hb HW))
  have x0 := (H.out.bx 0 rfl 0 _ rfl).1
  have x1 := (H.out.bx 0 rfl 1 _ rfl).1
  have x2 := (H.out.bx 0 rfl 2 _ rfl).1
  go_upto_region 7 with (go_at_call 8; refine (HTO.out _ H.out.bel).mono ?_; rintro e w5 ⟨a5, c5, rfl, hF, hc5, hb⟩; have HS5 := Shut.mk (H.out.add (s := rwS a5 (unS us) _ w5.heap.size) hb hF (rwS.loc _ _ _ _) (Nat.le_refl _) (Nat.le_refl _)); clear hb hF x0 x1 x2 H)
  generalize w3.heap.size = l5 at HS5
  obtain ⟨h5, hh5⟩ : ∃ q, q = w5.heap.size := ⟨_, rfl⟩
  rw [← hh5] at HS5
  clear hh5
  obtain ⟨b5, hb5⟩ : ∃ q, q = w5.heap.size := ⟨_, rfl⟩
  refine wp_shade (fun W => SL w W [bxS b5 [.int .i64 id, .bool up, .slice a5 n c5], rwS a5 (unS us) l5 h5, bxS w.heap.size [.int .i64 id, .bool up, .slice a n cap]]) (by rw [hb5]; exact HS5.out.new _ _) ?_
  intro Wb5 hS
  have H := Shut.mk hS
  rw [← hb5]
  clear hS hb5 HS5
  have x0 := (H.out.bx 0 rfl 0 _ rfl).1
  have x1 := (H.out.bx 0 rfl 1 _ rfl).1
  have x2 := (H.out.bx 0 rfl 2 _ rfl).1
  go_upto_region 10 with (go_at_call 9; refine (HIM.out _ _ _ (show FRw _ _ _ _ _ from H.out.at 1 rfl).crow H.out.bel).mono ?_; rintro e w7 ⟨rfl, hb⟩; replace H := Shut.mk (H.out.below hb); clear hb x0 x1 x2)
  have HTX : Shut (∀ x, Later w7.drew x → SL w x [bxS b5 [.int .i64 id, .bool up, .slice a5 n c5], rwS a5 (unS us) l5 h5, bxS w.heap.size [.int .i64 id, .bool up, .slice a n cap]]) := ⟨fun x hx => H.out.below (Below.trans (Below.drew (Below.refl _ _)) hx)⟩
  have HLE : Shut (∀ x, Later w7.drew x → x.cell? ⟨b5, 0, none⟩ = some (.int .i64 id) ∧ x.cell? ⟨b5, 1, none⟩ = some (.bool up) ∧ x.cell? ⟨b5, 2, none⟩ = some (.slice a5 n c5) ∧ x.cell? ⟨w.heap.size, 0, none⟩ = some (.int .i64 id) ∧ x.cell? ⟨w.heap.size, 1, none⟩ = some (.bool up) ∧ x.cell? ⟨w.heap.size, 2, none⟩ = some (.slice a n cap)) := ⟨fun x hx => ⟨((HTX.out x hx).bx 0 rfl 0 _ rfl).1, ((HTX.out x hx).bx 0 rfl 1 _ rfl).1, ((HTX.out x hx).bx 0 rfl 2 _ rfl).1, ((HTX.out x hx).bx 2 rfl 0 _ rfl).1, ((HTX.out x hx).bx 2 rfl 1 _ rfl).1, ((HTX.out x hx).bx 2 rfl 2 _ rfl).1⟩⟩
  refine wp_region_set (fun _ => false) (by kernel_rfl) ?_
  refine wpD_val (i := 0) (v := ?v0) rfl (by kernel_rfl) (by kernel_rfl) (by kernel_rfl) (by kernel_rfl) (fun _ _ _ h => h) (by rfl) ?hy0 ?rest0
  case hy0 => (intro x hx; obtain ⟨d0, d1, d2, d3, d4, d5⟩ := HLE.out x hx; go_simp; try with_reducible rfl)
  try simp only [Act.put, List.setIfInBounds_toArray, List.set_cons_zero, List.set_cons_succ]
  refine wpD_val (i := 1) (v := ?v1) rfl (by kernel_rfl) (by kernel_rfl) (by kernel_rfl) (by kernel_rfl) (fun _ _ _ h => h) (by rfl) ?hy1 ?rest1
  case hy1 => (intro x hx; obtain ⟨d0, d1, d2, d3, d4, d5⟩ := HLE.out x hx; go_simp; try with_reducible rfl)
  try simp only [Act.put, List.setIfInBounds_toArray, List.set_cons_zero, List.set_cons_succ]
  refine wpD_onecall (f := 8) (args := #[.agg #[.int .i64 id, .bool up, .slice a n cap]]) (i := 2) (by kernel_rfl) rfl (by rfl) (fun x hx => by go_simp) (fun x hx => (HTO.out x (HTX.out x hx).bel).mono ?_)
  rintro e y ⟨a6, c6, rfl, hF, hc, hby⟩
  refine ⟨_, rfl, hby, ?_⟩
  have HT1 := Shut.mk ((HTX.out x hx).below hby)
  have HW := Shut.mk hF.crow
  clear hF hc hby hx
  try simp only [Act.put, List.setIfInBounds_toArray, List.set_cons_zero, List.set_cons_succ]
  refine wpD_onecall (f := 10) (args := #[.agg #[.int .i64 id, .bool up, .slice a5 n c5], .agg #[.int .i64 id, .bool up, .slice a6 n c6]]) (i := 3) (by kernel_rfl) rfl (by rfl) (fun x hx => by go_simp) (fun x hx => (HEQ.out x _ _ _ _ (show FRw _ _ _ _ _ from (HT1.out.below hx).at 1 rfl).crow (HW.out.stays hx)).mono ?_)
  rintro e y2 ⟨rfl, hby⟩
  refine ⟨_, rfl, hby, ?_⟩
  have HT2 := Shut.mk ((HT1.out.below hx).below hby)
  clear hby hx HT1 HW
  try simp only [Act.put, List.setIfInBounds_toArray, List.set_cons_zero, List.set_cons_succ]
  refine wpD_val (i := 4) (v := ?v4) rfl (by kernel_rfl) (by kernel_rfl) (by kernel_rfl) (by kernel_rfl) (fun _ _ _ h => h) (by rfl) ?hy4 ?rest4
  case hy4 => (intro x hx; go_simp; try with_reducible rfl)
  try simp only [Act.put, List.setIfInBounds_toArray, List.set_cons_zero, List.set_cons_succ]
  refine wpD_done (by kernel_rfl) ?_ _
  intro W6 hy6
  replace H := Shut.mk (HT2.out.below hy6)
  clear hy6 HT2 HTX HLE
  go_wp2_with fail
  go_ret
  exact ⟨rfl, H.out.bel⟩
end Go.Proofs.Ytoaifodmjkhiiaa
