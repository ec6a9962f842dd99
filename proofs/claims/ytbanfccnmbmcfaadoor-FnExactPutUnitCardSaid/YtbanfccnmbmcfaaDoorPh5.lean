/- Texts of ours, laid one behind the other: LawHp, GrwE, SpM, UnP. -/
import Derived.Test.YtbanfccnmbmcfaaDoorPh4
/- LawHp: The exact law of PutUnit (written by gen/mklawho.py). -/
namespace Go.Proofs.YtbanfccnmbmcfaaDoor
set_option maxRecDepth 100000
open Go.RowKit BigFrame
attribute [local go_sem ↓] Go.wp_at_zero Go.wp_at_succ
set_option maxRecDepth 100000 in
set_option maxHeartbeats 16000000 in
theorem lawPutUnit (H : HM) (a : Option Addr) (cap : Nat) (u : UnM) (R : HM × Bool) (w : World) (hr : UnRow w a H.us) (hf : UnFits H.us) (hu : UnFit u) (hrl : R.1.us.length ≤ 3000000 ∨ 1048576 < H.us.length)
    (hsp : H.us.length ≤ 1048576 → unSum H.us ≤ 1048576 → u.text.size ≤ 1048576 → ∀ (W : World) (b : Option Addr) (c : Nat), UnRow W b H.us → Calls Tryd.prog 22 #[hov H b c, unv u] W fun e w' => HbPost R W e w')
    (him : H.us.length ≤ 1048576 → unSum H.us ≤ 1048576 → u.text.size ≤ 1048576 → ∀ (W : World) (b : Option Addr) (c : Nat), UnRow W b H.us → H.us.length ≤ c → Below w.heap.size w W → Calls Tryd.prog 12 #[hov H b c, unv u] W fun e w' => HbPost R W e w') :
    Calls Tryd.prog 5 #[hov H a cap, unv u] w fun e w' => e = .returned (.bool true) ∧ Below w.heap.size w w' := by
  have HSZ := Shut.mk (fun (W : World) (hb : Below w.heap.size w W) => szHost_any H a cap 1048576 W (hr.stays hb) hf (by omega) (by omega))
  have HSU := Shut.mk (fun (l : Int) (W : World) (h0 : 0 ≤ l) (h1 : l ≤ 1048576) => szUnit_any u l W h0 h1 hu)
  have HTU := Shut.mk (fun (W : World) => toUnit_any u W)
  have HTO := Shut.mk (fun (hl : H.us.length ≤ 1048576) (W : World) (hb : Below w.heap.size w W) => toHost_any H a cap W (hr.stays hb) hl)
  have HSP := Shut.mk hsp
  have HIM := Shut.mk him
  have HEQ := Shut.mk (fun (hl : H.us.length ≤ 1048576) (W : World) (b c : Option Addr) (cb cc : Nat) (h1 : UnRow W b H.us) (h2 : UnRow W c H.us) => eqHost_same H b c cb cc W h1 h2 (by omega))
  have HMH := Shut.mk (fun (hl : H.us.length ≤ 1048576) (W : World) (b : Option Addr) (c lo hi : Nat) (h : FRw W b (unS H.us) lo hi) (hc : H.us.length ≤ c) => markHost_row H b 1 c lo hi W h (by omega) (by omega) hc)
  have HER := Shut.mk (fun (hrl : R.1.us.length ≤ 3000000) (W : World) (b c : Option Addr) (cb cc : Nat) (h1 : UnRow W b R.1.us) (h2 : UnRow W c R.1.us) => eqHost_same R.1 b c cb cc W h1 h2 (by omega))
  have HMR := Shut.mk (fun (hrl : R.1.us.length ≤ 3000000) (W : World) (b : Option Addr) (c lo hi : Nat) (h : FRw W b (unS R.1.us) lo hi) (hc : R.1.us.length ≤ c) => markHost_row R.1 b 1 c lo hi W h (by omega) (by omega) hc)
  have HHR := Shut.mk (fun (hrl : R.1.us.length ≤ 3000000) (W : World) (b : Option Addr) (c : Nat) (h : UnRow W b (marksU 1 R.1.us.length)) => heldHost_any R.1 b 1 c W h (by omega) (by omega))
  unfold HbPost at HSP HIM
  unfold HoPost at HTO
  obtain ⟨⟨rid, rup, rus⟩, ok⟩ := R
  obtain ⟨id, up, us⟩ := H
  obtain ⟨ug, ui, ut, us0⟩ := u
  dsimp only [hov, unv] at *
  obtain ⟨n, hn⟩ : ∃ n, n = us.length := ⟨_, rfl⟩
  obtain ⟨m, hm⟩ : ∃ m, m = rus.length := ⟨_, rfl⟩
  rw [← hm] at HSP HIM HER HMR HHR hrl
  rw [← hn] at HSZ HTO HSP HIM HEQ HMH hrl ⊢
  clear hr hf hu hsp him hn hm
  have HS0 := Shut.mk (((SL.start w).new #[.int .i64 id, .bool up, .slice a n cap] 44).new #[.int .i64 ug, .int .i64 ui, .string ut, .int .i64 us0] 45)
  simp only [World.size_alloc] at HS0
  have hdd : (ok != ok) = false := by simp
  go_enter Tryd.func5, Tryd.ntmps5
  go_upto_region 2 with fail
  refine wp_shade (fun W => SL w W [bxS (w.heap.size + 1) [.int .i64 ug, .int .i64 ui, .string ut, .int .i64 us0], bxS w.heap.size [.int .i64 id, .bool up, .slice a n cap]]) HS0.out ?_
  intro W0 hS0
  have H := Shut.mk hS0
  clear hS0 HS0
  have x0 := (H.out.bx 1 rfl 0 _ rfl).1
  have x1 := (H.out.bx 1 rfl 1 _ rfl).1
  have x2 := (H.out.bx 1 rfl 2 _ rfl).1
  go_upto_region 3 with (go_at_call 20; refine (HSZ.out _ H.out.bel).mono ?_; rintro e w1 ⟨r, rfl, r0, r1, hb⟩; replace H := Shut.mk (H.out.below hb); clear hb x0 x1 x2)
  by_cases hq : r < 0
  · clear r1
    go_wp2_with fail
    go_ret
    exact ⟨rfl, H.out.bel⟩
  have hr1 := r1 (by omega)
  have hnl : n ≤ 1048576 := by omega
  have hml : m ≤ 3000000 := by omega
  have hrr : r ≤ 1048576 := by omega
  replace HTO := Shut.mk (HTO.out (by omega))
  replace HSP := Shut.mk (HSP.out (by omega) (by omega))
  replace HIM := Shut.mk (HIM.out (by omega) (by omega))
  replace HEQ := Shut.mk (HEQ.out (by omega))
  replace HMH := Shut.mk (HMH.out (by omega))
  replace HER := Shut.mk (HER.out (by omega))
  replace HMR := Shut.mk (HMR.out (by omega))
  replace HHR := Shut.mk (HHR.out (by omega))
  have HR0 := Shut.mk (show 0 ≤ r by omega)
  clear r1 hr1 r0 HSZ hrl
  have x0 := (H.out.bx 0 rfl 0 _ rfl).1
  have x1 := (H.out.bx 0 rfl 1 _ rfl).1
  have x2 := (H.out.bx 0 rfl 2 _ rfl).1
  have x3 := (H.out.bx 0 rfl 3 _ rfl).1
  go_upto_region 6 with (go_at_call 21; refine (HSU.out _ _ HR0.out hrr).mono ?_; rintro e w2 ⟨s, rfl, s0, s1, hb⟩; replace H := Shut.mk (H.out.below hb); clear hb x0 x1 x2 x3)
  by_cases hq2 : s < 0
  · clear s1
    go_wp2_with fail
    go_ret
    exact ⟨rfl, H.out.bel⟩
  have hs1 := s1 (by omega)
  replace HSP := Shut.mk (HSP.out (by omega))
  replace HIM := Shut.mk (HIM.out (by omega))
  clear s1 hs1 s0 hrr HR0 HSU hq
  go_upto_region 8 with fail
  go_cut [6, 7] from 26 to 33 (fun u8 u9 wq => ∃ (b8 : Nat) (a8 : Option Addr) (c8 lo8 hi8 : Nat), u8 = .pointer (some ⟨b8, 0, none⟩) ∧ u9 = .bool ok ∧ Shut (SL w wq [bxS b8 [.int .i64 rid, .bool rup, .slice a8 m c8], rwS a8 (unS rus) lo8 hi8, bxS (w.heap.size + 1) [.int .i64 ug, .int .i64 ui, .string ut, .int .i64 us0], bxS w.heap.size [.int .i64 id, .bool up, .slice a n cap]]) ∧ m ≤ c8)
  case first =>
    have HTX : Shut (∀ x, Later w2.drew x → SL w x [bxS (w.heap.size + 1) [.int .i64 ug, .int .i64 ui, .string ut, .int .i64 us0], bxS w.heap.size [.int .i64 id, .bool up, .slice a n cap]]) := ⟨fun x hx => H.out.below (Below.trans (Below.drew (Below.refl _ _)) hx)⟩
    have HLE : Shut (∀ x, Later w2.drew x → x.cell? ⟨w.heap.size, 0, none⟩ = some (.int .i64 id) ∧ x.cell? ⟨w.heap.size, 1, none⟩ = some (.bool up) ∧ x.cell? ⟨w.heap.size, 2, none⟩ = some (.slice a n cap) ∧ x.cell? ⟨w.heap.size + 1, 0, none⟩ = some (.int .i64 ug) ∧ x.cell? ⟨w.heap.size + 1, 1, none⟩ = some (.int .i64 ui) ∧ x.cell? ⟨w.heap.size + 1, 2, none⟩ = some (.string ut) ∧ x.cell? ⟨w.heap.size + 1, 3, none⟩ = some (.int .i64 us0)) := ⟨fun x hx => ⟨((HTX.out x hx).bx 1 rfl 0 _ rfl).1, ((HTX.out x hx).bx 1 rfl 1 _ rfl).1, ((HTX.out x hx).bx 1 rfl 2 _ rfl).1, ((HTX.out x hx).bx 0 rfl 0 _ rfl).1, ((HTX.out x hx).bx 0 rfl 1 _ rfl).1, ((HTX.out x hx).bx 0 rfl 2 _ rfl).1, ((HTX.out x hx).bx 0 rfl 3 _ rfl).1⟩⟩
    refine wp_region_set (fun j => decide (j = 5 ∨ j = 6 ∨ j = 7 ∨ 8 < j)) (by kernel_rfl) ?_
    refine wpD_val (i := 0) (v := ?vz12) rfl (by kernel_rfl) (by kernel_rfl) (by kernel_rfl) (by kernel_rfl) (fun _ _ _ h => h) (by rfl) ?hyz12 ?restz12
    case hyz12 => (intro x hx; obtain ⟨d0, d1, d2, d3, d4, d5, d6⟩ := HLE.out x hx; go_simp; try with_reducible rfl)
    try simp only [Act.put, List.setIfInBounds_toArray, List.set_cons_zero, List.set_cons_succ]
    refine wpD_val (i := 2) (v := ?vz13) rfl (by kernel_rfl) (by kernel_rfl) (by kernel_rfl) (by kernel_rfl) (fun _ _ _ h => h) (by rfl) ?hyz13 ?restz13
    case hyz13 => (intro x hx; obtain ⟨d0, d1, d2, d3, d4, d5, d6⟩ := HLE.out x hx; go_simp; try with_reducible rfl)
    try simp only [Act.put, List.setIfInBounds_toArray, List.set_cons_zero, List.set_cons_succ]
    refine wpD_callbox (f := 23) (args := #[.agg #[.int .i64 id, .bool up, .slice a n cap]]) (C := #[.int .i64 0, .bool false, .slice none 0 0]) (t := 26) (i := 1) (j := 8) (by kernel_rfl) rfl rfl (by rfl) (by rfl) (fun x hx => by go_simp) (fun x hx => by kernel_rfl) (fun x hx => (HTO.out x (HTX.out x hx).bel).mono ?_) (fun x hx => ?_)
    · rintro e y ⟨a6, c6, rfl, hF, hc, hby⟩
      refine ⟨_, rfl, hby, ?_⟩
      have T1 := Shut.mk ((HTX.out x hx).below hby)
      have R1 := Shut.mk hF.crow
      have HC6 := Shut.mk hc
      clear hF hc hby hx
      try simp only [Act.put, List.setIfInBounds_toArray, List.set_cons_zero, List.set_cons_succ]
      refine wpD_call (i := 3) (v := .agg #[.int .i64 ug, .int .i64 ui, .string ut, .int .i64 us0]) (f := 24) (args := #[.agg #[.int .i64 ug, .int .i64 ui, .string ut, .int .i64 us0]]) rfl (by kernel_rfl) (by kernel_rfl) (by kernel_rfl) (by kernel_rfl) (fun _ _ _ h => h) (by rfl) ?hyz1 (fun x _ => HTU.out x) ?restz1
      case hyz1 => (intro x hx; go_simp; try with_reducible rfl)
      try simp only [Act.put, List.setIfInBounds_toArray, List.set_cons_zero, List.set_cons_succ]
      refine wpD_callbox (f := 22) (args := #[.agg #[.int .i64 id, .bool up, .slice a6 n c6], .agg #[.int .i64 ug, .int .i64 ui, .string ut, .int .i64 us0]]) (C := #[.int .i64 0, .bool false, .slice none 0 0]) (t := 26) (i := 4) (j := 8) (by kernel_rfl) rfl rfl (by rfl) (by rfl) (fun x hx => by go_simp) (fun x hx => by kernel_rfl) (fun x hx => (HSP.out _ a6 c6 (R1.out.stays hx)).mono ?_) (fun x hx => ?_)
      · rintro e y2 ⟨a8, c8, rfl, hF, hc8, hb2⟩
        refine ⟨_, rfl, hb2, ?_⟩
        have HY := Shut.mk ((T1.out.below hx).add (s := rwS a8 (unS rus) _ _) hb2 hF (rwS.loc _ _ _ _) (Nat.le_refl _) (Nat.le_refl _))
        clear hF hb2
        try simp only [Act.put, List.setIfInBounds_toArray, List.set_cons_zero, List.set_cons_succ]
        clear hx
        refine wpD_pure (i := 5) (v := ?vz2) rfl (by kernel_rfl) (by kernel_rfl) (by kernel_rfl) (by kernel_rfl) (fun _ _ _ h => h) (by rfl) ?hyz2 ?restz2
        case hyz2 => (intro x; go_simp; try with_reducible rfl)
        try simp only [Act.put, List.setIfInBounds_toArray, List.set_cons_zero, List.set_cons_succ]
        refine wpD_pure (i := 6) (v := ?vz3) rfl (by kernel_rfl) (by kernel_rfl) (by kernel_rfl) (by kernel_rfl) (fun _ _ _ h => h) (by rfl) ?hyz3 ?restz3
        case hyz3 => (intro x; go_simp; try with_reducible rfl)
        try simp only [Act.put, List.setIfInBounds_toArray, List.set_cons_zero, List.set_cons_succ]
        refine wpD_pure (i := 7) (v := ?vz4) rfl (by kernel_rfl) (by kernel_rfl) (by kernel_rfl) (by kernel_rfl) (fun _ _ _ h => h) (by rfl) ?hyz4 ?restz4
        case hyz4 => (intro x; go_simp; try with_reducible rfl)
        try simp only [Act.put, List.setIfInBounds_toArray, List.set_cons_zero, List.set_cons_succ]
        refine wpD_one (i := 8) (by kernel_rfl) rfl (by rfl) (fun x2 hx2 => ⟨.pointer (some ⟨x2.heap.size, 0, none⟩), x2.alloc (.cells #[.int .i64 0, .bool false, .slice none 0 0] 26), by kernel_rfl, (Below.refl _ _).alloc (Nat.le_refl _) _, ?_⟩)
        have HY2 := Shut.mk ((HY.out.below hx2).new #[.int .i64 0, .bool false, .slice none 0 0] 26)
        obtain ⟨nb, hnb⟩ : ∃ nb, nb = x2.heap.size := ⟨_, rfl⟩
        rw [← hnb] at HY2 ⊢
        clear hx2 hnb HY
        try simp only [Act.put, List.setIfInBounds_toArray, List.set_cons_zero, List.set_cons_succ]
        refine wpD_tail (by kernel_rfl) ?_
        intro x5 hx5
        have HY3 := Shut.mk (HY2.out.below hx5)
        obtain ⟨q0, qf0⟩ := HY3.out.bx 0 rfl 0 _ rfl
        obtain ⟨q1, qf1⟩ := HY3.out.bx 0 rfl 1 _ rfl
        obtain ⟨q2, qf2⟩ := HY3.out.bx 0 rfl 2 _ rfl
        refine wpA_step (y := ((x5.setCell ⟨nb, 0, none⟩ (.int .i64 rid)).setCell ⟨nb, 1, none⟩ (.bool rup)).setCell ⟨nb, 2, none⟩ (.slice a8 m c8)) (i := 9) (by kernel_rfl) rfl (by rfl) (by go_simp) ?_
        have HZ := Shut.mk (((HY3.out.put 0 rfl 0 (.int .i64 rid) (by simp)).put 0 rfl 1 (.bool rup) (by simp)).put 0 rfl 2 (.slice a8 m c8) (by simp))
        clear q0 qf0 q1 qf1 q2 qf2 hx5 HY2 HY3
        simp only [Act.put]
        refine wpA_val (i := 10) (v := .bool ok) rfl (by kernel_rfl) (by kernel_rfl) (by kernel_rfl) (fun _ _ _ h => h) (by rfl) (fun x => by go_simp) ?_
        try simp only [Act.put, List.setIfInBounds_toArray, List.set_cons_zero, List.set_cons_succ]
        refine wpA_done (by kernel_rfl) ?_ _
        go_wp2_with fail
        go_meet
        case rel => exact ⟨nb, a8, c8, _, _, rfl, rfl, ⟨HZ.out⟩, hc8⟩
      · have HW := Shut.mk ((T1.out.below hx).new #[.int .i64 0, .bool false, .slice none 0 0] 26)
        have hbx := (Below.refl x.heap.size x).alloc (Nat.le_refl _) (.cells #[.int .i64 0, .bool false, .slice none 0 0] 26)
        have R2 := Shut.mk ((R1.out.stays hx).stays hbx)
        obtain ⟨nb, hnb⟩ : ∃ nb, nb = x.heap.size := ⟨_, rfl⟩
        rw [← hnb] at HW ⊢
        generalize x.alloc (.cells #[.int .i64 0, .bool false, .slice none 0 0] 26) = xx at HW R2 ⊢
        clear hnb hx hbx
        try simp only [Act.put, List.setIfInBounds_toArray, List.set_cons_zero, List.set_cons_succ]
        refine wpD_onecall (f := 22) (args := #[.agg #[.int .i64 id, .bool up, .slice a6 n c6], .agg #[.int .i64 ug, .int .i64 ui, .string ut, .int .i64 us0]]) (i := 4) (by kernel_rfl) rfl (by rfl) (fun x hx => by go_simp) (fun x hx => (HSP.out _ a6 c6 (R2.out.stays hx)).mono ?_)
        rintro e y2 ⟨a8, c8, rfl, hF, hc8, hb2⟩
        refine ⟨_, rfl, hb2, ?_⟩
        have HY := Shut.mk ((HW.out.below hx).add (s := rwS a8 (unS rus) _ _) hb2 hF (rwS.loc _ _ _ _) (Nat.le_refl _) (Nat.le_refl _))
        clear hF hb2
        try simp only [Act.put, List.setIfInBounds_toArray, List.set_cons_zero, List.set_cons_succ]
        clear hx HW R2
        refine wpD_pure (i := 5) (v := ?vz5) rfl (by kernel_rfl) (by kernel_rfl) (by kernel_rfl) (by kernel_rfl) (fun _ _ _ h => h) (by rfl) ?hyz5 ?restz5
        case hyz5 => (intro x; go_simp; try with_reducible rfl)
        try simp only [Act.put, List.setIfInBounds_toArray, List.set_cons_zero, List.set_cons_succ]
        refine wpD_pure (i := 6) (v := ?vz6) rfl (by kernel_rfl) (by kernel_rfl) (by kernel_rfl) (by kernel_rfl) (fun _ _ _ h => h) (by rfl) ?hyz6 ?restz6
        case hyz6 => (intro x; go_simp; try with_reducible rfl)
        try simp only [Act.put, List.setIfInBounds_toArray, List.set_cons_zero, List.set_cons_succ]
        refine wpD_pure (i := 7) (v := ?vz7) rfl (by kernel_rfl) (by kernel_rfl) (by kernel_rfl) (by kernel_rfl) (fun _ _ _ h => h) (by rfl) ?hyz7 ?restz7
        case hyz7 => (intro x; go_simp; try with_reducible rfl)
        try simp only [Act.put, List.setIfInBounds_toArray, List.set_cons_zero, List.set_cons_succ]
        have HY2 := HY
        clear HY
        refine wpD_tail (by kernel_rfl) ?_
        intro x5 hx5
        have HY3 := Shut.mk (HY2.out.below hx5)
        obtain ⟨q0, qf0⟩ := HY3.out.bx 1 rfl 0 _ rfl
        obtain ⟨q1, qf1⟩ := HY3.out.bx 1 rfl 1 _ rfl
        obtain ⟨q2, qf2⟩ := HY3.out.bx 1 rfl 2 _ rfl
        refine wpA_step (y := ((x5.setCell ⟨nb, 0, none⟩ (.int .i64 rid)).setCell ⟨nb, 1, none⟩ (.bool rup)).setCell ⟨nb, 2, none⟩ (.slice a8 m c8)) (i := 9) (by kernel_rfl) rfl (by rfl) (by go_simp) ?_
        have HZ := Shut.mk (((HY3.out.put 1 rfl 0 (.int .i64 rid) (by simp)).put 1 rfl 1 (.bool rup) (by simp)).put 1 rfl 2 (.slice a8 m c8) (by simp))
        clear q0 qf0 q1 qf1 q2 qf2 hx5 HY2 HY3
        simp only [Act.put]
        refine wpA_val (i := 10) (v := .bool ok) rfl (by kernel_rfl) (by kernel_rfl) (by kernel_rfl) (fun _ _ _ h => h) (by rfl) (fun x => by go_simp) ?_
        try simp only [Act.put, List.setIfInBounds_toArray, List.set_cons_zero, List.set_cons_succ]
        refine wpA_done (by kernel_rfl) ?_ _
        go_wp2_with fail
        go_meet
        case rel => exact ⟨nb, a8, c8, _, _, rfl, rfl, ⟨HZ.out.swap⟩, hc8⟩
    · have HW := Shut.mk ((HTX.out x hx).new #[.int .i64 0, .bool false, .slice none 0 0] 26)
      have hbx := (Below.refl x.heap.size x).alloc (Nat.le_refl _) (.cells #[.int .i64 0, .bool false, .slice none 0 0] 26)
      obtain ⟨nb, hnb⟩ : ∃ nb, nb = x.heap.size := ⟨_, rfl⟩
      rw [← hnb] at HW ⊢
      generalize x.alloc (.cells #[.int .i64 0, .bool false, .slice none 0 0] 26) = xx at HW ⊢
      clear hnb hx hbx
      try simp only [Act.put, List.setIfInBounds_toArray, List.set_cons_zero, List.set_cons_succ]
      refine wpD_onecall (f := 23) (args := #[.agg #[.int .i64 id, .bool up, .slice a n cap]]) (i := 1) (by kernel_rfl) rfl (by rfl) (fun x hx => by go_simp) (fun x hx => (HTO.out x (HW.out.below hx).bel).mono ?_)
      rintro e y ⟨a6, c6, rfl, hF, hc, hby⟩
      refine ⟨_, rfl, hby, ?_⟩
      have T1 := Shut.mk ((HW.out.below hx).below hby)
      have R1 := Shut.mk hF.crow
      have HC6 := Shut.mk hc
      clear hF hc hby hx HW
      try simp only [Act.put, List.setIfInBounds_toArray, List.set_cons_zero, List.set_cons_succ]
      refine wpD_call (i := 3) (v := .agg #[.int .i64 ug, .int .i64 ui, .string ut, .int .i64 us0]) (f := 24) (args := #[.agg #[.int .i64 ug, .int .i64 ui, .string ut, .int .i64 us0]]) rfl (by kernel_rfl) (by kernel_rfl) (by kernel_rfl) (by kernel_rfl) (fun _ _ _ h => h) (by rfl) ?hyz8 (fun x _ => HTU.out x) ?restz8
      case hyz8 => (intro x hx; go_simp; try with_reducible rfl)
      try simp only [Act.put, List.setIfInBounds_toArray, List.set_cons_zero, List.set_cons_succ]
      refine wpD_onecall (f := 22) (args := #[.agg #[.int .i64 id, .bool up, .slice a6 n c6], .agg #[.int .i64 ug, .int .i64 ui, .string ut, .int .i64 us0]]) (i := 4) (by kernel_rfl) rfl (by rfl) (fun x hx => by go_simp) (fun x hx => (HSP.out _ a6 c6 (R1.out.stays hx)).mono ?_)
      rintro e y2 ⟨a8, c8, rfl, hF, hc8, hb2⟩
      refine ⟨_, rfl, hb2, ?_⟩
      have HY := Shut.mk ((T1.out.below hx).add (s := rwS a8 (unS rus) _ _) hb2 hF (rwS.loc _ _ _ _) (Nat.le_refl _) (Nat.le_refl _))
      clear hF hb2
      try simp only [Act.put, List.setIfInBounds_toArray, List.set_cons_zero, List.set_cons_succ]
      clear hx T1 R1
      refine wpD_pure (i := 5) (v := ?vz9) rfl (by kernel_rfl) (by kernel_rfl) (by kernel_rfl) (by kernel_rfl) (fun _ _ _ h => h) (by rfl) ?hyz9 ?restz9
      case hyz9 => (intro x; go_simp; try with_reducible rfl)
      try simp only [Act.put, List.setIfInBounds_toArray, List.set_cons_zero, List.set_cons_succ]
      refine wpD_pure (i := 6) (v := ?vz10) rfl (by kernel_rfl) (by kernel_rfl) (by kernel_rfl) (by kernel_rfl) (fun _ _ _ h => h) (by rfl) ?hyz10 ?restz10
      case hyz10 => (intro x; go_simp; try with_reducible rfl)
      try simp only [Act.put, List.setIfInBounds_toArray, List.set_cons_zero, List.set_cons_succ]
      refine wpD_pure (i := 7) (v := ?vz11) rfl (by kernel_rfl) (by kernel_rfl) (by kernel_rfl) (by kernel_rfl) (fun _ _ _ h => h) (by rfl) ?hyz11 ?restz11
      case hyz11 => (intro x; go_simp; try with_reducible rfl)
      try simp only [Act.put, List.setIfInBounds_toArray, List.set_cons_zero, List.set_cons_succ]
      have HY2 := HY
      clear HY
      refine wpD_tail (by kernel_rfl) ?_
      intro x5 hx5
      have HY3 := Shut.mk (HY2.out.below hx5)
      obtain ⟨q0, qf0⟩ := HY3.out.bx 1 rfl 0 _ rfl
      obtain ⟨q1, qf1⟩ := HY3.out.bx 1 rfl 1 _ rfl
      obtain ⟨q2, qf2⟩ := HY3.out.bx 1 rfl 2 _ rfl
      refine wpA_step (y := ((x5.setCell ⟨nb, 0, none⟩ (.int .i64 rid)).setCell ⟨nb, 1, none⟩ (.bool rup)).setCell ⟨nb, 2, none⟩ (.slice a8 m c8)) (i := 9) (by kernel_rfl) rfl (by rfl) (by go_simp) ?_
      have HZ := Shut.mk (((HY3.out.put 1 rfl 0 (.int .i64 rid) (by simp)).put 1 rfl 1 (.bool rup) (by simp)).put 1 rfl 2 (.slice a8 m c8) (by simp))
      clear q0 qf0 q1 qf1 q2 qf2 hx5 HY2 HY3
      simp only [Act.put]
      refine wpA_val (i := 10) (v := .bool ok) rfl (by kernel_rfl) (by kernel_rfl) (by kernel_rfl) (fun _ _ _ h => h) (by rfl) (fun x => by go_simp) ?_
      try simp only [Act.put, List.setIfInBounds_toArray, List.set_cons_zero, List.set_cons_succ]
      refine wpA_done (by kernel_rfl) ?_ _
      go_wp2_with fail
      go_meet
      case rel => exact ⟨nb, a8, c8, _, _, rfl, rfl, ⟨HZ.out.swap⟩, hc8⟩
  case rest =>
    obtain ⟨b3, a3, c3, l3, h3, rfl, rfl, H, hc3⟩ := hcut
    have x0 := (H.out.bx 3 rfl 0 _ rfl).1
    have x1 := (H.out.bx 3 rfl 1 _ rfl).1
    have x2 := (H.out.bx 3 rfl 2 _ rfl).1
    go_upto_region 10 with (go_at_call 23; refine (HTO.out _ H.out.bel).mono ?_; rintro e w5 ⟨a5, c5, rfl, hF, hc5, hb⟩; have HS5 := Shut.mk (H.out.add (s := rwS a5 (unS us) _ w5.heap.size) hb hF (rwS.loc _ _ _ _) (Nat.le_refl _) (Nat.le_refl _)); clear hb hF x0 x1 x2 H)
    obtain ⟨l5, hl5⟩ : ∃ q, q = wc.heap.size := ⟨_, rfl⟩
    rw [← hl5] at HS5
    clear hl5
    obtain ⟨h5, hh5⟩ : ∃ q, q = w5.heap.size := ⟨_, rfl⟩
    rw [← hh5] at HS5
    clear hh5
    obtain ⟨b5, hb5⟩ : ∃ q, q = w5.heap.size := ⟨_, rfl⟩
    refine wp_shade (fun W => SL w W [bxS b5 [.int .i64 id, .bool up, .slice a5 n c5], rwS a5 (unS us) l5 h5, bxS b3 [.int .i64 rid, .bool rup, .slice a3 m c3], rwS a3 (unS rus) l3 h3, bxS (w.heap.size + 1) [.int .i64 ug, .int .i64 ui, .string ut, .int .i64 us0], bxS w.heap.size [.int .i64 id, .bool up, .slice a n cap]]) (by rw [hb5]; exact HS5.out.new _ _) ?_
    intro Wb5 hS
    have H := Shut.mk hS
    rw [← hb5]
    clear hS hb5 HS5
    go_cut [9, 10] from 36 to 42 (fun u8 u9 wq => ∃ (b8 : Nat) (a8 : Option Addr) (c8 lo8 hi8 : Nat), u8 = .pointer (some ⟨b8, 0, none⟩) ∧ u9 = .bool ok ∧ Shut (SL w wq [bxS b8 [.int .i64 rid, .bool rup, .slice a8 m c8], rwS a8 (unS rus) lo8 hi8, bxS b5 [.int .i64 id, .bool up, .slice a5 n c5], rwS a5 (unS us) l5 h5, bxS b3 [.int .i64 rid, .bool rup, .slice a3 m c3], rwS a3 (unS rus) l3 h3, bxS (w.heap.size + 1) [.int .i64 ug, .int .i64 ui, .string ut, .int .i64 us0], bxS w.heap.size [.int .i64 id, .bool up, .slice a n cap]]) ∧ m ≤ c8)
    case first =>
      have HTX : Shut (∀ x, Later Wb5.drew x → SL w x [bxS b5 [.int .i64 id, .bool up, .slice a5 n c5], rwS a5 (unS us) l5 h5, bxS b3 [.int .i64 rid, .bool rup, .slice a3 m c3], rwS a3 (unS rus) l3 h3, bxS (w.heap.size + 1) [.int .i64 ug, .int .i64 ui, .string ut, .int .i64 us0], bxS w.heap.size [.int .i64 id, .bool up, .slice a n cap]]) := ⟨fun x hx => H.out.below (Below.trans (Below.drew (Below.refl _ _)) hx)⟩
      have HLE : Shut (∀ x, Later Wb5.drew x → x.cell? ⟨b5, 0, none⟩ = some (.int .i64 id) ∧ x.cell? ⟨b5, 1, none⟩ = some (.bool up) ∧ x.cell? ⟨b5, 2, none⟩ = some (.slice a5 n c5) ∧ x.cell? ⟨w.heap.size + 1, 0, none⟩ = some (.int .i64 ug) ∧ x.cell? ⟨w.heap.size + 1, 1, none⟩ = some (.int .i64 ui) ∧ x.cell? ⟨w.heap.size + 1, 2, none⟩ = some (.string ut) ∧ x.cell? ⟨w.heap.size + 1, 3, none⟩ = some (.int .i64 us0)) := ⟨fun x hx => ⟨((HTX.out x hx).bx 0 rfl 0 _ rfl).1, ((HTX.out x hx).bx 0 rfl 1 _ rfl).1, ((HTX.out x hx).bx 0 rfl 2 _ rfl).1, ((HTX.out x hx).bx 4 rfl 0 _ rfl).1, ((HTX.out x hx).bx 4 rfl 1 _ rfl).1, ((HTX.out x hx).bx 4 rfl 2 _ rfl).1, ((HTX.out x hx).bx 4 rfl 3 _ rfl).1⟩⟩
      refine wp_region_set (fun j => decide (j = 4 ∨ j = 5 ∨ j = 6 ∨ 7 < j)) (by kernel_rfl) ?_
      refine wpD_val (i := 0) (v := ?vz14) rfl (by kernel_rfl) (by kernel_rfl) (by kernel_rfl) (by kernel_rfl) (fun _ _ _ h => h) (by rfl) ?hyz14 ?restz14
      case hyz14 => (intro x hx; obtain ⟨d0, d1, d2, d3, d4, d5, d6⟩ := HLE.out x hx; go_simp; try with_reducible rfl)
      try simp only [Act.put, List.setIfInBounds_toArray, List.set_cons_zero, List.set_cons_succ]
      refine wpD_val (i := 1) (v := ?vz15) rfl (by kernel_rfl) (by kernel_rfl) (by kernel_rfl) (by kernel_rfl) (fun _ _ _ h => h) (by rfl) ?hyz15 ?restz15
      case hyz15 => (intro x hx; obtain ⟨d0, d1, d2, d3, d4, d5, d6⟩ := HLE.out x hx; go_simp; try with_reducible rfl)
      try simp only [Act.put, List.setIfInBounds_toArray, List.set_cons_zero, List.set_cons_succ]
      refine wpD_call (i := 2) (v := .agg #[.int .i64 ug, .int .i64 ui, .string ut, .int .i64 us0]) (f := 24) (args := #[.agg #[.int .i64 ug, .int .i64 ui, .string ut, .int .i64 us0]]) rfl (by kernel_rfl) (by kernel_rfl) (by kernel_rfl) (by kernel_rfl) (fun _ _ _ h => h) (by rfl) ?hyz16 (fun x _ => HTU.out x) ?restz16
      case hyz16 => (intro x hx; go_simp; try with_reducible rfl)
      try simp only [Act.put, List.setIfInBounds_toArray, List.set_cons_zero, List.set_cons_succ]
      refine wpD_callbox (f := 12) (args := #[.agg #[.int .i64 id, .bool up, .slice a5 n c5], .agg #[.int .i64 ug, .int .i64 ui, .string ut, .int .i64 us0]]) (C := #[.int .i64 0, .bool false, .slice none 0 0]) (t := 26) (i := 3) (j := 7) (by kernel_rfl) rfl rfl (by rfl) (by rfl) (fun x hx => by go_simp) (fun x hx => by kernel_rfl) (fun x hx => (HIM.out _ _ _ ((show FRw _ _ _ _ _ from (HTX.out x hx).at 1 rfl).crow) hc5 ((HTX.out x hx).bel)).mono ?_) (fun x hx => ?_)
      · rintro e y2 ⟨a8, c8, rfl, hF, hc8, hb2⟩
        refine ⟨_, rfl, hb2, ?_⟩
        have HY := Shut.mk ((HTX.out x hx).add (s := rwS a8 (unS rus) _ _) hb2 hF (rwS.loc _ _ _ _) (Nat.le_refl _) (Nat.le_refl _))
        clear hF hb2
        try simp only [Act.put, List.setIfInBounds_toArray, List.set_cons_zero, List.set_cons_succ]
        clear hx
        refine wpD_pure (i := 4) (v := ?vz17) rfl (by kernel_rfl) (by kernel_rfl) (by kernel_rfl) (by kernel_rfl) (fun _ _ _ h => h) (by rfl) ?hyz17 ?restz17
        case hyz17 => (intro x; go_simp; try with_reducible rfl)
        try simp only [Act.put, List.setIfInBounds_toArray, List.set_cons_zero, List.set_cons_succ]
        refine wpD_pure (i := 5) (v := ?vz18) rfl (by kernel_rfl) (by kernel_rfl) (by kernel_rfl) (by kernel_rfl) (fun _ _ _ h => h) (by rfl) ?hyz18 ?restz18
        case hyz18 => (intro x; go_simp; try with_reducible rfl)
        try simp only [Act.put, List.setIfInBounds_toArray, List.set_cons_zero, List.set_cons_succ]
        refine wpD_pure (i := 6) (v := ?vz19) rfl (by kernel_rfl) (by kernel_rfl) (by kernel_rfl) (by kernel_rfl) (fun _ _ _ h => h) (by rfl) ?hyz19 ?restz19
        case hyz19 => (intro x; go_simp; try with_reducible rfl)
        try simp only [Act.put, List.setIfInBounds_toArray, List.set_cons_zero, List.set_cons_succ]
        refine wpD_one (i := 7) (by kernel_rfl) rfl (by rfl) (fun x2 hx2 => ⟨.pointer (some ⟨x2.heap.size, 0, none⟩), x2.alloc (.cells #[.int .i64 0, .bool false, .slice none 0 0] 26), by kernel_rfl, (Below.refl _ _).alloc (Nat.le_refl _) _, ?_⟩)
        have HY2 := Shut.mk ((HY.out.below hx2).new #[.int .i64 0, .bool false, .slice none 0 0] 26)
        obtain ⟨nb, hnb⟩ : ∃ nb, nb = x2.heap.size := ⟨_, rfl⟩
        rw [← hnb] at HY2 ⊢
        clear hx2 hnb HY
        try simp only [Act.put, List.setIfInBounds_toArray, List.set_cons_zero, List.set_cons_succ]
        refine wpD_tail (by kernel_rfl) ?_
        intro x5 hx5
        have HY3 := Shut.mk (HY2.out.below hx5)
        obtain ⟨q0, qf0⟩ := HY3.out.bx 0 rfl 0 _ rfl
        obtain ⟨q1, qf1⟩ := HY3.out.bx 0 rfl 1 _ rfl
        obtain ⟨q2, qf2⟩ := HY3.out.bx 0 rfl 2 _ rfl
        refine wpA_step (y := ((x5.setCell ⟨nb, 0, none⟩ (.int .i64 rid)).setCell ⟨nb, 1, none⟩ (.bool rup)).setCell ⟨nb, 2, none⟩ (.slice a8 m c8)) (i := 8) (by kernel_rfl) rfl (by rfl) (by go_simp) ?_
        have HZ := Shut.mk (((HY3.out.put 0 rfl 0 (.int .i64 rid) (by simp)).put 0 rfl 1 (.bool rup) (by simp)).put 0 rfl 2 (.slice a8 m c8) (by simp))
        clear q0 qf0 q1 qf1 q2 qf2 hx5 HY2 HY3
        simp only [Act.put]
        refine wpA_val (i := 9) (v := .bool ok) rfl (by kernel_rfl) (by kernel_rfl) (by kernel_rfl) (fun _ _ _ h => h) (by rfl) (fun x => by go_simp) ?_
        try simp only [Act.put, List.setIfInBounds_toArray, List.set_cons_zero, List.set_cons_succ]
        refine wpA_done (by kernel_rfl) ?_ _
        go_wp2_with fail
        go_meet
        case rel => exact ⟨nb, a8, c8, _, _, rfl, rfl, ⟨HZ.out⟩, hc8⟩
      · have HW := Shut.mk ((HTX.out x hx).new #[.int .i64 0, .bool false, .slice none 0 0] 26)
        have hbx := (Below.refl x.heap.size x).alloc (Nat.le_refl _) (.cells #[.int .i64 0, .bool false, .slice none 0 0] 26)
        obtain ⟨nb, hnb⟩ : ∃ nb, nb = x.heap.size := ⟨_, rfl⟩
        rw [← hnb] at HW ⊢
        generalize x.alloc (.cells #[.int .i64 0, .bool false, .slice none 0 0] 26) = xx at HW ⊢
        clear hnb hx hbx
        try simp only [Act.put, List.setIfInBounds_toArray, List.set_cons_zero, List.set_cons_succ]
        refine wpD_onecall (f := 12) (args := #[.agg #[.int .i64 id, .bool up, .slice a5 n c5], .agg #[.int .i64 ug, .int .i64 ui, .string ut, .int .i64 us0]]) (i := 3) (by kernel_rfl) rfl (by rfl) (fun x hx => by go_simp) (fun x hx => (HIM.out _ _ _ ((show FRw _ _ _ _ _ from (HW.out.below hx).at 2 rfl).crow) hc5 ((HW.out.below hx).bel)).mono ?_)
        rintro e y2 ⟨a8, c8, rfl, hF, hc8, hb2⟩
        refine ⟨_, rfl, hb2, ?_⟩
        have HY := Shut.mk ((HW.out.below hx).add (s := rwS a8 (unS rus) _ _) hb2 hF (rwS.loc _ _ _ _) (Nat.le_refl _) (Nat.le_refl _))
        clear hF hb2
        try simp only [Act.put, List.setIfInBounds_toArray, List.set_cons_zero, List.set_cons_succ]
        clear hx HW
        refine wpD_pure (i := 4) (v := ?vz20) rfl (by kernel_rfl) (by kernel_rfl) (by kernel_rfl) (by kernel_rfl) (fun _ _ _ h => h) (by rfl) ?hyz20 ?restz20
        case hyz20 => (intro x; go_simp; try with_reducible rfl)
        try simp only [Act.put, List.setIfInBounds_toArray, List.set_cons_zero, List.set_cons_succ]
        refine wpD_pure (i := 5) (v := ?vz21) rfl (by kernel_rfl) (by kernel_rfl) (by kernel_rfl) (by kernel_rfl) (fun _ _ _ h => h) (by rfl) ?hyz21 ?restz21
        case hyz21 => (intro x; go_simp; try with_reducible rfl)
        try simp only [Act.put, List.setIfInBounds_toArray, List.set_cons_zero, List.set_cons_succ]
        refine wpD_pure (i := 6) (v := ?vz22) rfl (by kernel_rfl) (by kernel_rfl) (by kernel_rfl) (by kernel_rfl) (fun _ _ _ h => h) (by rfl) ?hyz22 ?restz22
        case hyz22 => (intro x; go_simp; try with_reducible rfl)
        try simp only [Act.put, List.setIfInBounds_toArray, List.set_cons_zero, List.set_cons_succ]
        have HY2 := HY
        clear HY
        refine wpD_tail (by kernel_rfl) ?_
        intro x5 hx5
        have HY3 := Shut.mk (HY2.out.below hx5)
        obtain ⟨q0, qf0⟩ := HY3.out.bx 1 rfl 0 _ rfl
        obtain ⟨q1, qf1⟩ := HY3.out.bx 1 rfl 1 _ rfl
        obtain ⟨q2, qf2⟩ := HY3.out.bx 1 rfl 2 _ rfl
        refine wpA_step (y := ((x5.setCell ⟨nb, 0, none⟩ (.int .i64 rid)).setCell ⟨nb, 1, none⟩ (.bool rup)).setCell ⟨nb, 2, none⟩ (.slice a8 m c8)) (i := 8) (by kernel_rfl) rfl (by rfl) (by go_simp) ?_
        have HZ := Shut.mk (((HY3.out.put 1 rfl 0 (.int .i64 rid) (by simp)).put 1 rfl 1 (.bool rup) (by simp)).put 1 rfl 2 (.slice a8 m c8) (by simp))
        clear q0 qf0 q1 qf1 q2 qf2 hx5 HY2 HY3
        simp only [Act.put]
        refine wpA_val (i := 9) (v := .bool ok) rfl (by kernel_rfl) (by kernel_rfl) (by kernel_rfl) (fun _ _ _ h => h) (by rfl) (fun x => by go_simp) ?_
        try simp only [Act.put, List.setIfInBounds_toArray, List.set_cons_zero, List.set_cons_succ]
        refine wpA_done (by kernel_rfl) ?_ _
        go_wp2_with fail
        go_meet
        case rel => exact ⟨nb, a8, c8, _, _, rfl, rfl, ⟨HZ.out.swap⟩, hc8⟩
    case rest =>
      obtain ⟨b7, a7, c7, l7, h7, rfl, rfl, H, hc7⟩ := hcut
      have x0 := (H.out.bx 0 rfl 0 _ rfl).1
      have x1 := (H.out.bx 0 rfl 1 _ rfl).1
      have x2 := (H.out.bx 0 rfl 2 _ rfl).1
      have y0 := (H.out.bx 4 rfl 0 _ rfl).1
      have y1 := (H.out.bx 4 rfl 1 _ rfl).1
      have y2 := (H.out.bx 4 rfl 2 _ rfl).1
      go_upto_region 13 with (go_at_call 25; refine (HER.out _ _ _ _ _ (show FRw _ _ _ _ _ from H.out.at 1 rfl).crow (show FRw _ _ _ _ _ from H.out.at 5 rfl).crow).mono ?_; rintro e w8 ⟨rfl, hb⟩; replace H := Shut.mk (H.out.below hb); clear hb x0 x1 x2 y0 y1 y2)
      have HTX : Shut (∀ x, Later w8.drew x → SL w x [bxS b7 [.int .i64 rid, .bool rup, .slice a7 m c7], rwS a7 (unS rus) l7 h7, bxS b5 [.int .i64 id, .bool up, .slice a5 n c5], rwS a5 (unS us) l5 h5, bxS b3 [.int .i64 rid, .bool rup, .slice a3 m c3], rwS a3 (unS rus) l3 h3, bxS (w.heap.size + 1) [.int .i64 ug, .int .i64 ui, .string ut, .int .i64 us0], bxS w.heap.size [.int .i64 id, .bool up, .slice a n cap]]) := ⟨fun x hx => H.out.below (Below.trans (Below.drew (Below.refl _ _)) hx)⟩
      have HLE : Shut (∀ x, Later w8.drew x → x.cell? ⟨b5, 0, none⟩ = some (.int .i64 id) ∧ x.cell? ⟨b5, 1, none⟩ = some (.bool up) ∧ x.cell? ⟨b5, 2, none⟩ = some (.slice a5 n c5) ∧ x.cell? ⟨w.heap.size, 0, none⟩ = some (.int .i64 id) ∧ x.cell? ⟨w.heap.size, 1, none⟩ = some (.bool up) ∧ x.cell? ⟨w.heap.size, 2, none⟩ = some (.slice a n cap)) := ⟨fun x hx => ⟨((HTX.out x hx).bx 2 rfl 0 _ rfl).1, ((HTX.out x hx).bx 2 rfl 1 _ rfl).1, ((HTX.out x hx).bx 2 rfl 2 _ rfl).1, ((HTX.out x hx).bx 7 rfl 0 _ rfl).1, ((HTX.out x hx).bx 7 rfl 1 _ rfl).1, ((HTX.out x hx).bx 7 rfl 2 _ rfl).1⟩⟩
      refine wp_region_set (fun _ => false) (by kernel_rfl) ?_
      refine wpD_val (i := 0) (v := ?v0) rfl (by kernel_rfl) (by kernel_rfl) (by kernel_rfl) (by kernel_rfl) (fun _ _ _ h => h) (by rfl) ?hy0 ?rest0
      case hy0 => (intro x hx; obtain ⟨d0, d1, d2, d3, d4, d5⟩ := HLE.out x hx; go_simp; try with_reducible rfl)
      try simp only [Act.put, List.setIfInBounds_toArray, List.set_cons_zero, List.set_cons_succ]
      refine wpD_val (i := 1) (v := ?v1) rfl (by kernel_rfl) (by kernel_rfl) (by kernel_rfl) (by kernel_rfl) (fun _ _ _ h => h) (by rfl) ?hy1 ?rest1
      case hy1 => (intro x hx; obtain ⟨d0, d1, d2, d3, d4, d5⟩ := HLE.out x hx; go_simp; try with_reducible rfl)
      try simp only [Act.put, List.setIfInBounds_toArray, List.set_cons_zero, List.set_cons_succ]
      refine wpD_onecall (f := 23) (args := #[.agg #[.int .i64 id, .bool up, .slice a n cap]]) (i := 2) (by kernel_rfl) rfl (by rfl) (fun x hx => by go_simp) (fun x hx => (HTO.out x (HTX.out x hx).bel).mono ?_)
      rintro e y ⟨a6, c6, rfl, hF, hc, hby⟩
      refine ⟨_, rfl, hby, ?_⟩
      have HT1 := Shut.mk ((HTX.out x hx).below hby)
      have HW := Shut.mk hF.crow
      clear hF hc hby hx
      try simp only [Act.put, List.setIfInBounds_toArray, List.set_cons_zero, List.set_cons_succ]
      refine wpD_onecall (f := 25) (args := #[.agg #[.int .i64 id, .bool up, .slice a5 n c5], .agg #[.int .i64 id, .bool up, .slice a6 n c6]]) (i := 3) (by kernel_rfl) rfl (by rfl) (fun x hx => by go_simp) (fun x hx => (HEQ.out x _ _ _ _ (show FRw _ _ _ _ _ from (HT1.out.below hx).at 3 rfl).crow (HW.out.stays hx)).mono ?_)
      rintro e y2 ⟨rfl, hby⟩
      refine ⟨_, rfl, hby, ?_⟩
      have HT2 := Shut.mk ((HT1.out.below hx).below hby)
      clear hby hx HT1 HW
      try simp only [Act.put, List.setIfInBounds_toArray, List.set_cons_zero, List.set_cons_succ]
      refine wpD_val (i := 4) (v := ?v4) rfl (by kernel_rfl) (by kernel_rfl) (by kernel_rfl) (by kernel_rfl) (fun _ _ _ h => h) (by rfl) ?hy4 ?rest4
      case hy4 => (intro x hx; go_simp; try with_reducible rfl)
      try simp only [Act.put, List.setIfInBounds_toArray, List.set_cons_zero, List.set_cons_succ]
      refine wpD_done (by kernel_rfl) ?_ _
      intro W6 hy6
      replace H := Shut.mk (HT2.out.below hy6)
      clear hy6 HT2 HTX HLE
      have x0 := (H.out.bx 2 rfl 0 _ rfl).1
      have x1 := (H.out.bx 2 rfl 1 _ rfl).1
      have x2 := (H.out.bx 2 rfl 2 _ rfl).1
      go_upto_region 17 with (go_at_call 26; refine (HMH.out _ _ _ _ _ (H.out.at 3 rfl) hc5).mono ?_; rintro e w9 ⟨rfl, hF, hg⟩; replace H := Shut.mk (H.out.turn 3 rfl hg hF (rwS.loc _ _ _ _)); clear hF hg x0 x1 x2)
      have x0 := (H.out.bx 0 rfl 0 _ rfl).1
      have x1 := (H.out.bx 0 rfl 1 _ rfl).1
      have x2 := (H.out.bx 0 rfl 2 _ rfl).1
      have y0 := (H.out.bx 4 rfl 0 _ rfl).1
      have y1 := (H.out.bx 4 rfl 1 _ rfl).1
      have y2 := (H.out.bx 4 rfl 2 _ rfl).1
      go_upto_region 20 with (go_at_call 25; refine (HER.out _ _ _ _ _ (show FRw _ _ _ _ _ from H.out.at 1 rfl).crow (show FRw _ _ _ _ _ from H.out.at 5 rfl).crow).mono ?_; rintro e w10 ⟨rfl, hb⟩; replace H := Shut.mk (H.out.below hb); clear hb x0 x1 x2 y0 y1 y2)
      have x0 := (H.out.bx 0 rfl 0 _ rfl).1
      have x1 := (H.out.bx 0 rfl 1 _ rfl).1
      have x2 := (H.out.bx 0 rfl 2 _ rfl).1
      go_upto_region 22 with (go_at_call 26; refine (HMR.out _ _ _ _ _ (H.out.at 1 rfl) hc7).mono ?_; rintro e w11 ⟨rfl, hF, hg⟩; replace H := Shut.mk (H.out.turn 1 rfl hg hF (rwS.loc _ _ _ _)); clear hF hg x0 x1 x2)
      have x0 := (H.out.bx 0 rfl 0 _ rfl).1
      have x1 := (H.out.bx 0 rfl 1 _ rfl).1
      have x2 := (H.out.bx 0 rfl 2 _ rfl).1
      go_upto_region 27 with (go_at_call 27; refine (HHR.out _ _ _ (show FRw _ _ _ _ _ from H.out.at 1 rfl).crow).mono ?_; rintro e w12 ⟨rfl, hb⟩; replace H := Shut.mk (H.out.below hb); clear hb x0 x1 x2)
      go_cut [14, 15] from 84 to 91 (fun u8 u9 wq => ∃ (b8 : Nat) (a8 : Option Addr) (c8 lo8 hi8 : Nat), u8 = .pointer (some ⟨b8, 0, none⟩) ∧ u9 = .bool ok ∧ Shut (SL w wq [bxS b8 [.int .i64 rid, .bool rup, .slice a8 m c8], rwS a8 (unS rus) lo8 hi8, bxS b7 [.int .i64 rid, .bool rup, .slice a7 m c7], rwS a7 (unS (marksU 1 m)) l7 h7, bxS b5 [.int .i64 id, .bool up, .slice a5 n c5], rwS a5 (unS (marksU 1 n)) l5 h5, bxS b3 [.int .i64 rid, .bool rup, .slice a3 m c3], rwS a3 (unS rus) l3 h3, bxS (w.heap.size + 1) [.int .i64 ug, .int .i64 ui, .string ut, .int .i64 us0], bxS w.heap.size [.int .i64 id, .bool up, .slice a n cap]]) ∧ m ≤ c8)
      case first =>
        have HTX : Shut (∀ x, Later w12.drew x → SL w x [bxS b7 [.int .i64 rid, .bool rup, .slice a7 m c7], rwS a7 (unS (marksU 1 m)) l7 h7, bxS b5 [.int .i64 id, .bool up, .slice a5 n c5], rwS a5 (unS (marksU 1 n)) l5 h5, bxS b3 [.int .i64 rid, .bool rup, .slice a3 m c3], rwS a3 (unS rus) l3 h3, bxS (w.heap.size + 1) [.int .i64 ug, .int .i64 ui, .string ut, .int .i64 us0], bxS w.heap.size [.int .i64 id, .bool up, .slice a n cap]]) := ⟨fun x hx => H.out.below (Below.trans (Below.drew (Below.refl _ _)) hx)⟩
        have HLE : Shut (∀ x, Later w12.drew x → x.cell? ⟨w.heap.size, 0, none⟩ = some (.int .i64 id) ∧ x.cell? ⟨w.heap.size, 1, none⟩ = some (.bool up) ∧ x.cell? ⟨w.heap.size, 2, none⟩ = some (.slice a n cap) ∧ x.cell? ⟨w.heap.size + 1, 0, none⟩ = some (.int .i64 ug) ∧ x.cell? ⟨w.heap.size + 1, 1, none⟩ = some (.int .i64 ui) ∧ x.cell? ⟨w.heap.size + 1, 2, none⟩ = some (.string ut) ∧ x.cell? ⟨w.heap.size + 1, 3, none⟩ = some (.int .i64 us0)) := ⟨fun x hx => ⟨((HTX.out x hx).bx 7 rfl 0 _ rfl).1, ((HTX.out x hx).bx 7 rfl 1 _ rfl).1, ((HTX.out x hx).bx 7 rfl 2 _ rfl).1, ((HTX.out x hx).bx 6 rfl 0 _ rfl).1, ((HTX.out x hx).bx 6 rfl 1 _ rfl).1, ((HTX.out x hx).bx 6 rfl 2 _ rfl).1, ((HTX.out x hx).bx 6 rfl 3 _ rfl).1⟩⟩
        refine wp_region_set (fun j => decide (j = 5 ∨ j = 6 ∨ j = 7 ∨ 8 < j)) (by kernel_rfl) ?_
        refine wpD_val (i := 0) (v := ?vz34) rfl (by kernel_rfl) (by kernel_rfl) (by kernel_rfl) (by kernel_rfl) (fun _ _ _ h => h) (by rfl) ?hyz34 ?restz34
        case hyz34 => (intro x hx; obtain ⟨d0, d1, d2, d3, d4, d5, d6⟩ := HLE.out x hx; go_simp; try with_reducible rfl)
        try simp only [Act.put, List.setIfInBounds_toArray, List.set_cons_zero, List.set_cons_succ]
        refine wpD_val (i := 2) (v := ?vz35) rfl (by kernel_rfl) (by kernel_rfl) (by kernel_rfl) (by kernel_rfl) (fun _ _ _ h => h) (by rfl) ?hyz35 ?restz35
        case hyz35 => (intro x hx; obtain ⟨d0, d1, d2, d3, d4, d5, d6⟩ := HLE.out x hx; go_simp; try with_reducible rfl)
        try simp only [Act.put, List.setIfInBounds_toArray, List.set_cons_zero, List.set_cons_succ]
        refine wpD_callbox (f := 23) (args := #[.agg #[.int .i64 id, .bool up, .slice a n cap]]) (C := #[.int .i64 0, .bool false, .slice none 0 0]) (t := 26) (i := 1) (j := 8) (by kernel_rfl) rfl rfl (by rfl) (by rfl) (fun x hx => by go_simp) (fun x hx => by kernel_rfl) (fun x hx => (HTO.out x (HTX.out x hx).bel).mono ?_) (fun x hx => ?_)
        · rintro e y ⟨a6, c6, rfl, hF, hc, hby⟩
          refine ⟨_, rfl, hby, ?_⟩
          have T1 := Shut.mk ((HTX.out x hx).below hby)
          have R1 := Shut.mk hF.crow
          have HC6 := Shut.mk hc
          clear hF hc hby hx
          try simp only [Act.put, List.setIfInBounds_toArray, List.set_cons_zero, List.set_cons_succ]
          refine wpD_call (i := 3) (v := .agg #[.int .i64 ug, .int .i64 ui, .string ut, .int .i64 us0]) (f := 24) (args := #[.agg #[.int .i64 ug, .int .i64 ui, .string ut, .int .i64 us0]]) rfl (by kernel_rfl) (by kernel_rfl) (by kernel_rfl) (by kernel_rfl) (fun _ _ _ h => h) (by rfl) ?hyz23 (fun x _ => HTU.out x) ?restz23
          case hyz23 => (intro x hx; go_simp; try with_reducible rfl)
          try simp only [Act.put, List.setIfInBounds_toArray, List.set_cons_zero, List.set_cons_succ]
          refine wpD_callbox (f := 12) (args := #[.agg #[.int .i64 id, .bool up, .slice a6 n c6], .agg #[.int .i64 ug, .int .i64 ui, .string ut, .int .i64 us0]]) (C := #[.int .i64 0, .bool false, .slice none 0 0]) (t := 26) (i := 4) (j := 8) (by kernel_rfl) rfl rfl (by rfl) (by rfl) (fun x hx => by go_simp) (fun x hx => by kernel_rfl) (fun x hx => (HIM.out _ a6 c6 (R1.out.stays hx) HC6.out ((T1.out.below hx).bel)).mono ?_) (fun x hx => ?_)
          · rintro e y2 ⟨a8, c8, rfl, hF, hc8, hb2⟩
            refine ⟨_, rfl, hb2, ?_⟩
            have HY := Shut.mk ((T1.out.below hx).add (s := rwS a8 (unS rus) _ _) hb2 hF (rwS.loc _ _ _ _) (Nat.le_refl _) (Nat.le_refl _))
            clear hF hb2
            try simp only [Act.put, List.setIfInBounds_toArray, List.set_cons_zero, List.set_cons_succ]
            clear hx
            refine wpD_pure (i := 5) (v := ?vz24) rfl (by kernel_rfl) (by kernel_rfl) (by kernel_rfl) (by kernel_rfl) (fun _ _ _ h => h) (by rfl) ?hyz24 ?restz24
            case hyz24 => (intro x; go_simp; try with_reducible rfl)
            try simp only [Act.put, List.setIfInBounds_toArray, List.set_cons_zero, List.set_cons_succ]
            refine wpD_pure (i := 6) (v := ?vz25) rfl (by kernel_rfl) (by kernel_rfl) (by kernel_rfl) (by kernel_rfl) (fun _ _ _ h => h) (by rfl) ?hyz25 ?restz25
            case hyz25 => (intro x; go_simp; try with_reducible rfl)
            try simp only [Act.put, List.setIfInBounds_toArray, List.set_cons_zero, List.set_cons_succ]
            refine wpD_pure (i := 7) (v := ?vz26) rfl (by kernel_rfl) (by kernel_rfl) (by kernel_rfl) (by kernel_rfl) (fun _ _ _ h => h) (by rfl) ?hyz26 ?restz26
            case hyz26 => (intro x; go_simp; try with_reducible rfl)
            try simp only [Act.put, List.setIfInBounds_toArray, List.set_cons_zero, List.set_cons_succ]
            refine wpD_one (i := 8) (by kernel_rfl) rfl (by rfl) (fun x2 hx2 => ⟨.pointer (some ⟨x2.heap.size, 0, none⟩), x2.alloc (.cells #[.int .i64 0, .bool false, .slice none 0 0] 26), by kernel_rfl, (Below.refl _ _).alloc (Nat.le_refl _) _, ?_⟩)
            have HY2 := Shut.mk ((HY.out.below hx2).new #[.int .i64 0, .bool false, .slice none 0 0] 26)
            obtain ⟨nb, hnb⟩ : ∃ nb, nb = x2.heap.size := ⟨_, rfl⟩
            rw [← hnb] at HY2 ⊢
            clear hx2 hnb HY
            try simp only [Act.put, List.setIfInBounds_toArray, List.set_cons_zero, List.set_cons_succ]
            refine wpD_tail (by kernel_rfl) ?_
            intro x5 hx5
            have HY3 := Shut.mk (HY2.out.below hx5)
            obtain ⟨q0, qf0⟩ := HY3.out.bx 0 rfl 0 _ rfl
            obtain ⟨q1, qf1⟩ := HY3.out.bx 0 rfl 1 _ rfl
            obtain ⟨q2, qf2⟩ := HY3.out.bx 0 rfl 2 _ rfl
            refine wpA_step (y := ((x5.setCell ⟨nb, 0, none⟩ (.int .i64 rid)).setCell ⟨nb, 1, none⟩ (.bool rup)).setCell ⟨nb, 2, none⟩ (.slice a8 m c8)) (i := 9) (by kernel_rfl) rfl (by rfl) (by go_simp) ?_
            have HZ := Shut.mk (((HY3.out.put 0 rfl 0 (.int .i64 rid) (by simp)).put 0 rfl 1 (.bool rup) (by simp)).put 0 rfl 2 (.slice a8 m c8) (by simp))
            clear q0 qf0 q1 qf1 q2 qf2 hx5 HY2 HY3
            simp only [Act.put]
            refine wpA_val (i := 10) (v := .bool ok) rfl (by kernel_rfl) (by kernel_rfl) (by kernel_rfl) (fun _ _ _ h => h) (by rfl) (fun x => by go_simp) ?_
            try simp only [Act.put, List.setIfInBounds_toArray, List.set_cons_zero, List.set_cons_succ]
            refine wpA_done (by kernel_rfl) ?_ _
            go_wp2_with fail
            go_meet
            case rel => exact ⟨nb, a8, c8, _, _, rfl, rfl, ⟨HZ.out⟩, hc8⟩
          · have HW := Shut.mk ((T1.out.below hx).new #[.int .i64 0, .bool false, .slice none 0 0] 26)
            have hbx := (Below.refl x.heap.size x).alloc (Nat.le_refl _) (.cells #[.int .i64 0, .bool false, .slice none 0 0] 26)
            have R2 := Shut.mk ((R1.out.stays hx).stays hbx)
            obtain ⟨nb, hnb⟩ : ∃ nb, nb = x.heap.size := ⟨_, rfl⟩
            rw [← hnb] at HW ⊢
            generalize x.alloc (.cells #[.int .i64 0, .bool false, .slice none 0 0] 26) = xx at HW R2 ⊢
            clear hnb hx hbx
            try simp only [Act.put, List.setIfInBounds_toArray, List.set_cons_zero, List.set_cons_succ]
            refine wpD_onecall (f := 12) (args := #[.agg #[.int .i64 id, .bool up, .slice a6 n c6], .agg #[.int .i64 ug, .int .i64 ui, .string ut, .int .i64 us0]]) (i := 4) (by kernel_rfl) rfl (by rfl) (fun x hx => by go_simp) (fun x hx => (HIM.out _ a6 c6 (R2.out.stays hx) HC6.out ((HW.out.below hx).bel)).mono ?_)
            rintro e y2 ⟨a8, c8, rfl, hF, hc8, hb2⟩
            refine ⟨_, rfl, hb2, ?_⟩
            have HY := Shut.mk ((HW.out.below hx).add (s := rwS a8 (unS rus) _ _) hb2 hF (rwS.loc _ _ _ _) (Nat.le_refl _) (Nat.le_refl _))
            clear hF hb2
            try simp only [Act.put, List.setIfInBounds_toArray, List.set_cons_zero, List.set_cons_succ]
            clear hx HW R2
            refine wpD_pure (i := 5) (v := ?vz27) rfl (by kernel_rfl) (by kernel_rfl) (by kernel_rfl) (by kernel_rfl) (fun _ _ _ h => h) (by rfl) ?hyz27 ?restz27
            case hyz27 => (intro x; go_simp; try with_reducible rfl)
            try simp only [Act.put, List.setIfInBounds_toArray, List.set_cons_zero, List.set_cons_succ]
            refine wpD_pure (i := 6) (v := ?vz28) rfl (by kernel_rfl) (by kernel_rfl) (by kernel_rfl) (by kernel_rfl) (fun _ _ _ h => h) (by rfl) ?hyz28 ?restz28
            case hyz28 => (intro x; go_simp; try with_reducible rfl)
            try simp only [Act.put, List.setIfInBounds_toArray, List.set_cons_zero, List.set_cons_succ]
            refine wpD_pure (i := 7) (v := ?vz29) rfl (by kernel_rfl) (by kernel_rfl) (by kernel_rfl) (by kernel_rfl) (fun _ _ _ h => h) (by rfl) ?hyz29 ?restz29
            case hyz29 => (intro x; go_simp; try with_reducible rfl)
            try simp only [Act.put, List.setIfInBounds_toArray, List.set_cons_zero, List.set_cons_succ]
            have HY2 := HY
            clear HY
            refine wpD_tail (by kernel_rfl) ?_
            intro x5 hx5
            have HY3 := Shut.mk (HY2.out.below hx5)
            obtain ⟨q0, qf0⟩ := HY3.out.bx 1 rfl 0 _ rfl
            obtain ⟨q1, qf1⟩ := HY3.out.bx 1 rfl 1 _ rfl
            obtain ⟨q2, qf2⟩ := HY3.out.bx 1 rfl 2 _ rfl
            refine wpA_step (y := ((x5.setCell ⟨nb, 0, none⟩ (.int .i64 rid)).setCell ⟨nb, 1, none⟩ (.bool rup)).setCell ⟨nb, 2, none⟩ (.slice a8 m c8)) (i := 9) (by kernel_rfl) rfl (by rfl) (by go_simp) ?_
            have HZ := Shut.mk (((HY3.out.put 1 rfl 0 (.int .i64 rid) (by simp)).put 1 rfl 1 (.bool rup) (by simp)).put 1 rfl 2 (.slice a8 m c8) (by simp))
            clear q0 qf0 q1 qf1 q2 qf2 hx5 HY2 HY3
            simp only [Act.put]
            refine wpA_val (i := 10) (v := .bool ok) rfl (by kernel_rfl) (by kernel_rfl) (by kernel_rfl) (fun _ _ _ h => h) (by rfl) (fun x => by go_simp) ?_
            try simp only [Act.put, List.setIfInBounds_toArray, List.set_cons_zero, List.set_cons_succ]
            refine wpA_done (by kernel_rfl) ?_ _
            go_wp2_with fail
            go_meet
            case rel => exact ⟨nb, a8, c8, _, _, rfl, rfl, ⟨HZ.out.swap⟩, hc8⟩
        · have HW := Shut.mk ((HTX.out x hx).new #[.int .i64 0, .bool false, .slice none 0 0] 26)
          have hbx := (Below.refl x.heap.size x).alloc (Nat.le_refl _) (.cells #[.int .i64 0, .bool false, .slice none 0 0] 26)
          obtain ⟨nb, hnb⟩ : ∃ nb, nb = x.heap.size := ⟨_, rfl⟩
          rw [← hnb] at HW ⊢
          generalize x.alloc (.cells #[.int .i64 0, .bool false, .slice none 0 0] 26) = xx at HW ⊢
          clear hnb hx hbx
          try simp only [Act.put, List.setIfInBounds_toArray, List.set_cons_zero, List.set_cons_succ]
          refine wpD_onecall (f := 23) (args := #[.agg #[.int .i64 id, .bool up, .slice a n cap]]) (i := 1) (by kernel_rfl) rfl (by rfl) (fun x hx => by go_simp) (fun x hx => (HTO.out x (HW.out.below hx).bel).mono ?_)
          rintro e y ⟨a6, c6, rfl, hF, hc, hby⟩
          refine ⟨_, rfl, hby, ?_⟩
          have T1 := Shut.mk ((HW.out.below hx).below hby)
          have R1 := Shut.mk hF.crow
          have HC6 := Shut.mk hc
          clear hF hc hby hx HW
          try simp only [Act.put, List.setIfInBounds_toArray, List.set_cons_zero, List.set_cons_succ]
          refine wpD_call (i := 3) (v := .agg #[.int .i64 ug, .int .i64 ui, .string ut, .int .i64 us0]) (f := 24) (args := #[.agg #[.int .i64 ug, .int .i64 ui, .string ut, .int .i64 us0]]) rfl (by kernel_rfl) (by kernel_rfl) (by kernel_rfl) (by kernel_rfl) (fun _ _ _ h => h) (by rfl) ?hyz30 (fun x _ => HTU.out x) ?restz30
          case hyz30 => (intro x hx; go_simp; try with_reducible rfl)
          try simp only [Act.put, List.setIfInBounds_toArray, List.set_cons_zero, List.set_cons_succ]
          refine wpD_onecall (f := 12) (args := #[.agg #[.int .i64 id, .bool up, .slice a6 n c6], .agg #[.int .i64 ug, .int .i64 ui, .string ut, .int .i64 us0]]) (i := 4) (by kernel_rfl) rfl (by rfl) (fun x hx => by go_simp) (fun x hx => (HIM.out _ a6 c6 (R1.out.stays hx) HC6.out ((T1.out.below hx).bel)).mono ?_)
          rintro e y2 ⟨a8, c8, rfl, hF, hc8, hb2⟩
          refine ⟨_, rfl, hb2, ?_⟩
          have HY := Shut.mk ((T1.out.below hx).add (s := rwS a8 (unS rus) _ _) hb2 hF (rwS.loc _ _ _ _) (Nat.le_refl _) (Nat.le_refl _))
          clear hF hb2
          try simp only [Act.put, List.setIfInBounds_toArray, List.set_cons_zero, List.set_cons_succ]
          clear hx T1 R1
          refine wpD_pure (i := 5) (v := ?vz31) rfl (by kernel_rfl) (by kernel_rfl) (by kernel_rfl) (by kernel_rfl) (fun _ _ _ h => h) (by rfl) ?hyz31 ?restz31
          case hyz31 => (intro x; go_simp; try with_reducible rfl)
          try simp only [Act.put, List.setIfInBounds_toArray, List.set_cons_zero, List.set_cons_succ]
          refine wpD_pure (i := 6) (v := ?vz32) rfl (by kernel_rfl) (by kernel_rfl) (by kernel_rfl) (by kernel_rfl) (fun _ _ _ h => h) (by rfl) ?hyz32 ?restz32
          case hyz32 => (intro x; go_simp; try with_reducible rfl)
          try simp only [Act.put, List.setIfInBounds_toArray, List.set_cons_zero, List.set_cons_succ]
          refine wpD_pure (i := 7) (v := ?vz33) rfl (by kernel_rfl) (by kernel_rfl) (by kernel_rfl) (by kernel_rfl) (fun _ _ _ h => h) (by rfl) ?hyz33 ?restz33
          case hyz33 => (intro x; go_simp; try with_reducible rfl)
          try simp only [Act.put, List.setIfInBounds_toArray, List.set_cons_zero, List.set_cons_succ]
          have HY2 := HY
          clear HY
          refine wpD_tail (by kernel_rfl) ?_
          intro x5 hx5
          have HY3 := Shut.mk (HY2.out.below hx5)
          obtain ⟨q0, qf0⟩ := HY3.out.bx 1 rfl 0 _ rfl
          obtain ⟨q1, qf1⟩ := HY3.out.bx 1 rfl 1 _ rfl
          obtain ⟨q2, qf2⟩ := HY3.out.bx 1 rfl 2 _ rfl
          refine wpA_step (y := ((x5.setCell ⟨nb, 0, none⟩ (.int .i64 rid)).setCell ⟨nb, 1, none⟩ (.bool rup)).setCell ⟨nb, 2, none⟩ (.slice a8 m c8)) (i := 9) (by kernel_rfl) rfl (by rfl) (by go_simp) ?_
          have HZ := Shut.mk (((HY3.out.put 1 rfl 0 (.int .i64 rid) (by simp)).put 1 rfl 1 (.bool rup) (by simp)).put 1 rfl 2 (.slice a8 m c8) (by simp))
          clear q0 qf0 q1 qf1 q2 qf2 hx5 HY2 HY3
          simp only [Act.put]
          refine wpA_val (i := 10) (v := .bool ok) rfl (by kernel_rfl) (by kernel_rfl) (by kernel_rfl) (fun _ _ _ h => h) (by rfl) (fun x => by go_simp) ?_
          try simp only [Act.put, List.setIfInBounds_toArray, List.set_cons_zero, List.set_cons_succ]
          refine wpA_done (by kernel_rfl) ?_ _
          go_wp2_with fail
          go_meet
          case rel => exact ⟨nb, a8, c8, _, _, rfl, rfl, ⟨HZ.out.swap⟩, hc8⟩
      case rest =>
        obtain ⟨b14, a14, c14, l14, h14, rfl, rfl, H, hc14⟩ := hcut
        have x0 := (H.out.bx 0 rfl 0 _ rfl).1
        have x1 := (H.out.bx 0 rfl 1 _ rfl).1
        have x2 := (H.out.bx 0 rfl 2 _ rfl).1
        have y0 := (H.out.bx 6 rfl 0 _ rfl).1
        have y1 := (H.out.bx 6 rfl 1 _ rfl).1
        have y2 := (H.out.bx 6 rfl 2 _ rfl).1
        go_upto_region 31 with (go_at_call 25; refine (HER.out _ _ _ _ _ (show FRw _ _ _ _ _ from H.out.at 1 rfl).crow (show FRw _ _ _ _ _ from H.out.at 7 rfl).crow).mono ?_; rintro e w15 ⟨rfl, hb⟩; replace H := Shut.mk (H.out.below hb); clear hb x0 x1 x2 y0 y1 y2)
        have x0 := (H.out.bx 2 rfl 0 _ rfl).1
        have x1 := (H.out.bx 2 rfl 1 _ rfl).1
        have x2 := (H.out.bx 2 rfl 2 _ rfl).1
        go_wp2_with (go_at_call 27; refine (HHR.out _ _ _ (show FRw _ _ _ _ _ from H.out.at 3 rfl).crow).mono ?_; rintro e w16 ⟨rfl, hb⟩; replace H := Shut.mk (H.out.below hb); clear hb x0 x1 x2)
        go_ret
        exact ⟨rfl, H.out.bel⟩
end Go.Proofs.YtbanfccnmbmcfaaDoor
/- GrwE: A region that draws its order, behind its last free operation: one alone may come up at a time: a call, or a value of the memory as it is. -/
namespace Go.Proofs.YtbanfccnmbmcfaaDoor
set_option maxRecDepth 100000
open Go.RowKit
section
variable {P : Program} {Q : Exit → Act → World → Prop} {md : Region.Mode}
/-- One alone may come up: a call; the rest behind it. -/
theorem wpA_mid {L r : List Oper} {i : Nat} {oi : Oper} {f : FuncId} {args : Array Value} {n : Nat} {l : Array Bool} {a : Act} {w : World} (hr : Region.ready md L.toArray l = [i]) (hi : L.drop i = oi :: r) (hw : Region.wanted oi (yielded L.toArray a.tmps) = true) (hy : (execOp a.eval oi).run P w = .ok (.enter f args) w)
    (h : Calls P f args w fun e y => ∃ v, e = .returned v ∧ wpAny P md L.toArray Q n (l.setIfInBounds i true) (a.put oi.dst v) y) : wpAny P md L.toArray Q (n + 1) l a w := by
  refine ⟨fun h => (by rw [hr] at h; cases h), fun j hj => ?_⟩
  rw [hr, List.mem_singleton] at hj
  subst hj
  unfold wpOp
  rw [at_drop hi]
  dsimp only
  rw [if_pos hw]
  refine Or.inl ?_
  unfold Oper.wp
  rw [hy]
  refine h.mono ?_
  rintro e y ⟨v, rfl, hq⟩
  exact hq
/-- One alone may come up: a value; the rest behind it. -/
theorem wpA_here {L r : List Oper} {i : Nat} {oi : Oper} {v : Value} {n : Nat} {l : Array Bool} {a : Act} {w y : World} (hr : Region.ready md L.toArray l = [i]) (hi : L.drop i = oi :: r) (hw : Region.wanted oi (yielded L.toArray a.tmps) = true) (hy : (execOp a.eval oi).run P w = .ok (.value v) y)
    (h : wpAny P md L.toArray Q n (l.setIfInBounds i true) (a.put oi.dst v) y) : wpAny P md L.toArray Q (n + 1) l a w := by
  refine ⟨fun h => (by rw [hr] at h; cases h), fun j hj => ?_⟩
  rw [hr, List.mem_singleton] at hj
  subst hj
  unfold wpOp
  rw [at_drop hi]
  dsimp only
  rw [if_pos hw]
  refine Or.inl ?_
  unfold Oper.wp
  rw [hy]
  exact h
/-- Two may come up, each a store: in either order. -/
theorem wpA_two {L r r' : List Oper} {i j : Nat} {oi oj : Oper} {n : Nat} {l : Array Bool} {a : Act} {w y z : World} (hr : Region.ready md L.toArray l = [i, j]) (hi : L.drop i = oi :: r) (hj : L.drop j = oj :: r') (hw : Region.wanted oi (yielded L.toArray a.tmps) = true) (hw' : Region.wanted oj (yielded L.toArray a.tmps) = true)
    (hy : (execOp a.eval oi).run P w = .ok .skip y) (hz : (execOp a.eval oj).run P w = .ok .skip z)
    (h : wpAny P md L.toArray Q n (l.setIfInBounds i true) (a.put oi.dst undef) y) (h' : wpAny P md L.toArray Q n (l.setIfInBounds j true) (a.put oj.dst undef) z) : wpAny P md L.toArray Q (n + 1) l a w := by
  refine ⟨fun h => (by rw [hr] at h; cases h), fun k hk => ?_⟩
  rw [hr] at hk
  rcases List.mem_cons.1 hk with rfl | hk
  · unfold wpOp
    rw [at_drop hi]
    dsimp only
    rw [if_pos hw]
    refine Or.inl ?_
    unfold Oper.wp
    rw [hy]
    exact h
  · rw [List.mem_singleton] at hk
    subst hk
    unfold wpOp
    rw [at_drop hj]
    dsimp only
    rw [if_pos hw']
    refine Or.inl ?_
    unfold Oper.wp
    rw [hz]
    exact h'
end
end Go.Proofs.YtbanfccnmbmcfaaDoor
/- SpM: The model's DropUnit (written by gen/mkdrop.py). -/
namespace Go.Proofs.YtbanfccnmbmcfaaDoor
set_option maxRecDepth 100000
open Go.RowKit BigFrame
attribute [local go_sem ↓] Go.wp_at_zero Go.wp_at_succ

theorem run_append_op {P : Program} {w y : World} {o : Oper} {a : Act} {s x : Operand} {t : TypeId} {v1 v2 v : Value} (ho : o.op = .call { callee := .builtin .append, args := #[s, x], argTypes := #[t, t] }) (hs : a.eval s = v1) (hx : a.eval x = v2) (hr : ∀ ty, (Builtin.append_ #[t, t] ty #[v1, v2]).run P w = .ok v y) : (execOp a.eval o).run P w = .ok (.value v) y := by
  simp [execOp, ho, resolve, invoke, builtin, hs, hx, hr, Result.andThen]
theorem setCells_setW (w : World) (g off : Nat) (vs : List Value) : w.setCells g off vs = setW w g off vs := by
  induction vs generalizing w off with
  | nil => rfl
  | cons v vs ih => exact ih _ _
theorem WCells.pre {w : World} {g : Nat} {A B : List Value} (h : WCells w g (A ++ B)) : WCells w g A :=
  ⟨h.1, fun i v hv => h.2 i v (by rw [List.getElem?_append_left (List.getElem?_eq_some_iff.1 hv).1]; exact hv)⟩
theorem turned_setW (w : World) (g off : Nat) (vs : List Value) {lo hi : Nat} (h1 : lo ≤ g) (h2 : g < hi) : Turned w (setW w g off vs) lo hi := by
  induction vs generalizing w off with
  | nil => exact Turned.refl _ _ _
  | cons v vs ih => exact (Turned.of_grown (gb_set' w g off v) h1 h2).trans (ih _ _)
theorem uns_app (a b : List UnM) : unS (a ++ b) = unS a ++ unS b := by simp [unS]
/-- What stands behind a place moves up by one. -/
theorem uns_shift (us : List UnM) (k : Nat) (h : k < us.length) : ∃ R, setL (unS us) (k * 4) (unS (us.drop (k + 1))) = unS (us.take k ++ us.drop (k + 1)) ++ R := by
  refine ⟨unS ((us.drop k).drop (us.length - k - 1)), ?_⟩
  have e1 : unS us = unS (us.take k) ++ unS (us.drop k) := by rw [← uns_app, List.take_append_drop]
  have e2 : unS (us.drop k) = unS ((us.drop k).take (us.length - k - 1)) ++ unS ((us.drop k).drop (us.length - k - 1)) := by rw [← uns_app, List.take_append_drop]
  have l1 : (unS (us.take k)).length = k * 4 := by rw [unS_len, List.length_take, Nat.min_eq_left (by omega)]
  rw [e1, show k * 4 = (unS (us.take k)).length + 0 by omega, setL_app, e2, setL_head _ _ _ (by rw [unS_len, unS_len, List.length_take, List.length_drop, List.length_drop, Nat.min_eq_left (by omega)]; congr 1), uns_app, List.append_assoc]
end Go.Proofs.YtbanfccnmbmcfaaDoor
/- UnP: Units that go up by their keys, plain: what is put lies in its place; what is put is got, until it is spoilt or gone; all others stay. -/
namespace Go.Proofs.YtbanfccnmbmcfaaDoor
set_option maxRecDepth 100000
open Go.RowKit

theorem sum_turned (t : ByteArray) (i : Nat) (h : i < t.size) : sumN (turnAt t i) ≠ sumN t := by
  intro e
  have hl : t.data.toList.length = t.size := Array.length_toList
  have e1 : W.sumOf (turnAt t i) = W.sumOf t := by
    unfold sumN at e
    exact BitVec.eq_of_toNat_eq (by omega)
  have hi : i < t.data.toList.length := by omega
  have e2 : t.data.toList = t.data.toList.take i ++ t.data.toList[i] :: t.data.toList.drop (i + 1) := by
    rw [← List.drop_eq_getElem_cons hi, List.take_append_drop]
  have e3 : (turnAt t i).data.toList = t.data.toList.take i ++ (t.data.toList[i] ^^^ 1) :: t.data.toList.drop (i + 1) := by
    unfold turnAt
    have : t.data.toList.getD i 0 = t.data.toList[i] := by simp only [List.getD, List.getElem?_eq_getElem hi, Option.getD_some]
    rw [this]
    show (t.data.toList.set i _).toArray.toList = _
    rw [List.set_eq_take_append_cons_drop, if_pos hi]
  unfold W.sumOf at e1
  rw [e3] at e1
  conv at e1 => rhs; rw [e2]
  have k := W.crc_turned _ _ _ _ _ e1
  generalize t.data.toList[i] = b at k
  have all : ∀ y : Fin 256, (UInt8.ofNat y.val ^^^ 1) ≠ UInt8.ofNat y.val := by decide +kernel
  have := all ⟨b.toNat, b.toNat_lt⟩
  simp at this
  exact this k
/-- One key. -/
def unSame (a b : UnM) : Bool := a.group == b.group && a.index == b.index
def keyIs (g i : Int) (u : UnM) : Bool := u.group == g && u.index == i
theorem lt_iff (a b : UnM) : unLt a b = true ↔ (a.group < b.group ∨ (a.group = b.group ∧ a.index < b.index)) := by
  unfold unLt
  simp
theorem lt_not (a b : UnM) : unLt a b = false ↔ ¬ (a.group < b.group ∨ (a.group = b.group ∧ a.index < b.index)) := by
  rw [← lt_iff]
  simp
theorem lt_trans9 {a b c : UnM} (h : unLt a b = true) (k : unLt b c = true) : unLt a c = true := by
  rw [lt_iff] at *
  omega
theorem lt_asymm9 {a b : UnM} (h : unLt a b = true) : unLt b a = false := by
  rw [lt_iff] at h
  rw [lt_not]
  omega
theorem same_iff (a b : UnM) : unSame a b = true ↔ a.group = b.group ∧ a.index = b.index := by
  unfold unSame
  simp
theorem lt_tri {a b : UnM} (h : unLt a b = false) (k : unSame a b = false) : unLt b a = true := by
  rw [lt_not] at h
  rw [lt_iff]
  have : ¬ (a.group = b.group ∧ a.index = b.index) := by rw [← same_iff]; simp [k]
  omega
theorem same_lt {a b c : UnM} (h : unSame a b = true) (k : unLt a c = true) : unLt b c = true := by
  rw [same_iff] at h
  rw [lt_iff] at *
  omega
theorem same_irr {a b : UnM} (h : unSame a b = true) : unLt b a = false := by
  rw [same_iff] at h
  rw [lt_not]
  omega
/-- Units go up. -/
def UpU (L : List UnM) : Prop := L.Pairwise fun a b => unLt a b = true
theorem unAt_get {L : List UnM} {k : Nat} (hk : k < L.length) : unAt L k = (unOne L[k] && (decide (k = 0) || unLt (L.getD (k - 1) default) L[k])) := by
  unfold unAt
  have : L.getD k default = L[k] := by simp [List.getD, hk]
  rw [this]
theorem up_of_ok {L : List UnM} (h : unitsOk L = true) : UpU L := by
  have hk : ∀ k (hk : k + 1 < L.length), unLt L[k] L[k + 1] = true := fun k hk => by
    have := List.all_eq_true.1 h (k + 1) (by simpa using hk)
    rw [unAt_get hk] at this
    simp only [Bool.and_eq_true, Bool.or_eq_true, decide_eq_true_eq, Nat.add_one_ne_zero, false_or, Nat.add_sub_cancel] at this
    have e : L.getD k default = L[k] := by simp [List.getD, show k < L.length by omega]
    rw [e] at this
    exact this.2
  refine List.pairwise_iff_getElem.2 fun i j hi hj hij => ?_
  induction j with
  | zero => omega
  | succ j ih =>
    rcases Nat.lt_or_eq_of_le (Nat.le_of_lt_succ hij) with e | e
    · exact lt_trans9 (ih (by omega) e) (hk j hj)
    · subst e
      exact hk i hj
theorem one_of_ok {L : List UnM} (h : unitsOk L = true) : ∀ u ∈ L, unOne u = true := fun u hu => by
  obtain ⟨k, hk, rfl⟩ := List.getElem_of_mem hu
  have := List.all_eq_true.1 h k (by simpa using hk)
  rw [unAt_get hk] at this
  simp only [Bool.and_eq_true] at this
  exact this.1
theorem ok_of_up {L : List UnM} (h : UpU L) (h1 : ∀ u ∈ L, unOne u = true) : unitsOk L = true := by
  refine List.all_eq_true.2 fun k hk => ?_
  have hk : k < L.length := by simpa using hk
  rw [unAt_get hk, h1 _ (List.getElem_mem hk)]
  by_cases h0 : k = 0
  · simp [h0]
  · have e : L.getD (k - 1) default = L[k - 1] := by simp [List.getD, show k - 1 < L.length by omega]
    rw [e, List.pairwise_iff_getElem.1 h (k - 1) k (by omega) hk (by omega)]
    simp
/-- What is put lies between what is ahead of it and what is behind it. -/
theorem putL_cut {L : List UnM} {u : UnM} {i : Nat} (h1 : ∀ j (hj : j < L.length), j < i → unLt L[j] u = true) (h2 : ∀ j (hj : j < L.length), i ≤ j → unLt L[j] u = false) (hs : UpU L) :
    putL L u = L.take i ++ [u] ++ L.drop (if ∃ h : i < L.length, unSame L[i] u = true then i + 1 else i) := by
  have a1 : ∀ x ∈ L.take i, unLt x u = true := fun x hx => by
    obtain ⟨j, hj, rfl⟩ := List.getElem_of_mem hx
    rw [List.length_take] at hj
    rw [List.getElem_take]
    exact h1 j (by omega) (by omega)
  have a2 : ∀ x ∈ L.drop i, unLt x u = false := fun x hx => by
    obtain ⟨j, hj, rfl⟩ := List.getElem_of_mem hx
    rw [List.length_drop] at hj
    rw [List.getElem_drop]
    exact h2 (i + j) (by omega) (by omega)
  have e1 : L.filter (unLt · u) = L.take i := by
    conv => lhs; rw [← List.take_append_drop i L]
    rw [List.filter_append, List.filter_eq_self.2 a1, List.filter_eq_nil_iff.2 (fun x hx => by rw [a2 x hx]; simp), List.append_nil]
  have e2 : L.filter (unLt u ·) = (L.drop i).filter (unLt u ·) := by
    conv => lhs; rw [← List.take_append_drop i L]
    rw [List.filter_append, List.filter_eq_nil_iff.2 (fun x hx => by rw [lt_asymm9 (a1 x hx)]; simp), List.nil_append]
  unfold putL
  rw [e1, e2]
  congr 1
  by_cases hi : i < L.length
  · have hd : L.drop i = L[i] :: L.drop (i + 1) := List.drop_eq_getElem_cons hi
    have hr : ∀ x ∈ L.drop (i + 1), unLt L[i] x = true := fun x hx => by
      have hs' : UpU (L.drop i) := List.Pairwise.sublist (List.drop_sublist _ _) hs
      unfold UpU at hs'
      rw [hd] at hs'
      exact (List.pairwise_cons.1 hs').1 x hx
    cases hq : unSame L[i] u with
    | true =>
      rw [if_pos ⟨hi, hq⟩, hd, List.filter_cons, same_irr hq]
      simp only [Bool.false_eq_true, if_false]
      exact List.filter_eq_self.2 fun x hx => same_lt hq (hr x hx)
    | false =>
      rw [if_neg (fun ⟨_, h⟩ => by rw [hq] at h; cases h)]
      have hlt : unLt u L[i] = true := lt_tri (h2 i hi (Nat.le_refl _)) hq
      refine List.filter_eq_self.2 fun x hx => ?_
      rw [hd] at hx
      rcases List.mem_cons.1 hx with rfl | hx
      · exact hlt
      · exact lt_trans9 hlt (hr x hx)
  · rw [if_neg (fun ⟨h, _⟩ => hi h), List.drop_of_length_le (by omega)]
    rfl
/-- What is got, by the first one of a key. -/
theorem getX_find (h : HM) (g i : Int) : getX h g i = match h.us.find? (keyIs g i) with
    | some u => if h.up && unSound u then (u.text, true) else (⟨#[]⟩, false)
    | none => (⟨#[]⟩, false) := by
  have hk : ∀ L : List UnM, L.find? (keyIs g i) = if unIdx L g i < L.length then some (L.getD (unIdx L g i) default) else none := by
    intro L
    induction L with
    | nil => rfl
    | cons a L ih =>
      unfold unIdx at *
      rw [List.find?_cons, List.findIdx_cons]
      show (match keyIs g i a with | true => some a | false => L.find? (keyIs g i)) = if (bif keyIs g i a then 0 else L.findIdx (keyIs g i) + 1) < (a :: L).length then some ((a :: L).getD (bif keyIs g i a then 0 else L.findIdx (keyIs g i) + 1) default) else none
      cases keyIs g i a with
      | true => simp
      | false =>
        have e : L.findIdx (fun u => u.group == g && u.index == i) = L.findIdx (keyIs g i) := rfl
        rw [e] at ih
        dsimp only
        rw [ih]
        simp
  rw [hk]
  unfold getX
  by_cases hl : unIdx h.us g i < h.us.length
  · rw [if_pos hl]
    simp [hl]
  · rw [if_neg hl]
    simp [hl]
theorem putX_parts {L : List UnM} {u : UnM} (hs : UpU L) : ∃ A M Z, L = A ++ M ++ Z ∧ putL L u = A ++ [u] ++ Z ∧ (∀ x ∈ A, unLt x u = true) ∧ (∀ x ∈ Z, unLt u x = true) ∧ (∀ x ∈ M, unSame x u = true) := by
  refine ⟨L.filter (unLt · u), L.filter (unSame · u), L.filter (unLt u ·), ?_, rfl, fun x hx => (List.mem_filter.1 hx).2, fun x hx => (List.mem_filter.1 hx).2, fun x hx => (List.mem_filter.1 hx).2⟩
  induction L with
  | nil => rfl
  | cons a L ih =>
    have h1 := List.pairwise_cons.1 hs
    have ih := ih h1.2
    rw [List.filter_cons, List.filter_cons, List.filter_cons]
    cases ha : unLt a u with
    | true =>
      have hb : unLt u a = false := lt_asymm9 ha
      have hc : unSame a u = false := by cases hc : unSame a u with
        | false => rfl
        | true =>
          have h2 := (same_iff _ _).1 hc
          have h3 := (lt_iff _ _).1 ha
          omega
      rw [hb, hc]
      simp only [if_true, Bool.false_eq_true, if_false, List.cons_append, List.cons.injEq, true_and]
      exact ih
    | false =>
      have n1 : L.filter (unLt · u) = [] := by
        refine List.filter_eq_nil_iff.2 fun x hx => ?_
        have := h1.1 x hx
        have h4 := (lt_iff _ _).1 this
        have h5 := (lt_not _ _).1 ha
        have : ¬ unLt x u = true := by rw [lt_iff]; omega
        exact this
      rw [n1] at ih ⊢
      cases hb : unSame a u with
      | true =>
        rw [same_irr hb]
        simp only [if_true, Bool.false_eq_true, if_false, List.cons_append, List.nil_append, List.cons.injEq, true_and] at *
        exact ih
      | false =>
        have hc : unLt u a = true := lt_tri ha hb
        have n2 : L.filter (unSame · u) = [] := by
          refine List.filter_eq_nil_iff.2 fun x hx => ?_
          have h4 := (lt_iff _ _).1 (h1.1 x hx)
          have h5 := (lt_iff _ _).1 hc
          have : ¬ unSame x u = true := by rw [same_iff]; omega
          exact this
        rw [n2] at ih ⊢
        rw [hc]
        simp only [if_true, Bool.false_eq_true, if_false, List.nil_append, List.cons.injEq, true_and] at *
        exact ih
theorem key_same {u x : UnM} : keyIs u.group u.index x = unSame x u := rfl
theorem lt_nokey {u x : UnM} (h : unLt x u = true ∨ unLt u x = true) : unSame x u = false := by
  cases hc : unSame x u with
  | false => rfl
  | true =>
    have h2 := (same_iff _ _).1 hc
    rw [lt_iff, lt_iff] at h
    omega
theorem find_mid {A Z : List UnM} {u v : UnM} (hA : ∀ x ∈ A, unSame x u = false) (hv : unSame v u = true) : (A ++ [v] ++ Z).find? (keyIs u.group u.index) = some v := by
  rw [List.append_assoc, List.find?_append, List.find?_eq_none.2 (fun x hx => by rw [key_same, hA x hx]; simp)]
  simp [key_same, hv]
theorem idx_mid {A Z : List UnM} {u v : UnM} (hA : ∀ x ∈ A, unSame x u = false) (hv : unSame v u = true) : unIdx (A ++ [v] ++ Z) u.group u.index = A.length := by
  unfold unIdx
  rw [List.findIdx_eq (by simp)]
  refine ⟨?_, fun j hj => ?_⟩
  · simp only [List.append_assoc, List.cons_append, List.nil_append, List.getElem_append_right (Nat.le_refl _), Nat.sub_self, List.getElem_cons_zero]
    exact hv
  · have : (A ++ [v] ++ Z)[j]'(by simp; omega) = A[j] := by
      simp [List.getElem_append_left, hj]
    rw [this]
    exact hA _ (List.getElem_mem hj)
theorem get_mid {A Z : List UnM} {v : UnM} : (A ++ [v] ++ Z).getD A.length default = v := by simp [List.getD]
theorem set_mid {A Z : List UnM} {v x : UnM} : (A ++ [v] ++ Z).set A.length x = A ++ [x] ++ Z := by simp
theorem cut_mid {A Z : List UnM} {v : UnM} : (A ++ [v] ++ Z).take A.length ++ (A ++ [v] ++ Z).drop (A.length + 1) = A ++ Z := by
  have : A ++ [v] ++ Z = A ++ (v :: Z) := by simp
  rw [this, List.take_left, ← List.drop_drop, List.drop_left]
  rfl
theorem lt_mid {A Z : List UnM} {v : UnM} : A.length < (A ++ [v] ++ Z).length := by simp
theorem size_list (t : ByteArray) (h : 0 < t.size) : (t.toList == []) = false := by
  rw [Go.ByteArray.toList_eq]
  cases hq : t.data.toList with
  | cons a l => rfl
  | nil =>
    have : t.data.toList.length = t.size := rfl
    rw [hq] at this
    simp at this
    omega
/-- Nothing that FnUnits asks of plain hosts is otherwise. -/
structure UnitsAll (H : HM) (u : UnM) (p : Int) (N B D : HM) : Prop where
  put : putX H u = (N, true)
  up : N.up = true
  okN : hostOk N = true
  got : getX N u.group u.index = (u.text, true)
  spoil : spoilX N u.group u.index p = (B, true)
  okB : hostOk B = true
  bad : (getX B u.group u.index).2 = false
  again : spoilX B u.group u.index p = (B, false)
  drop : dropU N u.group u.index = (D, true)
  okD : hostOk D = true
  none : (getX D u.group u.index).2 = false
  others : ∀ x ∈ H.us, unSame x u = false → getX H x.group x.index = getX D x.group x.index
  down : (getX ⟨N.id, false, N.us⟩ u.group u.index).2 = false
  len : D.us.length + 1 = N.us.length
  low : N.us.length ≤ H.us.length + 1
theorem up_mid {A Z : List UnM} {v : UnM} (hs : UpU (A ++ Z)) (h1 : ∀ x ∈ A, unLt x v = true) (h2 : ∀ x ∈ Z, unLt v x = true) : UpU (A ++ [v] ++ Z) := by
  unfold UpU at *
  rw [List.pairwise_append] at hs
  rw [List.append_assoc, List.pairwise_append]
  refine ⟨hs.1, ?_, fun x hx y hy => ?_⟩
  · rw [List.cons_append, List.nil_append, List.pairwise_cons]
    exact ⟨h2, hs.2.1⟩
  · rcases List.mem_append.1 hy with h | h
    · simp at h; subst h; exact h1 x hx
    · exact hs.2.2 x hx y h
theorem units_all (H : HM) (u : UnM) (p : Int) (hup : H.up = true) (hok : hostOk H = true) (hg : 1 ≤ u.group ∧ u.group ≤ 100000) (hi : 0 ≤ u.index ∧ u.index ≤ 5) (ht : u.text.size ≤ 200) (ht0 : 0 < u.text.size) (hp : 0 ≤ p) : ∃ N B D, UnitsAll H u p N B D := by
  have hu : unitsOk H.us = true ∧ inI H.id 1 7 = true := by unfold hostOk at hok; simpa using hok
  have hs := up_of_ok hu.1
  have hone := one_of_ok hu.1
  have so : summed u = ⟨u.group, u.index, u.text, sumN u.text⟩ := rfl
  obtain ⟨A, M, Z, hL, hput, hA, hZ, hM⟩ := putX_parts (u := summed u) hs
  have hAs : ∀ x ∈ A, unSame x u = false := fun x hx => lt_nokey (u := summed u) (.inl (hA x hx))
  have hZs : ∀ x ∈ Z, unSame x u = false := fun x hx => lt_nokey (u := summed u) (.inr (hZ x hx))
  have same : ∀ t s, unSame ⟨u.group, u.index, t, s⟩ u = true := fun t s => by unfold unSame; simp
  have hlow := sumN_low u.text
  have hAZ : UpU (A ++ Z) := by
    have : (A ++ Z).Sublist H.us := by
      rw [hL, List.append_assoc]
      exact List.Sublist.append (List.Sublist.refl _) (List.sublist_append_right _ _)
    exact List.Pairwise.sublist this hs
  have h1A : ∀ x ∈ A ++ Z, unOne x = true := fun x hx => hone x (by
    rw [hL]
    rcases List.mem_append.1 hx with h | h
    · exact List.mem_append_left _ (List.mem_append_left _ h)
    · exact List.mem_append_right _ h)
  have ok3 : ∀ t : ByteArray, t.size ≤ 200 → hostOk ⟨H.id, H.up, A ++ [⟨u.group, u.index, t, sumN u.text⟩] ++ Z⟩ = true := fun t ht => by
    unfold hostOk
    dsimp only
    rw [hu.2, Bool.and_true]
    refine ok_of_up (up_mid hAZ (fun x hx => ?_) (fun x hx => ?_)) fun x hx => ?_
    · have := (lt_iff _ _).1 (hA x hx); rw [lt_iff]; exact this
    · have := (lt_iff _ _).1 (hZ x hx); rw [lt_iff]; exact this
    · rcases List.mem_append.1 hx with h | h
      · rcases List.mem_append.1 h with h | h
        · exact h1A x (List.mem_append_left _ h)
        · simp at h
          subst h
          unfold unOne inI
          simp [hg, hi, hlow, ht]
      · exact h1A x (List.mem_append_right _ h)
  have idx : ∀ t s, unIdx (A ++ [⟨u.group, u.index, t, s⟩] ++ Z) u.group u.index = A.length := fun t s => idx_mid hAs (same t s)
  have hsize : ∀ k, (turnAt u.text k).size = u.text.size := fun k => by
    unfold turnAt
    show (u.text.data.toList.set k _).toArray.size = u.text.data.size
    simp
  have hnone : (A ++ Z).find? (keyIs u.group u.index) = none := List.find?_eq_none.2 fun x hx => by
    rw [key_same]
    rcases List.mem_append.1 hx with h | h
    · rw [hAs x h]; simp
    · rw [hZs x h]; simp
  have hturn := sum_turned u.text (p.toNat % u.text.size) (Nat.mod_lt _ ht0)
  refine ⟨⟨H.id, H.up, A ++ [⟨u.group, u.index, u.text, sumN u.text⟩] ++ Z⟩, ⟨H.id, H.up, A ++ [⟨u.group, u.index, turnAt u.text (p.toNat % u.text.size), sumN u.text⟩] ++ Z⟩, ⟨H.id, H.up, A ++ Z⟩, ?_⟩
  constructor
  · unfold putX
    rw [hput, so, hok, hup, ← hup, ok3 _ ht, hup]
    rfl
  · exact hup
  · exact ok3 _ ht
  · rw [getX_find, find_mid hAs (same _ _)]
    unfold unSound
    simp [hup]
  · unfold spoilX
    dsimp only
    rw [idx, get_mid, set_mid]
    dsimp only
    rw [size_list _ ht0]
    unfold unSound
    simp [hp]
  · exact ok3 _ (by rw [hsize]; exact ht)
  · rw [getX_find, find_mid hAs (same _ _)]
    unfold unSound
    have : (sumN u.text == sumN (turnAt u.text (p.toNat % u.text.size))) = false := by
      cases hq : sumN u.text == sumN (turnAt u.text (p.toNat % u.text.size)) with
      | false => rfl
      | true => exact absurd (by simpa using hq : sumN u.text = _).symm hturn
    dsimp only
    rw [this]
    simp
  · unfold spoilX
    dsimp only
    rw [idx, get_mid]
    unfold unSound
    have : (sumN u.text == sumN (turnAt u.text (p.toNat % u.text.size))) = false := by
      cases hq : sumN u.text == sumN (turnAt u.text (p.toNat % u.text.size)) with
      | false => rfl
      | true => exact absurd (by simpa using hq : sumN u.text = _).symm hturn
    dsimp only
    rw [this]
    simp
  · unfold dropU
    dsimp only
    rw [idx, if_pos lt_mid, cut_mid]
  · unfold hostOk
    dsimp only
    rw [ok_of_up hAZ h1A, hu.2]
    rfl
  · rw [getX_find]
    dsimp only
    rw [hnone]
  · intro x hx hxu
    rw [getX_find, getX_find]
    have e : H.us.find? (keyIs x.group x.index) = (A ++ Z).find? (keyIs x.group x.index) := by
      rw [hL, List.find?_append, List.find?_append, List.find?_append, (show M.find? (keyIs x.group x.index) = none from List.find?_eq_none.2 fun y hy => ?_), Option.or_none]
      have h1 := (same_iff _ _).1 (hM y hy)
      have h2 : ¬ unSame x u = true := by rw [hxu]; simp
      rw [same_iff] at h2
      intro h3
      have h4 : unSame y x = true := h3
      rw [same_iff] at h4
      rw [so] at h1
      dsimp only at h1
      omega
    rw [e]
  · rw [getX_find]
    dsimp only
    split <;> simp
  · simp
    omega
  · show (A ++ [_] ++ Z).length ≤ _
    rw [hL]
    simp
    omega
end Go.Proofs.YtbanfccnmbmcfaaDoor
