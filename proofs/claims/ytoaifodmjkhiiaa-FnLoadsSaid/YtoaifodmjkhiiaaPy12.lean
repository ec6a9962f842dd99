/- Texts of ours, laid one behind the other: LawLd, OpenC. -/
import Derived.Test.YtoaifodmjkhiiaaPy11
import Derived.OpenShut
/- LawLd: The law FnLoads (written by gen/mklawld.py). -/
namespace Go.Proofs.Ytoaifodmjkhiiaa
set_option maxRecDepth 100000
open Go.RowKit BigFrame
attribute [local go_sem ↓] Go.wp_at_zero Go.wp_at_succ

theorem code_up9 {w : World} {B C len : Nat} {a : Option Addr} (h : CodeAt w B a len) (hC : B ≤ C) : CodeAt w C a len := ⟨h.1, fun hp => by
  obtain ⟨b, off, e, hb, hx⟩ := h.2 hp
  exact ⟨b, off, e, by omega, hx⟩⟩
theorem count_up {hs : List HM} {k : Nat} (hk : k < hs.length) : ((hs.take (k + 1)).filter fun h => h.up).length = ((hs.take k).filter fun h => h.up).length + if hs[k].up = true then 1 else 0 := by
  rw [List.take_succ_eq_append_getElem hk, List.filter_append, List.length_append]
  congr 1
  rw [List.filter_cons, List.filter_nil]
  split <;> simp_all
set_option maxRecDepth 1000000 in
set_option maxHeartbeats 8000000 in
theorem loads_walk (a : Option Addr) (len cap : Nat) (w : World) (hcode : CodeAt w w.heap.size a len) :
    Calls Try.prog 5 #[.slice a len cap] w fun e w' => e = .returned (.bool true) ∧ Below w.heap.size w w' := by
  have hbig : decide ((1048576 : Int) < (len : Int)) = false := by have := hcode.1; simp; omega
  have HC := Shut.mk hcode
  clear hcode
  go_enter Try.func5, Try.ntmps5
  go_wp2_with fail
  refine (big_any a len cap _).mono ?_
  rintro e w1 ⟨rfl, hw1⟩
  obtain rfl : w = w1 := hw1.symm
  clear hw1
  rw [hbig]
  go_wp2_with fail
  refine (drawHosts_any w a len cap HC.out).mono ?_
  rintro e w1 ⟨gH, cH, gs, s, t, rfl, _, _, _, hwg⟩
  have HG := Shut.mk hwg
  have HB1 := Shut.mk hwg.bel
  clear hwg
  go_wp2_with fail
  refine (drawPlaces_any w1 a len cap (code_up9 (CodeAt.below HC.out HB1.out (Nat.le_refl _)) HB1.out.size)).mono ?_
  rintro e w2 ⟨gp, cp, l, rfl, gp0, gp1, hl12, hlx, hlc, hb2⟩
  obtain ⟨x0, hx0⟩ : ∃ q, q = l.getD 0 0 := ⟨_, rfl⟩
  have c0 := hlc 0 (by omega)
  rw [← hx0] at c0
  have hx1 : 0 ≤ x0 := by rw [hx0]; exact (hlx _ (by simp [List.getD, hl12])).1
  have HG2 := Shut.mk (HG.out.below hb2)
  have HB2 := Shut.mk (HB1.out.trans (hb2.mono HB1.out.size))
  obtain ⟨n, hn⟩ : ∃ n : Nat, (n : Int) = 1 + x0 % 7 := ⟨(1 + x0 % 7).toNat, by omega⟩
  have hn7 : 1 ≤ n ∧ n ≤ 7 := by omega
  have hn2 : 1 + x0 % 7 = (n : Int) := hn.symm
  have HPG := Shut.mk (implPlaceGroup (some ⟨gH, 0, none⟩) gs cH (n : Int) w2 HG2.out.row (by rw [HG2.out.len]; omega) (HG2.out.good.sum (by omega)) ⟨by omega, by omega⟩)
  rw [HG2.out.len] at HPG
  have HOK := Shut.mk (plc_ok (hms gs) n)
  have HNO := Shut.mk (plc_no (hs := hms gs) (n := (n : Int)))
  have HLN := Shut.mk (plc_len_ok (hs := hms gs) (n := n))
  have HLE9 := Shut.mk (fun (x y : HM) (hx : x ∈ hms gs) (hy : y ∈ hms gs) => plc_least HG2.out.good (n := (n : Int)) hx hy)
  have HMM := Shut.mk (fun (x : Int) (hx : x ∈ (plcX (hms gs) (n : Int)).1) => plc_mem hx)
  generalize plcX (hms gs) (n : Int) = PP at *
  obtain ⟨ids, ok⟩ := PP
  unfold PlcPost at HPG
  dsimp only at HPG HOK HNO HLN HLE9 HMM
  clear hlc hlx hl12 hx0 hb2 HB1 HG gp0 hn
  go_wp2_with fail
  refine HPG.out.mono ?_
  rintro e w3 ⟨v3, rfl, hown, hb3⟩
  obtain ⟨ai, ci, rfl⟩ := own_any hown
  have HID : Shut (CRow w3 ai (iv ids)) := ⟨(FRw.of_own hown).1.crow⟩
  have HG3 := Shut.mk (HG2.out.below hb3)
  have HB3 := Shut.mk (HB2.out.trans (hb3.mono HB2.out.size))
  clear hown hb3 HPG HG2 HB2 c0 gp1 hx1 hn2
  obtain ⟨ni, hni⟩ : ∃ q, q = ids.length := ⟨_, rfl⟩
  have HNI := Shut.mk hni
  rw [← hni] at HLN ⊢
  clear hni
  go_upto_region 8 with fail
  go_loopw [10, 11] (fun u9 i9 wr => ∃ (k u : Nat), i9 = .int .i64 (k : Nat) ∧ u9 = .int .i64 (u : Nat) ∧ k ≤ 7 ∧ u ≤ k ∧ wr = w3 ∧ Shut (u = (((hms gs).take k).filter fun h => h.up).length)) (fun _ i9 _ => 7 - (intOf i9).toNat)
  case atStart => exact ⟨0, 0, rfl, rfl, by omega, by omega, rfl, ⟨by simp⟩⟩
  case round =>
    obtain ⟨k, u, rfl, rfl, hk, huk, hwr, HU⟩ := hrel
    have hw9 := hwr.symm
    clear hwr
    subst hw9
    by_cases hlt : k < 7
    case pos =>
      have hkg : k < gs.length := by rw [HG3.out.len]; exact hlt
      obtain ⟨b1, o1, r, e1, hre, lb1, hc1⟩ := hs_at HG3.out.row (Below.refl _ _) hkg
      simp only [Option.some.injEq, Addr.mk.injEq, and_true] at e1
      obtain ⟨rfl, rfl⟩ := e1
      have d1 := (hc1 w3 (Below.refl _ _)).2.1
      rw [Nat.zero_add] at d1
      have hcu := count_up (hs := hms gs) (k := k) (by rw [hms_len]; exact hkg)
      have hme : (hms gs)[k]'(by rw [hms_len]; exact hkg) = r.h := by rw [hre]; simp [hms]
      rw [hme, ← HU.out] at hcu
      have HCU := Shut.mk hcu
      have k0 : (0 : Int) ≤ (k : Int) := by omega
      have k1 : (k : Int) < 7 := by omega
      clear hc1 hre hcu hme
      cases hup : r.h.up with
      | true =>
        rw [hup] at d1 HCU
        have HU2 : Shut (u + 1 = (((hms gs).take (k + 1)).filter fun h => h.up).length) := ⟨by rw [HCU.out]; simp⟩
        clear hup
        go_wp2_with fail
        go_roundw
        case rel => exact ⟨k + 1, u + 1, by go_num, by go_num, by omega, by omega, by first | rfl | trivial, HU2⟩
        case measure => simp [intOf]; omega
      | false =>
        rw [hup] at d1 HCU
        have HU2 : Shut (u = (((hms gs).take (k + 1)).filter fun h => h.up).length) := ⟨by rw [HCU.out]; simp⟩
        clear hup
        go_wp2_with fail
        go_roundw
        case rel => exact ⟨k + 1, u, by go_num, rfl, by omega, by omega, by first | rfl | trivial, HU2⟩
        case measure => simp [intOf]; omega
    have hk9 : ¬ (k : Int) < 7 := by omega
    have HOU : Shut (ok = decide (n ≤ u)) := ⟨by rw [HOK.out, HU.out, List.take_of_length_le (by rw [hms_len, HG3.out.len]; omega)]⟩
    clear HU HOK
    cases ok with
    | false =>
      have hnu : ¬ n ≤ u := by have := HOU.out; simpa using this.symm
      have hnz : ni = 0 := by rw [HNI.out, HNO.out rfl]; rfl
      subst hnz
      have hd : decide (n ≤ u) = false := by simpa using hnu
      have hd2 : decide ((n : Int) ≤ (u : Int)) = false := by simp; omega
      have hd3 : ¬ (n : Int) ≤ (u : Int) := by omega
      go_wp2_with fail
      go_ret
      exact ⟨rfl, HB3.out⟩
    | true =>
    have hnu : n ≤ u := by have := HOU.out; simpa using this.symm
    have hnn : ni = n := HLN.out rfl
    have HNN := Shut.mk hnn
    have hd2 : decide ((n : Int) ≤ (u : Int)) = true := by simp; omega
    have hd : decide (n ≤ u) = true := by simpa using hnu
    have hd3 : (n : Int) ≤ (u : Int) := by omega
    have hni7 : ni ≤ 7 := by omega
    clear HOU HNO HLN hnn
    go_upto_region 17 with fail
    go_loopw [12] (fun i9 wr => ∃ (i : Nat), i9 = .int .i64 (i : Nat) ∧ i ≤ 7 ∧ Shut (Below w3.heap.size w3 wr)) (fun i9 _ => 7 - (intOf i9).toNat)
    case atStart => exact ⟨0, rfl, by omega, ⟨Below.refl _ _⟩⟩
    case round =>
      obtain ⟨i, rfl, hi, HBQ⟩ := hrel
      by_cases hi7 : i < 7
      case neg =>
        have hi9 : ¬ (i : Int) < 7 := by omega
        have hnn := HNN.out
        subst hnn
        go_wp2_with fail
        go_ret
        exact ⟨rfl, HB3.out.trans (HBQ.out.mono HB3.out.size)⟩
      have hig : i < gs.length := by rw [HG3.out.len]; exact hi7
      obtain ⟨b1, o1, y, e1, hye, lb1, hc1⟩ := hs_at HG3.out.row HBQ.out hig
      simp only [Option.some.injEq, Addr.mk.injEq, and_true] at e1
      obtain ⟨rfl, rfl⟩ := e1
      have HCY : Shut (∀ x, Below wr.heap.size wr x → x.cell? ⟨gH, i * 3, none⟩ = some (.int .i64 y.h.id) ∧ x.cell? ⟨gH, i * 3 + 1, none⟩ = some (.bool y.h.up) ∧ x.cell? ⟨gH, i * 3 + 2, none⟩ = some (.slice y.loc y.h.us.length y.cap)) := ⟨fun x hx => by
        obtain ⟨q0, q1, q2, _⟩ := hc1 x hx
        rw [Nat.zero_add] at q0 q1 q2
        exact ⟨q0, q1, q2⟩⟩
      have hym : y.h ∈ hms gs := by rw [hye]; exact List.mem_map_of_mem (List.getElem_mem hig)
      obtain ⟨d0, d1, d2⟩ := HCY.out wr (Below.refl _ _)
      have i0 : (0 : Int) ≤ (i : Int) := by omega
      have i1 : (i : Int) < 7 := by omega
      clear hc1 hye
      have HLY := Shut.mk (fun x => implLoad y.h y.loc y.cap x)
      have HYM := Shut.mk hym
      have HKY : Shut (keyP y.h = (y.h.us.length, y.h.id)) := ⟨rfl⟩
      cases hup : y.h.up with
      | false =>
        rw [hup] at d1
        clear hup HCY HLY
        go_wp2_with fail
        go_roundw
        case rel => exact ⟨i + 1, by go_num, by omega, HBQ⟩
        case measure => simp [intOf]; omega
      | true =>
      rw [hup] at d1
      have HIN := Shut.mk (in_any (w := wr) (a := ai) (xs := ids) ci y.h.id (HID.out.stays HBQ.out) (by have := HNN.out; have := HNI.out; omega))
      rw [← HNI.out] at HIN
      have HYU := Shut.mk hup
      cases hct : ids.contains y.h.id with
      | true =>
        rw [hct] at HIN
        clear hup HCY HLY
        go_wp2_with (go_at_call 23; refine HIN.out.mono ?_; rintro e w4 ⟨rfl, hw4⟩; subst hw4)
        go_roundw
        case rel => exact ⟨i + 1, by go_num, by omega, HBQ⟩
        case measure => simp [intOf]; omega
      | false =>
      rw [hct] at HIN
      have HNT : Shut (y.h.id ∉ ids) := ⟨by intro q; rw [List.contains_iff_mem.2 q] at hct; cases hct⟩
      clear hup hct
      obtain ⟨⟨yid, yup, yus⟩, yl, yc⟩ := y
      dsimp only [hov] at *
      obtain ⟨yn, hyn⟩ : ∃ q, q = yus.length := ⟨_, rfl⟩
      rw [← hyn] at HCY HLY HKY d2
      clear hyn
      go_upto_region 21 with (go_at_call 23; refine HIN.out.mono ?_; rintro e w4 ⟨rfl, hw4⟩; subst hw4)
      clear d0 d1 d2 HIN
      go_loopw [13] (fun i9 wr => ∃ (k : Nat), i9 = .int .i64 (k : Nat) ∧ k ≤ ni ∧ Shut (Below w4.heap.size w4 wr)) (fun i9 _ => ni - (intOf i9).toNat)
      case atStart => exact ⟨0, rfl, by omega, ⟨Below.refl _ _⟩⟩
      case round =>
        obtain ⟨k, rfl, hkn, HBZ⟩ := hrel
        by_cases hkl : k < ni
        case neg =>
          obtain rfl : ni = k := by omega
          go_wp2_with fail
          go_roundw
          case rel => exact ⟨i + 1, by go_num, by omega, ⟨HBQ.out.trans (HBZ.out.mono HBQ.out.size)⟩⟩
          case measure => simp [intOf]; omega
        have hki : k < ids.length := by rw [← HNI.out]; exact hkl
        obtain ⟨x, hxm, hxe⟩ := HMM.out ids[k] (List.getElem_mem hki)
        obtain ⟨j, hj, hje⟩ := List.getElem_of_mem hxm
        have hxid : x.id = (j : Int) + 1 := by rw [← hje]; exact (HG3.out.good.2 j hj).1
        have hjg : j < gs.length := by rw [← hms_len]; exact hj
        have hj7 : j < 7 := by rw [← HG3.out.len]; exact hjg
        have hpl := HLE9.out x ⟨yid, yup, yus⟩ hxm HYM.out HYU.out (by rw [hxe]; exact List.getElem_mem hki) HNT.out
        rw [plLe_iff, HKY.out] at hpl
        have HBW := Shut.mk (HBQ.out.trans (HBZ.out.mono HBQ.out.size))
        obtain ⟨bi, oi, eai, lbi, hci⟩ := (HID.out.stays HBW.out) (by show 0 < (iv ids).length; simp [iv]; omega)
        have dk := hci k (.int .i64 ((j : Int) + 1)) (by rw [← hxid, hxe]; simp [iv, hki])
        obtain ⟨b2, o2, r, e3, hre, lb2, hc2⟩ := hs_at HG3.out.row HBW.out hjg
        simp only [Option.some.injEq, Addr.mk.injEq, and_true] at e3
        obtain ⟨rfl, rfl⟩ := e3
        obtain ⟨p0, p1, p2, _⟩ := hc2 wr (Below.refl _ _)
        rw [Nat.zero_add] at p0 p1 p2
        have hrx : r.h = x := by rw [hre, ← hje]; simp [hms]
        rw [← hrx] at hpl
        have HLX := Shut.mk (fun z => implLoad r.h r.loc r.cap z)
        have hkx : keyP r.h = (r.h.us.length, r.h.id) := rfl
        rw [hkx] at hpl
        obtain ⟨⟨xid, xup, xus⟩, xl, xc⟩ := r
        dsimp only [hov] at *
        obtain ⟨xn, hxn⟩ : ∃ q, q = xus.length := ⟨_, rfl⟩
        rw [← hxn] at HLX p2 hpl
        have k0 : (0 : Int) ≤ (k : Int) := by omega
        have k1 : (k : Int) < (ni : Int) := by omega
        have j0 : (0 : Int) ≤ (j : Int) := by omega
        have j1 : (j : Int) < 7 := by omega
        have j2 : (j : Int) + 1 - 1 = (j : Int) := by omega
        have HBX0 := Shut.mk (wcells_new wr #[.int .i64 xid, .bool xup, .slice xl xn xc] 29)
        have HCZ : Shut (∀ z, Below wr.heap.size wr z → z.cell? ⟨gH, i * 3, none⟩ = some (.int .i64 yid) ∧ z.cell? ⟨gH, i * 3 + 1, none⟩ = some (.bool yup) ∧ z.cell? ⟨gH, i * 3 + 2, none⟩ = some (.slice yl yn yc)) := ⟨fun z hz => HCY.out z (HBZ.out.trans (hz.mono HBZ.out.size))⟩
        subst eai
        clear hci hc2 hre hrx hxn hxm hxe hje hxid hkx
        go_upto_region 24 with fail
        obtain ⟨ub, hub⟩ : ∃ q, q = wr.heap.size := ⟨_, rfl⟩
        refine wp_shade (fun V => Below wr.heap.size wr V ∧ WCells V ub [.int .i64 xid, .bool xup, .slice xl xn xc]) ⟨(Below.refl _ _).alloc (Nat.le_refl _) _, by rw [hub]; exact HBX0.out⟩ ?_
        rintro V ⟨hV, hVb⟩
        rw [← hub]
        have HBX : Shut (∀ z, Later V.drew z → Below w4.heap.size w4 z) := ⟨fun z hz => HBZ.out.trans ((hV.trans (((Below.drew (Below.refl V.heap.size V)).trans hz).mono hV.size)).mono HBZ.out.size)⟩
        have HLE : Shut (∀ z, Later V.drew z → z.cell? ⟨ub, 0, none⟩ = some (.int .i64 xid) ∧ z.cell? ⟨ub, 1, none⟩ = some (.bool xup) ∧ z.cell? ⟨ub, 2, none⟩ = some (.slice xl xn xc) ∧ z.cell? ⟨gH, i * 3, none⟩ = some (.int .i64 yid) ∧ z.cell? ⟨gH, i * 3 + 1, none⟩ = some (.bool yup) ∧ z.cell? ⟨gH, i * 3 + 2, none⟩ = some (.slice yl yn yc)) := ⟨fun z hz => by
          have hb : Below V.heap.size V z := (Below.drew (Below.refl _ _)).trans hz
          have hw := hVb.grow hb
          obtain ⟨q0, q1, q2⟩ := HCZ.out z (hV.trans (hb.mono hV.size))
          exact ⟨(hw.2 0 _ rfl).1, (hw.2 1 _ rfl).1, (hw.2 2 _ rfl).1, q0, q1, q2⟩⟩
        clear hV hVb HBX0 HCZ p0 p1 p2 dk hub
        have c1 : ¬ (yn : Int) < (xn : Int) := by omega
        have c1d : decide (yn < xn) = false := by simp; omega
        by_cases hxy : xn = yn
        case neg =>
          have c2 : ((xn : Int) == (yn : Int)) = false := by simp; omega
          have c3 : ¬ (xn : Int) = (yn : Int) := by omega
          refine wp_region_later (by kernel_rfl) ?_
          refine wpL_val (i := 0) (v := ?vp0) rfl (by kernel_rfl) (by kernel_rfl) (by kernel_rfl) (fun _ _ _ h => h) (by rfl) ?hyp0 ?restp0
          case hyp0 => (intro x hx; obtain ⟨d0, d1, d2, d3, d4, d5⟩ := HLE.out x hx; go_simp; try with_reducible rfl)
          try simp only [Act.put, List.setIfInBounds_toArray, List.set_cons_zero, List.set_cons_succ]
          refine wpL_call (i := 1) (v := .int .i64 (xn : Nat)) (f := 9) (args := #[.agg #[.int .i64 xid, .bool xup, .slice xl xn xc]]) rfl (by kernel_rfl) (by kernel_rfl) (by kernel_rfl) (fun _ _ _ h => h) (by rfl) ?hyp1 (fun x _ => HLX.out x) ?restp1
          case hyp1 => (intro x hx; obtain ⟨d0, d1, d2, d3, d4, d5⟩ := HLE.out x hx; go_simp; try with_reducible rfl)
          try simp only [Act.put, List.setIfInBounds_toArray, List.set_cons_zero, List.set_cons_succ]
          refine wpL_val (i := 2) (v := ?vp2) rfl (by kernel_rfl) (by kernel_rfl) (by kernel_rfl) (fun _ _ _ h => h) (by rfl) ?hyp2 ?restp2
          case hyp2 => (intro x hx; obtain ⟨d0, d1, d2, d3, d4, d5⟩ := HLE.out x hx; go_simp; try with_reducible rfl)
          try simp only [Act.put, List.setIfInBounds_toArray, List.set_cons_zero, List.set_cons_succ]
          refine wpL_val (i := 3) (v := ?vp3) rfl (by kernel_rfl) (by kernel_rfl) (by kernel_rfl) (fun _ _ _ h => h) (by rfl) ?hyp3 ?restp3
          case hyp3 => (intro x hx; obtain ⟨d0, d1, d2, d3, d4, d5⟩ := HLE.out x hx; go_simp; try with_reducible rfl)
          try simp only [Act.put, List.setIfInBounds_toArray, List.set_cons_zero, List.set_cons_succ]
          refine wpL_val (i := 4) (v := ?vp4) rfl (by kernel_rfl) (by kernel_rfl) (by kernel_rfl) (fun _ _ _ h => h) (by rfl) ?hyp4 ?restp4
          case hyp4 => (intro x hx; obtain ⟨d0, d1, d2, d3, d4, d5⟩ := HLE.out x hx; go_simp; try with_reducible rfl)
          try simp only [Act.put, List.setIfInBounds_toArray, List.set_cons_zero, List.set_cons_succ]
          refine wpL_val (i := 5) (v := ?vp5) rfl (by kernel_rfl) (by kernel_rfl) (by kernel_rfl) (fun _ _ _ h => h) (by rfl) ?hyp5 ?restp5
          case hyp5 => (intro x hx; obtain ⟨d0, d1, d2, d3, d4, d5⟩ := HLE.out x hx; go_simp; try with_reducible rfl)
          try simp only [Act.put, List.setIfInBounds_toArray, List.set_cons_zero, List.set_cons_succ]
          refine wpL_call (i := 6) (v := .int .i64 (yn : Nat)) (f := 9) (args := #[.agg #[.int .i64 yid, .bool yup, .slice yl yn yc]]) rfl (by kernel_rfl) (by kernel_rfl) (by kernel_rfl) (fun _ _ _ h => h) (by rfl) ?hyp6 (fun x _ => HLY.out x) ?restp6
          case hyp6 => (intro x hx; obtain ⟨d0, d1, d2, d3, d4, d5⟩ := HLE.out x hx; go_simp; try with_reducible rfl)
          try simp only [Act.put, List.setIfInBounds_toArray, List.set_cons_zero, List.set_cons_succ]
          refine wpL_val (i := 7) (v := ?vp7) rfl (by kernel_rfl) (by kernel_rfl) (by kernel_rfl) (fun _ _ _ h => h) (by rfl) ?hyp7 ?restp7
          case hyp7 => (intro x hx; obtain ⟨d0, d1, d2, d3, d4, d5⟩ := HLE.out x hx; go_simp; try with_reducible rfl)
          try simp only [Act.put, List.setIfInBounds_toArray, List.set_cons_zero, List.set_cons_succ]
          refine wpL_val (i := 8) (v := ?vp8) rfl (by kernel_rfl) (by kernel_rfl) (by kernel_rfl) (fun _ _ _ h => h) (by rfl) ?hyp8 ?restp8
          case hyp8 => (intro x hx; obtain ⟨d0, d1, d2, d3, d4, d5⟩ := HLE.out x hx; go_simp; try with_reducible rfl)
          try simp only [Act.put, List.setIfInBounds_toArray, List.set_cons_zero, List.set_cons_succ]
          refine wpL_val (i := 9) (v := ?vp9) rfl (by kernel_rfl) (by kernel_rfl) (by kernel_rfl) (fun _ _ _ h => h) (by rfl) ?hyp9 ?restp9
          case hyp9 => (intro x hx; obtain ⟨d0, d1, d2, d3, d4, d5⟩ := HLE.out x hx; go_simp; try with_reducible rfl)
          try simp only [Act.put, List.setIfInBounds_toArray, List.set_cons_zero, List.set_cons_succ]
          refine wpL_call (i := 10) (v := .int .i64 (xn : Nat)) (f := 9) (args := #[.agg #[.int .i64 xid, .bool xup, .slice xl xn xc]]) rfl (by kernel_rfl) (by kernel_rfl) (by kernel_rfl) (fun _ _ _ h => h) (by rfl) ?hyp10 (fun x _ => HLX.out x) ?restp10
          case hyp10 => (intro x hx; obtain ⟨d0, d1, d2, d3, d4, d5⟩ := HLE.out x hx; go_simp; try with_reducible rfl)
          try simp only [Act.put, List.setIfInBounds_toArray, List.set_cons_zero, List.set_cons_succ]
          refine wpL_val (i := 11) (v := ?vp11) rfl (by kernel_rfl) (by kernel_rfl) (by kernel_rfl) (fun _ _ _ h => h) (by rfl) ?hyp11 ?restp11
          case hyp11 => (intro x hx; obtain ⟨d0, d1, d2, d3, d4, d5⟩ := HLE.out x hx; go_simp; try with_reducible rfl)
          try simp only [Act.put, List.setIfInBounds_toArray, List.set_cons_zero, List.set_cons_succ]
          refine wpL_val (i := 12) (v := ?vp12) rfl (by kernel_rfl) (by kernel_rfl) (by kernel_rfl) (fun _ _ _ h => h) (by rfl) ?hyp12 ?restp12
          case hyp12 => (intro x hx; obtain ⟨d0, d1, d2, d3, d4, d5⟩ := HLE.out x hx; go_simp; try with_reducible rfl)
          try simp only [Act.put, List.setIfInBounds_toArray, List.set_cons_zero, List.set_cons_succ]
          refine wpL_val (i := 13) (v := ?vp13) rfl (by kernel_rfl) (by kernel_rfl) (by kernel_rfl) (fun _ _ _ h => h) (by rfl) ?hyp13 ?restp13
          case hyp13 => (intro x hx; obtain ⟨d0, d1, d2, d3, d4, d5⟩ := HLE.out x hx; go_simp; try with_reducible rfl)
          try simp only [Act.put, List.setIfInBounds_toArray, List.set_cons_zero, List.set_cons_succ]
          refine wpL_val (i := 14) (v := ?vp14) rfl (by kernel_rfl) (by kernel_rfl) (by kernel_rfl) (fun _ _ _ h => h) (by rfl) ?hyp14 ?restp14
          case hyp14 => (intro x hx; obtain ⟨d0, d1, d2, d3, d4, d5⟩ := HLE.out x hx; go_simp; try with_reducible rfl)
          try simp only [Act.put, List.setIfInBounds_toArray, List.set_cons_zero, List.set_cons_succ]
          refine wpL_call (i := 15) (v := .int .i64 (yn : Nat)) (f := 9) (args := #[.agg #[.int .i64 yid, .bool yup, .slice yl yn yc]]) rfl (by kernel_rfl) (by kernel_rfl) (by kernel_rfl) (fun _ _ _ h => h) (by rfl) ?hyp15 (fun x _ => HLY.out x) ?restp15
          case hyp15 => (intro x hx; obtain ⟨d0, d1, d2, d3, d4, d5⟩ := HLE.out x hx; go_simp; try with_reducible rfl)
          try simp only [Act.put, List.setIfInBounds_toArray, List.set_cons_zero, List.set_cons_succ]
          refine wpL_val (i := 16) (v := ?vp16) rfl (by kernel_rfl) (by kernel_rfl) (by kernel_rfl) (fun _ _ _ h => h) (by rfl) ?hyp16 ?restp16
          case hyp16 => (intro x hx; obtain ⟨d0, d1, d2, d3, d4, d5⟩ := HLE.out x hx; go_simp; try with_reducible rfl)
          try simp only [Act.put, List.setIfInBounds_toArray, List.set_cons_zero, List.set_cons_succ]
          refine wpL_val (i := 17) (v := ?vp17) rfl (by kernel_rfl) (by kernel_rfl) (by kernel_rfl) (fun _ _ _ h => h) (by rfl) ?hyp17 ?restp17
          case hyp17 => (intro x hx; obtain ⟨d0, d1, d2, d3, d4, d5⟩ := HLE.out x hx; go_simp; try with_reducible rfl)
          try simp only [Act.put, List.setIfInBounds_toArray, List.set_cons_zero, List.set_cons_succ]
          refine wpL_skip (i := 18) rfl (by kernel_rfl) (by kernel_rfl) (by kernel_rfl) (fun _ _ _ h => h) (by rfl) ?_
          try simp only [Act.put, List.setIfInBounds_toArray, List.set_cons_zero, List.set_cons_succ]
          refine wpL_skip (i := 19) rfl (by kernel_rfl) (by kernel_rfl) (by kernel_rfl) (fun _ _ _ h => h) (by rfl) ?_
          try simp only [Act.put, List.setIfInBounds_toArray, List.set_cons_zero, List.set_cons_succ]
          refine wpL_skip (i := 20) rfl (by kernel_rfl) (by kernel_rfl) (by kernel_rfl) (fun _ _ _ h => h) (by rfl) ?_
          try simp only [Act.put, List.setIfInBounds_toArray, List.set_cons_zero, List.set_cons_succ]
          refine wpL_skip (i := 21) rfl (by kernel_rfl) (by kernel_rfl) (by kernel_rfl) (fun _ _ _ h => h) (by rfl) ?_
          try simp only [Act.put, List.setIfInBounds_toArray, List.set_cons_zero, List.set_cons_succ]
          refine wpL_skip (i := 22) rfl (by kernel_rfl) (by kernel_rfl) (by kernel_rfl) (fun _ _ _ h => h) (by rfl) ?_
          try simp only [Act.put, List.setIfInBounds_toArray, List.set_cons_zero, List.set_cons_succ]
          refine wpL_skip (i := 23) rfl (by kernel_rfl) (by kernel_rfl) (by kernel_rfl) (fun _ _ _ h => h) (by rfl) ?_
          try simp only [Act.put, List.setIfInBounds_toArray, List.set_cons_zero, List.set_cons_succ]
          refine wpL_skip (i := 24) rfl (by kernel_rfl) (by kernel_rfl) (by kernel_rfl) (fun _ _ _ h => h) (by rfl) ?_
          try simp only [Act.put, List.setIfInBounds_toArray, List.set_cons_zero, List.set_cons_succ]
          refine wpL_skip (i := 25) rfl (by kernel_rfl) (by kernel_rfl) (by kernel_rfl) (fun _ _ _ h => h) (by rfl) ?_
          try simp only [Act.put, List.setIfInBounds_toArray, List.set_cons_zero, List.set_cons_succ]
          refine wpL_val (i := 26) (v := ?vp26) rfl (by kernel_rfl) (by kernel_rfl) (by kernel_rfl) (fun _ _ _ h => h) (by rfl) ?hyp26 ?restp26
          case hyp26 => (intro x hx; obtain ⟨d0, d1, d2, d3, d4, d5⟩ := HLE.out x hx; go_simp; try with_reducible rfl)
          try simp only [Act.put, List.setIfInBounds_toArray, List.set_cons_zero, List.set_cons_succ]
          refine wpL_val (i := 27) (v := ?vp27) rfl (by kernel_rfl) (by kernel_rfl) (by kernel_rfl) (fun _ _ _ h => h) (by rfl) ?hyp27 ?restp27
          case hyp27 => (intro x hx; obtain ⟨d0, d1, d2, d3, d4, d5⟩ := HLE.out x hx; go_simp; try with_reducible rfl)
          try simp only [Act.put, List.setIfInBounds_toArray, List.set_cons_zero, List.set_cons_succ]
          refine wpL_done (by kernel_rfl) ?_ _
          intro y9 hy9
          have HB9 := Shut.mk (HBX.out y9 hy9)
          go_wp2_with fail
          go_roundw
          case rel => exact ⟨k + 1, by go_num, by omega, HB9⟩
          case measure => simp [intOf]; omega
        have c2 : ((xn : Int) == (yn : Int)) = true := by simp [hxy]
        have c4 : ¬ yid < xid := by omega
        have c4d : decide (yid < xid) = false := by simp; omega
        refine wp_region_later (by kernel_rfl) ?_
        refine wpL_val (i := 0) (v := ?vq0) rfl (by kernel_rfl) (by kernel_rfl) (by kernel_rfl) (fun _ _ _ h => h) (by rfl) ?hyq0 ?restq0
        case hyq0 => (intro x hx; obtain ⟨d0, d1, d2, d3, d4, d5⟩ := HLE.out x hx; go_simp; try with_reducible rfl)
        try simp only [Act.put, List.setIfInBounds_toArray, List.set_cons_zero, List.set_cons_succ]
        refine wpL_call (i := 1) (v := .int .i64 (xn : Nat)) (f := 9) (args := #[.agg #[.int .i64 xid, .bool xup, .slice xl xn xc]]) rfl (by kernel_rfl) (by kernel_rfl) (by kernel_rfl) (fun _ _ _ h => h) (by rfl) ?hyq1 (fun x _ => HLX.out x) ?restq1
        case hyq1 => (intro x hx; obtain ⟨d0, d1, d2, d3, d4, d5⟩ := HLE.out x hx; go_simp; try with_reducible rfl)
        try simp only [Act.put, List.setIfInBounds_toArray, List.set_cons_zero, List.set_cons_succ]
        refine wpL_val (i := 2) (v := ?vq2) rfl (by kernel_rfl) (by kernel_rfl) (by kernel_rfl) (fun _ _ _ h => h) (by rfl) ?hyq2 ?restq2
        case hyq2 => (intro x hx; obtain ⟨d0, d1, d2, d3, d4, d5⟩ := HLE.out x hx; go_simp; try with_reducible rfl)
        try simp only [Act.put, List.setIfInBounds_toArray, List.set_cons_zero, List.set_cons_succ]
        refine wpL_val (i := 3) (v := ?vq3) rfl (by kernel_rfl) (by kernel_rfl) (by kernel_rfl) (fun _ _ _ h => h) (by rfl) ?hyq3 ?restq3
        case hyq3 => (intro x hx; obtain ⟨d0, d1, d2, d3, d4, d5⟩ := HLE.out x hx; go_simp; try with_reducible rfl)
        try simp only [Act.put, List.setIfInBounds_toArray, List.set_cons_zero, List.set_cons_succ]
        refine wpL_val (i := 4) (v := ?vq4) rfl (by kernel_rfl) (by kernel_rfl) (by kernel_rfl) (fun _ _ _ h => h) (by rfl) ?hyq4 ?restq4
        case hyq4 => (intro x hx; obtain ⟨d0, d1, d2, d3, d4, d5⟩ := HLE.out x hx; go_simp; try with_reducible rfl)
        try simp only [Act.put, List.setIfInBounds_toArray, List.set_cons_zero, List.set_cons_succ]
        refine wpL_val (i := 5) (v := ?vq5) rfl (by kernel_rfl) (by kernel_rfl) (by kernel_rfl) (fun _ _ _ h => h) (by rfl) ?hyq5 ?restq5
        case hyq5 => (intro x hx; obtain ⟨d0, d1, d2, d3, d4, d5⟩ := HLE.out x hx; go_simp; try with_reducible rfl)
        try simp only [Act.put, List.setIfInBounds_toArray, List.set_cons_zero, List.set_cons_succ]
        refine wpL_call (i := 6) (v := .int .i64 (yn : Nat)) (f := 9) (args := #[.agg #[.int .i64 yid, .bool yup, .slice yl yn yc]]) rfl (by kernel_rfl) (by kernel_rfl) (by kernel_rfl) (fun _ _ _ h => h) (by rfl) ?hyq6 (fun x _ => HLY.out x) ?restq6
        case hyq6 => (intro x hx; obtain ⟨d0, d1, d2, d3, d4, d5⟩ := HLE.out x hx; go_simp; try with_reducible rfl)
        try simp only [Act.put, List.setIfInBounds_toArray, List.set_cons_zero, List.set_cons_succ]
        refine wpL_val (i := 7) (v := ?vq7) rfl (by kernel_rfl) (by kernel_rfl) (by kernel_rfl) (fun _ _ _ h => h) (by rfl) ?hyq7 ?restq7
        case hyq7 => (intro x hx; obtain ⟨d0, d1, d2, d3, d4, d5⟩ := HLE.out x hx; go_simp; try with_reducible rfl)
        try simp only [Act.put, List.setIfInBounds_toArray, List.set_cons_zero, List.set_cons_succ]
        refine wpL_val (i := 8) (v := ?vq8) rfl (by kernel_rfl) (by kernel_rfl) (by kernel_rfl) (fun _ _ _ h => h) (by rfl) ?hyq8 ?restq8
        case hyq8 => (intro x hx; obtain ⟨d0, d1, d2, d3, d4, d5⟩ := HLE.out x hx; go_simp; try with_reducible rfl)
        try simp only [Act.put, List.setIfInBounds_toArray, List.set_cons_zero, List.set_cons_succ]
        refine wpL_val (i := 9) (v := ?vq9) rfl (by kernel_rfl) (by kernel_rfl) (by kernel_rfl) (fun _ _ _ h => h) (by rfl) ?hyq9 ?restq9
        case hyq9 => (intro x hx; obtain ⟨d0, d1, d2, d3, d4, d5⟩ := HLE.out x hx; go_simp; try with_reducible rfl)
        try simp only [Act.put, List.setIfInBounds_toArray, List.set_cons_zero, List.set_cons_succ]
        refine wpL_call (i := 10) (v := .int .i64 (xn : Nat)) (f := 9) (args := #[.agg #[.int .i64 xid, .bool xup, .slice xl xn xc]]) rfl (by kernel_rfl) (by kernel_rfl) (by kernel_rfl) (fun _ _ _ h => h) (by rfl) ?hyq10 (fun x _ => HLX.out x) ?restq10
        case hyq10 => (intro x hx; obtain ⟨d0, d1, d2, d3, d4, d5⟩ := HLE.out x hx; go_simp; try with_reducible rfl)
        try simp only [Act.put, List.setIfInBounds_toArray, List.set_cons_zero, List.set_cons_succ]
        refine wpL_val (i := 11) (v := ?vq11) rfl (by kernel_rfl) (by kernel_rfl) (by kernel_rfl) (fun _ _ _ h => h) (by rfl) ?hyq11 ?restq11
        case hyq11 => (intro x hx; obtain ⟨d0, d1, d2, d3, d4, d5⟩ := HLE.out x hx; go_simp; try with_reducible rfl)
        try simp only [Act.put, List.setIfInBounds_toArray, List.set_cons_zero, List.set_cons_succ]
        refine wpL_val (i := 12) (v := ?vq12) rfl (by kernel_rfl) (by kernel_rfl) (by kernel_rfl) (fun _ _ _ h => h) (by rfl) ?hyq12 ?restq12
        case hyq12 => (intro x hx; obtain ⟨d0, d1, d2, d3, d4, d5⟩ := HLE.out x hx; go_simp; try with_reducible rfl)
        try simp only [Act.put, List.setIfInBounds_toArray, List.set_cons_zero, List.set_cons_succ]
        refine wpL_val (i := 13) (v := ?vq13) rfl (by kernel_rfl) (by kernel_rfl) (by kernel_rfl) (fun _ _ _ h => h) (by rfl) ?hyq13 ?restq13
        case hyq13 => (intro x hx; obtain ⟨d0, d1, d2, d3, d4, d5⟩ := HLE.out x hx; go_simp; try with_reducible rfl)
        try simp only [Act.put, List.setIfInBounds_toArray, List.set_cons_zero, List.set_cons_succ]
        refine wpL_val (i := 14) (v := ?vq14) rfl (by kernel_rfl) (by kernel_rfl) (by kernel_rfl) (fun _ _ _ h => h) (by rfl) ?hyq14 ?restq14
        case hyq14 => (intro x hx; obtain ⟨d0, d1, d2, d3, d4, d5⟩ := HLE.out x hx; go_simp; try with_reducible rfl)
        try simp only [Act.put, List.setIfInBounds_toArray, List.set_cons_zero, List.set_cons_succ]
        refine wpL_call (i := 15) (v := .int .i64 (yn : Nat)) (f := 9) (args := #[.agg #[.int .i64 yid, .bool yup, .slice yl yn yc]]) rfl (by kernel_rfl) (by kernel_rfl) (by kernel_rfl) (fun _ _ _ h => h) (by rfl) ?hyq15 (fun x _ => HLY.out x) ?restq15
        case hyq15 => (intro x hx; obtain ⟨d0, d1, d2, d3, d4, d5⟩ := HLE.out x hx; go_simp; try with_reducible rfl)
        try simp only [Act.put, List.setIfInBounds_toArray, List.set_cons_zero, List.set_cons_succ]
        refine wpL_val (i := 16) (v := ?vq16) rfl (by kernel_rfl) (by kernel_rfl) (by kernel_rfl) (fun _ _ _ h => h) (by rfl) ?hyq16 ?restq16
        case hyq16 => (intro x hx; obtain ⟨d0, d1, d2, d3, d4, d5⟩ := HLE.out x hx; go_simp; try with_reducible rfl)
        try simp only [Act.put, List.setIfInBounds_toArray, List.set_cons_zero, List.set_cons_succ]
        refine wpL_val (i := 17) (v := ?vq17) rfl (by kernel_rfl) (by kernel_rfl) (by kernel_rfl) (fun _ _ _ h => h) (by rfl) ?hyq17 ?restq17
        case hyq17 => (intro x hx; obtain ⟨d0, d1, d2, d3, d4, d5⟩ := HLE.out x hx; go_simp; try with_reducible rfl)
        try simp only [Act.put, List.setIfInBounds_toArray, List.set_cons_zero, List.set_cons_succ]
        refine wpL_val (i := 18) (v := ?vq18) rfl (by kernel_rfl) (by kernel_rfl) (by kernel_rfl) (fun _ _ _ h => h) (by rfl) ?hyq18 ?restq18
        case hyq18 => (intro x hx; obtain ⟨d0, d1, d2, d3, d4, d5⟩ := HLE.out x hx; go_simp; try with_reducible rfl)
        try simp only [Act.put, List.setIfInBounds_toArray, List.set_cons_zero, List.set_cons_succ]
        refine wpL_val (i := 19) (v := ?vq19) rfl (by kernel_rfl) (by kernel_rfl) (by kernel_rfl) (fun _ _ _ h => h) (by rfl) ?hyq19 ?restq19
        case hyq19 => (intro x hx; obtain ⟨d0, d1, d2, d3, d4, d5⟩ := HLE.out x hx; go_simp; try with_reducible rfl)
        try simp only [Act.put, List.setIfInBounds_toArray, List.set_cons_zero, List.set_cons_succ]
        refine wpL_val (i := 20) (v := ?vq20) rfl (by kernel_rfl) (by kernel_rfl) (by kernel_rfl) (fun _ _ _ h => h) (by rfl) ?hyq20 ?restq20
        case hyq20 => (intro x hx; obtain ⟨d0, d1, d2, d3, d4, d5⟩ := HLE.out x hx; go_simp; try with_reducible rfl)
        try simp only [Act.put, List.setIfInBounds_toArray, List.set_cons_zero, List.set_cons_succ]
        refine wpL_val (i := 21) (v := ?vq21) rfl (by kernel_rfl) (by kernel_rfl) (by kernel_rfl) (fun _ _ _ h => h) (by rfl) ?hyq21 ?restq21
        case hyq21 => (intro x hx; obtain ⟨d0, d1, d2, d3, d4, d5⟩ := HLE.out x hx; go_simp; try with_reducible rfl)
        try simp only [Act.put, List.setIfInBounds_toArray, List.set_cons_zero, List.set_cons_succ]
        refine wpL_val (i := 22) (v := ?vq22) rfl (by kernel_rfl) (by kernel_rfl) (by kernel_rfl) (fun _ _ _ h => h) (by rfl) ?hyq22 ?restq22
        case hyq22 => (intro x hx; obtain ⟨d0, d1, d2, d3, d4, d5⟩ := HLE.out x hx; go_simp; try with_reducible rfl)
        try simp only [Act.put, List.setIfInBounds_toArray, List.set_cons_zero, List.set_cons_succ]
        refine wpL_val (i := 23) (v := ?vq23) rfl (by kernel_rfl) (by kernel_rfl) (by kernel_rfl) (fun _ _ _ h => h) (by rfl) ?hyq23 ?restq23
        case hyq23 => (intro x hx; obtain ⟨d0, d1, d2, d3, d4, d5⟩ := HLE.out x hx; go_simp; try with_reducible rfl)
        try simp only [Act.put, List.setIfInBounds_toArray, List.set_cons_zero, List.set_cons_succ]
        refine wpL_val (i := 24) (v := ?vq24) rfl (by kernel_rfl) (by kernel_rfl) (by kernel_rfl) (fun _ _ _ h => h) (by rfl) ?hyq24 ?restq24
        case hyq24 => (intro x hx; obtain ⟨d0, d1, d2, d3, d4, d5⟩ := HLE.out x hx; go_simp; try with_reducible rfl)
        try simp only [Act.put, List.setIfInBounds_toArray, List.set_cons_zero, List.set_cons_succ]
        refine wpL_val (i := 25) (v := ?vq25) rfl (by kernel_rfl) (by kernel_rfl) (by kernel_rfl) (fun _ _ _ h => h) (by rfl) ?hyq25 ?restq25
        case hyq25 => (intro x hx; obtain ⟨d0, d1, d2, d3, d4, d5⟩ := HLE.out x hx; go_simp; try with_reducible rfl)
        try simp only [Act.put, List.setIfInBounds_toArray, List.set_cons_zero, List.set_cons_succ]
        refine wpL_val (i := 26) (v := ?vq26) rfl (by kernel_rfl) (by kernel_rfl) (by kernel_rfl) (fun _ _ _ h => h) (by rfl) ?hyq26 ?restq26
        case hyq26 => (intro x hx; obtain ⟨d0, d1, d2, d3, d4, d5⟩ := HLE.out x hx; go_simp; try with_reducible rfl)
        try simp only [Act.put, List.setIfInBounds_toArray, List.set_cons_zero, List.set_cons_succ]
        refine wpL_val (i := 27) (v := ?vq27) rfl (by kernel_rfl) (by kernel_rfl) (by kernel_rfl) (fun _ _ _ h => h) (by rfl) ?hyq27 ?restq27
        case hyq27 => (intro x hx; obtain ⟨d0, d1, d2, d3, d4, d5⟩ := HLE.out x hx; go_simp; try with_reducible rfl)
        try simp only [Act.put, List.setIfInBounds_toArray, List.set_cons_zero, List.set_cons_succ]
        refine wpL_done (by kernel_rfl) ?_ _
        intro y9 hy9
        have HB9 := Shut.mk (HBX.out y9 hy9)
        go_wp2_with fail
        go_roundw
        case rel => exact ⟨k + 1, by go_num, by omega, HB9⟩
        case measure => simp [intOf]; omega
end Go.Proofs.Ytoaifodmjkhiiaa
/- OpenC: The code that a drawn law is handed: what came in. -/
namespace Go.Proofs.Ytoaifodmjkhiiaa
set_option maxRecDepth 100000
open Go.RowKit Go.ChangeShapes Go.WideShapes
set_option maxRecDepth 100000 in
theorem open_code {H : Type} {enc : TypeId × Value → H} {W : World} {r : Reach} {b0 base : Nat} {held : Bool} {v : Value} {d : DataW H} {p : List MemPlace}
    (hv : Value.okWide Try.prog W r b0 45 v) (h : DataW.Trod enc Try.prog W base (fun _ => true) held 45 v d p) : ∃ a len cap, v = .slice a len cap ∧ (len ≤ 1048576 → CodeAt W W.heap.size a len) := by
  obtain ⟨a0, l0, c0, rfl⟩ := okWide_slice Try.underlying45 hv
  refine ⟨a0, l0, c0, rfl, fun hl => ?_⟩
  obtain ⟨fuel, hf⟩ := h
  rcases open_ints Try.underlying45 Try.underlying5 (by kernel_rfl) hf with ⟨hcs, _⟩ | ⟨x, l, c, zs, hcs, _, hl', hm, hz, _, hcell, hwz⟩
  · simp [Value.cells] at hcs
    obtain ⟨rfl, rfl, rfl⟩ := hcs
    exact code_at (cap := 0) (zs := []) hl (.inl ⟨rfl, rfl⟩)
  · simp [Value.cells] at hcs
    obtain ⟨rfl, rfl, rfl⟩ := hcs
    exact code_at (cap := c0) (zs := zs) hl (.inr ⟨_, rfl, hl', by simpa using hz, hcell, hwz⟩)
end Go.Proofs.Ytoaifodmjkhiiaa
