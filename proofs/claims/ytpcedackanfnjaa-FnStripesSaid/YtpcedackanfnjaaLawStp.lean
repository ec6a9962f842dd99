/- The walk of the law over stripes, over what is told of the program's own functions. -/
import Derived.Test.YtpcedackanfnjaaLawStr
import Derived.Test.YtpcedackanfnjaaSpnG
import Derived.Test.YtpcedackanfnjaaDrawP
import Derived.Deep.CutRange
import Derived.Deep.RegionHeld3
import Derived.Handy
import Derived.BigQuiet
namespace Go.Proofs.Ytpcedackanfnjaa
open Go.RowKit
attribute [local go_sem ↓] Go.wp_at_zero Go.wp_at_succ

structure StpAll : Prop where
  size : ∀ (s : Int) (w : World), Calls Try.prog 15 #[.int .i64 s] w fun e w' => e = .returned (.int .i64 (groupN s : Nat)) ∧ Below w.heap.size w w'
  place : ∀ (s o : Int) (w : World), Calls Try.prog 13 #[.int .i64 s, .int .i64 o] w fun e w' => PlacePost s o w e w'
  off : ∀ (s gr un at' : Int) (w : World), Calls Try.prog 14 #[.int .i64 s, .int .i64 gr, .int .i64 un, .int .i64 at'] w fun e w' => e = .returned (.int .i64 (offX s gr un at')) ∧ Below w.heap.size w w'
  spans : ∀ (s n : Int) (w : World), Calls Try.prog 16 #[.int .i64 s, .int .i64 n] w fun e w' => IPost (spansX s n) w e w'
attribute [local irreducible] schK schM schOk groupN placeX offX cutX joinX spansX tsum spanL unitAt placeIn
set_option maxRecDepth 1000000 in
set_option maxHeartbeats 4000000 in
theorem stripes_walk (h : StpAll) (a : Option Addr) (len cap : Nat) (w : World) (hcode : CodeAt w w.heap.size a len) :
    Calls Try.prog 3 #[.slice a len cap] w fun e w' => e = .returned (.bool true) ∧ Below w.heap.size w w' := by
  have hbig : decide ((1048576 : Int) < (len : Int)) = false := by have := hcode.1; simp; omega
  have HC : Hid (CodeAt w w.heap.size a len) := hcode
  have HH := Shut.mk h
  clear hcode h
  go_enter Try.func3, Try.ntmps3
  go_wp2_with fail
  refine (big_any a len cap _).mono ?_
  rintro e w1 ⟨rfl, hw1⟩
  obtain rfl : w = w1 := hw1.symm
  clear hw1
  rw [hbig]
  go_wp2_with fail
  refine (drawPlaces_any _ a len cap HC.out).mono ?_
  rintro e w1 ⟨gp, pcap, l, rfl, hgp, hgp2, hll, hlx, hcell, hb1⟩
  have HB := Shut.mk hb1
  have y0 := hcell 0 (by omega)
  have q0 := hlx (l.getD 0 0) (by simp [List.getD, show 0 < l.length by omega])
  have y1 := hcell 1 (by omega)
  have q1 := hlx (l.getD 1 0) (by simp [List.getD, show 1 < l.length by omega])
  have y2 := hcell 2 (by omega)
  have q2 := hlx (l.getD 2 0) (by simp [List.getD, show 2 < l.length by omega])
  generalize l.getD 0 0 = p0 at y0 q0
  generalize l.getD 1 0 = p1 at y1 q1
  generalize l.getD 2 0 = p2 at y2 q2
  obtain ⟨a0, rfl⟩ := Int.eq_ofNat_of_zero_le q0.1
  obtain ⟨a1, rfl⟩ := Int.eq_ofNat_of_zero_le q1.1
  obtain ⟨a2, rfl⟩ := Int.eq_ofNat_of_zero_le q2.1
  clear hcell hlx hll hb1 HC
  obtain ⟨s, hs⟩ : ∃ s, s = 1 + a0 % 3 := ⟨_, rfl⟩
  have hsi : (1 : Int) + (a0 : Int) % 3 = (s : Int) := by omega
  have hst : (1 : Int) + (a0 : Int).tmod 3 = (s : Int) := by rw [Int.tmod_eq_emod_of_nonneg (by omega)]; exact hsi
  have hok : schOk (s : Int) = true := by unfold schOk; simp only [Bool.or_eq_true, decide_eq_true_eq]; omega
  obtain ⟨o, ho⟩ : ∃ o, o = a1 * 9 := ⟨_, rfl⟩
  have hoi : (a1 : Int) * 9 = (o : Int) := by omega
  have ho1 : o ≤ 89991 := by omega
  obtain ⟨n, hn⟩ : ∃ n, n = 1 + a2 % 999 := ⟨_, rfl⟩
  have hni : (1 : Int) + (a2 : Int) % 999 = (n : Int) := by omega
  have hnt : (1 : Int) + (a2 : Int).tmod 999 = (n : Int) := by rw [Int.tmod_eq_emod_of_nonneg (by omega)]; exact hni
  have hn1 : 1 ≤ n := by omega
  have hn2 : n ≤ 1000 := by omega
  have hk := sch_k hok
  have hS0 := group_pos hok
  have hS1 := groupN_bounds (s : Int)
  have HP := Shut.mk (fun W => HH.out.place (s : Int) (o : Int) W)
  have HQ := Shut.mk (fun W => HH.out.place (s : Int) ((o + 1 : Nat) : Int) W)
  unfold PlacePost at HP HQ
  rw [place_ok hok (by omega)] at HP HQ
  have HON := Shut.mk (fun W => HH.out.off (s : Int) (-1) 0 0 W)
  rw [off_neg] at HON
  have HO := Shut.mk (fun W => HH.out.off (s : Int) ((o / (schK (s : Int) * 8) : Nat) : Int) ((unitAt (schK (s : Int)) o : Nat) : Int) ((placeIn (schK (s : Int)) o : Nat) : Int) W)
  rw [off_place hok (by omega)] at HO
  have hI8 := placeIn_lt (o := o) hk
  have HNX := Shut.mk (fun hq => place_next (o := o) hk hq)
  have hGS : groupN (s : Int) = schK (s : Int) * 8 := by unfold groupN; rfl
  rw [← hGS] at HP HQ HO HNX
  have HG := Shut.mk (fun W => HH.out.size (s : Int) W)
  have HGS := Shut.mk (fun W => specGroupSize (s : Int) W)
  have HSP := Shut.mk (fun W => HH.out.spans (s : Int) (n : Int) W)
  have HS0 := Shut.mk (fun W => HH.out.spans (s : Int) 0 W)
  rw [spans_ok hok hn1 hn2] at HSP
  rw [spansX_no (s := (s : Int)) (n := 0) (fun h => by have := h.2.1; omega)] at HS0
  generalize groupN (s : Int) = S at *
  have hdiv : (o : Int).tdiv (S : Int) = ((o / S : Nat) : Int) := by rw [Int.tdiv_eq_ediv_of_nonneg (by omega)]; push_cast; rfl
  have hdiv2 : (o : Int) / (S : Int) = ((o / S : Nat) : Int) := by push_cast; rfl
  have hSne : ((S : Int) == 0) = false := by rw [beq_eq_false_iff_ne]; omega
  generalize unitAt (schK (s : Int)) o = U at *
  generalize unitAt (schK (s : Int)) (o + 1) = V at *
  generalize placeIn (schK (s : Int)) o = I at *
  generalize placeIn (schK (s : Int)) (o + 1) = J at *
  have hGo : o / S ≤ o := Nat.div_le_self _ _
  generalize o / S = G at *
  generalize (o + 1) / S = G2 at *
  have HM := Shut.mk (And.intro hs (And.intro hok (And.intro ho hn)))
  have hoo : ((o : Int) != (o : Int)) = false := by simp
  have hgg : ((G : Int) != (G : Int)) = false := by simp
  have hI0 : ¬ (I : Int) < 0 := by omega
  have hI9 : ¬ (8 : Int) ≤ (I : Int) := by omega
  obtain ⟨o1, ho1e⟩ : ∃ o1, o1 = o + 1 := ⟨_, rfl⟩
  rw [← ho1e] at HQ HNX
  have ho9 : (o : Int) + 1 = (o1 : Int) := by omega
  have ho8 : o1 ≤ 89992 := by omega
  clear ho1e
  clear hs hok ho hn HH hk hGS
  go_wp2_with fail
  refine (HP.out _).mono ?_
  rintro e w2 ⟨rfl, hb⟩
  have HY := Shut.mk (show w2.cell? ⟨gp, 0, none⟩ = some (.int .i64 (a0 : Int)) ∧ w2.cell? ⟨gp, 2, none⟩ = some (.int .i64 (a2 : Int)) from ⟨(hb.cell (p := ⟨gp, 0, none⟩) hgp2).trans y0, (hb.cell (p := ⟨gp, 2, none⟩) hgp2).trans y2⟩)
  replace HB := Shut.mk (HB.out.trans (hb.mono HB.out.size))
  have gp2 : gp < w2.heap.size := Nat.lt_of_lt_of_le hgp2 hb.size
  clear hb y0 y1 y2 hgp2 HP
  dsimp only
  go_wp2_with fail
  refine (HO.out _).mono ?_
  rintro e w3 ⟨rfl, hb⟩
  replace HY := Shut.mk (show w3.cell? ⟨gp, 0, none⟩ = some (.int .i64 (a0 : Int)) ∧ w3.cell? ⟨gp, 2, none⟩ = some (.int .i64 (a2 : Int)) from ⟨(hb.cell (p := ⟨gp, 0, none⟩) gp2).trans HY.out.1, (hb.cell (p := ⟨gp, 2, none⟩) gp2).trans HY.out.2⟩)
  replace HB := Shut.mk (HB.out.trans (hb.mono HB.out.size))
  have gp3 : gp < w3.heap.size := Nat.lt_of_lt_of_le gp2 hb.size
  clear hb gp2 HO
  go_wp2_with fail
  refine (HG.out _).mono ?_
  rintro e w4 ⟨rfl, hb⟩
  replace HY := Shut.mk (show w4.cell? ⟨gp, 0, none⟩ = some (.int .i64 (a0 : Int)) ∧ w4.cell? ⟨gp, 2, none⟩ = some (.int .i64 (a2 : Int)) from ⟨(hb.cell (p := ⟨gp, 0, none⟩) gp3).trans HY.out.1, (hb.cell (p := ⟨gp, 2, none⟩) gp3).trans HY.out.2⟩)
  replace HB := Shut.mk (HB.out.trans (hb.mono HB.out.size))
  have gp4 : gp < w4.heap.size := Nat.lt_of_lt_of_le gp3 hb.size
  clear hb gp3
  go_wp2_with fail
  refine (HQ.out _).mono ?_
  rintro e w5 ⟨rfl, hb⟩
  replace HY := Shut.mk (show w5.cell? ⟨gp, 0, none⟩ = some (.int .i64 (a0 : Int)) ∧ w5.cell? ⟨gp, 2, none⟩ = some (.int .i64 (a2 : Int)) from ⟨(hb.cell (p := ⟨gp, 0, none⟩) gp4).trans HY.out.1, (hb.cell (p := ⟨gp, 2, none⟩) gp4).trans HY.out.2⟩)
  replace HB := Shut.mk (HB.out.trans (hb.mono HB.out.size))
  have gp5 : gp < w5.heap.size := Nat.lt_of_lt_of_le gp4 hb.size
  clear hb gp4 HQ
  dsimp only
  by_cases hm : o1 % 4 = 0
  · have hm1 : (o1 : Int) % 4 = 0 := by omega
    have hm2 : (o1 : Int).tmod 4 = 0 := by rw [Int.tmod_eq_emod_of_nonneg (by omega)]; exact hm1
    have y2 := HY.out.2
    clear HNX
    go_wp2_with fail
    refine (HSP.out _).mono ?_
    rintro e w6 ⟨vl, rfl, ha6, hb6⟩
    replace HY := Shut.mk ((hb6.cell (p := ⟨gp, 2, none⟩) gp5).trans HY.out.2)
    replace HB := Shut.mk (HB.out.trans (hb6.mono HB.out.size))
    have gp6 : gp < w6.heap.size := Nat.lt_of_lt_of_le gp5 hb6.size
    obtain ⟨al, cl, rfl, hcl, ql⟩ := ha6
    obtain ⟨gl, rfl, gl1, gl2, hwl⟩ : ∃ g, al = some ⟨g, 0, none⟩ ∧ w5.heap.size ≤ g ∧ g < w6.heap.size ∧ WCells w6 g (ics (spanL S n)) := by
      rcases ql with q | q
      · have := span_len S n; rw [q] at this; simp at this
      · exact q
    obtain ⟨q, hq⟩ : ∃ q, q = (n - 1) / S := ⟨_, rfl⟩
    obtain ⟨m, hqm⟩ : ∃ m, m = q + 1 := ⟨_, rfl⟩
    have hlen : (spanL S n).length = m := by rw [span_len, hqm, hq]
    have hqS : q * S + 1 ≤ n := by rw [hq]; exact span_rest hn1
    have HF := Shut.mk (fun i (hi : i < q) => span_full (S := S) (n := n) (i := i) (by rw [← hq]; exact hi))
    have HE : Shut ((spanL S n).getD q 0 = ((n - q * S : Nat) : Int)) := ⟨by rw [hq]; exact span_end⟩
    have hq9 : q ≤ 1000 := by have := Nat.div_le_self (n - 1) S; omega
    have HW := Shut.mk hwl
    have HLN := Shut.mk hlen
    have hss : ((S : Int) != (S : Int)) = false := by simp
    have hSl : ¬ (S : Int) < 1 := by omega
    obtain ⟨d, hd⟩ : ∃ d, d = n - q * S := ⟨_, rfl⟩
    rw [← hd] at HE
    have hd1 : 1 ≤ d := by omega
    have hd2 : d ≤ 1000 := by omega
    have HD := Shut.mk (show q * S + d = n by omega)
    have hdl : ¬ (d : Int) < 1 := by omega
    rw [hlen] at hcl ⊢
    have hmq1 : q < m := by omega
    have hmq2 : m ≤ q + 1 := by omega
    clear ql hwl hq hlen hb6 y2 gp5 HSP hd hqS hqm
    go_wp2_with fail
    go_loopw [13, 14] (fun sm ii wr => ∃ (i z : Nat), sm = .int .i64 (z : Nat) ∧ ii = .int .i64 (i : Nat) ∧ i ≤ m ∧ z ≤ n ∧ Shut ((i ≤ q → z = i * S) ∧ (i = m → z = n)) ∧ Shut (Below w6.heap.size w6 wr)) (fun _ ii _ => m - (intOf ii).toNat)
    case atStart => exact ⟨0, 0, rfl, rfl, Nat.zero_le _, Nat.zero_le _, ⟨fun _ => by simp, fun h => by omega⟩, ⟨Below.refl _ _⟩⟩
    case round =>
      obtain ⟨i, z, rfl, rfl, him, hzn, hz, hbo⟩ := hrel
      obtain ⟨wo, rfl⟩ : ∃ wo, wo = wr := ⟨_, rfl⟩
      by_cases hlt : i < m
      · have hlt' : (i : Int) < (m : Int) := by omega
        have i0 : (0 : Int) ≤ (i : Int) := by omega
        obtain ⟨c0, z0⟩ := (HW.out.below hbo.out gl2).2 i _ (ics_get _ i (by rw [HLN.out]; exact hlt))
        have glo : gl < wo.heap.size := Nat.lt_of_lt_of_le gl2 hbo.out.size
        by_cases hiq : i < q
        · rw [HF.out i hiq] at c0
          have hil : decide ((i : Int) + 1 < (m : Int)) = true := by simp; omega
          have hSd : decide ((S : Int) < 1) = false := by simp; omega
          have hwi : IntKind.i64.wrap ((i : Int) + 1) = (i : Int) + 1 := IntWalk.i64_in _ ⟨by omega, by omega⟩
          have hzi : z = i * S := hz.out.1 (by omega)
          have HZ : Shut ((i + 1 ≤ q → z + S = (i + 1) * S) ∧ (i + 1 = m → z + S = n)) := ⟨fun _ => by rw [hzi, Nat.add_mul]; omega, fun h => by omega⟩
          have hzS : z + S ≤ n := by
            have h1 : (i + 1) * S ≤ q * S := Nat.mul_le_mul_right S (by omega)
            have h2 := HD.out
            rw [hzi]; rw [Nat.add_mul] at h1; omega
          clear hz hzi z0
          go_upto_region 17 with fail
          go_cut [119] from 99 to 119 (fun b wx => b = .bool false ∧ wx.cell? ⟨gl, i, none⟩ = some (.int .i64 (S : Int)) ∧ Shut (Below wo.heap.size wo wx))
          case first =>
            go_region_held3 (fun w' => w'.cell? ⟨gl, i, none⟩ = some (.int .i64 (S : Int)))
              (first | assumption | (exact (hb9.cell (p := ⟨gl, i, none⟩) glo).trans (by assumption)) | go_keep)
              (first | (go_at_call 15; refine (HG.out _).mono ?_; rintro e w9 ⟨rfl, hb9⟩))
            all_goals (go_wp2_with fail; go_meet)
            all_goals exact ⟨rfl, by first | assumption | (rw [hb9.cell (p := ⟨gl, i, none⟩) glo]; assumption), ⟨by first | exact hb9 | exact (Below.drew (Below.refl _ _)).trans hb9⟩⟩
          case rest =>
            obtain ⟨rfl, c1, hbx⟩ := hcut
            have HB9 := Shut.mk (hbo.out.trans (hbx.out.mono hbo.out.size))
            clear hbx hbo c0
            go_wp2_with fail
            go_roundw
            case rel => exact ⟨i + 1, z + S, by go_num, by go_num, by omega, hzS, HZ, HB9⟩
            case measure => simp [intOf]; omega
        · have e : i = q := by omega
          subst e
          rw [HE.out] at c0
          have hil : decide ((i : Int) + 1 < (m : Int)) = false := by simp; omega
          have hdd : decide ((d : Int) < 1) = false := by simp; omega
          have hwi : IntKind.i64.wrap ((i : Int) + 1) = (i : Int) + 1 := IntWalk.i64_in _ ⟨by omega, by omega⟩
          have hzi : z = i * S := hz.out.1 (by omega)
          have hzd : z + d = n := by rw [hzi]; exact HD.out
          have HZ : Shut ((i + 1 ≤ i → z + d = (i + 1) * S) ∧ (i + 1 = m → z + d = n)) := ⟨fun _ => by omega, fun h => hzd⟩
          clear hz hzi z0
          have hbn : ∀ q, Below w6.heap.size w6 (wo.drewN q) := fun q => hbo.out.trans ⟨rfl, rfl, rfl, Nat.le_refl _, fun _ _ => rfl⟩
          have HBN := Shut.mk hbn
          clear hbn hbo
          go_wp2_with fail
          go_quiet (fail)
          go_wp2_with fail
          go_roundw
          case rel => exact ⟨i + 1, z + d, by go_num, by go_num, by omega, by omega, HZ, ⟨HBN.out _⟩⟩
          case measure => simp [intOf]; omega
      · have e : i = m := by omega
        have hzz : z = n := hz.out.2 e
        subst e
        subst hzz
        have hlt' : ¬ (i : Int) < (i : Int) := by omega
        have y2 := (hbo.out.cell (p := ⟨gp, 2, none⟩) gp6).trans HY.out
        have HB7 := Shut.mk (HB.out.trans (hbo.out.mono HB.out.size))
        clear hz hbo
        go_wp2_with fail
        refine (HON.out _).mono ?_
        rintro e w7 ⟨rfl, hb7⟩
        replace HB7 := Shut.mk (HB7.out.trans (hb7.mono HB7.out.size))
        clear hb7
        go_wp2_with fail
        refine (HG.out _).mono ?_
        rintro e w8 ⟨rfl, hb8⟩
        replace HB7 := Shut.mk (HB7.out.trans (hb8.mono HB7.out.size))
        clear hb8
        go_wp2_with fail
        refine (HGS.out _).mono ?_
        rintro e w9 ⟨rfl, hw9⟩
        obtain rfl : w8 = w9 := hw9.symm
        clear hw9
        go_wp2_with fail
        refine (HS0.out _).mono ?_
        rintro e w10 ⟨v9, rfl, ha9, hb9⟩
        obtain ⟨a9, c9, rfl, _, _⟩ := ha9
        replace HB7 := Shut.mk (HB7.out.trans (hb9.mono HB7.out.size))
        clear hb9
        go_wp2_with fail
        go_ret
        exact ⟨rfl, HB7.out⟩
  · have hm1 : ((o1 : Int) % 4 != 0) = true := by simp; omega
    have hm2 : ((o1 : Int).tmod 4 != 0) = true := by rw [Int.tmod_eq_emod_of_nonneg (by omega)]; exact hm1
    have hm3 : ¬ (o1 : Int) % 4 = 0 := by omega
    have y2 := HY.out.2
    obtain ⟨eg, ev, ej⟩ := HNX.out hm
    subst eg
    subst ev
    have hJI : (I : Int) + 1 = (J : Int) := by omega
    have hjj : ((J : Int) != (J : Int)) = false := by simp
    have hvv : ((V : Int) != (V : Int)) = false := by simp
    clear HNX ej
    go_wp2_with fail
    refine (HSP.out _).mono ?_
    rintro e w6 ⟨vl, rfl, ha6, hb6⟩
    replace HY := Shut.mk ((hb6.cell (p := ⟨gp, 2, none⟩) gp5).trans HY.out.2)
    replace HB := Shut.mk (HB.out.trans (hb6.mono HB.out.size))
    have gp6 : gp < w6.heap.size := Nat.lt_of_lt_of_le gp5 hb6.size
    obtain ⟨al, cl, rfl, hcl, ql⟩ := ha6
    obtain ⟨gl, rfl, gl1, gl2, hwl⟩ : ∃ g, al = some ⟨g, 0, none⟩ ∧ w5.heap.size ≤ g ∧ g < w6.heap.size ∧ WCells w6 g (ics (spanL S n)) := by
      rcases ql with q | q
      · have := span_len S n; rw [q] at this; simp at this
      · exact q
    obtain ⟨q, hq⟩ : ∃ q, q = (n - 1) / S := ⟨_, rfl⟩
    obtain ⟨m, hqm⟩ : ∃ m, m = q + 1 := ⟨_, rfl⟩
    have hlen : (spanL S n).length = m := by rw [span_len, hqm, hq]
    have hqS : q * S + 1 ≤ n := by rw [hq]; exact span_rest hn1
    have HF := Shut.mk (fun i (hi : i < q) => span_full (S := S) (n := n) (i := i) (by rw [← hq]; exact hi))
    have HE : Shut ((spanL S n).getD q 0 = ((n - q * S : Nat) : Int)) := ⟨by rw [hq]; exact span_end⟩
    have hq9 : q ≤ 1000 := by have := Nat.div_le_self (n - 1) S; omega
    have HW := Shut.mk hwl
    have HLN := Shut.mk hlen
    have hss : ((S : Int) != (S : Int)) = false := by simp
    have hSl : ¬ (S : Int) < 1 := by omega
    obtain ⟨d, hd⟩ : ∃ d, d = n - q * S := ⟨_, rfl⟩
    rw [← hd] at HE
    have hd1 : 1 ≤ d := by omega
    have hd2 : d ≤ 1000 := by omega
    have HD := Shut.mk (show q * S + d = n by omega)
    have hdl : ¬ (d : Int) < 1 := by omega
    rw [hlen] at hcl ⊢
    have hmq1 : q < m := by omega
    have hmq2 : m ≤ q + 1 := by omega
    clear ql hwl hq hlen hb6 y2 gp5 HSP hd hqS hqm
    go_wp2_with fail
    go_loopw [13, 14] (fun sm ii wr => ∃ (i z : Nat), sm = .int .i64 (z : Nat) ∧ ii = .int .i64 (i : Nat) ∧ i ≤ m ∧ z ≤ n ∧ Shut ((i ≤ q → z = i * S) ∧ (i = m → z = n)) ∧ Shut (Below w6.heap.size w6 wr)) (fun _ ii _ => m - (intOf ii).toNat)
    case atStart => exact ⟨0, 0, rfl, rfl, Nat.zero_le _, Nat.zero_le _, ⟨fun _ => by simp, fun h => by omega⟩, ⟨Below.refl _ _⟩⟩
    case round =>
      obtain ⟨i, z, rfl, rfl, him, hzn, hz, hbo⟩ := hrel
      obtain ⟨wo, rfl⟩ : ∃ wo, wo = wr := ⟨_, rfl⟩
      by_cases hlt : i < m
      · have hlt' : (i : Int) < (m : Int) := by omega
        have i0 : (0 : Int) ≤ (i : Int) := by omega
        obtain ⟨c0, z0⟩ := (HW.out.below hbo.out gl2).2 i _ (ics_get _ i (by rw [HLN.out]; exact hlt))
        have glo : gl < wo.heap.size := Nat.lt_of_lt_of_le gl2 hbo.out.size
        by_cases hiq : i < q
        · rw [HF.out i hiq] at c0
          have hil : decide ((i : Int) + 1 < (m : Int)) = true := by simp; omega
          have hSd : decide ((S : Int) < 1) = false := by simp; omega
          have hwi : IntKind.i64.wrap ((i : Int) + 1) = (i : Int) + 1 := IntWalk.i64_in _ ⟨by omega, by omega⟩
          have hzi : z = i * S := hz.out.1 (by omega)
          have HZ : Shut ((i + 1 ≤ q → z + S = (i + 1) * S) ∧ (i + 1 = m → z + S = n)) := ⟨fun _ => by rw [hzi, Nat.add_mul]; omega, fun h => by omega⟩
          have hzS : z + S ≤ n := by
            have h1 : (i + 1) * S ≤ q * S := Nat.mul_le_mul_right S (by omega)
            have h2 := HD.out
            rw [hzi]; rw [Nat.add_mul] at h1; omega
          clear hz hzi z0
          go_upto_region 17 with fail
          go_cut [119] from 99 to 119 (fun b wx => b = .bool false ∧ wx.cell? ⟨gl, i, none⟩ = some (.int .i64 (S : Int)) ∧ Shut (Below wo.heap.size wo wx))
          case first =>
            go_region_held3 (fun w' => w'.cell? ⟨gl, i, none⟩ = some (.int .i64 (S : Int)))
              (first | assumption | (exact (hb9.cell (p := ⟨gl, i, none⟩) glo).trans (by assumption)) | go_keep)
              (first | (go_at_call 15; refine (HG.out _).mono ?_; rintro e w9 ⟨rfl, hb9⟩))
            all_goals (go_wp2_with fail; go_meet)
            all_goals exact ⟨rfl, by first | assumption | (rw [hb9.cell (p := ⟨gl, i, none⟩) glo]; assumption), ⟨by first | exact hb9 | exact (Below.drew (Below.refl _ _)).trans hb9⟩⟩
          case rest =>
            obtain ⟨rfl, c1, hbx⟩ := hcut
            have HB9 := Shut.mk (hbo.out.trans (hbx.out.mono hbo.out.size))
            clear hbx hbo c0
            go_wp2_with fail
            go_roundw
            case rel => exact ⟨i + 1, z + S, by go_num, by go_num, by omega, hzS, HZ, HB9⟩
            case measure => simp [intOf]; omega
        · have e : i = q := by omega
          subst e
          rw [HE.out] at c0
          have hil : decide ((i : Int) + 1 < (m : Int)) = false := by simp; omega
          have hdd : decide ((d : Int) < 1) = false := by simp; omega
          have hwi : IntKind.i64.wrap ((i : Int) + 1) = (i : Int) + 1 := IntWalk.i64_in _ ⟨by omega, by omega⟩
          have hzi : z = i * S := hz.out.1 (by omega)
          have hzd : z + d = n := by rw [hzi]; exact HD.out
          have HZ : Shut ((i + 1 ≤ i → z + d = (i + 1) * S) ∧ (i + 1 = m → z + d = n)) := ⟨fun _ => by omega, fun h => hzd⟩
          clear hz hzi z0
          have hbn : ∀ q, Below w6.heap.size w6 (wo.drewN q) := fun q => hbo.out.trans ⟨rfl, rfl, rfl, Nat.le_refl _, fun _ _ => rfl⟩
          have HBN := Shut.mk hbn
          clear hbn hbo
          go_wp2_with fail
          go_quiet (fail)
          go_wp2_with fail
          go_roundw
          case rel => exact ⟨i + 1, z + d, by go_num, by go_num, by omega, by omega, HZ, ⟨HBN.out _⟩⟩
          case measure => simp [intOf]; omega
      · have e : i = m := by omega
        have hzz : z = n := hz.out.2 e
        subst e
        subst hzz
        have hlt' : ¬ (i : Int) < (i : Int) := by omega
        have y2 := (hbo.out.cell (p := ⟨gp, 2, none⟩) gp6).trans HY.out
        have HB7 := Shut.mk (HB.out.trans (hbo.out.mono HB.out.size))
        clear hz hbo
        go_wp2_with fail
        refine (HON.out _).mono ?_
        rintro e w7 ⟨rfl, hb7⟩
        replace HB7 := Shut.mk (HB7.out.trans (hb7.mono HB7.out.size))
        clear hb7
        go_wp2_with fail
        refine (HG.out _).mono ?_
        rintro e w8 ⟨rfl, hb8⟩
        replace HB7 := Shut.mk (HB7.out.trans (hb8.mono HB7.out.size))
        clear hb8
        go_wp2_with fail
        refine (HGS.out _).mono ?_
        rintro e w9 ⟨rfl, hw9⟩
        obtain rfl : w8 = w9 := hw9.symm
        clear hw9
        go_wp2_with fail
        refine (HS0.out _).mono ?_
        rintro e w10 ⟨v9, rfl, ha9, hb9⟩
        obtain ⟨a9, c9, rfl, _, _⟩ := ha9
        replace HB7 := Shut.mk (HB7.out.trans (hb9.mono HB7.out.size))
        clear hb9
        go_wp2_with fail
        go_ret
        exact ⟨rfl, HB7.out⟩
end Go.Proofs.Ytpcedackanfnjaa
