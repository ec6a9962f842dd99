/- Texts of ours, laid one behind the other: WdL, LkN, SvI, WdI. -/
import Derived.Test.YtendbipfmgnjkaaPw5
import Derived.Laws.MakeOwn
import Derived.Deep.AppendLies
/- WdL: A new world: its marks, its exact law (written by gen/mkwdl.py). -/
namespace Go.Proofs.Ytendbipfmgnjkaa
set_option maxRecDepth 100000
open Go.RowKit BigFrame
attribute [local go_sem ↓] Go.wp_at_zero Go.wp_at_succ

theorem heldIntS_none (a : Option Addr) (k ca : Nat) (w : World) :
    Calls Try.prog 43 #[.slice a 0 ca, .int .i64 k] w fun e w' => e = .returned (.int .i64 k) ∧ w' = w := by
  go_enter Try.func43, Try.ntmps43
  go_wp2_with fail
  go_rounds 1
  go_ret
  exact ⟨rfl, rfl⟩
theorem below_drewN (w : World) (q : Nat) : Below w.heap.size w (w.drewN q) := ⟨rfl, rfl, rfl, Nat.le_refl _, fun _ _ => rfl⟩
theorem hosts9_len (k : Nat) : (hosts9 k).length = k := by simp [hosts9]
theorem hosts9_us {k : Nat} {h : HM} (hm : h ∈ hosts9 k) : h.us = [] := by
  obtain ⟨j, _, rfl⟩ := List.mem_map.1 hm
  rfl
theorem hosts9_end (k : Nat) : endH k (hosts9 7) = k + 14 := by rw [endH_eq]; rfl
theorem mark_pos (ns : List NM) : 0 < markK 1 ns := by have := (markK_le 1 ns).1; omega
theorem hms_len7 {rs : List HoR} (h : hms rs = hosts9 7) : rs.length = 7 := by rw [← hms_len rs, h, hosts9_len]
set_option maxHeartbeats 4000000 in
set_option maxRecDepth 100000 in
theorem eqWorld_new {w : World} {T : TM} {ca1 da1 la1 hb1 ka1 ta1 za1 ca2 da2 la2 hb2 ka2 ta2 za2 : Option Addr} {cm1 cc1 dc1 lc1 hc1 kc1 tc1 zc1 cm2 cc2 dc2 lc2 hc2 kc2 tc2 zc2 : Nat} {x1 y1 x2 y2 : Nat} {nx : Int} {rs ts : List HoR} (k : TAns w (.agg #[.slice ca1 cm1 cc1, .int .i64 nx]) T x1 y1) (j : TAns w (.agg #[.slice ca2 cm2 cc2, .int .i64 nx]) T x2 y2) (hf : NFit T) (h1 : HsRow w hb1 rs) (h2 : HsRow w hb2 ts) (e1 : hms rs = hosts9 7) (e2 : hms ts = hosts9 7) :
    Calls Try.prog 13 #[.agg #[.bool true, .slice ca1 cm1 cc1, .int .i64 nx, .int .i64 1, .slice da1 0 dc1, .slice la1 0 lc1, .int .i64 0, .slice hb1 7 hc1, .slice ka1 0 kc1, .slice ta1 0 tc1, .slice za1 0 zc1], .agg #[.bool true, .slice ca2 cm2 cc2, .int .i64 nx, .int .i64 1, .slice da2 0 dc2, .slice la2 0 lc2, .int .i64 0, .slice hb2 7 hc2, .slice ka2 0 kc2, .slice ta2 0 tc2, .slice za2 0 zc2]] w fun e w' => e = .returned (.bool true) ∧ Below w.heap.size w w' := by
  have hfv : SvFit ⟨true, T, 1, [], [], 0⟩ := ⟨hf, by simp, by simp⟩
  have HSV := Shut.mk (fun (W : World) (hb : Below w.heap.size w W) => eqServer_same (S := ⟨true, T, 1, [], [], 0⟩) (w := W) (da := da1) (da' := da2) (la := la1) (la' := la2) (up := true) (gr := 1) (now := 0) (dn := 0) (ln := 0) (dc := dc1) (dc' := dc2) (lc := lc1) (lc' := lc2) ⟨(k.below hb).see, fun h => by simp [fcs] at h, fun h => by simp [lsS] at h⟩ ⟨(j.below hb).see, fun h => by simp [fcs] at h, fun h => by simp [lsS] at h⟩ hfv rfl rfl)
  have HHS := Shut.mk (fun (W : World) (hb : Below w.heap.size w W) => eqHostS_same hb1 hb2 rs ts hc1 hc2 W (h1.stays hb) (h2.stays hb) (e1.trans e2.symm) (by rw [hms_len7 e1]; omega) (fun r hr => by
    have q : r.h ∈ hosts9 7 := by rw [← e1]; exact List.mem_map.2 ⟨r, hr, rfl⟩
    rw [hosts9_us q]; exact Nat.zero_le _))
  rw [hms_len7 e1, hms_len7 e2] at HHS
  have HIS := Shut.mk (fun (W : World) => eqIntS_same ka1 ka2 [] kc1 kc2 W (fun h => by simp [ics] at h) (fun h => by simp [ics] at h) (by simp))
  have HTS := Shut.mk (fun (W : World) => eqStringS_any ta1 ta2 [] [] tc1 tc2 W (fun h => by simp at h) (fun h => by simp at h) (by simp) (by simp))
  have HZS := Shut.mk (fun (W : World) => eqSizeS_same za1 za2 [] zc1 zc2 W (fun h => by simp [pzS] at h) (fun h => by simp [pzS] at h) (by simp))
  clear k j hf h1 h2 e1 e2 hfv
  have HS := Shut.mk (((SL.start w).new #[.bool true, .slice ca1 cm1 cc1, .int .i64 nx, .int .i64 1, .slice da1 0 dc1, .slice la1 0 lc1, .int .i64 0, .slice hb1 7 hc1, .slice ka1 0 kc1, .slice ta1 0 tc1, .slice za1 0 zc1] 48).new #[.bool true, .slice ca2 cm2 cc2, .int .i64 nx, .int .i64 1, .slice da2 0 dc2, .slice la2 0 lc2, .int .i64 0, .slice hb2 7 hc2, .slice ka2 0 kc2, .slice ta2 0 tc2, .slice za2 0 zc2] 48)
  simp only [World.size_alloc] at HS
  obtain ⟨b1, hbq⟩ : ∃ q, q = w.heap.size := ⟨_, rfl⟩
  go_enter Try.func13, Try.ntmps13
  go_upto_region 1 with fail
  rw [← hbq] at HS
  refine wp_shade (fun W => SL w W [bxS (b1 + 1) [.bool true, .slice ca2 cm2 cc2, .int .i64 nx, .int .i64 1, .slice da2 0 dc2, .slice la2 0 lc2, .int .i64 0, .slice hb2 7 hc2, .slice ka2 0 kc2, .slice ta2 0 tc2, .slice za2 0 zc2], bxS b1 [.bool true, .slice ca1 cm1 cc1, .int .i64 nx, .int .i64 1, .slice da1 0 dc1, .slice la1 0 lc1, .int .i64 0, .slice hb1 7 hc1, .slice ka1 0 kc1, .slice ta1 0 tc1, .slice za1 0 zc1]]) HS.out ?_
  rw [← hbq]
  intro W0 hS0
  have H := Shut.mk hS0
  clear hS0 HS hbq
  have x0 := (H.out.bx 1 rfl 0 _ rfl).1
  have x1 := (H.out.bx 1 rfl 1 _ rfl).1
  have x2 := (H.out.bx 1 rfl 2 _ rfl).1
  have x3 := (H.out.bx 1 rfl 3 _ rfl).1
  have x4 := (H.out.bx 1 rfl 4 _ rfl).1
  have x5 := (H.out.bx 1 rfl 5 _ rfl).1
  have x6 := (H.out.bx 1 rfl 6 _ rfl).1
  have x7 := (H.out.bx 1 rfl 7 _ rfl).1
  have x8 := (H.out.bx 1 rfl 8 _ rfl).1
  have x9 := (H.out.bx 1 rfl 9 _ rfl).1
  have x10 := (H.out.bx 1 rfl 10 _ rfl).1
  have y0 := (H.out.bx 0 rfl 0 _ rfl).1
  have y1 := (H.out.bx 0 rfl 1 _ rfl).1
  have y2 := (H.out.bx 0 rfl 2 _ rfl).1
  have y3 := (H.out.bx 0 rfl 3 _ rfl).1
  have y4 := (H.out.bx 0 rfl 4 _ rfl).1
  have y5 := (H.out.bx 0 rfl 5 _ rfl).1
  have y6 := (H.out.bx 0 rfl 6 _ rfl).1
  have y7 := (H.out.bx 0 rfl 7 _ rfl).1
  have y8 := (H.out.bx 0 rfl 8 _ rfl).1
  have y9 := (H.out.bx 0 rfl 9 _ rfl).1
  have y10 := (H.out.bx 0 rfl 10 _ rfl).1
  go_wp2_with fail
  refine (HSV.out _ H.out.bel).mono ?_
  rintro e w1 ⟨rfl, hb⟩
  replace H := Shut.mk (H.out.below hb)
  clear hb x0 x1 x2 x3 x4 x5 x6 x7 x8 x9 x10 y0 y1 y2 y3 y4 y5 y6 y7 y8 y9 y10
  have x0 := (H.out.bx 1 rfl 0 _ rfl).1
  have x1 := (H.out.bx 1 rfl 1 _ rfl).1
  have x2 := (H.out.bx 1 rfl 2 _ rfl).1
  have x3 := (H.out.bx 1 rfl 3 _ rfl).1
  have x4 := (H.out.bx 1 rfl 4 _ rfl).1
  have x5 := (H.out.bx 1 rfl 5 _ rfl).1
  have x6 := (H.out.bx 1 rfl 6 _ rfl).1
  have x7 := (H.out.bx 1 rfl 7 _ rfl).1
  have x8 := (H.out.bx 1 rfl 8 _ rfl).1
  have x9 := (H.out.bx 1 rfl 9 _ rfl).1
  have x10 := (H.out.bx 1 rfl 10 _ rfl).1
  have y0 := (H.out.bx 0 rfl 0 _ rfl).1
  have y1 := (H.out.bx 0 rfl 1 _ rfl).1
  have y2 := (H.out.bx 0 rfl 2 _ rfl).1
  have y3 := (H.out.bx 0 rfl 3 _ rfl).1
  have y4 := (H.out.bx 0 rfl 4 _ rfl).1
  have y5 := (H.out.bx 0 rfl 5 _ rfl).1
  have y6 := (H.out.bx 0 rfl 6 _ rfl).1
  have y7 := (H.out.bx 0 rfl 7 _ rfl).1
  have y8 := (H.out.bx 0 rfl 8 _ rfl).1
  have y9 := (H.out.bx 0 rfl 9 _ rfl).1
  have y10 := (H.out.bx 0 rfl 10 _ rfl).1
  go_wp2_with fail
  refine (HHS.out _ H.out.bel).mono ?_
  rintro e w2 ⟨rfl, hb⟩
  replace H := Shut.mk (H.out.below hb)
  clear hb x0 x1 x2 x3 x4 x5 x6 x7 x8 x9 x10 y0 y1 y2 y3 y4 y5 y6 y7 y8 y9 y10
  have x0 := (H.out.bx 1 rfl 0 _ rfl).1
  have x1 := (H.out.bx 1 rfl 1 _ rfl).1
  have x2 := (H.out.bx 1 rfl 2 _ rfl).1
  have x3 := (H.out.bx 1 rfl 3 _ rfl).1
  have x4 := (H.out.bx 1 rfl 4 _ rfl).1
  have x5 := (H.out.bx 1 rfl 5 _ rfl).1
  have x6 := (H.out.bx 1 rfl 6 _ rfl).1
  have x7 := (H.out.bx 1 rfl 7 _ rfl).1
  have x8 := (H.out.bx 1 rfl 8 _ rfl).1
  have x9 := (H.out.bx 1 rfl 9 _ rfl).1
  have x10 := (H.out.bx 1 rfl 10 _ rfl).1
  have y0 := (H.out.bx 0 rfl 0 _ rfl).1
  have y1 := (H.out.bx 0 rfl 1 _ rfl).1
  have y2 := (H.out.bx 0 rfl 2 _ rfl).1
  have y3 := (H.out.bx 0 rfl 3 _ rfl).1
  have y4 := (H.out.bx 0 rfl 4 _ rfl).1
  have y5 := (H.out.bx 0 rfl 5 _ rfl).1
  have y6 := (H.out.bx 0 rfl 6 _ rfl).1
  have y7 := (H.out.bx 0 rfl 7 _ rfl).1
  have y8 := (H.out.bx 0 rfl 8 _ rfl).1
  have y9 := (H.out.bx 0 rfl 9 _ rfl).1
  have y10 := (H.out.bx 0 rfl 10 _ rfl).1
  go_wp2_with fail
  refine (HIS.out _).mono ?_
  rintro e w3 ⟨rfl, hb⟩
  replace H := Shut.mk (H.out.below hb)
  clear hb x0 x1 x2 x3 x4 x5 x6 x7 x8 x9 x10 y0 y1 y2 y3 y4 y5 y6 y7 y8 y9 y10
  have x0 := (H.out.bx 1 rfl 0 _ rfl).1
  have x1 := (H.out.bx 1 rfl 1 _ rfl).1
  have x2 := (H.out.bx 1 rfl 2 _ rfl).1
  have x3 := (H.out.bx 1 rfl 3 _ rfl).1
  have x4 := (H.out.bx 1 rfl 4 _ rfl).1
  have x5 := (H.out.bx 1 rfl 5 _ rfl).1
  have x6 := (H.out.bx 1 rfl 6 _ rfl).1
  have x7 := (H.out.bx 1 rfl 7 _ rfl).1
  have x8 := (H.out.bx 1 rfl 8 _ rfl).1
  have x9 := (H.out.bx 1 rfl 9 _ rfl).1
  have x10 := (H.out.bx 1 rfl 10 _ rfl).1
  have y0 := (H.out.bx 0 rfl 0 _ rfl).1
  have y1 := (H.out.bx 0 rfl 1 _ rfl).1
  have y2 := (H.out.bx 0 rfl 2 _ rfl).1
  have y3 := (H.out.bx 0 rfl 3 _ rfl).1
  have y4 := (H.out.bx 0 rfl 4 _ rfl).1
  have y5 := (H.out.bx 0 rfl 5 _ rfl).1
  have y6 := (H.out.bx 0 rfl 6 _ rfl).1
  have y7 := (H.out.bx 0 rfl 7 _ rfl).1
  have y8 := (H.out.bx 0 rfl 8 _ rfl).1
  have y9 := (H.out.bx 0 rfl 9 _ rfl).1
  have y10 := (H.out.bx 0 rfl 10 _ rfl).1
  go_wp2_with fail
  refine (HTS.out _).mono ?_
  rintro e w4 ⟨rfl, q, rfl⟩
  replace H := Shut.mk (H.out.below (below_drewN _ q))
  clear x0 x1 x2 x3 x4 x5 x6 x7 x8 x9 x10 y0 y1 y2 y3 y4 y5 y6 y7 y8 y9 y10
  have x0 := (H.out.bx 1 rfl 0 _ rfl).1
  have x1 := (H.out.bx 1 rfl 1 _ rfl).1
  have x2 := (H.out.bx 1 rfl 2 _ rfl).1
  have x3 := (H.out.bx 1 rfl 3 _ rfl).1
  have x4 := (H.out.bx 1 rfl 4 _ rfl).1
  have x5 := (H.out.bx 1 rfl 5 _ rfl).1
  have x6 := (H.out.bx 1 rfl 6 _ rfl).1
  have x7 := (H.out.bx 1 rfl 7 _ rfl).1
  have x8 := (H.out.bx 1 rfl 8 _ rfl).1
  have x9 := (H.out.bx 1 rfl 9 _ rfl).1
  have x10 := (H.out.bx 1 rfl 10 _ rfl).1
  have y0 := (H.out.bx 0 rfl 0 _ rfl).1
  have y1 := (H.out.bx 0 rfl 1 _ rfl).1
  have y2 := (H.out.bx 0 rfl 2 _ rfl).1
  have y3 := (H.out.bx 0 rfl 3 _ rfl).1
  have y4 := (H.out.bx 0 rfl 4 _ rfl).1
  have y5 := (H.out.bx 0 rfl 5 _ rfl).1
  have y6 := (H.out.bx 0 rfl 6 _ rfl).1
  have y7 := (H.out.bx 0 rfl 7 _ rfl).1
  have y8 := (H.out.bx 0 rfl 8 _ rfl).1
  have y9 := (H.out.bx 0 rfl 9 _ rfl).1
  have y10 := (H.out.bx 0 rfl 10 _ rfl).1
  go_wp2_with fail
  refine (HZS.out _).mono ?_
  rintro e w5 ⟨rfl, hb⟩
  replace H := Shut.mk (H.out.below hb)
  clear hb x0 x1 x2 x3 x4 x5 x6 x7 x8 x9 x10 y0 y1 y2 y3 y4 y5 y6 y7 y8 y9 y10
  go_wp2_with fail
  go_ret
  exact ⟨rfl, H.out.bel⟩
set_option maxHeartbeats 4000000 in
set_option maxRecDepth 100000 in
theorem markWorld_new {w0 w : World} {T : TM} {ca1 da1 la1 hb1 ka1 ta1 za1 : Option Addr} {cm1 cc1 dc1 lc1 hc1 kc1 tc1 zc1 : Nat} {l1 h1 l2 h2 : Nat} {nx : Int} {rs : List HoR} {S : List Str} (hs : SL w0 w (hsS hb1 rs l2 h2 :: trS (.agg #[.slice ca1 cm1 cc1, .int .i64 nx]) T l1 h1 :: S)) (hf : NFit T) (hr : hms rs = hosts9 7) :
    Calls Try.prog 14 #[.agg #[.bool true, .slice ca1 cm1 cc1, .int .i64 nx, .int .i64 1, .slice da1 0 dc1, .slice la1 0 lc1, .int .i64 0, .slice hb1 7 hc1, .slice ka1 0 kc1, .slice ta1 0 tc1, .slice za1 0 zc1], .int .i64 1] w fun e w' => e = .returned (.int .i64 (markK 1 T.nodes + 14 : Nat)) ∧ ∃ ys : List HoR, hms ys = marksH (markK 1 T.nodes) (hosts9 7) ∧ SL w0 w' (hsS hb1 ys l2 h2 :: thS (.agg #[.slice ca1 cm1 cc1, .int .i64 nx]) T l1 h1 :: S) := by
  have HF := Shut.mk hf
  have HPO := Shut.mk (And.intro (mark_pos T.nodes) (mark_fit hf 1 (by omega)))
  have HL7 := Shut.mk (hms_len7 hr)
  have HR := Shut.mk hr
  have HS := Shut.mk (hs.new #[.bool true, .slice ca1 cm1 cc1, .int .i64 nx, .int .i64 1, .slice da1 0 dc1, .slice la1 0 lc1, .int .i64 0, .slice hb1 7 hc1, .slice ka1 0 kc1, .slice ta1 0 tc1, .slice za1 0 zc1] 48)
  clear hs hf hr
  obtain ⟨b1, hbq⟩ : ∃ q, q = w.heap.size := ⟨_, rfl⟩
  go_enter Try.func14, Try.ntmps14
  go_upto_region 1 with fail
  rw [← hbq] at HS
  refine wp_shade (fun W => SL w0 W (bxS b1 [.bool true, .slice ca1 cm1 cc1, .int .i64 nx, .int .i64 1, .slice da1 0 dc1, .slice la1 0 lc1, .int .i64 0, .slice hb1 7 hc1, .slice ka1 0 kc1, .slice ta1 0 tc1, .slice za1 0 zc1] :: hsS hb1 rs l2 h2 :: trS (.agg #[.slice ca1 cm1 cc1, .int .i64 nx]) T l1 h1 :: S)) HS.out ?_
  rw [← hbq]
  intro W0 hS0
  have H := Shut.mk hS0
  clear hS0 HS hbq
  have x0 := (H.out.bx 0 rfl 0 _ rfl).1
  have x1 := (H.out.bx 0 rfl 1 _ rfl).1
  have x2 := (H.out.bx 0 rfl 2 _ rfl).1
  have x3 := (H.out.bx 0 rfl 3 _ rfl).1
  have x4 := (H.out.bx 0 rfl 4 _ rfl).1
  have x5 := (H.out.bx 0 rfl 5 _ rfl).1
  have x6 := (H.out.bx 0 rfl 6 _ rfl).1
  have x7 := (H.out.bx 0 rfl 7 _ rfl).1
  have x8 := (H.out.bx 0 rfl 8 _ rfl).1
  have x9 := (H.out.bx 0 rfl 9 _ rfl).1
  have x10 := (H.out.bx 0 rfl 10 _ rfl).1
  go_wp2_with fail
  refine (markServer_new 1 (show TAns _ (.agg #[.slice ca1 cm1 cc1, .int .i64 nx]) T l1 h1 from H.out.at 2 rfl) HF.out (by omega) (by omega) (H.out.is _ (List.mem_of_getElem? (show _[2]? = some (trS (.agg #[.slice ca1 cm1 cc1, .int .i64 nx]) T l1 h1) from rfl))).2.2.2).mono ?_
  rintro e w1 ⟨rfl, hH, ht⟩
  replace H := Shut.mk (H.out.turn 2 rfl ht (q := fun W => THeld W (.agg #[.slice ca1 cm1 cc1, .int .i64 nx]) 1 T l1 h1) hH (thS.loc _ _ _ _))
  simp only [List.set_cons_zero, List.set_cons_succ] at H
  clear hH ht x0 x1 x2 x3 x4 x5 x6 x7 x8 x9 x10
  obtain ⟨K, hK⟩ : ∃ K, K = markK 1 T.nodes := ⟨_, rfl⟩
  rw [← hK] at HPO ⊢
  have HKK := Shut.mk hK
  clear hK
  obtain ⟨g, rfl, hg, hcp⟩ : ∃ g, hb1 = some ⟨g, 0, none⟩ ∧ GW HK w1 g rs l2 h2 ∧ ∀ r ∈ rs, r.h.us.length ≤ r.cap := by
    obtain ⟨hcp, h⟩ := (show HsW w1 hb1 rs l2 h2 from H.out.at 1 rfl)
    rcases h with ⟨_, e⟩ | ⟨g, e, hg⟩
    · have := HL7.out
      rw [e] at this
      cases this
    · exact ⟨g, e, hg, hcp⟩
  have HMH := Shut.mk (markHostS_all g rs K hc1 l2 h2 w1 hg hcp HPO.out.1 (by rw [HR.out, hosts9_end]; have := HPO.out.2; omega))
  rw [HL7.out, HR.out, hosts9_end] at HMH
  clear hg hcp
  have x0 := (H.out.bx 0 rfl 0 _ rfl).1
  have x1 := (H.out.bx 0 rfl 1 _ rfl).1
  have x2 := (H.out.bx 0 rfl 2 _ rfl).1
  have x3 := (H.out.bx 0 rfl 3 _ rfl).1
  have x4 := (H.out.bx 0 rfl 4 _ rfl).1
  have x5 := (H.out.bx 0 rfl 5 _ rfl).1
  have x6 := (H.out.bx 0 rfl 6 _ rfl).1
  have x7 := (H.out.bx 0 rfl 7 _ rfl).1
  have x8 := (H.out.bx 0 rfl 8 _ rfl).1
  have x9 := (H.out.bx 0 rfl 9 _ rfl).1
  have x10 := (H.out.bx 0 rfl 10 _ rfl).1
  go_wp2_with fail
  refine HMH.out.mono ?_
  rintro e w2 ⟨rfl, ys, hyl, hym, hyc, hgw, ht⟩
  replace H := Shut.mk (H.out.turn 1 rfl ht (q := fun W => HsW W (some ⟨g, 0, none⟩) ys l2 h2) ⟨hyc, .inr ⟨g, rfl, hgw⟩⟩ (hsS.loc _ _ _ _))
  simp only [List.set_cons_zero, List.set_cons_succ] at H
  have HY := Shut.mk hym
  clear ht hgw hyc hyl hym HMH x0 x1 x2 x3 x4 x5 x6 x7 x8 x9 x10
  have x0 := (H.out.bx 0 rfl 0 _ rfl).1
  have x1 := (H.out.bx 0 rfl 1 _ rfl).1
  have x2 := (H.out.bx 0 rfl 2 _ rfl).1
  have x3 := (H.out.bx 0 rfl 3 _ rfl).1
  have x4 := (H.out.bx 0 rfl 4 _ rfl).1
  have x5 := (H.out.bx 0 rfl 5 _ rfl).1
  have x6 := (H.out.bx 0 rfl 6 _ rfl).1
  have x7 := (H.out.bx 0 rfl 7 _ rfl).1
  have x8 := (H.out.bx 0 rfl 8 _ rfl).1
  have x9 := (H.out.bx 0 rfl 9 _ rfl).1
  have x10 := (H.out.bx 0 rfl 10 _ rfl).1
  go_wp2_with fail
  refine (markIntS_none ka1 (K + 14) kc1 _).mono ?_
  rintro e w3 ⟨rfl, rfl⟩
  clear x0 x1 x2 x3 x4 x5 x6 x7 x8 x9 x10
  have x0 := (H.out.bx 0 rfl 0 _ rfl).1
  have x1 := (H.out.bx 0 rfl 1 _ rfl).1
  have x2 := (H.out.bx 0 rfl 2 _ rfl).1
  have x3 := (H.out.bx 0 rfl 3 _ rfl).1
  have x4 := (H.out.bx 0 rfl 4 _ rfl).1
  have x5 := (H.out.bx 0 rfl 5 _ rfl).1
  have x6 := (H.out.bx 0 rfl 6 _ rfl).1
  have x7 := (H.out.bx 0 rfl 7 _ rfl).1
  have x8 := (H.out.bx 0 rfl 8 _ rfl).1
  have x9 := (H.out.bx 0 rfl 9 _ rfl).1
  have x10 := (H.out.bx 0 rfl 10 _ rfl).1
  go_wp2_with fail
  refine (markStringS_none ta1 (K + 14) tc1 _).mono ?_
  rintro e w4 ⟨rfl, rfl⟩
  clear x0 x1 x2 x3 x4 x5 x6 x7 x8 x9 x10
  have x0 := (H.out.bx 0 rfl 0 _ rfl).1
  have x1 := (H.out.bx 0 rfl 1 _ rfl).1
  have x2 := (H.out.bx 0 rfl 2 _ rfl).1
  have x3 := (H.out.bx 0 rfl 3 _ rfl).1
  have x4 := (H.out.bx 0 rfl 4 _ rfl).1
  have x5 := (H.out.bx 0 rfl 5 _ rfl).1
  have x6 := (H.out.bx 0 rfl 6 _ rfl).1
  have x7 := (H.out.bx 0 rfl 7 _ rfl).1
  have x8 := (H.out.bx 0 rfl 8 _ rfl).1
  have x9 := (H.out.bx 0 rfl 9 _ rfl).1
  have x10 := (H.out.bx 0 rfl 10 _ rfl).1
  go_wp2_with fail
  refine (markSizeS_zero za1 (K + 14) zc1 _).mono ?_
  rintro e w5 ⟨rfl, rfl⟩
  clear x0 x1 x2 x3 x4 x5 x6 x7 x8 x9 x10
  go_wp2_with fail
  go_ret
  exact ⟨by rw [← HKK.out]; rfl, ys, by rw [← HKK.out]; exact HY.out, H.out.tail⟩
set_option maxHeartbeats 4000000 in
set_option maxRecDepth 100000 in
theorem heldWorld_new {w0 w : World} {T : TM} {ca1 da1 la1 hb1 ka1 ta1 za1 : Option Addr} {cm1 cc1 dc1 lc1 hc1 kc1 tc1 zc1 : Nat} {l1 h1 l2 h2 : Nat} {nx : Int} {ys : List HoR} {S : List Str} (hs : SL w0 w (hsS hb1 ys l2 h2 :: thS (.agg #[.slice ca1 cm1 cc1, .int .i64 nx]) T l1 h1 :: S)) (hf : NFit T) (hr : hms ys = marksH (markK 1 T.nodes) (hosts9 7)) :
    Calls Try.prog 15 #[.agg #[.bool true, .slice ca1 cm1 cc1, .int .i64 nx, .int .i64 1, .slice da1 0 dc1, .slice la1 0 lc1, .int .i64 0, .slice hb1 7 hc1, .slice ka1 0 kc1, .slice ta1 0 tc1, .slice za1 0 zc1], .int .i64 1] w fun e w' => e = .returned (.int .i64 (markK 1 T.nodes + 14 : Nat)) ∧ Below w.heap.size w w' := by
  have HPO := Shut.mk (And.intro (mark_pos T.nodes) (mark_fit hf 1 (by omega)))
  have HL7 : Shut (ys.length = 7) := ⟨by rw [← hms_len ys, hr, marksH_len, hosts9_len]⟩
  have ht := (show THeld w (.agg #[.slice ca1 cm1 cc1, .int .i64 nx]) 1 T l1 h1 from hs.at 1 rfl)
  have hh := (show HsW w hb1 ys l2 h2 from hs.at 0 rfl).row
  have HSV := Shut.mk (fun (W : World) (hb : Below w.heap.size w W) => heldServer_new (da := da1) (la := la1) (dc := dc1) (lc := lc1) (ht.below hb) hf (by omega) (by omega) HPO.out.1)
  obtain ⟨K, hK⟩ : ∃ K, K = markK 1 T.nodes := ⟨_, rfl⟩
  rw [← hK] at HPO HSV hr ⊢
  have HHS := Shut.mk (fun (W : World) (hb : Below w.heap.size w W) => heldHostS_any hb1 ys K hc1 (hosts9 7) W (hh.stays hb) hr HPO.out.1 (by rw [hosts9_end]; have := HPO.out.2; omega))
  rw [HL7.out, hosts9_end] at HHS
  have HIS := Shut.mk (fun (W : World) => heldIntS_none ka1 (K + 14) kc1 W)
  have HTS := Shut.mk (fun (W : World) => heldStringS_any ta1 (K + 14) 0 tc1 W (fun h => by simp [marks] at h) (by omega) (by have := HPO.out.2; omega))
  have HZS := Shut.mk (fun (W : World) => heldSizeS_any za1 (K + 14) 0 zc1 W (fun h => by simp [marksS, pzS] at h) (by omega) (by have := HPO.out.2; omega))
  rw [Nat.add_zero] at HTS
  rw [Nat.mul_zero, Nat.add_zero] at HZS
  have n1 : ¬ (K : Int) < 0 := by omega
  have n2 : ¬ ((K + 14 : Nat) : Int) < 0 := by omega
  have n3 : ¬ (K : Int) + 14 < 0 := by omega
  clear hs hf hr hK ht hh HL7
  have HS := Shut.mk ((SL.start w).new #[.bool true, .slice ca1 cm1 cc1, .int .i64 nx, .int .i64 1, .slice da1 0 dc1, .slice la1 0 lc1, .int .i64 0, .slice hb1 7 hc1, .slice ka1 0 kc1, .slice ta1 0 tc1, .slice za1 0 zc1] 48)
  obtain ⟨b1, hbq⟩ : ∃ q, q = w.heap.size := ⟨_, rfl⟩
  go_enter Try.func15, Try.ntmps15
  go_upto_region 1 with fail
  rw [← hbq] at HS
  refine wp_shade (fun W => SL w W [bxS b1 [.bool true, .slice ca1 cm1 cc1, .int .i64 nx, .int .i64 1, .slice da1 0 dc1, .slice la1 0 lc1, .int .i64 0, .slice hb1 7 hc1, .slice ka1 0 kc1, .slice ta1 0 tc1, .slice za1 0 zc1]]) HS.out ?_
  rw [← hbq]
  intro W0 hS0
  have H := Shut.mk hS0
  clear hS0 HS hbq
  have x0 := (H.out.bx 0 rfl 0 _ rfl).1
  have x1 := (H.out.bx 0 rfl 1 _ rfl).1
  have x2 := (H.out.bx 0 rfl 2 _ rfl).1
  have x3 := (H.out.bx 0 rfl 3 _ rfl).1
  have x4 := (H.out.bx 0 rfl 4 _ rfl).1
  have x5 := (H.out.bx 0 rfl 5 _ rfl).1
  have x6 := (H.out.bx 0 rfl 6 _ rfl).1
  have x7 := (H.out.bx 0 rfl 7 _ rfl).1
  have x8 := (H.out.bx 0 rfl 8 _ rfl).1
  have x9 := (H.out.bx 0 rfl 9 _ rfl).1
  have x10 := (H.out.bx 0 rfl 10 _ rfl).1
  go_wp2_with fail
  refine (HSV.out _ H.out.bel).mono ?_
  rintro e w1 ⟨rfl, hb⟩
  replace H := Shut.mk (H.out.below hb)
  clear hb x0 x1 x2 x3 x4 x5 x6 x7 x8 x9 x10
  have x0 := (H.out.bx 0 rfl 0 _ rfl).1
  have x1 := (H.out.bx 0 rfl 1 _ rfl).1
  have x2 := (H.out.bx 0 rfl 2 _ rfl).1
  have x3 := (H.out.bx 0 rfl 3 _ rfl).1
  have x4 := (H.out.bx 0 rfl 4 _ rfl).1
  have x5 := (H.out.bx 0 rfl 5 _ rfl).1
  have x6 := (H.out.bx 0 rfl 6 _ rfl).1
  have x7 := (H.out.bx 0 rfl 7 _ rfl).1
  have x8 := (H.out.bx 0 rfl 8 _ rfl).1
  have x9 := (H.out.bx 0 rfl 9 _ rfl).1
  have x10 := (H.out.bx 0 rfl 10 _ rfl).1
  go_wp2_with fail
  refine (HHS.out _ H.out.bel).mono ?_
  rintro e w2 ⟨rfl, hb⟩
  replace H := Shut.mk (H.out.below hb)
  clear hb x0 x1 x2 x3 x4 x5 x6 x7 x8 x9 x10
  have x0 := (H.out.bx 0 rfl 0 _ rfl).1
  have x1 := (H.out.bx 0 rfl 1 _ rfl).1
  have x2 := (H.out.bx 0 rfl 2 _ rfl).1
  have x3 := (H.out.bx 0 rfl 3 _ rfl).1
  have x4 := (H.out.bx 0 rfl 4 _ rfl).1
  have x5 := (H.out.bx 0 rfl 5 _ rfl).1
  have x6 := (H.out.bx 0 rfl 6 _ rfl).1
  have x7 := (H.out.bx 0 rfl 7 _ rfl).1
  have x8 := (H.out.bx 0 rfl 8 _ rfl).1
  have x9 := (H.out.bx 0 rfl 9 _ rfl).1
  have x10 := (H.out.bx 0 rfl 10 _ rfl).1
  go_wp2_with fail
  refine (HIS.out _).mono ?_
  rintro e w3 ⟨rfl, rfl⟩
  clear x0 x1 x2 x3 x4 x5 x6 x7 x8 x9 x10
  have x0 := (H.out.bx 0 rfl 0 _ rfl).1
  have x1 := (H.out.bx 0 rfl 1 _ rfl).1
  have x2 := (H.out.bx 0 rfl 2 _ rfl).1
  have x3 := (H.out.bx 0 rfl 3 _ rfl).1
  have x4 := (H.out.bx 0 rfl 4 _ rfl).1
  have x5 := (H.out.bx 0 rfl 5 _ rfl).1
  have x6 := (H.out.bx 0 rfl 6 _ rfl).1
  have x7 := (H.out.bx 0 rfl 7 _ rfl).1
  have x8 := (H.out.bx 0 rfl 8 _ rfl).1
  have x9 := (H.out.bx 0 rfl 9 _ rfl).1
  have x10 := (H.out.bx 0 rfl 10 _ rfl).1
  go_wp2_with fail
  refine (HTS.out _).mono ?_
  rintro e w4 ⟨rfl, hb⟩
  replace H := Shut.mk (H.out.below hb)
  clear hb x0 x1 x2 x3 x4 x5 x6 x7 x8 x9 x10
  have x0 := (H.out.bx 0 rfl 0 _ rfl).1
  have x1 := (H.out.bx 0 rfl 1 _ rfl).1
  have x2 := (H.out.bx 0 rfl 2 _ rfl).1
  have x3 := (H.out.bx 0 rfl 3 _ rfl).1
  have x4 := (H.out.bx 0 rfl 4 _ rfl).1
  have x5 := (H.out.bx 0 rfl 5 _ rfl).1
  have x6 := (H.out.bx 0 rfl 6 _ rfl).1
  have x7 := (H.out.bx 0 rfl 7 _ rfl).1
  have x8 := (H.out.bx 0 rfl 8 _ rfl).1
  have x9 := (H.out.bx 0 rfl 9 _ rfl).1
  have x10 := (H.out.bx 0 rfl 10 _ rfl).1
  go_wp2_with fail
  refine (HZS.out _).mono ?_
  rintro e w5 ⟨rfl, hb⟩
  replace H := Shut.mk (H.out.below hb)
  clear hb x0 x1 x2 x3 x4 x5 x6 x7 x8 x9 x10
  go_wp2_with fail
  go_ret
  exact ⟨rfl, H.out.bel⟩
theorem SL.turn3 {w0 W : World} {s t u : Str} {S : List Str} (h : SL w0 W (s :: t :: u :: S)) : SL w0 W (t :: u :: s :: S) := by
  have hp : (s :: t :: u :: S).Perm (t :: u :: s :: S) := (List.Perm.swap t s _).trans (List.Perm.cons t (List.Perm.swap u s S))
  exact ⟨h.bel, fun x k => h.is x (hp.mem_iff.2 k), (hp.pairwise_iff fun q => q.symm).1 h.apart⟩
attribute [local irreducible] newX markK
set_option maxRecDepth 100000 in
set_option maxHeartbeats 8000000 in
theorem lawWorldNew (h : ∀ (w : World), Calls Try.prog 12 #[] w fun e w' => WdNew newX newX.next w e w') (w : World) :
    Calls Try.prog 4 #[] w fun e w' => e = .returned (.bool true) ∧ Below w.heap.size w w' := by
  have HH := Shut.mk h
  have HS := Shut.mk specWorldNew
  have HF := Shut.mk newX_fit
  clear h
  generalize newX.next = nx at HH HS
  generalize newX = T at HH HS HF
  unfold WdNew at HH HS
  have H := Shut.mk (SL.start w)
  go_enter Try.func4, Try.ntmps4
  go_wp2_with fail
  refine (HS.out _).mono ?_
  rintro e w1 ⟨ca1, da1, la1, hb1, ka1, ta1, za1, cm1, cc1, dc1, lc1, hc1, kc1, tc1, zc1, a1, b1, p1, q1, rs1, rfl, hr, _, hsl⟩
  have HR1 := Shut.mk hr
  rw [hms_len7 hr]
  replace H := Shut.mk ((H.out.join hsl).new #[.bool true, .slice ca1 cm1 cc1, .int .i64 nx, .int .i64 1, .slice da1 0 dc1, .slice la1 0 lc1, .int .i64 0, .slice hb1 7 hc1, .slice ka1 0 kc1, .slice ta1 0 tc1, .slice za1 0 zc1] 48)
  obtain ⟨g1, hg1⟩ : ∃ q, q = w1.heap.size := ⟨_, rfl⟩
  rw [← hg1] at H
  clear hr hsl
  go_upto_region 2 with fail
  refine wp_shade (fun W => SL w W [bxS g1 [.bool true, .slice ca1 cm1 cc1, .int .i64 nx, .int .i64 1, .slice da1 0 dc1, .slice la1 0 lc1, .int .i64 0, .slice hb1 7 hc1, .slice ka1 0 kc1, .slice ta1 0 tc1, .slice za1 0 zc1], hsS hb1 rs1 p1 q1, trS (.agg #[.slice ca1 cm1 cc1, .int .i64 nx]) T a1 b1]) H.out ?_
  rw [← hg1]
  intro V1 hW
  replace H := Shut.mk hW
  clear hW hg1
  go_wp2_with fail
  refine (HH.out _).mono ?_
  rintro e w2 ⟨ca2, da2, la2, hb2, ka2, ta2, za2, cm2, cc2, dc2, lc2, hc2, kc2, tc2, zc2, a2, b2, p2, q2, rs2, rfl, hr, _, hsl⟩
  have HR2 := Shut.mk hr
  rw [hms_len7 hr]
  replace H := Shut.mk ((H.out.join hsl).new #[.bool true, .slice ca2 cm2 cc2, .int .i64 nx, .int .i64 1, .slice da2 0 dc2, .slice la2 0 lc2, .int .i64 0, .slice hb2 7 hc2, .slice ka2 0 kc2, .slice ta2 0 tc2, .slice za2 0 zc2] 48)
  obtain ⟨g2, hg2⟩ : ∃ q, q = w2.heap.size := ⟨_, rfl⟩
  rw [← hg2] at H
  clear hr hsl
  go_upto_region 3 with fail
  refine wp_shade (fun W => SL w W [bxS g2 [.bool true, .slice ca2 cm2 cc2, .int .i64 nx, .int .i64 1, .slice da2 0 dc2, .slice la2 0 lc2, .int .i64 0, .slice hb2 7 hc2, .slice ka2 0 kc2, .slice ta2 0 tc2, .slice za2 0 zc2], hsS hb2 rs2 p2 q2, trS (.agg #[.slice ca2 cm2 cc2, .int .i64 nx]) T a2 b2, bxS g1 [.bool true, .slice ca1 cm1 cc1, .int .i64 nx, .int .i64 1, .slice da1 0 dc1, .slice la1 0 lc1, .int .i64 0, .slice hb1 7 hc1, .slice ka1 0 kc1, .slice ta1 0 tc1, .slice za1 0 zc1], hsS hb1 rs1 p1 q1, trS (.agg #[.slice ca1 cm1 cc1, .int .i64 nx]) T a1 b1]) H.out ?_
  rw [← hg2]
  intro V2 hW
  replace H := Shut.mk hW
  clear hW hg2
  have x0 := (H.out.bx 0 rfl 0 _ rfl).1
  have x1 := (H.out.bx 0 rfl 1 _ rfl).1
  have x2 := (H.out.bx 0 rfl 2 _ rfl).1
  have x3 := (H.out.bx 0 rfl 3 _ rfl).1
  have x4 := (H.out.bx 0 rfl 4 _ rfl).1
  have x5 := (H.out.bx 0 rfl 5 _ rfl).1
  have x6 := (H.out.bx 0 rfl 6 _ rfl).1
  have x7 := (H.out.bx 0 rfl 7 _ rfl).1
  have x8 := (H.out.bx 0 rfl 8 _ rfl).1
  have x9 := (H.out.bx 0 rfl 9 _ rfl).1
  have x10 := (H.out.bx 0 rfl 10 _ rfl).1
  have y0 := (H.out.bx 3 rfl 0 _ rfl).1
  have y1 := (H.out.bx 3 rfl 1 _ rfl).1
  have y2 := (H.out.bx 3 rfl 2 _ rfl).1
  have y3 := (H.out.bx 3 rfl 3 _ rfl).1
  have y4 := (H.out.bx 3 rfl 4 _ rfl).1
  have y5 := (H.out.bx 3 rfl 5 _ rfl).1
  have y6 := (H.out.bx 3 rfl 6 _ rfl).1
  have y7 := (H.out.bx 3 rfl 7 _ rfl).1
  have y8 := (H.out.bx 3 rfl 8 _ rfl).1
  have y9 := (H.out.bx 3 rfl 9 _ rfl).1
  have y10 := (H.out.bx 3 rfl 10 _ rfl).1
  go_wp2_with fail
  refine (eqWorld_new (show TAns _ (.agg #[.slice ca2 cm2 cc2, .int .i64 nx]) T a2 b2 from H.out.at 2 rfl) (show TAns _ (.agg #[.slice ca1 cm1 cc1, .int .i64 nx]) T a1 b1 from H.out.at 5 rfl) HF.out (show HsW _ hb2 rs2 p2 q2 from H.out.at 1 rfl).row (show HsW _ hb1 rs1 p1 q1 from H.out.at 4 rfl).row HR2.out HR1.out).mono ?_
  rintro e we ⟨rfl, hb⟩
  replace H := Shut.mk (H.out.below hb)
  clear hb x0 x1 x2 x3 x4 x5 x6 x7 x8 x9 x10 y0 y1 y2 y3 y4 y5 y6 y7 y8 y9 y10
  have x0 := (H.out.bx 0 rfl 0 _ rfl).1
  have x1 := (H.out.bx 0 rfl 1 _ rfl).1
  have x2 := (H.out.bx 0 rfl 2 _ rfl).1
  have x3 := (H.out.bx 0 rfl 3 _ rfl).1
  have x4 := (H.out.bx 0 rfl 4 _ rfl).1
  have x5 := (H.out.bx 0 rfl 5 _ rfl).1
  have x6 := (H.out.bx 0 rfl 6 _ rfl).1
  have x7 := (H.out.bx 0 rfl 7 _ rfl).1
  have x8 := (H.out.bx 0 rfl 8 _ rfl).1
  have x9 := (H.out.bx 0 rfl 9 _ rfl).1
  have x10 := (H.out.bx 0 rfl 10 _ rfl).1
  have HM : Shut (SL w _ [hsS hb2 rs2 p2 q2, trS (.agg #[.slice ca2 cm2 cc2, .int .i64 nx]) T a2 b2, bxS g2 [.bool true, .slice ca2 cm2 cc2, .int .i64 nx, .int .i64 1, .slice da2 0 dc2, .slice la2 0 lc2, .int .i64 0, .slice hb2 7 hc2, .slice ka2 0 kc2, .slice ta2 0 tc2, .slice za2 0 zc2], bxS g1 [.bool true, .slice ca1 cm1 cc1, .int .i64 nx, .int .i64 1, .slice da1 0 dc1, .slice la1 0 lc1, .int .i64 0, .slice hb1 7 hc1, .slice ka1 0 kc1, .slice ta1 0 tc1, .slice za1 0 zc1], hsS hb1 rs1 p1 q1, trS (.agg #[.slice ca1 cm1 cc1, .int .i64 nx]) T a1 b1]) := ⟨SL.turn3 H.out⟩
  go_wp2_with fail
  refine (markWorld_new HM.out HF.out HR2.out).mono ?_
  rintro e wm ⟨rfl, ys, hys, hsl⟩
  replace H := Shut.mk hsl
  have HY := Shut.mk hys
  clear hsl hys HM x0 x1 x2 x3 x4 x5 x6 x7 x8 x9 x10
  obtain ⟨K, hK⟩ : ∃ K, K = markK 1 T.nodes + 14 := ⟨_, rfl⟩
  rw [← hK]
  have HKK := Shut.mk hK
  clear hK
  have hk0 : ¬ (K : Int) < 0 := by omega
  have hkk : ((K : Int) != (K : Int)) = false := by simp
  have x0 := (H.out.bx 2 rfl 0 _ rfl).1
  have x1 := (H.out.bx 2 rfl 1 _ rfl).1
  have x2 := (H.out.bx 2 rfl 2 _ rfl).1
  have x3 := (H.out.bx 2 rfl 3 _ rfl).1
  have x4 := (H.out.bx 2 rfl 4 _ rfl).1
  have x5 := (H.out.bx 2 rfl 5 _ rfl).1
  have x6 := (H.out.bx 2 rfl 6 _ rfl).1
  have x7 := (H.out.bx 2 rfl 7 _ rfl).1
  have x8 := (H.out.bx 2 rfl 8 _ rfl).1
  have x9 := (H.out.bx 2 rfl 9 _ rfl).1
  have x10 := (H.out.bx 2 rfl 10 _ rfl).1
  go_wp2_with fail
  refine (heldWorld_new (S := [bxS g2 [.bool true, .slice ca2 cm2 cc2, .int .i64 nx, .int .i64 1, .slice da2 0 dc2, .slice la2 0 lc2, .int .i64 0, .slice hb2 7 hc2, .slice ka2 0 kc2, .slice ta2 0 tc2, .slice za2 0 zc2], bxS g1 [.bool true, .slice ca1 cm1 cc1, .int .i64 nx, .int .i64 1, .slice da1 0 dc1, .slice la1 0 lc1, .int .i64 0, .slice hb1 7 hc1, .slice ka1 0 kc1, .slice ta1 0 tc1, .slice za1 0 zc1], hsS hb1 rs1 p1 q1, trS (.agg #[.slice ca1 cm1 cc1, .int .i64 nx]) T a1 b1]) (H.out) HF.out HY.out).mono ?_
  rintro e wh ⟨rfl, hb⟩
  rw [← HKK.out]
  replace H := Shut.mk (H.out.below hb)
  clear hb x0 x1 x2 x3 x4 x5 x6 x7 x8 x9 x10
  go_wp2_with fail
  refine (HH.out _).mono ?_
  rintro e w3 ⟨ca3, da3, la3, hb3, ka3, ta3, za3, cm3, cc3, dc3, lc3, hc3, kc3, tc3, zc3, a3, b3, p3, q3, rs3, rfl, hr, _, hsl⟩
  have HR3 := Shut.mk hr
  rw [hms_len7 hr]
  replace H := Shut.mk ((H.out.join hsl).new #[.bool true, .slice ca3 cm3 cc3, .int .i64 nx, .int .i64 1, .slice da3 0 dc3, .slice la3 0 lc3, .int .i64 0, .slice hb3 7 hc3, .slice ka3 0 kc3, .slice ta3 0 tc3, .slice za3 0 zc3] 48)
  obtain ⟨g3, hg3⟩ : ∃ q, q = w3.heap.size := ⟨_, rfl⟩
  rw [← hg3] at H
  clear hr hsl
  go_upto_region 14 with fail
  refine wp_shade (fun W => SL w W [bxS g3 [.bool true, .slice ca3 cm3 cc3, .int .i64 nx, .int .i64 1, .slice da3 0 dc3, .slice la3 0 lc3, .int .i64 0, .slice hb3 7 hc3, .slice ka3 0 kc3, .slice ta3 0 tc3, .slice za3 0 zc3], hsS hb3 rs3 p3 q3, trS (.agg #[.slice ca3 cm3 cc3, .int .i64 nx]) T a3 b3, hsS hb2 ys p2 q2, thS (.agg #[.slice ca2 cm2 cc2, .int .i64 nx]) T a2 b2, bxS g2 [.bool true, .slice ca2 cm2 cc2, .int .i64 nx, .int .i64 1, .slice da2 0 dc2, .slice la2 0 lc2, .int .i64 0, .slice hb2 7 hc2, .slice ka2 0 kc2, .slice ta2 0 tc2, .slice za2 0 zc2], bxS g1 [.bool true, .slice ca1 cm1 cc1, .int .i64 nx, .int .i64 1, .slice da1 0 dc1, .slice la1 0 lc1, .int .i64 0, .slice hb1 7 hc1, .slice ka1 0 kc1, .slice ta1 0 tc1, .slice za1 0 zc1], hsS hb1 rs1 p1 q1, trS (.agg #[.slice ca1 cm1 cc1, .int .i64 nx]) T a1 b1]) H.out ?_
  rw [← hg3]
  intro V3 hW
  replace H := Shut.mk hW
  clear hW hg3
  have x0 := (H.out.bx 0 rfl 0 _ rfl).1
  have x1 := (H.out.bx 0 rfl 1 _ rfl).1
  have x2 := (H.out.bx 0 rfl 2 _ rfl).1
  have x3 := (H.out.bx 0 rfl 3 _ rfl).1
  have x4 := (H.out.bx 0 rfl 4 _ rfl).1
  have x5 := (H.out.bx 0 rfl 5 _ rfl).1
  have x6 := (H.out.bx 0 rfl 6 _ rfl).1
  have x7 := (H.out.bx 0 rfl 7 _ rfl).1
  have x8 := (H.out.bx 0 rfl 8 _ rfl).1
  have x9 := (H.out.bx 0 rfl 9 _ rfl).1
  have x10 := (H.out.bx 0 rfl 10 _ rfl).1
  have y0 := (H.out.bx 6 rfl 0 _ rfl).1
  have y1 := (H.out.bx 6 rfl 1 _ rfl).1
  have y2 := (H.out.bx 6 rfl 2 _ rfl).1
  have y3 := (H.out.bx 6 rfl 3 _ rfl).1
  have y4 := (H.out.bx 6 rfl 4 _ rfl).1
  have y5 := (H.out.bx 6 rfl 5 _ rfl).1
  have y6 := (H.out.bx 6 rfl 6 _ rfl).1
  have y7 := (H.out.bx 6 rfl 7 _ rfl).1
  have y8 := (H.out.bx 6 rfl 8 _ rfl).1
  have y9 := (H.out.bx 6 rfl 9 _ rfl).1
  have y10 := (H.out.bx 6 rfl 10 _ rfl).1
  go_wp2_with fail
  refine (eqWorld_new (show TAns _ (.agg #[.slice ca3 cm3 cc3, .int .i64 nx]) T a3 b3 from H.out.at 2 rfl) (show TAns _ (.agg #[.slice ca1 cm1 cc1, .int .i64 nx]) T a1 b1 from H.out.at 8 rfl) HF.out (show HsW _ hb3 rs3 p3 q3 from H.out.at 1 rfl).row (show HsW _ hb1 rs1 p1 q1 from H.out.at 7 rfl).row HR3.out HR1.out).mono ?_
  rintro e we ⟨rfl, hb⟩
  replace H := Shut.mk (H.out.below hb)
  clear hb x0 x1 x2 x3 x4 x5 x6 x7 x8 x9 x10 y0 y1 y2 y3 y4 y5 y6 y7 y8 y9 y10
  have x0 := (H.out.bx 5 rfl 0 _ rfl).1
  have x1 := (H.out.bx 5 rfl 1 _ rfl).1
  have x2 := (H.out.bx 5 rfl 2 _ rfl).1
  have x3 := (H.out.bx 5 rfl 3 _ rfl).1
  have x4 := (H.out.bx 5 rfl 4 _ rfl).1
  have x5 := (H.out.bx 5 rfl 5 _ rfl).1
  have x6 := (H.out.bx 5 rfl 6 _ rfl).1
  have x7 := (H.out.bx 5 rfl 7 _ rfl).1
  have x8 := (H.out.bx 5 rfl 8 _ rfl).1
  have x9 := (H.out.bx 5 rfl 9 _ rfl).1
  have x10 := (H.out.bx 5 rfl 10 _ rfl).1
  go_wp2_with fail
  refine (heldWorld_new (S := [bxS g2 [.bool true, .slice ca2 cm2 cc2, .int .i64 nx, .int .i64 1, .slice da2 0 dc2, .slice la2 0 lc2, .int .i64 0, .slice hb2 7 hc2, .slice ka2 0 kc2, .slice ta2 0 tc2, .slice za2 0 zc2], bxS g1 [.bool true, .slice ca1 cm1 cc1, .int .i64 nx, .int .i64 1, .slice da1 0 dc1, .slice la1 0 lc1, .int .i64 0, .slice hb1 7 hc1, .slice ka1 0 kc1, .slice ta1 0 tc1, .slice za1 0 zc1], hsS hb1 rs1 p1 q1, trS (.agg #[.slice ca1 cm1 cc1, .int .i64 nx]) T a1 b1]) (H.out.tail.tail.tail) HF.out HY.out).mono ?_
  rintro e wh ⟨rfl, hb⟩
  rw [← HKK.out]
  replace H := Shut.mk (H.out.below hb)
  clear hb x0 x1 x2 x3 x4 x5 x6 x7 x8 x9 x10
  go_wp2_with fail
  go_ret
  exact ⟨rfl, H.out.bel⟩
end Go.Proofs.Ytendbipfmgnjkaa
/- LkN: The program's own TreeNew. -/
namespace Go.Proofs.Ytendbipfmgnjkaa
set_option maxRecDepth 100000
open Go.RowKit
attribute [local go_sem ↓] Go.wp_at_zero Go.wp_at_succ

set_option maxRecDepth 100000 in
set_option maxHeartbeats 2000000 in
theorem implTreeNew (w : World) : Calls Try.prog 58 #[] w fun e w' => TrPost newX w e w' := by
  go_enter Try.func58, Try.ntmps58
  go_wp2_with fail
  refine body_shade (fun W => WCells W w.heap.size [.slice (some ⟨w.heap.size + 1, 0, none⟩) 1 1, .int .i64 2] ∧ WCells W (w.heap.size + 1) (ncells newR) ∧ Below w.heap.size w W) ⟨(wcells_new w #[.slice (some ⟨w.heap.size + 1, 0, none⟩) 1 1, .int .i64 2] 37).alloc _, ?h2, ((Below.refl _ _).alloc (Nat.le_refl _) _).alloc (by simp) _⟩ ?_
  case h2 =>
    have := wcells_new (w.alloc (.cells #[.slice (some ⟨w.heap.size + 1, 0, none⟩) 1 1, .int .i64 2] 37)) (ncells newR).toArray 108
    rw [show (w.alloc (.cells #[.slice (some ⟨w.heap.size + 1, 0, none⟩) 1 1, .int .i64 2] 37)).heap.size = w.heap.size + 1 by simp] at this
    exact this
  rintro W ⟨h1, h2, hb⟩
  have x0 := (h1.2 0 _ rfl).1
  have x1 := (h1.2 1 _ rfl).1
  refine bodyPost_ret (v := .agg #[.slice (some ⟨w.heap.size + 1, 0, none⟩) 1 1, .int .i64 2]) (by simp [results, Try.results58, go_sem, x0, x1]) rfl ⟨_, rfl, ⟨_, 1, [newR], rfl, rfl, Nat.le_refl _, .inr ⟨_, rfl, ?_⟩⟩, hb⟩
  exact ⟨by simpa [NK.cells] using h2, by omega, h2.1, fun r hr => .inl (by rw [List.mem_singleton.1 hr]; rfl), by simp⟩
end Go.Proofs.Ytendbipfmgnjkaa
/- SvI: The program's own ServerNew. -/
namespace Go.Proofs.Ytendbipfmgnjkaa
set_option maxRecDepth 100000
open Go.RowKit
attribute [local go_sem ↓] Go.wp_at_zero Go.wp_at_succ

set_option maxRecDepth 100000 in
set_option maxHeartbeats 2000000 in
theorem implServerNew (w : World) : Calls Try.prog 32 #[] w fun e w' => SvNew newX newX.next w e w' := by
  have HT := Shut.mk implTreeNew
  unfold TrPost at HT
  generalize newX = T at *
  obtain ⟨nx, hnx⟩ : ∃ q, q = T.next := ⟨_, rfl⟩
  rw [← hnx]
  have HN := Shut.mk hnx
  clear hnx
  have HS := Shut.mk ((SL.start w).new #[.bool false, .slice none 0 0, .int .i64 0, .int .i64 0, .slice none 0 0, .slice none 0 0, .int .i64 0] 43)
  obtain ⟨b1, hb1⟩ : ∃ q, q = w.heap.size := ⟨_, rfl⟩
  go_enter Try.func32, Try.ntmps32
  go_upto_region 1 with fail
  rw [← hb1] at HS
  refine wp_shade (fun W => SL w W [bxS b1 [.bool false, .slice none 0 0, .int .i64 0, .int .i64 0, .slice none 0 0, .slice none 0 0, .int .i64 0]]) HS.out ?_
  rw [← hb1]
  intro W0 hS0
  have H := Shut.mk hS0
  clear hS0 HS hb1
  go_wp2_with fail
  refine (HT.out _).mono ?_
  rintro e w1 ⟨v1, rfl, hA, hb⟩
  obtain ⟨ca, cm, cc, rfl⟩ := tans_form hA
  rw [← HN.out] at hA ⊢
  replace H := Shut.mk (H.out.add (s := trS (.agg #[.slice ca cm cc, .int .i64 nx]) T W0.heap.size w1.heap.size) hb hA (trS.loc _ _ _ _) (Nat.le_refl _) (Nat.le_refl _))
  clear hA hb
  obtain ⟨r0, s0⟩ := H.out.bx 1 rfl 0 _ rfl
  obtain ⟨r1, s1⟩ := H.out.bx 1 rfl 1 _ rfl
  obtain ⟨r2, s2⟩ := H.out.bx 1 rfl 2 _ rfl
  obtain ⟨r3, s3⟩ := H.out.bx 1 rfl 3 _ rfl
  obtain ⟨r4, s4⟩ := H.out.bx 1 rfl 4 _ rfl
  obtain ⟨r5, s5⟩ := H.out.bx 1 rfl 5 _ rfl
  obtain ⟨r6, s6⟩ := H.out.bx 1 rfl 6 _ rfl
  have HE := Shut.mk ((((((((H.out.put 1 rfl 0 (.bool true) (by simp)).put 1 rfl 1 (.slice ca cm cc) (by simp)).put 1 rfl 2 (.int .i64 nx) (by simp)).put 1 rfl 3 (.int .i64 1) (by simp)).put 1 rfl 4 (.slice none 0 0) (by simp)).put 1 rfl 5 (.slice none 0 0) (by simp)).put 1 rfl 6 (.int .i64 0) (by simp)))
  simp only [List.set_cons_zero, List.set_cons_succ] at HE
  obtain ⟨ht, -, l1, l2⟩ := HE.out.is _ (List.mem_cons_self ..)
  have HX := Shut.mk (tans_wide (show TAns _ (.agg #[.slice ca cm cc, .int .i64 nx]) T W0.heap.size w1.heap.size from ht) l1 l2)
  clear ht l1 l2
  go_wp2_with fail
  refine bodyPost_ret (v := .agg #[.bool true, .slice ca cm cc, .int .i64 nx, .int .i64 1, .slice none 0 0, .slice none 0 0, .int .i64 0]) (by simp [results, Try.results32, go_sem, r0, r1, r2, r3, r4, r5, r6]) rfl ?_
  exact ⟨ca, none, none, cm, cc, 0, 0, rfl, HX.out, HE.out.bel⟩
end Go.Proofs.Ytendbipfmgnjkaa
/- WdI: The program's own WorldNew. -/
namespace Go.Proofs.Ytendbipfmgnjkaa
set_option maxRecDepth 100000
open Go.RowKit BigFrame
attribute [local go_sem ↓] Go.wp_at_zero Go.wp_at_succ

set_option maxRecDepth 100000 in
set_option maxHeartbeats 8000000 in
theorem implWorldNew (w : World) : Calls Try.prog 12 #[] w fun e w' => WdNew newX newX.next w e w' := by
  obtain ⟨i0, hin, hz0, hz1, hz2⟩ := info_parts infoHost9
  have HSN := Shut.mk (fun (W : World) => implServerNew W)
  generalize newX.next = nx at *
  generalize newX = T at *
  unfold SvNew at HSN
  have HS := Shut.mk ((SL.start w).new #[.bool false, .slice none 0 0, .int .i64 0, .int .i64 0, .slice none 0 0, .slice none 0 0, .int .i64 0, .slice none 0 0, .slice none 0 0, .slice none 0 0, .slice none 0 0] 48)
  obtain ⟨b0, hb0⟩ : ∃ q, q = w.heap.size := ⟨_, rfl⟩
  go_enter Try.func12, Try.ntmps12
  go_upto_region 1 with fail
  rw [← hb0] at HS
  refine wp_shade (fun W => SL w W [bxS b0 [.bool false, .slice none 0 0, .int .i64 0, .int .i64 0, .slice none 0 0, .slice none 0 0, .int .i64 0, .slice none 0 0, .slice none 0 0, .slice none 0 0, .slice none 0 0]]) HS.out ?_
  intro W0 hS0
  rw [← hb0]
  have H := Shut.mk hS0
  clear hS0 HS hb0
  obtain ⟨W1, hmk, hown, hgr⟩ := run_make_own (P := Try.prog) W0 w.heap.size 44 73 i0 _ 3 Try.underlying44 hin hz0 hz1 .i64 .i64 7 (by rw [hz2]; omega) (by unfold maxLen; omega) H.out.bel.size
  have HO := Shut.mk (OwS.more (OwS.nil (ty := 73) (sz := 3) H.out) (Below.refl _ _) hown hgr (.inr rfl))
  obtain ⟨g0, hg0⟩ : ∃ q, q = W0.heap.size := ⟨_, rfl⟩
  rw [← hg0] at hmk HO
  clear hown hgr H hg0
  rw [show ((7 : Nat) : Int) = 7 from rfl] at hmk
  go_wp2_with fail
  clear hmk
  go_loopw [1, 2] (fun v i wr => ∃ (k : Nat) (hb : Option Addr) (hc : Nat), v = .slice hb k hc ∧ i = .int .i64 ((k : Int) + 1) ∧ k ≤ 7 ∧ Shut (OwS w wr [bxS b0 [.bool false, .slice none 0 0, .int .i64 0, .int .i64 0, .slice none 0 0, .slice none 0 0, .int .i64 0, .slice none 0 0, .slice none 0 0, .slice none 0 0, .slice none 0 0]] 73 3 (.slice hb k hc) k (hS (hrs9 k)))) (fun _ i _ => 8 - (intOf i).toNat)
  case atStart => exact ⟨0, _, _, rfl, rfl, by omega, HO⟩
  case round =>
    clear HO
    obtain ⟨k, hb, hc, rfl, rfl, hk, H⟩ := hrel
    by_cases hlt : k < 7
    · have h7 : (k : Int) + 1 ≤ 7 := by omega
      have hown := H.out.own
      have hsz : w.heap.size ≤ wr.heap.size := H.out.sl.bel.size
      have hcl : ∀ j u, ([.int .i64 ((k : Int) + 1), .bool true, .slice none 0 0] : List Value)[j]? = some u → (wr.alloc (.cells #[.int .i64 ((k : Int) + 1), .bool true, .slice none 0 0] 73)).cell? ((⟨wr.heap.size, 0, none⟩ : Addr).add j) = some u := fun j u hu => by
        have q := ((wcells_new wr #[.int .i64 ((k : Int) + 1), .bool true, .slice none 0 0] 73).2 j u hu).1
        cases j with
        | zero => exact q
        | succ j => simpa [Addr.add] using q
      have hone : ∀ u ∈ ([.int .i64 ((k : Int) + 1), .bool true, .slice none 0 0] : List Value), u.oneCell' = true := fun u hu => by
        simp only [List.mem_cons, List.not_mem_nil, or_false] at hu
        rcases hu with rfl | rfl | rfl <;> rfl
      go_wp2_with (at_builtin; go_loud (refine wpList_append_own_at _ rfl _ _ 44 rfl w.heap.size 73 i0 _ 3 40 Try.underlying44 hin hz0 hz1 hz2 rfl (by decide) _ _ _ rfl (hown.alloc _) ⟨wr.heap.size, 0, none⟩ 1 1 [.int .i64 ((k : Int) + 1), .bool true, .slice none 0 0] rfl rfl hcl hone (by unfold maxLen; omega) (by omega) (by rw [World.size_alloc]; omega) ?_))
      intro v9 w9 ho hg _ hat
      obtain ⟨b9, c9, rfl⟩ := own_row_slice ho
      have HS := Shut.mk (H.out.more (m := k + 1) (L' := hS (hrs9 (k + 1))) ((Below.refl _ _).alloc (Nat.le_refl _) (.cells #[.int .i64 ((k : Int) + 1), .bool true, .slice none 0 0] 73)) (by rw [hS_snoc k]; exact ho) hg (by rw [World.size_alloc]; exact hat))
      clear ho hg hat hown hsz hcl hone H
      go_wp2_with fail
      go_roundw
      case rel => exact ⟨k + 1, b9, c9, rfl, by go_num, by omega, HS⟩
      case measure => simp [intOf]; omega
    · obtain rfl : k = 7 := by omega
      obtain ⟨hc7, lo, hi, hrow⟩ := H.out.rest
      have HX := Shut.mk (hrow.as (q := fun W => HsW W hb (hrs9 7) lo hi) (hsw9 (hrow.is _ (List.mem_cons_self ..)).1 (by omega)) (hsS.loc _ _ _ _))
      clear H hrow
      go_wp2_with fail
      refine (HSN.out _).mono ?_
      rintro e w1 ⟨ca, da, la, cm, cc, dc, lc, rfl, hA, hb9⟩
      have H2 := Shut.mk (HX.out.add (s := trS (.agg #[.slice ca cm cc, .int .i64 nx]) T wr.heap.size w1.heap.size) hb9 hA (trS.loc _ _ _ _) (Nat.le_refl _) (Nat.le_refl _))
      clear hA hb9 HX
      obtain ⟨r0, s0⟩ := H2.out.bx 2 rfl 0 _ rfl
      obtain ⟨r1, s1⟩ := H2.out.bx 2 rfl 1 _ rfl
      obtain ⟨r2, s2⟩ := H2.out.bx 2 rfl 2 _ rfl
      obtain ⟨r3, s3⟩ := H2.out.bx 2 rfl 3 _ rfl
      obtain ⟨r4, s4⟩ := H2.out.bx 2 rfl 4 _ rfl
      obtain ⟨r5, s5⟩ := H2.out.bx 2 rfl 5 _ rfl
      obtain ⟨r6, s6⟩ := H2.out.bx 2 rfl 6 _ rfl
      obtain ⟨r7, s7⟩ := H2.out.bx 2 rfl 7 _ rfl
      obtain ⟨r8, s8⟩ := H2.out.bx 2 rfl 8 _ rfl
      obtain ⟨r9, s9⟩ := H2.out.bx 2 rfl 9 _ rfl
      obtain ⟨r10, s10⟩ := H2.out.bx 2 rfl 10 _ rfl
      have HE := Shut.mk (((((((((((H2.out.put 2 rfl 0 (.bool true) (by simp)).put 2 rfl 1 (.slice ca cm cc) (by simp)).put 2 rfl 2 (.int .i64 nx) (by simp)).put 2 rfl 3 (.int .i64 1) (by simp)).put 2 rfl 4 (.slice da 0 dc) (by simp)).put 2 rfl 5 (.slice la 0 lc) (by simp)).put 2 rfl 6 (.int .i64 0) (by simp)).put 2 rfl 7 (.slice hb 7 hc) (by simp)).put 2 rfl 8 (.slice none 0 0) (by simp)).put 2 rfl 9 (.slice none 0 0) (by simp)).put 2 rfl 10 (.slice none 0 0) (by simp))
      simp only [List.set_cons_zero, List.set_cons_succ] at HE
      have HF := Shut.mk (HE.out.less (S' := [trS (.agg #[.slice ca cm cc, .int .i64 nx]) T wr.heap.size w1.heap.size, hsS hb (hrs9 7) lo hi]) (List.Sublist.cons_cons _ (List.Sublist.cons_cons _ (List.nil_sublist _)))).swap
      clear HE
      go_wp2_with fail
      refine bodyPost_ret (v := .agg #[.bool true, .slice ca cm cc, .int .i64 nx, .int .i64 1, .slice da 0 dc, .slice la 0 lc, .int .i64 0, .slice hb 7 hc, .slice none 0 0, .slice none 0 0, .slice none 0 0]) (by simp [results, Try.results12, go_sem, r0, r1, r2, r3, r4, r5, r6, r7, r8, r9, r10]) rfl ?_
      exact ⟨ca, da, la, hb, none, none, none, cm, cc, dc, lc, hc, 0, 0, 0, _, _, lo, hi, hrs9 7, by rw [hrs9_len], hrs9_hms 7, by rw [hrs9_len]; exact hc7, HF.out⟩
end Go.Proofs.Ytendbipfmgnjkaa
