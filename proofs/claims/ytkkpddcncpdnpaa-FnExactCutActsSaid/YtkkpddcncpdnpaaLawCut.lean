/- The law on CutActs: its walk. -/
import Derived.Test.YtkkpddcncpdnpaaCutA
import Derived.Test.YtkkpddcncpdnpaaIntsA
import Derived.Test.YtkkpddcncpdnpaaActB
namespace Go.Proofs.Ytkkpddcncpdnpaa
open Go.RowKit
attribute [local go_sem ↓] Go.wp_at_zero Go.wp_at_succ

theorem LMem.x3 {w0 w : World} {L : List (Nat × List Value)} {R : List (Option Addr × List Value × Nat × Nat)} {p q : Nat} {u v : Value} {r0 r1 r2 : Option Addr × List Value × Nat × Nat} {va : Option Addr} {X : List Value} {lo hi : Nat} (h : w.cell? ⟨p, 0, none⟩ = some u ∧ w.cell? ⟨q, 0, none⟩ = some v ∧ Shut (Mem w0 w L (r0 :: r1 :: r2 :: (va, X, lo, hi) :: R))) : CRow w va X := h.2.2.out.at3.crow
theorem cutR_len (fs : List FM) (xs : List AM) (k : Int) (left : List Int) (hf : FFit fs) (hl : fs.length ≤ 1048576) : (cutR fs xs k left).1.length ≤ 1048576 := by
  unfold cutR
  split
  · split
    · simp
    · exact Nat.le_trans (lostD_len _ _) (fit_cur hf hl (doAs_or fs _)).2
  · simp
set_option maxHeartbeats 2000000 in
set_option maxRecDepth 100000 in
theorem lawCutActs (a c d : Option Addr) (fs : List FM) (cap : Nat) (xs : List AM) (capx : Nat) (k : Int) (left : List Int) (capl : Nat) (w : World) (hr : FRow w a fs) (hf : FFit fs) (hx : ARow w c xs) (haf : AFit xs) (hi0 : CRow w d (ics left)) (hll : left.length ≤ 1048576) :
    Calls Try.prog 8 #[.agg #[.slice a fs.length cap], .slice c xs.length capx, .int .i64 k, .slice d left.length capl] w fun e w' => e = .returned (.bool true) ∧ Below w.heap.size w w' := by
  have HR : Hid (FRow w a fs) := hr
  have HF : Hid (FFit fs) := hf
  have HX : Hid (ARow w c xs) := hx
  have HAF : Hid (AFit xs) := haf
  have HL : Hid (CRow w d (ics left)) := hi0
  have m0 : Mem w w [] [] := ⟨by simp, by simp, Below.refl _ _⟩
  have M0 : Shut (Mem w (w.alloc (.cells #[.slice a fs.length cap] 24)) [(w.heap.size, [.slice a fs.length cap])] []) := ⟨m0.box #[.slice a fs.length cap] 24⟩
  have hll' : ¬ (1048576 : Int) < (left.length : Int) := by omega
  generalize hrr : cutR fs xs k left = rr
  have HRR : Hid (cutR fs xs k left = rr) := hrr
  have hO0 := fun h1 h2 => cutR_len fs xs k left h1 h2
  rw [hrr] at hO0
  obtain ⟨os, D⟩ := rr
  clear hr hf hx haf hi0 m0 hrr
  go_enter Try.func8, Try.ntmps8
  go_wp2_with fail
  refine (szDisk_any a fs cap 1048576 _ (HR.out.stays M0.out.low) HF.out (by omega) (by omega)).mono ?_
  rintro e wz ⟨r, rfl, r1, r2, hb1⟩
  have Mz : Shut (Mem w wz [(w.heap.size, [.slice a fs.length cap])] []) := ⟨M0.out.below hb1⟩
  clear hb1 M0
  by_cases hneg : r < 0
  · go_wp2_with fail
    go_ret
    exact ⟨rfl, Mz.out.low⟩
  have hl : fs.length ≤ 1048576 := by have := r2 (by omega); omega
  have HFS : Hid (fsum fs ≤ 1048576) := (by have := r2 (by omega); omega : fsum fs ≤ 1048576)
  have hr1 : r ≤ 1048576 := by have := r2 (by omega); omega
  clear r2
  go_wp2_with fail
  refine (szActS_any c xs capx r _ (HX.out.stays Mz.out.low) HAF.out (by omega) hr1).mono ?_
  rintro e w1 ⟨r', rfl, r1', r2', hb1⟩
  have M1 : Shut (Mem w w1 [(w.heap.size, [.slice a fs.length cap])] []) := ⟨Mz.out.below hb1⟩
  clear hb1 Mz
  have x1 := M1.out.cell0
  have s1 := M1.out.lt0
  by_cases hneg' : r' < 0
  · go_wp2_with fail
    go_ret
    exact ⟨rfl, M1.out.low⟩
  have hxl : xs.length ≤ 1048576 := by have := r2' (by omega); omega
  have HXG : Hid (AGood xs) := agood_of HAF.out (by have := r2' (by omega); omega)
  have hO : os.length ≤ 1048576 := hO0 HF.out hl
  clear r2' hO0
  go_wp2_with fail
  refine (toDisk_any a fs cap _ (HR.out.stays M1.out.low) HF.out hl).mono ?_
  rintro e w2 ⟨g2, rfl, hg2, hw2, hb2⟩
  have s2 := hb2.size
  (try simp at s2)
  have u2 := hw2.1
  have t2 := hg2
  (try simp at t2)
  have M2 : Shut (Mem w w2 [(w.heap.size, [.slice a fs.length cap])] [(some ⟨g2, 0, none⟩, fcs fs, g2, g2 + 1)]) := ⟨(M1.out.below hb2).row (FRw.of_wcells hw2 (Nat.le_refl _) (Nat.lt_succ_self _))⟩
  clear hb2 hw2 hg2 M1
  clear x1
  go_wp2_with fail
  refine (toActS_any c xs capx _ (HX.out.stays M2.out.low) HAF.out hxl).mono ?_
  rintro e w3 ⟨g3, rfl, hg3, hw3, hb3⟩
  have s3 := hb3.size
  (try simp at s3)
  have u3 := hw3.1
  have t3 := hg3
  (try simp at t3)
  have M3 : Shut (Mem w w3 [(w.heap.size, [.slice a fs.length cap])] [(some ⟨g3, 0, none⟩, acs xs, g3, g3 + 1), (some ⟨g2, 0, none⟩, fcs fs, g2, g2 + 1)]) := ⟨(M2.out.below hb3).row (FRw.of_wcells hw3 (Nat.le_refl _) (Nat.lt_succ_self _))⟩
  clear hb3 hw3 hg3 M2
  go_wp2_with fail
  refine (toIntS_any d left capl _ (HL.out.stays M3.out.low) hll).mono ?_
  rintro e w4 ⟨g4, rfl, hg4, hw4, hb4⟩
  have s4 := hb4.size
  (try simp at s4)
  have u4 := hw4.1
  have t4 := hg4
  (try simp at t4)
  have M4 : Shut (Mem w w4 [(w.heap.size, [.slice a fs.length cap])] [(some ⟨g4, 0, none⟩, ics left, g4, g4 + 1), (some ⟨g3, 0, none⟩, acs xs, g3, g3 + 1), (some ⟨g2, 0, none⟩, fcs fs, g2, g2 + 1)]) := ⟨(M3.out.below hb4).row (FRw.of_wcells hw4 (Nat.le_refl _) (Nat.lt_succ_self _))⟩
  clear hb4 hw4 hg4 M3
  go_wp2_with fail
  refine (specCutActs g2 (some ⟨g3, 0, none⟩) (some ⟨g4, 0, none⟩) fs xs k left fs.length left.length _ M4.out.at2.wcells HF.out hl HFS.out M4.out.at1.crow HXG.out hxl M4.out.at0.crow hll).mono ?_
  rw [HRR.out]
  rintro e w5 ⟨v5, c5, rfl, hf5, hc5, hb5⟩
  have s5 := hb5.size
  (try simp at s5)
  have M5 : Shut (Mem w (w5.alloc (.cells #[.slice v5 os.length c5] 29)) [(w5.heap.size, [.slice v5 os.length c5]), (w.heap.size, [.slice a fs.length cap])] [(v5, fcs os, w4.heap.size, w5.heap.size)]) := ⟨(((M4.out.below hb5).less (L' := [(w.heap.size, [.slice a fs.length cap])]) (R' := []) (by simp) (by simp)).row hf5).box #[.slice v5 os.length c5] 29⟩
  clear hb5 hf5 M4
  have x5 := M5.out.cell1
  go_wp2_with fail
  refine (toDisk_any a fs cap _ (HR.out.stays M5.out.low) HF.out hl).mono ?_
  rintro e w6 ⟨g6, rfl, hg6, hw6, hb6⟩
  have s6 := hb6.size
  (try simp at s6)
  have u6 := hw6.1
  have t6 := hg6
  (try simp at t6)
  have M6 : Shut (Mem w (w6.alloc (.cells #[.slice (some ⟨g6, 0, none⟩) fs.length fs.length] 29)) [(w6.heap.size, [.slice (some ⟨g6, 0, none⟩) fs.length fs.length]), (w5.heap.size, [.slice v5 os.length c5]), (w.heap.size, [.slice a fs.length cap])] [(some ⟨g6, 0, none⟩, fcs fs, g6, g6 + 1), (v5, fcs os, w4.heap.size, w5.heap.size)]) := ⟨((M5.out.below hb6).row (FRw.of_wcells hw6 (Nat.le_refl _) (Nat.lt_succ_self _))).box #[.slice (some ⟨g6, 0, none⟩) fs.length fs.length] 29⟩
  clear hb6 hw6 hg6 M5 x5
  go_wp2_with fail
  refine (toActS_any c xs capx _ (HX.out.stays M6.out.low) HAF.out hxl).mono ?_
  rintro e w7 ⟨g7, rfl, hg7, hw7, hb7⟩
  have s7 := hb7.size
  (try simp at s7)
  have u7 := hw7.1
  have t7 := hg7
  (try simp at t7)
  have M7 : Shut (Mem w w7 [(w6.heap.size, [.slice (some ⟨g6, 0, none⟩) fs.length fs.length]), (w5.heap.size, [.slice v5 os.length c5]), (w.heap.size, [.slice a fs.length cap])] [(some ⟨g7, 0, none⟩, acs xs, g7, g7 + 1), (some ⟨g6, 0, none⟩, fcs fs, g6, g6 + 1), (v5, fcs os, w4.heap.size, w5.heap.size)]) := ⟨(M6.out.below hb7).row (FRw.of_wcells hw7 (Nat.le_refl _) (Nat.lt_succ_self _))⟩
  clear hb7 hw7 hg7 M6
  go_wp2_with fail
  refine (toIntS_any d left capl _ (HL.out.stays M7.out.low) hll).mono ?_
  rintro e w8 ⟨g8, rfl, hg8, hw8, hb8⟩
  have s8 := hb8.size
  (try simp at s8)
  have u8 := hw8.1
  have t8 := hg8
  (try simp at t8)
  have M8 : Shut (Mem w w8 [(w6.heap.size, [.slice (some ⟨g6, 0, none⟩) fs.length fs.length]), (w5.heap.size, [.slice v5 os.length c5]), (w.heap.size, [.slice a fs.length cap])] [(some ⟨g8, 0, none⟩, ics left, g8, g8 + 1), (some ⟨g7, 0, none⟩, acs xs, g7, g7 + 1), (some ⟨g6, 0, none⟩, fcs fs, g6, g6 + 1), (v5, fcs os, w4.heap.size, w5.heap.size)]) := ⟨(M7.out.below hb8).row (FRw.of_wcells hw8 (Nat.le_refl _) (Nat.lt_succ_self _))⟩
  clear hb8 hw8 hg8 M7
  have x8 := M8.out.cell0
  go_wp2_with fail
  refine (implCutActs g6 (some ⟨g7, 0, none⟩) (some ⟨g8, 0, none⟩) fs xs k left fs.length left.length _ M8.out.at2.wcells HF.out hl HFS.out M8.out.at1.crow HXG.out hxl M8.out.at0.crow hll).mono ?_
  rw [HRR.out]
  rintro e w9 ⟨v9, c9, rfl, hf9, hc9, hb9⟩
  have s9 := hb9.size
  (try simp at s9)
  have M9 : Shut (Mem w (w9.alloc (.cells #[.slice v9 os.length c9] 29)) [(w9.heap.size, [.slice v9 os.length c9]), (w6.heap.size, [.slice (some ⟨g6, 0, none⟩) fs.length fs.length]), (w5.heap.size, [.slice v5 os.length c5]), (w.heap.size, [.slice a fs.length cap])] [(v9, fcs os, w8.heap.size, w9.heap.size), (some ⟨g8, 0, none⟩, ics left, g8, g8 + 1), (some ⟨g7, 0, none⟩, acs xs, g7, g7 + 1), (some ⟨g6, 0, none⟩, fcs fs, g6, g6 + 1), (v5, fcs os, w4.heap.size, w5.heap.size)]) := ⟨(((M8.out.below hb9).less (L' := [(w6.heap.size, [.slice (some ⟨g6, 0, none⟩) fs.length fs.length]), (w5.heap.size, [.slice v5 os.length c5]), (w.heap.size, [.slice a fs.length cap])]) (R' := [(some ⟨g8, 0, none⟩, ics left, g8, g8 + 1), (some ⟨g7, 0, none⟩, acs xs, g7, g7 + 1), (some ⟨g6, 0, none⟩, fcs fs, g6, g6 + 1), (v5, fcs os, w4.heap.size, w5.heap.size)]) (by simp) (by simp)).row hf9).box #[.slice v9 os.length c9] 29⟩
  clear hb9 hf9 M8
  clear x8
  have x9 := M9.out.cell0
  have y9 := M9.out.cell2
  go_wp2_with fail
  refine (eqDisk_same v9 v5 os c9 c5 _ M9.out.at0.crow M9.out.at4.crow hO).mono ?_
  rintro e w10 ⟨rfl, hb10⟩
  have s10 := hb10.size
  (try simp at s10)
  have hM : Shut (Mem w w10 [(w9.heap.size, [.slice v9 os.length c9]), (w6.heap.size, [.slice (some ⟨g6, 0, none⟩) fs.length fs.length]), (w5.heap.size, [.slice v5 os.length c5]), (w.heap.size, [.slice a fs.length cap])] [(v9, fcs os, w8.heap.size, w9.heap.size), (some ⟨g8, 0, none⟩, ics left, g8, g8 + 1), (some ⟨g7, 0, none⟩, acs xs, g7, g7 + 1), (some ⟨g6, 0, none⟩, fcs fs, g6, g6 + 1), (v5, fcs os, w4.heap.size, w5.heap.size)]) := ⟨M9.out.below hb10⟩
  have y8 := hM.out.cell1
  have x8 := hM.out.cell3
  clear hb10 M9 x9 y9
  go_wp2_with fail
  go_region_held3 (fun w' => w'.cell? ⟨w6.heap.size, 0, none⟩ = some (.slice (some ⟨g6, 0, none⟩) fs.length fs.length) ∧ w'.cell? ⟨w.heap.size, 0, none⟩ = some (.slice a fs.length cap) ∧ Shut (Mem w w' [(w9.heap.size, [.slice v9 os.length c9]), (w6.heap.size, [.slice (some ⟨g6, 0, none⟩) fs.length fs.length]), (w5.heap.size, [.slice v5 os.length c5]), (w.heap.size, [.slice a fs.length cap])] [(v9, fcs os, w8.heap.size, w9.heap.size), (some ⟨g8, 0, none⟩, ics left, g8, g8 + 1), (some ⟨g7, 0, none⟩, acs xs, g7, g7 + 1), (some ⟨g6, 0, none⟩, fcs fs, g6, g6 + 1), (v5, fcs os, w4.heap.size, w5.heap.size)]))
    (first | assumption | (exact ⟨y8, x8, ⟨hM.out.drew⟩⟩) | (exact LMem.keep (by assumption) hbc))
    (first
      | (go_at_call 12; refine (LMem.toDisk (by assumption) HR.out HF.out hl).mono ?_; rintro e w11 ⟨g11, rfl, hg11, hw11, hbc⟩; have h11 : Shut (WCells w11 g11 (fcs fs)) := ⟨hw11⟩; clear hw11)
      | (go_at_call 14; refine (eqDisk_same (some ⟨g6, 0, none⟩) (some ⟨g11, 0, none⟩) fs fs.length fs.length _ (LMem.x3 (by assumption)) h11.out.crow hl).mono ?_; have hbc_0 := hbc; clear hbc; rintro e w12 ⟨rfl, hbc⟩))
  all_goals
    obtain ⟨_, _, M12⟩ : w12.cell? ⟨w6.heap.size, 0, none⟩ = some (.slice (some ⟨g6, 0, none⟩) fs.length fs.length) ∧ w12.cell? ⟨w.heap.size, 0, none⟩ = some (.slice a fs.length cap) ∧ Shut (Mem w w12 [(w9.heap.size, [.slice v9 os.length c9]), (w6.heap.size, [.slice (some ⟨g6, 0, none⟩) fs.length fs.length]), (w5.heap.size, [.slice v5 os.length c5]), (w.heap.size, [.slice a fs.length cap])] [(v9, fcs os, w8.heap.size, w9.heap.size), (some ⟨g8, 0, none⟩, ics left, g8, g8 + 1), (some ⟨g7, 0, none⟩, acs xs, g7, g7 + 1), (some ⟨g6, 0, none⟩, fcs fs, g6, g6 + 1), (v5, fcs os, w4.heap.size, w5.heap.size)]) := by assumption
    have s12 : w10.heap.size ≤ w12.heap.size := by have h1 := hbc_0.size; have h2 := hbc.size; (try simp at h1); omega
    clear hM hbc hbc_0 h11 hg11 y8 x8
    go_wp2_with fail
    refine (toActS_any c xs capx _ (HX.out.stays M12.out.low) HAF.out hxl).mono ?_
    rintro e w13 ⟨g13, rfl, hg13, hw13, hb13⟩
    have s13 := hb13.size
    (try simp at s13)
    have u13 := hw13.1
    have t13 := hg13
    (try simp at t13)
    have M13 : Shut (Mem w w13 [(w9.heap.size, [.slice v9 os.length c9]), (w6.heap.size, [.slice (some ⟨g6, 0, none⟩) fs.length fs.length]), (w5.heap.size, [.slice v5 os.length c5]), (w.heap.size, [.slice a fs.length cap])] [(some ⟨g13, 0, none⟩, acs xs, g13, g13 + 1), (v9, fcs os, w8.heap.size, w9.heap.size), (some ⟨g8, 0, none⟩, ics left, g8, g8 + 1), (some ⟨g7, 0, none⟩, acs xs, g7, g7 + 1), (some ⟨g6, 0, none⟩, fcs fs, g6, g6 + 1), (v5, fcs os, w4.heap.size, w5.heap.size)]) := ⟨(M12.out.below hb13).row (FRw.of_wcells hw13 (Nat.le_refl _) (Nat.lt_succ_self _))⟩
    clear hb13 hw13 hg13 M12
    go_wp2_with fail
    refine (eqActS_same (some ⟨g7, 0, none⟩) (some ⟨g13, 0, none⟩) xs xs.length xs.length _ M13.out.at3.crow M13.out.at0.crow hxl).mono ?_
    rintro e w14 ⟨rfl, hb14⟩
    have s14 := hb14.size
    have M14 : Shut (Mem w w14 [(w9.heap.size, [.slice v9 os.length c9]), (w6.heap.size, [.slice (some ⟨g6, 0, none⟩) fs.length fs.length]), (w5.heap.size, [.slice v5 os.length c5]), (w.heap.size, [.slice a fs.length cap])] [(v9, fcs os, w8.heap.size, w9.heap.size), (some ⟨g8, 0, none⟩, ics left, g8, g8 + 1), (some ⟨g7, 0, none⟩, acs xs, g7, g7 + 1), (some ⟨g6, 0, none⟩, fcs fs, g6, g6 + 1), (v5, fcs os, w4.heap.size, w5.heap.size)]) := ⟨(M13.out.below hb14).less (fun _ h => h) (fun _ h => List.mem_cons_of_mem _ h)⟩
    clear hb14 M13
    go_wp2_with fail
    refine (toIntS_any d left capl _ (HL.out.stays M14.out.low) hll).mono ?_
    rintro e w15 ⟨g15, rfl, hg15, hw15, hb15⟩
    have s15 := hb15.size
    (try simp at s15)
    have u15 := hw15.1
    have t15 := hg15
    (try simp at t15)
    have M15 : Shut (Mem w w15 [(w9.heap.size, [.slice v9 os.length c9]), (w6.heap.size, [.slice (some ⟨g6, 0, none⟩) fs.length fs.length]), (w5.heap.size, [.slice v5 os.length c5]), (w.heap.size, [.slice a fs.length cap])] [(some ⟨g15, 0, none⟩, ics left, g15, g15 + 1), (v9, fcs os, w8.heap.size, w9.heap.size), (some ⟨g8, 0, none⟩, ics left, g8, g8 + 1), (some ⟨g7, 0, none⟩, acs xs, g7, g7 + 1), (some ⟨g6, 0, none⟩, fcs fs, g6, g6 + 1), (v5, fcs os, w4.heap.size, w5.heap.size)]) := ⟨(M14.out.below hb15).row (FRw.of_wcells hw15 (Nat.le_refl _) (Nat.lt_succ_self _))⟩
    clear hb15 hw15 hg15 M14
    go_wp2_with fail
    refine (eqIntS_same (some ⟨g8, 0, none⟩) (some ⟨g15, 0, none⟩) left left.length left.length _ M15.out.at2.crow M15.out.at0.crow hll).mono ?_
    rintro e w16 ⟨rfl, hb16⟩
    have s16 := hb16.size
    have M16 : Shut (Mem w w16 [(w9.heap.size, [.slice v9 os.length c9]), (w6.heap.size, [.slice (some ⟨g6, 0, none⟩) fs.length fs.length]), (w5.heap.size, [.slice v5 os.length c5]), (w.heap.size, [.slice a fs.length cap])] [(v9, fcs os, w8.heap.size, w9.heap.size), (some ⟨g8, 0, none⟩, ics left, g8, g8 + 1), (some ⟨g7, 0, none⟩, acs xs, g7, g7 + 1), (some ⟨g6, 0, none⟩, fcs fs, g6, g6 + 1), (v5, fcs os, w4.heap.size, w5.heap.size)]) := ⟨(M15.out.below hb16).less (fun _ h => h) (fun _ h => List.mem_cons_of_mem _ h)⟩
    clear hb16 M15
    have x16 := M16.out.cell1
    go_wp2_with fail
    refine (markDisk_row (some ⟨g6, 0, none⟩) fs 1 fs.length g6 (g6 + 1) _ M16.out.at3 (by omega) (by omega) (Nat.le_refl _)).mono ?_
    obtain ⟨k17, hk17⟩ : ∃ k, k = 1 + 3 * fs.length := ⟨_, rfl⟩
    rw [← hk17]
    have b17 : 0 < k17 ∧ k17 ≤ 3145729 := by omega
    clear hk17
    rintro e w17 ⟨rfl, _, row, hgr, hrow⟩
    have s17 := hgr.size
    have M17 : Shut (Mem w w17 [(w9.heap.size, [.slice v9 os.length c9]), (w5.heap.size, [.slice v5 os.length c5]), (w.heap.size, [.slice a fs.length cap])] [(v9, fcs os, w8.heap.size, w9.heap.size), (some ⟨g8, 0, none⟩, ics left, g8, g8 + 1), (some ⟨g7, 0, none⟩, acs xs, g7, g7 + 1), (v5, fcs os, w4.heap.size, w5.heap.size)]) := ⟨((M16.out.less (L' := [(w9.heap.size, [.slice v9 os.length c9]), (w5.heap.size, [.slice v5 os.length c5]), (w.heap.size, [.slice a fs.length cap])]) (R' := [(v9, fcs os, w8.heap.size, w9.heap.size), (some ⟨g8, 0, none⟩, ics left, g8, g8 + 1), (some ⟨g7, 0, none⟩, acs xs, g7, g7 + 1), (v5, fcs os, w4.heap.size, w5.heap.size)]) (by simp) (by simp)).grown hgr (fun p hp g e => by have := hrow g e; simp at hp; rcases hp with rfl | rfl | rfl <;> (simp; omega)) (fun r hr g e => by have := hrow g e; simp at hr; rcases hr with rfl | rfl | rfl | rfl <;> (simp; omega)) (fun g e => by have := hrow g e; omega))⟩
    clear hgr hrow row M16 x16
    go_wp2_with fail
    refine (markActS_any g7 xs k17 xs.length _ M17.out.at2.wcells b17.1 (by omega) (Nat.le_refl _)).mono ?_
    obtain ⟨k18, hk18⟩ : ∃ k, k = k17 + 4 * xs.length := ⟨_, rfl⟩
    unfold MarkActs
    rw [← hk18]
    have b18 : 0 < k18 ∧ k18 ≤ 7340033 := by omega
    clear hk18
    rintro e w18 ⟨rfl, _, hgr⟩
    have s18 := hgr.size
    have hrow : ∀ g, some g7 = some g → g7 = g := fun g e => by simpa using e
    have M18 : Shut (Mem w w18 [(w9.heap.size, [.slice v9 os.length c9]), (w5.heap.size, [.slice v5 os.length c5]), (w.heap.size, [.slice a fs.length cap])] [(v9, fcs os, w8.heap.size, w9.heap.size), (some ⟨g8, 0, none⟩, ics left, g8, g8 + 1), (v5, fcs os, w4.heap.size, w5.heap.size)]) := ⟨((M17.out.less (L' := [(w9.heap.size, [.slice v9 os.length c9]), (w5.heap.size, [.slice v5 os.length c5]), (w.heap.size, [.slice a fs.length cap])]) (R' := [(v9, fcs os, w8.heap.size, w9.heap.size), (some ⟨g8, 0, none⟩, ics left, g8, g8 + 1), (v5, fcs os, w4.heap.size, w5.heap.size)]) (by simp) (by simp)).grown hgr (fun p hp g e => by have := hrow g e; simp at hp; rcases hp with rfl | rfl | rfl <;> (simp; omega)) (fun r hr g e => by have := hrow g e; simp at hr; rcases hr with rfl | rfl | rfl <;> (simp; omega)) (fun g e => by have := hrow g e; omega))⟩
    clear hgr hrow M17
    go_wp2_with fail
    refine (markIntS_any g8 left k18 left.length _ M18.out.at1.wcells (by omega) (Nat.le_refl _)).mono ?_
    obtain ⟨k19, hk19⟩ : ∃ k, k = k18 + left.length := ⟨_, rfl⟩
    unfold MarkInts
    rw [← hk19]
    clear hk19
    rintro e w19 ⟨rfl, _, hgr⟩
    have s19 := hgr.size
    have hrow : ∀ g, some g8 = some g → g8 = g := fun g e => by simpa using e
    have M19 : Shut (Mem w w19 [(w9.heap.size, [.slice v9 os.length c9]), (w5.heap.size, [.slice v5 os.length c5]), (w.heap.size, [.slice a fs.length cap])] [(v9, fcs os, w8.heap.size, w9.heap.size), (v5, fcs os, w4.heap.size, w5.heap.size)]) := ⟨((M18.out.less (L' := [(w9.heap.size, [.slice v9 os.length c9]), (w5.heap.size, [.slice v5 os.length c5]), (w.heap.size, [.slice a fs.length cap])]) (R' := [(v9, fcs os, w8.heap.size, w9.heap.size), (v5, fcs os, w4.heap.size, w5.heap.size)]) (by simp) (by simp)).grown hgr (fun p hp g e => by have := hrow g e; simp at hp; rcases hp with rfl | rfl | rfl <;> (simp; omega)) (fun r hr g e => by have := hrow g e; simp at hr; rcases hr with rfl | rfl <;> (simp; omega)) (fun g e => by have := hrow g e; omega))⟩
    have hkn : ¬ ((k19 : Nat) : Int) < 0 := by omega
    have x19 := M19.out.cell0
    have y19 := M19.out.cell1
    clear hgr hrow M18
    go_wp2_with fail
    refine (eqDisk_same v9 v5 os c9 c5 _ M19.out.at0.crow M19.out.at1.crow hO).mono ?_
    rintro e w20 ⟨rfl, hb20⟩
    have s20 := hb20.size
    have M20 : Shut (Mem w w20 [(w9.heap.size, [.slice v9 os.length c9]), (w5.heap.size, [.slice v5 os.length c5]), (w.heap.size, [.slice a fs.length cap])] [(v9, fcs os, w8.heap.size, w9.heap.size), (v5, fcs os, w4.heap.size, w5.heap.size)]) := ⟨M19.out.below hb20⟩
    have x20 := M20.out.cell0
    clear hb20 M19 x19 y19
    go_wp2_with fail
    refine (markDisk_row v9 os 1 c9 w8.heap.size w9.heap.size _ M20.out.at0 (by omega) (by omega) hc9).mono ?_
    obtain ⟨k21, hk21⟩ : ∃ k, k = 1 + 3 * os.length := ⟨_, rfl⟩
    rw [← hk21]
    have HK21 : Hid (k21 = 1 + 3 * os.length) := hk21
    clear hk21
    rintro e w21 ⟨rfl, hf21, row, hgr, hrow⟩
    have s21 := hgr.size
    have M21 : Shut (Mem w w21 [(w9.heap.size, [.slice v9 os.length c9]), (w5.heap.size, [.slice v5 os.length c5]), (w.heap.size, [.slice a fs.length cap])] [(v9, fcs (marksF 1 os.length), w8.heap.size, w9.heap.size), (v5, fcs os, w4.heap.size, w5.heap.size)]) := ⟨((M20.out.less (L' := [(w9.heap.size, [.slice v9 os.length c9]), (w5.heap.size, [.slice v5 os.length c5]), (w.heap.size, [.slice a fs.length cap])]) (R' := [(v5, fcs os, w4.heap.size, w5.heap.size)]) (by simp) (by simp)).grown hgr (fun p hp g e => by have := hrow g e; simp at hp; rcases hp with rfl | rfl | rfl <;> (simp; omega)) (fun r hr g e => by have := hrow g e; simp at hr; subst hr; simp; omega) (fun g e => by have := hrow g e; omega)).row hf21⟩
    have x21 := M21.out.cell0
    clear hgr hrow row M20 x20 hf21
    go_wp2_with fail
    refine (heldDisk_any v9 1 os.length c9 _ M21.out.at0.crow (by omega) (by omega)).mono ?_
    rw [← HK21.out]
    rintro e w22 ⟨rfl, hb22⟩
    have s22 := hb22.size
    have M22 : Shut (Mem w w22 [(w9.heap.size, [.slice v9 os.length c9]), (w5.heap.size, [.slice v5 os.length c5]), (w.heap.size, [.slice a fs.length cap])] [(v9, fcs (marksF 1 os.length), w8.heap.size, w9.heap.size), (v5, fcs os, w4.heap.size, w5.heap.size)]) := ⟨M21.out.below hb22⟩
    have hkm : ¬ ((k21 : Nat) : Int) < 0 := by omega
    have x22 := M22.out.cell2
    clear hb22 M21 x21
    go_wp2_with fail
    refine (toDisk_any a fs cap _ (HR.out.stays M22.out.low) HF.out hl).mono ?_
    rintro e w23 ⟨g23, rfl, hg23, hw23, hb23⟩
    have s23 := hb23.size
    (try simp at s23)
    have u23 := hw23.1
    have t23 := hg23
    (try simp at t23)
    have M23 : Shut (Mem w w23 [(w9.heap.size, [.slice v9 os.length c9]), (w5.heap.size, [.slice v5 os.length c5]), (w.heap.size, [.slice a fs.length cap])] [(some ⟨g23, 0, none⟩, fcs fs, g23, g23 + 1), (v9, fcs (marksF 1 os.length), w8.heap.size, w9.heap.size), (v5, fcs os, w4.heap.size, w5.heap.size)]) := ⟨(M22.out.below hb23).row (FRw.of_wcells hw23 (Nat.le_refl _) (Nat.lt_succ_self _))⟩
    clear hb23 hw23 hg23 M22
    clear x22
    go_wp2_with fail
    refine (toActS_any c xs capx _ (HX.out.stays M23.out.low) HAF.out hxl).mono ?_
    rintro e w24 ⟨g24, rfl, hg24, hw24, hb24⟩
    have s24 := hb24.size
    (try simp at s24)
    have u24 := hw24.1
    have t24 := hg24
    (try simp at t24)
    have M24 : Shut (Mem w w24 [(w9.heap.size, [.slice v9 os.length c9]), (w5.heap.size, [.slice v5 os.length c5]), (w.heap.size, [.slice a fs.length cap])] [(some ⟨g24, 0, none⟩, acs xs, g24, g24 + 1), (some ⟨g23, 0, none⟩, fcs fs, g23, g23 + 1), (v9, fcs (marksF 1 os.length), w8.heap.size, w9.heap.size), (v5, fcs os, w4.heap.size, w5.heap.size)]) := ⟨(M23.out.below hb24).row (FRw.of_wcells hw24 (Nat.le_refl _) (Nat.lt_succ_self _))⟩
    clear hb24 hw24 hg24 M23
    go_wp2_with fail
    refine (toIntS_any d left capl _ (HL.out.stays M24.out.low) hll).mono ?_
    rintro e w25 ⟨g25, rfl, hg25, hw25, hb25⟩
    have s25 := hb25.size
    (try simp at s25)
    have u25 := hw25.1
    have t25 := hg25
    (try simp at t25)
    have M25 : Shut (Mem w w25 [(w9.heap.size, [.slice v9 os.length c9]), (w5.heap.size, [.slice v5 os.length c5]), (w.heap.size, [.slice a fs.length cap])] [(some ⟨g25, 0, none⟩, ics left, g25, g25 + 1), (some ⟨g24, 0, none⟩, acs xs, g24, g24 + 1), (some ⟨g23, 0, none⟩, fcs fs, g23, g23 + 1), (v9, fcs (marksF 1 os.length), w8.heap.size, w9.heap.size), (v5, fcs os, w4.heap.size, w5.heap.size)]) := ⟨(M24.out.below hb25).row (FRw.of_wcells hw25 (Nat.le_refl _) (Nat.lt_succ_self _))⟩
    clear hb25 hw25 hg25 M24
    go_wp2_with fail
    refine (implCutActs g23 (some ⟨g24, 0, none⟩) (some ⟨g25, 0, none⟩) fs xs k left fs.length left.length _ M25.out.at2.wcells HF.out hl HFS.out M25.out.at1.crow HXG.out hxl M25.out.at0.crow hll).mono ?_
    rw [HRR.out]
    rintro e w26 ⟨v26, c26, rfl, hf26, hc26, hb26⟩
    have s26 := hb26.size
    (try simp at s26)
    have M26 : Shut (Mem w (w26.alloc (.cells #[.slice v26 os.length c26] 29)) [(w26.heap.size, [.slice v26 os.length c26]), (w9.heap.size, [.slice v9 os.length c9]), (w5.heap.size, [.slice v5 os.length c5]), (w.heap.size, [.slice a fs.length cap])] [(v26, fcs os, w25.heap.size, w26.heap.size), (v9, fcs (marksF 1 os.length), w8.heap.size, w9.heap.size), (v5, fcs os, w4.heap.size, w5.heap.size)]) := ⟨(((M25.out.below hb26).less (L' := [(w9.heap.size, [.slice v9 os.length c9]), (w5.heap.size, [.slice v5 os.length c5]), (w.heap.size, [.slice a fs.length cap])]) (R' := [(v9, fcs (marksF 1 os.length), w8.heap.size, w9.heap.size), (v5, fcs os, w4.heap.size, w5.heap.size)]) (by simp) (by simp)).row hf26).box #[.slice v26 os.length c26] 29⟩
    clear hb26 hf26 M25
    have x26 := M26.out.cell0
    have y26 := M26.out.cell2
    go_wp2_with fail
    refine (eqDisk_same v26 v5 os c26 c5 _ M26.out.at0.crow M26.out.at2.crow hO).mono ?_
    rintro e w27 ⟨rfl, hb27⟩
    have M27 : Shut (Mem w w27 [(w26.heap.size, [.slice v26 os.length c26]), (w9.heap.size, [.slice v9 os.length c9]), (w5.heap.size, [.slice v5 os.length c5]), (w.heap.size, [.slice a fs.length cap])] [(v26, fcs os, w25.heap.size, w26.heap.size), (v9, fcs (marksF 1 os.length), w8.heap.size, w9.heap.size), (v5, fcs os, w4.heap.size, w5.heap.size)]) := ⟨M26.out.below hb27⟩
    have x27 := M27.out.cell1
    clear hb27 M26 x26 y26
    go_wp2_with fail
    refine (heldDisk_any v9 1 os.length c9 _ M27.out.at1.crow (by omega) (by omega)).mono ?_
    rw [← HK21.out]
    rintro e w28 ⟨rfl, hb28⟩
    have HB : Hid (Below w.heap.size w w28) := (M27.out.below hb28).low
    clear hb28 M27 x27
    go_wp2_with fail
    go_ret
    exact ⟨rfl, HB.out⟩
end Go.Proofs.Ytkkpddcncpdnpaa
