/- The law on LoseDisk: its walk. -/
import Derived.Test.YtkkpddcncpdnpaaLawD
import Derived.Test.YtkkpddcncpdnpaaIntsA
import Derived.Test.YtkkpddcncpdnpaaImC
namespace Go.Proofs.Ytkkpddcncpdnpaa
open Go.RowKit
attribute [local go_sem ↓] Go.wp_at_zero Go.wp_at_succ

/-- Through the comparison of an argument with what came in. -/
theorem LMem.keep {w0 w w' : World} {L : List (Nat × List Value)} {R : List (Option Addr × List Value × Nat × Nat)} {p q : Nat} {u v : Value} (h : w.cell? ⟨p, 0, none⟩ = some u ∧ w.cell? ⟨q, 0, none⟩ = some v ∧ Shut (Mem w0 w L R)) (hb : Below w.heap.size w w') :
    w'.cell? ⟨p, 0, none⟩ = some u ∧ w'.cell? ⟨q, 0, none⟩ = some v ∧ Shut (Mem w0 w' L R) :=
  ⟨(hb.cell (p := ⟨p, 0, none⟩) (cell_lt h.1)).trans h.1, (hb.cell (p := ⟨q, 0, none⟩) (cell_lt h.2.1)).trans h.2.1, ⟨h.2.2.out.below hb⟩⟩
theorem LMem.toDisk {w0 w : World} {L : List (Nat × List Value)} {R : List (Option Addr × List Value × Nat × Nat)} {p q : Nat} {u : Value} {a : Option Addr} {fs : List FM} {cap : Nat} (h : w.cell? ⟨p, 0, none⟩ = some u ∧ w.cell? ⟨q, 0, none⟩ = some (.slice a fs.length cap) ∧ Shut (Mem w0 w L R)) (hr : FRow w0 a fs) (hf : FFit fs) (hl : fs.length ≤ 1048576) :
    Calls Try.prog 12 #[.agg #[.slice a fs.length cap]] w fun e w' => ToPostD fs w e w' := toDisk_any a fs cap w (hr.stays h.2.2.out.low) hf hl
theorem LMem.x0 {w0 w : World} {L : List (Nat × List Value)} {R : List (Option Addr × List Value × Nat × Nat)} {p q : Nat} {u v : Value} {r0 r1 : Option Addr × List Value × Nat × Nat} {va : Option Addr} {X : List Value} {lo hi : Nat} (h : w.cell? ⟨p, 0, none⟩ = some u ∧ w.cell? ⟨q, 0, none⟩ = some v ∧ Shut (Mem w0 w L (r0 :: r1 :: (va, X, lo, hi) :: R))) : CRow w va X := h.2.2.out.at2.crow
/-- The disk behind a loss of power. -/
noncomputable def lostD (fs : List FM) (left : List Int) : List FM := if dOkB fs then lostTo fs left fs.length else []
theorem lostD_len (fs : List FM) (left : List Int) : (lostD fs left).length ≤ fs.length := by
  unfold lostD
  split
  · rw [lostTo_len]; exact Nat.le_refl _
  · simp
theorem LosePost.made {fs : List FM} {left : List Int} {w w' : World} {e : Ending} (h : LosePost fs left w e w') : DiskPost (lostD fs left) (.bool (dOkB fs)) w e w' := by
  obtain ⟨v, rfl, hown, hb⟩ := h
  have e1 : (if dOkB fs then (lostTo fs left fs.length).length else 0) = (lostD fs left).length := by unfold lostD; split <;> simp
  have e2 : (if dOkB fs then fcs (lostTo fs left fs.length) else []) = fcs (lostD fs left) := by unfold lostD; split <;> simp [fcs]
  rw [e1, e2] at hown
  obtain ⟨va, c, rfl⟩ := own_form hown
  obtain ⟨h1, h2⟩ := FRw.of_own hown
  exact ⟨va, c, rfl, h1, h2, hb⟩
set_option maxHeartbeats 1000000 in
set_option maxRecDepth 100000 in
theorem lawLoseDisk (a c : Option Addr) (fs : List FM) (cap : Nat) (left : List Int) (capl : Nat) (w : World) (hr : FRow w a fs) (hf : FFit fs) (hi0 : CRow w c (ics left)) (hll : left.length ≤ 1048576) :
    Calls Try.prog 7 #[.agg #[.slice a fs.length cap], .slice c left.length capl] w fun e w' => e = .returned (.bool true) ∧ Below w.heap.size w w' := by
  have HR : Hid (FRow w a fs) := hr
  have HF : Hid (FFit fs) := hf
  have HL : Hid (CRow w c (ics left)) := hi0
  have m0 : Mem w w [] [] := ⟨by simp, by simp, Below.refl _ _⟩
  have M0 : Shut (Mem w (w.alloc (.cells #[.slice a fs.length cap] 24)) [(w.heap.size, [.slice a fs.length cap])] []) := ⟨m0.box #[.slice a fs.length cap] 24⟩
  have hll' : ¬ (1048576 : Int) < (left.length : Int) := by omega
  clear hr hf hi0 m0
  go_enter Try.func7, Try.ntmps7
  go_wp2_with fail
  refine (szDisk_any a fs cap 1048576 _ (HR.out.stays M0.out.low) HF.out (by omega) (by omega)).mono ?_
  rintro e w1 ⟨r, rfl, r1, r2, hb1⟩
  have M1 : Shut (Mem w w1 [(w.heap.size, [.slice a fs.length cap])] []) := ⟨M0.out.below hb1⟩
  have x1 := M1.out.cell0
  have s1 := M1.out.lt0
  clear hb1 M0
  by_cases hneg : r < 0
  · go_wp2_with fail
    go_ret
    exact ⟨rfl, M1.out.low⟩
  · have hl : fs.length ≤ 1048576 := by have := r2 (by omega); omega
    clear r2
    go_wp2_with fail
    refine (toDisk_any a fs cap _ (HR.out.stays M1.out.low) HF.out hl).mono ?_
    rintro e w2 ⟨g2, rfl, hg2, hw2, hb2⟩
    have M2 : Shut (Mem w w2 [(w.heap.size, [.slice a fs.length cap])] [(some ⟨g2, 0, none⟩, fcs fs, w1.heap.size, w2.heap.size)]) := ⟨(M1.out.below hb2).row (FRw.of_wcells hw2 hg2 hw2.1)⟩
    have s2 := hb2.size
    clear hb2 hw2 hg2 M1 x1
    go_wp2_with fail
    refine (toIntS_any c left capl _ (HL.out.stays M2.out.low) hll).mono ?_
    rintro e w3 ⟨g3, rfl, hg3, hw3, hb3⟩
    have M3 : Shut (Mem w w3 [(w.heap.size, [.slice a fs.length cap])] [(some ⟨g3, 0, none⟩, ics left, w2.heap.size, w3.heap.size), (some ⟨g2, 0, none⟩, fcs fs, w1.heap.size, w2.heap.size)]) := ⟨(M2.out.below hb3).row (FRw.of_wcells hw3 hg3 hw3.1)⟩
    have s3 := hb3.size
    clear hb3 hw3 hg3 M2
    go_wp2_with fail
    refine (specLoseDisk (some ⟨g2, 0, none⟩) (some ⟨g3, 0, none⟩) fs left fs.length left.length _ M3.out.at1.crow HF.out hl M3.out.at0.crow hll).mono ?_
    intro e w4 hp4
    obtain ⟨v4, c4, rfl, hf4, hc4, hb4⟩ := hp4.made
    have hO : (lostD fs left).length ≤ 1048576 := by have := lostD_len fs left; omega
    generalize hOe : lostD fs left = os at *
    have HOE : Hid (lostD fs left = os) := hOe
    generalize hDe : dOkB fs = D at *
    have HDE : Hid (dOkB fs = D) := hDe
    have M4 : Shut (Mem w (w4.alloc (.cells #[.slice v4 os.length c4] 29)) [(w4.heap.size, [.slice v4 os.length c4]), (w.heap.size, [.slice a fs.length cap])] [(v4, fcs os, w3.heap.size, w4.heap.size)]) :=
      ⟨(((M3.out.below hb4).less (R' := []) (fun _ h => h) (by simp)).row hf4).box #[.slice v4 os.length c4] 29⟩
    have s4 := hb4.size
    have x4 := M4.out.cell1
    clear hp4 hf4 hb4 M3 hOe hDe
    go_wp2_with fail
    refine (toDisk_any a fs cap _ (HR.out.stays M4.out.low) HF.out hl).mono ?_
    rintro e w5 ⟨g5, rfl, hg5, hw5, hb5⟩
    have s5 : w4.heap.size + 1 ≤ w5.heap.size := by have := hb5.size; simpa using this
    have t5 : w4.heap.size + 1 ≤ g5 := by simpa using hg5
    have u5 := hw5.1
    have M5 : Shut (Mem w (w5.alloc (.cells #[.slice (some ⟨g5, 0, none⟩) fs.length fs.length] 29)) [(w5.heap.size, [.slice (some ⟨g5, 0, none⟩) fs.length fs.length]), (w4.heap.size, [.slice v4 os.length c4]), (w.heap.size, [.slice a fs.length cap])] [(some ⟨g5, 0, none⟩, fcs fs, g5, g5 + 1), (v4, fcs os, w3.heap.size, w4.heap.size)]) :=
      ⟨((M4.out.below hb5).row (FRw.of_wcells hw5 (Nat.le_refl _) (Nat.lt_succ_self _))).box #[.slice (some ⟨g5, 0, none⟩) fs.length fs.length] 29⟩
    clear hb5 hw5 hg5 M4 x4
    go_wp2_with fail
    refine (toIntS_any c left capl _ (HL.out.stays M5.out.low) hll).mono ?_
    rintro e w6 ⟨g6, rfl, hg6, hw6, hb6⟩
    have s6 : w5.heap.size + 1 ≤ w6.heap.size := by have := hb6.size; simpa using this
    have t6 : w5.heap.size + 1 ≤ g6 := by simpa using hg6
    have u6 := hw6.1
    have M6 : Shut (Mem w w6 [(w5.heap.size, [.slice (some ⟨g5, 0, none⟩) fs.length fs.length]), (w4.heap.size, [.slice v4 os.length c4]), (w.heap.size, [.slice a fs.length cap])] [(some ⟨g6, 0, none⟩, ics left, g6, g6 + 1), (some ⟨g5, 0, none⟩, fcs fs, g5, g5 + 1), (v4, fcs os, w3.heap.size, w4.heap.size)]) :=
      ⟨(M5.out.below hb6).row (FRw.of_wcells hw6 (Nat.le_refl _) (Nat.lt_succ_self _))⟩
    have x6 := M6.out.cell0
    clear hb6 hw6 hg6 M5
    go_wp2_with fail
    refine (implLoseDisk (some ⟨g5, 0, none⟩) (some ⟨g6, 0, none⟩) fs left fs.length left.length _ M6.out.at1.crow HF.out hl M6.out.at0.crow hll).mono ?_
    intro e w7 hp7
    obtain ⟨v7, c7, hp7, hf7, hc7, hb7⟩ := hp7.made
    rw [HOE.out, HDE.out] at hp7
    rw [HOE.out] at hf7 hc7
    subst hp7
    have s7 := hb7.size
    have M7 : Shut (Mem w (w7.alloc (.cells #[.slice v7 os.length c7] 29)) [(w7.heap.size, [.slice v7 os.length c7]), (w5.heap.size, [.slice (some ⟨g5, 0, none⟩) fs.length fs.length]), (w4.heap.size, [.slice v4 os.length c4]), (w.heap.size, [.slice a fs.length cap])] [(v7, fcs os, w6.heap.size, w7.heap.size), (some ⟨g6, 0, none⟩, ics left, g6, g6 + 1), (some ⟨g5, 0, none⟩, fcs fs, g5, g5 + 1), (v4, fcs os, w3.heap.size, w4.heap.size)]) :=
      ⟨((M6.out.below hb7).row hf7).box #[.slice v7 os.length c7] 29⟩
    have x7 := M7.out.cell2
    clear hb7 hf7 M6 x6
    go_wp2_with fail
    refine (eqDisk_same v7 v4 os c7 c4 _ M7.out.at0.crow M7.out.at3.crow hO).mono ?_
    rintro e w8 ⟨rfl, hb8⟩
    have s8 : w7.heap.size + 1 ≤ w8.heap.size := by have := hb8.size; simpa using this
    have hM : Shut (Mem w w8 [(w7.heap.size, [.slice v7 os.length c7]), (w5.heap.size, [.slice (some ⟨g5, 0, none⟩) fs.length fs.length]), (w4.heap.size, [.slice v4 os.length c4]), (w.heap.size, [.slice a fs.length cap])] [(v7, fcs os, w6.heap.size, w7.heap.size), (some ⟨g6, 0, none⟩, ics left, g6, g6 + 1), (some ⟨g5, 0, none⟩, fcs fs, g5, g5 + 1), (v4, fcs os, w3.heap.size, w4.heap.size)]) := ⟨M7.out.below hb8⟩
    have y8 := hM.out.cell1
    have x8 := hM.out.cell3
    clear hb8 M7 x7
    go_wp2_with fail
    go_region_held3 (fun w' => w'.cell? ⟨w5.heap.size, 0, none⟩ = some (.slice (some ⟨g5, 0, none⟩) fs.length fs.length) ∧ w'.cell? ⟨w.heap.size, 0, none⟩ = some (.slice a fs.length cap) ∧ Shut (Mem w w' [(w7.heap.size, [.slice v7 os.length c7]), (w5.heap.size, [.slice (some ⟨g5, 0, none⟩) fs.length fs.length]), (w4.heap.size, [.slice v4 os.length c4]), (w.heap.size, [.slice a fs.length cap])] [(v7, fcs os, w6.heap.size, w7.heap.size), (some ⟨g6, 0, none⟩, ics left, g6, g6 + 1), (some ⟨g5, 0, none⟩, fcs fs, g5, g5 + 1), (v4, fcs os, w3.heap.size, w4.heap.size)]))
      (first | assumption | (exact ⟨y8, x8, ⟨hM.out.drew⟩⟩) | (exact LMem.keep (by assumption) hbc))
      (first
        | (go_at_call 12; refine (LMem.toDisk (by assumption) HR.out HF.out hl).mono ?_; rintro e w9 ⟨g9, rfl, hg9, hw9, hbc⟩; have h9 : Shut (WCells w9 g9 (fcs fs)) := ⟨hw9⟩; clear hw9)
        | (go_at_call 14; refine (eqDisk_same (some ⟨g5, 0, none⟩) (some ⟨g9, 0, none⟩) fs fs.length fs.length _ (LMem.x0 (by assumption)) h9.out.crow hl).mono ?_; have hbc_0 := hbc; clear hbc; rintro e w10 ⟨rfl, hbc⟩))
    all_goals
      obtain ⟨_, _, M10⟩ : w10.cell? ⟨w5.heap.size, 0, none⟩ = some (.slice (some ⟨g5, 0, none⟩) fs.length fs.length) ∧ w10.cell? ⟨w.heap.size, 0, none⟩ = some (.slice a fs.length cap) ∧ Shut (Mem w w10 [(w7.heap.size, [.slice v7 os.length c7]), (w5.heap.size, [.slice (some ⟨g5, 0, none⟩) fs.length fs.length]), (w4.heap.size, [.slice v4 os.length c4]), (w.heap.size, [.slice a fs.length cap])] [(v7, fcs os, w6.heap.size, w7.heap.size), (some ⟨g6, 0, none⟩, ics left, g6, g6 + 1), (some ⟨g5, 0, none⟩, fcs fs, g5, g5 + 1), (v4, fcs os, w3.heap.size, w4.heap.size)]) := by assumption
      have s10 : w7.heap.size + 1 ≤ w10.heap.size := by have := M10.out.lt0; omega
      clear hM hbc hbc_0 h9 hg9 y8 x8
      go_wp2_with fail
      refine (toIntS_any c left capl _ (HL.out.stays M10.out.low) hll).mono ?_
      rintro e w11 ⟨g11, rfl, hg11, hw11, hb11⟩
      have M11 : Shut (Mem w w11 [(w7.heap.size, [.slice v7 os.length c7]), (w5.heap.size, [.slice (some ⟨g5, 0, none⟩) fs.length fs.length]), (w4.heap.size, [.slice v4 os.length c4]), (w.heap.size, [.slice a fs.length cap])] (((some ⟨g11, 0, none⟩, ics left, g11, g11 + 1)) :: [(v7, fcs os, w6.heap.size, w7.heap.size), (some ⟨g6, 0, none⟩, ics left, g6, g6 + 1), (some ⟨g5, 0, none⟩, fcs fs, g5, g5 + 1), (v4, fcs os, w3.heap.size, w4.heap.size)])) := ⟨(M10.out.below hb11).row (FRw.of_wcells hw11 (Nat.le_refl _) (Nat.lt_succ_self _))⟩
      clear hb11 hw11 hg11 M10
      go_wp2_with fail
      refine (eqIntS_same (some ⟨g6, 0, none⟩) (some ⟨g11, 0, none⟩) left left.length left.length _ M11.out.at2.crow M11.out.at0.crow hll).mono ?_
      rintro e w12 ⟨rfl, hb12⟩
      have M12 : Shut (Mem w w12 [(w7.heap.size, [.slice v7 os.length c7]), (w5.heap.size, [.slice (some ⟨g5, 0, none⟩) fs.length fs.length]), (w4.heap.size, [.slice v4 os.length c4]), (w.heap.size, [.slice a fs.length cap])] [(v7, fcs os, w6.heap.size, w7.heap.size), (some ⟨g6, 0, none⟩, ics left, g6, g6 + 1), (some ⟨g5, 0, none⟩, fcs fs, g5, g5 + 1), (v4, fcs os, w3.heap.size, w4.heap.size)]) := ⟨(M11.out.below hb12).less (fun _ h => h) (fun _ h => List.mem_cons_of_mem _ h)⟩
      have x12 := M12.out.cell1
      clear hb12 M11
      go_wp2_with fail
      refine (markDisk_row (some ⟨g5, 0, none⟩) fs 1 fs.length g5 (g5 + 1) _ M12.out.at2 (by omega) (by omega) (Nat.le_refl _)).mono ?_
      obtain ⟨k13, hk13⟩ : ∃ k, k = 1 + 3 * fs.length := ⟨_, rfl⟩
      rw [← hk13]
      have b13 : 0 < k13 ∧ k13 ≤ 3145729 := by omega
      clear hk13
      rintro e w13 ⟨rfl, _, row, hgr, hrow⟩
      have M13 : Shut (Mem w w13 [(w7.heap.size, [.slice v7 os.length c7]), (w4.heap.size, [.slice v4 os.length c4]), (w.heap.size, [.slice a fs.length cap])] [(v7, fcs os, w6.heap.size, w7.heap.size), (some ⟨g6, 0, none⟩, ics left, g6, g6 + 1), (v4, fcs os, w3.heap.size, w4.heap.size)]) := ⟨((M12.out.less (L' := [(w7.heap.size, [.slice v7 os.length c7]), (w4.heap.size, [.slice v4 os.length c4]), (w.heap.size, [.slice a fs.length cap])]) (R' := [(v7, fcs os, w6.heap.size, w7.heap.size), (some ⟨g6, 0, none⟩, ics left, g6, g6 + 1), (v4, fcs os, w3.heap.size, w4.heap.size)]) (by simp) (by simp)).grown hgr (fun p hp g e => by have := hrow g e; simp at hp; rcases hp with rfl | rfl | rfl <;> (simp; omega)) (fun r hr g e => by have := hrow g e; simp at hr; rcases hr with rfl | rfl | rfl <;> (simp; omega)) (fun g e => by have := hrow g e; omega))⟩
      clear hgr hrow row M12 x12
      go_wp2_with fail
      refine (markIntS_any g6 left k13 left.length _ M13.out.at1.wcells (by omega) (Nat.le_refl _)).mono ?_
      obtain ⟨k14, hk14⟩ : ∃ k, k = k13 + left.length := ⟨_, rfl⟩
      unfold MarkInts
      rw [← hk14]
      rintro e w14 ⟨rfl, _, hgr⟩
      have M14 : Shut (Mem w w14 [(w7.heap.size, [.slice v7 os.length c7]), (w4.heap.size, [.slice v4 os.length c4]), (w.heap.size, [.slice a fs.length cap])] [(v7, fcs os, w6.heap.size, w7.heap.size), (v4, fcs os, w3.heap.size, w4.heap.size)]) := ⟨((M13.out.less (L' := [(w7.heap.size, [.slice v7 os.length c7]), (w4.heap.size, [.slice v4 os.length c4]), (w.heap.size, [.slice a fs.length cap])]) (R' := [(v7, fcs os, w6.heap.size, w7.heap.size), (v4, fcs os, w3.heap.size, w4.heap.size)]) (by simp) (by simp)).grown hgr (fun p hp g e => by simp at hp e; rcases hp with rfl | rfl | rfl <;> (simp; omega)) (fun r hr g e => by simp at hr e; rcases hr with rfl | rfl <;> (simp; omega)) (fun g e => by simp at e; omega))⟩
      have hkn : ¬ ((k14 : Nat) : Int) < 0 := by omega
      have x14 := M14.out.cell0
      have y14 := M14.out.cell1
      clear hgr M13 hk14
      go_wp2_with fail
      refine (eqDisk_same v7 v4 os c7 c4 _ M14.out.at0.crow M14.out.at1.crow hO).mono ?_
      rintro e w15 ⟨rfl, hb15⟩
      have M15 : Shut (Mem w w15 [(w7.heap.size, [.slice v7 os.length c7]), (w4.heap.size, [.slice v4 os.length c4]), (w.heap.size, [.slice a fs.length cap])] [(v7, fcs os, w6.heap.size, w7.heap.size), (v4, fcs os, w3.heap.size, w4.heap.size)]) := ⟨M14.out.below hb15⟩
      have x15 := M15.out.cell0
      clear hb15 M14 x14 y14
      go_wp2_with fail
      refine (markDisk_row v7 os 1 c7 w6.heap.size w7.heap.size _ M15.out.at0 (by omega) (by omega) hc7).mono ?_
      obtain ⟨k16, hk16⟩ : ∃ k, k = 1 + 3 * os.length := ⟨_, rfl⟩
      rw [← hk16]
      have HK16 : Hid (k16 = 1 + 3 * os.length) := hk16
      clear hk16
      rintro e w16 ⟨rfl, hf16, row, hgr, hrow⟩
      have M16 : Shut (Mem w w16 [(w7.heap.size, [.slice v7 os.length c7]), (w4.heap.size, [.slice v4 os.length c4]), (w.heap.size, [.slice a fs.length cap])] [(v7, fcs (marksF 1 os.length), w6.heap.size, w7.heap.size), (v4, fcs os, w3.heap.size, w4.heap.size)]) := ⟨((M15.out.less (L' := [(w7.heap.size, [.slice v7 os.length c7]), (w4.heap.size, [.slice v4 os.length c4]), (w.heap.size, [.slice a fs.length cap])]) (R' := [(v4, fcs os, w3.heap.size, w4.heap.size)]) (by simp) (by simp)).grown hgr (fun p hp g e => by have := hrow g e; simp at hp; rcases hp with rfl | rfl | rfl <;> (simp; omega)) (fun r hr g e => by have := hrow g e; simp at hr; subst hr; simp; omega) (fun g e => by have := hrow g e; omega)).row hf16⟩
      have x16 := M16.out.cell0
      clear hgr hrow row M15 x15 hf16
      go_wp2_with fail
      refine (heldDisk_any v7 1 os.length c7 _ M16.out.at0.crow (by omega) (by omega)).mono ?_
      rw [← HK16.out]
      rintro e w17 ⟨rfl, hb17⟩
      have M17 : Shut (Mem w w17 [(w7.heap.size, [.slice v7 os.length c7]), (w4.heap.size, [.slice v4 os.length c4]), (w.heap.size, [.slice a fs.length cap])] [(v7, fcs (marksF 1 os.length), w6.heap.size, w7.heap.size), (v4, fcs os, w3.heap.size, w4.heap.size)]) := ⟨M16.out.below hb17⟩
      have hkm : ¬ ((k16 : Nat) : Int) < 0 := by omega
      have x17 := M17.out.cell2
      clear hb17 M16 x16
      go_wp2_with fail
      refine (toDisk_any a fs cap _ (HR.out.stays M17.out.low) HF.out hl).mono ?_
      rintro e w18 ⟨g18, rfl, hg18, hw18, hb18⟩
      have M18 : Shut (Mem w w18 [(w7.heap.size, [.slice v7 os.length c7]), (w4.heap.size, [.slice v4 os.length c4]), (w.heap.size, [.slice a fs.length cap])] ((some ⟨g18, 0, none⟩, fcs fs, g18, g18 + 1) :: [(v7, fcs (marksF 1 os.length), w6.heap.size, w7.heap.size), (v4, fcs os, w3.heap.size, w4.heap.size)])) := ⟨(M17.out.below hb18).row (FRw.of_wcells hw18 (Nat.le_refl _) (Nat.lt_succ_self _))⟩
      clear hb18 hw18 hg18 M17 x17
      go_wp2_with fail
      refine (toIntS_any c left capl _ (HL.out.stays M18.out.low) hll).mono ?_
      rintro e w19 ⟨g19, rfl, hg19, hw19, hb19⟩
      have M19 : Shut (Mem w w19 [(w7.heap.size, [.slice v7 os.length c7]), (w4.heap.size, [.slice v4 os.length c4]), (w.heap.size, [.slice a fs.length cap])] ((some ⟨g19, 0, none⟩, ics left, g19, g19 + 1) :: (some ⟨g18, 0, none⟩, fcs fs, g18, g18 + 1) :: [(v7, fcs (marksF 1 os.length), w6.heap.size, w7.heap.size), (v4, fcs os, w3.heap.size, w4.heap.size)])) := ⟨(M18.out.below hb19).row (FRw.of_wcells hw19 (Nat.le_refl _) (Nat.lt_succ_self _))⟩
      clear hb19 hw19 hg19 M18
      go_wp2_with fail
      refine (implLoseDisk (some ⟨g18, 0, none⟩) (some ⟨g19, 0, none⟩) fs left fs.length left.length _ M19.out.at1.crow HF.out hl M19.out.at0.crow hll).mono ?_
      intro e w20 hp20
      obtain ⟨v20, c20, hp20, hf20, hc20, hb20⟩ := hp20.made
      rw [HOE.out, HDE.out] at hp20
      rw [HOE.out] at hf20 hc20
      subst hp20
      have M20 : Shut (Mem w (w20.alloc (.cells #[.slice v20 os.length c20] 29)) ((w20.heap.size, [.slice v20 os.length c20]) :: [(w7.heap.size, [.slice v7 os.length c7]), (w4.heap.size, [.slice v4 os.length c4]), (w.heap.size, [.slice a fs.length cap])]) ((v20, fcs os, w19.heap.size, w20.heap.size) :: [(v7, fcs (marksF 1 os.length), w6.heap.size, w7.heap.size), (v4, fcs os, w3.heap.size, w4.heap.size)])) :=
        ⟨((((M19.out.below hb20).less (R' := [(v7, fcs (marksF 1 os.length), w6.heap.size, w7.heap.size), (v4, fcs os, w3.heap.size, w4.heap.size)]) (fun _ h => h) (fun _ h => List.mem_cons_of_mem _ (List.mem_cons_of_mem _ h))).row hf20).box #[.slice v20 os.length c20] 29)⟩
      have x20 := M20.out.cell2
      clear hb20 hf20 M19
      go_wp2_with fail
      refine (eqDisk_same v20 v4 os c20 c4 _ M20.out.at0.crow M20.out.at2.crow hO).mono ?_
      rintro e w21 ⟨rfl, hb21⟩
      have M21 : Shut (Mem w w21 ((w20.heap.size, [.slice v20 os.length c20]) :: [(w7.heap.size, [.slice v7 os.length c7]), (w4.heap.size, [.slice v4 os.length c4]), (w.heap.size, [.slice a fs.length cap])]) ((v20, fcs os, w19.heap.size, w20.heap.size) :: [(v7, fcs (marksF 1 os.length), w6.heap.size, w7.heap.size), (v4, fcs os, w3.heap.size, w4.heap.size)])) := ⟨M20.out.below hb21⟩
      have x21 := M21.out.cell1
      clear hb21 M20 x20
      go_wp2_with fail
      refine (heldDisk_any v7 1 os.length c7 _ M21.out.at1.crow (by omega) (by omega)).mono ?_
      rw [← HK16.out]
      rintro e w22 ⟨rfl, hb22⟩
      have HB : Hid (Below w.heap.size w w22) := (M21.out.below hb22).low
      clear hb22 M21 x21
      go_wp2_with fail
      go_ret
      exact ⟨rfl, HB.out⟩
end Go.Proofs.Ytkkpddcncpdnpaa
