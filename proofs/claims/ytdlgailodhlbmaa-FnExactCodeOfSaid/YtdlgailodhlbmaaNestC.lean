/- Rows of rows of numbers: the laws' own comparisons, marks that are laid into one, and found again. -/
import Derived.Test.YtdlgailodhlbmaaNestB
namespace Go.Proofs.Ytdlgailodhlbmaa
open Go.RowKit
attribute [local go_sem ↓] Go.wp_at_zero Go.wp_at_succ

set_option maxHeartbeats 1000000 in
theorem eqIntSS_same (a b : Option Addr) (ss tt : List SR) (ca cb : Nat) (w : World) (lo hi lo' hi' : Nat) (ha : MR w a ss lo hi) (hb : MR w b tt lo' hi') (he : rws ss = rws tt) (hl : ss.length ≤ 1048576) (hrl : ∀ s ∈ ss, s.row.length ≤ 1048576) :
    Calls Try.prog 25 #[.slice a ss.length ca, .slice b tt.length cb] w fun e w' => e = .returned (.bool true) ∧ Below w.heap.size w w' := by
  have hlen : tt.length = ss.length := by have := congrArg List.length he; rw [rws_len, rws_len] at this; exact this.symm
  rw [hlen]
  have HA : Hid (MR w a ss lo hi) := ha
  have HB : Hid (MR w b tt lo' hi') := hb
  have HE : Hid (rws ss = rws tt ∧ tt.length = ss.length ∧ ∀ s ∈ ss, s.row.length ≤ 1048576) := ⟨he, hlen, hrl⟩
  clear ha hb he hlen hrl
  go_enter Try.func25, Try.ntmps25
  go_wp2_with fail
  go_loopw [5] (fun i wr => ∃ (k : Nat), i = .int .i64 k ∧ k ≤ ss.length ∧ Below w.heap.size w wr) (fun i _ => ss.length - (intOf i).toNat)
  case atStart => exact ⟨0, rfl, Nat.zero_le _, Below.refl _ _⟩
  case round =>
    obtain ⟨k, rfl, hk, hbl⟩ := hrel
    by_cases hlt : k < ss.length
    · have hlt2 : k < tt.length := by rw [HE.out.2.1]; exact hlt
      have HA' := HA.out.below hbl
      have HB' := HB.out.below hbl
      obtain ⟨b1, o1, rfl, l1, hc1⟩ := HA'.at (by omega)
      obtain ⟨b2, o2, rfl, l2, hc2⟩ := HB'.at (by omega)
      have d1 := hc1 k hlt
      have d2 := hc2 k hlt2
      have r1 := HA'.2 ss[k] (List.getElem_mem hlt)
      have r2 := HB'.2 tt[k] (List.getElem_mem hlt2)
      have hrr : ss[k].row = tt[k].row := by
        rw [← rws_get ss k hlt, ← rws_get tt k hlt2]
        simp only [HE.out.1]
      have hle := HE.out.2.2 ss[k] (List.getElem_mem hlt)
      generalize ss[k] = s1 at *
      generalize tt[k] = s2 at *
      obtain ⟨loc1, row1, cp1⟩ := s1
      obtain ⟨loc2, row2, cp2⟩ := s2
      simp only [srv] at d1 d2 r1 r2 hrr hle
      subst hrr
      have HCALL : Hid (∀ W : World, Below wr.heap.size wr W → Calls Try.prog 58 #[.slice loc1 row1.length cp1, .slice loc2 row1.length cp2] W fun e w' => e = .returned (.bool true) ∧ Below W.heap.size W w') := fun W hW => eqIntS_same loc1 loc2 row1 cp1 cp2 W (r1.crow.stays hW) (r2.crow.stays hW) hle
      have HS : Hid (Below w.heap.size w wr) := hbl
      have k0 : (0 : Int) ≤ (k : Int) := by omega
      have k1 : (k : Int) < (ss.length : Int) := by omega
      clear hc1 hc2 hbl r1 r2 HA' HB' hle
      generalize row1.length = m at *
      go_wp2_with fail
      go_region_held3 (fun w' => w'.cell? ⟨b1, o1 + k, none⟩ = some (.slice loc1 m cp1) ∧ w'.cell? ⟨b2, o2 + k, none⟩ = some (.slice loc2 m cp2))
        (first | go_keep | (refine ⟨?_, ?_⟩ <;> first | (rw [hb2.cell (by exact l1)]; simp [*]) | (rw [hb2.cell (by exact l2)]; simp [*])))
        ((go_at_call 58; refine (HCALL.out _ (Below.drew (Below.refl _ _))).mono ?_; rintro e w2 ⟨rfl, hb2⟩))
      all_goals go_wp2_with fail
      all_goals
        have hb3 : Below w.heap.size w w2 := HS.out.trans ((Below.drew (Below.refl _ _)).trans (hb2.mono HS.out.size))
        exact ⟨⟨k + 1, by go_num, by omega, hb3⟩, by simp [intOf]; omega⟩
    · have e : k = ss.length := by omega
      have HS : Hid (Below w.heap.size w wr) := hbl
      subst e
      clear hbl
      go_wp2_with fail
      go_ret
      exact ⟨rfl, HS.out⟩
set_option maxHeartbeats 1000000 in
theorem sameInts_same (a b : Option Addr) (xs : List Int) (ca cb : Nat) (w : World) (ha : CRow w a (ics xs)) (hb : CRow w b (ics xs)) (hl : xs.length ≤ 1048576) :
    Calls Try.prog 51 #[.slice a xs.length ca, .slice b xs.length cb] w fun e w' => e = .returned (.bool true) ∧ Below w.heap.size w w' := by
  have HA : Hid (CRow w a (ics xs)) := ha
  have HB : Hid (CRow w b (ics xs)) := hb
  clear ha hb
  go_enter Try.func51, Try.ntmps51
  go_wp2_with fail
  go_loopw [5] (fun i wr => ∃ (k : Nat), i = .int .i64 k ∧ k ≤ xs.length ∧ Below w.heap.size w wr) (fun i _ => xs.length - (intOf i).toNat)
  case atStart => exact ⟨0, rfl, Nat.zero_le _, Below.refl _ _⟩
  case round =>
    obtain ⟨k, rfl, hk, hbl⟩ := hrel
    by_cases hlt : k < xs.length
    · obtain ⟨b1, o1, rfl, l1, hc1⟩ := crow_int (HA.out.stays hbl) (by omega)
      obtain ⟨b2, o2, rfl, l2, hc2⟩ := crow_int (HB.out.stays hbl) (by omega)
      have d0 := hc1 k hlt
      have e0 := hc2 k hlt
      have k0 : (0 : Int) ≤ (k : Int) := by omega
      have k1 : (k : Int) < (xs.length : Int) := by omega
      have hbn : ∀ q, Below w.heap.size w (wr.drewN q) := fun q => hbl.trans ⟨rfl, rfl, rfl, Nat.le_refl _, fun _ _ => rfl⟩
      generalize xs.getD k 0 = x at d0 e0
      clear hc1 hc2 hbl
      go_wp2_with fail
      go_quiet (fail)
      go_wp2_with fail
      go_roundw
      case rel => exact ⟨k + 1, by go_num, by omega, hbn _⟩
      case measure => simp [intOf]; omega
    · have e : k = xs.length := by omega
      subst e
      go_wp2_with fail
      go_ret
      exact ⟨rfl, hbl⟩
set_option maxHeartbeats 1000000 in
theorem sameMatrix_same (a b : Option Addr) (ss tt : List SR) (ca cb : Nat) (w : World) (lo hi lo' hi' : Nat) (ha : MR w a ss lo hi) (hb : MR w b tt lo' hi') (he : rws ss = rws tt) (hl : ss.length ≤ 1048576) (hrl : ∀ s ∈ ss, s.row.length ≤ 1048576) :
    Calls Try.prog 20 #[.slice a ss.length ca, .slice b tt.length cb] w fun e w' => e = .returned (.bool true) ∧ Below w.heap.size w w' := by
  have hlen : tt.length = ss.length := by have := congrArg List.length he; rw [rws_len, rws_len] at this; exact this.symm
  rw [hlen]
  have HA : Hid (MR w a ss lo hi) := ha
  have HB : Hid (MR w b tt lo' hi') := hb
  have HE : Hid (rws ss = rws tt ∧ tt.length = ss.length ∧ ∀ s ∈ ss, s.row.length ≤ 1048576) := ⟨he, hlen, hrl⟩
  clear ha hb he hlen hrl
  go_enter Try.func20, Try.ntmps20
  go_wp2_with fail
  go_loopw [5] (fun i wr => ∃ (k : Nat), i = .int .i64 k ∧ k ≤ ss.length ∧ Below w.heap.size w wr) (fun i _ => ss.length - (intOf i).toNat)
  case atStart => exact ⟨0, rfl, Nat.zero_le _, Below.refl _ _⟩
  case round =>
    obtain ⟨k, rfl, hk, hbl⟩ := hrel
    by_cases hlt : k < ss.length
    · have hlt2 : k < tt.length := by rw [HE.out.2.1]; exact hlt
      have HA' := HA.out.below hbl
      have HB' := HB.out.below hbl
      obtain ⟨b1, o1, rfl, l1, hc1⟩ := HA'.at (by omega)
      obtain ⟨b2, o2, rfl, l2, hc2⟩ := HB'.at (by omega)
      have d1 := hc1 k hlt
      have d2 := hc2 k hlt2
      have r1 := HA'.2 ss[k] (List.getElem_mem hlt)
      have r2 := HB'.2 tt[k] (List.getElem_mem hlt2)
      have hrr : ss[k].row = tt[k].row := by
        rw [← rws_get ss k hlt, ← rws_get tt k hlt2]
        simp only [HE.out.1]
      have hle := HE.out.2.2 ss[k] (List.getElem_mem hlt)
      generalize ss[k] = s1 at *
      generalize tt[k] = s2 at *
      obtain ⟨loc1, row1, cp1⟩ := s1
      obtain ⟨loc2, row2, cp2⟩ := s2
      simp only [srv] at d1 d2 r1 r2 hrr hle
      subst hrr
      have HCALL : Hid (∀ W : World, Below wr.heap.size wr W → Calls Try.prog 51 #[.slice loc1 row1.length cp1, .slice loc2 row1.length cp2] W fun e w' => e = .returned (.bool true) ∧ Below W.heap.size W w') := fun W hW => sameInts_same loc1 loc2 row1 cp1 cp2 W (r1.crow.stays hW) (r2.crow.stays hW) hle
      have HS : Hid (Below w.heap.size w wr) := hbl
      have k0 : (0 : Int) ≤ (k : Int) := by omega
      have k1 : (k : Int) < (ss.length : Int) := by omega
      clear hc1 hc2 hbl r1 r2 HA' HB' hle
      generalize row1.length = m at *
      go_wp2_with fail
      go_region_held3 (fun w' => w'.cell? ⟨b1, o1 + k, none⟩ = some (.slice loc1 m cp1) ∧ w'.cell? ⟨b2, o2 + k, none⟩ = some (.slice loc2 m cp2))
        (first | go_keep | (refine ⟨?_, ?_⟩ <;> first | (rw [hb2.cell (by exact l1)]; simp [*]) | (rw [hb2.cell (by exact l2)]; simp [*])))
        ((go_at_call 51; refine (HCALL.out _ (Below.drew (Below.refl _ _))).mono ?_; rintro e w2 ⟨rfl, hb2⟩))
      all_goals go_wp2_with fail
      all_goals
        have hb3 : Below w.heap.size w w2 := HS.out.trans ((Below.drew (Below.refl _ _)).trans (hb2.mono HS.out.size))
        exact ⟨⟨k + 1, by go_num, by omega, hb3⟩, by simp [intOf]; omega⟩
    · have e : k = ss.length := by omega
      have HS : Hid (Below w.heap.size w wr) := hbl
      subst e
      clear hbl
      go_wp2_with fail
      go_ret
      exact ⟨rfl, HS.out⟩
set_option maxHeartbeats 1000000 in
theorem markIntS_marks (g : Nat) (xs : List Int) (k ca : Nat) (w : World) (ha : WCells w g (ics xs)) (hn : k + xs.length ≤ 1000000000) (hca : xs.length ≤ ca) :
    Calls Try.prog 59 #[.slice (some ⟨g, 0, none⟩) xs.length ca, .int .i64 k] w fun e w' => e = .returned (.int .i64 (k + xs.length : Nat)) ∧ WCells w' g (ics (marksI k xs.length)) ∧ w.grownBy w' (some g) := by
  obtain ⟨n, hnx⟩ : ∃ n, n = xs.length := ⟨_, rfl⟩
  have HN : Hid (n = xs.length) := hnx
  rw [← hnx]
  rw [← hnx] at hn hca
  clear hnx
  have HA : Shut (WCells w g (ics xs)) := ⟨ha⟩
  clear ha
  go_enter Try.func59, Try.ntmps59
  go_wp2_with fail
  go_loopw [1, 5] (fun c i wr => ∃ (j : Nat) (ys : List Int), i = .int .i64 j ∧ c = .int .i64 (k + j : Nat) ∧ j ≤ n ∧ Shut (ys.length = n ∧ ∀ t, t < j → ys.getD t 0 = ((k + t : Nat) : Int)) ∧ Shut (WCells wr g (ics ys)) ∧ w.grownBy wr (some g)) (fun _ i _ => n - (intOf i).toNat)
  case atStart => exact ⟨0, xs, rfl, rfl, Nat.zero_le _, ⟨HN.out.symm, fun t ht => by omega⟩, HA, ⟨rfl, rfl, rfl, Nat.le_refl _, fun _ _ _ => rfl⟩⟩
  case round =>
    obtain ⟨j, ys, rfl, rfl, hj, hyl, hw, hgr⟩ := hrel
    by_cases hlt : j < n
    · have j0 : (0 : Int) ≤ (j : Int) := by omega
      have j1 : (j : Int) < (n : Int) := by omega
      obtain ⟨c0, z0⟩ := hw.out.2 j _ (ics_get ys j (by rw [hyl.out.1]; exact hlt))
      have hset := hw.out.set j (.int .i64 ((k : Int) + (j : Int))) (by rw [ics_len, hyl.out.1]; omega)
      rw [ics_set] at hset
      have HS : Shut (WCells (wr.setCell ⟨g, j, none⟩ (.int .i64 ((k : Int) + (j : Int)))) g (ics (ys.set j ((k : Int) + (j : Int))))) := ⟨hset⟩
      have HG : Hid (w.grownBy (wr.setCell ⟨g, j, none⟩ (.int .i64 ((k : Int) + (j : Int)))) (some g)) := gb_two' hgr (gb_set' wr g j _)
      have HY : Shut ((ys.set j ((k : Int) + (j : Int))).length = n ∧ ∀ t, t < j + 1 → (ys.set j ((k : Int) + (j : Int))).getD t 0 = ((k + t : Nat) : Int)) := ⟨by rw [List.length_set]; exact hyl.out.1, fun t ht => by
        by_cases e : t = j
        · subst e; simp [List.getD, show t < ys.length by rw [hyl.out.1]; exact hlt]
        · have := hyl.out.2 t (by omega)
          simpa [List.getD, List.getElem?_set, Ne.symm e] using this⟩
      clear hset hyl hgr hw
      go_wp2_with fail
      go_roundw
      case rel => exact ⟨j + 1, _, by go_num, congrArg (Value.int .i64) (by omega), by omega, HY, HS, HG.out⟩
      case measure => simp [intOf]; omega
    · have e : j = n := by omega
      subst e
      have ey : ys = marksI k j := by
        apply List.ext_getElem
        · rw [hyl.out.1, marksI_len]
        · intro t h1 h2
          have h3 := hyl.out.2 t (by rw [hyl.out.1] at h1; exact h1)
          have h4 := marksI_at k j t (by rw [hyl.out.1] at h1; exact h1)
          rw [← h4] at h3
          simpa [List.getD, h1, h2] using h3
      have HW : Shut (WCells wr g (ics (marksI k j))) := ⟨by rw [← ey]; exact hw.out⟩
      clear ey hyl hw
      go_wp2_with fail
      go_ret
      exact ⟨rfl, HW.out, hgr⟩
set_option maxHeartbeats 1000000 in
theorem heldIntS_marks (a : Option Addr) (k n ca : Nat) (w : World) (ha : CRow w a (ics (marksI k n))) (hn : k + n ≤ 1000000000) :
    Calls Try.prog 60 #[.slice a n ca, .int .i64 k] w fun e w' => e = .returned (.int .i64 (k + n : Nat)) ∧ Below w.heap.size w w' := by
  have HA : Hid (CRow w a (ics (marksI k n))) := ha
  clear ha
  go_enter Try.func60, Try.ntmps60
  go_wp2_with fail
  go_loopw [1, 5] (fun c i wr => ∃ (j : Nat), i = .int .i64 j ∧ c = .int .i64 (k + j : Nat) ∧ j ≤ n ∧ Below w.heap.size w wr) (fun _ i _ => n - (intOf i).toNat)
  case atStart => exact ⟨0, rfl, rfl, Nat.zero_le _, Below.refl _ _⟩
  case round =>
    obtain ⟨j, rfl, rfl, hj, hbl⟩ := hrel
    by_cases hlt : j < n
    · obtain ⟨b1, o1, rfl, l1, hc1⟩ := crow_int (HA.out.stays hbl) (by rw [marksI_len]; omega)
      have d0 := hc1 j (by rw [marksI_len]; exact hlt)
      rw [marksI_at k n j hlt] at d0
      have j0 : (0 : Int) ≤ (j : Int) := by omega
      have j1 : (j : Int) < (n : Int) := by omega
      have hbn : ∀ q, Below w.heap.size w (wr.drewN q) := fun q => hbl.trans ⟨rfl, rfl, rfl, Nat.le_refl _, fun _ _ => rfl⟩
      have HB0 : Hid (Below w.heap.size w wr) := hbl
      clear hc1 hbl
      go_wp2_with fail
      all_goals (try go_quiet (fail))
      all_goals go_wp2_with fail
      all_goals exact ⟨⟨j + 1, by go_num, congrArg (Value.int .i64) (by omega), by omega, by first | exact hbn _ | exact HB0.out⟩, by simp [intOf]; omega⟩
    · have e : j = n := by omega
      subst e
      go_wp2_with fail
      go_ret
      exact ⟨rfl, hbl⟩
end Go.Proofs.Ytdlgailodhlbmaa
