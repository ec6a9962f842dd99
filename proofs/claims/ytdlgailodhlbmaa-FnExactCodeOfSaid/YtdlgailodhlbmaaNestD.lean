/- Rows of rows of numbers: marks that are laid into all of them, and found again. -/
import Derived.Test.YtdlgailodhlbmaaNestC
namespace Go.Proofs.Ytdlgailodhlbmaa
open Go.RowKit
attribute [local go_sem ↓] Go.wp_at_zero Go.wp_at_succ

/-- One row of a row of rows is written anew. -/
theorem MW.setRow {w w' : World} {g : Nat} {ss : List SR} {lo hi : Nat} (h : MW w g ss lo hi) {i b : Nat} (hi' : i < ss.length) (hloc : ss[i].loc = some ⟨b, 0, none⟩) {row : List Int} (hlen : row.length = ss[i].row.length)
    (hg : w.grownBy w' (some b)) (hc : WCells w' b (ics row)) : MW w' g (ss.set i { ss[i] with row := row }) lo hi := by
  obtain ⟨b', e', q1, q2, q3, _, q5⟩ := h.rows ss[i] (List.getElem_mem hi')
  obtain rfl : b' = b := congrArg Addr.block (Option.some.inj (e'.symm.trans hloc))
  have hmap : (ss.set i { ss[i] with row := row }).map SR.loc = ss.map SR.loc := by
    rw [List.map_set]
    show (ss.map SR.loc).set i ss[i].loc = _
    rw [show ss[i].loc = (ss.map SR.loc)[i]'(by simpa using hi') by simp, List.set_getElem_self]
  have hsv : svs (ss.set i { ss[i] with row := row }) = svs ss := by
    unfold svs
    rw [List.map_set]
    have : srv { ss[i] with row := row } = (ss.map srv)[i]'(by simpa using hi') := by simp [srv, hlen]
    rw [this, List.set_getElem_self]
  refine ⟨?_, h.glo, h.ghi, fun s hs => ?_, by rw [hmap]; exact h.apart⟩
  · rw [hsv]; exact h.out.apart hg (Ne.symm q3)
  · obtain ⟨j, hj, rfl⟩ := List.mem_iff_getElem.1 hs
    rw [List.length_set] at hj
    by_cases e : i = j
    · subst e
      rw [List.getElem_set_self]
      exact ⟨b', hloc, q1, q2, q3, hc, by show row.length ≤ ss[i].cap; omega⟩
    · rw [List.getElem_set_ne e]
      obtain ⟨c, f, p1, p2, p3, p4, p5⟩ := h.rows ss[j] (List.getElem_mem hj)
      refine ⟨c, f, p1, p2, p3, p4.apart hg ?_, p5⟩
      intro ec
      subst ec
      have hn := h.apart
      rw [List.nodup_iff_pairwise_ne, List.pairwise_iff_getElem] at hn
      rcases Nat.lt_or_gt_of_ne e with h1 | h1
      · have := hn i j (by simpa using hi') (by simpa using hj) h1
        simp at this
        exact this (e'.trans f.symm)
      · have := hn j i (by simpa using hj) (by simpa using hi') h1
        simp at this
        exact this (f.trans e'.symm)
/-- A row of rows that is marked from k on. -/
structure Marked (k : Nat) (ss ts : List SR) (j : Nat) : Prop where
  len : ts.length = ss.length
  same : ∀ i (h : i < ss.length), ts[i].loc = ss[i].loc ∧ ts[i].cap = ss[i].cap ∧ ts[i].row.length = ss[i].row.length
  marks : ∀ i (h : i < ss.length), i < j → ts[i].row = marksI (k + msum (ss.take i)) ss[i].row.length
theorem Marked.start (k : Nat) (ss : List SR) : Marked k ss ss 0 := ⟨rfl, fun _ _ => ⟨rfl, rfl, rfl⟩, fun i _ h => by omega⟩
theorem Marked.next {k : Nat} {ss ts : List SR} {j : Nat} (h : Marked k ss ts j) (hj : j < ss.length) : Marked k ss (ts.set j { ts[j]'(by rw [h.len]; exact hj) with row := marksI (k + msum (ss.take j)) ss[j].row.length }) (j + 1) := by
  have hj' : j < ts.length := by rw [h.len]; exact hj
  refine ⟨by rw [List.length_set]; exact h.len, fun i hi => ?_, fun i hi hij => ?_⟩
  · by_cases e : j = i
    · subst e
      rw [List.getElem_set_self]
      exact ⟨(h.same j hj).1, (h.same j hj).2.1, by rw [marksI_len]⟩
    · rw [List.getElem_set_ne e]; exact h.same i hi
  · by_cases e : j = i
    · subst e
      rw [List.getElem_set_self]
    · rw [List.getElem_set_ne e]; exact h.marks i hi (by omega)
set_option maxHeartbeats 1000000 in
theorem markIntSS_any (g : Nat) (ss : List SR) (k ca : Nat) (w : World) (lo hi : Nat) (ha : MW w g ss lo hi) (hn : k + msum ss ≤ 1000000000) (hl : ss.length ≤ 1048576) :
    Calls Try.prog 26 #[.slice (some ⟨g, 0, none⟩) ss.length ca, .int .i64 k] w fun e w' => ∃ ts, e = .returned (.int .i64 (k + msum ss : Nat)) ∧ Marked k ss ts ss.length ∧ MW w' g ts lo hi ∧ Turned w w' lo hi := by
  obtain ⟨n, hnx⟩ : ∃ n, n = ss.length := ⟨_, rfl⟩
  have HN : Hid (n = ss.length) := hnx
  rw [← hnx]
  rw [← hnx] at hl
  clear hnx
  have HA : Shut (MW w g ss lo hi) := ⟨ha⟩
  clear ha
  go_enter Try.func26, Try.ntmps26
  go_wp2_with fail
  go_loopw [1, 5] (fun c i wr => ∃ (j : Nat) (ts : List SR), i = .int .i64 j ∧ c = .int .i64 (k + msum (ss.take j) : Nat) ∧ j ≤ n ∧ Shut (Marked k ss ts j) ∧ Shut (MW wr g ts lo hi) ∧ Shut (Turned w wr lo hi)) (fun _ i _ => n - (intOf i).toNat)
  case atStart => exact ⟨0, ss, rfl, by simp [msum], Nat.zero_le _, ⟨Marked.start k ss⟩, HA, ⟨Turned.refl _ _ _⟩⟩
  case round =>
    clear HA
    obtain ⟨j, ts, rfl, rfl, hj, hmk, hmw, htu⟩ := hrel
    by_cases hlt : j < n
    · have hlt' : j < ss.length := by have := HN.out; omega
      have hltt : j < ts.length := by rw [hmk.out.len]; exact hlt'
      have j0 : (0 : Int) ≤ (j : Int) := by omega
      have j1 : (j : Int) < (n : Int) := by omega
      obtain ⟨b, e1, q1, q2, q3, q4, q5⟩ := hmw.out.rows ts[j] (List.getElem_mem hltt)
      obtain ⟨c0, _⟩ := hmw.out.out.2 j _ (svs_get ts j hltt)
      have hmt := msum_take ss j hlt'
      have hml := msum_le ss (j + 1)
      obtain ⟨s1, s2, s3⟩ := hmk.out.same j hlt'
      have hcall := markIntS_marks b ts[j].row (k + msum (ss.take j)) ts[j].cap wr q4 (by omega) q5
      have hnext := hmk.out.next hlt'
      unfold srv at c0
      rw [e1] at c0
      rw [s3] at c0 hcall
      have HSET : Hid (∀ w' : World, wr.grownBy w' (some b) → WCells w' b (ics (marksI (k + msum (ss.take j)) ss[j].row.length)) → MW w' g (ts.set j { ts[j] with row := marksI (k + msum (ss.take j)) ss[j].row.length }) lo hi) := fun w' hg hc => hmw.out.setRow hltt e1 (by rw [marksI_len, s3]) hg hc
      have HTU : Hid (∀ w' : World, wr.grownBy w' (some b) → Turned w w' lo hi) := fun w' hg => htu.out.trans (Turned.of_grown hg q1 q2)
      generalize ts[j].cap = cp at *
      generalize ss[j].row.length = m at *
      obtain ⟨kk, hkk⟩ : ∃ kk, kk = k + msum (ss.take j) := ⟨_, rfl⟩
      have HKK : Hid (k + msum (ss.take (j + 1)) = kk + m) := by show k + msum (ss.take (j + 1)) = kk + m; omega
      rw [← hkk] at hcall hnext HSET ⊢
      have HNX : Shut (Marked k ss (ts.set j { ts[j] with row := marksI kk m }) (j + 1)) := ⟨hnext⟩
      have HCALL : Hid (Calls Try.prog 59 #[.slice (some ⟨b, 0, none⟩) m cp, .int .i64 kk] wr fun e w' => e = .returned (.int .i64 (kk + m : Nat)) ∧ WCells w' b (ics (marksI kk m)) ∧ wr.grownBy w' (some b)) := hcall
      clear hcall hnext hkk hmt hml s1 s2 s3 q4 q5 hmk hmw htu
      go_wp2_with fail
      refine HCALL.out.mono ?_
      rintro e w1 ⟨rfl, hw1, hg1⟩
      have HM : Shut (MW w1 g (ts.set j { ts[j] with row := marksI kk m }) lo hi) := ⟨HSET.out w1 hg1 hw1⟩
      have HT : Shut (Turned w w1 lo hi) := ⟨HTU.out w1 hg1⟩
      clear hw1 hg1 HSET HTU
      go_wp2_with fail
      go_roundw
      case rel => exact ⟨j + 1, _, by go_num, congrArg (Value.int .i64) (by have := HKK.out; omega), by omega, HNX, HM, HT⟩
      case measure => simp [intOf]; omega
    · have e : j = n := by omega
      subst e
      have HS : Hid (msum (ss.take j) = msum ss) := by
        have : msum (ss.take j) = msum ss := by rw [List.take_of_length_le (by have := HN.out; omega)]
        exact this
      go_wp2_with fail
      go_ret
      exact ⟨ts, by rw [HS.out]; rfl, hmk.out, hmw.out, htu.out⟩
set_option maxHeartbeats 1000000 in
theorem heldIntSS_any (a : Option Addr) (ss ts : List SR) (k ca : Nat) (w : World) (lo hi : Nat) (ha : MR w a ts lo hi) (hm : Marked k ss ts ss.length) (hn : k + msum ss ≤ 1000000000) (hl : ss.length ≤ 1048576) :
    Calls Try.prog 27 #[.slice a ss.length ca, .int .i64 k] w fun e w' => e = .returned (.int .i64 (k + msum ss : Nat)) ∧ Below w.heap.size w w' := by
  obtain ⟨n, hnx⟩ : ∃ n, n = ss.length := ⟨_, rfl⟩
  have HN : Hid (n = ss.length) := hnx
  rw [← hnx]
  rw [← hnx] at hl
  clear hnx
  have HA : Shut (MR w a ts lo hi) := ⟨ha⟩
  have HM : Shut (Marked k ss ts ss.length) := ⟨hm⟩
  clear ha hm
  go_enter Try.func27, Try.ntmps27
  go_wp2_with fail
  go_loopw [1, 5] (fun c i wr => ∃ (j : Nat), i = .int .i64 j ∧ c = .int .i64 (k + msum (ss.take j) : Nat) ∧ j ≤ n ∧ Below w.heap.size w wr) (fun _ i _ => n - (intOf i).toNat)
  case atStart => exact ⟨0, rfl, by simp [msum], Nat.zero_le _, Below.refl _ _⟩
  case round =>
    obtain ⟨j, rfl, rfl, hj, hbl⟩ := hrel
    by_cases hlt : j < n
    · have hlt' : j < ss.length := by have := HN.out; omega
      have hltt : j < ts.length := by rw [HM.out.len]; exact hlt'
      have j0 : (0 : Int) ≤ (j : Int) := by omega
      have j1 : (j : Int) < (n : Int) := by omega
      have HA' := HA.out.below hbl
      obtain ⟨b, off, rfl, lb, hc⟩ := HA'.at (by omega)
      have c0 := hc j hltt
      have hr := (HA'.2 ts[j] (List.getElem_mem hltt)).crow
      have hmt := msum_take ss j hlt'
      have hml := msum_le ss (j + 1)
      have s3 := (HM.out.same j hlt').2.2
      have hmk := HM.out.marks j hlt' hlt'
      rw [hmk] at hr
      unfold srv at c0
      rw [s3] at c0
      have hcall := heldIntS_marks ts[j].loc (k + msum (ss.take j)) ss[j].row.length ts[j].cap wr hr (by omega)
      generalize ts[j].cap = cp at *
      generalize ts[j].loc = loc at *
      generalize ss[j].row.length = m at *
      obtain ⟨kk, hkk⟩ : ∃ kk, kk = k + msum (ss.take j) := ⟨_, rfl⟩
      have HKK : Hid (k + msum (ss.take (j + 1)) = kk + m) := by show k + msum (ss.take (j + 1)) = kk + m; omega
      rw [← hkk] at hcall ⊢
      have HCALL : Hid (Calls Try.prog 60 #[.slice loc m cp, .int .i64 kk] wr fun e w' => e = .returned (.int .i64 (kk + m : Nat)) ∧ Below wr.heap.size wr w') := hcall
      have HB : Hid (Below w.heap.size w wr) := hbl
      have hpos : ¬ ((kk : Int) + (m : Int) < 0) := by omega
      clear hcall hkk hmt hml s3 hmk hr hc HA' hbl
      go_wp2_with fail
      refine HCALL.out.mono ?_
      rintro e w1 ⟨rfl, hb1⟩
      have HB1 : Hid (Below w.heap.size w w1) := HB.out.trans (hb1.mono HB.out.size)
      clear hb1
      go_wp2_with fail
      go_roundw
      case rel => exact ⟨j + 1, by go_num, congrArg (Value.int .i64) (by have := HKK.out; omega), by omega, HB1.out⟩
      case measure => simp [intOf]; omega
    · have e : j = n := by omega
      subst e
      have HS : Hid (msum (ss.take j) = msum ss) := by
        have : msum (ss.take j) = msum ss := by rw [List.take_of_length_le (by have := HN.out; omega)]
        exact this
      have HB : Hid (Below w.heap.size w wr) := hbl
      clear hbl
      go_wp2_with fail
      go_ret
      exact ⟨by rw [HS.out]; rfl, HB.out⟩
end Go.Proofs.Ytdlgailodhlbmaa
