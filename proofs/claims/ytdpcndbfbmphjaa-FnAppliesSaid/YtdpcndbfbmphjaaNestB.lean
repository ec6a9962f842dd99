/- Rows of rows of numbers: the laws' own copies, sizes, comparisons and marks. -/
import Derived.Test.YtdpcndbfbmphjaaNestA
namespace Go.Proofs.Ytdpcndbfbmphjaa
open Go.RowKit
attribute [local go_sem ↓] Go.wp_at_zero Go.wp_at_succ

theorem infoRow : (Try.prog.info? 33).map (fun i => (i.zero, i.size, i.bytes)) = some (some (.slice none 0 0), 1, 24) := by kernel_rfl
/-- Where the copy of a row of rows stands. -/
structure TI (w wr : World) (ss : List SR) (ts : List SR) : Prop where
  rweq : rws ts = rws (ss.take ts.length)
  out : WCells wr w.heap.size (svs ts ++ List.replicate (ss.length - ts.length) (.slice none 0 0))
  rows : ∀ s ∈ ts, ∃ b, s.loc = some ⟨b, 0, none⟩ ∧ w.heap.size ≤ b ∧ b < wr.heap.size ∧ b ≠ w.heap.size ∧ WCells wr b (ics s.row) ∧ s.row.length ≤ s.cap
  apart : (ts.map SR.loc).Nodup
  bel : Below w.heap.size w wr
theorem set_mid (A B : List Value) (x y : Value) (k : Nat) (h : A.length = k) : (A ++ x :: B).set k y = A ++ y :: B := by
  subst h
  rw [List.set_append_right _ _ (Nat.le_refl _)]
  simp
theorem TI.next {w wr w1 : World} {ss ts : List SR} {g1 : Nat} {row : List Int} {n : Nat} (h : TI w wr ss ts) (hk : ts.length < ss.length) (hrow : (ss[ts.length]).row = row) (hn : n = row.length) (hw : w.heap.size < wr.heap.size)
    (hg1 : wr.heap.size ≤ g1) (hc : WCells w1 g1 (ics row)) (hb : Below wr.heap.size wr w1) : TI w (w1.setCell ⟨w.heap.size, ts.length, none⟩ (.slice (some ⟨g1, 0, none⟩) n n)) ss (ts ++ [SR.mk (some ⟨g1, 0, none⟩) row row.length]) := by
  subst hn
  have hne : g1 ≠ w.heap.size := by omega
  have hsz : (w1.setCell ⟨w.heap.size, ts.length, none⟩ (.slice (some ⟨g1, 0, none⟩) row.length row.length)).heap.size = w1.heap.size := by simp [World.setCell]
  have hgs : w1.grownBy (w1.setCell ⟨w.heap.size, ts.length, none⟩ (.slice (some ⟨g1, 0, none⟩) row.length row.length)) (some w.heap.size) := gb_set' _ _ _ _
  refine ⟨?_, ?_, ?_, ?_, ?_⟩
  · rw [rws_snoc, h.rweq, List.length_append, List.length_singleton, List.take_succ_eq_append_getElem hk, rws_snoc, hrow]
  · have o := (h.out.below hb h.out.1).set ts.length (.slice (some ⟨g1, 0, none⟩) row.length row.length) (by rw [List.length_append, svs_len, List.length_replicate]; omega)
    obtain ⟨m, hm⟩ : ∃ m, ss.length - ts.length = m + 1 := ⟨ss.length - ts.length - 1, by omega⟩
    rw [hm, List.replicate_succ, set_mid _ _ _ _ _ (svs_len ts)] at o
    have e : svs (ts ++ [SR.mk (some ⟨g1, 0, none⟩) row row.length]) ++ List.replicate (ss.length - (ts ++ [SR.mk (some ⟨g1, 0, none⟩) row row.length]).length) (.slice none 0 0) = svs ts ++ .slice (some ⟨g1, 0, none⟩) row.length row.length :: List.replicate m (.slice none 0 0) := by
      rw [List.length_append, List.length_singleton, show ss.length - (ts.length + 1) = m by omega]
      simp [svs, srv]
    rw [e]
    exact o
  · intro s hs
    rcases List.mem_append.1 hs with h1 | h1
    · obtain ⟨b, e, q1, q2, q3, q4, q5⟩ := h.rows s h1
      exact ⟨b, e, q1, by rw [hsz]; exact Nat.lt_of_lt_of_le q2 hb.size, q3, (q4.below hb q4.1).apart hgs q3, q5⟩
    · simp at h1
      subst h1
      exact ⟨g1, rfl, by omega, by rw [hsz]; exact hc.1, hne, hc.apart hgs hne, Nat.le_refl _⟩
  · rw [List.map_append, List.nodup_append]
    refine ⟨h.apart, by simp, fun l hl l' hl' => ?_⟩
    obtain ⟨s, hs, rfl⟩ := List.mem_map.1 hl
    simp only [List.map_cons, List.map_nil, List.mem_singleton] at hl'
    subst hl'
    obtain ⟨b, e, _, q2, _⟩ := h.rows s hs
    rw [e]
    intro e2
    have e4 : b = g1 := congrArg Addr.block (Option.some.inj e2)
    omega
  · exact (h.bel.trans (hb.mono h.bel.size)).setCell (p := ⟨w.heap.size, ts.length, none⟩) (Nat.le_refl _) _
theorem TI.fin {w wr : World} {ss ts : List SR} (h : TI w wr ss ts) (hl : ts.length = ss.length) : rws ts = rws ss ∧ MW wr w.heap.size ts w.heap.size wr.heap.size := by
  refine ⟨by rw [h.rweq, hl, List.take_of_length_le (Nat.le_refl _)], ?_, Nat.le_refl _, h.out.1, h.rows, h.apart⟩
  have := h.out
  rwa [hl, Nat.sub_self, List.replicate_zero, List.append_nil] at this
/-- What a copy of a row of rows is. -/
def ToRows (ss : List SR) (w : World) (e : Ending) (w' : World) : Prop :=
  ∃ g ts, e = .returned (.slice (some ⟨g, 0, none⟩) ss.length ss.length) ∧ List.length (α := SR) ts = ss.length ∧ rws ts = rws ss ∧ MW w' g ts w.heap.size w'.heap.size ∧ Below w.heap.size w w'
set_option maxHeartbeats 1000000 in
theorem toIntSS_any (a : Option Addr) (ss : List SR) (cap : Nat) (w : World) (lo hi : Nat) (hr : MR w a ss lo hi) (hl : ss.length ≤ 1048576) (hrl : ∀ s ∈ ss, s.row.length ≤ 1048576) :
    Calls Try.prog 26 #[.slice a ss.length cap] w fun e w' => ToRows ss w e w' := by
  obtain ⟨i0, hi0, hz0, hz1, hz2⟩ := info_parts infoRow
  have HR : Hid (MR w a ss lo hi) := hr
  have HRL : Hid (∀ s ∈ ss, s.row.length ≤ 1048576) := hrl
  clear hr hrl
  go_enter Try.func26, Try.ntmps26
  go_wp2_with (at_make; refine wpList_make_full _ rfl _ _ 24 rfl w.heap.size 33 i0 _ 1 Try.underlying24 hi0 hz0 hz1 .i64 .i64 _ _ ss.length rfl rfl (by omega) (by omega) ?b2 ?b3 ?b4 ?_)
  case b2 => rw [hz2]; omega
  case b3 => unfold maxLen; omega
  case b4 => omega
  intro wm hownm hgrm
  have hbm : Below w.heap.size w wm := (Below.refl _ _).grown hgrm (Nat.le_refl _) (fun j hj => by simp at hj)
  have hrow : WCells wm w.heap.size (List.replicate ss.length (.slice none 0 0)) := by
    have h := own_wcells hownm
    have e : (madeCells #[Value.slice none 0 0] (ss.length * 1)).toList = List.replicate ss.length (.slice none 0 0) := by rw [toList_madeCells_one]; simp
    rw [Nat.mul_one] at e
    first | (rw [e] at h; exact h) | (rw [Nat.mul_one, e] at h; exact h)
  have HTI : Shut (TI w wm ss []) := ⟨⟨rfl, by simpa [svs] using hrow, by simp, List.nodup_nil, hbm⟩⟩
  have hsm : w.heap.size < wm.heap.size := hrow.1
  clear hownm hgrm hrow hbm
  go_wp2_with fail
  go_loopw [4] (fun i wr => ∃ (ts : List SR), i = .int .i64 (ts.length : Nat) ∧ ts.length ≤ ss.length ∧ Shut (TI w wr ss ts) ∧ w.heap.size < wr.heap.size) (fun i _ => ss.length - (intOf i).toNat)
  case atStart => exact ⟨[], rfl, by simp, HTI, hsm⟩
  case round =>
    clear HTI hsm
    obtain ⟨ts, rfl, hk, hti, hsw⟩ := hrel
    by_cases hlt : ts.length < ss.length
    · obtain ⟨b, off, rfl, lb, hc⟩ := HR.out.at (by omega)
      have d0 := hc ts.length hlt
      rw [← hti.out.bel.cell (p := ⟨b, off + ts.length, none⟩) lb] at d0
      have hcr := (HR.out.2 ss[ts.length] (List.getElem_mem hlt)).crow.stays hti.out.bel
      have hlen := HRL.out ss[ts.length] (List.getElem_mem hlt)
      obtain ⟨sr, hsr⟩ : ∃ sr, sr = ss[ts.length] := ⟨_, rfl⟩
      rw [← hsr] at d0 hcr hlen
      have hsr2 : (ss[ts.length]).row = sr.row := by rw [hsr]
      have HSR : Hid ((ss[ts.length]).row = sr.row) := hsr2
      clear hsr hsr2 hc
      obtain ⟨loc, row, cp⟩ := sr
      simp only [srv] at d0 hcr hlen HSR
      have k0 : (0 : Int) ≤ (ts.length : Int) := by omega
      have k1 : (ts.length : Int) < (ss.length : Int) := by omega
      have HCR : Hid (CRow wr loc (ics row)) := hcr
      clear hcr
      obtain ⟨k, hkk⟩ : ∃ k, k = ts.length := ⟨_, rfl⟩
      have HK : Hid (k = ts.length) := hkk
      rw [← hkk] at d0 k0 k1 ⊢
      clear hkk
      go_wp2_with fail
      refine (toIntS_any loc row cp _ HCR.out hlen).mono ?_
      rintro e w1 ⟨g1, rfl, hg1, hw1, hb1⟩
      have hnx := hti.out.next hlt HSR.out rfl hsw hg1 hw1 hb1
      rw [← HK.out] at hnx
      obtain ⟨c0, z0⟩ := (hti.out.out.below hb1 hti.out.out.1).2 k (.slice none 0 0) (by
        rw [HK.out, List.getElem?_append_right (by rw [svs_len]; exact Nat.le_refl _), svs_len, Nat.sub_self, List.getElem?_replicate, if_pos (by omega)])
      have HNX : Shut (TI w (w1.setCell ⟨w.heap.size, k, none⟩ (.slice (some ⟨g1, 0, none⟩) row.length row.length)) ss (ts ++ [SR.mk (some ⟨g1, 0, none⟩) row row.length])) := ⟨hnx⟩
      have hs1 := hb1.size
      clear hnx hti hw1 hb1
      go_wp2_with fail
      go_roundw
      case rel => exact ⟨ts ++ [SR.mk (some ⟨g1, 0, none⟩) row row.length], by rw [List.length_append, List.length_singleton, ← HK.out]; go_num, by rw [List.length_append, List.length_singleton]; omega, HNX, by simp [World.setCell]; omega⟩
      case measure => simp [intOf]; omega
    · have hf := hti.out.fin (by omega)
      have HBL : Hid (Below w.heap.size w wr) := hti.out.bel
      have HF : Hid _ := hf
      clear hf hti
      go_wp2_with fail
      go_ret
      exact ⟨_, ts, rfl, by omega, HF.out.1, HF.out.2, HBL.out⟩
/-- The size of rows of numbers, as the laws count it. -/
def msum : List SR → Nat
  | [] => 0
  | s :: ss => s.row.length + msum ss
theorem msum_take (ss : List SR) (k : Nat) (h : k < ss.length) : msum (ss.take (k + 1)) = msum (ss.take k) + ss[k].row.length := by
  induction ss generalizing k with
  | nil => simp at h
  | cons s ss ih =>
    cases k with
    | zero => simp [msum]
    | succ k =>
      have := ih k (by simpa using h)
      simp only [List.take_succ_cons, msum, this, List.getElem_cons_succ]
      omega
theorem msum_le (ss : List SR) (k : Nat) : msum (ss.take k) ≤ msum ss := by
  induction ss generalizing k with
  | nil => simp [msum]
  | cons s ss ih =>
    cases k with
    | zero => simp [msum]
    | succ k => have := ih k; simp only [List.take_succ_cons, msum]; omega
theorem msum_mem {ss : List SR} {s : SR} (h : s ∈ ss) : s.row.length ≤ msum ss := by
  induction ss with
  | nil => simp at h
  | cons t ss ih =>
    rcases List.mem_cons.1 h with rfl | h
    · simp only [msum]; omega
    · have := ih h; simp only [msum]; omega
theorem szIntS_any (a : Option Addr) (n cap : Nat) (left : Int) (w : World) (h0 : 0 ≤ left) (h1 : left ≤ 1048576) (hn : n ≤ 9223372036854775807) :
    Calls Try.prog 55 #[.slice a n cap, .int .i64 left] w fun e w' => e = .returned (.int .i64 (if (n : Int) ≤ left then left - n else -1)) ∧ w' = w := by
  have hw : IntKind.i64.wrap (left - (n : Int)) = left - (n : Int) := IntWalk.i64_in _ ⟨by omega, by omega⟩
  by_cases h : (n : Int) ≤ left
  · rw [if_pos h]
    have h' : ¬ left - (n : Int) < 0 := by omega
    go_enter Try.func55, Try.ntmps55
    go_wp2_with fail
    go_ret
    exact ⟨rfl, rfl⟩
  · rw [if_neg h]
    have h' : left - (n : Int) < 0 := by omega
    go_enter Try.func55, Try.ntmps55
    go_wp2_with fail
    go_ret
    exact ⟨rfl, rfl⟩
/-- What is left of the room: or a number below 0. -/
def SzRows (left : Int) (n : Nat) (w : World) (e : Ending) (w' : World) : Prop := ∃ r : Int, e = .returned (.int .i64 r) ∧ w' = w ∧ ((n : Int) ≤ left → r = left - n) ∧ (left < n → r < 0)
set_option maxHeartbeats 1000000 in
theorem szIntSS_any (a : Option Addr) (ss : List SR) (cap : Nat) (left : Int) (w : World) (lo hi : Nat) (hr : MR w a ss lo hi) (h0 : 0 ≤ left) (h1 : left ≤ 1048576) (hl : ss.length ≤ 9223372036854775807) (hrl : ∀ s ∈ ss, s.row.length ≤ 9223372036854775807) :
    Calls Try.prog 24 #[.slice a ss.length cap, .int .i64 left] w fun e w' => SzRows left (ss.length + msum ss) w e w' := by
  have hw : IntKind.i64.wrap (left - (ss.length : Int)) = left - (ss.length : Int) := IntWalk.i64_in _ ⟨by omega, by omega⟩
  have HRL : Hid (∀ s ∈ ss, s.row.length ≤ 9223372036854775807) := hrl
  clear hrl
  by_cases h : (ss.length : Int) ≤ left
  · have h' : ¬ left - (ss.length : Int) < 0 := by omega
    go_enter Try.func24, Try.ntmps24
    go_wp2_with fail
    go_loopw [1, 5] (fun c i wr => ∃ (k : Nat) (r : Int), i = .int .i64 k ∧ c = .int .i64 r ∧ k ≤ ss.length ∧ r = left - ss.length - msum (ss.take k) ∧ 0 ≤ r ∧ wr = w) (fun _ i _ => ss.length - (intOf i).toNat)
    case atStart => exact ⟨0, left - ss.length, rfl, rfl, by omega, by simp [msum], by omega, rfl⟩
    case round =>
      obtain ⟨k, r, rfl, rfl, hk, hre, hr0, rfl⟩ := hrel
      have HRE : Hid _ := hre
      have hr1 : r ≤ 1048576 := by omega
      clear hre
      by_cases hlt : k < ss.length
      · obtain ⟨b, off, rfl, lb, hc⟩ := hr.at (by omega)
        have d0 := hc k hlt
        have hlen := HRL.out ss[k] (List.getElem_mem hlt)
        have hmt := msum_take ss k hlt
        have hml := msum_le ss (k + 1)
        obtain ⟨sr, hsr⟩ : ∃ sr, sr = ss[k] := ⟨_, rfl⟩
        rw [← hsr] at d0 hlen hmt
        clear hsr hc
        obtain ⟨loc, row, cp⟩ := sr
        simp only [srv] at d0 hlen hmt
        have k0 : (0 : Int) ≤ (k : Int) := by omega
        have k1 : (k : Int) < (ss.length : Int) := by omega
        generalize row.length = m at *
        have HMT : Hid (msum (ss.take (k + 1)) = msum (ss.take k) + m ∧ msum (ss.take (k + 1)) ≤ msum ss) := ⟨hmt, hml⟩
        have hsz := fun W => szIntS_any loc m cp r W hr0 hr1 hlen
        clear hmt hml
        by_cases hfit : (m : Int) ≤ r
        · rw [if_pos hfit] at hsz
          have hneg : ¬ r - (m : Int) < 0 := by omega
          have HSZ : Hid (∀ W : World, Calls Try.prog 55 #[.slice loc m cp, .int .i64 r] W fun e w' => e = .returned (.int .i64 (r - m)) ∧ w' = W) := hsz
          clear hsz
          go_wp2_with fail
          refine (HSZ.out _).mono ?_
          rintro e w1 ⟨rfl, rfl⟩
          go_wp2_with fail
          go_roundw
          case rel => exact ⟨k + 1, r - m, by go_num, rfl, by omega, by have := HRE.out; have := HMT.out.1; omega, by omega, by trivial⟩
          case measure => simp [intOf]; omega
        · rw [if_neg hfit] at hsz
          have HSZ : Hid (∀ W : World, Calls Try.prog 55 #[.slice loc m cp, .int .i64 r] W fun e w' => e = .returned (.int .i64 (-1)) ∧ w' = W) := hsz
          clear hsz
          go_wp2_with fail
          refine (HSZ.out _).mono ?_
          rintro e w1 ⟨rfl, rfl⟩
          go_wp2_with fail
          go_ret
          refine ⟨-1, rfl, rfl, fun hf => ?_, fun _ => by omega⟩
          have := HRE.out
          have := HMT.out
          omega
      · have hk2 : k = ss.length := by omega
        have HKK : Hid (msum (ss.take k) = msum ss) := by
          have : msum (ss.take k) = msum ss := by rw [List.take_of_length_le (by omega)]
          exact this
        clear hk2
        go_wp2_with fail
        go_ret
        exact ⟨r, rfl, rfl, fun _ => by have := HRE.out; have := HKK.out; omega, fun _ => by have := HRE.out; have := HKK.out; omega⟩
  · have h' : left - (ss.length : Int) < 0 := by omega
    go_enter Try.func24, Try.ntmps24
    go_wp2_with fail
    go_ret
    exact ⟨-1, rfl, rfl, fun hf => by omega, fun _ => by omega⟩
end Go.Proofs.Ytdpcndbfbmphjaa
