/- The walks of the model's two steps on rows: a row so many times, and a row from which so many times another is taken. -/
import Derived.Test.YtdlgailodhlbmaaMatC
import Derived.Deep.AppendLies
namespace Go.Proofs.Ytdlgailodhlbmaa
open Go.RowKit
open W (B8 Mx)
attribute [local go_sem ↓] Go.wp_at_zero Go.wp_at_succ
attribute [local irreducible] W.gm W.xs W.mm

/-- A row so many times, and two rows summed so. -/
def timesL (t : B8) (row : List Int) : List Int := row.map fun x => ((W.gm t (g8 x)).toNat : Int)
def plusL (t : B8) (dst src : List Int) : List Int := (List.range dst.length).map fun k => ((g8 (dst.getD k 0) ^^^ W.gm t (g8 (src.getD k 0))).toNat : Int)
theorem timesL_len (t : B8) (row : List Int) : (timesL t row).length = row.length := by simp [timesL]
theorem plusL_len (t : B8) (dst src : List Int) : (plusL t dst src).length = dst.length := by simp [plusL]
/-- A new row. -/
def RowPost (row : List Int) (w : World) (e : Ending) (w' : World) : Prop := ∃ g cap, e = .returned (.slice (some ⟨g, 0, none⟩) row.length cap) ∧ w.heap.size ≤ g ∧ WCells w' g (ics row) ∧ row.length ≤ cap ∧ Below w.heap.size w w'
theorem ownsRow_one {W : World} {base : Nat} {e : TypeId} {size : Nat} {v : Value} {k : Nat} {xs : List Value} (h : W.ownsRow base e size v (k + 1) xs) : ∃ g cap, v = .slice (some ⟨g, 0, none⟩) (k + 1) cap := by
  rcases h.2 with ⟨_, h0⟩ | ⟨g, cap, _, rfl, _⟩
  · omega
  · exact ⟨g, cap, rfl⟩
theorem row_post {row : List Int} {w w' : World} {v : Value} {n : Nat} (hp : 0 < n) (hn : row.length = n) (hown : w'.ownsRow w.heap.size 3 1 v n (ics row)) (hb : Below w.heap.size w w') : RowPost row w (.returned v) w' := by
  obtain ⟨m, rfl⟩ : ∃ m, n = m + 1 := ⟨n - 1, by omega⟩
  obtain ⟨g, cap, rfl⟩ := ownsRow_one hown
  have hown2 := hown
  obtain ⟨_, ⟨h0, _⟩ | ⟨g', cap', cur, he, _, _, hc, _⟩⟩ := hown
  · cases h0
  · have e1 : cap' = cap := by simp at he; exact he.2.symm
    exact ⟨g, cap, by rw [hn], (hown2.lt g rfl).1, own_wcells hown2, by omega, hb⟩
set_option maxHeartbeats 1000000 in
theorem l06Times_any (loc : Option Addr) (row : List Int) (cp : Nat) (t : Int) (w : World) (hr : CRow w loc (ics row)) (hp : 0 < row.length) (hl : row.length ≤ 1000) :
    Calls Try.prog 75 #[.slice loc row.length cp, .int .i64 t] w fun e w' => RowPost (timesL (g8 t) row) w e w' := by
  obtain ⟨i1, hi1, hy0, hy1, hy2⟩ := info_parts infoIntG
  have HR : Hid (CRow w loc (ics row)) := hr
  obtain ⟨n, hn⟩ : ∃ n, n = row.length := ⟨_, rfl⟩
  have HN : Hid (n = row.length) := hn
  rw [← hn]
  rw [← hn] at hp hl
  clear hr hn
  go_enter Try.func75, Try.ntmps75
  go_wp2_with fail
  go_loopw [5, 6] (fun v i wr => ∃ (k : Nat) (vv : Value), vv = v ∧ i = .int .i64 k ∧ k ≤ n ∧ wr.ownsRow w.heap.size 3 1 vv k (ics (timesL (g8 t) (row.take k))) ∧ Below w.heap.size w wr) (fun _ i _ => n - (intOf i).toNat)
  case atStart => exact ⟨0, _, rfl, rfl, by omega, World.ownsRow_made w #[] 0 (Nat.le_refl _) (by decide) rfl, (Below.refl _ _).alloc (Nat.le_refl _) _⟩
  case round =>
    obtain ⟨k, v, rfl, rfl, hk, hown, hb⟩ := hrel
    have hB := hb.size
    by_cases hlt : k < n
    · have hkr : k < row.length := by have := HN.out; omega
      obtain ⟨b, off, rfl, lb, hc⟩ := crow_int (HR.out.stays hb) (by omega)
      have d0 := hc k hkr
      have k0 : (0 : Int) ≤ (k : Int) := by omega
      have k1 : (k : Int) < (n : Int) := by omega
      have hst : ics (timesL (g8 t) (row.take (k + 1))) = ics (timesL (g8 t) (row.take k)) ++ [.int .i64 ((W.gm (g8 t) (g8 (row.getD k 0))).toNat : Int)] := by
        have e : row[k] = row.getD k 0 := by simp [List.getD, hkr]
        rw [List.take_succ_eq_append_getElem hkr, e]
        simp [timesL, ics]
      have hmul := specMulG t (row.getD k 0)
      generalize row.getD k 0 = x at *
      generalize W.gm (g8 t) (g8 x) = G at *
      have HST : Hid (ics (timesL (g8 t) (row.take (k + 1))) = ics (timesL (g8 t) (row.take k)) ++ [.int .i64 (G.toNat : Int)]) := hst
      have HMUL : Hid (∀ w : World, Calls Try.prog 79 #[.int .i64 t, .int .i64 x] w fun e w' => e = .returned (.int .i64 (G.toNat : Int)) ∧ w' = w) := hmul
      clear hst hmul hc
      go_wp2_with fail
      refine (HMUL.out _).mono ?_
      rintro e w1 ⟨rfl, rfl⟩
      go_wp2_with (at_builtin; refine wpList_append_own _ rfl _ _ 32 rfl w.heap.size 3 i1 (.int .i64 0) 1 8 Try.underlying32 hi1 hy0 hy1 hy2 rfl (by decide) _ _ _ rfl (hown.alloc _) ⟨w1.heap.size, 0, none⟩ 1 1 [.int .i64 (G.toNat : Int)] rfl rfl (cell_one_new _ _ _) ?c2 ?c3 ?c4 ?c5 ?_)
      case c2 => first | rfl | (intro u hu; simp at hu; subst hu; rfl)
      case c3 => unfold maxLen; omega
      case c4 => omega
      case c5 => first | omega | (simp; omega)
      · intro v' w2 hown' hgrow _
        rw [← HST.out] at hown'
        have hb2 : Below w.heap.size w w2 := (hb.alloc hB _).grown hgrow (by simp; omega) (fun j hj => (hown.lt j hj).1)
        clear hgrow hown hb
        go_wp2_with fail
        go_roundw
        case rel => exact ⟨k + 1, v', rfl, by go_num, by omega, hown', hb2⟩
        case measure => simp [intOf]; omega
    · have e : k = n := by omega
      have hlt' : ¬ (k : Int) < (n : Int) := by omega
      have hfin : RowPost (timesL (g8 t) row) w (.returned v) wr := row_post (n := k) (by omega) (by rw [timesL_len]; have := HN.out; omega) (by
        have h := hown
        rw [List.take_of_length_le (by have := HN.out; omega)] at h
        exact h) hb
      clear hown hb e
      go_wp2_with fail
      go_ret
      exact hfin
end Go.Proofs.Ytdlgailodhlbmaa
