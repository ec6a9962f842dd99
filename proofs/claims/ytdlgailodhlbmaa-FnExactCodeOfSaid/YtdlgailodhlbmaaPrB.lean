/- The program's own addTimes: a row, so many times, is added to another one, in place. -/
import Derived.Test.YtdlgailodhlbmaaByA
import Derived.Test.YtdlgailodhlbmaaMatC
import Derived.Handy
namespace Go.Proofs.Ytdlgailodhlbmaa
open Go.RowKit
open W (B8)
attribute [local go_sem ↓] Go.wp_at_zero Go.wp_at_succ
attribute [local irreducible] W.gm W.xt W.gp W.gi

theorem gb_drew {w w' : World} {r : Option Nat} (h : w.grownBy w' r) : w.grownBy w'.drew r := by
  have hb := Below.drew (Below.refl w'.heap.size w')
  exact ⟨hb.os.trans h.os, hb.tape.trans h.tape, hb.output.trans h.output, Nat.le_trans h.size hb.size, fun k hk hr => (hb.block k (Nat.lt_of_lt_of_le hk h.size)).trans (h.block k hk hr)⟩
/-- A row of a sum that is under way: the first k numbers are there. -/
def plusK (t : B8) (xs ys : List B8) (k : Nat) : List B8 := (List.range xs.length).map fun c => if c < k then xs.getD c 0#8 ^^^ W.gm t (ys.getD c 0#8) else xs.getD c 0#8
def plusU (t : B8) (xs ys : List B8) : List B8 := plusK t xs ys xs.length
theorem plusK_len (t : B8) (xs ys : List B8) (k : Nat) : (plusK t xs ys k).length = xs.length := by simp [plusK]
theorem plusU_len (t : B8) (xs ys : List B8) : (plusU t xs ys).length = xs.length := plusK_len _ _ _ _
theorem plusK_0 (t : B8) (xs ys : List B8) : plusK t xs ys 0 = xs := by
  apply List.ext_getElem (by simp [plusK])
  intro i h1 h2
  simp [plusK, List.getD, h2]
theorem plusK_at {t : B8} {xs ys : List B8} {k c : Nat} (h : c < xs.length) : (plusK t xs ys k).getD c 0#8 = if c < k then xs.getD c 0#8 ^^^ W.gm t (ys.getD c 0#8) else xs.getD c 0#8 := by
  unfold plusK
  rw [List.getD_eq_getElem?_getD, List.getElem?_map, List.getElem?_range h]; rfl
theorem plusU_at {t : B8} {xs ys : List B8} {c : Nat} (h : c < xs.length) : (plusU t xs ys).getD c 0#8 = xs.getD c 0#8 ^^^ W.gm t (ys.getD c 0#8) := by
  unfold plusU; rw [plusK_at h, if_pos h]
theorem plusK_set {t : B8} {xs ys : List B8} {k : Nat} (_ : k < xs.length) : (plusK t xs ys k).set k (xs.getD k 0#8 ^^^ W.gm t (ys.getD k 0#8)) = plusK t xs ys (k + 1) := by
  apply List.ext_getElem (by simp [plusK])
  intro c h1 h2
  simp only [plusK, List.getElem_set, List.getElem_map, List.getElem_range]
  by_cases e : k = c
  · subst e; rw [if_pos rfl, if_pos (by omega)]
  · rw [if_neg e]
    by_cases h : c < k
    · rw [if_pos h, if_pos (by omega)]
    · rw [if_neg h, if_neg (by omega)]
def AddPost (t : B8) (xs ys : List B8) (b : Nat) (w : World) (e : Ending) (w' : World) : Prop := (∃ v, e = .returned v) ∧ WCells w' b (ucs (plusU t xs ys)) ∧ w.grownBy w' (some b)
set_option maxRecDepth 100000 in
set_option maxHeartbeats 2000000 in
theorem implAddTimes (t : B8) (xs ys : List B8) (b cs c o cr n : Nat) (w : World) (hs : WCells w b (ucs xs)) (hr : ∀ j, j < n → w.cell? ⟨c, o + j, none⟩ = some (.int .u8 ((ys.getD j 0#8).toNat : Int))) (hc : c < w.heap.size) (hne : c ≠ b) (hx : xs.length = n) (hl : n ≤ 1000) :
    Calls Try.prog 86 #[.slice (some ⟨b, 0, none⟩) n cs, .int .u8 (t.toNat : Int), .slice (some ⟨c, o, none⟩) n cr] w fun e w' => AddPost t xs ys b w e w' := by
  have HS := Shut.mk hs
  have HR := Shut.mk hr
  have HX : Hid (xs.length = n) := hx
  clear hs hr hx
  go_enter Try.func86, Try.ntmps86
  go_wp2_with fail
  go_loopw [9] (fun i wr => ∃ k : Nat, i = .int .i64 k ∧ k ≤ n ∧ Shut (WCells wr b (ucs (plusK t xs ys k))) ∧ Shut (w.grownBy wr (some b))) (fun i _ => n - (intOf i).toNat)
  case atStart => exact ⟨0, rfl, Nat.zero_le _, ⟨by rw [plusK_0]; exact HS.out⟩, ⟨⟨rfl, rfl, rfl, Nat.le_refl _, fun _ _ _ => rfl⟩⟩⟩
  case round =>
    obtain ⟨k, rfl, hk, hw, hg⟩ := hrel
    by_cases hlt : k < n
    · have k0 : (0 : Int) ≤ (k : Int) := by omega
      have k1 : (k : Int) < (n : Int) := by omega
      have hkx : k < xs.length := by have := HX.out; omega
      have hat := plusK_at (t := t) (xs := xs) (ys := ys) (k := k) hkx
      rw [if_neg (Nat.lt_irrefl k)] at hat
      obtain ⟨d0, z0⟩ := hw.out.2 k _ (ucs_get _ k (by rw [plusK_len]; exact hkx))
      rw [hat] at d0
      have d1 : wr.cell? ⟨c, o + k, none⟩ = some (.int .u8 ((ys.getD k 0#8).toNat : Int)) := by
        rw [← HR.out k hlt]
        exact World.cell?_of_block (a := ⟨c, o + k, none⟩) (hg.out.block c hc (by intro e; cases e; exact hne rfl))
      have hset := hw.out.set k (.int .u8 ((xs.getD k 0#8 ^^^ W.gm t (ys.getD k 0#8)).toNat : Int)) (by rw [ucs_len, plusK_len]; exact hkx)
      rw [ucs_set, plusK_set hkx] at hset
      have ht := implTimes t (ys.getD k 0#8)
      have hp := implPlus (xs.getD k 0#8) (W.gm t (ys.getD k 0#8))
      generalize xs.getD k 0#8 = x at *
      generalize ys.getD k 0#8 = y at *
      generalize W.gm t y = m at *
      generalize x ^^^ m = z at *
      have HW2 := Shut.mk hset
      have HG2 := Shut.mk (gb_two' hg.out (gb_set' wr b k (.int .u8 (z.toNat : Int))))
      have HT := Shut.mk ht
      have HP := Shut.mk hp
      clear hset hw hg hat ht hp
      go_wp2_with fail
      go_region_with (first | (go_at_call 78; refine (HT.out _).mono ?_; rintro e w9 ⟨rfl, rfl⟩) | (go_at_call 77; refine (HP.out _).mono ?_; rintro e w10 ⟨rfl, rfl⟩))
      all_goals go_wp2_with fail
      all_goals exact ⟨⟨k + 1, by go_num, by omega, ⟨HW2.out.drew⟩, ⟨gb_drew HG2.out⟩⟩, by simp [intOf]; omega⟩
    · have e : k = n := by omega
      have hlt' : ¬ (k : Int) < (n : Int) := by omega
      have HF : Shut (WCells wr b (ucs (plusU t xs ys))) := by unfold plusU; rw [HX.out, ← e]; exact hw
      clear e
      go_wp2_with fail
      go_returns
      exact ⟨⟨_, rfl⟩, HF.out, hg.out⟩
end Go.Proofs.Ytdlgailodhlbmaa
