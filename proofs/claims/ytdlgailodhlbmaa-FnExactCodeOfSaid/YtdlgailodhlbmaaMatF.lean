/- The walk of the model's step on two rows: so many times a row is taken from another one. -/
import Derived.Test.YtdlgailodhlbmaaMatE
import Derived.Deep.RegionHeld3
import Derived.WalkKit
namespace Go.Proofs.Ytdlgailodhlbmaa
open Go.RowKit
open W (B8 Mx)
attribute [local go_sem ↓] Go.wp_at_zero Go.wp_at_succ
attribute [local irreducible] W.gm W.xs W.mm

theorem plusL_step (t : B8) (dst src : List Int) {k : Nat} (h : k < dst.length) : (plusL t dst src).take (k + 1) = (plusL t dst src).take k ++ [((g8 (dst.getD k 0) ^^^ W.gm t (g8 (src.getD k 0))).toNat : Int)] := by
  have hk : k < (plusL t dst src).length := by rw [plusL_len]; exact h
  rw [List.take_succ_eq_append_getElem hk]
  congr 2
  simp [plusL]
theorem g8_self {x : Int} (h0 : 0 ≤ x) (h1 : x ≤ 255) : ((g8 x).toNat : Int) = x := by rw [g8_nat]; omega
theorem kept_app {w w' : World} {o : Obj} {q : Option Nat} {a : Addr} {v : Value} (hg : (w.drew.alloc o).grownBy w' q) (hl : a.block < w.heap.size) (hq : q ≠ some a.block) (h : w.cell? a = some v) : w'.cell? a = some v := by
  have h1 : (w.drew.alloc o).cell? a = some v := ((((Below.refl w.heap.size w).drew).alloc (Nat.le_refl _) o).cell (p := a) hl).trans h
  have hl2 : a.block < (w.drew.alloc o).heap.size := by simp; omega
  exact (World.cell?_of_block (a := a) (hg.block a.block hl2 (fun e => hq e.symm))).trans h1
set_option maxHeartbeats 1000000 in
theorem l06Row_any (loc1 loc2 : Option Addr) (dst src : List Int) (c1 c2 : Nat) (t : Int) (w : World) (h1 : CRow w loc1 (ics dst)) (h2 : CRow w loc2 (ics src)) (hls : src.length = dst.length) (hp : 0 < dst.length) (hl : dst.length ≤ 1000) (hd : ∀ y ∈ dst, 0 ≤ y ∧ y ≤ 255) :
    Calls Try.prog 76 #[.slice loc1 dst.length c1, .slice loc2 src.length c2, .int .i64 t] w fun e w' => RowPost (plusL (g8 t) dst src) w e w' := by
  obtain ⟨i1, hi1, hy0, hy1, hy2⟩ := info_parts infoIntG
  have HR1 : Hid (CRow w loc1 (ics dst)) := h1
  have HR2 : Hid (CRow w loc2 (ics src)) := h2
  have HD : Hid (∀ y ∈ dst, 0 ≤ y ∧ y ≤ 255) := hd
  obtain ⟨n, hn⟩ : ∃ n, n = dst.length := ⟨_, rfl⟩
  have HN : Hid (n = dst.length ∧ n = src.length) := ⟨hn, by omega⟩
  rw [hls, ← hn]
  rw [← hn] at hp hl
  clear h1 h2 hn hd hls
  go_enter Try.func76, Try.ntmps76
  go_wp2_with fail
  go_loopw [7, 8] (fun v i wr => ∃ (k : Nat) (vv : Value), vv = v ∧ i = .int .i64 k ∧ k ≤ n ∧ wr.ownsRow w.heap.size 3 1 vv k (ics ((plusL (g8 t) dst src).take k)) ∧ Below w.heap.size w wr) (fun _ i _ => n - (intOf i).toNat)
  case atStart => exact ⟨0, _, rfl, rfl, by omega, World.ownsRow_made w #[] 0 (Nat.le_refl _) (by decide) rfl, (Below.refl _ _).alloc (Nat.le_refl _) _⟩
  case round =>
    obtain ⟨k, v, rfl, rfl, hk, hown, hb⟩ := hrel
    have hB := hb.size
    by_cases hlt : k < n
    · have hkd : k < dst.length := by have := HN.out; omega
      have hks : k < src.length := by have := HN.out; omega
      obtain ⟨b1, o1, rfl, l1, hc1⟩ := crow_int HR1.out (by omega)
      obtain ⟨b2, o2, rfl, l2, hc2⟩ := crow_int HR2.out (by omega)
      have d1 := (hb.cell (p := ⟨b1, o1 + k, none⟩) l1).trans (hc1 k hkd)
      have d2 := (hb.cell (p := ⟨b2, o2 + k, none⟩) l2).trans (hc2 k hks)
      have n1 : v.ownBlock ≠ some b1 := fun e => by have := (hown.lt _ e).1; omega
      have n2 : v.ownBlock ≠ some b2 := fun e => by have := (hown.lt _ e).1; omega
      have k0 : (0 : Int) ≤ (k : Int) := by omega
      have k1 : (k : Int) < (n : Int) := by omega
      have hst := congrArg ics (plusL_step (g8 t) dst src hkd)
      have hmul := specMulG t (src.getD k 0)
      have hx := HD.out (dst.getD k 0) (by simp [List.getD, hkd])
      have hxs := g8_self hx.1 hx.2
      generalize src.getD k 0 = y at *
      generalize dst.getD k 0 = x at *
      generalize W.gm (g8 t) (g8 y) = G at *
      have hxo := i64_xor8 (g8 x) G
      rw [hxs] at hxo
      generalize g8 x ^^^ G = S at *
      have HST : Hid (ics ((plusL (g8 t) dst src).take (k + 1)) = ics ((plusL (g8 t) dst src).take k) ++ [.int .i64 (S.toNat : Int)]) := hst.trans (by simp [ics])
      have HMUL : Hid (∀ w : World, Calls Try.prog 79 #[.int .i64 t, .int .i64 y] w fun e w' => e = .returned (.int .i64 (G.toNat : Int)) ∧ w' = w) := hmul
      have HB : Hid (Below w.heap.size w wr) := hb
      clear hst hmul hc1 hc2 hx hxs hb
      go_wp2_with fail
      have tokA : True := trivial
      go_region_held3 (fun w' => w'.cell? ⟨b1, o1 + k, none⟩ = some (.int .i64 x) ∧ w'.cell? ⟨b2, o2 + k, none⟩ = some (.int .i64 y))
        (first | assumption | (exact ⟨kept_app hgrow (Nat.lt_of_lt_of_le l1 hB) n1 d1, kept_app hgrow (Nat.lt_of_lt_of_le l2 hB) n2 d2⟩) | go_keep)
        (first
          | (go_at_call 79; have _t := tokA; refine (HMUL.out _).mono ?_; rintro e w9 ⟨rfl, rfl⟩; clear _t tokA)
          | ((fail_if_success (have _t := tokA)); refine step_append_lies _ (by rfl) _ _ _ (by rfl) w.heap.size 3 i1 _ 1 8 Try.underlying32 hi1 hy0 hy1 hy2 rfl (by omega) _ _ _ (by rfl) ((hown.drew).alloc _) ⟨wr.heap.size, 0, none⟩ 1 1 [.int .i64 (S.toNat : Int)] (by rfl) (by rfl) (World.news_of_block (cs := #[.int .i64 (S.toNat : Int)]) (t := 3) (fr := (0, 0)) (heap_alloc_new wr _)) (by simp [Value.oneCell']) (by omega) (by unfold maxLen; omega) (by omega) (by simp; omega) (wr.heap.size + 1) (by simp) ?_; intro gg cap1 w8 hown1 hgrow hat hlt'))
      all_goals go_wp2_with fail
      all_goals
        have hbn := ((HB.out.alloc hB _).drew).grown hgrow (by simp; omega) (fun j hj => (hown.lt j hj).1)
        exact ⟨⟨k + 1, _, rfl, by go_num, by omega, by rw [HST.out]; exact hown1, hbn⟩, by simp [intOf]; omega⟩
    · have e : k = n := by omega
      have hlt' : ¬ (k : Int) < (n : Int) := by omega
      have hfin : RowPost (plusL (g8 t) dst src) w (.returned v) wr := row_post (n := k) (by omega) (by rw [plusL_len]; have := HN.out; omega) (by
        have h := hown
        rw [List.take_of_length_le (by rw [plusL_len]; have := HN.out; omega)] at h
        exact h) hb
      clear hown hb e
      go_wp2_with fail
      go_ret
      exact hfin
end Go.Proofs.Ytdlgailodhlbmaa
