/- The program's own ones. -/
import Derived.Test.YtdlgailodhlbmaaPrD
import Derived.Deep.CutRange
namespace Go.Proofs.Ytdlgailodhlbmaa
open Go.RowKit
open W (B8)
attribute [local go_sem ↓] Go.wp_at_zero Go.wp_at_succ
attribute [local irreducible] W.gm W.xt W.gp W.gi

def oneU (t : B8) (n i : Nat) : List B8 := (List.replicate n 0#8).set i t
def onesU (t : B8) (n : Nat) : List (List B8) := (List.range n).map (oneU t n)
theorem oneU_len (t : B8) (n i : Nat) : (oneU t n i).length = n := by simp [oneU]
theorem made_bytes {wm : World} {B n g : Nat} (hownm : wm.ownsRow B 71 1 (.slice (some ⟨g, 0, none⟩) n n) n (madeCells #[Value.int .u8 0] n).toList) : WCells wm g (ucs (List.replicate n 0#8)) := by
  have h := own_wcells hownm
  have e : (madeCells #[Value.int .u8 0] n).toList = ucs (List.replicate n 0#8) := by rw [toList_madeCells_one]; simp [ucs, u8v]
  rw [e] at h
  exact h
set_option maxRecDepth 100000 in
set_option maxHeartbeats 2000000 in
theorem implOnes (t : B8) (n : Nat) (w : World) (hn1 : 1 ≤ n) (hn8 : n ≤ 8) : Calls Try.prog 67 #[.int .i64 (n : Int), .int .u8 (t.toNat : Int)] w fun e w' => KPost (onesU t n) w e w' := by
  obtain ⟨i0, hi0, hz0, hz1, hz2⟩ := info_parts infoRowB
  obtain ⟨i1, hi1, hy0, hy1, hy2⟩ := info_parts infoB
  go_enter Try.func67, Try.ntmps67
  go_wp2_with fail
  go_loopw [5, 9] (fun v i wr => ∃ (ts : List KS) (vv : Value), vv = v ∧ i = .int .i64 (ts.length : Nat) ∧ ts.length ≤ n ∧ Shut (kws ts = (List.range ts.length).map (oneU t n)) ∧ Shut (KI w wr vv ts)) (fun _ i _ => n - (intOf i).toNat)
  case atStart => exact ⟨[], _, rfl, rfl, by simp, ⟨rfl⟩, ⟨KI.start w (World.ownsRow_nil _ _ _ _) (Below.refl _ _)⟩⟩
  case round =>
    obtain ⟨ts, v, rfl, rfl, hk, hr, hbi⟩ := hrel
    obtain ⟨w1, rfl⟩ : ∃ w1, w1 = wr := ⟨_, rfl⟩
    by_cases hlt : ts.length < n
    · have hlt' : (ts.length : Int) < (n : Int) := by omega
      have k0 : (0 : Int) ≤ (ts.length : Int) := by omega
      have hsz := hbi.out.bel.size
      go_wp2_with (at_make; refine wpList_make_full _ rfl _ _ 82 rfl w1.heap.size 71 i1 _ 1 Try.underlying82 hi1 hy0 hy1 .i64 .i64 _ _ n rfl rfl (by omega) (by omega) ?b2 ?b3 ?b4 ?_)
      case b2 => rw [hy2]; omega
      case b3 => unfold maxLen; omega
      case b4 => omega
      intro wm hownm hgrm
      have hbm : Below w1.heap.size w1 wm := (Below.refl _ _).grown hgrm (Nat.le_refl _) (fun j hj => by simp at hj)
      have hrow : WCells wm w1.heap.size (ucs (List.replicate n 0#8)) := made_bytes hownm
      obtain ⟨c0, z0⟩ := hrow.2 ts.length _ (ucs_get _ ts.length (by simp; exact hlt))
      have hset := hrow.set ts.length (.int .u8 (t.toNat : Int)) (by rw [ucs_len]; simp; exact hlt)
      rw [ucs_set, show (List.replicate n 0#8).set ts.length t = oneU t n ts.length from rfl] at hset
      have hbi1 := hbi.out.below hbm
      have hot : KI w (wm.setCell ⟨w1.heap.size, ts.length, none⟩ (.int .u8 (t.toNat : Int))) v ts := hbi1.other (gb_set' _ _ _ _) (Nat.le_refl w1.heap.size) (fun q hq => (hbi.out.own.lt q hq).2) (fun s hs b e => by obtain ⟨b', e', _, q, _⟩ := hbi.out.rows s hs; have : b' = b := congrArg Addr.block (Option.some.inj (e'.symm.trans e)); have := q.1; omega) hsz hbi1.bel.size
      have HROW := Shut.mk hset
      have HBI := Shut.mk hot
      have HNEW := Shut.mk (hbi.out.newrow (Below.refl _ _) (Nat.le_refl w1.heap.size)).2
      clear hset hot hrow hownm hgrm hbi hbi1
      go_upto_region 7 with fail
      obtain ⟨W2, hW2⟩ : ∃ W2, W2 = wm.setCell ⟨w1.heap.size, ts.length, none⟩ (.int .u8 (t.toNat : Int)) := ⟨_, rfl⟩
      rw [← hW2]
      rw [← hW2] at HROW HBI
      have hs2 : w.heap.size ≤ W2.heap.size := HBI.out.bel.size
      have hown := HBI.out.own
      clear hW2 c0 z0 hbm
      go_wp2_with (at_builtin; refine wpList_append_own _ rfl _ _ 67 rfl w.heap.size 82 i0 (.slice none 0 0) 1 24 Try.underlying67 hi0 hz0 hz1 hz2 rfl (by decide) _ _ _ rfl (hown.alloc _) ⟨W2.heap.size, 0, none⟩ 1 1 [.slice (some ⟨w1.heap.size, 0, none⟩) n n] rfl rfl (cell_one_new _ _ _) ?c2 ?c3 ?c4 ?c5 ?_)
      case c2 => first | rfl | (intro u hu; simp at hu; subst hu; rfl)
      case c3 => unfold maxLen; omega
      case c4 => omega
      case c5 => first | omega | (simp; omega)
      · intro v' w6 hown' hgrow _
        have hne : oneU t n ts.length ≠ [] := fun e => by have := congrArg List.length e; rw [oneU_len] at this; simp at this; omega
        have hap := HBI.out.append (cap := n) hsz HROW.out hne (by rw [oneU_len]; exact Nat.le_refl _) HNEW.out.1 HNEW.out.2 (by rw [oneU_len]; exact hown') hgrow
        have HAP := Shut.mk hap
        have HR : Shut (kws (ts ++ [KS.mk (some ⟨w1.heap.size, 0, none⟩) (oneU t n ts.length) n]) = (List.range (ts.length + 1)).map (oneU t n)) := ⟨by rw [kws_snoc, hr.out, List.range_succ, List.map_append]; rfl⟩
        clear hap hown' hgrow hown HBI HROW HNEW hr
        go_wp2_with fail
        go_roundw
        case rel => exact ⟨_, v', rfl, by rw [List.length_append, List.length_singleton]; go_num, by rw [List.length_append, List.length_singleton]; omega, ⟨by rw [List.length_append, List.length_singleton]; exact HR.out⟩, HAP⟩
        case measure => simp [intOf]; omega
    · have e : ts.length = n := by omega
      have hlt' : ¬ (ts.length : Int) < (n : Int) := by omega
      have HF := Shut.mk (hbi.out.fin (X := onesU t n) (by rw [hr.out, e]; rfl))
      have HB := Shut.mk hbi.out.bel
      clear hbi hr e
      go_wp2_with fail
      go_ret
      exact ⟨v, rfl, HF.out, HB.out⟩
end Go.Proofs.Ytdlgailodhlbmaa
