/- The walk of the model's OneM. -/
import Derived.Test.YtdlgailodhlbmaaNestF
import Derived.Test.YtdlgailodhlbmaaMatA
import Derived.Deep.CutRange
namespace Go.Proofs.Ytdlgailodhlbmaa
open Go.RowKit
attribute [local go_sem ↓] Go.wp_at_zero Go.wp_at_succ

/-- OneM, as it is answered. -/
def oneRow (n i : Nat) : List Int := (List.range n).map fun j => if i = j then 1 else 0
def oneX (n : Int) : List (List Int) := if 1 ≤ n ∧ n ≤ 8 then (List.range n.toNat).map (oneRow n.toNat) else []
theorem oneRow_len (n i : Nat) : (oneRow n i).length = n := by simp [oneRow]
theorem oneRow_set {n i : Nat} (_ : i < n) : (List.replicate n (0 : Int)).set i 1 = oneRow n i := by
  apply List.ext_getElem
  · simp [oneRow]
  · intro j h1 h2
    simp only [oneRow, List.getElem_map, List.getElem_range, List.getElem_set]
    by_cases e : i = j
    · rw [if_pos e, if_pos e]
    · rw [if_neg e, if_neg e]; simp
set_option maxRecDepth 100000 in
set_option maxHeartbeats 2000000 in
theorem specOneM (x : Int) (w : World) : Calls Try.prog 22 #[.int .i64 x] w fun e w' => MPost (oneX x) w e w' := by
  by_cases hx : 1 ≤ x ∧ x ≤ 8
  · obtain ⟨n, rfl⟩ := Int.eq_ofNat_of_zero_le (show 0 ≤ x by omega)
    have e0 : oneX (n : Int) = (List.range n).map (oneRow n) := by unfold oneX; rw [if_pos hx]; rfl
    rw [e0]
    have hn1 : 1 ≤ n := by omega
    have hn8 : n ≤ 8 := by omega
    have hin : (decide ((1 : Int) ≤ (n : Int)) && decide ((n : Int) ≤ 8)) = true := by simp; omega
    obtain ⟨i0, hi0, hz0, hz1, hz2⟩ := info_parts infoRow
    obtain ⟨i1, hi1, hy0, hy1, hy2⟩ := info_parts infoIntG
    clear hx e0
    go_enter Try.func22, Try.ntmps22
    go_wp2_with fail
    go_loopw [3, 4] (fun v i wr => ∃ (ts : List SR) (vv : Value), vv = v ∧ i = .int .i64 (ts.length : Nat) ∧ ts.length ≤ n ∧ Shut (rws ts = (List.range ts.length).map (oneRow n)) ∧ Shut (BI w wr vv ts)) (fun _ i _ => n - (intOf i).toNat)
    case atStart => exact ⟨[], _, rfl, rfl, by simp, ⟨rfl⟩, ⟨BI.start w (World.ownsRow_made w #[] 0 (Nat.le_refl _) (by decide) rfl) ((Below.refl _ _).alloc (Nat.le_refl _) _)⟩⟩
    case round =>
      obtain ⟨ts, v, rfl, rfl, hk, hr, hbi⟩ := hrel
      by_cases hlt : ts.length < n
      · have hlt' : (ts.length : Int) < (n : Int) := by omega
        have k0 : (0 : Int) ≤ (ts.length : Int) := by omega
        have hsz := hbi.out.bel.size
        go_wp2_with fail
        refine (lIn_is _ _ _ _ true hin).mono ?_
        rintro e w1 ⟨rfl, rfl⟩
        go_wp2_with (at_make; refine wpList_make_full _ rfl _ _ 32 rfl w1.heap.size 3 i1 _ 1 Try.underlying32 hi1 hy0 hy1 .i64 .i64 _ _ n rfl rfl (by omega) (by omega) ?b2 ?b3 ?b4 ?_)
        case b2 => rw [hy2]; omega
        case b3 => unfold maxLen; omega
        case b4 => omega
        intro wm hownm hgrm
        have hbm : Below w1.heap.size w1 wm := (Below.refl _ _).grown hgrm (Nat.le_refl _) (fun j hj => by simp at hj)
        have hrow : WCells wm w1.heap.size (ics (List.replicate n 0)) := by
          have h := own_wcells hownm
          have e : (madeCells #[Value.int .i64 0] (n * 1)).toList = ics (List.replicate n 0) := by rw [toList_madeCells_one]; simp [ics]
          rw [Nat.mul_one] at e
          first | (rw [e] at h; exact h) | (rw [Nat.mul_one, e] at h; exact h)
        obtain ⟨c0, z0⟩ := hrow.2 ts.length _ (ics_get _ ts.length (by simp; exact hlt))
        have hset := hrow.set ts.length (.int .i64 1) (by rw [ics_len]; simp; exact hlt)
        rw [ics_set, oneRow_set hlt] at hset
        have hbi1 := hbi.out.below hbm
        have hot : BI w (wm.setCell ⟨w1.heap.size, ts.length, none⟩ (.int .i64 1)) v ts := hbi1.other (gb_set' _ _ _ _) (Nat.le_refl w1.heap.size) (fun q hq => (hbi.out.own.lt q hq).2) (fun s hs b e => by obtain ⟨b', e', _, q, _⟩ := hbi.out.rows s hs; have : b' = b := congrArg Addr.block (Option.some.inj (e'.symm.trans e)); have := q.1; omega) hsz hbi1.bel.size
        have HROW : Shut (WCells (wm.setCell ⟨w1.heap.size, ts.length, none⟩ (.int .i64 1)) w1.heap.size (ics (oneRow n ts.length))) := ⟨hset⟩
        have HBI : Shut (BI w (wm.setCell ⟨w1.heap.size, ts.length, none⟩ (.int .i64 1)) v ts) := ⟨hot⟩
        have HNEW : Shut ((∀ q, v.ownBlock = some q → q ≠ w1.heap.size) ∧ ∀ s ∈ ts, s.loc ≠ some ⟨w1.heap.size, 0, none⟩) := ⟨fun q hq => by have := (hbi.out.own.lt q hq).2; omega, fun s hs e => by obtain ⟨b', e', _, q, _⟩ := hbi.out.rows s hs; have : b' = w1.heap.size := congrArg Addr.block (Option.some.inj (e'.symm.trans e)); have := q.1; omega⟩
        clear hset hot hrow hownm hgrm hbi hbi1
        go_upto_region 7 with fail
        obtain ⟨W2, hW2⟩ : ∃ W2, W2 = wm.setCell ⟨w1.heap.size, ts.length, none⟩ (.int .i64 1) := ⟨_, rfl⟩
        rw [← hW2]
        rw [← hW2] at HROW HBI
        have hs2 : w.heap.size ≤ W2.heap.size := HBI.out.bel.size
        have hown := HBI.out.own
        clear hW2 c0 z0 hbm
        go_wp2_with (at_builtin; refine wpList_append_own _ rfl _ _ 36 rfl w.heap.size 32 i0 (.slice none 0 0) 1 24 Try.underlying36 hi0 hz0 hz1 hz2 rfl (by decide) _ _ _ rfl (hown.alloc _) ⟨W2.heap.size, 0, none⟩ 1 1 [.slice (some ⟨w1.heap.size, 0, none⟩) n n] rfl rfl (cell_one_new _ _ _) ?c2 ?c3 ?c4 ?c5 ?_)
        case c2 => first | rfl | (intro u hu; simp at hu; subst hu; rfl)
        case c3 => unfold maxLen; omega
        case c4 => omega
        case c5 => first | omega | (simp; omega)
        · intro v' w6 hown' hgrow _
          have hne : oneRow n ts.length ≠ [] := fun e => by have := congrArg List.length e; rw [oneRow_len] at this; simp at this; omega
          have hap := HBI.out.append (cap := n) hsz HROW.out hne (by rw [oneRow_len]; exact Nat.le_refl _) HNEW.out.1 HNEW.out.2 (by rw [oneRow_len]; exact hown') hgrow
          have HAP : Shut (BI w w6 v' (ts ++ [SR.mk (some ⟨w1.heap.size, 0, none⟩) (oneRow n ts.length) n])) := ⟨hap⟩
          have HR : Shut (rws (ts ++ [SR.mk (some ⟨w1.heap.size, 0, none⟩) (oneRow n ts.length) n]) = (List.range (ts.length + 1)).map (oneRow n)) := ⟨by rw [rws_snoc, hr.out, List.range_succ, List.map_append]; rfl⟩
          clear hap hown' hgrow hown HBI HROW HNEW hr
          go_wp2_with fail
          go_roundw
          case rel => exact ⟨_, v', rfl, by rw [List.length_append, List.length_singleton]; go_num, by rw [List.length_append, List.length_singleton]; omega, ⟨by rw [List.length_append, List.length_singleton]; exact HR.out⟩, HAP⟩
          case measure => simp [intOf]; omega
      · have e : ts.length = n := by omega
        have hlt' : ¬ (ts.length : Int) < (n : Int) := by omega
        have hX : rws ts = (List.range n).map (oneRow n) := by rw [hr.out, e]
        have hfin := hbi.out.fin hX
        have HF : Shut (MAns wr v ((List.range n).map (oneRow n)) w.heap.size wr.heap.size) := ⟨hfin⟩
        have HB : Hid (Below w.heap.size w wr) := hbi.out.bel
        clear hX hfin hbi hr e
        go_wp2_with fail
        go_ret
        exact ⟨v, rfl, HF.out, HB.out⟩
  · have e0 : oneX x = [] := by unfold oneX; rw [if_neg hx]
    have hin : (decide ((1 : Int) ≤ x) && decide (x ≤ 8)) = false := by simp only [Bool.and_eq_false_iff, decide_eq_false_iff_not]; omega
    rw [e0]
    clear e0 hx
    go_enter Try.func22, Try.ntmps22
    go_wp2_with fail
    go_loopw [3, 4] (fun v i wr => v = .slice (some ⟨w.heap.size, 0, none⟩) 0 0 ∧ i = .int .i64 0 ∧ Below w.heap.size w wr) (fun _ _ _ => 0)
    case atStart => exact ⟨rfl, rfl, (Below.refl _ _).alloc (Nat.le_refl _) _⟩
    case round =>
      obtain ⟨rfl, rfl, hb⟩ := hrel
      have HB : Hid (Below w.heap.size w wr) := hb
      clear hb
      by_cases h0 : 0 < x
      · go_wp2_with fail
        refine (lIn_is _ _ _ _ false hin).mono ?_
        rintro e w1 ⟨rfl, rfl⟩
        go_wp2_with fail
        go_ret
        exact ⟨_, rfl, MAns.empty _ _ _ _ _, HB.out⟩
      · go_wp2_with fail
        go_ret
        exact ⟨_, rfl, MAns.empty _ _ _ _ _, HB.out⟩
end Go.Proofs.Ytdlgailodhlbmaa
