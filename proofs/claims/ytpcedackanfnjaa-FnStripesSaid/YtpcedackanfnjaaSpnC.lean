/- The walks of the models' CutUnits and JoinUnits. -/
import Derived.Test.YtpcedackanfnjaaSpnB
import Derived.Test.YtpcedackanfnjaaStrV
namespace Go.Proofs.Ytpcedackanfnjaa
open Go.RowKit
attribute [local go_sem ↓] Go.wp_at_zero Go.wp_at_succ

/-- The bytes of a text that lie in a unit, in their order. -/
def unitB (k : Nat) (t : ByteArray) (n u : Nat) : ByteArray := ⟨(((List.range n).filter fun j => decide (unitAt k j = u)).map fun j => t.data.toList.getD j 0).toArray⟩
def cutL (k : Nat) (t : ByteArray) (n : Nat) : List ByteArray := (List.range k).map (unitB k t n)
def cutX (s : Int) (t : ByteArray) : List ByteArray × Bool := if schOk s = true ∧ t.size ≤ groupN s then (cutL (schK s) t t.size, true) else ([], false)
theorem cutL_len (k : Nat) (t : ByteArray) (n : Nat) : (cutL k t n).length = k := by simp [cutL]
theorem cutL_at {k : Nat} {t : ByteArray} {n u : Nat} (h : u < k) : (cutL k t n).getD u ⟨#[]⟩ = unitB k t n u := by
  unfold cutL
  rw [List.getD_eq_getElem?_getD, List.getElem?_map, List.getElem?_range h]; rfl
theorem unit_lt {k : Nat} (h : 0 < k) (i : Nat) : unitAt k i < k := Nat.mod_lt _ h
def byteB (c : UInt8) : ByteArray := ⟨#[c]⟩
theorem unitB_same {k : Nat} {t : ByteArray} {i u : Nat} (h : unitAt k i = u) : unitB k t (i + 1) u = ⟨(unitB k t i u).data ++ (byteB (t.data.toList.getD i 0)).data⟩ := by
  unfold unitB byteB
  rw [List.range_succ, List.filter_append]
  simp [h]
theorem unitB_other {k : Nat} {t : ByteArray} {i u : Nat} (h : unitAt k i ≠ u) : unitB k t (i + 1) u = unitB k t i u := by
  unfold unitB
  rw [List.range_succ, List.filter_append]
  simp [h]
theorem cutL_step {k : Nat} (hk : 0 < k) (t : ByteArray) (i : Nat) : (cutL k t i).set (unitAt k i) ⟨((cutL k t i).getD (unitAt k i) ⟨#[]⟩).data ++ (byteB (t.data.toList.getD i 0)).data⟩ = cutL k t (i + 1) := by
  rw [cutL_at (unit_lt hk i), ← unitB_same rfl]
  apply List.ext_getElem (by simp [cutL])
  intro u h1 h2
  rw [List.getElem_set]
  have hu : u < k := by simpa [cutL] using h2
  simp only [cutL, List.getElem_map, List.getElem_range]
  by_cases e : unitAt k i = u
  · rw [if_pos e, e]
  · rw [if_neg e, unitB_other e]
theorem cutL_0 (k : Nat) (t : ByteArray) : cutL k t 0 = List.replicate k ⟨#[]⟩ := by
  apply List.ext_getElem (by simp [cutL])
  intro u h1 h2
  simp [cutL, unitB]
theorem byte_is {t : ByteArray} {i : Nat} (h : i < t.size) : t.extract i (i + 1) = byteB (t.data.toList.getD i 0) := by
  apply ByteArray.ext
  have h' : i < t.data.size := h
  simp only [byteB, ByteArray.data_extract]
  apply Array.ext
  · simp; omega
  · intro j h1 h2
    have hj : j = 0 := by simp at h2; omega
    subst hj
    simp
    rw [Array.getElem?_eq_getElem h', Option.getD_some]
theorem byte_size {t : ByteArray} {i : Nat} (h : i < t.size) : (t.extract i (i + 1)).size = 1 := by rw [byte_is h]; rfl
theorem byte_cat {x : ByteArray} {t : ByteArray} {i : Nat} (h : i < t.size) : x ++ t.extract i (i + 1) = ⟨x.data ++ (byteB (t.data.toList.getD i 0)).data⟩ := by
  rw [byte_is h]
  apply ByteArray.ext
  simp
theorem unitB_size (k : Nat) (t : ByteArray) (n u : Nat) : (unitB k t n u).size ≤ n := by
  have h := List.length_filter_le (fun j => decide (unitAt k j = u)) (List.range n)
  simp only [List.length_range] at h
  show (List.map _ _).toArray.size ≤ n
  rw [List.size_toArray, List.length_map]
  exact h
theorem WCells.drawn {w : World} {g : Nat} {L : List Value} (h : WCells w g L) : WCells w.drew g L := h.below (Below.drew (Below.refl w.heap.size w)) h.1
/-- What such an answer is. -/
def TPost8 (R : List ByteArray × Bool) (w : World) (e : Ending) (w' : World) : Prop := ∃ v, e = .returned (.tuple #[v, .bool R.2]) ∧ SAns w' v R.1 w.heap.size w'.heap.size ∧ Below w.heap.size w w'
set_option maxRecDepth 100000 in
set_option maxHeartbeats 2000000 in
theorem specCutUnits (s : Int) (t : ByteArray) (w : World) (hts : t.size ≤ 9223372036854775807) : Calls Try.prog 23 #[.int .i64 s, .string t] w fun e w' => TPost8 (cutX s t) w e w' := by
  obtain ⟨i0, hi0, hz0, hz1, hz2⟩ := info_parts infoTextG
  have HS := Shut.mk (fun W => specSchema s W)
  unfold SchPost at HS
  have HG := Shut.mk (fun W => specGroupSize s W)
  have hg32 := groupN_bounds s
  cases h : schOk s with
  | false =>
    have e0 : cutX s t = ([], false) := by unfold cutX; rw [if_neg (fun q => by rw [h] at q; cases q.1)]
    unfold TPost8
    rw [e0]
    rw [h] at HS
    clear h e0 hg32
    generalize schK s = k at *
    generalize schM s = m at *
    go_enter Try.func23, Try.ntmps23
    go_wp2_with fail
    refine (HS.out _).mono ?_
    rintro e w1 ⟨rfl, rfl⟩
    go_wp2_with fail
    go_ret2
    exact ⟨_, rfl, SAns.empty _ _ _ _ _, (Below.refl _ _).alloc (Nat.le_refl _) _⟩
  | true =>
    rw [h] at HS
    obtain ⟨b1, b2, _, _⟩ := sch_bounds h
    by_cases hz : t.size ≤ groupN s
    · have e0 : cutX s t = (cutL (schK s) t t.size, true) := by unfold cutX; rw [if_pos ⟨h, hz⟩]
      have HPL := Shut.mk (fun (i : Nat) (hi : i < t.size) W => specPlaceOf s (i : Int) W)
      have hpx : ∀ i : Nat, i < t.size → placeX s (i : Int) = (i / (schK s * 8), unitAt (schK s) i, placeIn (schK s) i) := fun i hi => by
        unfold placeX; rw [if_pos ⟨h, by omega, by omega⟩]; rfl
      have HPX := Shut.mk hpx
      unfold TPost8
      rw [e0]
      have hz' : ¬ (groupN s : Int) < (t.size : Int) := by omega
      clear h e0 hpx
      generalize schM s = m at *
      obtain ⟨k, hk⟩ : ∃ k, k = schK s := ⟨_, rfl⟩
      rw [← hk] at HS HPX b1 b2 ⊢
      generalize groupN s = S at *
      clear hk
      go_enter Try.func23, Try.ntmps23
      go_wp2_with fail
      refine (HS.out _).mono ?_
      rintro e w1 ⟨rfl, rfl⟩
      go_wp2_with fail
      refine (HG.out _).mono ?_
      rintro e w2 ⟨rfl, rfl⟩
      go_wp2_with (at_make; refine wpList_make_full _ rfl _ _ 33 rfl w2.heap.size 9 i0 _ 1 Try.underlying33 hi0 hz0 hz1 .i64 .i64 _ _ k rfl rfl (by omega) (by omega) ?b2 ?b3 ?b4 ?_)
      case b2 => rw [hz2]; omega
      case b3 => unfold maxLen; omega
      case b4 => omega
      intro wm hownm hgrm
      have hbm : Below w2.heap.size w2 wm := (Below.refl _ _).grown hgrm (Nat.le_refl _) (fun j hj => by simp at hj)
      have hrow : WCells wm w2.heap.size (tv (cutL k t 0)) := by
        have h := own_wcells hownm
        have e : (madeCells #[Value.string ⟨#[]⟩] k).toList = tv (cutL k t 0) := by rw [toList_madeCells_one, cutL_0]; simp [tv]
        rw [e] at h
        exact h
      have HROW := Shut.mk hrow
      have HBM := Shut.mk hbm
      clear hownm hgrm hrow hbm
      go_wp2_with fail
      go_loopw [10] (fun ii wr => ∃ i : Nat, ii = .int .i64 (i : Nat) ∧ i ≤ t.size ∧ Shut (WCells wr w2.heap.size (tv (cutL k t i))) ∧ Shut (Below w2.heap.size w2 wr)) (fun ii _ => t.size - (intOf ii).toNat)
      case atStart => exact ⟨0, rfl, Nat.zero_le _, HROW, HBM⟩
      case round =>
        clear HROW HBM
        obtain ⟨i, rfl, hin, hrow, hbo⟩ := hrel
        obtain ⟨wo, rfl⟩ : ∃ wo, wo = wr := ⟨_, rfl⟩
        by_cases hlt : i < t.size
        · have hlt' : (i : Int) < (t.size : Int) := by omega
          have i0' : (0 : Int) ≤ (i : Int) := by omega
          have HP1 := Shut.mk (HPL.out i hlt)
          unfold PlacePost at HP1
          rw [HPX.out i hlt] at HP1
          have hul := unit_lt (show 0 < k by omega) i
          have hst : (cutL k t i).set (unitAt k i) ((cutL k t i).getD (unitAt k i) ⟨#[]⟩ ++ t.extract i (i + 1)) = cutL k t (i + 1) := by rw [byte_cat hlt]; exact cutL_step (by omega) t i
          have HCL := Shut.mk (fun (w5 : World) (hw5 : WCells w5 w2.heap.size (tv (cutL k t i))) => hw5.2 (unitAt k i) _ (tv_get _ (unitAt k i) (by rw [cutL_len]; exact hul)))
          have HST := Shut.mk (fun (w5 : World) (hw5 : WCells w5 w2.heap.size (tv (cutL k t i))) => by
            have q := hw5.set (unitAt k i) (.string ((cutL k t i).getD (unitAt k i) ⟨#[]⟩ ++ t.extract i (i + 1))) (by rw [tv_len, cutL_len]; exact hul)
            rw [tv_set, hst] at q
            exact q)
          have hxs : ((cutL k t i).getD (unitAt k i) ⟨#[]⟩).size ≤ 32 := by rw [cutL_at hul]; exact Nat.le_trans (unitB_size k t i _) (by omega)
          have hys := byte_size hlt
          clear hst
          generalize (cutL k t i).getD (unitAt k i) ⟨#[]⟩ = x at *
          generalize unitAt k i = u at *
          generalize placeIn k i = pl at *
          generalize i / (k * 8) = gq at *
          go_wp2_with fail
          refine (HP1.out _).mono ?_
          rintro e w5 ⟨rfl, hb5⟩
          have hrow5 := hrow.out.below hb5 hrow.out.1
          obtain ⟨c0, z0⟩ := HCL.out w5 hrow5
          have HS5 := Shut.mk (HST.out w5 hrow5)
          have HB5 := Shut.mk (hbo.out.trans (hb5.mono hbo.out.size))
          have u0 : (0 : Int) ≤ (u : Int) := by omega
          have u1 : (u : Int) < (k : Int) := by omega
          clear hb5 hrow5 hrow hbo HCL HST HP1
          go_wp2_with fail
          go_region
          all_goals go_wp2_with fail
          all_goals exact ⟨⟨i + 1, by go_num, by omega, ⟨HS5.out.drawn⟩, ⟨Below.drew (HB5.out.setCell (p := ⟨w2.heap.size, u, none⟩) (Nat.le_refl _) _)⟩⟩, by simp [intOf]; omega⟩
        · have e : i = t.size := by omega
          subst e
          have hlt' : ¬ (t.size : Int) < (t.size : Int) := by omega
          have HF : Shut (SAns wo (.slice (some ⟨w2.heap.size, 0, none⟩) k k) (cutL k t t.size) w2.heap.size wo.heap.size) := ⟨⟨_, k, by rw [cutL_len], by rw [cutL_len]; exact Nat.le_refl _, .inr ⟨_, rfl, Nat.le_refl _, hrow.out.1, hrow.out⟩⟩⟩
          clear hrow
          go_wp2_with fail
          go_ret2
          exact ⟨_, rfl, HF.out, hbo.out⟩
    · have e0 : cutX s t = ([], false) := by unfold cutX; rw [if_neg (fun q => hz q.2)]
      unfold TPost8
      rw [e0]
      have hz' : (groupN s : Int) < (t.size : Int) := by omega
      clear h e0 hz
      generalize schK s = k at *
      generalize schM s = m at *
      generalize groupN s = S at *
      go_enter Try.func23, Try.ntmps23
      go_wp2_with fail
      refine (HS.out _).mono ?_
      rintro e w1 ⟨rfl, rfl⟩
      go_wp2_with fail
      refine (HG.out _).mono ?_
      rintro e w2 ⟨rfl, rfl⟩
      go_wp2_with fail
      go_ret2
      exact ⟨_, rfl, SAns.empty _ _ _ _ _, (Below.refl _ _).alloc (Nat.le_refl _) _⟩
end Go.Proofs.Ytpcedackanfnjaa
