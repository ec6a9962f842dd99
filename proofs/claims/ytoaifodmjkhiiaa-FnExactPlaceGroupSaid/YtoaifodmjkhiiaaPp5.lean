/- Texts of ours, laid one behind the other: StrV, SpnC, SpnD, NestB, NestC, SpnE, LawPg, HeM, TreC, TreD. -/
import Derived.Test.YtoaifodmjkhiiaaPp4
import Derived.PlainAid
import Derived.Deep.RegionHeld3
import Derived.Deep.DrawnRows
import Derived.Deep.CutRange
/- StrV: Rows of texts as values: what is seen of one, what an answer is, what is marked, and the laws' own functions over them. -/
namespace Go.Proofs.Ytoaifodmjkhiiaa
set_option maxRecDepth 100000
open Go.RowKit
attribute [local go_sem ↓] Go.wp_at_zero Go.wp_at_succ

theorem tv_get (L : List ByteArray) (j : Nat) (h : j < L.length) : (tv L)[j]? = some (.string (L.getD j ⟨#[]⟩)) := by simp [tv, List.getD, h]
theorem tv_set (L : List ByteArray) (j : Nat) (x : ByteArray) : (tv L).set j (.string x) = tv (L.set j x) := by simp [tv, List.map_set]
theorem wrow_cells {w : World} {g : Nat} {L : List ByteArray} : WRow w g L ↔ WCells w g (tv L) := by
  constructor
  · intro h
    refine ⟨h.1, fun i v hv => ?_⟩
    have hi : i < L.length := by have := (List.getElem?_eq_some_iff.1 hv).1; rw [tv_len] at this; exact this
    rw [tv_get L i hi] at hv
    cases hv
    exact h.2 i hi
  · intro h
    exact ⟨h.1, fun j hj => h.2 j _ (tv_get L j hj)⟩
/-- How many bytes there are. -/
def tsum : List ByteArray → Nat
  | [] => 0
  | x :: L => x.size + tsum L
theorem tsum_mem {L : List ByteArray} {x : ByteArray} (h : x ∈ L) : x.size ≤ tsum L := by
  induction L with
  | nil => simp at h
  | cons t L ih =>
    rcases List.mem_cons.1 h with rfl | h
    · simp only [tsum]; omega
    · have := ih h; simp only [tsum]; omega
theorem tsum_append (L M : List ByteArray) : tsum (L ++ M) = tsum L + tsum M := by
  induction L with
  | nil => simp [tsum]
  | cons t L ih => simp only [List.cons_append, tsum]; omega
theorem tsum_take (L : List ByteArray) (k : Nat) (h : k < L.length) : tsum (L.take (k + 1)) = tsum (L.take k) + (L.getD k ⟨#[]⟩).size := by
  rw [List.take_succ_eq_append_getElem h, tsum_append]
  have e : L.getD k ⟨#[]⟩ = L[k] := by simp [List.getD, h]
  rw [e]; simp [tsum]
theorem tsum_le (L : List ByteArray) (k : Nat) : tsum (L.take k) ≤ tsum L := by
  have := tsum_append (L.take k) (L.drop k)
  rw [List.take_append_drop] at this
  omega
/-- Texts that a machine can hold. -/
def TFit (L : List ByteArray) : Prop := L.length + tsum L ≤ 1048576
/-- A value that is these texts. -/
def SSee (w : World) (v : Value) (L : List ByteArray) (lo hi : Nat) : Prop := ∃ (a : Option Addr) (cap : Nat), v = .slice a L.length cap ∧ RRow w a (tv L) lo hi
/-- An answer of texts: nothing, or a row that may be written. -/
def SAns (w : World) (v : Value) (L : List ByteArray) (lo hi : Nat) : Prop := ∃ (a : Option Addr) (cap : Nat), v = .slice a L.length cap ∧ L.length ≤ cap ∧ (L = [] ∨ ∃ g, a = some ⟨g, 0, none⟩ ∧ lo ≤ g ∧ g < hi ∧ WCells w g (tv L))
theorem SAns.see {w : World} {v : Value} {L : List ByteArray} {lo hi : Nat} (h : SAns w v L lo hi) : SSee w v L lo hi := by
  obtain ⟨a, cap, e, _, h1⟩ := h
  refine ⟨a, cap, e, ?_⟩
  rcases h1 with rfl | ⟨g, rfl, q1, q2, hm⟩
  · intro h; simp [tv] at h
  · exact RRow.of_wcells hm q1 q2
theorem SSee.turned {w w' : World} {v : Value} {L : List ByteArray} {lo hi lo' hi' : Nat} (h : SSee w v L lo hi) (t : Turned w w' lo' hi') (hd : hi ≤ lo' ∨ hi' ≤ lo) : SSee w' v L lo hi := by
  obtain ⟨a, cap, e, h1⟩ := h
  exact ⟨a, cap, e, h1.turned t hd⟩
theorem SSee.below {w w' : World} {v : Value} {L : List ByteArray} {lo hi : Nat} (h : SSee w v L lo hi) (hb : Below w.heap.size w w') : SSee w' v L lo hi := by
  obtain ⟨a, cap, e, h1⟩ := h
  exact ⟨a, cap, e, h1.below hb⟩
theorem SAns.turned {w w' : World} {v : Value} {L : List ByteArray} {lo hi lo' hi' : Nat} (h : SAns w v L lo hi) (t : Turned w w' lo' hi') (hd : hi ≤ lo' ∨ hi' ≤ lo) : SAns w' v L lo hi := by
  obtain ⟨a, cap, e, hc, h1⟩ := h
  refine ⟨a, cap, e, hc, ?_⟩
  rcases h1 with rfl | ⟨g, rfl, q1, q2, hm⟩
  · exact .inl rfl
  · exact .inr ⟨g, rfl, q1, q2, hm.turned t (by omega)⟩
theorem SAns.below {w w' : World} {v : Value} {L : List ByteArray} {lo hi : Nat} (h : SAns w v L lo hi) (hb : Below w.heap.size w w') : SAns w' v L lo hi := by
  obtain ⟨a, cap, e, hc, h1⟩ := h
  refine ⟨a, cap, e, hc, ?_⟩
  rcases h1 with rfl | ⟨g, rfl, q1, q2, hm⟩
  · exact .inl rfl
  · exact .inr ⟨g, rfl, q1, q2, hm.grow hb⟩
theorem SAns.empty (w : World) (a : Option Addr) (cap lo hi : Nat) : SAns w (.slice a 0 cap) [] lo hi := ⟨a, cap, rfl, Nat.zero_le _, .inl rfl⟩
theorem SAns.srow {w : World} {v : Value} {L : List ByteArray} {lo hi : Nat} (h : SAns w v L lo hi) : ∃ a cap, v = .slice a L.length cap ∧ SRow w a L := by
  obtain ⟨a, cap, e, _, h1⟩ := h
  refine ⟨a, cap, e, ?_⟩
  rcases h1 with rfl | ⟨g, rfl, _, _, hm⟩
  · intro h; simp at h
  · exact (wrow_cells.2 hm).srow
/-- What an answer of texts is: new memory alone. -/
def SPost (L : List ByteArray) (w : World) (e : Ending) (w' : World) : Prop := ∃ v, e = .returned v ∧ SAns w' v L w.heap.size w'.heap.size ∧ Below w.heap.size w w'
theorem own_sans {w w' : World} {v : Value} {L : List ByteArray} {n : Nat} (hn : L.length = n) (h : w'.ownsRow w.heap.size 9 1 v n (tv L)) : SAns w' v L w.heap.size w'.heap.size := by
  have h' := h
  rw [← hn] at h'
  obtain ⟨a, cap, rfl, hc, h1⟩ := own_rowAt h'
  refine ⟨a, cap, rfl, hc, ?_⟩
  rcases h1 with rfl | ⟨g, rfl, q1, hm⟩
  · exact .inl rfl
  · exact .inr ⟨g, rfl, q1, hm.1, wrow_cells.1 hm⟩
theorem infoTextG : (Try.prog.info? 9).map (fun i => (i.zero, i.size, i.bytes)) = some (some (.string ⟨#[]⟩), 1, 16) := by kernel_rfl
end Go.Proofs.Ytoaifodmjkhiiaa
/- SpnC: The walks of the models' CutUnits and JoinUnits. -/
namespace Go.Proofs.Ytoaifodmjkhiiaa
set_option maxRecDepth 100000
open Go.RowKit
attribute [local go_sem ↓] Go.wp_at_zero Go.wp_at_succ

/-- The bytes of a text that lie in a unit, in their order. -/
def unitB (k : Nat) (t : ByteArray) (n u : Nat) : ByteArray := ⟨(((List.range n).filter fun j => decide (unitAt k j = u)).map fun j => t.data.toList.getD j 0).toArray⟩
def cutL (k : Nat) (t : ByteArray) (n : Nat) : List ByteArray := (List.range k).map (unitB k t n)
def cutX (s : Int) (t : ByteArray) : List ByteArray × Bool := if schOk s = true ∧ t.size ≤ groupN s then (cutL (schK s) t t.size, true) else ([], false)
theorem cutL_len (k : Nat) (t : ByteArray) (n : Nat) : (cutL k t n).length = k := by simp [cutL]
theorem cutL_at {k : Nat} {t : ByteArray} {n u : Nat} (h : u < k) : (cutL k t n).getD u ⟨#[]⟩ = unitB k t n u := by
  unfold cutL
  rw [List.getD_eq_getElem?_getD, List.getElem?_map, List.getElem?_range h]; rfl
theorem unit_lt {k : Nat} (h : 0 < k) (i : Nat) : unitAt k i < k := Nat.mod_lt _ h
def byteB (c : UInt8) : ByteArray := ⟨#[c]⟩
theorem unitB_same {k : Nat} {t : ByteArray} {i u : Nat} (h : unitAt k i = u) : unitB k t (i + 1) u = ⟨(unitB k t i u).data ++ (byteB (t.data.toList.getD i 0)).data⟩ := by
  unfold unitB byteB
  rw [List.range_succ, List.filter_append]
  simp [h]
theorem unitB_other {k : Nat} {t : ByteArray} {i u : Nat} (h : unitAt k i ≠ u) : unitB k t (i + 1) u = unitB k t i u := by
  unfold unitB
  rw [List.range_succ, List.filter_append]
  simp [h]
theorem cutL_step {k : Nat} (hk : 0 < k) (t : ByteArray) (i : Nat) : (cutL k t i).set (unitAt k i) ⟨((cutL k t i).getD (unitAt k i) ⟨#[]⟩).data ++ (byteB (t.data.toList.getD i 0)).data⟩ = cutL k t (i + 1) := by
  rw [cutL_at (unit_lt hk i), ← unitB_same rfl]
  apply List.ext_getElem (by simp [cutL])
  intro u h1 h2
  rw [List.getElem_set]
  have hu : u < k := by simpa [cutL] using h2
  simp only [cutL, List.getElem_map, List.getElem_range]
  by_cases e : unitAt k i = u
  · rw [if_pos e, e]
  · rw [if_neg e, unitB_other e]
theorem cutL_0 (k : Nat) (t : ByteArray) : cutL k t 0 = List.replicate k ⟨#[]⟩ := by
  apply List.ext_getElem (by simp [cutL])
  intro u h1 h2
  simp [cutL, unitB]
theorem byte_is {t : ByteArray} {i : Nat} (h : i < t.size) : t.extract i (i + 1) = byteB (t.data.toList.getD i 0) := by
  apply ByteArray.ext
  have h' : i < t.data.size := h
  simp only [byteB, ByteArray.data_extract]
  apply Array.ext
  · simp; omega
  · intro j h1 h2
    have hj : j = 0 := by simp at h2; omega
    subst hj
    simp
    rw [Array.getElem?_eq_getElem h', Option.getD_some]
theorem byte_size {t : ByteArray} {i : Nat} (h : i < t.size) : (t.extract i (i + 1)).size = 1 := by rw [byte_is h]; rfl
theorem byte_cat {x : ByteArray} {t : ByteArray} {i : Nat} (h : i < t.size) : x ++ t.extract i (i + 1) = ⟨x.data ++ (byteB (t.data.toList.getD i 0)).data⟩ := by
  rw [byte_is h]
  apply ByteArray.ext
  simp
theorem unitB_size (k : Nat) (t : ByteArray) (n u : Nat) : (unitB k t n u).size ≤ n := by
  have h := List.length_filter_le (fun j => decide (unitAt k j = u)) (List.range n)
  simp only [List.length_range] at h
  show (List.map _ _).toArray.size ≤ n
  rw [List.size_toArray, List.length_map]
  exact h
theorem WCells.drawn {w : World} {g : Nat} {L : List Value} (h : WCells w g L) : WCells w.drew g L := h.below (Below.drew (Below.refl w.heap.size w)) h.1
/-- What such an answer is. -/
def TPost8 (R : List ByteArray × Bool) (w : World) (e : Ending) (w' : World) : Prop := ∃ v, e = .returned (.tuple #[v, .bool R.2]) ∧ SAns w' v R.1 w.heap.size w'.heap.size ∧ Below w.heap.size w w'
set_option maxRecDepth 100000 in
set_option maxHeartbeats 2000000 in
theorem specCutUnits (s : Int) (t : ByteArray) (w : World) (hts : t.size ≤ 9223372036854775807) : Calls Try.prog 51 #[.int .i64 s, .string t] w fun e w' => TPost8 (cutX s t) w e w' := by
  obtain ⟨i0, hi0, hz0, hz1, hz2⟩ := info_parts infoTextG
  have HS := Shut.mk (fun W => specSchema s W)
  unfold SchPost at HS
  have HG := Shut.mk (fun W => specGroupSize s W)
  have hg32 := groupN_bounds s
  cases h : schOk s with
  | false =>
    have e0 : cutX s t = ([], false) := by unfold cutX; rw [if_neg (fun q => by rw [h] at q; cases q.1)]
    unfold TPost8
    rw [e0]
    rw [h] at HS
    clear h e0 hg32
    generalize schK s = k at *
    generalize schM s = m at *
    go_enter Try.func51, Try.ntmps51
    go_wp2_with fail
    refine (HS.out _).mono ?_
    rintro e w1 ⟨rfl, rfl⟩
    go_wp2_with fail
    go_ret2
    exact ⟨_, rfl, SAns.empty _ _ _ _ _, (Below.refl _ _).alloc (Nat.le_refl _) _⟩
  | true =>
    rw [h] at HS
    obtain ⟨b1, b2, _, _⟩ := sch_bounds h
    by_cases hz : t.size ≤ groupN s
    · have e0 : cutX s t = (cutL (schK s) t t.size, true) := by unfold cutX; rw [if_pos ⟨h, hz⟩]
      have HPL := Shut.mk (fun (i : Nat) (hi : i < t.size) W => specPlaceOf s (i : Int) W)
      have hpx : ∀ i : Nat, i < t.size → placeX s (i : Int) = (i / (schK s * 8), unitAt (schK s) i, placeIn (schK s) i) := fun i hi => by
        unfold placeX; rw [if_pos ⟨h, by omega, by omega⟩]; rfl
      have HPX := Shut.mk hpx
      unfold TPost8
      rw [e0]
      have hz' : ¬ (groupN s : Int) < (t.size : Int) := by omega
      clear h e0 hpx
      generalize schM s = m at *
      obtain ⟨k, hk⟩ : ∃ k, k = schK s := ⟨_, rfl⟩
      rw [← hk] at HS HPX b1 b2 ⊢
      generalize groupN s = S at *
      clear hk
      go_enter Try.func51, Try.ntmps51
      go_wp2_with fail
      refine (HS.out _).mono ?_
      rintro e w1 ⟨rfl, rfl⟩
      go_wp2_with fail
      refine (HG.out _).mono ?_
      rintro e w2 ⟨rfl, rfl⟩
      go_wp2_with (at_make; refine wpList_make_full _ rfl _ _ 99 rfl w2.heap.size 9 i0 _ 1 Try.underlying99 hi0 hz0 hz1 .i64 .i64 _ _ k rfl rfl (by omega) (by omega) ?b2 ?b3 ?b4 ?_)
      case b2 => rw [hz2]; omega
      case b3 => unfold maxLen; omega
      case b4 => omega
      intro wm hownm hgrm
      have hbm : Below w2.heap.size w2 wm := (Below.refl _ _).grown hgrm (Nat.le_refl _) (fun j hj => by simp at hj)
      have hrow : WCells wm w2.heap.size (tv (cutL k t 0)) := by
        have h := own_wcells hownm
        have e : (madeCells #[Value.string ⟨#[]⟩] k).toList = tv (cutL k t 0) := by rw [toList_madeCells_one, cutL_0]; simp [tv]
        rw [e] at h
        exact h
      have HROW := Shut.mk hrow
      have HBM := Shut.mk hbm
      clear hownm hgrm hrow hbm
      go_wp2_with fail
      go_loopw [10] (fun ii wr => ∃ i : Nat, ii = .int .i64 (i : Nat) ∧ i ≤ t.size ∧ Shut (WCells wr w2.heap.size (tv (cutL k t i))) ∧ Shut (Below w2.heap.size w2 wr)) (fun ii _ => t.size - (intOf ii).toNat)
      case atStart => exact ⟨0, rfl, Nat.zero_le _, HROW, HBM⟩
      case round =>
        clear HROW HBM
        obtain ⟨i, rfl, hin, hrow, hbo⟩ := hrel
        obtain ⟨wo, rfl⟩ : ∃ wo, wo = wr := ⟨_, rfl⟩
        by_cases hlt : i < t.size
        · have hlt' : (i : Int) < (t.size : Int) := by omega
          have i0' : (0 : Int) ≤ (i : Int) := by omega
          have HP1 := Shut.mk (HPL.out i hlt)
          unfold PlacePost at HP1
          rw [HPX.out i hlt] at HP1
          have hul := unit_lt (show 0 < k by omega) i
          have hst : (cutL k t i).set (unitAt k i) ((cutL k t i).getD (unitAt k i) ⟨#[]⟩ ++ t.extract i (i + 1)) = cutL k t (i + 1) := by rw [byte_cat hlt]; exact cutL_step (by omega) t i
          have HCL := Shut.mk (fun (w5 : World) (hw5 : WCells w5 w2.heap.size (tv (cutL k t i))) => hw5.2 (unitAt k i) _ (tv_get _ (unitAt k i) (by rw [cutL_len]; exact hul)))
          have HST := Shut.mk (fun (w5 : World) (hw5 : WCells w5 w2.heap.size (tv (cutL k t i))) => by
            have q := hw5.set (unitAt k i) (.string ((cutL k t i).getD (unitAt k i) ⟨#[]⟩ ++ t.extract i (i + 1))) (by rw [tv_len, cutL_len]; exact hul)
            rw [tv_set, hst] at q
            exact q)
          have hxs : ((cutL k t i).getD (unitAt k i) ⟨#[]⟩).size ≤ 32 := by rw [cutL_at hul]; exact Nat.le_trans (unitB_size k t i _) (by omega)
          have hys := byte_size hlt
          clear hst
          generalize (cutL k t i).getD (unitAt k i) ⟨#[]⟩ = x at *
          generalize unitAt k i = u at *
          generalize placeIn k i = pl at *
          generalize i / (k * 8) = gq at *
          go_wp2_with fail
          refine (HP1.out _).mono ?_
          rintro e w5 ⟨rfl, hb5⟩
          have hrow5 := hrow.out.below hb5 hrow.out.1
          obtain ⟨c0, z0⟩ := HCL.out w5 hrow5
          have HS5 := Shut.mk (HST.out w5 hrow5)
          have HB5 := Shut.mk (hbo.out.trans (hb5.mono hbo.out.size))
          have u0 : (0 : Int) ≤ (u : Int) := by omega
          have u1 : (u : Int) < (k : Int) := by omega
          clear hb5 hrow5 hrow hbo HCL HST HP1
          go_wp2_with fail
          go_region
          all_goals go_wp2_with fail
          all_goals exact ⟨⟨i + 1, by go_num, by omega, ⟨HS5.out.drawn⟩, ⟨Below.drew (HB5.out.setCell (p := ⟨w2.heap.size, u, none⟩) (Nat.le_refl _) _)⟩⟩, by simp [intOf]; omega⟩
        · have e : i = t.size := by omega
          subst e
          have hlt' : ¬ (t.size : Int) < (t.size : Int) := by omega
          have HF : Shut (SAns wo (.slice (some ⟨w2.heap.size, 0, none⟩) k k) (cutL k t t.size) w2.heap.size wo.heap.size) := ⟨⟨_, k, by rw [cutL_len], by rw [cutL_len]; exact Nat.le_refl _, .inr ⟨_, rfl, Nat.le_refl _, hrow.out.1, hrow.out⟩⟩⟩
          clear hrow
          go_wp2_with fail
          go_ret2
          exact ⟨_, rfl, HF.out, hbo.out⟩
    · have e0 : cutX s t = ([], false) := by unfold cutX; rw [if_neg (fun q => hz q.2)]
      unfold TPost8
      rw [e0]
      have hz' : (groupN s : Int) < (t.size : Int) := by omega
      clear h e0 hz
      generalize schK s = k at *
      generalize schM s = m at *
      generalize groupN s = S at *
      go_enter Try.func51, Try.ntmps51
      go_wp2_with fail
      refine (HS.out _).mono ?_
      rintro e w1 ⟨rfl, rfl⟩
      go_wp2_with fail
      refine (HG.out _).mono ?_
      rintro e w2 ⟨rfl, rfl⟩
      go_wp2_with fail
      go_ret2
      exact ⟨_, rfl, SAns.empty _ _ _ _ _, (Below.refl _ _).alloc (Nat.le_refl _) _⟩
end Go.Proofs.Ytoaifodmjkhiiaa
/- SpnD: The walk of the model's JoinUnits. -/
namespace Go.Proofs.Ytoaifodmjkhiiaa
set_option maxRecDepth 100000
open Go.RowKit
attribute [local go_sem ↓] Go.wp_at_zero Go.wp_at_succ

def joinAt (k : Nat) (U : List ByteArray) (i : Nat) : UInt8 := (U.getD (unitAt k i) ⟨#[]⟩).data.toList.getD (placeIn k i) 0
def joinL (k : Nat) (U : List ByteArray) (n : Nat) : List UInt8 := (List.range n).map (joinAt k U)
def joinX (s : Int) (U : List ByteArray) (n : Int) : ByteArray × Bool := if schOk s = true ∧ U.length = schK s ∧ 0 ≤ n ∧ n ≤ (groupN s : Int) then (⟨(joinL (schK s) U n.toNat).toArray⟩, true) else (⟨#[]⟩, false)
theorem joinX_no {s : Int} {U : List ByteArray} {n : Int} (h : ¬ (schOk s = true ∧ U.length = schK s ∧ 0 ≤ n ∧ n ≤ (groupN s : Int))) : joinX s U n = (⟨#[]⟩, false) := if_neg h
def JoinPost (R : ByteArray × Bool) (w : World) (e : Ending) (w' : World) : Prop := e = .returned (.tuple #[.string R.1, .bool R.2]) ∧ Below w.heap.size w w'
theorem joinL_len (k : Nat) (U : List ByteArray) (n : Nat) : (joinL k U n).length = n := by simp [joinL]
theorem joinL_succ (k : Nat) (U : List ByteArray) (n : Nat) : bv (joinL k U (n + 1)) = bv (joinL k U n) ++ [.int .u8 ((joinAt k U n).toNat : Int)] := by
  unfold joinL; rw [List.range_succ, List.map_append]; simp [bv]
theorem get_byte (s : ByteArray) (k : Nat) (h : k < s.size) : Go.PlainAid.bt s k = ((s.data.toList.getD k 0).toNat : Int) := by
  unfold Go.PlainAid.bt
  rw [dif_pos h]
  have : s.data.toList.getD k 0 = s[k] := by
    have hk : k < s.data.size := h
    rw [List.getD_eq_getElem?_getD, Array.getElem?_toList, Array.getElem?_eq_getElem hk]
    rfl
  rw [this]
theorem get_none (s : ByteArray) (k : Nat) (h : ¬ k < s.size) : s.data.toList.getD k 0 = 0 := by
  have hk : s.data.toList.length ≤ k := by simpa using h
  rw [List.getD_eq_getElem?_getD, List.getElem?_eq_none hk]; rfl
theorem units_cells {w : World} {a : Option Addr} {L : List ByteArray} {lo hi : Nat} (h : RRow w a (tv L) lo hi) (hp : 0 < L.length) : ∃ b off, a = some ⟨b, off, none⟩ ∧ b < w.heap.size ∧ ∀ j, j < L.length → w.cell? ⟨b, off + j, none⟩ = some (.string (L.getD j ⟨#[]⟩)) := by
  obtain ⟨b, off, e, _, _, hb, hc⟩ := h (by rw [tv_len]; exact hp)
  exact ⟨b, off, e, hb, fun j hj => hc j _ (tv_get L j hj)⟩
end Go.Proofs.Ytoaifodmjkhiiaa
/- NestB: Rows of rows of numbers: the laws' own copies, sizes, comparisons and marks. -/
namespace Go.Proofs.Ytoaifodmjkhiiaa
set_option maxRecDepth 100000
open Go.RowKit
attribute [local go_sem ↓] Go.wp_at_zero Go.wp_at_succ

theorem infoRow : (Try.prog.info? 35).map (fun i => (i.zero, i.size, i.bytes)) = some (some (.slice none 0 0), 1, 24) := by kernel_rfl
/-- Where the copy of a row of rows stands. -/
structure TI (w wr : World) (ss : List SR) (ts : List SR) : Prop where
  rweq : rws ts = rws (ss.take ts.length)
  out : WCells wr w.heap.size (svs ts ++ List.replicate (ss.length - ts.length) (.slice none 0 0))
  rows : ∀ s ∈ ts, ∃ b, s.loc = some ⟨b, 0, none⟩ ∧ w.heap.size ≤ b ∧ b < wr.heap.size ∧ b ≠ w.heap.size ∧ WCells wr b (ics s.row) ∧ s.row.length ≤ s.cap
  apart : (ts.map SR.loc).Nodup
  bel : Below w.heap.size w wr
theorem set_mid (A B : List Value) (x y : Value) (k : Nat) (h : A.length = k) : (A ++ x :: B).set k y = A ++ y :: B := by
  subst h
  rw [List.set_append_right _ _ (Nat.le_refl _)]
  simp
theorem TI.next {w wr w1 : World} {ss ts : List SR} {g1 : Nat} {row : List Int} {n : Nat} (h : TI w wr ss ts) (hk : ts.length < ss.length) (hrow : (ss[ts.length]).row = row) (hn : n = row.length) (hw : w.heap.size < wr.heap.size)
    (hg1 : wr.heap.size ≤ g1) (hc : WCells w1 g1 (ics row)) (hb : Below wr.heap.size wr w1) : TI w (w1.setCell ⟨w.heap.size, ts.length, none⟩ (.slice (some ⟨g1, 0, none⟩) n n)) ss (ts ++ [SR.mk (some ⟨g1, 0, none⟩) row row.length]) := by
  subst hn
  have hne : g1 ≠ w.heap.size := by omega
  have hsz : (w1.setCell ⟨w.heap.size, ts.length, none⟩ (.slice (some ⟨g1, 0, none⟩) row.length row.length)).heap.size = w1.heap.size := by simp [World.setCell]
  have hgs : w1.grownBy (w1.setCell ⟨w.heap.size, ts.length, none⟩ (.slice (some ⟨g1, 0, none⟩) row.length row.length)) (some w.heap.size) := gb_set' _ _ _ _
  refine ⟨?_, ?_, ?_, ?_, ?_⟩
  · rw [rws_snoc, h.rweq, List.length_append, List.length_singleton, List.take_succ_eq_append_getElem hk, rws_snoc, hrow]
  · have o := (h.out.below hb h.out.1).set ts.length (.slice (some ⟨g1, 0, none⟩) row.length row.length) (by rw [List.length_append, svs_len, List.length_replicate]; omega)
    obtain ⟨m, hm⟩ : ∃ m, ss.length - ts.length = m + 1 := ⟨ss.length - ts.length - 1, by omega⟩
    rw [hm, List.replicate_succ, set_mid _ _ _ _ _ (svs_len ts)] at o
    have e : svs (ts ++ [SR.mk (some ⟨g1, 0, none⟩) row row.length]) ++ List.replicate (ss.length - (ts ++ [SR.mk (some ⟨g1, 0, none⟩) row row.length]).length) (.slice none 0 0) = svs ts ++ .slice (some ⟨g1, 0, none⟩) row.length row.length :: List.replicate m (.slice none 0 0) := by
      rw [List.length_append, List.length_singleton, show ss.length - (ts.length + 1) = m by omega]
      simp [svs, srv]
    rw [e]
    exact o
  · intro s hs
    rcases List.mem_append.1 hs with h1 | h1
    · obtain ⟨b, e, q1, q2, q3, q4, q5⟩ := h.rows s h1
      exact ⟨b, e, q1, by rw [hsz]; exact Nat.lt_of_lt_of_le q2 hb.size, q3, (q4.below hb q4.1).apart hgs q3, q5⟩
    · simp at h1
      subst h1
      exact ⟨g1, rfl, by omega, by rw [hsz]; exact hc.1, hne, hc.apart hgs hne, Nat.le_refl _⟩
  · rw [List.map_append, List.nodup_append]
    refine ⟨h.apart, by simp, fun l hl l' hl' => ?_⟩
    obtain ⟨s, hs, rfl⟩ := List.mem_map.1 hl
    simp only [List.map_cons, List.map_nil, List.mem_singleton] at hl'
    subst hl'
    obtain ⟨b, e, _, q2, _⟩ := h.rows s hs
    rw [e]
    intro e2
    have e4 : b = g1 := congrArg Addr.block (Option.some.inj e2)
    omega
  · exact (h.bel.trans (hb.mono h.bel.size)).setCell (p := ⟨w.heap.size, ts.length, none⟩) (Nat.le_refl _) _
theorem TI.fin {w wr : World} {ss ts : List SR} (h : TI w wr ss ts) (hl : ts.length = ss.length) : rws ts = rws ss ∧ MW wr w.heap.size ts w.heap.size wr.heap.size := by
  refine ⟨by rw [h.rweq, hl, List.take_of_length_le (Nat.le_refl _)], ?_, Nat.le_refl _, h.out.1, h.rows, h.apart⟩
  have := h.out
  rwa [hl, Nat.sub_self, List.replicate_zero, List.append_nil] at this
/-- What a copy of a row of rows is. -/
def ToRows (ss : List SR) (w : World) (e : Ending) (w' : World) : Prop :=
  ∃ g ts, e = .returned (.slice (some ⟨g, 0, none⟩) ss.length ss.length) ∧ List.length (α := SR) ts = ss.length ∧ rws ts = rws ss ∧ MW w' g ts w.heap.size w'.heap.size ∧ Below w.heap.size w w'
/-- The size of rows of numbers, as the laws count it. -/
def msum : List SR → Nat
  | [] => 0
  | s :: ss => s.row.length + msum ss
theorem msum_take (ss : List SR) (k : Nat) (h : k < ss.length) : msum (ss.take (k + 1)) = msum (ss.take k) + ss[k].row.length := by
  induction ss generalizing k with
  | nil => simp at h
  | cons s ss ih =>
    cases k with
    | zero => simp [msum]
    | succ k =>
      have := ih k (by simpa using h)
      simp only [List.take_succ_cons, msum, this, List.getElem_cons_succ]
      omega
theorem msum_le (ss : List SR) (k : Nat) : msum (ss.take k) ≤ msum ss := by
  induction ss generalizing k with
  | nil => simp [msum]
  | cons s ss ih =>
    cases k with
    | zero => simp [msum]
    | succ k => have := ih k; simp only [List.take_succ_cons, msum]; omega
theorem msum_mem {ss : List SR} {s : SR} (h : s ∈ ss) : s.row.length ≤ msum ss := by
  induction ss with
  | nil => simp at h
  | cons t ss ih =>
    rcases List.mem_cons.1 h with rfl | h
    · simp only [msum]; omega
    · have := ih h; simp only [msum]; omega
/-- What is left of the room: or a number below 0. -/
def SzRows (left : Int) (n : Nat) (w : World) (e : Ending) (w' : World) : Prop := ∃ r : Int, e = .returned (.int .i64 r) ∧ w' = w ∧ ((n : Int) ≤ left → r = left - n) ∧ (left < n → r < 0)
end Go.Proofs.Ytoaifodmjkhiiaa
/- NestC: Rows of rows of numbers: the laws' own comparisons, marks that are laid into one, and found again. -/
namespace Go.Proofs.Ytoaifodmjkhiiaa
set_option maxRecDepth 100000
open Go.RowKit
attribute [local go_sem ↓] Go.wp_at_zero Go.wp_at_succ

set_option maxHeartbeats 1000000 in
theorem markIntS_marks (g : Nat) (xs : List Int) (k ca : Nat) (w : World) (ha : WCells w g (ics xs)) (hn : k + xs.length ≤ 1000000000) (hca : xs.length ≤ ca) :
    Calls Try.prog 18 #[.slice (some ⟨g, 0, none⟩) xs.length ca, .int .i64 k] w fun e w' => e = .returned (.int .i64 (k + xs.length : Nat)) ∧ WCells w' g (ics (marksI k xs.length)) ∧ w.grownBy w' (some g) := by
  obtain ⟨n, hnx⟩ : ∃ n, n = xs.length := ⟨_, rfl⟩
  have HN : Hid (n = xs.length) := hnx
  rw [← hnx]
  rw [← hnx] at hn hca
  clear hnx
  have HA : Shut (WCells w g (ics xs)) := ⟨ha⟩
  clear ha
  go_enter Try.func18, Try.ntmps18
  go_wp2_with fail
  go_loopw [1, 5] (fun c i wr => ∃ (j : Nat) (ys : List Int), i = .int .i64 j ∧ c = .int .i64 (k + j : Nat) ∧ j ≤ n ∧ Shut (ys.length = n ∧ ∀ t, t < j → ys.getD t 0 = ((k + t : Nat) : Int)) ∧ Shut (WCells wr g (ics ys)) ∧ w.grownBy wr (some g)) (fun _ i _ => n - (intOf i).toNat)
  case atStart => exact ⟨0, xs, rfl, rfl, Nat.zero_le _, ⟨HN.out.symm, fun t ht => by omega⟩, HA, ⟨rfl, rfl, rfl, Nat.le_refl _, fun _ _ _ => rfl⟩⟩
  case round =>
    obtain ⟨j, ys, rfl, rfl, hj, hyl, hw, hgr⟩ := hrel
    by_cases hlt : j < n
    · have j0 : (0 : Int) ≤ (j : Int) := by omega
      have j1 : (j : Int) < (n : Int) := by omega
      obtain ⟨c0, z0⟩ := hw.out.2 j _ (ics_get ys j (by rw [hyl.out.1]; exact hlt))
      have hset := hw.out.set j (.int .i64 ((k : Int) + (j : Int))) (by rw [ics_len, hyl.out.1]; omega)
      rw [ics_set] at hset
      have HS : Shut (WCells (wr.setCell ⟨g, j, none⟩ (.int .i64 ((k : Int) + (j : Int)))) g (ics (ys.set j ((k : Int) + (j : Int))))) := ⟨hset⟩
      have HG : Hid (w.grownBy (wr.setCell ⟨g, j, none⟩ (.int .i64 ((k : Int) + (j : Int)))) (some g)) := gb_two' hgr (gb_set' wr g j _)
      have HY : Shut ((ys.set j ((k : Int) + (j : Int))).length = n ∧ ∀ t, t < j + 1 → (ys.set j ((k : Int) + (j : Int))).getD t 0 = ((k + t : Nat) : Int)) := ⟨by rw [List.length_set]; exact hyl.out.1, fun t ht => by
        by_cases e : t = j
        · subst e; simp [List.getD, show t < ys.length by rw [hyl.out.1]; exact hlt]
        · have := hyl.out.2 t (by omega)
          simpa [List.getD, List.getElem?_set, Ne.symm e] using this⟩
      clear hset hyl hgr hw
      go_wp2_with fail
      go_roundw
      case rel => exact ⟨j + 1, _, by go_num, congrArg (Value.int .i64) (by omega), by omega, HY, HS, HG.out⟩
      case measure => simp [intOf]; omega
    · have e : j = n := by omega
      subst e
      have ey : ys = marksI k j := by
        apply List.ext_getElem
        · rw [hyl.out.1, marksI_len]
        · intro t h1 h2
          have h3 := hyl.out.2 t (by rw [hyl.out.1] at h1; exact h1)
          have h4 := marksI_at k j t (by rw [hyl.out.1] at h1; exact h1)
          rw [← h4] at h3
          simpa [List.getD, h1, h2] using h3
      have HW : Shut (WCells wr g (ics (marksI k j))) := ⟨by rw [← ey]; exact hw.out⟩
      clear ey hyl hw
      go_wp2_with fail
      go_ret
      exact ⟨rfl, HW.out, hgr⟩
set_option maxHeartbeats 1000000 in
theorem heldIntS_marks (a : Option Addr) (k n ca : Nat) (w : World) (ha : CRow w a (ics (marksI k n))) (hn : k + n ≤ 1000000000) :
    Calls Try.prog 19 #[.slice a n ca, .int .i64 k] w fun e w' => e = .returned (.int .i64 (k + n : Nat)) ∧ Below w.heap.size w w' := by
  have HA : Hid (CRow w a (ics (marksI k n))) := ha
  clear ha
  go_enter Try.func19, Try.ntmps19
  go_wp2_with fail
  go_loopw [1, 5] (fun c i wr => ∃ (j : Nat), i = .int .i64 j ∧ c = .int .i64 (k + j : Nat) ∧ j ≤ n ∧ Below w.heap.size w wr) (fun _ i _ => n - (intOf i).toNat)
  case atStart => exact ⟨0, rfl, rfl, Nat.zero_le _, Below.refl _ _⟩
  case round =>
    obtain ⟨j, rfl, rfl, hj, hbl⟩ := hrel
    by_cases hlt : j < n
    · obtain ⟨b1, o1, rfl, l1, hc1⟩ := crow_int (HA.out.stays hbl) (by rw [marksI_len]; omega)
      have d0 := hc1 j (by rw [marksI_len]; exact hlt)
      rw [marksI_at k n j hlt] at d0
      have j0 : (0 : Int) ≤ (j : Int) := by omega
      have j1 : (j : Int) < (n : Int) := by omega
      have hbn : ∀ q, Below w.heap.size w (wr.drewN q) := fun q => hbl.trans ⟨rfl, rfl, rfl, Nat.le_refl _, fun _ _ => rfl⟩
      have HB0 : Hid (Below w.heap.size w wr) := hbl
      clear hc1 hbl
      go_wp2_with fail
      all_goals (try go_quiet (fail))
      all_goals go_wp2_with fail
      all_goals exact ⟨⟨j + 1, by go_num, congrArg (Value.int .i64) (by omega), by omega, by first | exact hbn _ | exact HB0.out⟩, by simp [intOf]; omega⟩
    · have e : j = n := by omega
      subst e
      go_wp2_with fail
      go_ret
      exact ⟨rfl, hbl⟩
end Go.Proofs.Ytoaifodmjkhiiaa
/- SpnE: Rows of numbers as values: their comparison, marks that are laid and found again. -/
namespace Go.Proofs.Ytoaifodmjkhiiaa
set_option maxRecDepth 100000
open Go.RowKit

theorem eqIntS_val {w : World} {v u : Value} {xs : List Int} {lo hi lo' hi' : Nat} (h : IAns w v xs lo hi) (k : IAns w u xs lo' hi') (hf : xs.length ≤ 1048576) : Calls Try.prog 15 #[v, u] w fun e w' => e = .returned (.bool true) ∧ Below w.heap.size w w' := by
  obtain ⟨a, cap, rfl, h1⟩ := h.crow
  obtain ⟨b, cap', rfl, h2⟩ := k.crow
  exact eqIntS_same a b xs cap cap' w h1 h2 hf
theorem markIntS_val {w : World} {v : Value} {xs : List Int} {lo hi : Nat} (k : Nat) (h : IAns w v xs lo hi) (hk : k + xs.length ≤ 100000000) :
    Calls Try.prog 18 #[v, .int .i64 k] w fun e w' => e = .returned (.int .i64 (k + xs.length : Nat)) ∧ IAns w' v (marksI k xs.length) lo hi ∧ Turned w w' lo hi := by
  obtain ⟨a, cap, rfl, hc, h1⟩ := h
  rcases h1 with rfl | ⟨g, rfl, q1, q2, hm⟩
  · refine (markIntS_none a k cap w).mono ?_
    rintro e w' ⟨rfl, rfl⟩
    exact ⟨rfl, ⟨a, cap, by rw [marksI_len], by rw [marksI_len]; exact Nat.zero_le _, .inl rfl⟩, Turned.refl _ _ _⟩
  · refine (markIntS_marks g xs k cap w hm (by omega) hc).mono ?_
    rintro e w' ⟨rfl, hw, hg⟩
    exact ⟨rfl, ⟨_, cap, by rw [marksI_len], by rw [marksI_len]; exact hc, .inr ⟨g, rfl, q1, q2, hw⟩⟩, Turned.of_grown hg q1 q2⟩
theorem heldIntS_val {w : World} {v : Value} {k n lo hi : Nat} (h : IAns w v (marksI k n) lo hi) (hk : k + n ≤ 100000000) :
    Calls Try.prog 19 #[v, .int .i64 k] w fun e w' => e = .returned (.int .i64 (k + n : Nat)) ∧ Below w.heap.size w w' := by
  obtain ⟨a, cap, rfl, h1⟩ := h.crow
  rw [marksI_len]
  exact heldIntS_marks a k n cap w h1 (by omega)
theorem spansX_len (s n : Int) : (spansX s n).length ≤ 1001 := by
  unfold spansX
  split
  · rename_i h
    unfold spanL
    rw [List.length_append, List.length_replicate, List.length_singleton]
    have := Nat.div_le_self (n.toNat - 1) (groupN s)
    omega
  · exact Nat.zero_le _
end Go.Proofs.Ytoaifodmjkhiiaa
/- LawPg: The exact law of PlaceGroup, over what is told of the program's. -/
namespace Go.Proofs.Ytoaifodmjkhiiaa
set_option maxRecDepth 100000
open Go.RowKit BigFrame
attribute [local go_sem ↓] Go.wp_at_zero Go.wp_at_succ
abbrev iaS (v : Value) (X : List Int) (lo hi : Nat) : Str := ⟨fun W => IAns W v X lo hi, lo, hi⟩
theorem iaS.loc (v : Value) (X : List Int) (lo hi : Nat) : (iaS v X lo hi).Loc := fun _ _ _ _ h t hd => IAns.turned h t hd
theorem hide_ia {w W : World} {S : List Str} {v : Value} {X : List Int} {lo hi : Nat} (h : Shut (SL w W (iaS v X lo hi :: S))) : ∃ l h, Shut (SL w W (iaS v X l h :: S)) := ⟨lo, hi, h⟩
theorem hide_hs {w W : World} {S : List Str} {a : Option Addr} {X : List HoR} {lo hi : Nat} (h : Shut (SL w W (hsS a X lo hi :: S))) : ∃ l h, Shut (SL w W (hsS a X l h :: S)) := ⟨lo, hi, h⟩
/-- The answer as a value of its own memory. -/
theorem plc_ans {R : List Int × Bool} {w w' : World} {e : Ending} (h : PlcPost R w e w') : ∃ v, e = .returned (.tuple #[v, .bool R.2]) ∧ IAns w' v R.1 w.heap.size w'.heap.size ∧ Below w.heap.size w w' := by
  obtain ⟨v, e1, ho, hb⟩ := h
  exact ⟨v, e1, own_ians rfl ho, hb⟩
theorem markHostS_own (a : Option Addr) (rs : List HoR) (ca lo hi : Nat) (w : World) (h : HsW w a rs lo hi) (hn : endH 1 (hms rs) ≤ 1000000000) (hem : rs = [] → Calls Try.prog 17 #[.slice a rs.length ca, .int .i64 1] w fun e w' => e = .returned (.int .i64 1) ∧ Below w.heap.size w w') :
    Calls Try.prog 17 #[.slice a rs.length ca, .int .i64 1] w fun e w' => e = .returned (.int .i64 (endH 1 (hms rs) : Nat)) ∧ ∃ ys : List HoR, HsW w' a ys lo hi ∧ Turned w w' lo hi := by
  rcases h with ⟨hc, ⟨rfl, rfl⟩ | ⟨g, rfl, hg⟩⟩
  · refine (hem rfl).mono ?_
    rintro e w' ⟨rfl, hb⟩
    exact ⟨rfl, [], ⟨fun _ h => (by cases h), .inl ⟨rfl, rfl⟩⟩, Turned.of_below hb _ _⟩
  · refine (markHostS_all g rs 1 ca lo hi w hg hc (by omega) hn).mono ?_
    rintro e w' ⟨rfl, ys, hl, _, hcy, hy, ht⟩
    exact ⟨rfl, ys, ⟨hcy, .inr ⟨g, rfl, hy⟩⟩, ht⟩
theorem endH_fits {hs : List HM} (h1 : hs.length ≤ 1048576) (h2 : hsSum hs ≤ 1048576) : endH 1 hs ≤ 1000000000 := by
  have q : ∀ l : List HM, (l.map fun h => h.us.length).sum ≤ hsSum l := by
    intro l
    induction l with
    | nil => simp [hsSum]
    | cons x xs ih => simp only [List.map_cons, List.sum_cons, hsSum]; omega
  rw [endH_eq]
  have := q hs
  omega
theorem toHostS_num (a : Option Addr) (rs : List HoR) (cap n : Nat) (hn : n = rs.length) (w : World) (hm : HsRow w a rs) (hl : n ≤ 1048576) (hp : hsSum (hms rs) ≤ 1048576) :
    Calls Try.prog 13 #[.slice a n cap] w fun e w' => ∃ va ca rs', e = .returned (.slice va n ca) ∧ n = rs'.length ∧ hms rs' = hms rs ∧ HsW w' va rs' w.heap.size w'.heap.size ∧ Below w.heap.size w w' := by
  subst hn
  refine (toHostS_any a rs cap w hm hl (fun r hr => ?_)).mono ?_
  · have := hsSum_mem (hs := hms rs) (h := r.h) (List.mem_map_of_mem hr)
    omega
  · rintro e w' ⟨va, ca, rs', rfl, e1, hW, _, hb⟩
    have el : rs'.length = rs.length := by rw [← hms_len, e1, hms_len]
    exact ⟨va, ca, rs', by rw [el], el.symm, e1, hW, hb⟩
set_option maxRecDepth 100000 in
theorem markHostS_nil (ca : Nat) (a : Option Addr) (w : World) : Calls Try.prog 17 #[.slice a 0 ca, .int .i64 1] w fun e w' => e = .returned (.int .i64 1) ∧ Below w.heap.size w w' := by
  go_enter Try.func17, Try.ntmps17
  go_wp2_with fail
  go_loopw [1, 5] (fun v i wr => v = .int .i64 1 ∧ i = .int .i64 0 ∧ Shut (Below w.heap.size w wr)) (fun _ _ _ => 0)
  case atStart => exact ⟨rfl, rfl, ⟨Below.refl _ _⟩⟩
  case round =>
    obtain ⟨rfl, rfl, HW⟩ := hrel
    go_wp2_with fail
    go_ret
    exact ⟨rfl, HW.out⟩
set_option maxRecDepth 100000 in
set_option maxHeartbeats 8000000 in
/-- LAW: PlaceGroup answers as the model. -/
theorem lawPlaceGroup (rs : List HoR) (a : Option Addr) (cap : Nat) (x : Int) (R : List Int × Bool) (w : World) (hr : HsRow w a rs) (hf : HsFits (hms rs)) (hrl : R.1.length ≤ 1048576 ∨ 1048576 < rs.length)
    (hsp : rs.length ≤ 1048576 → hsSum (hms rs) ≤ 1048576 → ∀ (W : World) (b : Option Addr) (rs' : List HoR) (c : Nat), HsRow W b rs' → hms rs' = hms rs → Calls Try.prog 12 #[.slice b rs'.length c, .int .i64 x] W fun e w' => PlcPost R W e w')
    (him : rs.length ≤ 1048576 → hsSum (hms rs) ≤ 1048576 → ∀ (W : World) (b : Option Addr) (rs' : List HoR) (c : Nat), HsRow W b rs' → hms rs' = hms rs → Below w.heap.size w W → Calls Try.prog 14 #[.slice b rs'.length c, .int .i64 x] W fun e w' => PlcPost R W e w') :
    Calls Try.prog 4 #[.slice a rs.length cap, .int .i64 x] w fun e w' => e = .returned (.bool true) ∧ Below w.heap.size w w' := by
  have HSZ := Shut.mk (szHostS_any a rs cap 1048576 w hr hf (by omega) (by omega))
  have HR := Shut.mk hr
  have hsl : rs.length = (hms rs).length := (hms_len rs).symm
  obtain ⟨hs, hhs⟩ : ∃ q, q = hms rs := ⟨_, rfl⟩
  obtain ⟨n, hn⟩ : ∃ n, n = rs.length := ⟨_, rfl⟩
  obtain ⟨RL, ok⟩ := R
  dsimp only at hrl
  have HTO : Shut (n ≤ 1048576 → hsSum hs ≤ 1048576 → ∀ W, Below w.heap.size w W → Calls Try.prog 13 #[.slice a n cap] W fun e w' => ∃ va ca rs', e = .returned (.slice va n ca) ∧ n = rs'.length ∧ hms rs' = hs ∧ HsW w' va rs' W.heap.size w'.heap.size ∧ Below W.heap.size W w') := ⟨fun h1 h2 W hb => by
    rw [hhs] at h2 ⊢
    exact toHostS_num a rs cap n hn W (HR.out.stays hb) h1 h2⟩
  have HSP : Shut (n ≤ 1048576 → hsSum hs ≤ 1048576 → ∀ (W : World) (b : Option Addr) (rs' : List HoR) (c : Nat), HsRow W b rs' → n = rs'.length → hms rs' = hs → Calls Try.prog 12 #[.slice b n c, .int .i64 x] W fun e w' => ∃ v, e = .returned (.tuple #[v, .bool ok]) ∧ IAns w' v RL W.heap.size w'.heap.size ∧ Below W.heap.size W w') := ⟨fun h1 h2 W b rs' c hr' hn' he => by
    rw [hn']
    exact (hsp (by omega) (by rw [← hhs]; exact h2) W b rs' c hr' (by rw [he, hhs])).mono fun e w' h => plc_ans h⟩
  have HIM : Shut (n ≤ 1048576 → hsSum hs ≤ 1048576 → ∀ (W : World) (b : Option Addr) (rs' : List HoR) (c : Nat), HsRow W b rs' → n = rs'.length → hms rs' = hs → Below w.heap.size w W → Calls Try.prog 14 #[.slice b n c, .int .i64 x] W fun e w' => ∃ v, e = .returned (.tuple #[v, .bool ok]) ∧ IAns w' v RL W.heap.size w'.heap.size ∧ Below W.heap.size W w') := ⟨fun h1 h2 W b rs' c hr' hn' he hb => by
    rw [hn']
    exact (him (by omega) (by rw [← hhs]; exact h2) W b rs' c hr' (by rw [he, hhs]) hb).mono fun e w' h => plc_ans h⟩
  have HEQ : Shut (n ≤ 1048576 → hsSum hs ≤ 1048576 → ∀ (W : World) (b c : Option Addr) (r1 r2 : List HoR) (cb cc : Nat), HsRow W b r1 → n = r1.length → hms r1 = hs → HsRow W c r2 → n = r2.length → hms r2 = hs → Calls Try.prog 16 #[.slice b n cb, .slice c n cc] W fun e w' => e = .returned (.bool true) ∧ Below W.heap.size W w') := ⟨fun h1 h2 W b c r1 r2 cb cc q1 l1 e1 q2 l2 e2 => by
    have q := eqHostS_same b c r1 r2 cb cc W q1 q2 (e1.trans e2.symm) (by omega) (fun r hr' => by
      have := hsSum_mem (hs := hms r1) (h := r.h) (List.mem_map_of_mem hr')
      rw [e1] at this
      omega)
    rw [← l1, ← l2] at q
    exact q⟩
  have HMH : Shut (n ≤ 1048576 → hsSum hs ≤ 1048576 → ∃ K : Nat, 0 < K ∧ K ≤ 1000000000 ∧ ∀ (W : World) (b : Option Addr) (r1 : List HoR) (c lo hi : Nat), HsW W b r1 lo hi → n = r1.length → hms r1 = hs → Calls Try.prog 17 #[.slice b n c, .int .i64 1] W fun e w' => e = .returned (.int .i64 K) ∧ ∃ ys : List HoR, HsW w' b ys lo hi ∧ Turned W w' lo hi) := ⟨fun h1 h2 => ⟨endH 1 hs, by rw [endH_eq]; omega, endH_fits (by rw [hhs, ← hsl]; omega) h2, fun W b r1 c lo hi h l1 e1 => by
    have q := markHostS_own b r1 c lo hi W h (by rw [e1]; exact endH_fits (by rw [hhs, ← hsl]; omega) h2) (fun e => by subst e; exact markHostS_nil c b W)
    rw [← l1, e1] at q
    exact q⟩⟩
  have HER := Shut.mk (fun (hrl : RL.length ≤ 1048576) (W : World) (v u : Value) (lo hi lo' hi' : Nat) (h1 : IAns W v RL lo hi) (h2 : IAns W u RL lo' hi') => eqIntS_val h1 h2 hrl)
  have HMR := Shut.mk (fun (hrl : RL.length ≤ 1048576) (W : World) (v : Value) (lo hi : Nat) (h : IAns W v RL lo hi) => markIntS_val 1 h (by omega))
  have HHR := Shut.mk (fun (hrl : RL.length ≤ 1048576) (W : World) (v : Value) (lo hi : Nat) (h : IAns W v (marksI 1 RL.length) lo hi) => heldIntS_val h (by omega))
  rw [← hhs, ← hn] at HSZ
  rw [← hn] at hrl ⊢
  obtain ⟨m, hm⟩ : ∃ m, m = RL.length := ⟨_, rfl⟩
  rw [← hm] at HER HMR HHR hrl
  have hdd : (ok != ok) = false := by simp
  clear hr hf hsp him hsl hhs hn hm HR
  go_enter Try.func4, Try.ntmps4
  go_wp2_with fail
  refine HSZ.out.mono ?_
  rintro e w1 ⟨r, rfl, r0, r1, hb⟩
  have H := Shut.mk ((SL.start w).below hb)
  clear hb
  by_cases hq : r < 0
  · clear r1
    go_wp2_with fail
    go_ret
    exact ⟨rfl, H.out.bel⟩
  have hr1 := r1 (by omega)
  have hnl : n ≤ 1048576 := by omega
  replace HTO := Shut.mk (HTO.out (by omega) (by omega))
  replace HSP := Shut.mk (HSP.out (by omega) (by omega))
  replace HIM := Shut.mk (HIM.out (by omega) (by omega))
  replace HEQ := Shut.mk (HEQ.out (by omega) (by omega))
  obtain ⟨K, K0, K1, hmh⟩ := HMH.out (by omega) (by omega)
  replace HMH := Shut.mk hmh
  have hml : m ≤ 1048576 := by omega
  replace HER := Shut.mk (HER.out (by omega))
  replace HMR := Shut.mk (HMR.out (by omega))
  replace HHR := Shut.mk (HHR.out (by omega))
  clear r1 hr1 r0 HSZ hrl hmh
  go_wp2_with fail
  refine (HTO.out _ H.out.bel).mono ?_
  rintro e w2 ⟨gw2, cw2, rsw2, rfl, hlw2, hew2, hw, hb⟩
  replace H := Shut.mk (H.out.below hb)
  have HW := Shut.mk (And.intro hw.row (And.intro hlw2 hew2))
  clear hb hw hlw2 hew2
  go_wp2_with fail
  refine (HSP.out _ _ _ _ HW.out.1 HW.out.2.1 HW.out.2.2).mono ?_
  rintro e w3 ⟨v3, rfl, hF, hb⟩
  replace H := Shut.mk (H.out.add (s := iaS v3 RL _ w3.heap.size) hb hF (iaS.loc _ _ _ _) (Nat.le_refl _) (Nat.le_refl _))
  obtain ⟨l3, h3, H⟩ := hide_ia H
  clear hF hb HW
  go_wp2_with fail
  refine (HTO.out _ H.out.bel).mono ?_
  rintro e w5 ⟨g5, c5, rs5, rfl, hl5, he5, hw, hb⟩
  replace H := Shut.mk (H.out.add (s := hsS g5 rs5 _ w5.heap.size) hb hw (hsS.loc _ _ _ _) (Nat.le_refl _) (Nat.le_refl _))
  obtain ⟨l5, h5, H⟩ := hide_hs H
  have H5 := Shut.mk (And.intro hl5 he5)
  clear hb hw hl5 he5
  go_wp2_with fail
  refine (HIM.out _ _ _ _ (show HsW _ _ _ _ _ from H.out.at 0 rfl).row H5.out.1 H5.out.2 H.out.bel).mono ?_
  rintro e w7 ⟨v7, rfl, hF, hb⟩
  replace H := Shut.mk (H.out.add (s := iaS v7 RL _ w7.heap.size) hb hF (iaS.loc _ _ _ _) (Nat.le_refl _) (Nat.le_refl _))
  obtain ⟨l7, h7, H⟩ := hide_ia H
  clear hF hb
  go_wp2_with fail
  refine (HER.out _ _ _ _ _ _ _ (H.out.at 0 rfl) (H.out.at 2 rfl)).mono ?_
  rintro e w8 ⟨rfl, hb⟩
  replace H := Shut.mk (H.out.below hb)
  clear hb
  go_wp2_with fail
  refine (HTO.out _ H.out.bel).mono ?_
  rintro e w9 ⟨gw9, cw9, rsw9, rfl, hlw9, hew9, hw, hb⟩
  replace H := Shut.mk (H.out.below hb)
  have HW := Shut.mk (And.intro hw.row (And.intro hlw9 hew9))
  clear hb hw hlw9 hew9
  go_wp2_with fail
  refine (HEQ.out _ _ _ _ _ _ _ (show HsW _ _ _ _ _ from H.out.at 1 rfl).row H5.out.1 H5.out.2 HW.out.1 HW.out.2.1 HW.out.2.2).mono ?_
  rintro e w10 ⟨rfl, hb⟩
  replace H := Shut.mk (H.out.below hb)
  clear hb HW
  go_wp2_with fail
  refine (HMH.out _ _ _ _ _ _ (H.out.at 1 rfl) H5.out.1 H5.out.2).mono ?_
  rintro e w11 ⟨rfl, ys, hF, ht⟩
  replace H := Shut.mk (H.out.turn 1 rfl ht hF (hsS.loc _ _ _ _))
  clear hF ht H5
  have K2 : ¬ ((K : Nat) : Int) < 0 := by omega
  go_wp2_with fail
  refine (HER.out _ _ _ _ _ _ _ (H.out.at 0 rfl) (H.out.at 2 rfl)).mono ?_
  rintro e w12 ⟨rfl, hb⟩
  replace H := Shut.mk (H.out.below hb)
  clear hb
  go_wp2_with fail
  refine (HMR.out _ _ _ _ (H.out.at 0 rfl)).mono ?_
  rintro e w13 ⟨rfl, hF, ht⟩
  replace H := Shut.mk (H.out.turn 0 rfl ht hF (iaS.loc _ _ _ _))
  clear hF ht
  go_wp2_with fail
  refine (HHR.out _ _ _ _ (H.out.at 0 rfl)).mono ?_
  rintro e w14 ⟨rfl, hb⟩
  replace H := Shut.mk (H.out.below hb)
  clear hb
  go_wp2_with fail
  refine (HTO.out _ H.out.bel).mono ?_
  rintro e w15 ⟨gw15, cw15, rsw15, rfl, hlw15, hew15, hw, hb⟩
  replace H := Shut.mk (H.out.below hb)
  have HW := Shut.mk (And.intro hw.row (And.intro hlw15 hew15))
  clear hb hw hlw15 hew15
  go_wp2_with fail
  refine (HIM.out _ _ _ _ HW.out.1 HW.out.2.1 HW.out.2.2 H.out.bel).mono ?_
  rintro e w16 ⟨v16, rfl, hF, hb⟩
  replace H := Shut.mk (H.out.add (s := iaS v16 RL _ w16.heap.size) hb hF (iaS.loc _ _ _ _) (Nat.le_refl _) (Nat.le_refl _))
  obtain ⟨l16, h16, H⟩ := hide_ia H
  clear hF hb HW
  go_wp2_with fail
  refine (HER.out _ _ _ _ _ _ _ (H.out.at 0 rfl) (H.out.at 3 rfl)).mono ?_
  rintro e w17 ⟨rfl, hb⟩
  replace H := Shut.mk (H.out.below hb)
  clear hb
  go_wp2_with fail
  refine (HHR.out _ _ _ _ (H.out.at 1 rfl)).mono ?_
  rintro e w18 ⟨rfl, hb⟩
  replace H := Shut.mk (H.out.below hb)
  clear hb
  go_wp2_with fail
  go_ret
  exact ⟨rfl, H.out.bel⟩
end Go.Proofs.Ytoaifodmjkhiiaa
/- HeM: A heap of places, plain: how one goes up, how one goes down, who comes first. -/
namespace Go.Proofs.Ytoaifodmjkhiiaa
set_option maxRecDepth 100000
open Go.RowKit

def par (k : Nat) : Nat := (k - 1) / 2
def sw (Q : List Nat) (i j : Nat) : List Nat := (Q.set i (Q.getD j 0)).set j (Q.getD i 0)
theorem sw_len (Q : List Nat) (i j : Nat) : (sw Q i j).length = Q.length := by simp [sw]
theorem sw_at (Q : List Nat) (i j : Nat) (hi : i < Q.length) (hj : j < Q.length) (t : Nat) : (sw Q i j).getD t 0 = if t = j then Q.getD i 0 else if t = i then Q.getD j 0 else Q.getD t 0 := by
  unfold sw
  simp only [List.getD, List.getElem?_set, List.length_set]
  by_cases h1 : j = t
  · subst h1
    simp [hj]
  · by_cases h2 : i = t
    · subst h2
      simp [hi, h1, Ne.symm h1]
    · simp [h1, h2, Ne.symm h1, Ne.symm h2]
theorem sw_perm (Q : List Nat) (i j : Nat) (hi : i < Q.length) (hj : j < Q.length) : (sw Q i j).Perm Q := by
  have e1 : Q.getD i 0 = Q[i] := by simp [List.getD, hi]
  have e2 : Q.getD j 0 = Q[j] := by simp [List.getD, hj]
  unfold sw
  rw [e1, e2]
  exact List.set_set_perm hi hj
theorem lt3_asymm {p : Nat → Nat × Int} {a b : Nat} (h : lt3 p a b) : ¬ lt3 p b a := by
  unfold lt3 at *
  omega
theorem le3_trans {p : Nat → Nat × Int} {a b c : Nat} (h : ¬ lt3 p b a) (k : ¬ lt3 p c b) : ¬ lt3 p c a := by
  unfold lt3 at *
  omega
/-- A heap, up to a place. -/
def HpN (p : Nat → Nat × Int) (Q : List Nat) (n : Nat) : Prop := ∀ k, 0 < k → k < n → ¬ lt3 p (Q.getD k 0) (Q.getD (par k) 0)
theorem par_lt {k : Nat} (h : 0 < k) : par k < k := by unfold par; omega
theorem HpN.first {p : Nat → Nat × Int} {Q : List Nat} {n : Nat} (h : HpN p Q n) : ∀ k, k < n → ¬ lt3 p (Q.getD k 0) (Q.getD 0 0) := by
  intro k
  induction k using Nat.strongRecOn with
  | ind k ih =>
    intro hk
    by_cases h0 : k = 0
    · subst h0
      unfold lt3
      omega
    · have l := par_lt (k := k) (by omega)
      exact le3_trans (ih _ l (by omega)) (h k (by omega) hk)
/-- One is on its way up. -/
structure UpI (p : Nat → Nat × Int) (Q : List Nat) (n j : Nat) : Prop where
  rest : ∀ k, 0 < k → k < n → k ≠ j → ¬ lt3 p (Q.getD k 0) (Q.getD (par k) 0)
  kids : ∀ k, 0 < k → k < n → par k = j → 0 < j → ¬ lt3 p (Q.getD k 0) (Q.getD (par j) 0)
theorem UpI.done {p : Nat → Nat × Int} {Q : List Nat} {n : Nat} (h : UpI p Q n 0) : HpN p Q n := fun k h0 hk => h.rest k h0 hk (by omega)
theorem UpI.stop {p : Nat → Nat × Int} {Q : List Nat} {n j : Nat} (h : UpI p Q n j) (hl : ¬ lt3 p (Q.getD j 0) (Q.getD (par j) 0)) : HpN p Q n := fun k h0 hk => by
  by_cases e : k = j
  · subst e; exact hl
  · exact h.rest k h0 hk e
theorem UpI.swap {p : Nat → Nat × Int} {Q : List Nat} {n j : Nat} (h : UpI p Q n j) (h0 : 0 < j) (hj : j < n) (hn : n ≤ Q.length) (hl : lt3 p (Q.getD j 0) (Q.getD (par j) 0)) : UpI p (sw Q (par j) j) n (par j) := by
  have l := par_lt h0
  have e := sw_at Q (par j) j (by omega) (by omega)
  refine ⟨fun k k0 kn kj => ?_, fun k k0 kn kj i0 => ?_⟩
  · have lk := par_lt k0
    by_cases c1 : k = j
    · subst c1
      rw [e k, if_pos rfl, e (par k), if_neg (by omega), if_pos rfl]
      exact lt3_asymm hl
    · rw [e k, if_neg c1, if_neg kj]
      by_cases c2 : par k = j
      · rw [e (par k), if_pos c2]
        exact h.kids k k0 kn c2 h0
      · by_cases c3 : par k = par j
        · rw [e (par k), if_neg c2, if_pos c3]
          have q := h.rest k k0 kn c1
          rw [c3] at q
          exact le3_trans (lt3_asymm hl) q
        · rw [e (par k), if_neg c2, if_neg c3]
          exact h.rest k k0 kn c1
  · have li := par_lt i0
    have lk := par_lt k0
    rw [e (par (par j)), if_neg (by omega), if_neg (by omega)]
    have q := h.rest (par j) i0 (by omega) (by omega)
    by_cases c1 : k = j
    · subst c1
      rw [e k, if_pos rfl]
      exact q
    · rw [e k, if_neg c1, if_neg (by omega)]
      have q2 := h.rest k k0 kn c1
      rw [kj] at q2
      exact le3_trans q q2
/-- One is put behind a heap. -/
theorem HpN.more {p : Nat → Nat × Int} {Q : List Nat} (h : HpN p Q Q.length) (x : Nat) : UpI p (Q ++ [x]) (Q.length + 1) Q.length := by
  have e : ∀ k, k < Q.length → (Q ++ [x]).getD k 0 = Q.getD k 0 := fun k hk => by simp [List.getD, List.getElem?_append_left hk]
  refine ⟨fun k k0 kn kj => ?_, fun k k0 kn kj _ => ?_⟩
  · have lk := par_lt k0
    rw [e k (by omega), e (par k) (by omega)]
    exact h k k0 (by omega)
  · have lk := par_lt k0
    omega
/-- One is on its way down. -/
structure DnI (p : Nat → Nat × Int) (Q : List Nat) (n i : Nat) : Prop where
  rest : ∀ k, 0 < k → k < n → par k ≠ i → ¬ lt3 p (Q.getD k 0) (Q.getD (par k) 0)
  kids : ∀ k, 0 < k → k < n → par k = i → 0 < i → ¬ lt3 p (Q.getD k 0) (Q.getD (par i) 0)
theorem par_is {k i : Nat} (h0 : 0 < k) : par k = i ↔ k = 2 * i + 1 ∨ k = 2 * i + 2 := by unfold par; omega
theorem DnI.stop {p : Nat → Nat × Int} {Q : List Nat} {n i : Nat} (h : DnI p Q n i) (h1 : 2 * i + 1 < n → ¬ lt3 p (Q.getD (2 * i + 1) 0) (Q.getD i 0)) (h2 : 2 * i + 2 < n → ¬ lt3 p (Q.getD (2 * i + 2) 0) (Q.getD i 0)) : HpN p Q n := fun k h0 hk => by
  by_cases e : par k = i
  · rw [e]
    rcases (par_is h0).1 e with rfl | rfl
    · exact h1 hk
    · exact h2 hk
  · exact h.rest k h0 hk e
theorem DnI.swap {p : Nat → Nat × Int} {Q : List Nat} {n i j : Nat} (h : DnI p Q n i) (hj : par j = i) (h0 : 0 < j) (hjn : j < n) (hn : n ≤ Q.length) (hl : lt3 p (Q.getD j 0) (Q.getD i 0))
    (h1 : ¬ lt3 p (Q.getD (2 * i + 1) 0) (Q.getD j 0)) (h2 : 2 * i + 2 < n → ¬ lt3 p (Q.getD (2 * i + 2) 0) (Q.getD j 0)) : DnI p (sw Q i j) n j := by
  have l := par_lt h0
  have e := sw_at Q i j (by omega) (by omega)
  refine ⟨fun k k0 kn kj => ?_, fun k k0 kn kj _ => ?_⟩
  · have lk := par_lt k0
    by_cases c1 : k = j
    · subst c1
      rw [e k, if_pos rfl, hj, e i, if_neg (by omega), if_pos rfl]
      exact lt3_asymm hl
    · rw [e k, if_neg c1]
      by_cases c2 : k = i
      · subst c2
        rw [if_pos rfl, e (par k), if_neg kj, if_neg (by omega)]
        exact h.kids j h0 hjn hj k0
      · rw [if_neg c2, e (par k), if_neg kj]
        by_cases c3 : par k = i
        · rw [if_pos c3]
          rcases (par_is k0).1 c3 with rfl | rfl
          · exact h1
          · exact h2 kn
        · rw [if_neg c3]
          exact h.rest k k0 kn c3
  · have lk := par_lt k0
    rw [hj, e i, if_neg (by omega), if_pos rfl, e k, if_neg (by omega), if_neg (by omega)]
    have q := h.rest k k0 kn (by omega)
    rw [kj] at q
    exact q
/-- The first one goes to the end. -/
theorem HpN.pop {p : Nat → Nat × Int} {Q : List Nat} {n : Nat} (h : HpN p Q (n + 1)) (hn : Q.length = n + 1) : DnI p (sw Q 0 n) n 0 := by
  have e := sw_at Q 0 n (by omega) (by omega)
  refine ⟨fun k k0 kn kj => ?_, fun k k0 kn kj i0 => by omega⟩
  have lk := par_lt k0
  rw [e k, if_neg (by omega), if_neg (by omega), e (par k), if_neg (by omega), if_neg (by omega)]
  exact h k k0 (by omega)
theorem HpN.take {p : Nat → Nat × Int} {Q : List Nat} {n : Nat} (h : HpN p Q n) : HpN p (Q.take n) n := by
  have e : ∀ k, k < n → (Q.take n).getD k 0 = Q.getD k 0 := fun k hk => by simp [List.getD, hk]
  intro k k0 kn
  have lk := par_lt k0
  rw [e k kn, e (par k) (by omega)]
  exact h k k0 kn
/-- Those that came first, and those that wait. -/
structure Out (p : Nat → Nat × Int) (U P Q : List Nat) : Prop where
  all : (P ++ Q).Perm U
  up : P.Pairwise fun a b => ¬ lt3 p b a
  ahead : ∀ a ∈ P, ∀ b ∈ Q, ¬ lt3 p b a
theorem Out.start {p : Nat → Nat × Int} {U Q : List Nat} (h : Q.Perm U) : Out p U [] Q := ⟨h, .nil, fun a ha => by cases ha⟩
theorem Out.next {p : Nat → Nat × Int} {U P Q R : List Nat} {n : Nat} (h : Out p U P Q) (hh : HpN p Q (n + 1)) (hn : Q.length = n + 1) (hr : R.Perm Q) (hl : R.getD n 0 = Q.getD 0 0) : Out p U (P ++ [Q.getD 0 0]) (R.take n) := by
  have hrl := hr.length_eq
  have e : R = R.take n ++ [Q.getD 0 0] := by
    have e1 : R[n]'(by omega) = Q.getD 0 0 := by rw [← hl]; simp [List.getD, show n < R.length by omega]
    have e2 : R.take (n + 1) = R := List.take_of_length_le (by omega)
    conv => lhs; rw [← e2]
    rw [List.take_succ_eq_append_getElem (by omega), e1]
  have hq : (Q.getD 0 0 :: R.take n).Perm Q := by
    refine List.Perm.trans ?_ hr
    conv => rhs; rw [e]
    exact (List.perm_append_comm (l₁ := [Q.getD 0 0]) (l₂ := R.take n))
  have q0 : Q.getD 0 0 ∈ Q := hq.mem_iff.1 (List.mem_cons_self ..)
  refine ⟨?_, ?_, fun a ha b hb => ?_⟩
  · rw [List.append_assoc]
    exact (hq.append_left P).trans h.all
  · rw [List.pairwise_append]
    refine ⟨h.up, List.pairwise_singleton _ _, fun a ha b hb => ?_⟩
    rw [List.mem_singleton.1 hb]
    exact h.ahead a ha _ q0
  · have hbQ : b ∈ Q := hq.mem_iff.1 (List.mem_cons_of_mem _ hb)
    rcases List.mem_append.1 ha with ha | ha
    · exact h.ahead a ha b hbQ
    · rw [List.mem_singleton.1 ha]
      obtain ⟨k, hk, rfl⟩ := List.getElem_of_mem hbQ
      have := hh.first k (by omega)
      simpa [List.getD, hk] using this
/-- Who came first are the first of the order. -/
theorem Out.is {hs : List HM} {P Q : List Nat} (h : Out (pk hs) (upTo hs hs.length) P Q) : P.map (pk hs) = (ordP hs).take P.length := by
  have hle : ∀ a b, ¬ lt3 (pk hs) b a → plLe (pk hs a) (pk hs b) = true := fun a b q => by
    rw [plLe_iff]
    unfold lt3 at q
    omega
  have e : P.map (pk hs) ++ (Q.map (pk hs)).mergeSort plLe = ordP hs := by
    refine ordP_of ?_ ?_
    · rw [← upTo_pairs]
      refine List.Perm.trans (List.Perm.append_left _ (List.mergeSort_perm _ _)) ?_
      rw [← List.map_append]
      exact h.all.map _
    · rw [List.pairwise_append]
      refine ⟨?_, List.pairwise_mergeSort (fun a b c h k => by rw [plLe_iff] at *; omega) (fun a b => by rw [Bool.or_eq_true, plLe_iff, plLe_iff]; omega) _, fun a ha b hb => ?_⟩
      · rw [List.pairwise_map]
        exact h.up.imp fun q => hle _ _ q
      · obtain ⟨x, hx, rfl⟩ := List.mem_map.1 ha
        obtain ⟨y, hy, rfl⟩ := List.mem_map.1 ((List.mergeSort_perm _ _).mem_iff.1 hb)
        exact hle x y (h.ahead x hx y hy)
  rw [← e, List.take_append_of_le_length (by simp), List.take_of_length_le (by simp)]
end Go.Proofs.Ytoaifodmjkhiiaa
/- TreC: Copies of trees. -/
namespace Go.Proofs.Ytoaifodmjkhiiaa
set_option maxRecDepth 100000
open Go.RowKit
attribute [local go_sem ↓] Go.wp_at_zero Go.wp_at_succ

/-- A copy of pieces. -/
def ToPieces (ps : List PM) (w : World) (e : Ending) (w' : World) : Prop := ∃ g, e = .returned (.slice (some ⟨g, 0, none⟩) ps.length ps.length) ∧ w.heap.size ≤ g ∧ WCells w' g (pcs ps) ∧ Below w.heap.size w w'
/-- A copy of a node. -/
def ToNode (r : NR) (w : World) (e : Ending) (w' : World) : Prop := ∃ g, e = .returned (nv ⟨r.nd, some ⟨g, 0, none⟩, r.nd.pieces.length⟩) ∧ w.heap.size ≤ g ∧ WCells w' g (pcs r.nd.pieces) ∧ Below w.heap.size w w'
/-- Three new blocks: what came in, the answer, and what is made on the way. -/
structure Tri (w W : World) (L1 L2 L3 : List Value) : Prop where
  bel : Below w.heap.size w W
  b1 : WCells W w.heap.size L1
  b2 : WCells W (w.heap.size + 1) L2
  b3 : WCells W (w.heap.size + 1 + 1) L3
theorem Tri.new (w : World) (A B C : Array Value) (tA tB tC : TypeId) : Tri w (((w.alloc (.cells A tA)).alloc (.cells B tB)).alloc (.cells C tC)) A.toList B.toList C.toList := by
  have e1 : (w.alloc (.cells A tA)).heap.size = w.heap.size + 1 := by simp
  have e2 : ((w.alloc (.cells A tA)).alloc (.cells B tB)).heap.size = w.heap.size + 1 + 1 := by simp
  refine ⟨(((Below.refl _ _).alloc (Nat.le_refl _) _).alloc (by simp) _).alloc (by simp; omega) _, ((wcells_new w A tA).alloc _).alloc _, ?_, ?_⟩
  · have := (wcells_new (w.alloc (.cells A tA)) B tB).alloc (.cells C tC)
    rw [e1] at this; exact this
  · have := wcells_new ((w.alloc (.cells A tA)).alloc (.cells B tB)) C tC
    rw [e2] at this; exact this
theorem Tri.set {w W : World} {L1 L2 L3 : List Value} (h : Tri w W L1 L2 L3) (i : Nat) (v : Value) (hi : i < L3.length) : Tri w (W.setCell ⟨w.heap.size + 1 + 1, i, none⟩ v) L1 L2 (L3.set i v) :=
  ⟨h.bel.setCell (p := ⟨w.heap.size + 1 + 1, i, none⟩) (by show w.heap.size ≤ w.heap.size + 1 + 1; omega) v, h.b1.other _ _ (by show w.heap.size ≠ w.heap.size + 1 + 1; omega), h.b2.other _ _ (by show w.heap.size + 1 ≠ w.heap.size + 1 + 1; omega), h.b3.set i v hi⟩
theorem Tri.below {w W W' : World} {L1 L2 L3 : List Value} (h : Tri w W L1 L2 L3) (hb : Below W.heap.size W W') : Tri w W' L1 L2 L3 := ⟨h.bel.trans (hb.mono h.bel.size), h.b1.grow hb, h.b2.grow hb, h.b3.grow hb⟩
end Go.Proofs.Ytoaifodmjkhiiaa
/- TreD: Copies of rows of nodes, and of trees. -/
namespace Go.Proofs.Ytoaifodmjkhiiaa
set_option maxRecDepth 100000
open Go.RowKit
attribute [local go_sem ↓] Go.wp_at_zero Go.wp_at_succ

theorem pcs_ne {ps : List PM} (h : ps ≠ []) : pcs ps ≠ [] := fun e => h (pcs_nil.1 e)
/-- A node that was copied takes its place. -/
theorem TW.copy {wr w2 : World} {g g' : Nat} {gs : List NR} {B : Nat} (h : TW wr g gs B wr.heap.size) (hb : Below wr.heap.size wr w2) (j : Nat) (hj : j < gs.length) (nd : NM) (hg : wr.heap.size ≤ g') (hw : WCells w2 g' (pcs nd.pieces)) (hB : B ≤ wr.heap.size) :
    TW (setW w2 g (j * 9) (ncells ⟨nd, some ⟨g', 0, none⟩, nd.pieces.length⟩)) g (gs.set j ⟨nd, some ⟨g', 0, none⟩, nd.pieces.length⟩) B w2.heap.size := by
  refine GW.put (K := NKind) ((h.below hb).wide (Nat.le_refl _) hb.size) j hj ⟨nd, some ⟨g', 0, none⟩, nd.pieces.length⟩ ?_ ?_
  · exact .inr ⟨g', rfl, by omega, hw.1, by have := h.out.1; omega, hw⟩
  · intro s hs h1 _ e
    rcases h.rows s hs with q | ⟨b, e2, _, q2, _, _⟩
    · exact h1 q
    · have : b = g' := congrArg Addr.block (Option.some.inj (e2.symm.trans e))
      omega
theorem setW_size (w : World) (g off : Nat) (vs : List Value) : (setW w g off vs).heap.size = w.heap.size := by
  induction vs generalizing w off with
  | nil => rfl
  | cons v vs ih => show (setW _ g (off + 1) vs).heap.size = _; rw [ih]; simp [World.setCell]
theorem setW9 (w : World) (g o : Nat) (v0 v1 v2 v3 v4 v5 v6 v7 v8 : Value) : setW w g o [v0, v1, v2, v3, v4, v5, v6, v7, v8] = ((((((((w.setCell ⟨g, o, none⟩ v0).setCell ⟨g, o + 1, none⟩ v1).setCell ⟨g, o + 2, none⟩ v2).setCell ⟨g, o + 3, none⟩ v3).setCell ⟨g, o + 4, none⟩ v4).setCell ⟨g, o + 5, none⟩ v5).setCell ⟨g, o + 6, none⟩ v6).setCell ⟨g, o + 7, none⟩ v7).setCell ⟨g, o + 8, none⟩ v8 := rfl
/-- A copy of a row of nodes. -/
def ToNodes (rs : List NR) (w : World) (e : Ending) (w' : World) : Prop := ∃ g ts, e = .returned (.slice (some ⟨g, 0, none⟩) ts.length ts.length) ∧ nds ts = nds rs ∧ TW w' g ts w.heap.size w'.heap.size ∧ Below w.heap.size w w'
end Go.Proofs.Ytoaifodmjkhiiaa
