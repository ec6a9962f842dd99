/- The walk of the model's JoinUnits. -/
import Derived.Test.YtpcedackanfnjaaSpnC
import Derived.Test.YtpcedackanfnjaaHexM
import Derived.PlainAid
namespace Go.Proofs.Ytpcedackanfnjaa
open Go.RowKit
attribute [local go_sem ↓] Go.wp_at_zero Go.wp_at_succ

def joinAt (k : Nat) (U : List ByteArray) (i : Nat) : UInt8 := (U.getD (unitAt k i) ⟨#[]⟩).data.toList.getD (placeIn k i) 0
def joinL (k : Nat) (U : List ByteArray) (n : Nat) : List UInt8 := (List.range n).map (joinAt k U)
def joinX (s : Int) (U : List ByteArray) (n : Int) : ByteArray × Bool := if schOk s = true ∧ U.length = schK s ∧ 0 ≤ n ∧ n ≤ (groupN s : Int) then (⟨(joinL (schK s) U n.toNat).toArray⟩, true) else (⟨#[]⟩, false)
theorem joinX_no {s : Int} {U : List ByteArray} {n : Int} (h : ¬ (schOk s = true ∧ U.length = schK s ∧ 0 ≤ n ∧ n ≤ (groupN s : Int))) : joinX s U n = (⟨#[]⟩, false) := if_neg h
def JoinPost (R : ByteArray × Bool) (w : World) (e : Ending) (w' : World) : Prop := e = .returned (.tuple #[.string R.1, .bool R.2]) ∧ Below w.heap.size w w'
theorem joinL_len (k : Nat) (U : List ByteArray) (n : Nat) : (joinL k U n).length = n := by simp [joinL]
theorem joinL_succ (k : Nat) (U : List ByteArray) (n : Nat) : bv (joinL k U (n + 1)) = bv (joinL k U n) ++ [.int .u8 ((joinAt k U n).toNat : Int)] := by
  unfold joinL; rw [List.range_succ, List.map_append]; simp [bv]
theorem get_byte (s : ByteArray) (k : Nat) (h : k < s.size) : Go.PlainAid.bt s k = ((s.data.toList.getD k 0).toNat : Int) := by
  unfold Go.PlainAid.bt
  rw [dif_pos h]
  have : s.data.toList.getD k 0 = s[k] := by
    have hk : k < s.data.size := h
    rw [List.getD_eq_getElem?_getD, Array.getElem?_toList, Array.getElem?_eq_getElem hk]
    rfl
  rw [this]
theorem get_none (s : ByteArray) (k : Nat) (h : ¬ k < s.size) : s.data.toList.getD k 0 = 0 := by
  have hk : s.data.toList.length ≤ k := by simpa using h
  rw [List.getD_eq_getElem?_getD, List.getElem?_eq_none hk]; rfl
theorem units_cells {w : World} {a : Option Addr} {L : List ByteArray} {lo hi : Nat} (h : RRow w a (tv L) lo hi) (hp : 0 < L.length) : ∃ b off, a = some ⟨b, off, none⟩ ∧ b < w.heap.size ∧ ∀ j, j < L.length → w.cell? ⟨b, off + j, none⟩ = some (.string (L.getD j ⟨#[]⟩)) := by
  obtain ⟨b, off, e, _, _, hb, hc⟩ := h (by rw [tv_len]; exact hp)
  exact ⟨b, off, e, hb, fun j hj => hc j _ (tv_get L j hj)⟩
set_option maxRecDepth 100000 in
set_option maxHeartbeats 2000000 in
theorem specJoin_walk (s : Int) (U : List ByteArray) (N k b2 o2 cap2 : Nat) (w : World) (hok : schOk s = true) (hk : schK s = k) (hul : U.length = k) (hN : N ≤ groupN s) (hU : b2 < w.heap.size ∧ ∀ j, j < k → w.cell? ⟨b2, o2 + j, none⟩ = some (.string (U.getD j ⟨#[]⟩))) :
    Calls Try.prog 28 #[.int .i64 s, .slice (some ⟨b2, o2, none⟩) k cap2, .int .i64 (N : Int)] w fun e w' => JoinPost (joinX s U (N : Int)) w e w' := by
  obtain ⟨i0, hi0, hz0, hz1, hz2⟩ := info_parts Try.info5
  obtain ⟨c1, c2, _, _⟩ := sch_bounds hok
  have HS := Shut.mk (fun W => specSchema s W)
  unfold SchPost at HS
  have HG := Shut.mk (fun W => specGroupSize s W)
  have hg32 := groupN_bounds s
  have hin : (decide ((0 : Int) ≤ (N : Int)) && decide ((N : Int) ≤ (groupN s : Int))) = true := by simp; omega
  have HIN := Shut.mk (fun W => isIn (N : Int) 0 (groupN s : Int) W true hin)
  have e0 : joinX s U (N : Int) = (⟨(joinL (schK s) U N).toArray⟩, true) := by unfold joinX; rw [if_pos ⟨hok, by rw [hul, hk], by omega, by omega⟩]; rfl
  have HPL := Shut.mk (fun (i : Nat) W => specPlaceOf s (i : Int) W)
  have hpx : ∀ i : Nat, i < N → placeX s (i : Int) = (i / (schK s * 8), unitAt (schK s) i, placeIn (schK s) i) := fun i hi => by
    unfold placeX; rw [if_pos ⟨hok, by omega, by omega⟩]; rfl
  have HPX := Shut.mk hpx
  have HU := Shut.mk hU
  rw [hok] at HS
  unfold JoinPost
  rw [e0]
  rw [hk] at HS HPX c1 c2 ⊢
  have hkk : ((k : Int) != (k : Int)) = false := by simp
  have hal : Below w.heap.size w (w.alloc (.cells #[] 5)) := (Below.refl _ _).alloc (Nat.le_refl _) _
  have HAL := Shut.mk hal
  have HO : Shut ((w.alloc (.cells #[] 5)).ownsRow w.heap.size 5 1 (.slice (some ⟨w.heap.size, 0, none⟩) 0 0) 0 (bv (joinL k U 0))) := ⟨World.ownsRow_made w #[] 0 (Nat.le_refl _) (by decide) rfl⟩
  clear hok hk hul hU hin e0 hpx hal
  generalize schM s = m at *
  generalize groupN s = S at *
  go_enter Try.func28, Try.ntmps28
  go_wp2_with fail
  refine (HS.out _).mono ?_
  rintro e w1 ⟨rfl, rfl⟩
  go_wp2_with fail
  refine (HG.out _).mono ?_
  rintro e w2 ⟨rfl, rfl⟩
  go_wp2_with fail
  refine (HIN.out _).mono ?_
  rintro e w3 ⟨rfl, rfl⟩
  go_wp2_with fail
  go_loopw [11, 12] (fun v ii wr => ∃ (i : Nat) (vv : Value), vv = v ∧ ii = .int .i64 (i : Nat) ∧ i ≤ N ∧ Shut (wr.ownsRow w3.heap.size 5 1 vv i (bv (joinL k U i))) ∧ Shut (Below w3.heap.size w3 wr)) (fun _ ii _ => N - (intOf ii).toNat)
  case atStart => exact ⟨0, _, rfl, rfl, Nat.zero_le _, HO, HAL⟩
  case round =>
    clear HO HAL
    obtain ⟨i, v, rfl, rfl, hin, hown, hb⟩ := hrel
    obtain ⟨wo, rfl⟩ : ∃ wo, wo = wr := ⟨_, rfl⟩
    by_cases hlt : i < N
    · have hlt' : (i : Int) < (N : Int) := by omega
      have i0' : (0 : Int) ≤ (i : Int) := by omega
      have HP1 := Shut.mk (HPL.out i)
      unfold PlacePost at HP1
      rw [HPX.out i hlt] at HP1
      have huk := unit_lt (show 0 < k by omega) i
      have hst := joinL_succ k U i
      have hjat : joinAt k U i = (U.getD (unitAt k i) ⟨#[]⟩).data.toList.getD (placeIn k i) 0 := rfl
      have HCU := Shut.mk (HU.out.2 (unitAt k i) huk)
      have hpl : placeIn k i ≤ 40 := by
        have h1 : i % (k * 8) < k * 8 := Nat.mod_lt _ (by omega)
        have h2 : i % (k * 8) / 4 / k ≤ 8 := Nat.le_trans (Nat.div_le_self _ _) (by omega)
        unfold placeIn; omega
      generalize U.getD (unitAt k i) ⟨#[]⟩ = x at *
      generalize unitAt k i = u at *
      generalize placeIn k i = pl at *
      generalize i / (k * 8) = gq at *
      have u0 : (0 : Int) ≤ (u : Int) := by omega
      have u1 : (u : Int) < (k : Int) := by omega
      have p0 : (0 : Int) ≤ (pl : Int) := by omega
      have HST := Shut.mk hst
      have HJ := Shut.mk hjat
      clear hst hjat
      go_wp2_with fail
      refine (HP1.out _).mono ?_
      rintro e w5 ⟨rfl, hb5⟩
      have hown5 := hown.out.kept (row := none) ⟨hb5.os, hb5.tape, hb5.output, hb5.size, fun k hk _ => hb5.block k hk⟩ (Classical.em _)
      have HB5 := Shut.mk (hb.out.trans (hb5.mono hb.out.size))
      have d := (HB5.out.cell (p := ⟨b2, o2 + u, none⟩) HU.out.1).trans HCU.out
      have hs5 := HB5.out.size
      clear hb5 hown hb HP1 HCU
      by_cases hpx : pl < x.size
      · have hpx' : (pl : Int) < (x.size : Int) := by omega
        have hix := index_str x pl hpx
        rw [get_byte x pl hpx, ← HJ.out] at hix
        generalize joinAt k U i = c at *
        go_wp2_with (at_builtin; refine wpList_append_own _ rfl _ _ 22 rfl w3.heap.size 5 i0 (.int .u8 0) 1 1 Try.underlying22 hi0 hz0 hz1 hz2 rfl (by decide) _ _ _ rfl (hown5.alloc _) ⟨w5.heap.size, 0, none⟩ 1 1 [.int .u8 (c.toNat : Int)] rfl rfl (cell_one_new _ _ _) ?c2 ?c3 ?c4 ?c5 ?_)
        case c2 => intro u hu; simp at hu; subst hu; rfl
        case c3 => unfold maxLen; omega
        case c4 => omega
        case c5 => simp; omega
        intro v' w6 hown' hgrow _
        rw [← HST.out] at hown'
        have Q1 := Shut.mk hown'
        have Q2 := Shut.mk ((HB5.out.alloc hs5 (.cells #[.int .u8 (c.toNat : Int)] 5)).grown hgrow (by simp; omega) (fun q hq => (hown5.lt q hq).1))
        clear hown' hgrow hown5
        go_wp2_with fail
        exact ⟨⟨i + 1, v', rfl, by go_num, by omega, Q1, Q2⟩, by simp [intOf]; omega⟩
      · have hpx' : ¬ (pl : Int) < (x.size : Int) := by omega
        have hpx2 : (x.size : Int) ≤ (pl : Int) := by omega
        have hc0 : joinAt k U i = 0 := by rw [HJ.out]; exact get_none x pl hpx
        rw [hc0] at HST
        clear hc0 HJ
        go_wp2_with (at_builtin; refine wpList_append_own _ rfl _ _ 22 rfl w3.heap.size 5 i0 (.int .u8 0) 1 1 Try.underlying22 hi0 hz0 hz1 hz2 rfl (by decide) _ _ _ rfl (hown5.alloc _) ⟨w5.heap.size, 0, none⟩ 1 1 [.int .u8 0] rfl rfl (cell_one_new _ _ _) ?c2 ?c3 ?c4 ?c5 ?_)
        case c2 => intro u hu; simp at hu; subst hu; rfl
        case c3 => unfold maxLen; omega
        case c4 => omega
        case c5 => simp; omega
        intro v' w6 hown' hgrow _
        have Q1 : Shut (w6.ownsRow w3.heap.size 5 1 v' (i + 1) (bv (joinL k U (i + 1)))) := ⟨by rw [HST.out]; exact hown'⟩
        have Q2 := Shut.mk ((HB5.out.alloc hs5 (.cells #[.int .u8 0] 5)).grown hgrow (by simp; omega) (fun q hq => (hown5.lt q hq).1))
        clear hown' hgrow hown5
        go_wp2_with fail
        exact ⟨⟨i + 1, v', rfl, by go_num, by omega, Q1, Q2⟩, by simp [intOf]; omega⟩
    · have e : i = N := by omega
      subst e
      have hlt' : ¬ (i : Int) < (i : Int) := by omega
      have hcv := own_string (l := joinL k U i) (by rw [joinL_len]; exact hown.out)
      clear hown
      go_wp2_with fail
      go_ret2
      exact ⟨rfl, hb.out⟩
/-- JoinUnits' model, at every argument. -/
theorem specJoinUnits {w : World} {u : Value} {U : List ByteArray} {lo hi : Nat} (s n : Int) (hu : SSee w u U lo hi) (hf : TFit U) : Calls Try.prog 28 #[.int .i64 s, u, .int .i64 n] w fun e w' => JoinPost (joinX s U n) w e w' := by
  obtain ⟨a2, cap2, rfl, hm2⟩ := hu
  have hlf : U.length ≤ 1048576 := by unfold TFit at hf; omega
  have HS := Shut.mk (fun W => specSchema s W)
  unfold SchPost at HS
  cases h : schOk s with
  | false =>
    unfold JoinPost
    rw [joinX_no (fun q => by rw [h] at q; cases q.1)]
    rw [h] at HS
    clear h hm2 hf
    generalize schK s = k at *
    generalize schM s = m at *
    go_enter Try.func28, Try.ntmps28
    go_wp2_with fail
    refine (HS.out _).mono ?_
    rintro e w1 ⟨rfl, rfl⟩
    go_wp2_with fail
    go_ret2
    exact ⟨rfl, Below.refl _ _⟩
  | true =>
    obtain ⟨b1, b2, _, _⟩ := sch_bounds h
    by_cases hl : U.length = schK s
    · by_cases hn : 0 ≤ n ∧ n ≤ (groupN s : Int)
      · obtain ⟨b, off, rfl, lb, hc⟩ := units_cells hm2 (by omega)
        obtain ⟨N, rfl⟩ := Int.eq_ofNat_of_zero_le hn.1
        rw [hl]
        exact specJoin_walk s U N (schK s) b off cap2 w h rfl hl (by omega) ⟨lb, fun j hj => hc j (by omega)⟩
      · unfold JoinPost
        rw [joinX_no (fun q => hn q.2.2)]
        have hin : (decide ((0 : Int) ≤ n) && decide (n ≤ (groupN s : Int))) = false := by simp only [Bool.and_eq_false_iff, decide_eq_false_iff_not]; omega
        have HIN := Shut.mk (fun W => isIn n 0 (groupN s : Int) W false hin)
        have HG := Shut.mk (fun W => specGroupSize s W)
        rw [h] at HS
        rw [hl]
        have hkk : ((schK s : Int) != (schK s : Int)) = false := by simp
        clear h hm2 hf hn hin hl
        generalize schK s = k at *
        generalize schM s = m at *
        generalize groupN s = S at *
        go_enter Try.func28, Try.ntmps28
        go_wp2_with fail
        refine (HS.out _).mono ?_
        rintro e w1 ⟨rfl, rfl⟩
        go_wp2_with fail
        refine (HG.out _).mono ?_
        rintro e w2 ⟨rfl, rfl⟩
        go_wp2_with fail
        refine (HIN.out _).mono ?_
        rintro e w3 ⟨rfl, rfl⟩
        go_wp2_with fail
        go_ret2
        exact ⟨rfl, Below.refl _ _⟩
    · unfold JoinPost
      rw [joinX_no (fun q => hl q.2.1)]
      have hne : ((U.length : Int) != (schK s : Int)) = true := by rw [bne_iff_ne]; omega
      rw [h] at HS
      clear h hm2 hf hl
      generalize schK s = k at *
      generalize schM s = m at *
      go_enter Try.func28, Try.ntmps28
      go_wp2_with fail
      refine (HS.out _).mono ?_
      rintro e w1 ⟨rfl, rfl⟩
      go_wp2_with fail
      go_ret2
      exact ⟨rfl, Below.refl _ _⟩
end Go.Proofs.Ytpcedackanfnjaa
