/- Texts of ours, laid one behind the other: TSpnA, TSpnB, TSpnC, TSpnD, TSpnE, TStrW, TLawStr, TStI. -/
import Derived.Test.YtbkimmbfepjodaaDoorPfT10
import Derived.BigQuiet
import Derived.Deep.AppendLies
import Derived.PlainAid
set_option linter.unusedVariables false
set_option linter.unusedSimpArgs false
/- Stripes: the walks of the models' GroupSize, PlaceOf, OffsetOf and Spans. -/
namespace Go.Proofs.YtbkimmbfepjodaaDoorT
set_option maxRecDepth 100000
open Go.RowKit
attribute [local go_sem ↓] Go.wp_at_zero Go.wp_at_succ

theorem isIn (x a b : Int) (w : World) (r : Bool) (h : (decide (a ≤ x) && decide (x ≤ b)) = r) : Calls Tw.prog 24 #[.int .i64 x, .int .i64 a, .int .i64 b] w fun e w' => e = .returned (.bool r) ∧ w' = w := by
  rw [← h]; exact l01In_any x a b w
/-- How many bytes a group has. -/
def groupN (s : Int) : Nat := schK s * 8
theorem groupN_bounds (s : Int) : groupN s ≤ 32 := by
  unfold groupN
  cases h : schOk s with
  | true => have := (sch_bounds h).2.1; omega
  | false => rw [(sch_zero h).1]; omega
theorem specGroupSize (s : Int) (w : World) : Calls Tw.prog 25 #[.int .i64 s] w fun e w' => e = .returned (.int .i64 (groupN s : Nat)) ∧ w' = w := by
  have HS := Shut.mk (fun W => specSchema s W)
  unfold SchPost at HS
  have hk : schK s ≤ 4 := by
    cases h : schOk s with
    | true => exact (sch_bounds h).2.1
    | false => rw [(sch_zero h).1]; omega
  have hg : ((groupN s : Nat) : Int) = (schK s : Int) * 4 * 2 := by unfold groupN; push_cast; omega
  generalize schOk s = ok at *
  generalize schM s = m at *
  generalize schK s = k at *
  have HG := Shut.mk hg
  clear hg
  go_enter Tw.func25, Tw.ntmps25
  go_wp2_with fail
  refine (HS.out _).mono ?_
  rintro e w1 ⟨rfl, rfl⟩
  go_wp2_with fail
  go_ret
  exact ⟨by rw [HG.out]; first | rfl | (simp; done) | (congr 2; omega), rfl⟩
/-- Where a byte is, plain: group, unit, place. -/
def unitAt (k o : Nat) : Nat := o % (k * 8) / 4 % k
def placeIn (k o : Nat) : Nat := o % (k * 8) / 4 / k * 4 + o % (k * 8) % 4
def placeX (s off : Int) : Nat × Nat × Nat := if schOk s = true ∧ 0 ≤ off ∧ off ≤ 100000 then (off.toNat / (schK s * 8), unitAt (schK s) off.toNat, placeIn (schK s) off.toNat) else (0, 0, 0)
def PlacePost (s off : Int) (w : World) (e : Ending) (w' : World) : Prop := e = .returned (.tuple #[.int .i64 ((placeX s off).1 : Nat), .int .i64 ((placeX s off).2.1 : Nat), .int .i64 ((placeX s off).2.2 : Nat)]) ∧ Below w.heap.size w w'
set_option maxHeartbeats 1000000 in
theorem specPlaceOf (s off : Int) (w : World) : Calls Tw.prog 26 #[.int .i64 s, .int .i64 off] w fun e w' => PlacePost s off w e w' := by
  have HS := Shut.mk (fun W => specSchema s W)
  unfold SchPost at HS
  have HG := Shut.mk (fun W => specGroupSize s W)
  unfold PlacePost
  cases h : schOk s with
  | false =>
    have e0 : placeX s off = (0, 0, 0) := by unfold placeX; rw [if_neg (by rw [h]; simp)]
    rw [e0]
    rw [h] at HS
    clear h e0
    generalize schK s = k at *
    generalize schM s = m at *
    go_enter Tw.func26, Tw.ntmps26
    go_wp2_with fail
    refine (HS.out _).mono ?_
    rintro e w1 ⟨rfl, rfl⟩
    go_wp2_with fail
    go_ret3
    exact ⟨rfl, Below.refl _ _⟩
  | true =>
    rw [h] at HS
    obtain ⟨b1, b2, _, _⟩ := sch_bounds h
    by_cases ho : 0 ≤ off ∧ off ≤ 100000
    · obtain ⟨o, rfl⟩ := Int.eq_ofNat_of_zero_le ho.1
      have ho5 : o ≤ 100000 := by omega
      have hin : (decide ((0 : Int) ≤ (o : Int)) && decide ((o : Int) ≤ 100000)) = true := by simp; omega
      have e0 : placeX s (o : Int) = (o / (schK s * 8), unitAt (schK s) o, placeIn (schK s) o) := by unfold placeX; rw [if_pos ⟨h, ho⟩]; rfl
      rw [e0]
      unfold groupN at HG
      clear h ho e0
      generalize schM s = m at *
      generalize schK s = k at *
      obtain ⟨S, hS⟩ : ∃ S, S = k * 8 := ⟨_, rfl⟩
      have hS0 : 0 < S := by omega
      have hS32 : S ≤ 32 := by omega
      have e1 : ((o : Int) % (S : Int)) = ((o % S : Nat) : Int) := by push_cast; rfl
      have e2 : ((o : Int) / (S : Int)) = ((o / S : Nat) : Int) := by push_cast; rfl
      have hb : o % S < S := Nat.mod_lt _ hS0
      have e3 : ((o % S : Nat) : Int) / 4 = ((o % S / 4 : Nat) : Int) := by push_cast; rfl
      have e4 : ((o % S : Nat) : Int) % 4 = ((o % S % 4 : Nat) : Int) := by push_cast; rfl
      have e5 : ((o % S / 4 : Nat) : Int) % (k : Int) = ((unitAt k o : Nat) : Int) := by unfold unitAt; rw [← hS]; push_cast; rfl
      have e6 : ((o % S / 4 : Nat) : Int) / (k : Int) = ((o % S / 4 / k : Nat) : Int) := by push_cast; rfl
      have e7 : ((placeIn k o : Nat) : Int) = ((o % S / 4 / k : Nat) : Int) * 4 + ((o % S % 4 : Nat) : Int) := by unfold placeIn; rw [← hS]; push_cast; rfl
      have hc8 : o % S / 4 ≤ 8 := by omega
      have hd : o % S / 4 / k ≤ 8 := Nat.le_trans (Nat.div_le_self _ _) hc8
      have hr : o % S % 4 < 4 := Nat.mod_lt _ (by omega)
      have hqq : o / S ≤ 100000 := Nat.le_trans (Nat.div_le_self _ _) ho5
      rw [← hS] at HG ⊢
      generalize unitAt k o = u at *
      generalize placeIn k o = pl at *
      generalize o % S % 4 = r at *
      generalize o % S / 4 / k = d at *
      generalize o % S / 4 = c at *
      generalize o % S = b at *
      generalize o / S = q at *
      have HE := Shut.mk e7
      have hSn : ((S : Int) == 0) = false := by rw [beq_eq_false_iff_ne]; omega
      have hkn : ((k : Int) == 0) = false := by rw [beq_eq_false_iff_ne]; omega
      have s0 : (0 : Int) < (S : Int) := by omega
      have k0 : (0 : Int) < (k : Int) := by omega
      have t1 : (o : Int).tmod (S : Int) = (b : Int) := by rw [Int.tmod_eq_emod_of_nonneg (by omega)]; exact e1
      have t2 : (o : Int).tdiv (S : Int) = (q : Int) := by rw [Int.tdiv_eq_ediv_of_nonneg (by omega)]; exact e2
      have t3 : (b : Int).tdiv 4 = (c : Int) := by rw [Int.tdiv_eq_ediv_of_nonneg (by omega)]; exact e3
      have t4 : (b : Int).tmod 4 = (r : Int) := by rw [Int.tmod_eq_emod_of_nonneg (by omega)]; exact e4
      have t5 : (c : Int).tmod (k : Int) = (u : Int) := by rw [Int.tmod_eq_emod_of_nonneg (by omega)]; exact e5
      have t6 : (c : Int).tdiv (k : Int) = (d : Int) := by rw [Int.tdiv_eq_ediv_of_nonneg (by omega)]; exact e6
      clear e7 hS
      go_enter Tw.func26, Tw.ntmps26
      go_wp2_with fail
      refine (HS.out _).mono ?_
      rintro e w1 ⟨rfl, rfl⟩
      go_wp2_with fail
      refine (isIn _ _ _ _ true hin).mono ?_
      rintro e w2 ⟨rfl, rfl⟩
      go_wp2_with fail
      refine (HG.out _).mono ?_
      rintro e w3 ⟨rfl, rfl⟩
      go_wp2_with fail
      go_quiet (fail)
      go_wp2_with fail
      go_ret3
      exact ⟨by rw [HE.out]; rfl, ⟨rfl, rfl, rfl, Nat.le_refl _, fun _ _ => rfl⟩⟩
    · have hin : (decide ((0 : Int) ≤ off) && decide (off ≤ 100000)) = false := by simp only [Bool.and_eq_false_iff, decide_eq_false_iff_not]; omega
      have e0 : placeX s off = (0, 0, 0) := by unfold placeX; rw [if_neg (fun q => ho q.2)]
      rw [e0]
      clear h e0 ho
      generalize schK s = k at *
      generalize schM s = m at *
      go_enter Tw.func26, Tw.ntmps26
      go_wp2_with fail
      refine (HS.out _).mono ?_
      rintro e w1 ⟨rfl, rfl⟩
      go_wp2_with fail
      refine (isIn _ _ _ _ false hin).mono ?_
      rintro e w2 ⟨rfl, rfl⟩
      go_wp2_with fail
      go_ret3
      exact ⟨rfl, Below.refl _ _⟩
end Go.Proofs.YtbkimmbfepjodaaDoorT
/- Rows of numbers as values; the walk of the model's Spans. -/
namespace Go.Proofs.YtbkimmbfepjodaaDoorT
set_option maxRecDepth 100000
open Go.RowKit
attribute [local go_sem ↓] Go.wp_at_zero Go.wp_at_succ

end Go.Proofs.YtbkimmbfepjodaaDoorT
/- The walks of the models' CutUnits and JoinUnits. -/
namespace Go.Proofs.YtbkimmbfepjodaaDoorT
set_option maxRecDepth 100000
open Go.RowKit
attribute [local go_sem ↓] Go.wp_at_zero Go.wp_at_succ

theorem unit_lt {k : Nat} (h : 0 < k) (i : Nat) : unitAt k i < k := Nat.mod_lt _ h
end Go.Proofs.YtbkimmbfepjodaaDoorT
/- The walk of the model's JoinUnits. -/
namespace Go.Proofs.YtbkimmbfepjodaaDoorT
set_option maxRecDepth 100000
open Go.RowKit
attribute [local go_sem ↓] Go.wp_at_zero Go.wp_at_succ

def joinAt (k : Nat) (U : List ByteArray) (i : Nat) : UInt8 := (U.getD (unitAt k i) ⟨#[]⟩).data.toList.getD (placeIn k i) 0
def joinL (k : Nat) (U : List ByteArray) (n : Nat) : List UInt8 := (List.range n).map (joinAt k U)
def joinX (s : Int) (U : List ByteArray) (n : Int) : ByteArray × Bool := if schOk s = true ∧ U.length = schK s ∧ 0 ≤ n ∧ n ≤ (groupN s : Int) then (⟨(joinL (schK s) U n.toNat).toArray⟩, true) else (⟨#[]⟩, false)
theorem joinX_no {s : Int} {U : List ByteArray} {n : Int} (h : ¬ (schOk s = true ∧ U.length = schK s ∧ 0 ≤ n ∧ n ≤ (groupN s : Int))) : joinX s U n = (⟨#[]⟩, false) := if_neg h
def JoinPost (R : ByteArray × Bool) (w : World) (e : Ending) (w' : World) : Prop := e = .returned (.tuple #[.string R.1, .bool R.2]) ∧ Below w.heap.size w w'
theorem joinL_len (k : Nat) (U : List ByteArray) (n : Nat) : (joinL k U n).length = n := by simp [joinL]
theorem joinL_succ (k : Nat) (U : List ByteArray) (n : Nat) : bv (joinL k U (n + 1)) = bv (joinL k U n) ++ [.int .u8 ((joinAt k U n).toNat : Int)] := by
  unfold joinL; rw [List.range_succ, List.map_append]; simp [bv]
theorem get_byte (s : ByteArray) (k : Nat) (h : k < s.size) : Go.PlainAid.bt s k = ((s.data.toList.getD k 0).toNat : Int) := by
  unfold Go.PlainAid.bt
  rw [dif_pos h]
  have : s.data.toList.getD k 0 = s[k] := by
    have hk : k < s.data.size := h
    rw [List.getD_eq_getElem?_getD, Array.getElem?_toList, Array.getElem?_eq_getElem hk]
    rfl
  rw [this]
theorem get_none (s : ByteArray) (k : Nat) (h : ¬ k < s.size) : s.data.toList.getD k 0 = 0 := by
  have hk : s.data.toList.length ≤ k := by simpa using h
  rw [List.getD_eq_getElem?_getD, List.getElem?_eq_none hk]; rfl
theorem units_cells {w : World} {a : Option Addr} {L : List ByteArray} {lo hi : Nat} (h : RRow w a (tv L) lo hi) (hp : 0 < L.length) : ∃ b off, a = some ⟨b, off, none⟩ ∧ b < w.heap.size ∧ ∀ j, j < L.length → w.cell? ⟨b, off + j, none⟩ = some (.string (L.getD j ⟨#[]⟩)) := by
  obtain ⟨b, off, e, _, _, hb, hc⟩ := h (by rw [tv_len]; exact hp)
  exact ⟨b, off, e, hb, fun j hj => hc j _ (tv_get L j hj)⟩
set_option maxRecDepth 100000 in
set_option maxHeartbeats 2000000 in
theorem specJoin_walk (s : Int) (U : List ByteArray) (N k b2 o2 cap2 : Nat) (w : World) (hok : schOk s = true) (hk : schK s = k) (hul : U.length = k) (hN : N ≤ groupN s) (hU : b2 < w.heap.size ∧ ∀ j, j < k → w.cell? ⟨b2, o2 + j, none⟩ = some (.string (U.getD j ⟨#[]⟩))) :
    Calls Tw.prog 12 #[.int .i64 s, .slice (some ⟨b2, o2, none⟩) k cap2, .int .i64 (N : Int)] w fun e w' => JoinPost (joinX s U (N : Int)) w e w' := by
  obtain ⟨i0, hi0, hz0, hz1, hz2⟩ := info_parts Tw.info5
  obtain ⟨c1, c2, _, _⟩ := sch_bounds hok
  have HS := Shut.mk (fun W => specSchema s W)
  unfold SchPost at HS
  have HG := Shut.mk (fun W => specGroupSize s W)
  have hg32 := groupN_bounds s
  have hin : (decide ((0 : Int) ≤ (N : Int)) && decide ((N : Int) ≤ (groupN s : Int))) = true := by simp; omega
  have HIN := Shut.mk (fun W => isIn (N : Int) 0 (groupN s : Int) W true hin)
  have e0 : joinX s U (N : Int) = (⟨(joinL (schK s) U N).toArray⟩, true) := by unfold joinX; rw [if_pos ⟨hok, by rw [hul, hk], by omega, by omega⟩]; rfl
  have HPL := Shut.mk (fun (i : Nat) W => specPlaceOf s (i : Int) W)
  have hpx : ∀ i : Nat, i < N → placeX s (i : Int) = (i / (schK s * 8), unitAt (schK s) i, placeIn (schK s) i) := fun i hi => by
    unfold placeX; rw [if_pos ⟨hok, by omega, by omega⟩]; rfl
  have HPX := Shut.mk hpx
  have HU := Shut.mk hU
  rw [hok] at HS
  unfold JoinPost
  rw [e0]
  rw [hk] at HS HPX c1 c2 ⊢
  have hkk : ((k : Int) != (k : Int)) = false := by simp
  have hal : Below w.heap.size w (w.alloc (.cells #[] 5)) := (Below.refl _ _).alloc (Nat.le_refl _) _
  have HAL := Shut.mk hal
  have HO : Shut ((w.alloc (.cells #[] 5)).ownsRow w.heap.size 5 1 (.slice (some ⟨w.heap.size, 0, none⟩) 0 0) 0 (bv (joinL k U 0))) := ⟨World.ownsRow_made w #[] 0 (Nat.le_refl _) (by decide) rfl⟩
  clear hok hk hul hU hin e0 hpx hal
  generalize schM s = m at *
  generalize groupN s = S at *
  go_enter Tw.func12, Tw.ntmps12
  go_wp2_with fail
  refine (HS.out _).mono ?_
  rintro e w1 ⟨rfl, rfl⟩
  go_wp2_with fail
  refine (HG.out _).mono ?_
  rintro e w2 ⟨rfl, rfl⟩
  go_wp2_with fail
  refine (HIN.out _).mono ?_
  rintro e w3 ⟨rfl, rfl⟩
  go_wp2_with fail
  go_loopw [11, 12] (fun v ii wr => ∃ (i : Nat) (vv : Value), vv = v ∧ ii = .int .i64 (i : Nat) ∧ i ≤ N ∧ Shut (wr.ownsRow w3.heap.size 5 1 vv i (bv (joinL k U i))) ∧ Shut (Below w3.heap.size w3 wr)) (fun _ ii _ => N - (intOf ii).toNat)
  case atStart => exact ⟨0, _, rfl, rfl, Nat.zero_le _, HO, HAL⟩
  case round =>
    clear HO HAL
    obtain ⟨i, v, rfl, rfl, hin, hown, hb⟩ := hrel
    obtain ⟨wo, rfl⟩ : ∃ wo, wo = wr := ⟨_, rfl⟩
    by_cases hlt : i < N
    · have hlt' : (i : Int) < (N : Int) := by omega
      have i0' : (0 : Int) ≤ (i : Int) := by omega
      have HP1 := Shut.mk (HPL.out i)
      unfold PlacePost at HP1
      rw [HPX.out i hlt] at HP1
      have huk := unit_lt (show 0 < k by omega) i
      have hst := joinL_succ k U i
      have hjat : joinAt k U i = (U.getD (unitAt k i) ⟨#[]⟩).data.toList.getD (placeIn k i) 0 := rfl
      have HCU := Shut.mk (HU.out.2 (unitAt k i) huk)
      have hpl : placeIn k i ≤ 40 := by
        have h1 : i % (k * 8) < k * 8 := Nat.mod_lt _ (by omega)
        have h2 : i % (k * 8) / 4 / k ≤ 8 := Nat.le_trans (Nat.div_le_self _ _) (by omega)
        unfold placeIn; omega
      generalize U.getD (unitAt k i) ⟨#[]⟩ = x at *
      generalize unitAt k i = u at *
      generalize placeIn k i = pl at *
      generalize i / (k * 8) = gq at *
      have u0 : (0 : Int) ≤ (u : Int) := by omega
      have u1 : (u : Int) < (k : Int) := by omega
      have p0 : (0 : Int) ≤ (pl : Int) := by omega
      have HST := Shut.mk hst
      have HJ := Shut.mk hjat
      clear hst hjat
      go_wp2_with fail
      refine (HP1.out _).mono ?_
      rintro e w5 ⟨rfl, hb5⟩
      have hown5 := hown.out.kept (row := none) ⟨hb5.os, hb5.tape, hb5.output, hb5.size, fun k hk _ => hb5.block k hk⟩ (Classical.em _)
      have HB5 := Shut.mk (hb.out.trans (hb5.mono hb.out.size))
      have d := (HB5.out.cell (p := ⟨b2, o2 + u, none⟩) HU.out.1).trans HCU.out
      have hs5 := HB5.out.size
      clear hb5 hown hb HP1 HCU
      by_cases hpx : pl < x.size
      · have hpx' : (pl : Int) < (x.size : Int) := by omega
        have hix := index_str x pl hpx
        rw [get_byte x pl hpx, ← HJ.out] at hix
        generalize joinAt k U i = c at *
        go_wp2_with (at_builtin; refine wpList_append_own _ rfl _ _ 58 rfl w3.heap.size 5 i0 (.int .u8 0) 1 1 Tw.underlying58 hi0 hz0 hz1 hz2 rfl (by decide) _ _ _ rfl (hown5.alloc _) ⟨w5.heap.size, 0, none⟩ 1 1 [.int .u8 (c.toNat : Int)] rfl rfl (cell_one_new _ _ _) ?c2 ?c3 ?c4 ?c5 ?_)
        case c2 => intro u hu; simp at hu; subst hu; rfl
        case c3 => unfold maxLen; omega
        case c4 => omega
        case c5 => simp; omega
        intro v' w6 hown' hgrow _
        rw [← HST.out] at hown'
        have Q1 := Shut.mk hown'
        have Q2 := Shut.mk ((HB5.out.alloc hs5 (.cells #[.int .u8 (c.toNat : Int)] 5)).grown hgrow (by simp; omega) (fun q hq => (hown5.lt q hq).1))
        clear hown' hgrow hown5
        go_wp2_with fail
        exact ⟨⟨i + 1, v', rfl, by go_num, by omega, Q1, Q2⟩, by simp [intOf]; omega⟩
      · have hpx' : ¬ (pl : Int) < (x.size : Int) := by omega
        have hpx2 : (x.size : Int) ≤ (pl : Int) := by omega
        have hc0 : joinAt k U i = 0 := by rw [HJ.out]; exact get_none x pl hpx
        rw [hc0] at HST
        clear hc0 HJ
        go_wp2_with (at_builtin; refine wpList_append_own _ rfl _ _ 58 rfl w3.heap.size 5 i0 (.int .u8 0) 1 1 Tw.underlying58 hi0 hz0 hz1 hz2 rfl (by decide) _ _ _ rfl (hown5.alloc _) ⟨w5.heap.size, 0, none⟩ 1 1 [.int .u8 0] rfl rfl (cell_one_new _ _ _) ?c2 ?c3 ?c4 ?c5 ?_)
        case c2 => intro u hu; simp at hu; subst hu; rfl
        case c3 => unfold maxLen; omega
        case c4 => omega
        case c5 => simp; omega
        intro v' w6 hown' hgrow _
        have Q1 : Shut (w6.ownsRow w3.heap.size 5 1 v' (i + 1) (bv (joinL k U (i + 1)))) := ⟨by rw [HST.out]; exact hown'⟩
        have Q2 := Shut.mk ((HB5.out.alloc hs5 (.cells #[.int .u8 0] 5)).grown hgrow (by simp; omega) (fun q hq => (hown5.lt q hq).1))
        clear hown' hgrow hown5
        go_wp2_with fail
        exact ⟨⟨i + 1, v', rfl, by go_num, by omega, Q1, Q2⟩, by simp [intOf]; omega⟩
    · have e : i = N := by omega
      subst e
      have hlt' : ¬ (i : Int) < (i : Int) := by omega
      have hcv := own_string (l := joinL k U i) (by rw [joinL_len]; exact hown.out)
      clear hown
      go_wp2_with fail
      go_ret2
      exact ⟨rfl, hb.out⟩
/-- JoinUnits' model, at every argument. -/
theorem specJoinUnitsU {w : World} {u : Value} {U : List ByteArray} {lo hi : Nat} (s n : Int) (hu : SSee w u U lo hi) (hf : UFit U) : Calls Tw.prog 12 #[.int .i64 s, u, .int .i64 n] w fun e w' => JoinPost (joinX s U n) w e w' := by
  obtain ⟨a2, cap2, rfl, hm2⟩ := hu
  have hlf : U.length ≤ 1048576 := hf.1
  have HS := Shut.mk (fun W => specSchema s W)
  unfold SchPost at HS
  cases h : schOk s with
  | false =>
    unfold JoinPost
    rw [joinX_no (fun q => by rw [h] at q; cases q.1)]
    rw [h] at HS
    clear h hm2 hf
    generalize schK s = k at *
    generalize schM s = m at *
    go_enter Tw.func12, Tw.ntmps12
    go_wp2_with fail
    refine (HS.out _).mono ?_
    rintro e w1 ⟨rfl, rfl⟩
    go_wp2_with fail
    go_ret2
    exact ⟨rfl, Below.refl _ _⟩
  | true =>
    obtain ⟨b1, b2, _, _⟩ := sch_bounds h
    by_cases hl : U.length = schK s
    · by_cases hn : 0 ≤ n ∧ n ≤ (groupN s : Int)
      · obtain ⟨b, off, rfl, lb, hc⟩ := units_cells hm2 (by omega)
        obtain ⟨N, rfl⟩ := Int.eq_ofNat_of_zero_le hn.1
        rw [hl]
        exact specJoin_walk s U N (schK s) b off cap2 w h rfl hl (by omega) ⟨lb, fun j hj => hc j (by omega)⟩
      · unfold JoinPost
        rw [joinX_no (fun q => hn q.2.2)]
        have hin : (decide ((0 : Int) ≤ n) && decide (n ≤ (groupN s : Int))) = false := by simp only [Bool.and_eq_false_iff, decide_eq_false_iff_not]; omega
        have HIN := Shut.mk (fun W => isIn n 0 (groupN s : Int) W false hin)
        have HG := Shut.mk (fun W => specGroupSize s W)
        rw [h] at HS
        rw [hl]
        have hkk : ((schK s : Int) != (schK s : Int)) = false := by simp
        clear h hm2 hf hn hin hl
        generalize schK s = k at *
        generalize schM s = m at *
        generalize groupN s = S at *
        go_enter Tw.func12, Tw.ntmps12
        go_wp2_with fail
        refine (HS.out _).mono ?_
        rintro e w1 ⟨rfl, rfl⟩
        go_wp2_with fail
        refine (HG.out _).mono ?_
        rintro e w2 ⟨rfl, rfl⟩
        go_wp2_with fail
        refine (HIN.out _).mono ?_
        rintro e w3 ⟨rfl, rfl⟩
        go_wp2_with fail
        go_ret2
        exact ⟨rfl, Below.refl _ _⟩
    · unfold JoinPost
      rw [joinX_no (fun q => hl q.2.1)]
      have hne : ((U.length : Int) != (schK s : Int)) = true := by rw [bne_iff_ne]; omega
      rw [h] at HS
      clear h hm2 hf hl
      generalize schK s = k at *
      generalize schM s = m at *
      go_enter Tw.func12, Tw.ntmps12
      go_wp2_with fail
      refine (HS.out _).mono ?_
      rintro e w1 ⟨rfl, rfl⟩
      go_wp2_with fail
      go_ret2
      exact ⟨rfl, Below.refl _ _⟩
end Go.Proofs.YtbkimmbfepjodaaDoorT
/- Rows of numbers as values: their comparison, marks that are laid and found again. -/
namespace Go.Proofs.YtbkimmbfepjodaaDoorT
set_option maxRecDepth 100000
open Go.RowKit

end Go.Proofs.YtbkimmbfepjodaaDoorT
/- The size of a row of texts. -/
namespace Go.Proofs.YtbkimmbfepjodaaDoorT
set_option maxRecDepth 100000
open Go.RowKit
attribute [local go_sem ↓] Go.wp_at_zero Go.wp_at_succ

end Go.Proofs.YtbkimmbfepjodaaDoorT
/- The walks of the exact laws over stripes, over what is told of the program's own functions at every argument (written by gen/mklawstr.py). -/
namespace Go.Proofs.YtbkimmbfepjodaaDoorT
set_option maxRecDepth 100000
open Go.RowKit
attribute [local irreducible] schK schM schOk groupN placeX joinX

end Go.Proofs.YtbkimmbfepjodaaDoorT
/- The program's own SchemaOf, GroupSize, PlaceOf, OffsetOf and Spans. -/
namespace Go.Proofs.YtbkimmbfepjodaaDoorT
set_option maxRecDepth 100000
open Go.RowKit
attribute [local go_sem ↓] Go.wp_at_zero Go.wp_at_succ

theorem implSch (s : Int) (w : World) : Calls Tw.prog 28 #[.int .i64 s] w fun e w' => SchPost s w e w' := by
  cases h : schOk s with
  | true =>
    obtain rfl | rfl | rfl := sch_cases h
    all_goals
      clear h
      go_enter Tw.func28, Tw.ntmps28
      go_wp2_with fail
      go_ret3
      exact ⟨rfl, rfl⟩
  | false =>
    obtain ⟨h1, h2, h3⟩ := sch_no h
    obtain ⟨e1, e2⟩ := sch_zero h
    unfold SchPost
    rw [e1, e2, h]
    clear h e1 e2
    go_enter Tw.func28, Tw.ntmps28
    go_wp2_with fail
    go_ret3
    exact ⟨rfl, rfl⟩
theorem implSize (s : Int) (w : World) : Calls Tw.prog 36 #[.int .i64 s] w fun e w' => e = .returned (.int .i64 (groupN s : Nat)) ∧ w' = w := by
  have HS := Shut.mk (fun W => implSch s W)
  unfold SchPost at HS
  have hk : schK s ≤ 4 := by
    cases h : schOk s with
    | true => exact (sch_bounds h).2.1
    | false => rw [(sch_zero h).1]; omega
  have hg : ((groupN s : Nat) : Int) = (schK s : Int) * 4 * 2 := by unfold groupN; push_cast; omega
  generalize schOk s = ok at *
  generalize schM s = m at *
  generalize schK s = k at *
  have HG := Shut.mk hg
  clear hg
  go_enter Tw.func36, Tw.ntmps36
  go_wp2_with fail
  refine (HS.out _).mono ?_
  rintro e w1 ⟨rfl, rfl⟩
  go_wp2_with fail
  go_ret
  exact ⟨by rw [HG.out]; first | rfl | (simp; done) | (congr 2; omega), rfl⟩
end Go.Proofs.YtbkimmbfepjodaaDoorT
