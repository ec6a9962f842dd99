/- Texts of ours, laid one behind the other: THexM, TSpnD, TNestB, TNestC, TSpnE, TStrW, TLawStr, TStI, TShelf, SgO, TTwB, TTwC, TTwD, TTwE, TSpnF. -/
import Derived.Test.YtfhcpehfmecpjaaPk10
import Derived.PlainAid
import Derived.Shelf.LaysM
import Derived.Shelf.Strconv.Clone
import Derived.Deep.RegionWith
import Derived.Deep.Cut
import Derived.Deep.RegionHeld3
import Derived.Lib.LazyBuf
set_option linter.unusedVariables false
set_option linter.unusedSimpArgs false
/- Plain facts on hexadecimal figures. -/
namespace Go.Proofs.YtfhcpehfmecpjaaT.W
open Go.PlainAid (bt)

/-- The figure of a number below 16. -/
def hfI (x : Int) : Int := if x < 10 then 48 + x else 87 + x
theorem hfI_bd (x : Int) (h0 : 0 ≤ x) (h1 : x < 16) : 0 ≤ hfI x ∧ hfI x < 256 := by unfold hfI; split <;> omega
def hf (n : Nat) : UInt8 := UInt8.ofNat (hfI n).toNat
theorem hf_toNat (n : Nat) (h : n < 16) : ((hf n).toNat : Int) = hfI n := by
  have := hfI_bd n (by omega) (by omega)
  unfold hf; simp; omega
def hexL (l : List UInt8) : List UInt8 := l.flatMap fun b => [hf (b.toNat / 16), hf (b.toNat % 16)]
theorem hexL_len (l : List UInt8) : (hexL l).length = 2 * l.length := by
  induction l with
  | nil => rfl
  | cons b l ih => simp [hexL] at ih ⊢; omega
theorem hexL_snoc (l : List UInt8) (b : UInt8) : hexL (l ++ [b]) = hexL l ++ [hf (b.toNat / 16), hf (b.toNat % 16)] := by simp [hexL]

/-- The first k bytes of a text. -/
def firstK (s : ByteArray) (k : Nat) : List UInt8 := s.data.toList.take k
theorem firstK_len (s : ByteArray) (k : Nat) (h : k ≤ s.size) : (firstK s k).length = k := by
  have e : s.data.size = s.size := rfl
  simp [firstK]; omega
theorem firstK_all (s : ByteArray) (k : Nat) (h : s.size ≤ k) : firstK s k = s.data.toList := by
  have e : s.data.size = s.size := rfl
  unfold firstK; exact List.take_of_length_le (by simp; omega)
theorem firstK_step (s : ByteArray) (k : Nat) (h : k < s.size) : ∃ b : UInt8, firstK s (k + 1) = firstK s k ++ [b] ∧ bt s k = (b.toNat : Int) := by
  refine ⟨s[k], ?_, ?_⟩
  · unfold firstK; rw [List.take_succ_eq_append_getElem (by simpa using h)]; rfl
  · unfold bt; rw [dif_pos h]
end Go.Proofs.YtfhcpehfmecpjaaT.W
namespace Go.Proofs.YtfhcpehfmecpjaaT
open Go.RowKit
open Go.PlainAid (bt)
theorem bt_words (s : ByteArray) (k : Nat) : IntKind.i64.wrap (bt s k) = bt s k ∧ (bt s k).tdiv 16 = bt s k / 16 ∧ IntKind.i64.wrap (bt s k / 16) = bt s k / 16 ∧ (bt s k).tmod 16 = bt s k % 16 ∧ IntKind.i64.wrap (bt s k % 16) = bt s k % 16 := by
  have b0 := Go.PlainAid.bt_nonneg s k
  have b1 := Go.PlainAid.bt_le s k
  refine ⟨IntWalk.i64_in _ ⟨by omega, by omega⟩, Int.tdiv_eq_ediv_of_nonneg b0, IntWalk.i64_in _ ⟨by omega, by omega⟩, Int.tmod_eq_emod_of_nonneg b0, IntWalk.i64_in _ ⟨by omega, by omega⟩⟩
theorem bt_words8 (s : ByteArray) (k : Nat) : IntKind.u8.wrap (bt s k / 16) = bt s k / 16 ∧ IntKind.u8.wrap (bt s k % 16) = bt s k % 16 := by
  have b0 := Go.PlainAid.bt_nonneg s k
  have b1 := Go.PlainAid.bt_le s k
  exact ⟨IntWalk.u8_in _ ⟨by omega, by omega⟩, IntWalk.u8_in _ ⟨by omega, by omega⟩⟩
/-- A byte of a string. -/
theorem index_str (s : ByteArray) (k : Nat) (h : k < s.size) (w : World) :
    (Instr.index 9 (.string s) (.int .i64 (k : Int))).run Tw.prog w = .ok (.int .u8 (bt s k)) w := by
  have hb := Go.PlainAid.get_bt s k h
  rw [run_index_string _ 9 s .i64 k Tw.underlying9, dif_pos ⟨by omega, by omega⟩, ← hb]
  rfl
/-- Behind the two figures of byte k. -/
theorem hex_own {B k : Nat} {s : ByteArray} {w1 : World} {v' : Value} {x y : Int} (hk : k < s.size) (hx : x = W.hfI (bt s k / 16)) (hy : y = W.hfI (bt s k % 16))
    (h : w1.ownsRow B 5 1 v' (2 * k + 2) (bv (W.hexL (W.firstK s k)) ++ [.int .u8 x, .int .u8 y])) :
    w1.ownsRow B 5 1 v' (2 * (k + 1)) (bv (W.hexL (W.firstK s (k + 1)))) := by
  obtain ⟨b, hb, e⟩ := W.firstK_step s k hk
  have hlt := b.toNat_lt
  have e1 : Value.int .u8 x = .int .u8 ((W.hf (b.toNat / 16)).toNat : Int) := by
    rw [W.hf_toNat _ (by omega), hx, e]; congr 2
  have e2 : Value.int .u8 y = .int .u8 ((W.hf (b.toNat % 16)).toNat : Int) := by
    rw [W.hf_toNat _ (by omega), hy, e]; congr 2
  have e3 : bv (W.hexL (W.firstK s k)) ++ [.int .u8 x, .int .u8 y] = bv (W.hexL (W.firstK s (k + 1))) := by
    rw [hb, W.hexL_snoc, e1, e2]; simp [bv]
  rw [e3] at h
  exact h
end Go.Proofs.YtfhcpehfmecpjaaT
/- The walk of the model's JoinUnits. -/
namespace Go.Proofs.YtfhcpehfmecpjaaT
open Go.RowKit
attribute [local go_sem ↓] Go.wp_at_zero Go.wp_at_succ

def joinAt (k : Nat) (U : List ByteArray) (i : Nat) : UInt8 := (U.getD (unitAt k i) ⟨#[]⟩).data.toList.getD (placeIn k i) 0
def joinL (k : Nat) (U : List ByteArray) (n : Nat) : List UInt8 := (List.range n).map (joinAt k U)
def joinX (s : Int) (U : List ByteArray) (n : Int) : ByteArray × Bool := if schOk s = true ∧ U.length = schK s ∧ 0 ≤ n ∧ n ≤ (groupN s : Int) then (⟨(joinL (schK s) U n.toNat).toArray⟩, true) else (⟨#[]⟩, false)
theorem joinX_no {s : Int} {U : List ByteArray} {n : Int} (h : ¬ (schOk s = true ∧ U.length = schK s ∧ 0 ≤ n ∧ n ≤ (groupN s : Int))) : joinX s U n = (⟨#[]⟩, false) := if_neg h
def JoinPost (R : ByteArray × Bool) (w : World) (e : Ending) (w' : World) : Prop := e = .returned (.tuple #[.string R.1, .bool R.2]) ∧ Below w.heap.size w w'
theorem joinL_len (k : Nat) (U : List ByteArray) (n : Nat) : (joinL k U n).length = n := by simp [joinL]
theorem joinL_succ (k : Nat) (U : List ByteArray) (n : Nat) : bv (joinL k U (n + 1)) = bv (joinL k U n) ++ [.int .u8 ((joinAt k U n).toNat : Int)] := by
  unfold joinL; rw [List.range_succ, List.map_append]; simp [bv]
theorem get_byte (s : ByteArray) (k : Nat) (h : k < s.size) : Go.PlainAid.bt s k = ((s.data.toList.getD k 0).toNat : Int) := by
  unfold Go.PlainAid.bt
  rw [dif_pos h]
  have : s.data.toList.getD k 0 = s[k] := by
    have hk : k < s.data.size := h
    rw [List.getD_eq_getElem?_getD, Array.getElem?_toList, Array.getElem?_eq_getElem hk]
    rfl
  rw [this]
theorem get_none (s : ByteArray) (k : Nat) (h : ¬ k < s.size) : s.data.toList.getD k 0 = 0 := by
  have hk : s.data.toList.length ≤ k := by simpa using h
  rw [List.getD_eq_getElem?_getD, List.getElem?_eq_none hk]; rfl
theorem units_cells {w : World} {a : Option Addr} {L : List ByteArray} {lo hi : Nat} (h : RRow w a (tv L) lo hi) (hp : 0 < L.length) : ∃ b off, a = some ⟨b, off, none⟩ ∧ b < w.heap.size ∧ ∀ j, j < L.length → w.cell? ⟨b, off + j, none⟩ = some (.string (L.getD j ⟨#[]⟩)) := by
  obtain ⟨b, off, e, _, _, hb, hc⟩ := h (by rw [tv_len]; exact hp)
  exact ⟨b, off, e, hb, fun j hj => hc j _ (tv_get L j hj)⟩
set_option maxRecDepth 100000 in
set_option maxHeartbeats 2000000 in
theorem specJoin_walk (s : Int) (U : List ByteArray) (N k b2 o2 cap2 : Nat) (w : World) (hok : schOk s = true) (hk : schK s = k) (hul : U.length = k) (hN : N ≤ groupN s) (hU : b2 < w.heap.size ∧ ∀ j, j < k → w.cell? ⟨b2, o2 + j, none⟩ = some (.string (U.getD j ⟨#[]⟩))) :
    Calls Tw.prog 16 #[.int .i64 s, .slice (some ⟨b2, o2, none⟩) k cap2, .int .i64 (N : Int)] w fun e w' => JoinPost (joinX s U (N : Int)) w e w' := by
  obtain ⟨i0, hi0, hz0, hz1, hz2⟩ := info_parts Tw.info5
  obtain ⟨c1, c2, _, _⟩ := sch_bounds hok
  have HS := Shut.mk (fun W => specSchema s W)
  unfold SchPost at HS
  have HG := Shut.mk (fun W => specGroupSize s W)
  have hg32 := groupN_bounds s
  have hin : (decide ((0 : Int) ≤ (N : Int)) && decide ((N : Int) ≤ (groupN s : Int))) = true := by simp; omega
  have HIN := Shut.mk (fun W => isIn (N : Int) 0 (groupN s : Int) W true hin)
  have e0 : joinX s U (N : Int) = (⟨(joinL (schK s) U N).toArray⟩, true) := by unfold joinX; rw [if_pos ⟨hok, by rw [hul, hk], by omega, by omega⟩]; rfl
  have HPL := Shut.mk (fun (i : Nat) W => specPlaceOf s (i : Int) W)
  have hpx : ∀ i : Nat, i < N → placeX s (i : Int) = (i / (schK s * 8), unitAt (schK s) i, placeIn (schK s) i) := fun i hi => by
    unfold placeX; rw [if_pos ⟨hok, by omega, by omega⟩]; rfl
  have HPX := Shut.mk hpx
  have HU := Shut.mk hU
  rw [hok] at HS
  unfold JoinPost
  rw [e0]
  rw [hk] at HS HPX c1 c2 ⊢
  have hkk : ((k : Int) != (k : Int)) = false := by simp
  have hal : Below w.heap.size w (w.alloc (.cells #[] 5)) := (Below.refl _ _).alloc (Nat.le_refl _) _
  have HAL := Shut.mk hal
  have HO : Shut ((w.alloc (.cells #[] 5)).ownsRow w.heap.size 5 1 (.slice (some ⟨w.heap.size, 0, none⟩) 0 0) 0 (bv (joinL k U 0))) := ⟨World.ownsRow_made w #[] 0 (Nat.le_refl _) (by decide) rfl⟩
  clear hok hk hul hU hin e0 hpx hal
  generalize schM s = m at *
  generalize groupN s = S at *
  go_enter Tw.func16, Tw.ntmps16
  go_wp2_with fail
  refine (HS.out _).mono ?_
  rintro e w1 ⟨rfl, rfl⟩
  go_wp2_with fail
  refine (HG.out _).mono ?_
  rintro e w2 ⟨rfl, rfl⟩
  go_wp2_with fail
  refine (HIN.out _).mono ?_
  rintro e w3 ⟨rfl, rfl⟩
  go_wp2_with fail
  go_loopw [11, 12] (fun v ii wr => ∃ (i : Nat) (vv : Value), vv = v ∧ ii = .int .i64 (i : Nat) ∧ i ≤ N ∧ Shut (wr.ownsRow w3.heap.size 5 1 vv i (bv (joinL k U i))) ∧ Shut (Below w3.heap.size w3 wr)) (fun _ ii _ => N - (intOf ii).toNat)
  case atStart => exact ⟨0, _, rfl, rfl, Nat.zero_le _, HO, HAL⟩
  case round =>
    clear HO HAL
    obtain ⟨i, v, rfl, rfl, hin, hown, hb⟩ := hrel
    obtain ⟨wo, rfl⟩ : ∃ wo, wo = wr := ⟨_, rfl⟩
    by_cases hlt : i < N
    · have hlt' : (i : Int) < (N : Int) := by omega
      have i0' : (0 : Int) ≤ (i : Int) := by omega
      have HP1 := Shut.mk (HPL.out i)
      unfold PlacePost at HP1
      rw [HPX.out i hlt] at HP1
      have huk := unit_lt (show 0 < k by omega) i
      have hst := joinL_succ k U i
      have hjat : joinAt k U i = (U.getD (unitAt k i) ⟨#[]⟩).data.toList.getD (placeIn k i) 0 := rfl
      have HCU := Shut.mk (HU.out.2 (unitAt k i) huk)
      have hpl : placeIn k i ≤ 40 := by
        have h1 : i % (k * 8) < k * 8 := Nat.mod_lt _ (by omega)
        have h2 : i % (k * 8) / 4 / k ≤ 8 := Nat.le_trans (Nat.div_le_self _ _) (by omega)
        unfold placeIn; omega
      generalize U.getD (unitAt k i) ⟨#[]⟩ = x at *
      generalize unitAt k i = u at *
      generalize placeIn k i = pl at *
      generalize i / (k * 8) = gq at *
      have u0 : (0 : Int) ≤ (u : Int) := by omega
      have u1 : (u : Int) < (k : Int) := by omega
      have p0 : (0 : Int) ≤ (pl : Int) := by omega
      have HST := Shut.mk hst
      have HJ := Shut.mk hjat
      clear hst hjat
      go_wp2_with fail
      refine (HP1.out _).mono ?_
      rintro e w5 ⟨rfl, hb5⟩
      have hown5 := hown.out.kept (row := none) ⟨hb5.os, hb5.tape, hb5.output, hb5.size, fun k hk _ => hb5.block k hk⟩ (Classical.em _)
      have HB5 := Shut.mk (hb.out.trans (hb5.mono hb.out.size))
      have d := (HB5.out.cell (p := ⟨b2, o2 + u, none⟩) HU.out.1).trans HCU.out
      have hs5 := HB5.out.size
      clear hb5 hown hb HP1 HCU
      by_cases hpx : pl < x.size
      · have hpx' : (pl : Int) < (x.size : Int) := by omega
        have hix := index_str x pl hpx
        rw [get_byte x pl hpx, ← HJ.out] at hix
        generalize joinAt k U i = c at *
        go_wp2_with (at_builtin; refine wpList_append_own _ rfl _ _ 22 rfl w3.heap.size 5 i0 (.int .u8 0) 1 1 Tw.underlying22 hi0 hz0 hz1 hz2 rfl (by decide) _ _ _ rfl (hown5.alloc _) ⟨w5.heap.size, 0, none⟩ 1 1 [.int .u8 (c.toNat : Int)] rfl rfl (cell_one_new _ _ _) ?c2 ?c3 ?c4 ?c5 ?_)
        case c2 => intro u hu; simp at hu; subst hu; rfl
        case c3 => unfold maxLen; omega
        case c4 => omega
        case c5 => simp; omega
        intro v' w6 hown' hgrow _
        rw [← HST.out] at hown'
        have Q1 := Shut.mk hown'
        have Q2 := Shut.mk ((HB5.out.alloc hs5 (.cells #[.int .u8 (c.toNat : Int)] 5)).grown hgrow (by simp; omega) (fun q hq => (hown5.lt q hq).1))
        clear hown' hgrow hown5
        go_wp2_with fail
        exact ⟨⟨i + 1, v', rfl, by go_num, by omega, Q1, Q2⟩, by simp [intOf]; omega⟩
      · have hpx' : ¬ (pl : Int) < (x.size : Int) := by omega
        have hpx2 : (x.size : Int) ≤ (pl : Int) := by omega
        have hc0 : joinAt k U i = 0 := by rw [HJ.out]; exact get_none x pl hpx
        rw [hc0] at HST
        clear hc0 HJ
        go_wp2_with (at_builtin; refine wpList_append_own _ rfl _ _ 22 rfl w3.heap.size 5 i0 (.int .u8 0) 1 1 Tw.underlying22 hi0 hz0 hz1 hz2 rfl (by decide) _ _ _ rfl (hown5.alloc _) ⟨w5.heap.size, 0, none⟩ 1 1 [.int .u8 0] rfl rfl (cell_one_new _ _ _) ?c2 ?c3 ?c4 ?c5 ?_)
        case c2 => intro u hu; simp at hu; subst hu; rfl
        case c3 => unfold maxLen; omega
        case c4 => omega
        case c5 => simp; omega
        intro v' w6 hown' hgrow _
        have Q1 : Shut (w6.ownsRow w3.heap.size 5 1 v' (i + 1) (bv (joinL k U (i + 1)))) := ⟨by rw [HST.out]; exact hown'⟩
        have Q2 := Shut.mk ((HB5.out.alloc hs5 (.cells #[.int .u8 0] 5)).grown hgrow (by simp; omega) (fun q hq => (hown5.lt q hq).1))
        clear hown' hgrow hown5
        go_wp2_with fail
        exact ⟨⟨i + 1, v', rfl, by go_num, by omega, Q1, Q2⟩, by simp [intOf]; omega⟩
    · have e : i = N := by omega
      subst e
      have hlt' : ¬ (i : Int) < (i : Int) := by omega
      have hcv := own_string (l := joinL k U i) (by rw [joinL_len]; exact hown.out)
      clear hown
      go_wp2_with fail
      go_ret2
      exact ⟨rfl, hb.out⟩
/-- JoinUnits' model, at every argument. -/
theorem specJoinUnits {w : World} {u : Value} {U : List ByteArray} {lo hi : Nat} (s n : Int) (hu : SSee w u U lo hi) (hf : TFit U) : Calls Tw.prog 16 #[.int .i64 s, u, .int .i64 n] w fun e w' => JoinPost (joinX s U n) w e w' := by
  obtain ⟨a2, cap2, rfl, hm2⟩ := hu
  have hlf : U.length ≤ 1048576 := by unfold TFit at hf; omega
  have HS := Shut.mk (fun W => specSchema s W)
  unfold SchPost at HS
  cases h : schOk s with
  | false =>
    unfold JoinPost
    rw [joinX_no (fun q => by rw [h] at q; cases q.1)]
    rw [h] at HS
    clear h hm2 hf
    generalize schK s = k at *
    generalize schM s = m at *
    go_enter Tw.func16, Tw.ntmps16
    go_wp2_with fail
    refine (HS.out _).mono ?_
    rintro e w1 ⟨rfl, rfl⟩
    go_wp2_with fail
    go_ret2
    exact ⟨rfl, Below.refl _ _⟩
  | true =>
    obtain ⟨b1, b2, _, _⟩ := sch_bounds h
    by_cases hl : U.length = schK s
    · by_cases hn : 0 ≤ n ∧ n ≤ (groupN s : Int)
      · obtain ⟨b, off, rfl, lb, hc⟩ := units_cells hm2 (by omega)
        obtain ⟨N, rfl⟩ := Int.eq_ofNat_of_zero_le hn.1
        rw [hl]
        exact specJoin_walk s U N (schK s) b off cap2 w h rfl hl (by omega) ⟨lb, fun j hj => hc j (by omega)⟩
      · unfold JoinPost
        rw [joinX_no (fun q => hn q.2.2)]
        have hin : (decide ((0 : Int) ≤ n) && decide (n ≤ (groupN s : Int))) = false := by simp only [Bool.and_eq_false_iff, decide_eq_false_iff_not]; omega
        have HIN := Shut.mk (fun W => isIn n 0 (groupN s : Int) W false hin)
        have HG := Shut.mk (fun W => specGroupSize s W)
        rw [h] at HS
        rw [hl]
        have hkk : ((schK s : Int) != (schK s : Int)) = false := by simp
        clear h hm2 hf hn hin hl
        generalize schK s = k at *
        generalize schM s = m at *
        generalize groupN s = S at *
        go_enter Tw.func16, Tw.ntmps16
        go_wp2_with fail
        refine (HS.out _).mono ?_
        rintro e w1 ⟨rfl, rfl⟩
        go_wp2_with fail
        refine (HG.out _).mono ?_
        rintro e w2 ⟨rfl, rfl⟩
        go_wp2_with fail
        refine (HIN.out _).mono ?_
        rintro e w3 ⟨rfl, rfl⟩
        go_wp2_with fail
        go_ret2
        exact ⟨rfl, Below.refl _ _⟩
    · unfold JoinPost
      rw [joinX_no (fun q => hl q.2.1)]
      have hne : ((U.length : Int) != (schK s : Int)) = true := by rw [bne_iff_ne]; omega
      rw [h] at HS
      clear h hm2 hf hl
      generalize schK s = k at *
      generalize schM s = m at *
      go_enter Tw.func16, Tw.ntmps16
      go_wp2_with fail
      refine (HS.out _).mono ?_
      rintro e w1 ⟨rfl, rfl⟩
      go_wp2_with fail
      go_ret2
      exact ⟨rfl, Below.refl _ _⟩
end Go.Proofs.YtfhcpehfmecpjaaT
/- Rows of rows of numbers: the laws' own copies, sizes, comparisons and marks. -/
namespace Go.Proofs.YtfhcpehfmecpjaaT
open Go.RowKit
attribute [local go_sem ↓] Go.wp_at_zero Go.wp_at_succ

theorem infoRow : (Tw.prog.info? 31).map (fun i => (i.zero, i.size, i.bytes)) = some (some (.slice none 0 0), 1, 24) := by kernel_rfl
/-- Where the copy of a row of rows stands. -/
structure TI (w wr : World) (ss : List SR) (ts : List SR) : Prop where
  rweq : rws ts = rws (ss.take ts.length)
  out : WCells wr w.heap.size (svs ts ++ List.replicate (ss.length - ts.length) (.slice none 0 0))
  rows : ∀ s ∈ ts, ∃ b, s.loc = some ⟨b, 0, none⟩ ∧ w.heap.size ≤ b ∧ b < wr.heap.size ∧ b ≠ w.heap.size ∧ WCells wr b (ics s.row) ∧ s.row.length ≤ s.cap
  apart : (ts.map SR.loc).Nodup
  bel : Below w.heap.size w wr
theorem set_mid (A B : List Value) (x y : Value) (k : Nat) (h : A.length = k) : (A ++ x :: B).set k y = A ++ y :: B := by
  subst h
  rw [List.set_append_right _ _ (Nat.le_refl _)]
  simp
theorem TI.next {w wr w1 : World} {ss ts : List SR} {g1 : Nat} {row : List Int} {n : Nat} (h : TI w wr ss ts) (hk : ts.length < ss.length) (hrow : (ss[ts.length]).row = row) (hn : n = row.length) (hw : w.heap.size < wr.heap.size)
    (hg1 : wr.heap.size ≤ g1) (hc : WCells w1 g1 (ics row)) (hb : Below wr.heap.size wr w1) : TI w (w1.setCell ⟨w.heap.size, ts.length, none⟩ (.slice (some ⟨g1, 0, none⟩) n n)) ss (ts ++ [SR.mk (some ⟨g1, 0, none⟩) row row.length]) := by
  subst hn
  have hne : g1 ≠ w.heap.size := by omega
  have hsz : (w1.setCell ⟨w.heap.size, ts.length, none⟩ (.slice (some ⟨g1, 0, none⟩) row.length row.length)).heap.size = w1.heap.size := by simp [World.setCell]
  have hgs : w1.grownBy (w1.setCell ⟨w.heap.size, ts.length, none⟩ (.slice (some ⟨g1, 0, none⟩) row.length row.length)) (some w.heap.size) := gb_set' _ _ _ _
  refine ⟨?_, ?_, ?_, ?_, ?_⟩
  · rw [rws_snoc, h.rweq, List.length_append, List.length_singleton, List.take_succ_eq_append_getElem hk, rws_snoc, hrow]
  · have o := (h.out.below hb h.out.1).set ts.length (.slice (some ⟨g1, 0, none⟩) row.length row.length) (by rw [List.length_append, svs_len, List.length_replicate]; omega)
    obtain ⟨m, hm⟩ : ∃ m, ss.length - ts.length = m + 1 := ⟨ss.length - ts.length - 1, by omega⟩
    rw [hm, List.replicate_succ, set_mid _ _ _ _ _ (svs_len ts)] at o
    have e : svs (ts ++ [SR.mk (some ⟨g1, 0, none⟩) row row.length]) ++ List.replicate (ss.length - (ts ++ [SR.mk (some ⟨g1, 0, none⟩) row row.length]).length) (.slice none 0 0) = svs ts ++ .slice (some ⟨g1, 0, none⟩) row.length row.length :: List.replicate m (.slice none 0 0) := by
      rw [List.length_append, List.length_singleton, show ss.length - (ts.length + 1) = m by omega]
      simp [svs, srv]
    rw [e]
    exact o
  · intro s hs
    rcases List.mem_append.1 hs with h1 | h1
    · obtain ⟨b, e, q1, q2, q3, q4, q5⟩ := h.rows s h1
      exact ⟨b, e, q1, by rw [hsz]; exact Nat.lt_of_lt_of_le q2 hb.size, q3, (q4.below hb q4.1).apart hgs q3, q5⟩
    · simp at h1
      subst h1
      exact ⟨g1, rfl, by omega, by rw [hsz]; exact hc.1, hne, hc.apart hgs hne, Nat.le_refl _⟩
  · rw [List.map_append, List.nodup_append]
    refine ⟨h.apart, by simp, fun l hl l' hl' => ?_⟩
    obtain ⟨s, hs, rfl⟩ := List.mem_map.1 hl
    simp only [List.map_cons, List.map_nil, List.mem_singleton] at hl'
    subst hl'
    obtain ⟨b, e, _, q2, _⟩ := h.rows s hs
    rw [e]
    intro e2
    have e4 : b = g1 := congrArg Addr.block (Option.some.inj e2)
    omega
  · exact (h.bel.trans (hb.mono h.bel.size)).setCell (p := ⟨w.heap.size, ts.length, none⟩) (Nat.le_refl _) _
theorem TI.fin {w wr : World} {ss ts : List SR} (h : TI w wr ss ts) (hl : ts.length = ss.length) : rws ts = rws ss ∧ MW wr w.heap.size ts w.heap.size wr.heap.size := by
  refine ⟨by rw [h.rweq, hl, List.take_of_length_le (Nat.le_refl _)], ?_, Nat.le_refl _, h.out.1, h.rows, h.apart⟩
  have := h.out
  rwa [hl, Nat.sub_self, List.replicate_zero, List.append_nil] at this
/-- What a copy of a row of rows is. -/
def ToRows (ss : List SR) (w : World) (e : Ending) (w' : World) : Prop :=
  ∃ g ts, e = .returned (.slice (some ⟨g, 0, none⟩) ss.length ss.length) ∧ List.length (α := SR) ts = ss.length ∧ rws ts = rws ss ∧ MW w' g ts w.heap.size w'.heap.size ∧ Below w.heap.size w w'
/-- The size of rows of numbers, as the laws count it. -/
def msum : List SR → Nat
  | [] => 0
  | s :: ss => s.row.length + msum ss
theorem msum_take (ss : List SR) (k : Nat) (h : k < ss.length) : msum (ss.take (k + 1)) = msum (ss.take k) + ss[k].row.length := by
  induction ss generalizing k with
  | nil => simp at h
  | cons s ss ih =>
    cases k with
    | zero => simp [msum]
    | succ k =>
      have := ih k (by simpa using h)
      simp only [List.take_succ_cons, msum, this, List.getElem_cons_succ]
      omega
theorem msum_le (ss : List SR) (k : Nat) : msum (ss.take k) ≤ msum ss := by
  induction ss generalizing k with
  | nil => simp [msum]
  | cons s ss ih =>
    cases k with
    | zero => simp [msum]
    | succ k => have := ih k; simp only [List.take_succ_cons, msum]; omega
theorem msum_mem {ss : List SR} {s : SR} (h : s ∈ ss) : s.row.length ≤ msum ss := by
  induction ss with
  | nil => simp at h
  | cons t ss ih =>
    rcases List.mem_cons.1 h with rfl | h
    · simp only [msum]; omega
    · have := ih h; simp only [msum]; omega
/-- What is left of the room: or a number below 0. -/
def SzRows (left : Int) (n : Nat) (w : World) (e : Ending) (w' : World) : Prop := ∃ r : Int, e = .returned (.int .i64 r) ∧ w' = w ∧ ((n : Int) ≤ left → r = left - n) ∧ (left < n → r < 0)
end Go.Proofs.YtfhcpehfmecpjaaT
/- Rows of rows of numbers: the laws' own comparisons, marks that are laid into one, and found again. -/
namespace Go.Proofs.YtfhcpehfmecpjaaT
open Go.RowKit
attribute [local go_sem ↓] Go.wp_at_zero Go.wp_at_succ

end Go.Proofs.YtfhcpehfmecpjaaT
/- Rows of numbers as values: their comparison, marks that are laid and found again. -/
namespace Go.Proofs.YtfhcpehfmecpjaaT
open Go.RowKit

theorem spansX_len (s n : Int) : (spansX s n).length ≤ 1001 := by
  unfold spansX
  split
  · rename_i h
    unfold spanL
    rw [List.length_append, List.length_replicate, List.length_singleton]
    have := Nat.div_le_self (n.toNat - 1) (groupN s)
    omega
  · exact Nat.zero_le _
end Go.Proofs.YtfhcpehfmecpjaaT
/- The size of a row of texts. -/
namespace Go.Proofs.YtfhcpehfmecpjaaT
open Go.RowKit
attribute [local go_sem ↓] Go.wp_at_zero Go.wp_at_succ

set_option maxHeartbeats 1000000 in
theorem szStringS_any (a : Option Addr) (L : List ByteArray) (cap : Nat) (left : Int) (w : World) (hr : CRow w a (tv L)) (h0 : 0 ≤ left) (h1 : left ≤ 1048576) (hl : L.length ≤ 9223372036854775807) (hrl : ∀ s ∈ L, s.size ≤ 9223372036854775807) :
    Calls Tw.prog 15 #[.slice a L.length cap, .int .i64 left] w fun e w' => SzRows left (L.length + tsum L) w e w' := by
  have hw : IntKind.i64.wrap (left - (L.length : Int)) = left - (L.length : Int) := IntWalk.i64_in _ ⟨by omega, by omega⟩
  have HRL : Hid (∀ s ∈ L, s.size ≤ 9223372036854775807) := hrl
  have HR : Hid (CRow w a (tv L)) := hr
  clear hrl hr
  by_cases h : (L.length : Int) ≤ left
  · have h' : ¬ left - (L.length : Int) < 0 := by omega
    go_enter Tw.func15, Tw.ntmps15
    go_wp2_with fail
    go_loopw [1, 5] (fun c i wr => ∃ (k : Nat) (r : Int), i = .int .i64 k ∧ c = .int .i64 r ∧ k ≤ L.length ∧ r = left - L.length - tsum (L.take k) ∧ 0 ≤ r ∧ wr = w) (fun _ i _ => L.length - (intOf i).toNat)
    case atStart => exact ⟨0, left - L.length, rfl, rfl, by omega, by simp [tsum], by omega, rfl⟩
    case round =>
      obtain ⟨k, r, rfl, rfl, hk, hre, hr0, rfl⟩ := hrel
      have HRE : Hid (r = left - L.length - tsum (L.take k)) := hre
      have hr1 : r ≤ 1048576 := by omega
      clear hre
      by_cases hlt : k < L.length
      · obtain ⟨b, off, rfl, lb, hc⟩ := HR.out (by rw [tv_len]; omega)
        have d0 := hc k _ (tv_get L k hlt)
        have hlen := HRL.out (L.getD k ⟨#[]⟩) (by simp [List.getD, hlt])
        have hmt := tsum_take L k hlt
        have hml := tsum_le L (k + 1)
        generalize L.getD k ⟨#[]⟩ = x at *
        have HMT : Hid (tsum (L.take (k + 1)) = tsum (L.take k) + x.size ∧ tsum (L.take (k + 1)) ≤ tsum L) := ⟨hmt, hml⟩
        have k0 : (0 : Int) ≤ (k : Int) := by omega
        have k1 : (k : Int) < (L.length : Int) := by omega
        have hwr : IntKind.i64.wrap (r - (x.size : Int)) = r - (x.size : Int) := IntWalk.i64_in _ ⟨by omega, by omega⟩
        clear hmt hml hc
        by_cases hfit : (x.size : Int) ≤ r
        · have hneg : ¬ r - (x.size : Int) < 0 := by omega
          go_wp2_with fail
          go_roundw
          case rel => exact ⟨k + 1, r - x.size, by go_num, rfl, by omega, by have := HRE.out; have := HMT.out.1; omega, by omega, by first | rfl | trivial⟩
          case measure => simp [intOf]; omega
        · have hneg : r - (x.size : Int) < 0 := by omega
          have hno : left < (L.length + tsum L : Nat) := by have := HRE.out; have := HMT.out.1; have := HMT.out.2; omega
          have HNO : Hid (left < (L.length + tsum L : Nat)) := hno
          clear hno
          go_wp2_with fail
          go_ret
          exact ⟨-1, rfl, rfl, fun q => by have := HNO.out; omega, fun _ => by omega⟩
      · have e : k = L.length := by omega
        have hlt' : ¬ (k : Int) < (L.length : Int) := by omega
        have he : r = left - (L.length + tsum L : Nat) := by have := HRE.out; rw [e, List.take_length] at this; omega
        have HE : Hid (r = left - (L.length + tsum L : Nat)) := he
        clear e he
        go_wp2_with fail
        go_ret
        exact ⟨r, rfl, rfl, fun _ => HE.out, fun q => by have := HE.out; omega⟩
  · have h' : left - (L.length : Int) < 0 := by omega
    go_enter Tw.func15, Tw.ntmps15
    go_wp2_with fail
    go_ret
    exact ⟨-1, rfl, rfl, fun q => by omega, fun _ => by omega⟩
theorem szStringS_val {w : World} {v : Value} {L : List ByteArray} {lo hi : Nat} (left : Int) (h : SSee w v L lo hi) (hL : L.length ≤ 9223372036854775807 ∧ ∀ x ∈ L, x.size ≤ 9223372036854775807) (h0 : 0 ≤ left) (h1 : left ≤ 1048576) :
    Calls Tw.prog 15 #[v, .int .i64 left] w fun e w' => SzRows left (L.length + tsum L) w e w' := by
  obtain ⟨a, cap, rfl, hm⟩ := h
  exact szStringS_any a L cap left w hm.crow h0 h1 hL.1 hL.2
end Go.Proofs.YtfhcpehfmecpjaaT
/- The walks of the exact laws over stripes, over what is told of the program's own functions at every argument (written by gen/mklawstr.py). -/
namespace Go.Proofs.YtfhcpehfmecpjaaT
open Go.RowKit
attribute [local irreducible] schK schM schOk groupN placeX offX cutX joinX spansX tsum

theorem cutX_len (s : Int) (t : ByteArray) : (cutX s t).1.length ≤ 8 := by
  unfold cutX
  split
  · rename_i h
    show (cutL _ _ _).length ≤ 8
    rw [cutL_len]; have := (sch_bounds h.1).2.1; omega
  · exact Nat.zero_le _
set_option maxRecDepth 100000 in
set_option maxHeartbeats 4000000 in
theorem lawCutUnits (h : ∀ (s : Int) (t : ByteArray) (w : World), t.size ≤ 1048576 → Calls Tw.prog 8 #[.int .i64 s, .string t] w fun e w' => TPost8 (cutX s t) w e w') {w : World} {s : Int} {t : ByteArray} (ht : t.size ≤ 9223372036854775807) :
    Calls Tw.prog 4 #[.int .i64 s, .string t] w fun e w' => e = .returned (.bool true) ∧ Below w.heap.size w w' := by
  have HB : Shut (Below w.heap.size w w) := ⟨Below.refl _ _⟩
  have HH := Shut.mk h
  clear h
  go_enter Tw.func4, Tw.ntmps4
  by_cases hbig : (1048576 : Int) < (t.size : Int)
  case pos =>
    go_wp2_with fail
    go_ret
    exact ⟨rfl, HB.out⟩
  have HLR := cutX_len s t
  have HS := Shut.mk (fun W => specCutUnits s t W ht)
  have HI := Shut.mk (fun W => HH.out s t W (by omega))
  obtain ⟨R, ok, hre⟩ : ∃ R ok, cutX s t = (R, ok) := ⟨_, _, rfl⟩
  rw [hre] at HLR HS HI
  replace HLR : R.length ≤ 8 := HLR
  have hoo : (ok != ok) = false := by cases ok <;> rfl
  clear HH hre
  go_wp2_with fail
  refine (HS.out _).mono ?_
  rintro e w1 ⟨w0, rfl, hA, hb⟩
  have Fw0 := Shut.mk (show SAns w1 w0 R _ _ from hA)
  clear hA
  have z1 := hb.size
  replace HB := Shut.mk (HB.out.trans (hb.mono HB.out.size))
  clear hb
  go_wp2_with fail
  refine (HI.out _).mono ?_
  rintro e w2 ⟨g0, rfl, hA, hb⟩
  have Fg0 := Shut.mk (show SAns w2 g0 R _ _ from hA)
  clear hA
  replace Fw0 := Shut.mk (Fw0.out.below hb)
  have z2 := hb.size
  replace HB := Shut.mk (HB.out.trans (hb.mono HB.out.size))
  clear hb
  go_wp2_with fail
  refine (eqStringS_val Fg0.out Fw0.out (by omega)).mono ?_
  rintro e w3 ⟨rfl, hb⟩
  replace Fw0 := Shut.mk (Fw0.out.below hb)
  replace Fg0 := Shut.mk (Fg0.out.below hb)
  have z3 := hb.size
  replace HB := Shut.mk (HB.out.trans (hb.mono HB.out.size))
  clear hb
  go_wp2_with fail
  refine (markStringS_val 1 Fg0.out (by omega) (by have := HLR; omega)).mono ?_
  rintro e w4 ⟨rfl, hM, ht⟩
  obtain ⟨m1, hk⟩ : ∃ k : Nat, k = 1 + List.length R := ⟨_, rfl⟩
  rw [← hk]
  have Km1 : m1 ≤ 1 + 1048576 := by have := HLR; omega
  have Jm1 := Shut.mk hk
  clear hk
  replace Fw0 := Shut.mk (Fw0.out.turned ht (by omega))
  replace Fg0 := Shut.mk hM
  clear hM
  have z4 := ht.size
  replace HB := Shut.mk (HB.out.trans (ht.below (by omega) HB.out.size))
  clear ht
  go_wp2_with fail
  refine (heldStringS_val Fg0.out (by omega) (by have := HLR; omega)).mono ?_
  rintro e w5 ⟨rfl, hb⟩
  rw [← Jm1.out]
  replace Fw0 := Shut.mk (Fw0.out.below hb)
  replace Fg0 := Shut.mk (Fg0.out.below hb)
  have z5 := hb.size
  replace HB := Shut.mk (HB.out.trans (hb.mono HB.out.size))
  clear hb
  have hm0 : ¬ (m1 : Int) < 0 := by omega
  have hmm : ((m1 : Int) != (m1 : Int)) = false := by simp
  go_wp2_with fail
  refine (HI.out _).mono ?_
  rintro e w6 ⟨h0, rfl, hA, hb⟩
  have Fh0 := Shut.mk (show SAns w6 h0 R _ _ from hA)
  clear hA
  replace Fw0 := Shut.mk (Fw0.out.below hb)
  replace Fg0 := Shut.mk (Fg0.out.below hb)
  have z6 := hb.size
  replace HB := Shut.mk (HB.out.trans (hb.mono HB.out.size))
  clear hb
  go_wp2_with fail
  refine (eqStringS_val Fh0.out Fw0.out (by omega)).mono ?_
  rintro e w7 ⟨rfl, hb⟩
  replace Fw0 := Shut.mk (Fw0.out.below hb)
  replace Fg0 := Shut.mk (Fg0.out.below hb)
  replace Fh0 := Shut.mk (Fh0.out.below hb)
  have z7 := hb.size
  replace HB := Shut.mk (HB.out.trans (hb.mono HB.out.size))
  clear hb
  go_wp2_with fail
  refine (heldStringS_val Fg0.out (by omega) (by have := HLR; omega)).mono ?_
  rintro e w8 ⟨rfl, hb⟩
  rw [← Jm1.out]
  replace Fw0 := Shut.mk (Fw0.out.below hb)
  replace Fg0 := Shut.mk (Fg0.out.below hb)
  replace Fh0 := Shut.mk (Fh0.out.below hb)
  have z8 := hb.size
  replace HB := Shut.mk (HB.out.trans (hb.mono HB.out.size))
  clear hb
  go_wp2_with fail
  go_ret
  exact ⟨rfl, HB.out⟩
set_option maxRecDepth 100000 in
set_option maxHeartbeats 4000000 in
theorem lawJoinUnits (h : ∀ (w : World) (u : Value) (L : List ByteArray) (lo hi : Nat) (s n : Int), SSee w u L lo hi → TFit L → Calls Tw.prog 9 #[.int .i64 s, u, .int .i64 n] w fun e w' => JoinPost (joinX s L n) w e w') {w : World} {s n : Int} {u : Value} {L : List ByteArray} (hu : SSee w u L 0 w.heap.size) (lL : L.length ≤ 9223372036854775807 ∧ ∀ x ∈ L, x.size ≤ 9223372036854775807) :
    Calls Tw.prog 5 #[.int .i64 s, u, .int .i64 n] w fun e w' => e = .returned (.bool true) ∧ Below w.heap.size w w' := by
  have Fu := Shut.mk hu
  have HL := Shut.mk lL
  clear hu lL
  have HB : Shut (Below w.heap.size w w) := ⟨Below.refl _ _⟩
  have HH := Shut.mk h
  clear h
  go_enter Tw.func5, Tw.ntmps5
  go_wp2_with fail
  refine (szStringS_val 1048576 Fu.out HL.out (by omega) (by omega)).mono ?_
  rintro e w1 ⟨r0, rfl, hw, q1, q2⟩
  obtain rfl : w = w1 := hw.symm
  clear hw
  by_cases hfit : ((L.length + tsum L : Nat) : Int) ≤ 1048576
  case neg =>
    have hneg : r0 < 0 := q2 (by omega)
    clear q1 q2
    go_wp2_with fail
    go_ret
    exact ⟨rfl, HB.out⟩
  have hr := q1 hfit
  have r0n : ¬ r0 < 0 := by omega
  have HFL : Shut (TFit L) := ⟨by unfold TFit; omega⟩
  have NL : L.length ≤ 1048576 := by omega
  clear q1 q2 hr hfit
  have HS := Shut.mk fun (w : World) (u : Value) (lo hi : Nat) (hs : SSee w u L lo hi) => specJoinUnits s n hs HFL.out
  have HI := Shut.mk fun (w : World) (u : Value) (lo hi : Nat) (hs : SSee w u L lo hi) => HH.out w u L lo hi s n hs HFL.out
  unfold JoinPost at HS HI
  generalize (joinX s L n).1 = R at HS HI
  generalize (joinX s L n).2 = ok at HS HI
  have hoo : (ok != ok) = false := by cases ok <;> rfl
  clear HH
  go_wp2_with fail
  refine (toStringS_val Fu.out HFL.out).mono ?_
  rintro e w1 ⟨a1, rfl, hA, hb⟩
  have Fa1 := Shut.mk hA
  clear hA
  replace Fu := Shut.mk (Fu.out.below hb)
  have z1 := hb.size
  replace HB := Shut.mk (HB.out.trans (hb.mono HB.out.size))
  clear hb
  go_wp2_with fail
  refine (HS.out _ _ _ _ Fa1.out.see).mono ?_
  rintro e w2 ⟨rfl, hb⟩
  replace Fu := Shut.mk (Fu.out.below hb)
  replace Fa1 := Shut.mk (Fa1.out.below hb)
  have z2 := hb.size
  replace HB := Shut.mk (HB.out.trans (hb.mono HB.out.size))
  clear hb
  clear Fa1
  go_wp2_with fail
  refine (toStringS_val Fu.out HFL.out).mono ?_
  rintro e w3 ⟨x1, rfl, hA, hb⟩
  have Fx1 := Shut.mk hA
  clear hA
  replace Fu := Shut.mk (Fu.out.below hb)
  have z3 := hb.size
  replace HB := Shut.mk (HB.out.trans (hb.mono HB.out.size))
  clear hb
  go_wp2_with fail
  refine (HI.out _ _ _ _ Fx1.out.see).mono ?_
  rintro e w4 ⟨rfl, hb⟩
  replace Fu := Shut.mk (Fu.out.below hb)
  replace Fx1 := Shut.mk (Fx1.out.below hb)
  have z4 := hb.size
  replace HB := Shut.mk (HB.out.trans (hb.mono HB.out.size))
  clear hb
  go_wp2_with fail
  refine (toStringS_val Fu.out HFL.out).mono ?_
  rintro e w5 ⟨a4, rfl, hA, hb⟩
  have Fa4 := Shut.mk hA
  clear hA
  replace Fu := Shut.mk (Fu.out.below hb)
  replace Fx1 := Shut.mk (Fx1.out.below hb)
  have z5 := hb.size
  replace HB := Shut.mk (HB.out.trans (hb.mono HB.out.size))
  clear hb
  go_wp2_with fail
  refine (eqStringS_val Fx1.out Fa4.out (by omega)).mono ?_
  rintro e w6 ⟨rfl, hb⟩
  replace Fu := Shut.mk (Fu.out.below hb)
  replace Fx1 := Shut.mk (Fx1.out.below hb)
  replace Fa4 := Shut.mk (Fa4.out.below hb)
  have z6 := hb.size
  replace HB := Shut.mk (HB.out.trans (hb.mono HB.out.size))
  clear hb
  go_wp2_with fail
  go_ret
  exact ⟨rfl, HB.out⟩
end Go.Proofs.YtfhcpehfmecpjaaT
/- The program's own SchemaOf, GroupSize, PlaceOf, OffsetOf and Spans. -/
namespace Go.Proofs.YtfhcpehfmecpjaaT
open Go.RowKit
attribute [local go_sem ↓] Go.wp_at_zero Go.wp_at_succ

theorem implSch (s : Int) (w : World) : Calls Tw.prog 22 #[.int .i64 s] w fun e w' => SchPost s w e w' := by
  cases h : schOk s with
  | true =>
    obtain rfl | rfl | rfl := sch_cases h
    all_goals
      clear h
      go_enter Tw.func22, Tw.ntmps22
      go_wp2_with fail
      go_ret3
      exact ⟨rfl, rfl⟩
  | false =>
    obtain ⟨h1, h2, h3⟩ := sch_no h
    obtain ⟨e1, e2⟩ := sch_zero h
    unfold SchPost
    rw [e1, e2, h]
    clear h e1 e2
    go_enter Tw.func22, Tw.ntmps22
    go_wp2_with fail
    go_ret3
    exact ⟨rfl, rfl⟩
theorem implSize (s : Int) (w : World) : Calls Tw.prog 23 #[.int .i64 s] w fun e w' => e = .returned (.int .i64 (groupN s : Nat)) ∧ w' = w := by
  have HS := Shut.mk (fun W => implSch s W)
  unfold SchPost at HS
  have hk : schK s ≤ 4 := by
    cases h : schOk s with
    | true => exact (sch_bounds h).2.1
    | false => rw [(sch_zero h).1]; omega
  have hg : ((groupN s : Nat) : Int) = (schK s : Int) * 4 * 2 := by unfold groupN; push_cast; omega
  generalize schOk s = ok at *
  generalize schM s = m at *
  generalize schK s = k at *
  have HG := Shut.mk hg
  clear hg
  go_enter Tw.func23, Tw.ntmps23
  go_wp2_with fail
  refine (HS.out _).mono ?_
  rintro e w1 ⟨rfl, rfl⟩
  go_wp2_with fail
  go_ret
  exact ⟨by rw [HG.out]; first | rfl | (simp; done) | (congr 2; omega), rfl⟩
theorem implGroupSize (s : Int) (w : World) : Calls Tw.prog 23 #[.int .i64 s] w fun e w' => e = .returned (.int .i64 (groupN s : Nat)) ∧ Below w.heap.size w w' :=
  (implSize s w).mono (fun _ _ h => ⟨h.1, by rw [h.2]; exact Below.refl _ _⟩)
set_option maxHeartbeats 2000000 in
theorem implPlaceOf (s off : Int) (w : World) : Calls Tw.prog 33 #[.int .i64 s, .int .i64 off] w fun e w' => PlacePost s off w e w' := by
  have HS := Shut.mk (fun W => implSch s W)
  unfold SchPost at HS
  have HG := Shut.mk (fun W => implSize s W)
  unfold PlacePost
  cases h : schOk s with
  | false =>
    have e0 : placeX s off = (0, 0, 0) := by unfold placeX; rw [if_neg (by rw [h]; simp)]
    rw [e0]
    rw [h] at HS
    clear h e0
    generalize schK s = k at *
    generalize schM s = m at *
    go_enter Tw.func33, Tw.ntmps33
    go_wp2_with fail
    refine (HS.out _).mono ?_
    rintro e w1 ⟨rfl, rfl⟩
    go_wp2_with fail
    go_ret3
    exact ⟨rfl, Below.refl _ _⟩
  | true =>
    rw [h] at HS
    obtain ⟨b1, b2, _, _⟩ := sch_bounds h
    by_cases ho : 0 ≤ off ∧ off ≤ 100000
    · obtain ⟨o, rfl⟩ := Int.eq_ofNat_of_zero_le ho.1
      have ho5 : o ≤ 100000 := by omega
      have hl0 : ¬ (o : Int) < 0 := by omega
      have hl1 : ¬ (100000 : Int) < (o : Int) := by omega
      have e0 : placeX s (o : Int) = (o / (schK s * 8), unitAt (schK s) o, placeIn (schK s) o) := by unfold placeX; rw [if_pos ⟨h, ho⟩]; rfl
      rw [e0]
      unfold groupN at HG
      clear h ho e0
      generalize schM s = m at *
      generalize schK s = k at *
      obtain ⟨S, hS⟩ : ∃ S, S = k * 8 := ⟨_, rfl⟩
      have hS0 : 0 < S := by omega
      have hS32 : S ≤ 32 := by omega
      have e1 : ((o : Int) % (S : Int)) = ((o % S : Nat) : Int) := by push_cast; rfl
      have e2 : ((o : Int) / (S : Int)) = ((o / S : Nat) : Int) := by push_cast; rfl
      have hb : o % S < S := Nat.mod_lt _ hS0
      have e3 : ((o % S : Nat) : Int) / 4 = ((o % S / 4 : Nat) : Int) := by push_cast; rfl
      have e4 : ((o % S : Nat) : Int) % 4 = ((o % S % 4 : Nat) : Int) := by push_cast; rfl
      have e5 : ((o % S / 4 : Nat) : Int) % (k : Int) = ((unitAt k o : Nat) : Int) := by unfold unitAt; rw [← hS]; push_cast; rfl
      have e6 : ((o % S / 4 : Nat) : Int) / (k : Int) = ((o % S / 4 / k : Nat) : Int) := by push_cast; rfl
      have e7 : ((placeIn k o : Nat) : Int) = ((o % S / 4 / k : Nat) : Int) * 4 + ((o % S % 4 : Nat) : Int) := by unfold placeIn; rw [← hS]; push_cast; rfl
      have hc8 : o % S / 4 ≤ 8 := by omega
      have hd : o % S / 4 / k ≤ 8 := Nat.le_trans (Nat.div_le_self _ _) hc8
      have hr : o % S % 4 < 4 := Nat.mod_lt _ (by omega)
      have hqq : o / S ≤ 100000 := Nat.le_trans (Nat.div_le_self _ _) ho5
      rw [← hS] at HG ⊢
      generalize unitAt k o = u at *
      generalize placeIn k o = pl at *
      generalize o % S % 4 = r at *
      generalize o % S / 4 / k = d at *
      generalize o % S / 4 = c at *
      generalize o % S = b at *
      generalize o / S = q at *
      have HE := Shut.mk e7
      have hSn : ((S : Int) == 0) = false := by rw [beq_eq_false_iff_ne]; omega
      have hkn : ((k : Int) == 0) = false := by rw [beq_eq_false_iff_ne]; omega
      have s0 : (0 : Int) < (S : Int) := by omega
      have k0 : (0 : Int) < (k : Int) := by omega
      have t1 : (o : Int).tmod (S : Int) = (b : Int) := by rw [Int.tmod_eq_emod_of_nonneg (by omega)]; exact e1
      have t2 : (o : Int).tdiv (S : Int) = (q : Int) := by rw [Int.tdiv_eq_ediv_of_nonneg (by omega)]; exact e2
      have t3 : (b : Int).tdiv 4 = (c : Int) := by rw [Int.tdiv_eq_ediv_of_nonneg (by omega)]; exact e3
      have t4 : (b : Int).tmod 4 = (r : Int) := by rw [Int.tmod_eq_emod_of_nonneg (by omega)]; exact e4
      have t5 : (c : Int).tmod (k : Int) = (u : Int) := by rw [Int.tmod_eq_emod_of_nonneg (by omega)]; exact e5
      have t6 : (c : Int).tdiv (k : Int) = (d : Int) := by rw [Int.tdiv_eq_ediv_of_nonneg (by omega)]; exact e6
      clear e7 hS
      go_enter Tw.func33, Tw.ntmps33
      go_wp2_with fail
      refine (HS.out _).mono ?_
      rintro e w1 ⟨rfl, rfl⟩
      go_wp2_with fail
      go_quiet ((go_at_call 23; exact Calls.quiet_of_same (HG.out _)))
      go_wp2_with fail
      go_quiet (fail)
      go_wp2_with fail
      go_ret3
      exact ⟨by rw [HE.out]; rfl, ⟨rfl, rfl, rfl, Nat.le_refl _, fun _ _ => rfl⟩⟩
    · have e0 : placeX s off = (0, 0, 0) := by unfold placeX; rw [if_neg (fun q => ho q.2)]
      rw [e0]
      clear h e0
      generalize schK s = k at *
      generalize schM s = m at *
      by_cases hl0 : off < 0
      · clear ho
        go_enter Tw.func33, Tw.ntmps33
        go_wp2_with fail
        refine (HS.out _).mono ?_
        rintro e w1 ⟨rfl, rfl⟩
        go_wp2_with fail
        go_ret3
        exact ⟨rfl, Below.refl _ _⟩
      · have hl1 : (100000 : Int) < off := by omega
        clear ho
        go_enter Tw.func33, Tw.ntmps33
        go_wp2_with fail
        refine (HS.out _).mono ?_
        rintro e w1 ⟨rfl, rfl⟩
        go_wp2_with fail
        go_ret3
        exact ⟨rfl, Below.refl _ _⟩
theorem span_one {S n j : Nat} (h1 : j * S < n) (h2 : n ≤ j * S + S) (hS : 0 < S) : spanL S n = List.replicate j (S : Int) ++ [((n - j * S : Nat) : Int)] := by
  unfold spanL
  rw [span_last hS h1 h2]
end Go.Proofs.YtfhcpehfmecpjaaT
/- The library's functions that this seat's code calls: their contracts, as the guide's shelf lays them. -/
namespace Go.Proofs
open Go.Shelf
def Tw.laysM316_ren : Go.Shelf.Ren := ⟨fun | 316 => 32 | n => n, fun | 9 => 9 | 3 => 3 | 4 => 4 | 37 => 22 | 0 => 0 | 127 => 61 | 5 => 5 | n => n, fun | n => n⟩
theorem Tw.laysM316 : Go.Proofs.LaysM.n316 Tw.prog Tw.laysM316_ren := {
  mixed := by kernel_rfl
  f316 := Tw.func32.trans (congrArg some (by kernel_rfl))
  t0 := Tw.underlying0
  a0 := Tw.isAgg0
  z0 := Tw.sizeOf0
  v0 := Tw.zeroValue0
  t3 := Tw.underlying3
  a3 := Tw.isAgg3
  z3 := Tw.sizeOf3
  v3 := Tw.zeroValue3
  t4 := Tw.underlying4
  a4 := Tw.isAgg4
  z4 := Tw.sizeOf4
  v4 := Tw.zeroValue4
  t9 := Tw.underlying9
  a9 := Tw.isAgg9
  z9 := Tw.sizeOf9
  v9 := Tw.zeroValue9
  t37 := Tw.underlying22
  a37 := Tw.isAgg22
  z37 := Tw.sizeOf22
  v37 := Tw.zeroValue22
  t127 := Tw.underlying61
  a127 := Tw.isAgg61
  z127 := Tw.sizeOf61
  v127 := Tw.zeroValue61
  t5 := Tw.underlying5
  a5 := Tw.isAgg5
  z5 := Tw.sizeOf5
  v5 := Tw.zeroValue5
  i0 := by kernel_rfl
  i3 := by kernel_rfl
  i4 := by kernel_rfl
  i5 := by kernel_rfl
  i9 := by kernel_rfl
  i37 := by kernel_rfl
  i127 := by kernel_rfl }
open Go.RowKit in
theorem Tw.stringslite_Clone (s : ByteArray) (w : World) (hlim : s.size ≤ 281474976710656) :
    Calls Tw.prog 32 #[.string s] w fun e w' => e = .returned (.string s) ∧ Below w.heap.size w w' := Any.stringslite_Clone Tw.laysM316 s w hlim
end Go.Proofs
/- A receive of two results, and the look at its flag, as one region: laws for the walk. -/
namespace Go.Proofs.Ytfhcpehfmecpjaa
open Go.Conc

/-- What is known of such a region. -/
structure RcReg (P : Program) (ops : Array Oper) (slot pair flag : Nat) (z : Value) : Prop where
  size : ops.size = 2
  op0 : ∃ o ct el d, ops[0]? = some o ∧ o.guard = none ∧ o.dst = some pair ∧ o.op = .recv ct (.tmp slot) true ∧ (∀ w es, (underlying ct).runT P w es = (.ok (.chan d el) w, es)) ∧ ∀ w es, (zeroValue el).runT P w es = (.ok z w, es)
  op1 : ∃ o, ops[1]? = some o ∧ o.guard = none ∧ o.dst = some flag ∧ o.op = .extract (.tmp pair) 1
section
variable {P : Program} {ops : Array Oper} {slot pair flag id : Nat} {z : Value} {a : Act} {w : World} {Q : Exit → Act → World → Prop} {c cap s r : Nat} {tm : Bool}
theorem rc_comm (h : RcReg P ops slot pair flag z) (hs : a.eval (.tmp slot) = .chan (some c)) (b : Frame) (l : List Nat) (k : List Item) (cs : List Frame) (v : World) : stepG P true (G (b.at a (.inRegion ops (0 :: l) :: k)) cs) v = .comm (G (b.at a (.inRegion ops (0 :: l) :: k)) cs) #[rcase c z] true (.recv true) v #[] := by
  obtain ⟨o, ct, el, d, h1, h2, h3, h4, hu, hz⟩ := h.op0
  have hw : Region.wanted o (yielded ops a.tmps) = true := by unfold Region.wanted; rw [h2]
  have e : (execOp (b.at a (.inRegion ops (0 :: l) :: k)).eval o).runT P v #[] = (.ok (.comm #[rcase c z] true (.recv true)) v, #[]) := by
    unfold execOp
    rw [h4]
    have e1 : ∀ {α β : Type} (x : Sem α) (F : α → Sem β), (x >>= F) = x.bind F := fun _ _ => rfl
    have hs' : (b.at a (.inRegion ops (0 :: l) :: k)).eval (.tmp slot) = .chan (some c) := by rw [Frame.eval_at]; exact hs
    simp only [e1, Sem.runT_bind', hu, hz, hs']
    rfl
  show stepG P true (Gr (b.at a (.inRegion ops (0 :: l) :: k)) cs) v = _
  rw [step_op (fr := b.at a (.inRegion ops (0 :: l) :: k)) rfl rfl rfl h1 hw]
  simp [-Sem.runT_eq, stepG.apply, e, GStep.after, seen, G]
theorem rc_look (h : RcReg P ops slot pair flag z) {x : Value} {f : Bool} (hx : a.eval (.tmp pair) = .tuple #[x, .bool f]) (b : Frame) (k : List Item) (cs : List Frame) (v : World) : step P (lone (b.at a (.inRegion ops [1] :: k)) cs v) = .next (lone (b.at (a.put (some flag) (.bool f)) (.inRegion ops [] :: k)) cs v) := by
  obtain ⟨o, h1, h2, h3, h4⟩ := h.op1
  have hw : Region.wanted o (yielded ops a.tmps) = true := by unfold Region.wanted; rw [h2]
  refine lone_step (es := #[]) ?_
  have e : (execOp (b.at a (.inRegion ops [1] :: k)).eval o).runT P v #[] = (.ok (.value (.bool f)) v, #[]) := by
    unfold execOp
    rw [h4]
    have hx' : (b.at a (.inRegion ops [1] :: k)).eval (.tmp pair) = .tuple #[x, .bool f] := by rw [Frame.eval_at]; exact hx
    simp only [hx']
    rfl
  rw [step_op (fr := b.at a (.inRegion ops [1] :: k)) rfl rfl rfl h1 hw]
  simp [-Sem.runT_eq, stepG.apply, e, GStep.after, seen, Frame.finish_at, h1, h3]
theorem wp_take (h : RcReg P ops slot pair flag z) (hs : a.eval (.tmp slot) = .chan (some c)) (hp : pair < a.tmps.size) {v : Value} {vs : List Value} {cl : Bool} (hc : w.heap[c]? = some (.chan cap (v :: vs).toArray cl s r tm))
    (hQ : Q .normal ((a.put (some pair) (.tuple #[v, .bool true])).put (some flag) (.bool true)) (w.setChan c cap vs.toArray cl s (r + 1) tm)) : (Code.region id ops false).wp P Q a w := by
  intro b k cs
  refine ⟨.normal, _, _, hQ, ?_⟩
  refine .head step_region ?_
  rw [h.size, show List.range 2 = [0, 1] from rfl]
  obtain ⟨o, ct, el, d, h1, h2, h3, h4, hu, hz⟩ := h.op0
  have e := step_lone_recv_buf true (rc_comm h hs b [1] k cs w) hc (by simp)
  refine .head (m₁ := lone (b.at (a.put (some pair) (.tuple #[v, .bool true])) (.inRegion ops [1] :: k)) cs (w.setChan c cap vs.toArray cl s (r + 1) tm)) ?_ (.head (rc_look h (x := v) (f := true) ?_ b k cs _) (.one step_region_end))
  · rw [lone_eq_solo, e, Frame.finish_at]
    simp [h1, h3, got, lone_eq_solo]
  · simp [Act.eval, Act.put, hp]
theorem wp_shut (h : RcReg P ops slot pair flag z) (hs : a.eval (.tmp slot) = .chan (some c)) (hp : pair < a.tmps.size) (hc : w.heap[c]? = some (.chan cap #[] true s r tm))
    (hQ : Q .normal ((a.put (some pair) (.tuple #[z, .bool false])).put (some flag) (.bool false)) w) : (Code.region id ops false).wp P Q a w := by
  intro b k cs
  refine ⟨.normal, _, _, hQ, ?_⟩
  refine .head step_region ?_
  rw [h.size, show List.range 2 = [0, 1] from rfl]
  obtain ⟨o, ct, el, d, h1, h2, h3, h4, hu, hz⟩ := h.op0
  have e := step_lone_recv_shut true (rc_comm h hs b [1] k cs w) hc
  refine .head (m₁ := lone (b.at (a.put (some pair) (.tuple #[z, .bool false])) (.inRegion ops [1] :: k)) cs w) ?_ (.head (rc_look h (x := z) (f := false) ?_ b k cs _) (.one step_region_end))
  · rw [lone_eq_solo, e, Frame.finish_at]
    simp [h1, h3, got, lone_eq_solo]
  · simp [Act.eval, Act.put, hp]
end
end Go.Proofs.Ytfhcpehfmecpjaa
/- Over the twin: the cells as they come out of the channel; what the twin's cells tells. -/
namespace Go.Proofs.YtfhcpehfmecpjaaT
open Go.RowKit
open Go.Proofs.Ytfhcpehfmecpjaa (cellV cellsF Rn Tend twin_good tw tw24 cellsT RcReg wp_take wp_shut)

/-- The cells of the first n bytes from byte i on, plain. -/
def cellsK (k n : Nat) : Nat → Nat → List Value
  | 0, _ => []
  | f + 1, i => if i < n then cellV (i : Nat) (min (i + 4) n : Nat) (unitAt k i : Nat) (placeIn k i : Nat) :: cellsK k n f (i + 4) else []
theorem cells_is {s : Int} (hs : schOk s = true) {n : Nat} (hn : n ≤ 32) : ∀ (f i : Nat), i + 4 * f ≤ 60 → cellsF s n f i = cellsK (schK s) n f i
  | 0, _, _ => rfl
  | f + 1, i, h => by
    rw [cellsF, cellsK]
    by_cases e : i < n
    · rw [if_pos e, if_pos e, cells_is hs hn f (i + 4) (by omega)]
      obtain ⟨p1, p2⟩ := Go.Proofs.Ytfhcpehfmecpjaa.placeX_is (s := s) (i := i) hs (by omega)
      rw [p1, p2]
      rfl
    · rw [if_neg e, if_neg e]
theorem unit_same {k i d : Nat} (hk : k = 2 ∨ k = 3 ∨ k = 4) (h4 : i % 4 = 0) (hd : d < 4) : unitAt k (i + d) = unitAt k i := by
  unfold unitAt
  rcases hk with rfl | rfl | rfl <;> omega
theorem place_same {k i d : Nat} (hk : k = 2 ∨ k = 3 ∨ k = 4) (h4 : i % 4 = 0) (hd : d < 4) : placeIn k (i + d) = placeIn k i + d := by
  unfold placeIn
  rcases hk with rfl | rfl | rfl <;> omega
theorem ext_more {t : ByteArray} {i d : Nat} (h : i + d < t.size) (x : ByteArray) : (x ++ t.extract i (i + d)) ++ t.extract (i + d) (i + d + 1) = x ++ t.extract i (i + d + 1) := by
  apply ByteArray.ext
  simp [ByteArray.data_extract]
theorem cut_cell {k : Nat} (hk : k = 2 ∨ k = 3 ∨ k = 4) {t : ByteArray} {i : Nat} (h4 : i % 4 = 0) : ∀ d, d ≤ 4 → i + d ≤ t.size → (cutL k t i).set (unitAt k i) ((cutL k t i).getD (unitAt k i) ⟨#[]⟩ ++ t.extract i (i + d)) = cutL k t (i + d)
  | 0, _, _ => by
    have e : (cutL k t i).getD (unitAt k i) ⟨#[]⟩ ++ t.extract i (i + 0) = (cutL k t i).getD (unitAt k i) ⟨#[]⟩ := by
      apply ByteArray.ext
      simp [ByteArray.data_extract]
    rw [e, Nat.add_zero]
    have hu : unitAt k i < (cutL k t i).length := by rw [cutL_len]; exact unit_lt (by omega) i
    rw [show (cutL k t i).getD (unitAt k i) ⟨#[]⟩ = (cutL k t i)[unitAt k i] by simp [List.getD, hu]]
    exact List.set_getElem_self hu
  | d + 1, hd, hz => by
    have ih := cut_cell hk (t := t) h4 d (by omega) (by omega)
    have hu : unitAt k i < (cutL k t i).length := by rw [cutL_len]; exact unit_lt (by omega) i
    have st := cutL_step (k := k) (by omega) t (i + d)
    rw [← byte_cat (show i + d < t.size by omega), unit_same hk h4 (by omega), ← ih] at st
    rw [show i + (d + 1) = i + d + 1 by omega, ← st]
    rw [List.set_set]
    congr 1
    rw [← ext_more (by omega)]
    congr 1
    simp [List.getD, hu]
theorem twRc {ops : Array Oper} {slot pair flag : Nat} (hsz : ops.size = 2) (h0 : (ops[0]?).map (fun o => (o.guard, o.dst, o.op)) = some (none, some pair, .recv 45 (.tmp slot) true)) (h1 : (ops[1]?).map (fun o => (o.guard, o.dst, o.op)) = some (none, some flag, .extract (.tmp pair) 1)) : RcReg Tw.prog ops slot pair flag Go.Proofs.Ytfhcpehfmecpjaa.z48 := by
  obtain ⟨o, a1, a2, a3, a4⟩ := Go.Proofs.Ytfhcpehfmecpjaa.of_map h0
  obtain ⟨p, b1, b2, b3, b4⟩ := Go.Proofs.Ytfhcpehfmecpjaa.of_map h1
  exact ⟨hsz, ⟨o, _, _, _, a1, a2, a3, a4, Go.Proofs.Ytfhcpehfmecpjaa.run_under Tw.underlying45, Go.Proofs.Ytfhcpehfmecpjaa.run_zero (P := Tw.prog) Go.Proofs.Ytfhcpehfmecpjaa.info48z⟩, ⟨p, b1, b2, b3, b4⟩⟩
/-- The twin's cells. -/
theorem twCells (s : Int) (n : Nat) (hn : n ≤ 32) (hs : schOk s = true) (w : World) : Calls Tw.prog 24 #[.int .i64 s, .int .i64 (n : Int)] w fun e w' => e = .returned (.chan (some w.heap.size)) ∧ ∃ m, w' = w.alloc (.chan 32 (cellsK (schK s) n 9 0).toArray true m 0 false) := by
  intro cs
  obtain ⟨fr', w', ⟨q1, q2, q3, q4, q5, m, q6⟩, hr⟩ := twin_good s n hn hs w
  obtain ⟨k, e⟩ := hr cs w.tape
  refine ⟨.returned (.chan (some w.heap.size)), w', fr', ⟨rfl, m, by rw [q6, cells_is hs hn 9 0 (by omega)]⟩, ⟨k, ?_⟩, q1, q2, q3, q4, cellsT, ?_, ?_⟩
  · have e2 : (Go.Proofs.Ytfhcpehfmecpjaa.Rt w' w.tape) = w' := by rw [q6]; rfl
    rw [e2] at e
    exact e
  · rw [q1]; exact tw24
  · have hr2 : (results cellsT fr'.tmps) = pure (.chan (some w.heap.size)) := by
      rw [← q5]
      simp [-Array.getD_eq_getD_getElem?, results, cellsT]
    rw [hr2]
    rfl
end Go.Proofs.YtfhcpehfmecpjaaT
/- Over the twin: the program's own CutUnits. -/
namespace Go.Proofs.YtfhcpehfmecpjaaT
open Go.RowKit
open Go.Proofs.Ytfhcpehfmecpjaa (cellV RcReg wp_take wp_shut)
attribute [local go_sem ↓] Go.wp_at_zero Go.wp_at_succ

/-- How many values a channel holds. -/
def chLeft (c : Nat) (w : World) : Nat := match w.heap[c]? with
  | some (.chan _ b _ _ _ _) => b.size
  | _ => 0
theorem chLeft_is {c cap m r : Nat} {b : Array Value} {cl tm : Bool} {w : World} (h : w.heap[c]? = some (.chan cap b cl m r tm)) : chLeft c w = b.size := by unfold chLeft; rw [h]
theorem twClone (s : ByteArray) (w : World) (h : s.size ≤ 281474976710656) : Calls Tw.prog 25 #[.string s] w fun e w' => e = .returned (.string s) ∧ Below w.heap.size w w' := by
  go_enter Tw.func25, Tw.ntmps25
  go_wp2_with fail
  refine (Tw.stringslite_Clone s _ h).mono ?_
  rintro e w1 ⟨rfl, hb⟩
  go_wp2_with fail
  go_ret
  exact ⟨rfl, hb⟩
theorem cellsK_more {k n i : Nat} : ∀ {f : Nat}, n ≤ i + 4 * f → i < n → ∃ f', cellsK k n f i = cellV (i : Nat) (min (i + 4) n : Nat) (unitAt k i : Nat) (placeIn k i : Nat) :: cellsK k n f' (i + 4) ∧ n ≤ i + 4 + 4 * f'
  | 0, h, h' => absurd h (by omega)
  | f + 1, h, h' => ⟨f, by rw [cellsK, if_pos h'], by omega⟩
theorem cellsK_none {k n i : Nat} (h : n ≤ i) : ∀ f : Nat, cellsK k n f i = []
  | 0 => rfl
  | f + 1 => by rw [cellsK, if_neg (by omega)]
theorem chan_alloc {w : World} {c : Nat} {o o' : Obj} (h : w.heap[c]? = some o) : (w.alloc o').heap[c]? = some o := by
  have hc : c < w.heap.size := (Array.getElem?_eq_some_iff.1 h).1
  exact (((Below.refl w.heap.size w).alloc (Nat.le_refl _) o').block c hc).trans h
theorem chan_lt {w : World} {c : Nat} {o : Obj} (h : w.heap[c]? = some o) : c < w.heap.size := (Array.getElem?_eq_some_iff.1 h).1
theorem cell_not {w : World} {g : Nat} {L : List Value} (h : WCells w g L) (hl : 0 < L.length) {c cap m r : Nat} {b : Array Value} {cl tm : Bool} (hc : w.heap[c]? = some (.chan cap b cl m r tm)) : g ≠ c := by
  rintro rfl
  have := (h.2 0 _ (List.getElem?_eq_getElem hl)).1
  simp [World.cell?, hc] at this
/-- A cell's four numbers. -/
def C4 (w : World) (g : Nat) (a b u p : Nat) : Prop := w.cell? ⟨g, 0, none⟩ = some (.int .i64 (a : Nat)) ∧ w.cell? ⟨g, 1, none⟩ = some (.int .i64 (b : Nat)) ∧ w.cell? ⟨g, 2, none⟩ = some (.int .i64 (u : Nat)) ∧ w.cell? ⟨g, 3, none⟩ = some (.int .i64 (p : Nat))
theorem cell_in {w : World} {p : Addr} {v : Value} (h : w.cell? p = some v) : p.block < w.heap.size := by
  by_cases c : p.block < w.heap.size
  · exact c
  · exfalso
    unfold World.cell? at h
    rw [Array.getElem?_eq_none (by omega)] at h
    simp at h
theorem C4.below {w w' : World} {g a b u p : Nat} (h : C4 w g a b u p) (hb : Below w.heap.size w w') : C4 w' g a b u p :=
  ⟨(hb.cell (p := ⟨g, 0, none⟩) (cell_in h.1)).trans h.1, (hb.cell (p := ⟨g, 1, none⟩) (cell_in h.2.1)).trans h.2.1, (hb.cell (p := ⟨g, 2, none⟩) (cell_in h.2.2.1)).trans h.2.2.1, (hb.cell (p := ⟨g, 3, none⟩) (cell_in h.2.2.2)).trans h.2.2.2⟩
theorem C4.new (w : World) (a b u p : Nat) (t : TypeId) : C4 (w.alloc (.cells #[.int .i64 (a : Nat), .int .i64 (b : Nat), .int .i64 (u : Nat), .int .i64 (p : Nat)] t)) w.heap.size a b u p := by
  have h := wcells_new w #[.int .i64 (a : Nat), .int .i64 (b : Nat), .int .i64 (u : Nat), .int .i64 (p : Nat)] t
  exact ⟨(h.2 0 _ rfl).1, (h.2 1 _ rfl).1, (h.2 2 _ rfl).1, (h.2 3 _ rfl).1⟩
theorem C4.set {w : World} {g a b u p : Nat} (h : C4 w g a b u p) (q : Addr) (v : Value) (hq : g ≠ q.block) : C4 (w.setCell q v) g a b u p := by
  have e := Below.heap_setCell w q v g hq
  unfold C4 World.cell? at h ⊢
  simp only [e]
  exact h
def CU (w : World) (g u : Nat) (x : ByteArray) : Prop := w.cell? ⟨g, u, none⟩ = some (.string x) ∧ w.frozen? ⟨g, u, none⟩ = false
theorem CU.below {w w' : World} {g u : Nat} {x : ByteArray} (h : CU w g u x) (hb : Below w.heap.size w w') : CU w' g u x :=
  ⟨(hb.cell (p := ⟨g, u, none⟩) (cell_in h.1)).trans h.1, (hb.frozen (p := ⟨g, u, none⟩) (cell_in h.1)).trans h.2⟩
theorem CU.alloc {w : World} {g u : Nat} {x : ByteArray} (h : CU w g u x) (o : Obj) : CU (w.alloc o) g u x := h.below ((Below.refl _ _).alloc (Nat.le_refl _) o)
set_option maxRecDepth 100000 in
set_option maxHeartbeats 2000000 in
theorem implCutUnits (s : Int) (t : ByteArray) (w : World) (hts : t.size ≤ 1048576) : Calls Tw.prog 8 #[.int .i64 s, .string t] w fun e w' => TPost8 (cutX s t) w e w' := by
  obtain ⟨i0, hi0, hz0, hz1, hz2⟩ := info_parts infoTextG
  have HS := Shut.mk (fun W => implSch s W)
  unfold SchPost at HS
  have HG := Shut.mk (fun W => implSize s W)
  have hg32 := groupN_bounds s
  cases h : schOk s with
  | false =>
    have e0 : cutX s t = ([], false) := by unfold cutX; rw [if_neg (fun q => by rw [h] at q; cases q.1)]
    unfold TPost8
    rw [e0]
    rw [h] at HS
    clear h e0 hg32
    generalize schK s = k at *
    generalize schM s = m at *
    go_enter Tw.func8, Tw.ntmps8
    go_wp2_with fail
    refine (HS.out _).mono ?_
    rintro e w1 ⟨rfl, rfl⟩
    go_wp2_with fail
    go_ret2
    exact ⟨_, rfl, ⟨none, 0, rfl, Nat.le_refl _, .inl rfl⟩, Below.refl _ _⟩
  | true =>
    rw [h] at HS
    obtain ⟨b1, b2, _, _⟩ := sch_bounds h
    by_cases hz : t.size ≤ groupN s
    · have e0 : cutX s t = (cutL (schK s) t t.size, true) := by unfold cutX; rw [if_pos ⟨h, hz⟩]
      have HCE := Shut.mk (fun W => twCells s t.size (by omega) h W)
      have hk3 : schK s = 2 ∨ schK s = 3 ∨ schK s = 4 := by omega
      unfold TPost8
      rw [e0]
      have hz' : ¬ (groupN s : Int) < (t.size : Int) := by omega
      have ht32 : t.size ≤ 32 := by omega
      clear h e0
      generalize schM s = m at *
      generalize schK s = k at *
      generalize groupN s = S at *
      go_enter Tw.func8, Tw.ntmps8
      go_wp2_with fail
      refine (HS.out _).mono ?_
      rintro e w1 ⟨rfl, rfl⟩
      go_wp2_with fail
      refine (HG.out _).mono ?_
      rintro e w2 ⟨rfl, rfl⟩
      go_wp2_with (at_make; refine wpList_make_full _ rfl _ _ 26 rfl w2.heap.size 9 i0 _ 1 Tw.underlying26 hi0 hz0 hz1 .i64 .i64 _ _ k rfl rfl (by omega) (by omega) ?b2 ?b3 ?b4 ?_)
      case b2 => rw [hz2]; omega
      case b3 => unfold maxLen; omega
      case b4 => omega
      intro wm hownm hgrm
      have hbm : Below w2.heap.size w2 wm := (Below.refl _ _).grown hgrm (Nat.le_refl _) (fun j hj => by simp at hj)
      have hrow : WCells wm w2.heap.size (tv (cutL k t 0)) := by
        have h := own_wcells hownm
        have e : (madeCells #[Value.string ⟨#[]⟩] k).toList = tv (cutL k t 0) := by rw [toList_madeCells_one, cutL_0]; simp [tv]
        rw [e] at h
        exact h
      have HROW := Shut.mk hrow
      have HBM := Shut.mk hbm
      clear hownm hgrm hrow hbm
      go_wp2_with fail
      refine (HCE.out _).mono ?_
      rintro e w4 ⟨rfl, mm, hw4⟩
      have HC4 : Shut (w4.heap[wm.heap.size]? = some (.chan 32 (cellsK k t.size 9 0).toArray true mm 0 false)) := ⟨by rw [hw4]; exact heap_alloc_new _ _⟩
      have HROW4 : Shut (WCells w4 w2.heap.size (tv (cutL k t 0))) := ⟨by rw [hw4]; exact HROW.out.alloc _⟩
      have HBM4 : Shut (Below w2.heap.size w2 w4) := ⟨by rw [hw4]; exact HBM.out.alloc HBM.out.size _⟩
      have HGC : Shut (w2.heap.size ≤ wm.heap.size) := ⟨HBM.out.size⟩
      generalize wm.heap.size = gc at *
      clear hw4 HROW HBM HCE
      go_upto_region 6 with fail
      go_loopw [] (fun wr => ∃ (i f r : Nat), i % 4 = 0 ∧ t.size ≤ i + 4 * f ∧ Shut (wr.heap[gc]? = some (.chan 32 (cellsK k t.size f i).toArray true mm r false)) ∧ Shut (WCells wr w2.heap.size (tv (cutL k t (min i t.size)))) ∧ Shut (Below w2.heap.size w2 wr)) (fun wr => chLeft gc wr)
      case atStart => exact ⟨0, 9, 0, rfl, by omega, HC4, by rw [Nat.zero_min]; exact HROW4, HBM4⟩
      case round =>
        clear HC4 HROW4 HBM4
        obtain ⟨i, f, r, hi4, hfu, hch, hrow, hbo⟩ := hrel
        obtain ⟨wo, rfl⟩ : ∃ wo, wo = wr := ⟨_, rfl⟩
        refine wp_seq ?_
        have hne : w2.heap.size ≠ gc := cell_not hrow.out (by rw [tv_len, cutL_len]; omega) hch.out
        have hlc := chan_lt hch.out
        by_cases hlt : i < t.size
        · obtain ⟨f', hcs, hfu'⟩ := cellsK_more (k := k) hfu hlt
          have hchv := hch.out
          have hleft := chLeft_is hch.out
          rw [hcs] at hchv hleft
          rw [Nat.min_eq_left (show i ≤ t.size by omega)] at hrow
          refine wp_take (slot := 31) (pair := 32) (flag := 33) (c := gc) (twRc (by kernel_rfl) (by kernel_rfl) (by kernel_rfl)) (by rfl) (by simp) hchv ?_
          obtain ⟨wt, hwt⟩ : ∃ wt, wt = wo.setChan gc 32 (cellsK k t.size f' (i + 4)).toArray true mm (r + 1) false := ⟨_, rfl⟩
          rw [← hwt]
          have HCT : Shut (wt.heap[gc]? = some (.chan 32 (cellsK k t.size f' (i + 4)).toArray true mm (r + 1) false)) := ⟨by rw [hwt]; exact Go.Conc.heap_setChan _ _ _ _ _ _ _ _ hlc⟩
          have HBT : Shut (Below w2.heap.size w2 wt) := ⟨by rw [hwt]; exact Go.Conc.below_setChan hbo.out HGC.out _ _ _ _ _ _⟩
          have HRT : Shut (WCells wt w2.heap.size (tv (cutL k t i))) := ⟨by
            rw [hwt]
            refine ⟨by rw [Go.Conc.size_setChan]; exact hrow.out.1, fun j v hj => ?_⟩
            have e := Go.Proofs.Ytfhcpehfmecpjaa.set_other (w := wo) (c := gc) (cap := 32) (buf := (cellsK k t.size f' (i + 4)).toArray) (cl := true) (s := mm) (r := r + 1) (tm := false) hne
            have q := hrow.out.2 j v hj
            simp only [World.cell?, World.frozen?, e] at q ⊢
            exact q⟩
          have HLE : Shut (chLeft gc wo = (cellsK k t.size f' (i + 4)).length + 1) := ⟨by rw [hleft]; simp⟩
          clear hwt hch hrow hbo hchv hleft hcs
          have hul := unit_lt (show 0 < k by omega) i
          obtain ⟨j, hj⟩ : ∃ j, j = min (i + 4) t.size := ⟨_, rfl⟩
          have hst : (cutL k t i).set (unitAt k i) ((cutL k t i).getD (unitAt k i) ⟨#[]⟩ ++ t.extract i j) = cutL k t j := by
            have q := cut_cell hk3 (t := t) hi4 (j - i) (by omega) (by omega)
            rw [show i + (j - i) = j by omega] at q
            exact q
          have HCL := Shut.mk (HRT.out.2 (unitAt k i) _ (tv_get _ (unitAt k i) (by rw [cutL_len]; exact hul)))
          have HST := Shut.mk (fun (w5 : World) (hw5 : WCells w5 w2.heap.size (tv (cutL k t i))) => by
            have q := hw5.set (unitAt k i) (.string ((cutL k t i).getD (unitAt k i) ⟨#[]⟩ ++ t.extract i j)) (by rw [tv_len, cutL_len]; exact hul)
            rw [tv_set, hst] at q
            exact q)
          have hxs : ((cutL k t i).getD (unitAt k i) ⟨#[]⟩).size ≤ 32 := by rw [cutL_at hul]; exact Nat.le_trans (unitB_size k t i _) (by omega)
          have hys : (t.extract i j).size ≤ 32 := by simp; omega
          clear hst
          rw [← hj]
          generalize (cutL k t i).getD (unitAt k i) ⟨#[]⟩ = x at *
          generalize unitAt k i = u at *
          generalize placeIn k i = pl at *
          have hij : i ≤ j := by omega
          have hjn : j ≤ t.size := by omega
          have u0 : (0 : Int) ≤ (u : Int) := by omega
          have u1 : (u : Int) < (k : Int) := by omega
          have i0' : (0 : Int) ≤ (i : Int) := by omega
          have ij' : (i : Int) ≤ (j : Int) := by omega
          have jn' : (j : Int) ≤ (t.size : Int) := by omega
          have HJ := Shut.mk hj
          have HFB : Shut (t.size ≤ i + 4 + 4 * f') := ⟨hfu'⟩
          clear hj hfu' hfu hlt hi0 hz0 hz1 hz2 hz' hz
          have hc4 := C4.new wt i j u pl 48
          have hcu : CU (wt.alloc (.cells #[.int .i64 (i : Nat), .int .i64 (j : Nat), .int .i64 (u : Nat), .int .i64 (pl : Nat)] 48)) w2.heap.size u x := CU.alloc HCL.out _
          have hbt := HBT.out.size
          have hgl : w2.heap.size < wt.heap.size := HRT.out.1
          have HC4 := Shut.mk hc4
          have HCU := Shut.mk hcu
          clear HCL hc4 hcu
          unfold cellV
          go_wp2_with fail
          obtain ⟨wa, hwa⟩ : ∃ wa, wa = wt.alloc (.cells #[.int .i64 (i : Nat), .int .i64 (j : Nat), .int .i64 (u : Nat), .int .i64 (pl : Nat)] 48) := ⟨_, rfl⟩
          rw [← hwa] at HC4 HCU ⊢
          have HRA : Shut (WCells wa w2.heap.size (tv (cutL k t i))) := ⟨by rw [hwa]; exact (HRT.out.alloc _)⟩
          have HBA : Shut (Below w2.heap.size w2 wa) := ⟨by rw [hwa]; exact (HBT.out.alloc HBT.out.size _)⟩
          have HCA : Shut (wa.heap[gc]? = some (.chan 32 (cellsK k t.size f' (i + 4)).toArray true mm (r + 1) false)) := ⟨by rw [hwa]; exact chan_alloc HCT.out⟩
          clear hwa HRT HBT HCT hbt
          generalize wt.heap.size = gl at *
          have HGL : Shut (gl ≠ w2.heap.size) := ⟨by omega⟩
          have yU := HCU.out.1
          have hys' : (t.extract i j).size = j - i := by simp; omega
          obtain ⟨y0, y1, y2, y3⟩ := HC4.out
          have yF := HCU.out.2
          go_region_with (first | (go_at_call 25; refine (twClone _ _ ?_).mono ?_; (show (t.extract i j).size ≤ 281474976710656; omega); rintro e w6 ⟨rfl, hbA⟩; obtain ⟨yU6, yF6⟩ := CU.below (w := wa.drew) HCU.out hbA; obtain ⟨z0, z1, z2, z3⟩ := C4.below (w := wa.drew) HC4.out hbA))
          all_goals
            have F1 : Shut ((w6.setCell ⟨w2.heap.size, u, none⟩ (.string (x ++ t.extract i j))).heap[gc]? = some (.chan 32 (cellsK k t.size f' (i + 4)).toArray true mm (r + 1) false)) := ⟨(Below.heap_setCell _ _ _ _ (fun e => hne e.symm)).trans ((hbA.block gc (chan_lt HCA.out)).trans HCA.out)⟩
            have F2 : Shut (WCells (w6.setCell ⟨w2.heap.size, u, none⟩ (.string (x ++ t.extract i j))) w2.heap.size (tv (cutL k t (min (i + 4) t.size)))) := ⟨by rw [← HJ.out]; exact HST.out _ (WCells.grow (w := wa.drew) HRA.out.drawn hbA)⟩
            have F3 : Shut (Below w2.heap.size w2 (w6.setCell ⟨w2.heap.size, u, none⟩ (.string (x ++ t.extract i j)))) := ⟨((Below.drew HBA.out).trans (hbA.mono (Below.drew HBA.out).size)).setCell (p := ⟨w2.heap.size, u, none⟩) (Nat.le_refl _) _⟩
            clear hbA
            go_wp2_with fail
            exact ⟨⟨i + 4, f', r + 1, by omega, HFB.out, F1, F2, F3⟩, by rw [chLeft_is F1.out, HLE.out]; simp⟩
        · have e0 : cellsK k t.size f i = [] := cellsK_none (by omega) f
          have hchv := hch.out
          rw [e0] at hchv
          rw [Nat.min_eq_right (show t.size ≤ i by omega)] at hrow
          refine wp_shut (slot := 31) (pair := 32) (flag := 33) (c := gc) (twRc (by kernel_rfl) (by kernel_rfl) (by kernel_rfl)) (by rfl) (by simp) hchv ?_
          have HF : Shut (SAns wo (.slice (some ⟨w2.heap.size, 0, none⟩) k k) (cutL k t t.size) w2.heap.size wo.heap.size) := ⟨⟨_, k, by rw [cutL_len], by rw [cutL_len]; exact Nat.le_refl _, .inr ⟨_, rfl, Nat.le_refl _, hrow.out.1, hrow.out⟩⟩⟩
          clear hrow hch hchv e0
          go_wp2_with fail
          go_ret2
          exact ⟨_, rfl, HF.out, hbo.out⟩
    · have e0 : cutX s t = ([], false) := by unfold cutX; rw [if_neg (fun q => hz q.2)]
      unfold TPost8
      rw [e0]
      have hz' : (groupN s : Int) < (t.size : Int) := by omega
      clear h e0 hz
      generalize schK s = k at *
      generalize schM s = m at *
      generalize groupN s = S at *
      go_enter Tw.func8, Tw.ntmps8
      go_wp2_with fail
      refine (HS.out _).mono ?_
      rintro e w1 ⟨rfl, rfl⟩
      go_wp2_with fail
      refine (HG.out _).mono ?_
      rintro e w2 ⟨rfl, rfl⟩
      go_wp2_with fail
      go_ret2
      exact ⟨_, rfl, ⟨none, 0, rfl, Nat.le_refl _, .inl rfl⟩, Below.refl _ _⟩
end Go.Proofs.YtfhcpehfmecpjaaT
/- Over the twin: the program's own JoinUnits. -/
namespace Go.Proofs.YtfhcpehfmecpjaaT
open Go.RowKit
open Go.Proofs.Ytfhcpehfmecpjaa (cellV RcReg wp_take wp_shut)
attribute [local go_sem ↓] Go.wp_at_zero Go.wp_at_succ

section
variable {P : Program}
/-- 'copy(dst, s)', s a string: as many of its bytes as there is room for go over. -/
theorem run_copy_cut (w : World) (dT sT ty elem : TypeId) (b o dLen dCap : Nat) (t : ByteArray)
    (hu : P.underlying dT = some (.slice elem)) (hz : ∀ w, (Go.sizeOf elem).run P w = .ok 1 w)
    (hc : ∀ j, j < min t.size dLen → (w.cell? ⟨b, o + j, none⟩).isSome = true) (hf : ∀ j, j < min t.size dLen → w.frozen? ⟨b, o + j, none⟩ = false) :
    (Builtin.copy_ #[dT, sT] ty #[.slice (some ⟨b, o, none⟩) dLen dCap, .string t]).run P w = .ok (goInt (min t.size dLen : Nat)) (w.setCells b o ((t.data.toList.map fun x => Value.int .u8 (x.toNat : Int)).take (min t.size dLen))) := by
  have hl : ((t.data.toList.map fun x => Value.int .u8 (x.toNat : Int)).take (min t.size dLen)).length = min t.size dLen := by rw [List.length_take, List.length_map, ← Lib.size_eq]; omega
  have hst := run_storeCells_cells (P := P) b o ((t.data.toList.map fun x => Value.int .u8 (x.toNat : Int)).take (min t.size dLen)) 0 w (by rw [hl]; simpa using hc) (by rw [hl]; simpa using hf) (by
    intro v hv
    obtain ⟨x, _, rfl⟩ := List.mem_map.1 (List.mem_of_mem_take hv)
    rfl)
  have e : Nat.min t.size dLen = min t.size dLen := rfl
  simp [Builtin.copy_, run_underlying hu, Builtin.lenOf, Builtin.firstCells, hz, e]
  rw [show (List.take (min t.size dLen) (List.map (fun x : UInt8 => Value.int IntKind.u8 (x.toNat : Int)) t.data.toList)) = ((t.data.toList.map fun x => Value.int .u8 (x.toNat : Int)).take (min t.size dLen)) from rfl, hst]
  rfl
theorem step_copy_cut {ops : Array Oper} {o : Oper} {a : Act} {w : World} {K : Act → World → Prop} {Q : Exit → Act → World → Prop} {E : Prop}
    (hg : o.guard = none) (d x : Operand) (dT sT : TypeId) (hop : o.op = Op.call { callee := Callee.builtin Builtin.copy, args := #[d, x], argTypes := #[dT, sT] })
    (elem : TypeId) (hu : P.underlying dT = some (.slice elem)) (hz : ∀ w, (Go.sizeOf elem).run P w = .ok 1 w)
    (b off dLen dCap : Nat) (hd : a.eval d = .slice (some ⟨b, off, none⟩) dLen dCap) (t : ByteArray) (hx : a.eval x = .string t)
    (hc : ∀ j, j < min t.size dLen → (w.cell? ⟨b, off + j, none⟩).isSome = true) (hf : ∀ j, j < min t.size dLen → w.frozen? ⟨b, off + j, none⟩ = false)
    (hK : K (a.put o.dst (goInt (min t.size dLen : Nat))) (w.setCells b off ((t.data.toList.map fun x => Value.int .u8 (x.toNat : Int)).take (min t.size dLen)))) :
    if Region.wanted o (yielded ops a.tmps) = true then Oper.wp P o a w K Q else E := by
  have hw : Region.wanted o (yielded ops a.tmps) = true := by simp [Region.wanted, hg]
  rw [if_pos hw]
  have hrun := run_copy_cut (P := P) w dT sT o.type elem b off dLen dCap t hu hz hc hf
  unfold Oper.wp
  simp only [Nat.min_def] at hrun hK
  simp [execOp, hop, resolve, invoke, builtin, hd, hx, hrun, Result.andThen]
  exact hK
end
theorem heap_setCells {b c : Nat} (h : c ≠ b) : ∀ (vs : List Value) (o : Nat) (w : World), (w.setCells b o vs).heap[c]? = w.heap[c]?
  | [], _, _ => rfl
  | v :: r, o, w => by rw [World.setCells, heap_setCells h r]; exact Below.heap_setCell _ _ _ _ h
theorem size_setCells {b : Nat} : ∀ (vs : List Value) (o : Nat) (w : World), (w.setCells b o vs).heap.size = w.heap.size
  | [], _, _ => rfl
  | v :: r, o, w => by rw [World.setCells, size_setCells r]; simp [World.setCell]
theorem C4.sets {w : World} {g a b u p : Nat} (h : C4 w g a b u p) (c o : Nat) (vs : List Value) (hq : g ≠ c) : C4 (w.setCells c o vs) g a b u p := by
  have e := heap_setCells hq vs o w
  unfold C4 World.cell? at h ⊢
  simp only [e]
  exact h
/-- The bytes of a group, the first i of them filled. -/
def GRow (k : Nat) (U : List ByteArray) (w : World) (g n i : Nat) : Prop := g < w.heap.size ∧ ∀ d, d < n → w.cell? ⟨g, d, none⟩ = some (.int .u8 ((if d < i then joinAt k U d else 0 : UInt8).toNat : Int)) ∧ w.frozen? ⟨g, d, none⟩ = false
theorem GRow.below {k : Nat} {U : List ByteArray} {w w' : World} {g n i : Nat} (h : GRow k U w g n i) (hb : Below w.heap.size w w') : GRow k U w' g n i :=
  ⟨Nat.lt_of_lt_of_le h.1 hb.size, fun d hd => ⟨(hb.cell (p := ⟨g, d, none⟩) h.1).trans (h.2 d hd).1, (hb.frozen (p := ⟨g, d, none⟩) h.1).trans (h.2 d hd).2⟩⟩
theorem GRow.aside {k : Nat} {U : List ByteArray} {w w' : World} {g n i : Nat} (h : GRow k U w g n i) (hs : w'.heap.size = w.heap.size) (e : w'.heap[g]? = w.heap[g]?) : GRow k U w' g n i := by
  refine ⟨by rw [hs]; exact h.1, fun d hd => ?_⟩
  have q := h.2 d hd
  simp only [World.cell?, World.frozen?, e] at q ⊢
  exact q
theorem GRow.made {k : Nat} {U : List ByteArray} {w : World} {g n : Nat} (h : WCells w g (madeCells #[Value.int .u8 0] n).toList) : GRow k U w g n 0 := by
  refine ⟨h.1, fun d hd => ?_⟩
  have q := h.2 d (.int .u8 0) (by rw [toList_madeCells_one]; simp [hd])
  exact ⟨by rw [q.1]; simp, q.2⟩
theorem get_tail {x : ByteArray} {q d : Nat} (h : q + d < x.size) : (x.extract q x.size).data.toList.getD d 0 = x.data.toList.getD (q + d) 0 := by
  have h' : q + d < x.data.size := h
  have h2 : d < (x.extract q x.size).data.size := by
    show d < (x.extract q x.size).size
    rw [ByteArray.size_extract]; omega
  rw [List.getD_eq_getElem?_getD, List.getD_eq_getElem?_getD, Array.getElem?_toList, Array.getElem?_toList, Array.getElem?_eq_getElem h', Array.getElem?_eq_getElem h2]
  simp [ByteArray.data_extract]
theorem GRow.copy {k : Nat} (hk : k = 2 ∨ k = 3 ∨ k = 4) {U : List ByteArray} {w : World} {g n i j : Nat} (h : GRow k U w g n i) (h4 : i % 4 = 0) (hij : i ≤ j) (hj4 : j ≤ i + 4) (hjn : j ≤ n) {x : ByteArray} (hx : x = U.getD (unitAt k i) ⟨#[]⟩) {q m : Nat} (hq : q = min (placeIn k i) x.size) (hm : m = min (x.extract q x.size).size (j - i)) :
    GRow k U (w.setCells g i (((x.extract q x.size).data.toList.map fun c => Value.int .u8 (c.toNat : Int)).take m)) g n j := by
  have hes : (x.extract q x.size).size = x.size - q := by rw [ByteArray.size_extract]; omega
  have hl : (((x.extract q x.size).data.toList.map fun c => Value.int .u8 (c.toNat : Int)).take m).length = m := by rw [List.length_take, List.length_map, ← Lib.size_eq]; omega
  refine ⟨by rw [size_setCells]; exact h.1, fun d hd => ⟨?_, by rw [World.frozen?_setCells]; exact (h.2 d hd).2⟩⟩
  have hjoin : ∀ e, e < 4 → joinAt k U (i + e) = x.data.toList.getD (placeIn k i + e) 0 := fun e he => by unfold joinAt; rw [unit_same hk h4 he, place_same hk h4 he, hx]
  by_cases hin : i ≤ d ∧ d < i + m
  · obtain ⟨e, rfl⟩ := Nat.exists_eq_add_of_le hin.1
    have he : e < m := by omega
    have q1 := World.cell?_setCells_in g (((x.extract q x.size).data.toList.map fun c => Value.int .u8 (c.toNat : Int)).take m) i w (fun a ha => by rw [(h.2 (i + a) (by omega)).1]; rfl) e (by rw [hl]; exact he)
    rw [q1, if_pos (by omega), hjoin e (by omega), List.getElem_take, List.getElem_map]
    have hqp : q = placeIn k i := by omega
    have q2 := get_tail (x := x) (q := q) (d := e) (by omega)
    rw [← hqp, ← q2]
    have hlt : e < (x.extract q x.size).data.toList.length := by rw [← Lib.size_eq]; omega
    rw [List.getD_eq_getElem?_getD, List.getElem?_eq_getElem hlt]
    rfl
  · rw [World.cell?_setCells_out _ _ _ _ _ (fun _ _ => by rw [hl]; show d < i ∨ i + m ≤ d; omega), (h.2 d hd).1]
    by_cases c1 : d < i
    · rw [if_pos c1, if_pos (by omega)]
    · rw [if_neg c1]
      by_cases c2 : d < j
      · rw [if_pos c2]
        obtain ⟨e, rfl⟩ := Nat.exists_eq_add_of_le (show i ≤ d by omega)
        rw [hjoin e (by omega), get_none x _ (by omega)]
      · rw [if_neg c2]
theorem GRow.text {k : Nat} {U : List ByteArray} {w : World} {g n i : Nat} (h : GRow k U w g n i) (hi : n ≤ i) : (convert 22 9 (.slice (some ⟨g, 0, none⟩) n n)).run Tw.prog w = .ok (.string ⟨(joinL k U n).toArray⟩) w := by
  have q := run_convert_bytes_back (P := Tw.prog) w 22 9 5 ⟨g, 0, none⟩ n (joinL k U n) Tw.underlying22 Tw.underlying5 Tw.underlying9 (fun j hj => by
    rw [joinL_len] at hj
    have := (h.2 j hj).1
    rw [if_pos (by omega)] at this
    have hadd : (⟨g, 0, none⟩ : Addr).add j = ⟨g, j, none⟩ := by unfold Addr.add; split <;> simp_all
    rw [hadd, this]
    simp [joinL])
  rw [joinL_len] at q
  exact q
end Go.Proofs.YtfhcpehfmecpjaaT
/- Over the twin: the walk of the program's own JoinUnits. -/
namespace Go.Proofs.YtfhcpehfmecpjaaT
open Go.RowKit
open Go.Proofs.Ytfhcpehfmecpjaa (cellV RcReg wp_take wp_shut)
attribute [local go_sem ↓] Go.wp_at_zero Go.wp_at_succ

set_option maxRecDepth 100000 in
set_option maxHeartbeats 8000000 in
theorem implJoin_walk (s : Int) (U : List ByteArray) (N k b2 o2 cap2 : Nat) (w : World) (hok : schOk s = true) (hk : schK s = k) (hul : U.length = k) (hN : N ≤ groupN s) (hUs : ∀ j, j < k → (U.getD j ⟨#[]⟩).size ≤ 1048576) (hU : b2 < w.heap.size ∧ ∀ j, j < k → w.cell? ⟨b2, o2 + j, none⟩ = some (.string (U.getD j ⟨#[]⟩))) :
    Calls Tw.prog 9 #[.int .i64 s, .slice (some ⟨b2, o2, none⟩) k cap2, .int .i64 (N : Int)] w fun e w' => JoinPost (joinX s U (N : Int)) w e w' := by
  obtain ⟨i0, hi0, hz0, hz1, hz2⟩ := info_parts Tw.info5
  obtain ⟨c1, c2, _, _⟩ := sch_bounds hok
  have HS := Shut.mk (fun W => implSch s W)
  unfold SchPost at HS
  have HG := Shut.mk (fun W => implSize s W)
  have hg32 := groupN_bounds s
  have e0 : joinX s U (N : Int) = (⟨(joinL (schK s) U N).toArray⟩, true) := by unfold joinX; rw [if_pos ⟨hok, by rw [hul, hk], by omega, by omega⟩]; rfl
  have HCE := Shut.mk (fun W => twCells s N (by omega) hok W)
  have hk3 : schK s = 2 ∨ schK s = 3 ∨ schK s = 4 := by omega
  have HU := Shut.mk hU
  have HUS := Shut.mk hUs
  rw [hok] at HS
  unfold JoinPost
  rw [e0]
  rw [hk] at HS HCE c1 c2 hk3 ⊢
  have hkk : ((k : Int) != (k : Int)) = false := by simp
  have n0 : ¬ (N : Int) < 0 := by omega
  have n1 : ¬ (groupN s : Int) < (N : Int) := by omega
  have n32 : N ≤ 32 := by omega
  clear hok hk hul hU e0 hUs
  generalize schM s = m at *
  generalize groupN s = S at *
  go_enter Tw.func9, Tw.ntmps9
  go_wp2_with fail
  refine (HS.out _).mono ?_
  rintro e w1 ⟨rfl, rfl⟩
  go_wp2_with fail
  refine (HG.out _).mono ?_
  rintro e w2 ⟨rfl, rfl⟩
  go_wp2_with (at_make; refine wpList_make_full _ rfl _ _ 22 rfl w2.heap.size 5 i0 _ 1 Tw.underlying22 hi0 hz0 hz1 .i64 .i64 _ _ N rfl rfl (by omega) (by omega) ?b2 ?b3 ?b4 ?_)
  case b2 => rw [hz2]; omega
  case b3 => unfold maxLen; omega
  case b4 => omega
  intro wm hownm hgrm
  have hbm : Below w2.heap.size w2 wm := (Below.refl _ _).grown hgrm (Nat.le_refl _) (fun j hj => by simp at hj)
  have hrow : GRow k U wm w2.heap.size N 0 := GRow.made (own_wcells hownm)
  have HROW := Shut.mk hrow
  have HBM := Shut.mk hbm
  clear hownm hgrm hrow hbm
  go_wp2_with fail
  refine (HCE.out _).mono ?_
  rintro e w4 ⟨rfl, mm, hw4⟩
  have HC4 : Shut (w4.heap[wm.heap.size]? = some (.chan 32 (cellsK k N 9 0).toArray true mm 0 false)) := ⟨by rw [hw4]; exact heap_alloc_new _ _⟩
  have HROW4 : Shut (GRow k U w4 w2.heap.size N 0) := ⟨by rw [hw4]; exact HROW.out.below ((Below.refl _ _).alloc (Nat.le_refl _) _)⟩
  have HBM4 : Shut (Below w2.heap.size w2 w4) := ⟨by rw [hw4]; exact HBM.out.alloc HBM.out.size _⟩
  have HGC : Shut (w2.heap.size < wm.heap.size) := ⟨HROW.out.1⟩
  generalize wm.heap.size = gc at *
  clear hw4 HROW HBM HCE
  go_upto_region 6 with fail
  go_loopw [] (fun wr => ∃ (i f r : Nat), i % 4 = 0 ∧ N ≤ i + 4 * f ∧ Shut (wr.heap[gc]? = some (.chan 32 (cellsK k N f i).toArray true mm r false)) ∧ Shut (GRow k U wr w2.heap.size N (min i N)) ∧ Shut (Below w2.heap.size w2 wr)) (fun wr => chLeft gc wr)
  case atStart => exact ⟨0, 9, 0, rfl, by omega, HC4, by rw [Nat.zero_min]; exact HROW4, HBM4⟩
  case round =>
    clear HC4 HROW4 HBM4
    obtain ⟨i, f, r, hi4, hfu, hch, hrow, hbo⟩ := hrel
    obtain ⟨wo, rfl⟩ : ∃ wo, wo = wr := ⟨_, rfl⟩
    refine wp_seq ?_
    have hne : w2.heap.size ≠ gc := Nat.ne_of_lt HGC.out
    have hlc := chan_lt hch.out
    by_cases hlt : i < N
    · obtain ⟨f', hcs, hfu'⟩ := cellsK_more (k := k) hfu hlt
      have hchv := hch.out
      have hleft := chLeft_is hch.out
      rw [hcs] at hchv hleft
      rw [Nat.min_eq_left (show i ≤ N by omega)] at hrow
      refine wp_take (slot := 42) (pair := 43) (flag := 44) (c := gc) (twRc (by kernel_rfl) (by kernel_rfl) (by kernel_rfl)) (by rfl) (by simp) hchv ?_
      obtain ⟨wt, hwt⟩ : ∃ wt, wt = wo.setChan gc 32 (cellsK k N f' (i + 4)).toArray true mm (r + 1) false := ⟨_, rfl⟩
      rw [← hwt]
      have HCT : Shut (wt.heap[gc]? = some (.chan 32 (cellsK k N f' (i + 4)).toArray true mm (r + 1) false)) := ⟨by rw [hwt]; exact Go.Conc.heap_setChan _ _ _ _ _ _ _ _ hlc⟩
      have HBT : Shut (Below w2.heap.size w2 wt) := ⟨by rw [hwt]; exact Go.Conc.below_setChan hbo.out (Nat.le_of_lt HGC.out) _ _ _ _ _ _⟩
      have HRT : Shut (GRow k U wt w2.heap.size N i) := ⟨by rw [hwt]; exact hrow.out.aside (Go.Conc.size_setChan _ _ _ _ _ _ _ _) (Go.Proofs.Ytfhcpehfmecpjaa.set_other hne)⟩
      have HLE : Shut (chLeft gc wo = (cellsK k N f' (i + 4)).length + 1) := ⟨by rw [hleft]; simp⟩
      clear hwt hch hrow hbo hchv hleft hcs
      have hul := unit_lt (show 0 < k by omega) i
      obtain ⟨j, hj⟩ : ∃ j, j = min (i + 4) N := ⟨_, rfl⟩
      rw [← hj]
      have hij : i < j := by omega
      have hjn : j ≤ N := by omega
      have hj4 : j ≤ i + 4 := by omega
      obtain ⟨x, hx⟩ : ∃ x, x = U.getD (unitAt k i) ⟨#[]⟩ := ⟨_, rfl⟩
      have hxs : x.size ≤ 1048576 := by rw [hx]; exact HUS.out _ hul
      have HGR : Shut (∀ W : World, GRow k U W w2.heap.size N i → ∀ q mq, q = min (placeIn k i) x.size → mq = min (x.extract q x.size).size (j - i) → GRow k U (W.setCells w2.heap.size i (((x.extract q x.size).data.toList.map fun c => Value.int .u8 (c.toNat : Int)).take mq)) w2.heap.size N j) := ⟨fun W hW q mq hq hmq => hW.copy hk3 hi4 (by omega) hj4 hjn hx hq hmq⟩
      have HX := Shut.mk (HU.out.2 (unitAt k i) hul)
      rw [← hx] at HX
      have hpl : placeIn k i ≤ 40 := by
        have h1 : i % (k * 8) < k * 8 := Nat.mod_lt _ (by omega)
        have h2 : i % (k * 8) / 4 / k ≤ 8 := Nat.le_trans (Nat.div_le_self _ _) (by omega)
        unfold placeIn; omega
      clear hx
      generalize unitAt k i = u at *
      generalize placeIn k i = pl at *
      have u0 : (0 : Int) ≤ (u : Int) := by omega
      have u1 : (u : Int) < (k : Int) := by omega
      have i0' : (0 : Int) ≤ (i : Int) := by omega
      have ij' : (i : Int) ≤ (j : Int) := by omega
      have jn' : (j : Int) ≤ (N : Int) := by omega
      have HJ := Shut.mk hj
      have HFB : Shut (N ≤ i + 4 + 4 * f') := ⟨hfu'⟩
      clear hj hfu' hfu hlt hi0 hz0 hz1 hz2
      have hgl : w2.heap.size < wt.heap.size := HRT.out.1
      have HC4 := Shut.mk (C4.new wt i j u pl 48)
      unfold cellV
      go_upto_region 8 with fail
      obtain ⟨wa, hwa⟩ : ∃ wa, wa = wt.alloc (.cells #[.int .i64 (i : Nat), .int .i64 (j : Nat), .int .i64 (u : Nat), .int .i64 (pl : Nat)] 48) := ⟨_, rfl⟩
      rw [← hwa] at HC4 ⊢
      have HRA : Shut (GRow k U wa w2.heap.size N i) := ⟨by rw [hwa]; exact HRT.out.below ((Below.refl _ _).alloc (Nat.le_refl _) _)⟩
      have HBA : Shut (Below w2.heap.size w2 wa) := ⟨by rw [hwa]; exact (HBT.out.alloc HBT.out.size _)⟩
      have HCA : Shut (wa.heap[gc]? = some (.chan 32 (cellsK k N f' (i + 4)).toArray true mm (r + 1) false)) := ⟨by rw [hwa]; exact chan_alloc HCT.out⟩
      clear hwa HRT HBT HCT
      generalize wt.heap.size = gl at *
      have HGL : Shut (gl ≠ w2.heap.size) := ⟨by omega⟩
      have yU := (HBA.out.cell (p := ⟨b2, o2 + u, none⟩) HU.out.1).trans HX.out
      obtain ⟨y0, y1, y2, y3⟩ := HC4.out
      clear HX
      go_wp2_with fail
      have HC := Shut.mk (fun (j' : Nat) (hj' : j' < N) => HRA.out.2 j' hj')
      have KC : ∀ T : ByteArray, ∀ j', j' < min T.size (j - i) → (wa.drew.cell? ⟨w2.heap.size, i + j', none⟩).isSome = true := fun T j' hj' => by rw [show wa.drew.cell? ⟨w2.heap.size, i + j', none⟩ = wa.cell? ⟨w2.heap.size, i + j', none⟩ from rfl, (HC.out (i + j') (by omega)).1]; rfl
      have KF : ∀ T : ByteArray, ∀ j', j' < min T.size (j - i) → wa.drew.frozen? ⟨w2.heap.size, i + j', none⟩ = false := fun T j' hj' => (HC.out (i + j') (by omega)).2
      have HKC := Shut.mk KC
      have HKF := Shut.mk KF
      have HFIN : Shut (∀ q mq, q = min pl x.size → mq = min (x.extract q x.size).size (j - i) → ∀ W, W = wa.drew.setCells w2.heap.size i (((x.extract q x.size).data.toList.map fun c => Value.int .u8 (c.toNat : Int)).take mq) → W.heap[gc]? = some (.chan 32 (cellsK k N f' (i + 4)).toArray true mm (r + 1) false) ∧ GRow k U W w2.heap.size N (min (i + 4) N) ∧ Below w2.heap.size w2 W) := ⟨fun q mq hq hmq W hW => by
        subst hW
        refine ⟨(heap_setCells (fun e => hne e.symm) _ _ _).trans HCA.out, ?_, below_setCells (Nat.le_refl _) _ _ _ (Below.drew HBA.out)⟩
        rw [← HJ.out]
        exact HGR.out wa.drew (HRA.out.aside rfl rfl) q mq hq hmq⟩
      clear HC KC KF HGR HRA HBA HCA
      obtain ⟨q, hqn⟩ : ∃ q, q = min pl x.size := ⟨_, rfl⟩
      have a2 : (q : Int) ≤ (x.size : Int) := by omega
      have a3 : (0 : Int) ≤ (q : Int) := by omega
      have a4 : min (pl : Int) (x.size : Int) = (q : Int) := by omega
      have HQ := Shut.mk hqn
      clear hqn
      go_region_held3 (fun w' => w'.cell? ⟨gl, 0, none⟩ = some (.int .i64 (i : Nat)) ∧ w'.cell? ⟨gl, 1, none⟩ = some (.int .i64 (j : Nat)) ∧ w'.cell? ⟨gl, 2, none⟩ = some (.int .i64 (u : Nat)) ∧ w'.cell? ⟨gl, 3, none⟩ = some (.int .i64 (pl : Nat)))
        (first | assumption | (exact HC4.out) | (exact C4.sets (w := wa.drew) HC4.out _ _ _ HGL.out))
        (first | (refine step_copy_cut (by rfl) _ _ _ _ (by rfl) 5 Tw.underlying22 (by simp) w2.heap.size i (j - i) (N - i) (by first | rfl | (simp [Act.eval]; omega)) (x.extract q x.size) (by rfl) (HKC.out _) (HKF.out _) ?_))
      all_goals
        obtain ⟨F1, F2, F3⟩ := HFIN.out q _ HQ.out rfl _ rfl
        generalize wa.drew.setCells w2.heap.size i _ = W at F1 F2 F3 ⊢
        have G1 := Shut.mk F1
        have G2 := Shut.mk F2
        have G3 := Shut.mk F3
        clear F1 F2 F3
        go_wp2_with fail
        exact ⟨⟨i + 4, f', r + 1, by omega, HFB.out, G1, G2, G3⟩, by rw [chLeft_is G1.out, HLE.out]; simp⟩
    · have e0 : cellsK k N f i = [] := cellsK_none (by omega) f
      have hchv := hch.out
      rw [e0] at hchv
      rw [Nat.min_eq_right (show N ≤ i by omega)] at hrow
      refine wp_shut (slot := 42) (pair := 43) (flag := 44) (c := gc) (twRc (by kernel_rfl) (by kernel_rfl) (by kernel_rfl)) (by rfl) (by simp) hchv ?_
      have hcv := hrow.out.text (Nat.le_refl _)
      clear hrow hch hchv e0
      go_wp2_with fail
      go_ret2
      exact ⟨rfl, hbo.out⟩
end Go.Proofs.YtfhcpehfmecpjaaT
/- A text that is cut to units and joined of them again (plain). Nothing of the program is read here. -/
namespace Go.Proofs.YtfhcpehfmecpjaaT
open Go.RowKit

def inUnit (k n u : Nat) : List Nat := (List.range n).filter fun j => decide (unitAt k j = u)
def chkPlace (k : Nat) : Bool := (List.range (k * 8 + 1)).all fun n => (List.range n).all fun i => (inUnit k n (unitAt k i))[placeIn k i]? == some i
def chkSize (k : Nat) : Bool := (List.range (k * 8 + 1)).all fun n => (List.range k).all fun u => decide ((inUnit k n u).length ≤ 8)
def chkSum (k : Nat) : Bool := (List.range (k * 8 + 1)).all fun n => decide (((List.range k).map fun u => (inUnit k n u).length).sum = n)
theorem place_2 : chkPlace 2 = true := by decide +kernel
theorem place_3 : chkPlace 3 = true := by decide +kernel
theorem place_4 : chkPlace 4 = true := by decide +kernel
theorem size_2 : chkSize 2 = true := by decide +kernel
theorem size_3 : chkSize 3 = true := by decide +kernel
theorem size_4 : chkSize 4 = true := by decide +kernel
theorem sum_2 : chkSum 2 = true := by decide +kernel
theorem sum_3 : chkSum 3 = true := by decide +kernel
theorem sum_4 : chkSum 4 = true := by decide +kernel
theorem sch_k {s : Int} (h : schOk s = true) : schK s = 2 ∨ schK s = 3 ∨ schK s = 4 := by
  have := sch_bounds h; omega
theorem place_all {k n i : Nat} (hk : k = 2 ∨ k = 3 ∨ k = 4) (hn : n ≤ k * 8) (hi : i < n) : (inUnit k n (unitAt k i))[placeIn k i]? = some i := by
  have h : chkPlace k = true := by
    rcases hk with rfl | rfl | rfl
    · exact place_2
    · exact place_3
    · exact place_4
  unfold chkPlace at h
  simp only [List.all_eq_true, List.mem_range, beq_iff_eq] at h
  exact h n (by omega) i hi
theorem size_all {k n u : Nat} (hk : k = 2 ∨ k = 3 ∨ k = 4) (hn : n ≤ k * 8) (hu : u < k) : (inUnit k n u).length ≤ 8 := by
  have h : chkSize k = true := by
    rcases hk with rfl | rfl | rfl
    · exact size_2
    · exact size_3
    · exact size_4
  unfold chkSize at h
  simp only [List.all_eq_true, List.mem_range, decide_eq_true_eq] at h
  exact h n (by omega) u hu
theorem sum_all {k n : Nat} (hk : k = 2 ∨ k = 3 ∨ k = 4) (hn : n ≤ k * 8) : ((List.range k).map fun u => (inUnit k n u).length).sum = n := by
  have h : chkSum k = true := by
    rcases hk with rfl | rfl | rfl
    · exact sum_2
    · exact sum_3
    · exact sum_4
  unfold chkSum at h
  simp only [List.all_eq_true, List.mem_range, decide_eq_true_eq] at h
  exact h n (by omega)
theorem unitB_list (k : Nat) (t : ByteArray) (n u : Nat) : (unitB k t n u).data.toList = (inUnit k n u).map fun j => t.data.toList.getD j 0 := rfl
theorem unitB_len (k : Nat) (t : ByteArray) (n u : Nat) : (unitB k t n u).size = (inUnit k n u).length := by
  show (List.map _ _).toArray.size = _
  rw [List.size_toArray, List.length_map]; rfl
theorem joinAt_cut {k n i : Nat} {t : ByteArray} (hk : k = 2 ∨ k = 3 ∨ k = 4) (hn : n ≤ k * 8) (hi : i < n) : joinAt k (cutL k t n) i = t.data.toList.getD i 0 := by
  unfold joinAt
  rw [cutL_at (unit_lt (by omega) i), unitB_list, List.getD_eq_getElem?_getD, List.getElem?_map, place_all hk hn hi]
  rfl
theorem joinL_cut {k n m : Nat} {t : ByteArray} (hk : k = 2 ∨ k = 3 ∨ k = 4) (hn : n ≤ k * 8) (hm : m ≤ n) (ht : n = t.size) : (⟨(joinL k (cutL k t n) m).toArray⟩ : ByteArray) = t.extract 0 m := by
  apply ByteArray.ext
  simp only [ByteArray.data_extract]
  have hts : t.data.size = n := ht.symm
  apply Array.ext
  · simp [joinL]; omega
  · intro j h1 h2
    have hj : j < m := by simpa [joinL] using h1
    simp only [joinL, List.getElem_toArray, List.getElem_map, List.getElem_range]
    rw [joinAt_cut hk hn (by omega), Array.getElem_extract, List.getD_eq_getElem?_getD, Array.getElem?_toList, Array.getElem?_eq_getElem (by omega : j < t.data.size), Option.getD_some]
    congr 1
    omega
theorem cut_ok {s : Int} {t : ByteArray} (h : schOk s = true) (ht : t.size ≤ groupN s) : cutX s t = (cutL (schK s) t t.size, true) := if_pos ⟨h, ht⟩
/-- A text that was cut, or any beginning of it, is joined of its units again. -/
theorem join_cut {s : Int} {t : ByteArray} (h : schOk s = true) (ht : t.size ≤ groupN s) {m : Nat} (hm : m ≤ t.size) : joinX s (cutX s t).1 (m : Int) = (t.extract 0 m, true) := by
  rw [cut_ok h ht]
  unfold joinX
  rw [if_pos ⟨h, cutL_len _ _ _, by omega, by omega⟩]
  rw [Int.toNat_natCast, joinL_cut (sch_k h) ht hm rfl]
theorem cut_sizes {s : Int} {t : ByteArray} (h : schOk s = true) (ht : t.size ≤ groupN s) : ∀ x ∈ (cutX s t).1, x.size ≤ 8 := by
  rw [cut_ok h ht]
  intro x hx
  obtain ⟨u, hu, rfl⟩ := List.mem_map.1 hx
  rw [unitB_len]
  exact size_all (sch_k h) ht (List.mem_range.1 hu)
theorem cut_sum {s : Int} {t : ByteArray} (h : schOk s = true) (ht : t.size ≤ groupN s) : ((cutX s t).1.map ByteArray.size).sum = t.size := by
  rw [cut_ok h ht]
  show ((List.map _ _).map _).sum = _
  rw [List.map_map]
  have : (ByteArray.size ∘ unitB (schK s) t t.size) = fun u => (inUnit (schK s) t.size u).length := by
    funext u
    exact unitB_len _ _ _ _
  rw [this]
  exact sum_all (sch_k h) ht
end Go.Proofs.YtfhcpehfmecpjaaT
