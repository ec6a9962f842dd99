/- Texts of ours, laid one behind the other: PathB, PathC, GrwA, EdA, EdZ, EdB, GrwB, EdD, DrEdA, DrEdB, SpnB, CpA, PathS, SpnC, HexM, SpnD, NestB, NestC, SpnE, TreL. -/
import Derived.Test.YtakhagkhngmpaaaGreatQq1
import Derived.BigQuiet
import Derived.Deep.CutRange
import Derived.OrdersHeld
import Derived.Deep.RegionHeld3
import Derived.Deep.AppendLies
import Derived.Deep.Upon
import Derived.PlainAid
/- PathB: . -/
namespace Go.Proofs.YtakhagkhngmpaaaGreat
set_option maxRecDepth 100000
open Go.RowKit
open Go.PlainAid (bt)
attribute [local go_sem ↓] Go.wp_at_zero Go.wp_at_succ
def OPost (R : List ByteArray × Bool) (w : World) (e : Ending) (w' : World) : Prop := ∃ v, e = .returned (.tuple #[v, .bool R.2]) ∧ w'.ownsRow w.heap.size 9 1 v R.1.length (tv R.1) ∧ Below w.heap.size w w'
theorem OPost.none {R : List ByteArray × Bool} {b : Bool} {w w' : World} {v : Value} (h : R = ([], b)) (ho : w'.ownsRow w.heap.size 9 1 v 0 []) (hb : Below w.heap.size w w') : OPost R w (.returned (.tuple #[v, .bool b])) w' := by
 unfold OPost
 rw [h]
 exact ⟨v, rfl, ho, hb⟩
theorem OPost.some {R L : List ByteArray × Bool} {w w' : World} {v : Value} (h : R = L) (ho : w'.ownsRow w.heap.size 9 1 v L.1.length (tv L.1)) (hb : Below w.heap.size w w') : OPost R w (.returned (.tuple #[v, .bool L.2])) w' := by
 rw [h]
 exact ⟨v, rfl, ho, hb⟩
theorem own_made0 {w w' : World} (hb : Below w.heap.size w w') : (w'.alloc (.cells #[] 9)).ownsRow w.heap.size 9 1 (.slice (.some ⟨w'.heap.size, 0, none⟩) 0 0) 0 [] := World.ownsRow_made w' #[] 0 hb.size (by decide) rfl
theorem splitB_first {p : ByteArray} (h : p.size = 0 ∨ bt p 0 ≠ 47) : splitB p = ([], false) := by
 have hl : (lb p).length = p.size := rfl
 unfold splitB
 cases e : lb p with
 | nil => rfl
 | cons c r =>
  have hc : c ≠ 47 := fun q => by
   subst q
   rw [e] at hl
   simp at hl
   rcases h with h | h
   ·omega
   ·apply h
    have h1 : 0 < p.size := by omega
    rw [bt_at h1]
    simp only [e, List.getElem_cons_zero]
    decide
  have e2 : splitP (c :: r) = ([], false) := by unfold splitP; exact if_neg hc
  rw [e2]; rfl
theorem splitB_one {p : ByteArray} (h : p = ⟨#[47]⟩) : splitB p = ([], true) := by subst h; rfl
theorem one_slash {p : ByteArray} (h : p.size = 1) (h0 : bt p 0 = 47) : p = ⟨#[47]⟩ := by
 have hl : (lb p).length = p.size := rfl
 have e : lb p = [47] := by
  cases e : lb p with
  | nil => rw [e] at hl; simp at hl; omega
  | cons c r =>
   rw [e] at hl
   have hr : r = [] := List.eq_nil_of_length_eq_zero (by simp at hl; omega)
   subst hr
   congr 1
   have h2 := bt_at (s := p) (j := 0) (by omega)
   simp only [e, List.getElem_cons_zero] at h2
   rw [h0] at h2
   have h3 : c.toNat = 47 := by omega
   exact UInt8.toNat_inj.1 h3
 have := congrArg ba e
 rw [ba_lb] at this
 exact this
structure PaWay (p : ByteArray) (k bg : Nat) (done : List ByteArray) : Prop where
 open' : k ≤ p.size → PaRel p k bg done
 fin : p.size < k → (segs ((lb p).drop 1)).map ba = done ∧ ∀ s ∈ done, nameB s = true
theorem PaWay.split {p : ByteArray} {k bg : Nat} {done : List ByteArray} (h : PaWay p k bg done) (hk : k ≤ p.size) (hc : k < p.size → bt p k = 47) : ∃ rest, (segs ((lb p).drop 1)).map ba = (done ++ [p.extract bg k]) ++ rest := by
 by_cases e : k < p.size
 ·exact ⟨_, (h.open' hk).split e (hc e)⟩
 ·exact ⟨[], by rw [List.append_nil]; exact (h.open' hk).fin (by omega)⟩
theorem PaWay.bad {p : ByteArray} {k bg : Nat} {done : List ByteArray} (h : PaWay p k bg done) (h1 : 1 < p.size) (h0 : bt p 0 = 47) (hk : k ≤ p.size) (hc : k < p.size → bt p k = 47) (hn : nameB (p.extract bg k) = false) : splitB p = ([], false) := by
 obtain ⟨rest, e⟩ := h.split hk hc
 rw [splitB_rest h1 h0, if_neg (fun q => by
  have := q.1 (p.extract bg k) (by rw [e]; simp)
  rw [hn] at this; cases this)]
theorem PaWay.next {p : ByteArray} {k bg : Nat} {done : List ByteArray} (h : PaWay p k bg done) (hk : k ≤ p.size) (hc : k < p.size → bt p k = 47) (hn : nameB (p.extract bg k) = true) : PaWay p (k + 1) (k + 1) (done ++ [p.extract bg k]) := by
 refine ⟨fun q => (h.open' hk).next (by omega) (hc (by omega)) hn, fun q => ⟨(h.open' hk).fin (by omega), fun s hs => ?_⟩⟩
 rcases List.mem_append.1 hs with q | q
 ·exact (h.open' hk).names s q
 ·simp at q; subst q; exact hn
theorem PaWay.step {p : ByteArray} {k bg : Nat} {done : List ByteArray} (h : PaWay p k bg done) (hk : k < p.size) (hc : bt p k ≠ 47) : PaWay p (k + 1) bg done := ⟨fun _ => (h.open' (by omega)).step hc, fun q => by omega⟩
theorem PaWay.done {p : ByteArray} {k bg : Nat} {done : List ByteArray} (h : PaWay p k bg done) (h1 : 1 < p.size) (h0 : bt p 0 = 47) (hk : p.size < k) : splitB p = if done.length ≤ 4 then (done, true) else ([], false) := by
 obtain ⟨e, hn⟩ := h.fin hk
 rw [splitB_rest h1 h0, e]
 by_cases q : done.length ≤ 4
 ·rw [if_pos ⟨hn, q⟩, if_pos q]
 ·rw [if_neg (fun k => q k.2), if_neg q]
set_option maxHeartbeats 2000000 in
theorem specSplitPath (p : ByteArray) (w : World) (hs : p.size ≤ 1048576) : Calls Tryz.prog 76 #[.string p] w fun e w' => OPost (splitB p) w e w' := by
 obtain ⟨i0, hi, hz0, hz1, hz2⟩ := info_parts infoTextG
 have hb := Go.PlainAid.get_bt p
 have hal : Below w.heap.size w (w.alloc (.cells #[] 9)) := (Below.refl _ _).alloc (Nat.le_refl _) _
 have HAL := Shut.mk hal
 have HOW := Shut.mk (own_made0 (Below.refl w.heap.size w))
 clear hal
 by_cases h0 : p.size = 0
 ·have HE := Shut.mk (splitB_first (.inl h0))
  have h0' : ((p.size : Int) == 0) = true := by rw [h0]; rfl
  go_enter Tryz.func76, Tryz.ntmps76
  go_wp2_with fail
  go_ret2
  exact OPost.none HE.out HOW.out HAL.out
 have h0' : ((p.size : Int) == 0) = false := by rw [beq_eq_false_iff_ne]; omega
 have h0n : 0 < p.size := by omega
 have h0i : (0 : Int) < (p.size : Int) := by omega
 have b0 := Go.PlainAid.bt_nonneg p 0
 have b1 := Go.PlainAid.bt_le p 0
 by_cases hc : bt p 0 = 47
 case neg =>
  have HE := Shut.mk (splitB_first (.inr hc))
  have hc' : (bt p 0 != 47) = true := by rw [bne_iff_ne]; exact hc
  go_enter Tryz.func76, Tryz.ntmps76
  go_wp2_with fail
  go_ret2
  exact OPost.none HE.out HOW.out HAL.out
 have hc' : (bt p 0 != 47) = false := by rw [hc]; rfl
 have HC := Shut.mk hc
 clear hc
 by_cases h1 : p = ⟨#[47]⟩
 ·have HE := Shut.mk (splitB_one h1)
  have h1' : (p.toList == [47]) = true := by rw [h1, Go.ByteArray.toList_eq]; rfl
  have HP := Shut.mk h1
  clear h1
  go_enter Tryz.func76, Tryz.ntmps76
  go_wp2_with fail
  go_ret2
  exact OPost.none HE.out HOW.out HAL.out
 have h1' : (p.toList == [47]) = false := by
  rw [beq_eq_false_iff_ne]
  intro e
  rw [Go.ByteArray.toList_eq] at e
  exact h1 (ByteArray.ext (Array.toList_inj.1 e))
 have hsz : 1 < p.size := by
  by_cases e : p.size = 1
  ·exact absurd (one_slash e HC.out) h1
  ·omega
 clear h1
 go_enter Tryz.func76, Tryz.ntmps76
 go_wp2_with fail
 go_loopw [4, 5, 6] (fun v bg i wr => ∃ (k g : Nat) (done : List ByteArray) (vv : Value), vv = v ∧ bg = .int .i64 g ∧ i = .int .i64 k ∧ k ≤ p.size + 1 ∧ g ≤ k ∧ done.length ≤ k ∧ Shut (PaWay p k g done) ∧ Shut (wr.ownsRow w.heap.size 9 1 vv done.length (tv done)) ∧ Shut (Below w.heap.size w wr)) (fun _ _ i _ => p.size + 1 - (intOf i).toNat)
 case atStart => exact ⟨1, 1, [], _, rfl, rfl, rfl, by omega, by omega, by simp, ⟨⟨fun _ => PaRel.start, fun h => by omega⟩⟩, HOW, HAL⟩
 case round =>
  clear HOW HAL
  obtain ⟨k, g, done, v, rfl, rfl, rfl, hk, hgk, hdk, hway, hown, hbl⟩ := hrel
  have hB := hbl.out.size
  by_cases hlt : k < p.size
  ·have c0 := Go.PlainAid.bt_nonneg p k
   have c1 := Go.PlainAid.bt_le p k
   have k1 : (k : Int) ≤ (p.size : Int) := by omega
   have k2 : (k : Int) < (p.size : Int) := by omega
   have k3 : (0 : Int) ≤ (k : Int) := by omega
   by_cases hne : bt p k = 47
   ·have hne' : (bt p k != 47) = false := by rw [hne]; rfl
    have hsl := slice_str p g k hgk (by omega)
    have hes : (p.extract g k).size ≤ 1048576 := by rw [ByteArray.size_extract]; omega
    have HN := Shut.mk (fun W => specNameOk (p.extract g k) W hes)
    have HNE := Shut.mk hne
    clear hne
    cases hn : nameB (p.extract g k) with
    | false =>
     have HE := Shut.mk (hway.out.bad hsz HC.out (by omega) (fun _ => HNE.out) hn)
     rw [hn] at HN
     clear hn
     go_wp2_with fail
     refine (HN.out _).mono ?_
     rintro e w2 ⟨rfl, hb2⟩
     have HB2 := Shut.mk (hbl.out.trans (hb2.mono hbl.out.size))
     clear hb2
     go_wp2_with fail
     go_ret2
     exact OPost.none HE.out (own_made0 HB2.out) (HB2.out.alloc HB2.out.size _)
    | true =>
     have HE := Shut.mk (hway.out.next (by omega) (fun _ => HNE.out) hn)
     rw [hn] at HN
     clear hn
     generalize p.extract g k = x at *
     go_wp2_with fail
     refine (HN.out _).mono ?_
     rintro e w2 ⟨rfl, hb2⟩
     have HB2 := Shut.mk (hbl.out.trans (hb2.mono hbl.out.size))
     have hB2 := HB2.out.size
     have hown2 := hown.out.kept (row := none) ⟨hb2.os, hb2.tape, hb2.output, hb2.size, fun k hk _ => hb2.block k hk⟩ (Classical.em _)
     clear hb2 HN hway hown
     go_wp2_with (at_builtin; refine wpList_append_own _ rfl _ _ 76 rfl w.heap.size 9 i0 (.string ⟨#[]⟩) 1 16 Tryz.underlying76 hi hz0 hz1 hz2 rfl (by decide) _ _ _ rfl (hown2.alloc _) ⟨w2.heap.size, 0, none⟩ 1 1 [.string x] rfl rfl (cell_one_new _ _ _) ?c2 ?c3 ?c4 ?c5 ?_)
     case c2 => first | rfl | (intro u hu; simp at hu; subst hu; rfl)
     case c3 => unfold maxLen; omega
     case c4 => omega
     case c5 => first | omega | (simp; omega)
     intro v' w4 hown' hgrow _
     rw [tv_snoc] at hown'
     have Q1 : Shut (w4.ownsRow w.heap.size 9 1 v' (done ++ [x]).length (tv (done ++ [x]))) := ⟨by rw [List.length_append, List.length_singleton]; exact hown'⟩
     have Q2 := Shut.mk ((HB2.out.alloc hB2 (.cells #[.string x] 9)).grown hgrow (by simp; omega) (fun j hj => (hown2.lt j hj).1))
     clear hown' hgrow hown2
     go_wp2_with fail
     go_roundw
     case rel => exact ⟨k + 1, k + 1, _, v', rfl, by go_num, by go_num, by omega, by omega, by rw [List.length_append, List.length_singleton]; omega, HE, Q1, Q2⟩
     case measure => simp [intOf]; omega
   ·have hne' : (bt p k != 47) = true := by rw [bne_iff_ne]; exact hne
    have HE := Shut.mk (hway.out.step hlt hne)
    go_wp2_with fail
    go_roundw
    case rel => exact ⟨k + 1, g, done, v, rfl, rfl, by go_num, by omega, by omega, by omega, HE, hown, hbl⟩
    case measure => simp [intOf]; omega
  ·by_cases hek : k = p.size
   ·have k1 : (k : Int) ≤ (p.size : Int) := by omega
    have k2 : ¬ (k : Int) < (p.size : Int) := by omega
    have hsl := slice_str p g k hgk (by omega)
    have hes : (p.extract g k).size ≤ 1048576 := by rw [ByteArray.size_extract]; omega
    have HN := Shut.mk (fun W => specNameOk (p.extract g k) W hes)
    have HK : Hid (k = p.size) := hek
    clear hek
    cases hn : nameB (p.extract g k) with
    | false =>
     have HE := Shut.mk (hway.out.bad hsz HC.out (by omega) (fun q => by omega) hn)
     rw [hn] at HN
     clear hn
     go_wp2_with fail
     refine (HN.out _).mono ?_
     rintro e w2 ⟨rfl, hb2⟩
     have HB2 := Shut.mk (hbl.out.trans (hb2.mono hbl.out.size))
     clear hb2
     go_wp2_with fail
     go_ret2
     exact OPost.none HE.out (own_made0 HB2.out) (HB2.out.alloc HB2.out.size _)
    | true =>
     have HE := Shut.mk (hway.out.next (by omega) (fun q => by omega) hn)
     rw [hn] at HN
     clear hn
     generalize p.extract g k = x at *
     go_wp2_with fail
     refine (HN.out _).mono ?_
     rintro e w2 ⟨rfl, hb2⟩
     have HB2 := Shut.mk (hbl.out.trans (hb2.mono hbl.out.size))
     have hB2 := HB2.out.size
     have hown2 := hown.out.kept (row := none) ⟨hb2.os, hb2.tape, hb2.output, hb2.size, fun k hk _ => hb2.block k hk⟩ (Classical.em _)
     clear hb2 HN hway hown
     go_wp2_with (at_builtin; refine wpList_append_own _ rfl _ _ 76 rfl w.heap.size 9 i0 (.string ⟨#[]⟩) 1 16 Tryz.underlying76 hi hz0 hz1 hz2 rfl (by decide) _ _ _ rfl (hown2.alloc _) ⟨w2.heap.size, 0, none⟩ 1 1 [.string x] rfl rfl (cell_one_new _ _ _) ?c2 ?c3 ?c4 ?c5 ?_)
     case c2 => first | rfl | (intro u hu; simp at hu; subst hu; rfl)
     case c3 => unfold maxLen; omega
     case c4 => omega
     case c5 => first | omega | (simp; omega)
     intro v' w4 hown' hgrow _
     rw [tv_snoc] at hown'
     have Q1 : Shut (w4.ownsRow w.heap.size 9 1 v' (done ++ [x]).length (tv (done ++ [x]))) := ⟨by rw [List.length_append, List.length_singleton]; exact hown'⟩
     have Q2 := Shut.mk ((HB2.out.alloc hB2 (.cells #[.string x] 9)).grown hgrow (by simp; omega) (fun j hj => (hown2.lt j hj).1))
     clear hown' hgrow hown2
     go_wp2_with fail
     go_roundw
     case rel => exact ⟨k + 1, k + 1, _, v', rfl, by go_num, by go_num, by omega, by omega, by rw [List.length_append, List.length_singleton]; omega, HE, Q1, Q2⟩
     case measure => simp [intOf]; omega
   ·have k1 : ¬ (k : Int) ≤ (p.size : Int) := by omega
    have hfin := hway.out.done hsz HC.out (by omega)
    have hown2 := hown.out
    obtain ⟨a, cap, rfl⟩ : ∃ a cap, v = .slice a done.length cap := by
     rcases hown2.2 with ⟨e, h0⟩ | ⟨g, cap, _, e, _⟩
     ·exact ⟨none, 0, by rw [e, h0]⟩
     ·exact ⟨_, cap, e⟩
    clear hown2
    by_cases h4 : done.length ≤ 4
    ·have HE := Shut.mk (show splitB p = (done, true) by rw [hfin, if_pos h4])
     have h4' : ¬ (4 : Int) < (done.length : Int) := by omega
     clear hfin hway
     go_wp2_with fail
     go_ret2
     exact OPost.some HE.out hown.out hbl.out
    ·have HE := Shut.mk (show splitB p = ([], false) by rw [hfin, if_neg h4])
     have h4' : (4 : Int) < (done.length : Int) := by omega
     clear hfin hway
     go_wp2_with fail
     go_ret2
     exact OPost.none HE.out (own_made0 hbl.out) (hbl.out.alloc hbl.out.size _)
def joinA (L : List ByteArray) : ByteArray := ba ((L.map lb).map (47 :: ·)).flatten
theorem joinA_snoc (L : List ByteArray) (x : ByteArray) : joinA (L ++ [x]) = (joinA L ++ ⟨#[47]⟩) ++ x := by
 apply ByteArray.ext
 unfold joinA
 simp
theorem joinA_size (L : List ByteArray) : (joinA L).size = L.length + tsum L := by
 induction L with
 | nil => rfl
 | cons x L ih =>
  have e : joinA (x :: L) = (⟨#[47]⟩ : ByteArray) ++ x ++ joinA L := by
   apply ByteArray.ext
   unfold joinA
   simp
  rw [e, ByteArray.size_append, ByteArray.size_append, ih]
  simp only [tsum, List.length_cons]
  have : (⟨#[47]⟩ : ByteArray).size = 1 := rfl
  omega
theorem joinB_ne {L : List ByteArray} (h : L ≠ []) : joinB L = joinA L := by
 unfold joinB joinP joinA
 rw [if_neg (fun e => h (List.map_eq_nil_iff.1 e))]
set_option maxHeartbeats 1000000 in
theorem specJoinPath {w : World} {v : Value} {L : List ByteArray} {lo hi : Nat} (hv : SSee w v L lo hi) (hf : TFit L) : Calls Tryz.prog 84 #[v] w fun e w' => e = .returned (.string (joinB L)) ∧ Below w.heap.size w w' := by
 obtain ⟨a, cap, rfl, hr⟩ := hv
 have hn : L.length + tsum L ≤ 1048576 := hf
 by_cases h0 : L = []
 ·subst h0
  clear hr hf hn
  go_enter Tryz.func84, Tryz.ntmps84
  go_wp2_with fail
  go_ret
  exact ⟨rfl, Below.refl _ _⟩
 ·have HE := Shut.mk (joinB_ne h0)
  have h1 : 0 < L.length := List.length_pos_iff.2 h0
  have h1' : ((L.length : Int) == 0) = false := by rw [beq_eq_false_iff_ne]; omega
  have HR := Shut.mk hr
  clear hr h0 hf
  go_enter Tryz.func84, Tryz.ntmps84
  go_wp2_with fail
  go_loopw [3, 4] (fun s i wr => ∃ (k : Nat), i = .int .i64 k ∧ k ≤ L.length ∧ s = .string (joinA (L.take k)) ∧ Shut (Below w.heap.size w wr)) (fun _ i _ => L.length - (intOf i).toNat)
  case atStart => exact ⟨0, rfl, Nat.zero_le _, rfl, ⟨Below.refl _ _⟩⟩
  case round =>
   obtain ⟨k, rfl, hk, rfl, hbl⟩ := hrel
   by_cases hlt : k < L.length
   ·obtain ⟨b, off, rfl, lb', hc⟩ := units_at HR.out (by omega)
    have d0 := (hbl.out.cell (p := ⟨b, off + k, none⟩) lb').trans (hc k hlt)
    have k0 : (0 : Int) ≤ (k : Int) := by omega
    have k1 : (k : Int) < (L.length : Int) := by omega
    have hst : joinA (L.take (k + 1)) = (joinA (L.take k) ++ ⟨#[47]⟩) ++ L.getD k ⟨#[]⟩ := by
     rw [List.take_succ_eq_append_getElem hlt, joinA_snoc]
     simp [List.getD, hlt]
    have hz1 := joinA_size (L.take k)
    have hz2 := tsum_le L k
    have hz3 : (L.take k).length ≤ L.length := by rw [List.length_take]; omega
    have hz4 := tsum_take L k hlt
    have hz5 := tsum_le L (k + 1)
    generalize L.getD k ⟨#[]⟩ = x at *
    have hja : (joinA (L.take k)).size + x.size + 1 ≤ 2097152 := by omega
    generalize joinA (L.take k) = J at *
    have HST := Shut.mk hst
    clear hst hc hz1 hz2 hz3 hz4 hz5
    go_wp2_with fail
    go_roundw
    case rel => exact ⟨k + 1, by go_num, by omega, by rw [HST.out], hbl⟩
    case measure => simp [intOf]; omega
   ·have hlt' : ¬ (k : Int) < (L.length : Int) := by omega
    have HF : Shut (joinA (L.take k) = joinB L) := ⟨by rw [List.take_of_length_le (by omega), HE.out]⟩
    generalize joinA (L.take k) = J at *
    go_wp2_with fail
    go_ret
    exact ⟨congrArg (fun x => Ending.returned (.string x)) HF.out, hbl.out⟩
def ParPost (p : ByteArray) (w : World) (e : Ending) (w' : World) : Prop := e = .returned (.tuple #[.string (parentB p).1, .string (parentB p).2.1, .bool (parentB p).2.2]) ∧ Below w.heap.size w w'
theorem parent_no {p : ByteArray} {L : List ByteArray} {ok : Bool} (h : splitB p = (L, ok)) (hn : ok = false ∨ L = []) : parentB p = (⟨#[]⟩, ⟨#[]⟩, false) := by
 unfold parentB
 rw [h]
 rw [if_neg (fun q => by
  rcases hn with e | e
  ·rw [e] at q; cases q.1
  ·exact q.2 e)]
theorem parent_yes {p : ByteArray} {I : List ByteArray} {x : ByteArray} (h : splitB p = (I ++ [x], true)) : parentB p = (joinB I, x, true) := by
 unfold parentB
 rw [h, if_pos ⟨rfl, by simp⟩]
 simp
theorem names_fit {L : List ByteArray} (h : ∀ s ∈ L, nameB s = true) (h4 : L.length ≤ 4) : TFit L := by
 have hs : ∀ s ∈ L, s.size ≤ 8 := fun s hs => ((nameB_iff s).1 (h s hs)).2.2
 have : tsum L ≤ L.length * 8 := by
  clear h h4
  induction L with
  | nil => simp [tsum]
  | cons x L ih =>
   simp only [tsum, List.length_cons, Nat.add_mul, Nat.one_mul]
   have h1 := hs x (by simp)
   have h2 := ih (fun s h => hs s (by simp [h]))
   omega
 unfold TFit
 omega
theorem own_form9 {w : World} {B n : Nat} {t : TypeId} {v : Value} {L : List Value} (h : w.ownsRow B t 1 v n L) : ∃ a cap, v = .slice a n cap := by
 rcases h.2 with ⟨e, h0⟩ | ⟨g, cap, _, e, _⟩
 ·exact ⟨none, 0, by rw [e, h0]⟩
 ·exact ⟨_, cap, e⟩
theorem own_some9 {w : World} {B n : Nat} {t : TypeId} {v : Value} {L : List Value} (h : w.ownsRow B t 1 v n L) (hp : 0 < n) : ∃ g cap, v = .slice (some ⟨g, 0, none⟩) n cap ∧ n ≤ cap := by
 rcases h.2 with ⟨_, h0⟩ | ⟨g, cap, _, e, _, _, hc, _⟩
 ·omega
 ·exact ⟨g, cap, e, hc⟩
theorem own_part9 {w : World} {g cap B n k : Nat} {L : List ByteArray} (hown : w.ownsRow B 9 1 (.slice (some ⟨g, 0, none⟩) n cap) n (tv L)) (hk : k ≤ L.length) : SSee w (.slice (some ⟨g, 0, none⟩) k cap) (L.take k) 0 w.heap.size := by
 have hw := own_wcells hown
 refine ⟨_, cap, by rw [List.length_take, Nat.min_eq_left hk], fun _ => ⟨g, 0, rfl, Nat.zero_le _, hw.1, hw.1, fun i v hv => ?_⟩⟩
 rw [Nat.zero_add]
 have hv' : (tv L)[i]? = some v := by
  unfold tv at hv ⊢
  rw [List.map_take] at hv
  rw [List.getElem?_take] at hv
  split at hv
  ·exact hv
  ·cases hv
 exact (hw.2 i v hv').1
set_option maxHeartbeats 2000000 in
theorem specParentPath (p : ByteArray) (w : World) (hs : p.size ≤ 1048576) : Calls Tryz.prog 112 #[.string p] w fun e w' => ParPost p w e w' := by
 have HS := Shut.mk (fun W => specSplitPath p W hs)
 have hnm := splitB_names p
 unfold OPost at HS
 unfold ParPost
 obtain ⟨L, ok, hre⟩ : ∃ L ok, splitB p = (L, ok) := ⟨_, _, rfl⟩
 rw [hre] at HS hnm
 have HN := Shut.mk hnm
 clear hnm
 cases ok with
 | false =>
  rw [parent_no hre (.inl rfl)]
  clear hre
  go_enter Tryz.func112, Tryz.ntmps112
  go_wp2_with fail
  refine (HS.out _).mono ?_
  rintro e w1 ⟨v, rfl, ho, hb⟩
  obtain ⟨a, cap, rfl⟩ := own_form9 ho
  have HB := Shut.mk hb
  clear ho hb
  go_wp2_with fail
  go_ret3
  exact ⟨rfl, HB.out⟩
 | true =>
  rcases List.eq_nil_or_concat L with rfl | ⟨I, x, rfl⟩
  ·rw [parent_no hre (.inr rfl)]
   clear hre
   go_enter Tryz.func112, Tryz.ntmps112
   go_wp2_with fail
   refine (HS.out _).mono ?_
   rintro e w1 ⟨v, rfl, ho, hb⟩
   obtain ⟨a, cap, rfl⟩ := own_form9 ho
   have HB := Shut.mk hb
   clear ho hb
   go_wp2_with fail
   go_ret3
   exact ⟨rfl, HB.out⟩
  ·rw [List.concat_eq_append] at *
   rw [parent_yes hre]
   obtain ⟨J, hJ⟩ : ∃ J, J = joinB I := ⟨_, rfl⟩
   have HJE := Shut.mk hJ
   rw [← hJ]
   clear hJ
   have h4 := HN.out.2
   have HF : Shut (TFit I) := ⟨names_fit (fun s h => HN.out.1 s (List.mem_append.2 (.inl h))) (by rw [List.length_append] at h4; omega)⟩
   obtain ⟨m, hm⟩ : ∃ m, m = I.length := ⟨_, rfl⟩
   have HM := Shut.mk hm
   have hm4 : m ≤ 4 := by rw [List.length_append] at h4; omega
   rw [show (I ++ [x], true).1.length = m + 1 by simp [hm]] at HS
   clear hre h4 hm
   go_enter Tryz.func112, Tryz.ntmps112
   go_wp2_with fail
   refine (HS.out _).mono ?_
   rintro e w1 ⟨v, rfl, ho, hb⟩
   obtain ⟨g, cap, rfl, hcap⟩ := own_some9 ho (by omega)
   have hw := own_wcells ho
   have d0 : w1.cell? ⟨g, m, none⟩ = some (.string x) := (hw.2 m (.string x) (by
    rw [tv_get _ m (by rw [List.length_append, HM.out]; simp)]
    simp [List.getD, HM.out])).1
   have hg := hw.1
   have hsee := own_part9 (k := m) ho (by rw [List.length_append, HM.out]; simp)
   rw [show (I ++ [x]).take m = I by rw [HM.out]; simp] at hsee
   have HJ := Shut.mk (fun W (hW : Below w1.heap.size w1 W) => specJoinPath (hsee.below hW) HF.out)
   have HB := Shut.mk hb
   have hm0 : (((m + 1 : Nat) : Int) == 0) = false := by rw [beq_eq_false_iff_ne]; omega
   obtain ⟨n, hn⟩ : ∃ n, n = m + 1 := ⟨_, rfl⟩
   rw [← hn] at hcap hm0 ⊢
   have hnm : (n : Int) - 1 = (m : Int) := by omega
   have hmn : (m : Int) < (n : Int) := by omega
   have hmc : (m : Int) ≤ (cap : Int) := by omega
   have hm9 : (0 : Int) ≤ (m : Int) := by omega
   have hwr : IntKind.i64.wrap ((n : Int) - 1) = (m : Int) := by rw [hnm]; exact IntWalk.i64_in _ ⟨by omega, by omega⟩
   rw [← HJE.out] at HJ
   clear ho hb hw hsee hn HN HM hnm
   go_wp2_with fail
   go_region_held3 (fun w' => w'.cell? ⟨g, m, none⟩ = some (.string x))
    (first | assumption | (exact (hb9.cell (p := ⟨g, m, none⟩) hg).trans (by assumption)) | go_keep)
    (first | (go_at_call 84; refine (HJ.out _ (by first | exact Below.refl _ _ | exact Below.drew (Below.refl _ _))).mono ?_; rintro e w9 ⟨rfl, hb9⟩))
   all_goals
    go_wp2_with fail
    go_ret3
    exact ⟨rfl, by first | exact HB.out.trans (hb9.mono HB.out.size) | exact HB.out.trans (((Below.drew (Below.refl w1.heap.size w1)).trans hb9).mono HB.out.size)⟩
end Go.Proofs.YtakhagkhngmpaaaGreat
/- GrwA: . -/
namespace Go.Proofs.YtakhagkhngmpaaaGreat
set_option maxRecDepth 100000
open Go.RowKit
structure Grow (w : World) where
 val : World
 bel : Below w.heap.size w val
instance {w : World} : Nonempty (Grow w) := ⟨⟨w, Below.refl _ _⟩⟩
theorem wp_region_grow {P : Program} {id : Nat} {Q : Exit → Act → World → Prop} {a : Act} {w : World} {l : List Oper} (hm : P.follows .mixedOrders = true) (hB : Region.lexB .any l.toArray = true)
  (h : wpQuiet P l.toArray (fun W => ∃ X : Grow w, W = X.val) (fun a' => ∀ w', (∃ X : Grow w, w' = X.val) → Q .normal a' w') l a) : (Code.region id l.toArray true).wp P Q a w :=
 wp_region_quiet (C := fun W => ∃ X : Grow w, W = X.val) hm hB ⟨⟨w.drew, Below.drew (Below.refl _ _)⟩, rfl⟩ (by simpa using h)
theorem Grow.cell {w : World} (X : Grow w) {p : Addr} {v : Value} (h : w.cell? p = some v) (hl : p.block < w.heap.size) : X.val.cell? p = some v := (X.bel.cell hl).trans h
theorem calls_grow {P : Program} {f : FuncId} {args : Array Value} {w : World} {v : Value} (h : ∀ W, Below w.heap.size w W → Calls P f args W fun e w' => e = .returned v ∧ Below W.heap.size W w') (X : Grow w) :
  Calls P f args X.val fun e w'' => e = .returned v ∧ ∃ Y : Grow w, w'' = Y.val :=
 (h X.val X.bel).mono fun _ w'' ⟨he, hb⟩ => ⟨he, ⟨w'', X.bel.trans (hb.mono X.bel.size)⟩, rfl⟩
theorem calls_same {P : Program} {f : FuncId} {args : Array Value} {w : World} {v : Value} (h : ∀ W, Below w.heap.size w W → Calls P f args W fun e w' => e = .returned v ∧ w' = W) (X : Grow w) :
  Calls P f args X.val fun e w'' => e = .returned v ∧ ∃ Y : Grow w, w'' = Y.val :=
 (h X.val X.bel).mono fun _ _ ⟨he, hb⟩ => ⟨he, X, hb⟩
end Go.Proofs.YtakhagkhngmpaaaGreat
/- EdA: . -/
namespace Go.Proofs.YtakhagkhngmpaaaGreat
set_option maxRecDepth 100000
open Go.RowKit BigFrame
attribute [local go_sem ↓] Go.wp_at_zero Go.wp_at_succ
structure EM where
 kind : Int
 path : ByteArray
 dest : ByteArray
 num : Int
 who : Int
instance : Inhabited EM := ⟨⟨0, ⟨#[]⟩, ⟨#[]⟩, 0, 0⟩⟩
abbrev ev (e : EM) : Value := .agg #[.int .i64 e.kind, .string e.path, .string e.dest, .int .i64 e.num, .int .i64 e.who]
def ecells (e : EM) : List Value := [.int .i64 e.kind, .string e.path, .string e.dest, .int .i64 e.num, .int .i64 e.who]
theorem ecells_len (e : EM) : (ecells e).length = 5 := rfl
def EFit (e : EM) : Prop := e.path.size ≤ 1048576 ∧ e.dest.size ≤ 1048576
def named (p : ByteArray) : Bool := (parentB p).2.2
def pathBad (e : EM) : Bool := (!named e.path && !(((e.kind == 5) || (e.kind == 6)) && (e.path.toList == [47]))) || ((e.kind == 3) != named e.dest) || ((e.kind != 3) && (e.dest.toList != []))
def numsOk (e : EM) : Bool := if e.kind = 5 then inI e.num 1 3 && (e.who == 0) else if e.kind = 6 then inI e.num 0 1000 && (e.who == 0) else if e.kind = 7 then inI e.num 1 200 && (e.who == 0) else if e.kind = 2 ∨ e.kind = 9 then (e.num == 0) && inI e.who 1 9 else (e.num == 0) && (e.who == 0)
def editOk (e : EM) : Bool := inI e.kind 1 10 && (if e.kind = 10 then (e.path.toList == [47]) && (e.dest.toList == []) && (e.num == 0) && (e.who == 0) else !pathBad e && numsOk e)
theorem specNamed (p : ByteArray) (w : World) (hs : p.size ≤ 1048576) : Calls Tryz.prog 86 #[.string p] w fun e w' => e = .returned (.bool (named p)) ∧ Below w.heap.size w w' := by
 have HC := Shut.mk (fun W => specParentPath p W hs)
 unfold ParPost at HC
 have e0 : named p = (parentB p).2.2 := rfl
 rw [e0]
 generalize (parentB p).2.2 = a at *
 generalize (parentB p).2.1 = b at *
 generalize (parentB p).1 = c at *
 clear hs e0
 go_enter Tryz.func86, Tryz.ntmps86
 go_wp2_with fail
 refine (HC.out _).mono ?_
 rintro e w1 ⟨rfl, hb⟩
 go_wp2_with fail
 go_ret
 exact ⟨rfl, hb⟩
end Go.Proofs.YtakhagkhngmpaaaGreat
/- EdZ: . -/
namespace Go.Proofs.YtakhagkhngmpaaaGreat
set_option maxRecDepth 100000
open Go.RowKit
def zeroE : EM := ⟨0, ⟨#[]⟩, ⟨#[]⟩, 0, 0⟩
def put5 (w : World) (A : Nat) (X : EM) : World := ((((w.setCell ⟨A, 0, none⟩ (.int .i64 X.kind)).setCell ⟨A, 1, none⟩ (.string X.path)).setCell ⟨A, 2, none⟩ (.string X.dest)).setCell ⟨A, 3, none⟩ (.int .i64 X.num)).setCell ⟨A, 4, none⟩ (.int .i64 X.who)
end Go.Proofs.YtakhagkhngmpaaaGreat
/- EdB: . -/
namespace Go.Proofs.YtakhagkhngmpaaaGreat
set_option maxRecDepth 100000
open Go.RowKit BigFrame
attribute [local go_sem ↓] Go.wp_at_zero Go.wp_at_succ
set_option maxHeartbeats 2000000 in
theorem specEditOk (e : EM) (w : World) (hf : EFit e) : Calls Tryz.prog 34 #[ev e] w fun r w' => r = .returned (.bool (editOk e)) ∧ Below w.heap.size w w' := by
 have hnp := fun W => specNamed e.path W hf.1
 have hnt := fun W => specNamed e.dest W hf.2
 obtain ⟨R, hR⟩ : ∃ R, R = editOk e := ⟨_, rfl⟩
 rw [← hR]
 obtain ⟨bad, hbad⟩ : ∃ b, b = pathBad e := ⟨_, rfl⟩
 have hRR : R = (inI e.kind 1 10 && (if e.kind = 10 then (e.path.toList == [47]) && (e.dest.toList == []) && (e.num == 0) && (e.who == 0) else !bad && numsOk e)) := by rw [hR, hbad]; rfl
 obtain ⟨np, hnp'⟩ : ∃ b, b = named e.path := ⟨_, rfl⟩
 obtain ⟨nt, hnt'⟩ : ∃ b, b = named e.dest := ⟨_, rfl⟩
 rw [← hnp'] at hnp
 rw [← hnt'] at hnt
 unfold pathBad at hbad
 rw [← hnp', ← hnt'] at hbad
 unfold numsOk at hRR
 have HR := Shut.mk hRR
 have HNPC := Shut.mk hnp
 have HNTC := Shut.mk hnt
 have HBD := Shut.mk hbad
 clear hf hnp hnt hR hbad hnp' hnt' hRR
 obtain ⟨kind, path, dest, num, who⟩ := e
 dsimp only at *
 by_cases h1 : inI kind 1 10 = true
 case neg =>
  have HF : Shut (R = false) := ⟨by rw [HR.out]; simp [h1]⟩
  have HI := Shut.mk (fun W => isInI kind 1 10 W false (by simpa using h1))
  clear h1 HR
  go_enter Tryz.func34, Tryz.ntmps34
  go_wp2_with (go_at_call 61; refine (HI.out _).mono ?_; rintro r w1 ⟨rfl, rfl⟩)
  go_ret
  exact ⟨by rw [HF.out]; rfl, (Below.refl _ _).alloc (Nat.le_refl _) _⟩
 have HI := Shut.mk (fun W => isInI kind 1 10 W true h1)
 have HKB := Shut.mk (inI_iff.1 h1)
 have HIN := Shut.mk (fun x a b W => isInI x a b W _ rfl)
 rw [h1] at HR
 clear h1
 by_cases h10 : kind = 10
 ·rw [if_pos h10] at HR
  subst h10
  go_enter Tryz.func34, Tryz.ntmps34
  go_wp2_with (go_at_call 61; refine (HI.out _).mono ?_; rintro r w1 ⟨rfl, rfl⟩)
  all_goals
   go_ret
   exact ⟨by rw [HR.out]; simp [*], (Below.refl _ _).alloc (Nat.le_refl _) _⟩
 ·rw [if_neg h10] at HR
  have h10' : (kind == 10) = false := by simp [h10]
  obtain ⟨st, hst⟩ : ∃ b, b = ((kind == 5) || (kind == 6)) := ⟨_, rfl⟩
  obtain ⟨pr, hpr⟩ : ∃ b, b = (path.toList == [47]) := ⟨_, rfl⟩
  obtain ⟨k3, hk3⟩ : ∃ b, b = (kind == 3) := ⟨_, rfl⟩
  obtain ⟨te, hte⟩ : ∃ b, b = (dest.toList == []) := ⟨_, rfl⟩
  have HBD' : Shut (bad = ((!np && !(st && pr)) || (k3 != nt) || (!k3 && !te))) := ⟨by
   rw [HBD.out, ← hst, ← hpr, ← hk3]
   have e1 : (kind != 3) = !k3 := by rw [hk3]; rfl
   have e2 : (dest.toList != []) = !te := by rw [hte]; rfl
   rw [e1, e2]⟩
  have HST := Shut.mk hst
  go_enter Tryz.func34, Tryz.ntmps34
  go_upto_region 5 with (go_at_call 61; refine (HI.out _).mono ?_; rintro r w1 ⟨rfl, rfl⟩)
  refine wp_shade (fun W => Below w.heap.size w W ∧ WCells W w.heap.size [.int .i64 kind, .string path, .string dest, .int .i64 num, .int .i64 who]) ⟨(Below.refl _ _).alloc (Nat.le_refl _) _, wcells_new w #[.int .i64 kind, .string path, .string dest, .int .i64 num, .int .i64 who] 28⟩ ?_
  intro W hW
  have HW := Shut.mk hW
  have c0 := (hW.2.2 0 _ rfl).1
  have lw := hW.2.1
  have g0 : ∀ X : Grow W, X.val.cell? ⟨w.heap.size, 0, none⟩ = some (.int .i64 kind) := fun X => X.cell c0 lw
  have g1 : ∀ X : Grow W, X.val.cell? ⟨w.heap.size, 1, none⟩ = some (.string path) := fun X => X.cell (hW.2.2 1 _ rfl).1 lw
  have g2 : ∀ X : Grow W, X.val.cell? ⟨w.heap.size, 2, none⟩ = some (.string dest) := fun X => X.cell (hW.2.2 2 _ rfl).1 lw
  have HNP := Shut.mk (fun X => calls_grow (w := W) (fun W' (_ : Below W.heap.size W W') => HNPC.out W') X)
  have HNT := Shut.mk (fun X => calls_grow (w := W) (fun W' (_ : Below W.heap.size W W') => HNTC.out W') X)
  clear hW HI h10
  rw [HBD'.out] at HR
  clear HBD HBD'
  go_upto_region 5 with fail
  go_cut [3] from 29 to 36 (fun b wx => b = .bool st ∧ wx = W)
  case first =>
   by_cases h5 : kind = 5
   ·have h5' : (kind == 5) = true := by simp [h5]
    have HSE : Shut (st = true) := ⟨by rw [HST.out]; simp [h5]⟩
    clear h5
    go_wp2_with fail
    go_meet
    case rel => exact ⟨by rw [HSE.out], rfl⟩
   ·have h5' : (kind == 5) = false := by simp [h5]
    have HSE : Shut (st = (kind == 6)) := ⟨by rw [HST.out]; simp [h5]⟩
    clear h5
    go_wp2_with fail
    go_meet
    case rel => exact ⟨by rw [HSE.out], rfl⟩
  case rest =>
   obtain ⟨rfl, rfl⟩ := hcut
   have HSTT := HST
   have hpr' : (path.toList == [47]) = pr := hpr.symm
   have hk3' : (kind == 3) = k3 := hk3.symm
   have hk3n : (kind != 3) = !k3 := by rw [hk3]; rfl
   have hte' : (dest.toList == []) = te := hte.symm
   have hten : (dest.toList != []) = !te := by rw [hte]; rfl
   clear hpr hk3 hte hst c0
   go_upto_region 6 with fail
   go_cut [68] from 37 to 68 (fun b wx => b = .bool ((!np && !(st && pr)) || (k3 != nt) || (!k3 && !te)) ∧ Shut (Below w.heap.size w wx ∧ WCells wx w.heap.size [.int .i64 kind, .string path, .string dest, .int .i64 num, .int .i64 who]))
   case first =>
    clear HR HST HSTT
    cases np with
    | true =>
     cases k3 with
     | true =>
      cases nt with
      | true =>
       refine wp_region_grow (by kernel_rfl) (by kernel_rfl) ?_
       repeat (go_big_quiet_step (first | (go_at_call 86; first | with_reducible exact HNP.out _ | with_reducible exact HNT.out _)))
       refine wpQuiet_nil ?_
       rintro _ ⟨X, rfl⟩
       go_wp2_with fail
       go_meet
       case rel => exact ⟨rfl, ⟨HW.out.1.trans (X.bel.mono HW.out.1.size), HW.out.2.grow X.bel⟩⟩
      | false =>
       refine wp_region_grow (by kernel_rfl) (by kernel_rfl) ?_
       repeat (go_big_quiet_step (first | (go_at_call 86; first | with_reducible exact HNP.out _ | with_reducible exact HNT.out _)))
       refine wpQuiet_nil ?_
       rintro _ ⟨X, rfl⟩
       go_wp2_with fail
       go_meet
       case rel => exact ⟨rfl, ⟨HW.out.1.trans (X.bel.mono HW.out.1.size), HW.out.2.grow X.bel⟩⟩
     | false =>
      cases nt with
      | true =>
       refine wp_region_grow (by kernel_rfl) (by kernel_rfl) ?_
       repeat (go_big_quiet_step (first | (go_at_call 86; first | with_reducible exact HNP.out _ | with_reducible exact HNT.out _)))
       refine wpQuiet_nil ?_
       rintro _ ⟨X, rfl⟩
       go_wp2_with fail
       go_meet
       case rel => exact ⟨rfl, ⟨HW.out.1.trans (X.bel.mono HW.out.1.size), HW.out.2.grow X.bel⟩⟩
      | false =>
       cases te with
       | true =>
        refine wp_region_grow (by kernel_rfl) (by kernel_rfl) ?_
        repeat (go_big_quiet_step (first | (go_at_call 86; first | with_reducible exact HNP.out _ | with_reducible exact HNT.out _)))
        refine wpQuiet_nil ?_
        rintro _ ⟨X, rfl⟩
        go_wp2_with fail
        go_meet
        case rel => exact ⟨rfl, ⟨HW.out.1.trans (X.bel.mono HW.out.1.size), HW.out.2.grow X.bel⟩⟩
       | false =>
        refine wp_region_grow (by kernel_rfl) (by kernel_rfl) ?_
        repeat (go_big_quiet_step (first | (go_at_call 86; first | with_reducible exact HNP.out _ | with_reducible exact HNT.out _)))
        refine wpQuiet_nil ?_
        rintro _ ⟨X, rfl⟩
        go_wp2_with fail
        go_meet
        case rel => exact ⟨rfl, ⟨HW.out.1.trans (X.bel.mono HW.out.1.size), HW.out.2.grow X.bel⟩⟩
    | false =>
     cases st with
     | true =>
      cases pr with
      | true =>
       cases k3 with
       | true =>
        cases nt with
        | true =>
         refine wp_region_grow (by kernel_rfl) (by kernel_rfl) ?_
         repeat (go_big_quiet_step (first | (go_at_call 86; first | with_reducible exact HNP.out _ | with_reducible exact HNT.out _)))
         refine wpQuiet_nil ?_
         rintro _ ⟨X, rfl⟩
         go_wp2_with fail
         go_meet
         case rel => exact ⟨rfl, ⟨HW.out.1.trans (X.bel.mono HW.out.1.size), HW.out.2.grow X.bel⟩⟩
        | false =>
         refine wp_region_grow (by kernel_rfl) (by kernel_rfl) ?_
         repeat (go_big_quiet_step (first | (go_at_call 86; first | with_reducible exact HNP.out _ | with_reducible exact HNT.out _)))
         refine wpQuiet_nil ?_
         rintro _ ⟨X, rfl⟩
         go_wp2_with fail
         go_meet
         case rel => exact ⟨rfl, ⟨HW.out.1.trans (X.bel.mono HW.out.1.size), HW.out.2.grow X.bel⟩⟩
       | false =>
        cases nt with
        | true =>
         refine wp_region_grow (by kernel_rfl) (by kernel_rfl) ?_
         repeat (go_big_quiet_step (first | (go_at_call 86; first | with_reducible exact HNP.out _ | with_reducible exact HNT.out _)))
         refine wpQuiet_nil ?_
         rintro _ ⟨X, rfl⟩
         go_wp2_with fail
         go_meet
         case rel => exact ⟨rfl, ⟨HW.out.1.trans (X.bel.mono HW.out.1.size), HW.out.2.grow X.bel⟩⟩
        | false =>
         cases te with
         | true =>
          refine wp_region_grow (by kernel_rfl) (by kernel_rfl) ?_
          repeat (go_big_quiet_step (first | (go_at_call 86; first | with_reducible exact HNP.out _ | with_reducible exact HNT.out _)))
          refine wpQuiet_nil ?_
          rintro _ ⟨X, rfl⟩
          go_wp2_with fail
          go_meet
          case rel => exact ⟨rfl, ⟨HW.out.1.trans (X.bel.mono HW.out.1.size), HW.out.2.grow X.bel⟩⟩
         | false =>
          refine wp_region_grow (by kernel_rfl) (by kernel_rfl) ?_
          repeat (go_big_quiet_step (first | (go_at_call 86; first | with_reducible exact HNP.out _ | with_reducible exact HNT.out _)))
          refine wpQuiet_nil ?_
          rintro _ ⟨X, rfl⟩
          go_wp2_with fail
          go_meet
          case rel => exact ⟨rfl, ⟨HW.out.1.trans (X.bel.mono HW.out.1.size), HW.out.2.grow X.bel⟩⟩
      | false =>
       refine wp_region_grow (by kernel_rfl) (by kernel_rfl) ?_
       repeat (go_big_quiet_step (first | (go_at_call 86; first | with_reducible exact HNP.out _ | with_reducible exact HNT.out _)))
       refine wpQuiet_nil ?_
       rintro _ ⟨X, rfl⟩
       go_wp2_with fail
       go_meet
       case rel => exact ⟨rfl, ⟨HW.out.1.trans (X.bel.mono HW.out.1.size), HW.out.2.grow X.bel⟩⟩
     | false =>
      refine wp_region_grow (by kernel_rfl) (by kernel_rfl) ?_
      repeat (go_big_quiet_step (first | (go_at_call 86; first | with_reducible exact HNP.out _ | with_reducible exact HNT.out _)))
      refine wpQuiet_nil ?_
      rintro _ ⟨X, rfl⟩
      go_wp2_with fail
      go_meet
      case rel => exact ⟨rfl, ⟨HW.out.1.trans (X.bel.mono HW.out.1.size), HW.out.2.grow X.bel⟩⟩
   case rest =>
    obtain ⟨rfl, hV⟩ := hcut
    clear g0 g1 g2 HNP HNT HNPC HNTC HW HST HSTT lw hpr' hk3' hk3n hte' hten
    generalize ((!np && !(st && pr)) || (k3 != nt) || (!k3 && !te)) = bd at *
    have c0 := (hV.out.2.2 0 _ rfl).1
    have c3 := (hV.out.2.2 3 _ rfl).1
    have c4 := (hV.out.2.2 4 _ rfl).1
    cases bd with
    | true =>
     have HF : Shut (R = false) := ⟨by rw [HR.out]; rfl⟩
     clear HR
     go_wp2_with fail
     go_ret
     exact ⟨by rw [HF.out]; rfl, hV.out.1⟩
    | false =>
     by_cases k5 : kind = 5
     ·have HRR : Shut (R = (inI num 1 3 && (who == 0))) := ⟨by rw [HR.out]; simp [k5]⟩
      subst k5
      clear HR
      go_wp2_with (go_at_call 61; refine (HIN.out _ _ _ _).mono ?_; rintro r w1 ⟨rfl, rfl⟩)
      all_goals
       go_ret
       exact ⟨by rw [HRR.out]; simp [*], hV.out.1⟩
     by_cases k6 : kind = 6
     ·have HRR : Shut (R = (inI num 0 1000 && (who == 0))) := ⟨by rw [HR.out]; simp [k6]⟩
      subst k6
      clear HR
      go_wp2_with (go_at_call 61; refine (HIN.out _ _ _ _).mono ?_; rintro r w1 ⟨rfl, rfl⟩)
      all_goals
       go_ret
       exact ⟨by rw [HRR.out]; simp [*], hV.out.1⟩
     by_cases k7 : kind = 7
     ·have HRR : Shut (R = (inI num 1 200 && (who == 0))) := ⟨by rw [HR.out]; simp [k7]⟩
      subst k7
      clear HR
      go_wp2_with (go_at_call 61; refine (HIN.out _ _ _ _).mono ?_; rintro r w1 ⟨rfl, rfl⟩)
      all_goals
       go_ret
       exact ⟨by rw [HRR.out]; simp [*], hV.out.1⟩
     by_cases k2 : kind = 2
     ·have HRR : Shut (R = ((num == 0) && inI who 1 9)) := ⟨by rw [HR.out]; simp [k2]⟩
      subst k2
      clear HR
      go_wp2_with (go_at_call 61; refine (HIN.out _ _ _ _).mono ?_; rintro r w1 ⟨rfl, rfl⟩)
      all_goals
       go_ret
       exact ⟨by rw [HRR.out]; simp [*], hV.out.1⟩
     by_cases k9 : kind = 9
     ·have HRR : Shut (R = ((num == 0) && inI who 1 9)) := ⟨by rw [HR.out]; simp [k9]⟩
      subst k9
      clear HR
      go_wp2_with (go_at_call 61; refine (HIN.out _ _ _ _).mono ?_; rintro r w1 ⟨rfl, rfl⟩)
      all_goals
       go_ret
       exact ⟨by rw [HRR.out]; simp [*], hV.out.1⟩
     have HRR : Shut (R = ((num == 0) && (who == 0))) := ⟨by rw [HR.out]; simp [k5, k6, k7, k2, k9]⟩
     clear HR
     have j5 : (kind == 5) = false := by simp [k5]
     have j6 : (kind == 6) = false := by simp [k6]
     have j7 : (kind == 7) = false := by simp [k7]
     have j2 : (kind == 2) = false := by simp [k2]
     have j9 : (kind == 9) = false := by simp [k9]
     clear k5 k6 k7 k2 k9
     go_wp2_with (go_at_call 61; refine (HIN.out _ _ _ _).mono ?_; rintro r w1 ⟨rfl, rfl⟩)
     all_goals
      go_ret
      exact ⟨by rw [HRR.out]; simp [*], hV.out.1⟩
end Go.Proofs.YtakhagkhngmpaaaGreat
/- GrwB: . -/
namespace Go.Proofs.YtakhagkhngmpaaaGreat
set_option maxRecDepth 100000
open Go.RowKit
theorem qA {α : Type} (l : List α) (i : Nat) (a : α) : l.toArray.setIfInBounds i a = (l.set i a).toArray := by simp
theorem qB {α : Type} (x : α) (l : List α) (a : α) : (x :: l).set 0 a = a :: l := rfl
theorem qC {α : Type} (x : α) (l : List α) (n : Nat) (a : α) : (x :: l).set (n + 1) a = x :: l.set n a := rfl
def Later (w w' : World) : Prop := Below w.heap.size w w'
theorem Later.refl (w : World) : Later w w := Below.refl _ _
theorem Later.trans {a b c : World} (h : Later a b) (g : Later b c) : Later a c := Below.trans h (Below.mono g (Below.size h))
section
variable {P : Program} {ops : Array Oper} {Q : Exit → Act → World → Prop} {md : Region.Mode}
def wpL (P : Program) (md : Region.Mode) (ops : Array Oper) (Q : Exit → Act → World → Prop) : Nat → Array Bool → Act → World → Prop
 | 0, l, a, w => Region.ready md ops l = [] ∧ ∀ x, Later w x → Q .normal a x
 | n + 1, l, a, w => ∀ x, Later w x → (Region.ready md ops l = [] → Q .normal a x) ∧
   ∀ i ∈ Region.ready md ops l, wpOp P ops Q i (fun a' y => Later x y ∧ wpL P md ops Q n (l.setIfInBounds i true) a' y) a x
theorem wpL_later : ∀ (n : Nat) (l : Array Bool) (a : Act) (w y : World), Later w y → wpL P md ops Q n l a w → wpL P md ops Q n l a y
 | 0, _, _, _, _, hy, h => ⟨h.1, fun x hx => h.2 x (hy.trans hx)⟩
 | _ + 1, _, _, _, _, hy, h => fun x hx => h x (hy.trans hx)
theorem wpAny_of_L : ∀ (n : Nat) (l : Array Bool) (a : Act) (w : World), wpL P md ops Q n l a w → wpAny P md ops Q n l a w
 | 0, _, _, w, h => ⟨h.1, h.2 w (Later.refl w)⟩
 | n + 1, _, _, w, h => ⟨(h w (Later.refl w)).1, fun i hi => wpOp_mono (fun a' y hh => wpAny_of_L n _ a' y hh.2) ((h w (Later.refl w)).2 i hi)⟩
def YL (P : Program) (ops : Array Oper) (o : Oper) (v : Value) (a : Act) (w : World) : Prop :=
 (Region.wanted o (yielded ops a.tmps) = true ∧ ∀ x, Later w x → o.quietAt P a (Later x) x v) ∨ (Region.wanted o (yielded ops a.tmps) = false ∧ v = undef)
theorem YL.later {o : Oper} {v : Value} {a : Act} {w y : World} (h : YL P ops o v a w) (hy : Later w y) : YL P ops o v a y :=
 h.imp (fun q => ⟨q.1, fun x hx => q.2 x (hy.trans hx)⟩) id
theorem YL.same {o : Oper} {v : Value} {a b : Act} {w : World} (h : YL P ops o v a w) (he : execOp b.eval o = execOp a.eval o) (hw : Region.wanted o (yielded ops b.tmps) = Region.wanted o (yielded ops a.tmps)) : YL P ops o v b w := by
 unfold YL Oper.quietAt at *
 rw [he, hw]
 exact h
theorem YL.op {i : Nat} {o : Oper} {v : Value} {a : Act} {w x : World} {K : Act → World → Prop} (hi : ops[i]? = some o) (h : YL P ops o v a w) (hx : Later w x) (hk : ∀ y, Later x y → K (a.put o.dst v) y) : wpOp P ops Q i K a x := by
 unfold wpOp
 rw [hi]
 dsimp only
 rcases h with ⟨hw, hq⟩ | ⟨hw, hv⟩
 ·rw [if_pos hw]
  refine Or.inl ?_
  have q := hq x hx
  unfold Oper.quietAt at q
  unfold Oper.wp
  revert q
  cases (execOp a.eval o).run P x with
  | halt _ _ => exact False.elim
  | ok r y =>
   cases r with
   | value u => rintro ⟨rfl, rfl⟩; exact hk _ (Later.refl _)
   | skip => rintro ⟨rfl, rfl⟩; exact hk _ (Later.refl _)
   | enter f args => rintro ⟨rfl, hc⟩; exact hc.mono (by rintro _ z ⟨rfl, hz⟩; exact hk _ hz)
   | _ => exact False.elim
 ·rw [if_neg (by rw [hw]; exact Bool.false_ne_true), ← hv]
  exact hk _ (Later.refl _)
def Fr (d : Option Tmp) (a b : Act) : Prop := ∃ u, b = a.put d u ∨ ∃ f, b = { a with defers := f :: a.defers }.put d u
theorem op_frame {j : Nat} {oj : Oper} {K : Act → World → Prop} {a : Act} {x : World} (hj : ops[j]? = some oj) (h : wpOp P ops Q j K a x) : wpOp P ops Q j (fun b y => Fr oj.dst a b ∧ K b y) a x := by
 unfold wpOp at h ⊢
 rw [hj] at h ⊢
 dsimp only at h ⊢
 split
 ·rename_i hw
  rw [if_pos hw] at h
  refine h.imp_left fun q => ?_
  unfold Oper.wp at q ⊢
  revert q
  cases (execOp a.eval oj).run P x with
  | halt r y => cases r <;> exact id
  | ok r y =>
   cases r with
   | value u => exact fun q => ⟨⟨u, .inl rfl⟩, q⟩
   | skip => exact fun q => ⟨⟨undef, .inl rfl⟩, q⟩
   | defer f => exact fun q => ⟨⟨undef, .inr ⟨f, rfl⟩⟩, q⟩
   | enter f args => exact fun q => Calls.mono q fun e z hz => by cases e <;> first | exact ⟨⟨_, .inl rfl⟩, hz⟩ | exact hz
   | row r args => exact fun q => Rows.mono q fun u z hz => ⟨⟨u, .inl rfl⟩, hz⟩
   | _ => exact id
 ·rename_i hw
  rw [if_neg hw] at h
  exact ⟨⟨undef, .inl rfl⟩, h⟩
theorem op_beside {j : Nat} {oi oj : Oper} {v : Value} {w : World} (hj : ops[j]? = some oj) (hap : oi.apart ops oj = true) (hsi : ∀ cs b, oi.op ≠ .select cs b) (hsj : ∀ cs b, oj.op ≠ .select cs b)
  (hQ : ∀ c a w, Q (.panic c) (a.put oi.dst v) w → Q (.panic c) a w) {K : Act → World → Prop} {a : Act} {x : World} (hy : YL P ops oi v a w) (h : wpOp P ops Q j K (a.put oi.dst v) x) :
  wpOp P ops Q j (fun a' y => YL P ops oi v a' w ∧ K (a'.put oi.dst v) y) a x := by
 have h3 := (Oper.apart_spec hap).2.2
 refine wpOp_mono ?_ (op_frame hj (wpOp_putIf (S := fun _ => False) hj hap hsi hsj hQ (hy.imp (fun q => ⟨q.1, fun _ hf => hf.elim⟩) id) h))
 rintro b y ⟨⟨u, rfl | ⟨f, rfl⟩⟩, -, hk⟩
 ·exact ⟨hy.same (execOp_put oi hsi a oj.dst u h3) (wanted_put oi a oj.dst u h3), hk⟩
 ·have q : YL P ops oi v { a with defers := f :: a.defers } w := hy.same rfl rfl
  exact ⟨q.same (execOp_put oi hsi _ oj.dst u h3) (wanted_put oi _ oj.dst u h3), hk⟩
theorem ready_free {l : Array Bool} {i j : Nat} {oj : Oper} (hi : i ∈ Region.ready md ops l) (hj : j ∈ Region.ready md ops l) (ho : ops[j]? = some oj) : ∀ e ∈ oj.after, Region.binds md e = true → e.on ≠ i := by
 obtain ⟨-, o', ho', hall⟩ := mem_ready.1 hj
 obtain rfl : oj = o' := Option.some.inj (ho.symm.trans ho')
 rintro e he hb rfl
 have q := hall e he hb
 have z := (mem_ready.1 hi).1
 grind
theorem wpL_first {i : Nat} {oi : Oper} {v : Value} (hi : ops[i]? = some oi) (hsel : ∀ (j : Nat) (o : Oper) cs b, ops[j]? = some o → o.op ≠ .select cs b) (hQ : ∀ c a w, Q (.panic c) (a.put oi.dst v) w → Q (.panic c) a w) :
  ∀ (n : Nat) (l : Array Bool) (a : Act) (w : World), (∀ j oj, ops[j]? = some oj → j ≠ i → l.getD j true = false → (∀ e ∈ oj.after, Region.binds md e = true → e.on ≠ i) → oi.apart ops oj = true) →
   i ∈ Region.ready md ops l → YL P ops oi v a w → wpL P md ops Q n (l.setIfInBounds i true) (a.put oi.dst v) w → wpL P md ops Q (n + 1) l a w := by
 intro n
 induction n with
 | zero =>
  intro l a w _ hr hy H x hx
  refine ⟨fun h => (by rw [h] at hr; cases hr), fun j hj => ?_⟩
  by_cases hji : j = i
  ·subst hji
   exact hy.op hi hx fun y hxy => ⟨hxy, wpL_later 0 _ _ _ _ (hx.trans hxy) H⟩
  ·have q := ready_mono hj hji
   rw [H.1] at q
   cases q
 | succ n ih =>
  intro l a w hfree hr hy H x hx
  refine ⟨fun h => (by rw [h] at hr; cases hr), fun j hj => ?_⟩
  by_cases hji : j = i
  ·subst hji
   exact hy.op hi hx fun y hxy => ⟨hxy, wpL_later (n + 1) _ _ _ _ (hx.trans hxy) H⟩
  ·obtain ⟨hun, oj, hoj, -⟩ := mem_ready.1 hj
   have q := op_beside hoj (hfree j oj hoj hji hun (ready_free hr hj hoj)) (fun cs b => hsel i oi cs b hi) (fun cs b => hsel j oj cs b hoj) hQ hy ((H x hx).2 j (ready_mono hj hji))
   refine wpOp_mono (fun b y hb => ⟨hb.2.1, ih (l.setIfInBounds j true) b y (fun k ok hk hki hku hno => hfree k ok hk hki ?_ hno) (ready_mono hr (Ne.symm hji)) (hb.1.later (hx.trans hb.2.1)) ?_⟩) q
   ·by_cases hjk : j = k
    ·subst hjk; exact hun
    ·rw [getD_set_ne true hjk] at hku; exact hku
   ·rw [Array.setIfInBounds_comm _ _ hji]
    exact hb.2.2
theorem at_drop {L r : List Oper} {i : Nat} {o : Oper} (h : L.drop i = o :: r) : L.toArray[i]? = some o := by
 have q : (L.drop i)[0]? = some o := by rw [h]; rfl
 simpa using q
theorem wpL_val {L r : List Oper} {i : Nat} {oi : Oper} {v : Value} {n : Nat} {l : Array Bool} {a : Act} {w : World} (hi : L.drop i = oi :: r) (hs : Region.noSelect L.toArray = true) (hf : Region.free md L.toArray l i = true) (hr : (Region.ready md L.toArray l).contains i = true)
  (hQ : ∀ c a w, Q (.panic c) (a.put oi.dst v) w → Q (.panic c) a w) (hw : Region.wanted oi (yielded L.toArray a.tmps) = true) (hy : ∀ x, Later w x → (execOp a.eval oi).run P x = .ok (.value v) x)
  (h : wpL P md L.toArray Q n (l.setIfInBounds i true) (a.put oi.dst v) w) : wpL P md L.toArray Q (n + 1) l a w :=
 wpL_first (at_drop hi) (Region.noSelect_spec hs) hQ n l a w (Region.free_spec (at_drop hi) hf) (by simpa using hr) (Or.inl ⟨hw, fun x hx => by unfold Oper.quietAt; rw [hy x hx]; exact ⟨rfl, rfl⟩⟩) h
theorem wpL_call {L r : List Oper} {i : Nat} {oi : Oper} {v : Value} {f : FuncId} {args : Array Value} {n : Nat} {l : Array Bool} {a : Act} {w : World} (hi : L.drop i = oi :: r) (hs : Region.noSelect L.toArray = true) (hf : Region.free md L.toArray l i = true) (hr : (Region.ready md L.toArray l).contains i = true)
  (hQ : ∀ c a w, Q (.panic c) (a.put oi.dst v) w → Q (.panic c) a w) (hw : Region.wanted oi (yielded L.toArray a.tmps) = true) (hy : ∀ x, Later w x → (execOp a.eval oi).run P x = .ok (.enter f args) x)
  (hc : ∀ x, Later w x → Calls P f args x fun e y => e = .returned v ∧ Below x.heap.size x y)
  (h : wpL P md L.toArray Q n (l.setIfInBounds i true) (a.put oi.dst v) w) : wpL P md L.toArray Q (n + 1) l a w :=
 wpL_first (at_drop hi) (Region.noSelect_spec hs) hQ n l a w (Region.free_spec (at_drop hi) hf) (by simpa using hr) (Or.inl ⟨hw, fun x hx => by unfold Oper.quietAt; rw [hy x hx]; exact ⟨rfl, hc x hx⟩⟩) h
theorem wpL_done {l : Array Bool} {a : Act} {w : World} (hr : Region.ready md ops l = []) (h : ∀ x, Later w x → Q .normal a x) : ∀ n, wpL P md ops Q n l a w
 | 0 => ⟨hr, h⟩
 | _ + 1 => fun x hx => ⟨fun _ => h x hx, by rw [hr]; simp⟩
theorem wp_region_later {id : Nat} {a : Act} {w : World} (hm : P.follows .mixedOrders = true) (h : wpL P .any ops Q ops.size (Array.replicate ops.size false) a w.drew) : (Code.region id ops true).wp P Q a w :=
 wp_region_any hm (wpAny_of_L _ _ _ _ h)
end
section
variable {P : Program} {Q : Exit → Act → World → Prop} {md : Region.Mode}
end
section
variable {P : Program} {Q : Exit → Act → World → Prop} {md : Region.Mode}
theorem wpL_skip {L r : List Oper} {i : Nat} {oi : Oper} {n : Nat} {l : Array Bool} {a : Act} {w : World} (hi : L.drop i = oi :: r) (hs : Region.noSelect L.toArray = true) (hf : Region.free md L.toArray l i = true) (hr : (Region.ready md L.toArray l).contains i = true)
  (hQ : ∀ c a w, Q (.panic c) (a.put oi.dst undef) w → Q (.panic c) a w) (hw : Region.wanted oi (yielded L.toArray a.tmps) = false)
  (h : wpL P md L.toArray Q n (l.setIfInBounds i true) (a.put oi.dst undef) w) : wpL P md L.toArray Q (n + 1) l a w :=
 wpL_first (at_drop hi) (Region.noSelect_spec hs) hQ n l a w (Region.free_spec (at_drop hi) hf) (by simpa using hr) (Or.inr ⟨hw, rfl⟩) h
end
end Go.Proofs.YtakhagkhngmpaaaGreat
/- EdD: . -/
namespace Go.Proofs.YtakhagkhngmpaaaGreat
set_option maxRecDepth 100000
open Go.RowKit
attribute [local go_sem ↓] Go.wp_at_zero Go.wp_at_succ
def vb (n : Nat) : ByteArray := ⟨(W.vt n).toArray⟩
theorem edit_nums {e : EM} (h : editOk e = true) : 1 ≤ e.kind ∧ e.kind ≤ 10 ∧ 0 ≤ e.who ∧ e.who ≤ 9 ∧ 0 ≤ e.num ∧ e.num ≤ 1000 := by
 unfold editOk at h
 rw [Bool.and_eq_true, inI_iff] at h
 obtain ⟨⟨h1, h2⟩, h3⟩ := h
 refine ⟨h1, h2, ?_⟩
 by_cases h10 : e.kind = 10
 ·rw [if_pos h10] at h3
  simp only [Bool.and_eq_true, beq_iff_eq] at h3
  omega
 ·rw [if_neg h10, Bool.and_eq_true] at h3
  have h4 := h3.2
  unfold numsOk at h4
  split at h4
  ·rw [Bool.and_eq_true, inI_iff, beq_iff_eq] at h4; omega
  ·split at h4
   ·rw [Bool.and_eq_true, inI_iff, beq_iff_eq] at h4; omega
   ·split at h4
    ·rw [Bool.and_eq_true, inI_iff, beq_iff_eq] at h4; omega
    ·split at h4
     ·rw [Bool.and_eq_true, inI_iff, beq_iff_eq] at h4; omega
     ·rw [Bool.and_eq_true, beq_iff_eq, beq_iff_eq] at h4; omega
theorem cell_ltE {w : World} {p : Addr} {v : Value} (h : w.cell? p = some v) : p.block < w.heap.size := by
 by_cases c : p.block < w.heap.size
 ·exact c
 ·exfalso
  unfold World.cell? at h
  rw [Array.getElem?_eq_none (by omega)] at h
  simp at h
def EC (w0 : World) (b : Nat) (e : EM) (w : World) : Prop := w.cell? ⟨b, 0, none⟩ = some (.int .i64 e.kind) ∧ w.cell? ⟨b, 1, none⟩ = some (.string e.path) ∧ w.cell? ⟨b, 2, none⟩ = some (.string e.dest) ∧ w.cell? ⟨b, 3, none⟩ = some (.int .i64 e.num) ∧ w.cell? ⟨b, 4, none⟩ = some (.int .i64 e.who) ∧ Shut (Below w0.heap.size w0 w)
theorem EC.below {w0 : World} {b : Nat} {e : EM} {w w' : World} (h : EC w0 b e w) (hb : Below w.heap.size w w') : EC w0 b e w' :=
 ⟨(hb.cell (p := ⟨b, 0, none⟩) (cell_ltE h.1)).trans h.1, (hb.cell (p := ⟨b, 1, none⟩) (cell_ltE h.2.1)).trans h.2.1, (hb.cell (p := ⟨b, 2, none⟩) (cell_ltE h.2.2.1)).trans h.2.2.1, (hb.cell (p := ⟨b, 3, none⟩) (cell_ltE h.2.2.2.1)).trans h.2.2.2.1, (hb.cell (p := ⟨b, 4, none⟩) (cell_ltE h.2.2.2.2.1)).trans h.2.2.2.2.1, ⟨h.2.2.2.2.2.out.trans (hb.mono h.2.2.2.2.2.out.size)⟩⟩
theorem EC.alloc {w0 : World} {b : Nat} {e : EM} {w : World} (h : EC w0 b e w) (o : Obj) : EC w0 b e (w.alloc o) := h.below ((Below.refl _ _).alloc (Nat.le_refl _) o)
theorem EC.drew {w0 : World} {b : Nat} {e : EM} {w : World} (h : EC w0 b e w) : EC w0 b e w.drew := h.below (Below.drew (Below.refl _ _))
theorem Cur.other {w : World} {g B len cap : Nat} {a : Option Addr} (h : Cur w g B a len cap) (p : Addr) (v : Value) (hp : p.block ≠ g) (hB : B ≤ p.block) : Cur (w.setCell p v) g B a len cap := by
 obtain ⟨h1, h2, h3, h4, ⟨i, h5, h5'⟩, ⟨k, h6⟩, h7⟩ := h
 have hblk : ∀ q, q ≠ p.block → (w.setCell p v).heap[q]? = w.heap[q]? := fun q hq => Below.heap_setCell _ _ _ _ hq
 have hb : Below 0 w (w.setCell p v) := (Below.refl _ _).setCell (Nat.zero_le _) v
 refine ⟨h1, Nat.lt_of_lt_of_le h2 hb.size, ⟨h3.1, fun hp' => ?_⟩, (World.cell?_of_block (a := ⟨g, 0, none⟩) (hblk g (Ne.symm hp))).trans h4, ⟨i, (World.cell?_of_block (a := ⟨g, 1, none⟩) (hblk g (Ne.symm hp))).trans h5, h5'⟩, ⟨k, (World.cell?_of_block (a := ⟨g, 2, none⟩) (hblk g (Ne.symm hp))).trans h6⟩, fun j hj => (World.frozen?_of_block (a := ⟨g, j, none⟩) (hblk g (Ne.symm hp))).trans (h7 j hj)⟩
 obtain ⟨b, off, e, hbB, hx⟩ := h3.2 hp'
 exact ⟨b, off, e, hbB, fun j hj => (hx j hj).imp fun x hx => ⟨(World.cell?_of_block (a := ⟨b, off + j, none⟩) (hblk b (by omega))).trans hx.1, hx.2⟩⟩
theorem new_ints (w : World) (t : TypeId) (L : List Int) (j : Nat) (hj : j < L.length) :
  ∃ y : Int, (w.alloc (.cells (L.map (Value.int .i64 ·)).toArray t)).cell? ⟨w.heap.size, j, none⟩ = some (.int .i64 y) := by
 rw [World.cell?_alloc_mark]
 exact ⟨L[j], by simp [hj]⟩
def EPl (e : EM) : Prop := (e.path.size ≤ 16 ∧ noZ e.path = true) ∧ (e.dest.size ≤ 16 ∧ noZ e.dest = true)
theorem EPl.fit {e : EM} (h : EPl e) : EFit e := ⟨Nat.le_trans h.1.1 (by omega), Nat.le_trans h.2.1 (by omega)⟩
structure DE (w0 w : World) (g B : Nat) (a : Option Addr) (len cap A E : Nat) (X : EM) : Prop where
 cur : Cur w g B a len cap
 ans : WCells w A (ecells zeroE)
 box : WCells w E (ecells X)
 gr : w0.grownBy w (some g)
 ne : A ≠ E
 hA : w0.heap.size ≤ A
 hE : w0.heap.size ≤ E
 hg : g < w0.heap.size
 pl : EPl X
theorem DE.turn {w0 w w' : World} {g B len cap A E : Nat} {a : Option Addr} {X : EM} (h : DE w0 w g B a len cap A E X) (hc : Cur w' g B a len cap) (hg : w.grownBy w' (some g)) : DE w0 w' g B a len cap A E X :=
 ⟨hc, h.ans.apart hg (by have := h.hA; have := h.hg; omega), h.box.apart hg (by have := h.hE; have := h.hg; omega), gb_two h.gr hg, h.ne, h.hA, h.hE, h.hg, h.pl⟩
theorem gb_fresh {w0 w : World} {g : Nat} (h : w0.grownBy w (some g)) (p : Addr) (v : Value) (hp : w0.heap.size ≤ p.block) : w0.grownBy (w.setCell p v) (some g) := by
 have hb : Below 0 w (w.setCell p v) := (Below.refl _ _).setCell (Nat.zero_le _) v
 exact ⟨hb.os.trans h.os, hb.tape.trans h.tape, hb.output.trans h.output, Nat.le_trans h.size hb.size, fun k hk hn => (Below.heap_setCell _ _ _ _ (by omega)).trans (h.block k hk hn)⟩
theorem DE.set {w0 w : World} {g B len cap A E : Nat} {a : Option Addr} {X : EM} (h : DE w0 w g B a len cap A E X) (i : Nat) (v : Value) (Y : EM) (hi : i < 5) (hz : (ecells X).set i v = ecells Y) (hp : EPl Y) : DE w0 (w.setCell ⟨E, i, none⟩ v) g B a len cap A E Y :=
 ⟨h.cur.other _ _ (by have := h.hE; have := h.hg; show E ≠ g; omega) (by have := h.hE; have := h.hg; have := h.cur.1; show B ≤ E; omega), h.ans.other _ _ h.ne, by rw [← hz]; exact h.box.set i v (by rw [ecells_len]; exact hi), gb_fresh h.gr _ _ h.hE, h.ne, h.hA, h.hE, h.hg, hp⟩
theorem DE.got {w0 w : World} {g B len cap A E : Nat} {a : Option Addr} {X : EM} (h : DE w0 w g B a len cap A E X) : w.cell? ⟨E, 0, none⟩ = some (.int .i64 X.kind) ∧ w.cell? ⟨E, 1, none⟩ = some (.string X.path) ∧ w.cell? ⟨E, 2, none⟩ = some (.string X.dest) ∧ w.cell? ⟨E, 3, none⟩ = some (.int .i64 X.num) ∧ w.cell? ⟨E, 4, none⟩ = some (.int .i64 X.who) :=
 ⟨(h.box.2 0 _ rfl).1, (h.box.2 1 _ rfl).1, (h.box.2 2 _ rfl).1, (h.box.2 3 _ rfl).1, (h.box.2 4 _ rfl).1⟩
theorem DE.may {w0 w : World} {g B len cap A E : Nat} {a : Option Addr} {X : EM} (h : DE w0 w g B a len cap A E X) : w.frozen? ⟨E, 0, none⟩ = false ∧ w.frozen? ⟨E, 1, none⟩ = false ∧ w.frozen? ⟨E, 2, none⟩ = false ∧ w.frozen? ⟨E, 3, none⟩ = false ∧ w.frozen? ⟨E, 4, none⟩ = false :=
 ⟨(h.box.2 0 _ rfl).2, (h.box.2 1 _ rfl).2, (h.box.2 2 _ rfl).2, (h.box.2 3 _ rfl).2, (h.box.2 4 _ rfl).2⟩
theorem DE.room {w0 w : World} {g B len cap A E : Nat} {a : Option Addr} {X : EM} (h : DE w0 w g B a len cap A E X) : (w.cell? ⟨A, 0, none⟩ = some (.int .i64 0) ∧ w.frozen? ⟨A, 0, none⟩ = false) ∧ (w.cell? ⟨A, 1, none⟩ = some (.string ⟨#[]⟩) ∧ w.frozen? ⟨A, 1, none⟩ = false) ∧ (w.cell? ⟨A, 2, none⟩ = some (.string ⟨#[]⟩) ∧ w.frozen? ⟨A, 2, none⟩ = false) ∧ (w.cell? ⟨A, 3, none⟩ = some (.int .i64 0) ∧ w.frozen? ⟨A, 3, none⟩ = false) ∧ (w.cell? ⟨A, 4, none⟩ = some (.int .i64 0) ∧ w.frozen? ⟨A, 4, none⟩ = false) :=
 ⟨h.ans.2 0 _ rfl, h.ans.2 1 _ rfl, h.ans.2 2 _ rfl, h.ans.2 3 _ rfl, h.ans.2 4 _ rfl⟩
def EdDrawn (w : World) (g B : Nat) (a : Option Addr) (len cap : Nat) (e : Ending) (w' : World) : Prop :=
 ∃ X : EM, e = .returned (ev X) ∧ EPl X ∧ Cur w' g B a len cap ∧ w.grownBy w' (some g)
theorem DE.done {w0 w : World} {g B len cap A E : Nat} {a : Option Addr} {X : EM} (h : DE w0 w g B a len cap A E X) : EPl X ∧ WCells (put5 w A X) A (ecells X) ∧ Cur (put5 w A X) g B a len cap ∧ w0.grownBy (put5 w A X) (some g) := by
 have hAg : A ≠ g := by have := h.hA; have := h.hg; omega
 have hBA : B ≤ A := by have := h.hA; have := h.hg; have := h.cur.1; omega
 refine ⟨h.pl, ?_, ?_, ?_⟩
 ·exact ((((h.ans.set 0 (.int .i64 X.kind) (by simp [ecells])).set 1 (.string X.path) (by simp [ecells])).set 2 (.string X.dest) (by simp [ecells])).set 3 (.int .i64 X.num) (by simp [ecells])).set 4 (.int .i64 X.who) (by simp [ecells])
 ·exact ((((h.cur.other ⟨A, 0, none⟩ _ hAg hBA).other ⟨A, 1, none⟩ _ hAg hBA).other ⟨A, 2, none⟩ _ hAg hBA).other ⟨A, 3, none⟩ _ hAg hBA).other ⟨A, 4, none⟩ _ hAg hBA
 ·exact gb_fresh (gb_fresh (gb_fresh (gb_fresh (gb_fresh h.gr ⟨A, 0, none⟩ _ h.hA) ⟨A, 1, none⟩ _ h.hA) ⟨A, 2, none⟩ _ h.hA) ⟨A, 3, none⟩ _ h.hA) ⟨A, 4, none⟩ _ h.hA
theorem epl_ {k n o : Int} {p t : ByteArray} (h1 : p.size ≤ 16 ∧ noZ p = true) (h2 : t.size ≤ 16 ∧ noZ t = true) : EPl ⟨k, p, t, n, o⟩ := ⟨h1, h2⟩
theorem pl_none : (⟨#[]⟩ : ByteArray).size ≤ 16 ∧ noZ ⟨#[]⟩ = true := ⟨by decide, rfl⟩
theorem pl_root : (⟨#[47]⟩ : ByteArray).size ≤ 16 ∧ noZ ⟨#[47]⟩ = true := ⟨by decide, rfl⟩
theorem de_new {w0 w : World} {g B len cap A : Nat} {a : Option Addr} (X : EM) (T : TypeId) (hc : Cur w g B a len cap) (hA : WCells w A (ecells zeroE)) (hg : w0.grownBy w (some g)) (h1 : w0.heap.size ≤ A) (h2 : g < w0.heap.size) (hp : EPl X) :
  DE w0 (w.alloc (.cells #[.int .i64 X.kind, .string X.path, .string X.dest, .int .i64 X.num, .int .i64 X.who] T)) g B a len cap A w.heap.size X :=
 ⟨hc.below ((Below.refl _ _).alloc (Nat.le_refl _) _), hA.alloc _, wcells_new w #[.int .i64 X.kind, .string X.path, .string X.dest, .int .i64 X.num, .int .i64 X.who] T, gb_two hg (gb_below ((Below.refl _ _).alloc (Nat.le_refl _) _)), by have := hA.1; omega, h1, hg.size, h2, hp⟩
set_option maxHeartbeats 4000000 in
theorem l11Edit_any (w : World) (g B : Nat) (a : Option Addr) (len cap : Nat) (hc : Cur w g B a len cap) :
  Calls Tryz.prog 54 #[.pointer (some ⟨g, 0, none⟩)] w fun e w' => EdDrawn w g B a len cap e w' := by
 have HC := Shut.mk hc
 have hgw := Shut.mk hc.2.1
 have HA0 : Shut (WCells (w.alloc (.cells #[.int .i64 0, .string ⟨#[]⟩, .string ⟨#[]⟩, .int .i64 0, .int .i64 0] 28)) w.heap.size (ecells zeroE)) := ⟨wcells_new w #[.int .i64 0, .string ⟨#[]⟩, .string ⟨#[]⟩, .int .i64 0, .int .i64 0] 28⟩
 clear hc
 go_enter Tryz.func54, Tryz.ntmps54
 go_upto_region 1 with fail
 obtain ⟨w0, hw0⟩ : ∃ w0, w0 = w.alloc (.cells #[.int .i64 0, .string ⟨#[]⟩, .string ⟨#[]⟩, .int .i64 0, .int .i64 0] 28) := ⟨_, rfl⟩
 have HB0 : Shut (Below w.heap.size w w0) := ⟨by rw [hw0]; exact (Below.refl _ _).alloc (Nat.le_refl _) _⟩
 rw [← hw0] at HA0 ⊢
 clear hw0
 have HC0 := Shut.mk (HC.out.below HB0.out)
 have hlit : (#[.int .i64 1, .int .i64 1, .int .i64 1, .int .i64 2, .int .i64 2, .int .i64 2, .int .i64 3, .int .i64 4, .int .i64 5, .int .i64 6, .int .i64 7, .int .i64 7, .int .i64 7, .int .i64 8, .int .i64 9, .int .i64 10] : Array Value) = (List.map (Value.int .i64 ·) [1, 1, 1, 2, 2, 2, 3, 4, 5, 6, 7, 7, 7, 8, 9, 10]).toArray := rfl
 have HL := Shut.mk (new_ints w0 3 [1, 1, 1, 2, 2, 2, 3, 4, 5, 6, 7, 7, 7, 8, 9, 10])
 rw [← hlit] at HL
 clear hlit
 go_upto_region 2 with (first
  | (go_at_call 101; refine (l01PickInt_any _ g B a len cap w0.heap.size 16 (by decide) (by decide) (by have := HC0.out.2.1; omega) HL.out (HC0.out.below ((Below.refl _ _).alloc (Nat.le_refl _) _))).mono ?_; rintro e w1 ⟨kind, rfl, hc1, hg1⟩; have HC1 := Shut.mk hc1; have HG1 := Shut.mk (gb_two (gb_below (HB0.out.alloc HB0.out.size _)) hg1); have HA1 := Shut.mk ((HA0.out.alloc _).apart hg1 (by have := hgw.out; omega)); clear hc1 hg1)
  | (go_at_call 102; refine (l09Path_any _ g B a len cap HC1.out).mono ?_; rintro e w2 ⟨path, rfl, hp, hc2, hg2⟩; have HP := Shut.mk hp; have HC2 := Shut.mk hc2; have HG2 := Shut.mk (gb_two HG1.out hg2); have HA2 := Shut.mk (HA1.out.apart hg2 (by have := hgw.out; omega)); clear hp hc2 hg2))
 have H9 := Shut.mk (de_new ⟨kind, path, ⟨#[]⟩, 0, 0⟩ 28 HC2.out HA2.out HG2.out (Nat.le_refl _) hgw.out (epl_ HP.out pl_none))
 dsimp only at H9
 generalize w2.alloc (.cells #[.int .i64 kind, .string path, .string ⟨#[]⟩, .int .i64 0, .int .i64 0] 28) = W at H9 ⊢
 generalize w2.heap.size = E at H9 ⊢
 have hne1 : ¬ (w.heap.size = E) := H9.out.ne
 have hne2 : ¬ (E = w.heap.size) := fun h => H9.out.ne h.symm
 clear HC2 HA2 HG2 HC1 HA1 HG1 HC0 HA0 HB0 HL HC hgw
 obtain ⟨c0, c1, c2, c3, c4⟩ := H9.out.got
 obtain ⟨f0, f1, f2, f3, f4⟩ := H9.out.may
 dsimp only at c0 c1 c2 c3 c4
 by_cases q2 : kind = 2
 ·have bt2 : (kind == 2) = true := by simp; omega
  have b5 : (kind == 5) = false := by simp; omega
  have b6 : (kind == 6) = false := by simp; omega
  clear q2
  go_upto_region 16 with (go_at_call 56; refine (l01Below_any W g B a len cap 3 (by omega) H9.out.cur).mono ?_; rintro e w4 ⟨x, rfl, x0, x1, hc4, hg4⟩; have x2 : x ≤ 3 := (by omega); replace H9 := Shut.mk (H9.out.turn hc4 hg4); clear hc4 hg4 c0 c1 c2 c3 c4 f0 f1 f2 f3 f4; obtain ⟨c0, c1, c2, c3, c4⟩ := H9.out.got; obtain ⟨f0, f1, f2, f3, f4⟩ := H9.out.may; dsimp only at c0 c1 c2 c3 c4)
  obtain ⟨W4, hW4⟩ : ∃ W4, W4 = World.setCell w4 ⟨E, 4, none⟩ (.int .i64 (1 + x)) := ⟨_, rfl⟩
  rw [← hW4]
  replace H9 : Shut (DE w W4 g B a len cap w.heap.size E ⟨kind, path, ⟨#[]⟩, 0, 1 + x⟩) := ⟨by rw [hW4]; exact H9.out.set 4 _ _ (by omega) rfl (epl_ HP.out pl_none)⟩
  clear hW4 c0 c1 c2 c3 c4 f0 f1 f2 f3 f4
  obtain ⟨c0, c1, c2, c3, c4⟩ := H9.out.got
  obtain ⟨f0, f1, f2, f3, f4⟩ := H9.out.may
  obtain ⟨⟨r0, s0⟩, ⟨r1, s1⟩, ⟨r2, s2⟩, ⟨r3, s3⟩, ⟨r4, s4⟩⟩ := H9.out.room
  dsimp only at c0 c1 c2 c3 c4
  go_wp2_with fail
  have HD := Shut.mk (H9.out.done)
  change bodyPost _ _ _ _ _ (put5 W4 w.heap.size ⟨kind, path, ⟨#[]⟩, 0, 1 + x⟩)
  generalize put5 W4 w.heap.size ⟨kind, path, ⟨#[]⟩, 0, 1 + x⟩ = w8 at HD ⊢
  obtain ⟨k0, -⟩ := HD.out.2.1.2 0 _ rfl
  obtain ⟨k1, -⟩ := HD.out.2.1.2 1 _ rfl
  obtain ⟨k2, -⟩ := HD.out.2.1.2 2 _ rfl
  obtain ⟨k3, -⟩ := HD.out.2.1.2 3 _ rfl
  obtain ⟨k4, -⟩ := HD.out.2.1.2 4 _ rfl
  dsimp only at k0 k1 k2 k3 k4
  refine bodyPost_ret (v := ev ⟨kind, path, ⟨#[]⟩, 0, 1 + x⟩) (by simp [results, Tryz.results54, go_sem, k0, k1, k2, k3, k4]) rfl ⟨_, rfl, HD.out.1, HD.out.2.2.1, HD.out.2.2.2⟩
 have b2 : (kind == 2) = false := by simp; omega
 by_cases q9 : kind = 9
 ·have bt9 : (kind == 9) = true := by simp; omega
  have b5 : (kind == 5) = false := by simp; omega
  have b6 : (kind == 6) = false := by simp; omega
  clear q9
  go_upto_region 16 with (go_at_call 56; refine (l01Below_any W g B a len cap 3 (by omega) H9.out.cur).mono ?_; rintro e w4 ⟨x, rfl, x0, x1, hc4, hg4⟩; have x2 : x ≤ 3 := (by omega); replace H9 := Shut.mk (H9.out.turn hc4 hg4); clear hc4 hg4 c0 c1 c2 c3 c4 f0 f1 f2 f3 f4; obtain ⟨c0, c1, c2, c3, c4⟩ := H9.out.got; obtain ⟨f0, f1, f2, f3, f4⟩ := H9.out.may; dsimp only at c0 c1 c2 c3 c4)
  obtain ⟨W4, hW4⟩ : ∃ W4, W4 = World.setCell w4 ⟨E, 4, none⟩ (.int .i64 (1 + x)) := ⟨_, rfl⟩
  rw [← hW4]
  replace H9 : Shut (DE w W4 g B a len cap w.heap.size E ⟨kind, path, ⟨#[]⟩, 0, 1 + x⟩) := ⟨by rw [hW4]; exact H9.out.set 4 _ _ (by omega) rfl (epl_ HP.out pl_none)⟩
  clear hW4 c0 c1 c2 c3 c4 f0 f1 f2 f3 f4
  obtain ⟨c0, c1, c2, c3, c4⟩ := H9.out.got
  obtain ⟨f0, f1, f2, f3, f4⟩ := H9.out.may
  obtain ⟨⟨r0, s0⟩, ⟨r1, s1⟩, ⟨r2, s2⟩, ⟨r3, s3⟩, ⟨r4, s4⟩⟩ := H9.out.room
  dsimp only at c0 c1 c2 c3 c4
  go_wp2_with fail
  have HD := Shut.mk (H9.out.done)
  change bodyPost _ _ _ _ _ (put5 W4 w.heap.size ⟨kind, path, ⟨#[]⟩, 0, 1 + x⟩)
  generalize put5 W4 w.heap.size ⟨kind, path, ⟨#[]⟩, 0, 1 + x⟩ = w8 at HD ⊢
  obtain ⟨k0, -⟩ := HD.out.2.1.2 0 _ rfl
  obtain ⟨k1, -⟩ := HD.out.2.1.2 1 _ rfl
  obtain ⟨k2, -⟩ := HD.out.2.1.2 2 _ rfl
  obtain ⟨k3, -⟩ := HD.out.2.1.2 3 _ rfl
  obtain ⟨k4, -⟩ := HD.out.2.1.2 4 _ rfl
  dsimp only at k0 k1 k2 k3 k4
  refine bodyPost_ret (v := ev ⟨kind, path, ⟨#[]⟩, 0, 1 + x⟩) (by simp [results, Tryz.results54, go_sem, k0, k1, k2, k3, k4]) rfl ⟨_, rfl, HD.out.1, HD.out.2.2.1, HD.out.2.2.2⟩
 have b9 : (kind == 9) = false := by simp; omega
 by_cases q3 : kind = 3
 ·have bt3 : (kind == 3) = true := by simp; omega
  have b5 : (kind == 5) = false := by simp; omega
  have b6 : (kind == 6) = false := by simp; omega
  clear q3
  go_upto_region 16 with (go_at_call 102; refine (l09Path_any W g B a len cap H9.out.cur).mono ?_; rintro e w4 ⟨t, rfl, ht, hc4, hg4⟩; have HT := Shut.mk ht; replace H9 := Shut.mk (H9.out.turn hc4 hg4); clear ht hc4 hg4 c0 c1 c2 c3 c4 f0 f1 f2 f3 f4; obtain ⟨c0, c1, c2, c3, c4⟩ := H9.out.got; obtain ⟨f0, f1, f2, f3, f4⟩ := H9.out.may; dsimp only at c0 c1 c2 c3 c4)
  obtain ⟨W4, hW4⟩ : ∃ W4, W4 = World.setCell w4 ⟨E, 2, none⟩ (.string t) := ⟨_, rfl⟩
  rw [← hW4]
  replace H9 : Shut (DE w W4 g B a len cap w.heap.size E ⟨kind, path, t, 0, 0⟩) := ⟨by rw [hW4]; exact H9.out.set 2 _ _ (by omega) rfl (epl_ HP.out HT.out)⟩
  clear hW4 c0 c1 c2 c3 c4 f0 f1 f2 f3 f4
  obtain ⟨c0, c1, c2, c3, c4⟩ := H9.out.got
  obtain ⟨f0, f1, f2, f3, f4⟩ := H9.out.may
  obtain ⟨⟨r0, s0⟩, ⟨r1, s1⟩, ⟨r2, s2⟩, ⟨r3, s3⟩, ⟨r4, s4⟩⟩ := H9.out.room
  dsimp only at c0 c1 c2 c3 c4
  go_wp2_with fail
  have HD := Shut.mk (H9.out.done)
  change bodyPost _ _ _ _ _ (put5 W4 w.heap.size ⟨kind, path, t, 0, 0⟩)
  generalize put5 W4 w.heap.size ⟨kind, path, t, 0, 0⟩ = w8 at HD ⊢
  obtain ⟨k0, -⟩ := HD.out.2.1.2 0 _ rfl
  obtain ⟨k1, -⟩ := HD.out.2.1.2 1 _ rfl
  obtain ⟨k2, -⟩ := HD.out.2.1.2 2 _ rfl
  obtain ⟨k3, -⟩ := HD.out.2.1.2 3 _ rfl
  obtain ⟨k4, -⟩ := HD.out.2.1.2 4 _ rfl
  dsimp only at k0 k1 k2 k3 k4
  refine bodyPost_ret (v := ev ⟨kind, path, t, 0, 0⟩) (by simp [results, Tryz.results54, go_sem, k0, k1, k2, k3, k4]) rfl ⟨_, rfl, HD.out.1, HD.out.2.2.1, HD.out.2.2.2⟩
 have b3 : (kind == 3) = false := by simp; omega
 by_cases q5 : kind = 5
 ·have bt5 : (kind == 5) = true := by simp; omega
  have b6 : (kind == 6) = false := by simp; omega
  clear q5
  go_upto_region 16 with (go_at_call 56; refine (l01Below_any W g B a len cap 3 (by omega) H9.out.cur).mono ?_; rintro e w4 ⟨x, rfl, x0, x1, hc4, hg4⟩; have x2 : x ≤ 3 := (by omega); replace H9 := Shut.mk (H9.out.turn hc4 hg4); clear hc4 hg4 c0 c1 c2 c3 c4 f0 f1 f2 f3 f4; obtain ⟨c0, c1, c2, c3, c4⟩ := H9.out.got; obtain ⟨f0, f1, f2, f3, f4⟩ := H9.out.may; dsimp only at c0 c1 c2 c3 c4)
  obtain ⟨W4, hW4⟩ : ∃ W4, W4 = World.setCell w4 ⟨E, 3, none⟩ (.int .i64 (1 + x)) := ⟨_, rfl⟩
  rw [← hW4]
  replace H9 : Shut (DE w W4 g B a len cap w.heap.size E ⟨kind, path, ⟨#[]⟩, 1 + x, 0⟩) := ⟨by rw [hW4]; exact H9.out.set 3 _ _ (by omega) rfl (epl_ HP.out pl_none)⟩
  clear hW4 c0 c1 c2 c3 c4 f0 f1 f2 f3 f4
  obtain ⟨c0, c1, c2, c3, c4⟩ := H9.out.got
  obtain ⟨f0, f1, f2, f3, f4⟩ := H9.out.may
  obtain ⟨⟨r0, s0⟩, ⟨r1, s1⟩, ⟨r2, s2⟩, ⟨r3, s3⟩, ⟨r4, s4⟩⟩ := H9.out.room
  dsimp only at c0 c1 c2 c3 c4
  have HO := Shut.mk (l01Once_any W4 g B a len cap 3 (by omega) H9.out.cur)
  go_wp2_with (go_at_call 55; refine HO.out.mono ?_; rintro e w6 ⟨bb, rfl, hc6, hg6⟩; replace H9 := Shut.mk (H9.out.turn hc6 hg6); clear c0 c1 c2 c3 c4 f0 f1 f2 f3 f4 r0 r1 r2 r3 r4 s0 s1 s2 s3 s4 hc6 hg6; obtain ⟨c0, c1, c2, c3, c4⟩ := H9.out.got; obtain ⟨f0, f1, f2, f3, f4⟩ := H9.out.may; obtain ⟨⟨r0, s0⟩, ⟨r1, s1⟩, ⟨r2, s2⟩, ⟨r3, s3⟩, ⟨r4, s4⟩⟩ := H9.out.room; dsimp only at c0 c1 c2 c3 c4; cases bb)
  ·have HD := Shut.mk (H9.out.done)
   change bodyPost _ _ _ _ _ (put5 w6 w.heap.size ⟨kind, path, ⟨#[]⟩, 1 + x, 0⟩)
   generalize put5 w6 w.heap.size ⟨kind, path, ⟨#[]⟩, 1 + x, 0⟩ = w8 at HD ⊢
   obtain ⟨k0, -⟩ := HD.out.2.1.2 0 _ rfl
   obtain ⟨k1, -⟩ := HD.out.2.1.2 1 _ rfl
   obtain ⟨k2, -⟩ := HD.out.2.1.2 2 _ rfl
   obtain ⟨k3, -⟩ := HD.out.2.1.2 3 _ rfl
   obtain ⟨k4, -⟩ := HD.out.2.1.2 4 _ rfl
   dsimp only at k0 k1 k2 k3 k4
   refine bodyPost_ret (v := ev ⟨kind, path, ⟨#[]⟩, 1 + x, 0⟩) (by simp [results, Tryz.results54, go_sem, k0, k1, k2, k3, k4]) rfl ⟨_, rfl, HD.out.1, HD.out.2.2.1, HD.out.2.2.2⟩
  ·replace H9 := Shut.mk (H9.out.set 1 (.string ⟨#[47]⟩) ⟨kind, ⟨#[47]⟩, ⟨#[]⟩, 1 + x, 0⟩ (by omega) rfl (epl_ pl_root pl_none))
   have HD := Shut.mk (H9.out.done)
   change bodyPost _ _ _ _ _ (put5 (w6.setCell ⟨E, 1, none⟩ (.string ⟨#[47]⟩)) w.heap.size ⟨kind, ⟨#[47]⟩, ⟨#[]⟩, 1 + x, 0⟩)
   generalize put5 (w6.setCell ⟨E, 1, none⟩ (.string ⟨#[47]⟩)) w.heap.size ⟨kind, ⟨#[47]⟩, ⟨#[]⟩, 1 + x, 0⟩ = w8 at HD ⊢
   obtain ⟨k0, -⟩ := HD.out.2.1.2 0 _ rfl
   obtain ⟨k1, -⟩ := HD.out.2.1.2 1 _ rfl
   obtain ⟨k2, -⟩ := HD.out.2.1.2 2 _ rfl
   obtain ⟨k3, -⟩ := HD.out.2.1.2 3 _ rfl
   obtain ⟨k4, -⟩ := HD.out.2.1.2 4 _ rfl
   dsimp only at k0 k1 k2 k3 k4
   refine bodyPost_ret (v := ev ⟨kind, ⟨#[47]⟩, ⟨#[]⟩, 1 + x, 0⟩) (by simp [results, Tryz.results54, go_sem, k0, k1, k2, k3, k4]) rfl ⟨_, rfl, HD.out.1, HD.out.2.2.1, HD.out.2.2.2⟩
 have b5 : (kind == 5) = false := by simp; omega
 by_cases q6 : kind = 6
 ·have bt6 : (kind == 6) = true := by simp; omega
  have hlit : (#[.int .i64 0, .int .i64 20, .int .i64 60, .int .i64 1000] : Array Value) = (List.map (Value.int .i64 ·) [0, 20, 60, 1000]).toArray := rfl
  have HL := Shut.mk (new_ints W 3 [0, 20, 60, 1000])
  rw [← hlit] at HL
  clear hlit
  clear q6
  go_upto_region 16 with (go_at_call 101; refine (l01PickInt_any _ g B a len cap W.heap.size 4 (by decide) (by decide) (by have := H9.out.cur.2.1; omega) HL.out (H9.out.cur.below ((Below.refl _ _).alloc (Nat.le_refl _) _))).mono ?_; rintro e w4 ⟨x, rfl, hc4, hg4⟩; replace H9 := Shut.mk (H9.out.turn hc4 (gb_two (gb_below ((Below.refl _ _).alloc (Nat.le_refl _) _)) hg4)); clear hc4 hg4 c0 c1 c2 c3 c4 f0 f1 f2 f3 f4; obtain ⟨c0, c1, c2, c3, c4⟩ := H9.out.got; obtain ⟨f0, f1, f2, f3, f4⟩ := H9.out.may; dsimp only at c0 c1 c2 c3 c4)
  obtain ⟨W4, hW4⟩ : ∃ W4, W4 = World.setCell w4 ⟨E, 3, none⟩ (.int .i64 x) := ⟨_, rfl⟩
  rw [← hW4]
  replace H9 : Shut (DE w W4 g B a len cap w.heap.size E ⟨kind, path, ⟨#[]⟩, x, 0⟩) := ⟨by rw [hW4]; exact H9.out.set 3 _ _ (by omega) rfl (epl_ HP.out pl_none)⟩
  clear hW4 c0 c1 c2 c3 c4 f0 f1 f2 f3 f4
  obtain ⟨c0, c1, c2, c3, c4⟩ := H9.out.got
  obtain ⟨f0, f1, f2, f3, f4⟩ := H9.out.may
  obtain ⟨⟨r0, s0⟩, ⟨r1, s1⟩, ⟨r2, s2⟩, ⟨r3, s3⟩, ⟨r4, s4⟩⟩ := H9.out.room
  dsimp only at c0 c1 c2 c3 c4
  have HO := Shut.mk (l01Once_any W4 g B a len cap 3 (by omega) H9.out.cur)
  go_wp2_with (go_at_call 55; refine HO.out.mono ?_; rintro e w6 ⟨bb, rfl, hc6, hg6⟩; replace H9 := Shut.mk (H9.out.turn hc6 hg6); clear c0 c1 c2 c3 c4 f0 f1 f2 f3 f4 r0 r1 r2 r3 r4 s0 s1 s2 s3 s4 hc6 hg6; obtain ⟨c0, c1, c2, c3, c4⟩ := H9.out.got; obtain ⟨f0, f1, f2, f3, f4⟩ := H9.out.may; obtain ⟨⟨r0, s0⟩, ⟨r1, s1⟩, ⟨r2, s2⟩, ⟨r3, s3⟩, ⟨r4, s4⟩⟩ := H9.out.room; dsimp only at c0 c1 c2 c3 c4; cases bb)
  ·have HD := Shut.mk (H9.out.done)
   change bodyPost _ _ _ _ _ (put5 w6 w.heap.size ⟨kind, path, ⟨#[]⟩, x, 0⟩)
   generalize put5 w6 w.heap.size ⟨kind, path, ⟨#[]⟩, x, 0⟩ = w8 at HD ⊢
   obtain ⟨k0, -⟩ := HD.out.2.1.2 0 _ rfl
   obtain ⟨k1, -⟩ := HD.out.2.1.2 1 _ rfl
   obtain ⟨k2, -⟩ := HD.out.2.1.2 2 _ rfl
   obtain ⟨k3, -⟩ := HD.out.2.1.2 3 _ rfl
   obtain ⟨k4, -⟩ := HD.out.2.1.2 4 _ rfl
   dsimp only at k0 k1 k2 k3 k4
   refine bodyPost_ret (v := ev ⟨kind, path, ⟨#[]⟩, x, 0⟩) (by simp [results, Tryz.results54, go_sem, k0, k1, k2, k3, k4]) rfl ⟨_, rfl, HD.out.1, HD.out.2.2.1, HD.out.2.2.2⟩
  ·replace H9 := Shut.mk (H9.out.set 1 (.string ⟨#[47]⟩) ⟨kind, ⟨#[47]⟩, ⟨#[]⟩, x, 0⟩ (by omega) rfl (epl_ pl_root pl_none))
   have HD := Shut.mk (H9.out.done)
   change bodyPost _ _ _ _ _ (put5 (w6.setCell ⟨E, 1, none⟩ (.string ⟨#[47]⟩)) w.heap.size ⟨kind, ⟨#[47]⟩, ⟨#[]⟩, x, 0⟩)
   generalize put5 (w6.setCell ⟨E, 1, none⟩ (.string ⟨#[47]⟩)) w.heap.size ⟨kind, ⟨#[47]⟩, ⟨#[]⟩, x, 0⟩ = w8 at HD ⊢
   obtain ⟨k0, -⟩ := HD.out.2.1.2 0 _ rfl
   obtain ⟨k1, -⟩ := HD.out.2.1.2 1 _ rfl
   obtain ⟨k2, -⟩ := HD.out.2.1.2 2 _ rfl
   obtain ⟨k3, -⟩ := HD.out.2.1.2 3 _ rfl
   obtain ⟨k4, -⟩ := HD.out.2.1.2 4 _ rfl
   dsimp only at k0 k1 k2 k3 k4
   refine bodyPost_ret (v := ev ⟨kind, ⟨#[47]⟩, ⟨#[]⟩, x, 0⟩) (by simp [results, Tryz.results54, go_sem, k0, k1, k2, k3, k4]) rfl ⟨_, rfl, HD.out.1, HD.out.2.2.1, HD.out.2.2.2⟩
 have b6 : (kind == 6) = false := by simp; omega
 by_cases q7 : kind = 7
 ·have bt7 : (kind == 7) = true := by simp; omega
  clear q7
  go_upto_region 16 with (go_at_call 56; refine (l01Below_any W g B a len cap 60 (by omega) H9.out.cur).mono ?_; rintro e w4 ⟨x, rfl, x0, x1, hc4, hg4⟩; have x2 : x ≤ 60 := (by omega); replace H9 := Shut.mk (H9.out.turn hc4 hg4); clear hc4 hg4 c0 c1 c2 c3 c4 f0 f1 f2 f3 f4; obtain ⟨c0, c1, c2, c3, c4⟩ := H9.out.got; obtain ⟨f0, f1, f2, f3, f4⟩ := H9.out.may; dsimp only at c0 c1 c2 c3 c4)
  obtain ⟨W4, hW4⟩ : ∃ W4, W4 = World.setCell w4 ⟨E, 3, none⟩ (.int .i64 (1 + x)) := ⟨_, rfl⟩
  rw [← hW4]
  replace H9 : Shut (DE w W4 g B a len cap w.heap.size E ⟨kind, path, ⟨#[]⟩, 1 + x, 0⟩) := ⟨by rw [hW4]; exact H9.out.set 3 _ _ (by omega) rfl (epl_ HP.out pl_none)⟩
  clear hW4 c0 c1 c2 c3 c4 f0 f1 f2 f3 f4
  obtain ⟨c0, c1, c2, c3, c4⟩ := H9.out.got
  obtain ⟨f0, f1, f2, f3, f4⟩ := H9.out.may
  obtain ⟨⟨r0, s0⟩, ⟨r1, s1⟩, ⟨r2, s2⟩, ⟨r3, s3⟩, ⟨r4, s4⟩⟩ := H9.out.room
  dsimp only at c0 c1 c2 c3 c4
  go_wp2_with fail
  have HD := Shut.mk (H9.out.done)
  change bodyPost _ _ _ _ _ (put5 W4 w.heap.size ⟨kind, path, ⟨#[]⟩, 1 + x, 0⟩)
  generalize put5 W4 w.heap.size ⟨kind, path, ⟨#[]⟩, 1 + x, 0⟩ = w8 at HD ⊢
  obtain ⟨k0, -⟩ := HD.out.2.1.2 0 _ rfl
  obtain ⟨k1, -⟩ := HD.out.2.1.2 1 _ rfl
  obtain ⟨k2, -⟩ := HD.out.2.1.2 2 _ rfl
  obtain ⟨k3, -⟩ := HD.out.2.1.2 3 _ rfl
  obtain ⟨k4, -⟩ := HD.out.2.1.2 4 _ rfl
  dsimp only at k0 k1 k2 k3 k4
  refine bodyPost_ret (v := ev ⟨kind, path, ⟨#[]⟩, 1 + x, 0⟩) (by simp [results, Tryz.results54, go_sem, k0, k1, k2, k3, k4]) rfl ⟨_, rfl, HD.out.1, HD.out.2.2.1, HD.out.2.2.2⟩
 have b7 : (kind == 7) = false := by simp; omega
 by_cases q10 : kind = 10
 ·have bt10 : (kind == 10) = true := by simp; omega
  clear q10
  go_upto_region 16 with (fail)
  obtain ⟨W4, hW4⟩ : ∃ W4, W4 = World.setCell W ⟨E, 1, none⟩ (.string ⟨#[47]⟩) := ⟨_, rfl⟩
  rw [← hW4]
  replace H9 : Shut (DE w W4 g B a len cap w.heap.size E ⟨kind, ⟨#[47]⟩, ⟨#[]⟩, 0, 0⟩) := ⟨by rw [hW4]; exact H9.out.set 1 _ _ (by omega) rfl (epl_ pl_root pl_none)⟩
  clear hW4 c0 c1 c2 c3 c4 f0 f1 f2 f3 f4
  obtain ⟨c0, c1, c2, c3, c4⟩ := H9.out.got
  obtain ⟨f0, f1, f2, f3, f4⟩ := H9.out.may
  obtain ⟨⟨r0, s0⟩, ⟨r1, s1⟩, ⟨r2, s2⟩, ⟨r3, s3⟩, ⟨r4, s4⟩⟩ := H9.out.room
  dsimp only at c0 c1 c2 c3 c4
  go_wp2_with fail
  have HD := Shut.mk (H9.out.done)
  change bodyPost _ _ _ _ _ (put5 W4 w.heap.size ⟨kind, ⟨#[47]⟩, ⟨#[]⟩, 0, 0⟩)
  generalize put5 W4 w.heap.size ⟨kind, ⟨#[47]⟩, ⟨#[]⟩, 0, 0⟩ = w8 at HD ⊢
  obtain ⟨k0, -⟩ := HD.out.2.1.2 0 _ rfl
  obtain ⟨k1, -⟩ := HD.out.2.1.2 1 _ rfl
  obtain ⟨k2, -⟩ := HD.out.2.1.2 2 _ rfl
  obtain ⟨k3, -⟩ := HD.out.2.1.2 3 _ rfl
  obtain ⟨k4, -⟩ := HD.out.2.1.2 4 _ rfl
  dsimp only at k0 k1 k2 k3 k4
  refine bodyPost_ret (v := ev ⟨kind, ⟨#[47]⟩, ⟨#[]⟩, 0, 0⟩) (by simp [results, Tryz.results54, go_sem, k0, k1, k2, k3, k4]) rfl ⟨_, rfl, HD.out.1, HD.out.2.2.1, HD.out.2.2.2⟩
 have b10 : (kind == 10) = false := by simp; omega
 ·skip
  go_upto_region 16 with (fail)
  clear c0 c1 c2 c3 c4 f0 f1 f2 f3 f4
  obtain ⟨c0, c1, c2, c3, c4⟩ := H9.out.got
  obtain ⟨f0, f1, f2, f3, f4⟩ := H9.out.may
  obtain ⟨⟨r0, s0⟩, ⟨r1, s1⟩, ⟨r2, s2⟩, ⟨r3, s3⟩, ⟨r4, s4⟩⟩ := H9.out.room
  dsimp only at c0 c1 c2 c3 c4
  go_wp2_with fail
  have HD := Shut.mk (H9.out.done)
  change bodyPost _ _ _ _ _ (put5 W w.heap.size ⟨kind, path, ⟨#[]⟩, 0, 0⟩)
  generalize put5 W w.heap.size ⟨kind, path, ⟨#[]⟩, 0, 0⟩ = w8 at HD ⊢
  obtain ⟨k0, -⟩ := HD.out.2.1.2 0 _ rfl
  obtain ⟨k1, -⟩ := HD.out.2.1.2 1 _ rfl
  obtain ⟨k2, -⟩ := HD.out.2.1.2 2 _ rfl
  obtain ⟨k3, -⟩ := HD.out.2.1.2 3 _ rfl
  obtain ⟨k4, -⟩ := HD.out.2.1.2 4 _ rfl
  dsimp only at k0 k1 k2 k3 k4
  refine bodyPost_ret (v := ev ⟨kind, path, ⟨#[]⟩, 0, 0⟩) (by simp [results, Tryz.results54, go_sem, k0, k1, k2, k3, k4]) rfl ⟨_, rfl, HD.out.1, HD.out.2.2.1, HD.out.2.2.2⟩
def IAns (w : World) (v : Value) (xs : List Int) (lo hi : Nat) : Prop := ∃ (a : Option Addr) (cap : Nat), v = .slice a xs.length cap ∧ xs.length ≤ cap ∧ (xs = [] ∨ ∃ g, a = some ⟨g, 0, none⟩ ∧ lo ≤ g ∧ g < hi ∧ WCells w g (ics xs))
theorem IAns.empty (w : World) (a : Option Addr) (cap lo hi : Nat) : IAns w (.slice a 0 cap) [] lo hi := ⟨a, cap, rfl, Nat.zero_le _, .inl rfl⟩
theorem IAns.crow {w : World} {v : Value} {xs : List Int} {lo hi : Nat} (h : IAns w v xs lo hi) : ∃ a cap, v = .slice a xs.length cap ∧ CRow w a (ics xs) := by
 obtain ⟨a, cap, e, _, q⟩ := h
 refine ⟨a, cap, e, ?_⟩
 rcases q with rfl | ⟨g, rfl, _, _, q⟩
 ·intro h; simp [ics] at h
 ·exact q.crow
theorem IAns.turned {w w' : World} {v : Value} {xs : List Int} {lo hi lo' hi' : Nat} (h : IAns w v xs lo hi) (t : Turned w w' lo' hi') (hd : hi ≤ lo' ∨ hi' ≤ lo) : IAns w' v xs lo hi := by
 obtain ⟨a, cap, e, hc, q⟩ := h
 refine ⟨a, cap, e, hc, ?_⟩
 rcases q with rfl | ⟨g, rfl, h1, h2, h3⟩
 ·exact .inl rfl
 ·exact .inr ⟨g, rfl, h1, h2, h3.turned t (by omega)⟩
theorem IAns.below {w w' : World} {v : Value} {xs : List Int} {lo hi : Nat} (h : IAns w v xs lo hi) (hb : Below w.heap.size w w') : IAns w' v xs lo hi := by
 obtain ⟨a, cap, e, hc, q⟩ := h
 refine ⟨a, cap, e, hc, ?_⟩
 rcases q with rfl | ⟨g, rfl, h1, h2, h3⟩
 ·exact .inl rfl
 ·exact .inr ⟨g, rfl, h1, h2, h3.below hb h3.1⟩
def IPost (xs : List Int) (w : World) (e : Ending) (w' : World) : Prop := ∃ v, e = .returned v ∧ IAns w' v xs w.heap.size w'.heap.size ∧ Below w.heap.size w w'
theorem own_ians {w w' : World} {v : Value} {xs : List Int} {n : Nat} (hn : xs.length = n) (h : w'.ownsRow w.heap.size 3 1 v n (ics xs)) : IAns w' v xs w.heap.size w'.heap.size := by
 have hlt := h.lt
 have hown := h
 subst hn
 obtain ⟨_, ⟨rfl, h0⟩ | ⟨g, cap, cur, rfl, hB, hcur, hn, _⟩⟩ := h
 ·have : xs = [] := List.eq_nil_of_length_eq_zero h0
  subst this
  exact IAns.empty _ _ _ _ _
 ·exact ⟨_, cap, rfl, hn, .inr ⟨g, rfl, hB, (hlt g rfl).2, own_wcells hown⟩⟩
def spanL (S n : Nat) : List Int := List.replicate ((n - 1) / S) (S : Int) ++ [((n - (n - 1) / S * S : Nat) : Int)]
def spansX (s n : Int) : List Int := if schOk s = true ∧ 1 ≤ n ∧ n ≤ 1000 then spanL (groupN s) n.toNat else []
theorem spansX_no {s n : Int} (h : ¬ (schOk s = true ∧ 1 ≤ n ∧ n ≤ 1000)) : spansX s n = [] := if_neg h
theorem group_pos {s : Int} (h : schOk s = true) : 16 ≤ groupN s := by have := (sch_bounds h).1; unfold groupN; omega
theorem group_zero {s : Int} (h : schOk s = false) : groupN s = 0 := by unfold groupN; rw [(sch_zero h).1]
theorem span_last {S n j : Nat} (hS : 0 < S) (h1 : j * S < n) (h2 : n ≤ j * S + S) : (n - 1) / S = j := by
 have e : n - 1 = (n - 1 - j * S) + j * S := by omega
 rw [e, Nat.add_mul_div_right _ _ hS, Nat.div_eq_of_lt (by omega), Nat.zero_add]
set_option maxHeartbeats 2000000 in
theorem specSpans (s n : Int) (w : World) : Calls Tryz.prog 40 #[.int .i64 s, .int .i64 n] w fun e w' => IPost (spansX s n) w e w' := by
 obtain ⟨i1, hi1, hy0, hy1, hy2⟩ := info_parts infoIntG
 have HG := Shut.mk (fun W => specGroupSize s W)
 obtain ⟨bn, hbn⟩ : ∃ r, (decide ((1 : Int) ≤ n) && decide (n ≤ 1000)) = r := ⟨_, rfl⟩
 have hin := in_bool hbn
 have HIN := Shut.mk (fun W => isIn n 1 1000 W bn hbn)
 have hg32 := groupN_bounds s
 have hal : Below w.heap.size w (w.alloc (.cells #[] 3)) := (Below.refl _ _).alloc (Nat.le_refl _) _
 have HAL := Shut.mk hal
 have HO : Shut ((w.alloc (.cells #[] 3)).ownsRow w.heap.size 3 1 (.slice (some ⟨w.heap.size, 0, none⟩) 0 0) 0 []) := ⟨World.ownsRow_made w #[] 0 (Nat.le_refl _) (by decide) rfl⟩
 clear hal hbn
 cases h : schOk s with
 | false =>
  rw [spansX_no (fun q => by rw [h] at q; cases q.1)]
  rw [group_zero h] at HG
  clear h hin hg32
  go_enter Tryz.func40, Tryz.ntmps40
  go_wp2_with fail
  refine (HG.out _).mono ?_
  rintro e w1 ⟨rfl, rfl⟩
  go_wp2_with fail
  go_ret
  exact ⟨_, rfl, IAns.empty _ _ _ _ _, HAL.out⟩
 | true =>
  have h16 := group_pos h
  cases bn with
  | false =>
   rw [spansX_no (fun q => by have := hin.2 q.2; cases this)]
   clear h hin
   generalize groupN s = S at *
   have hS0 : ((S : Int) == 0) = false := by rw [beq_eq_false_iff_ne]; omega
   go_enter Tryz.func40, Tryz.ntmps40
   go_wp2_with fail
   refine (HG.out _).mono ?_
   rintro e w1 ⟨rfl, rfl⟩
   go_wp2_with fail
   refine (HIN.out _).mono ?_
   rintro e w2 ⟨rfl, rfl⟩
   go_wp2_with fail
   go_ret
   exact ⟨_, rfl, IAns.empty _ _ _ _ _, HAL.out⟩
  | true =>
   obtain ⟨n1, n2⟩ := hin.1 rfl
   obtain ⟨N, rfl⟩ := Int.eq_ofNat_of_zero_le (show 0 ≤ n by omega)
   have e0 : spansX s (N : Int) = spanL (groupN s) N := by unfold spansX; rw [if_pos ⟨h, n1, n2⟩]; rfl
   rw [e0]
   clear h hin e0
   generalize groupN s = S at *
   have hS0 : ((S : Int) == 0) = false := by rw [beq_eq_false_iff_ne]; omega
   go_enter Tryz.func40, Tryz.ntmps40
   go_wp2_with fail
   refine (HG.out _).mono ?_
   rintro e w1 ⟨rfl, hw1⟩
   obtain rfl : w.alloc (.cells #[] 3) = w1 := hw1.symm
   clear hw1
   go_wp2_with fail
   refine (HIN.out _).mono ?_
   rintro e w2 ⟨rfl, hw2⟩
   obtain rfl : w.alloc (.cells #[] 3) = w2 := hw2.symm
   clear hw2
   go_wp2_with fail
   go_loopw [1, 5] (fun nn v wr => ∃ (j r : Nat) (vv : Value), vv = v ∧ nn = .int .i64 (r : Nat) ∧ 1 ≤ r ∧ r ≤ 1000 ∧ Shut (j * S + r = N) ∧ j ≤ 1000 ∧ Shut (wr.ownsRow w.heap.size 3 1 vv j (ics (List.replicate j (S : Int)))) ∧ Shut (Below w.heap.size w wr)) (fun nn _ _ => (intOf nn).toNat)
   case atStart => exact ⟨0, N, _, rfl, rfl, by omega, by omega, ⟨by omega⟩, by omega, HO, HAL⟩
   case round =>
    clear HO HAL
    obtain ⟨j, r, v, rfl, rfl, hr1, hr2, hjr, hj, hown, hb⟩ := hrel
    obtain ⟨wo, rfl⟩ : ∃ wo, wo = wr := ⟨_, rfl⟩
    have hso := hb.out.size
    have hown3 := hown.out
    by_cases hlt : S < r
    ·have hlt' : (S : Int) < (r : Int) := by omega
     have hj2 : j + 1 ≤ 1000 := by
      have h1 := hjr.out
      have h2 : j ≤ j * S := Nat.le_mul_of_pos_right j (by omega)
      omega
     go_wp2_with (at_builtin; refine wpList_append_own _ rfl _ _ 37 rfl w.heap.size 3 i1 (.int .i64 0) 1 8 Tryz.underlying37 hi1 hy0 hy1 hy2 rfl (by decide) _ _ _ rfl (hown3.alloc _) ⟨wo.heap.size, 0, none⟩ 1 1 [.int .i64 (S : Int)] rfl rfl (cell_one_new _ _ _) ?c2 ?c3 ?c4 ?c5 ?_)
     case c2 => first | rfl | (intro u hu; simp at hu; subst hu; rfl)
     case c3 => unfold maxLen; omega
     case c4 => omega
     case c5 => first | omega | (simp; omega)
     intro v' w4 hown' hgrow _
     have Q1 : Shut (w4.ownsRow w.heap.size 3 1 v' (j + 1) (ics (List.replicate (j + 1) (S : Int)))) := ⟨by
      have e : ics (List.replicate (j + 1) (S : Int)) = ics (List.replicate j (S : Int)) ++ [.int .i64 (S : Int)] := by rw [List.replicate_succ']; simp [ics]
      rw [e]; exact hown'⟩
     have Q2 := Shut.mk ((hb.out.alloc hso (.cells #[.int .i64 (S : Int)] 3)).grown hgrow (by simp; omega) (fun j hj => (hown3.lt j hj).1))
     have Q3 : Shut ((j + 1) * S + (r - S) = N) := ⟨by rw [Nat.add_mul]; have := hjr.out; omega⟩
     have hsub : (r : Int) - (S : Int) = ((r - S : Nat) : Int) := by omega
     clear hown' hgrow hown3 hb hown hjr
     go_wp2_with fail
     exact ⟨⟨j + 1, r - S, v', rfl, by rw [← hsub], by omega, by omega, Q3, hj2, Q1, Q2⟩, by simp [intOf]; omega⟩
    ·have hlt' : ¬ (S : Int) < (r : Int) := by omega
     have hle : (r : Int) ≤ (S : Int) := by omega
     have HSP : Shut (spanL S N = List.replicate j (S : Int) ++ [(r : Int)]) := ⟨by
      have h1 := hjr.out
      have e := span_last (S := S) (n := N) (j := j) (by omega) (by omega) (by omega)
      unfold spanL
      rw [e]
      congr 3
      omega⟩
     go_wp2_with (at_builtin; refine wpList_append_own _ rfl _ _ 37 rfl w.heap.size 3 i1 (.int .i64 0) 1 8 Tryz.underlying37 hi1 hy0 hy1 hy2 rfl (by decide) _ _ _ rfl (hown3.alloc _) ⟨wo.heap.size, 0, none⟩ 1 1 [.int .i64 (r : Int)] rfl rfl (cell_one_new _ _ _) ?c2 ?c3 ?c4 ?c5 ?_)
     case c2 => first | rfl | (intro u hu; simp at hu; subst hu; rfl)
     case c3 => unfold maxLen; omega
     case c4 => omega
     case c5 => first | omega | (simp; omega)
     intro v' w4 hown' hgrow _
     have Q1 : Shut (IAns w4 v' (spanL S N) w.heap.size w4.heap.size) := ⟨by
      rw [HSP.out]
      refine own_ians (n := j + 1) (by simp) ?_
      have e : ics (List.replicate j (S : Int) ++ [(r : Int)]) = ics (List.replicate j (S : Int)) ++ [.int .i64 (r : Int)] := by simp [ics]
      rw [e]; exact hown'⟩
     have Q2 := Shut.mk ((hb.out.alloc hso (.cells #[.int .i64 (r : Int)] 3)).grown hgrow (by simp; omega) (fun j hj => (hown3.lt j hj).1))
     clear hown' hgrow hown3 hb hown
     go_wp2_with fail
     go_ret
     exact ⟨v', rfl, Q1.out, Q2.out⟩
end Go.Proofs.YtakhagkhngmpaaaGreat
/- CpA: . -/
namespace Go.Proofs.YtakhagkhngmpaaaGreat
set_option maxRecDepth 100000
open Go.RowKit
theorem wc_by {w w' : World} {g : Nat} {q : Option Nat} {L : List Value} (h : WCells w g L) (hg : w.grownBy w' q) (hq : q ≠ some g) : WCells w' g L := by
 have hk := hg.block g h.1 (fun e => hq e.symm)
 refine ⟨Nat.lt_of_lt_of_le h.1 hg.size, fun i v hv => ?_⟩
 have h1 := h.2 i v hv
 simp only [World.cell?, World.frozen?, hk] at h1 ⊢
 exact h1
structure NB (w : World) (B : Nat) (v : Value) (rs : List NR) : Prop where
 own : w.ownsRow B 47 9 v rs.length (ncs rs)
 rows : ∀ r ∈ rs, w.ownsRow B 99 2 (.slice r.loc r.nd.pieces.length r.cap) r.nd.pieces.length (pcs r.nd.pieces)
 apart : rs.Pairwise fun r s => r.loc ≠ none → s.loc ≠ none → r.loc ≠ s.loc
theorem own_blk {w : World} {B t sz n : Nat} {v : Value} {L : List Value} (h : w.ownsRow B t sz v n L) (hn : n ≠ 0) : ∃ g cap cur, v = .slice (some ⟨g, 0, none⟩) n cap ∧ B ≤ g ∧ g < w.heap.size ∧ w.heap[g]? = some (.cells cur t (0, 0)) := by
 rcases h.2 with ⟨_, h0⟩ | ⟨g, cap, cur, e, h1, h2, _⟩
 ·exact absurd h0 hn
 ·exact ⟨g, cap, cur, e, h1, (Array.getElem?_eq_some_iff.1 h2).1, h2⟩
theorem own_blk' {w : World} {B t sz n g : Nat} {v : Value} {L : List Value} (h : w.ownsRow B t sz v n L) (e : v.ownBlock = some g) : ∃ cur, w.heap[g]? = some (.cells cur t (0, 0)) := by
 rcases h.2 with ⟨rfl, _⟩ | ⟨g', cap, cur, rfl, _, h2, _⟩
 ·cases e
 ·cases e; exact ⟨cur, h2⟩
theorem own_slice {w : World} {B n sz : Nat} {t : TypeId} {v : Value} {L : List Value} (h : w.ownsRow B t sz v n L) : ∃ a c, v = .slice a n c := by
 rcases h.2 with ⟨rfl, h0⟩ | ⟨g, cap, cur, e, _⟩
 ·exact ⟨none, 0, by rw [h0]⟩
 ·exact ⟨_, _, e⟩
theorem own_lower {w : World} {B C n sz : Nat} {t : TypeId} {v : Value} {L : List Value} (h : w.ownsRow B t sz v n L) (hC : C ≤ B) : w.ownsRow C t sz v n L := by
 refine ⟨h.1, ?_⟩
 rcases h.2 with q | ⟨g, cap, cur, e, h1, h2⟩
 ·exact .inl q
 ·exact .inr ⟨g, cap, cur, e, Nat.le_trans hC h1, h2⟩
theorem NB.nil (w : World) (B : Nat) : NB w B (.slice none 0 0) [] := ⟨by simpa [ncs] using World.ownsRow_nil w B 47 9, by simp, List.Pairwise.nil⟩
theorem NB.grown {w w' : World} {B : Nat} {v : Value} {rs : List NR} {q : Option Nat} (h : NB w B v rs) (hg : w.grownBy w' q) (hq : ∀ k, q = some k → k < B) : NB w' B v rs := by
 refine ⟨h.own.kept hg ?_, fun r hr => (h.rows r hr).kept hg ?_, h.apart⟩
 ·cases e : v.ownBlock with
  | none => exact .inl rfl
  | some k => exact .inr fun e2 => by have := hq k e2.symm; have := (h.own.lt k e).1; omega
 ·cases e : (Value.slice r.loc r.nd.pieces.length r.cap).ownBlock with
  | none => exact .inl rfl
  | some k => exact .inr fun e2 => by have := hq k e2.symm; have := ((h.rows r hr).lt k e).1; omega
theorem NB.below {w w' : World} {B : Nat} {v : Value} {rs : List NR} (h : NB w B v rs) (hb : Below w.heap.size w w') : NB w' B v rs :=
 h.grown (q := none) ⟨hb.os, hb.tape, hb.output, hb.size, fun k hk _ => hb.block k hk⟩ (fun k e => by cases e)
theorem NB.setBox {w : World} {B : Nat} {v : Value} {rs : List NR} (h : NB w B v rs) (g i : Nat) (x : Value) (hg : g < B) : NB (w.setCell ⟨g, i, none⟩ x) B v rs :=
 h.grown (gb_set' w g i x) (fun k e => by cases e; exact hg)
theorem NB.setOut {w : World} {B : Nat} {v : Value} {rs : List NR} {c : Array Value} {t : TypeId} {fr : Nat × Nat} (h : NB w B v rs) (g i : Nat) (x : Value) (hg : w.heap[g]? = some (.cells c t fr)) (ht : t ≠ 99) (hv : v.ownBlock ≠ some g) : NB (w.setCell ⟨g, i, none⟩ x) B v rs := by
 refine ⟨h.own.kept (gb_set' w g i x) (.inr hv), fun r hr => (h.rows r hr).kept (gb_set' w g i x) (.inr fun e => ?_), h.apart⟩
 obtain ⟨cur, h2⟩ := own_blk' (h.rows r hr) e
 rw [hg] at h2
 simp at h2
 exact ht h2.2.1
theorem NB.snoc {w w1 w2 : World} {B : Nat} {v v' : Value} {rs : List NR} {r : NR} (h : NB w B v rs) (hb : Below w.heap.size w w1) (hp : w1.ownsRow B 99 2 (.slice r.loc r.nd.pieces.length r.cap) r.nd.pieces.length (pcs r.nd.pieces))
  (hnew : r.loc ≠ none → ∀ s ∈ rs, s.loc ≠ none → s.loc ≠ r.loc) (ho : w2.ownsRow B 47 9 v' (rs.length + 1) (ncs rs ++ ncells r)) (hg : w1.grownBy w2 v.ownBlock) : NB w2 B v' (rs ++ [r]) := by
 have hN := h.below hb
 have keep : ∀ s : NR, w1.ownsRow B 99 2 (.slice s.loc s.nd.pieces.length s.cap) s.nd.pieces.length (pcs s.nd.pieces) → w2.ownsRow B 99 2 (.slice s.loc s.nd.pieces.length s.cap) s.nd.pieces.length (pcs s.nd.pieces) := fun s hr => by
  refine hr.kept hg ?_
  cases e : (Value.slice s.loc s.nd.pieces.length s.cap).ownBlock with
  | none => exact .inl rfl
  | some k =>
   refine .inr fun e2 => ?_
   obtain ⟨c1, h1⟩ := own_blk' hr e
   obtain ⟨c2, h2⟩ := own_blk' hN.own e2.symm
   rw [h1] at h2
   simp at h2
 refine ⟨?_, fun s hs => ?_, ?_⟩
 ·have e : ncs (rs ++ [r]) = ncs rs ++ ncells r := by simp [ncs]
  rw [e, List.length_append, List.length_singleton]
  exact ho
 ·rcases List.mem_append.1 hs with q | q
  ·exact keep s (hN.rows s q)
  ·rw [List.mem_singleton.1 q]
   exact keep r hp
 ·refine List.pairwise_append.2 ⟨h.apart, List.pairwise_singleton _ _, fun s hs t ht h1 h2 => ?_⟩
  rw [List.mem_singleton.1 ht] at h2 ⊢
  exact hnew h2 s hs h1
theorem own_loc {w : World} {B t sz n c : Nat} {a : Option Addr} {L : List Value} (h : w.ownsRow B t sz (.slice a n c) n L) (hn : n ≠ 0) : a ≠ none := by
 obtain ⟨g, cap, cur, e, _⟩ := own_blk h hn
 simp at e
 rw [e.1]
 simp
theorem NB.fin {w : World} {B : Nat} {v : Value} {rs : List NR} {nx : Int} (h : NB w B v rs) : TAns w (.agg #[v, .int .i64 nx]) ⟨nds rs, nx⟩ B w.heap.size := by
 have hown := h.own
 rcases hown.2 with ⟨rfl, h0⟩ | ⟨g, cap, cur, rfl, hB, hcur, hn, _⟩
 ·have : rs = [] := List.eq_nil_of_length_eq_zero h0
  subst this
  exact ⟨none, 0, [], rfl, rfl, Nat.le_refl _, .inl rfl⟩
 ·refine ⟨_, cap, rs, rfl, rfl, hn, .inr ⟨g, rfl, ?_⟩⟩
  refine ⟨own_wcells h.own, hB, (Array.getElem?_eq_some_iff.1 hcur).1, fun r hr => ?_, ?_⟩
  ·by_cases hp : r.nd.pieces = []
   ·exact .inl (by show pcs r.nd.pieces = []; rw [hp]; rfl)
   ·have hr' := h.rows r hr
    obtain ⟨b, cp, c2, e1, q1, q2, q3⟩ := own_blk hr' (by simpa using hp)
    have e2 : r.loc = some ⟨b, 0, none⟩ := (by simpa using e1 : r.loc = some ⟨b, 0, none⟩ ∧ r.cap = cp).1
    refine .inr ⟨b, e2, q1, q2, fun e => ?_, ?_⟩
    ·rw [e, hcur] at q3
     simp at q3
    ·rw [e2] at hr'
     exact own_wcells hr'
  ·have ha := List.pairwise_iff_getElem.1 h.apart
   refine List.pairwise_iff_getElem.2 (fun i j hi hj hij h1 h2 => ha i j hi hj hij ?_ ?_)
   ·exact own_loc (h.rows _ (List.getElem_mem hi)) (fun e => h1 (by show pcs rs[i].nd.pieces = []; rw [List.eq_nil_of_length_eq_zero e]; rfl))
   ·exact own_loc (h.rows _ (List.getElem_mem hj)) (fun e => h2 (by show pcs rs[j].nd.pieces = []; rw [List.eq_nil_of_length_eq_zero e]; rfl))
end Go.Proofs.YtakhagkhngmpaaaGreat
/- PathS: . -/
namespace Go.Proofs.YtakhagkhngmpaaaGreat
set_option maxRecDepth 100000
theorem flat_size (L : List (List UInt8)) (h : ∀ l ∈ L, nameL l = true) : ((L.map (47 :: ·)).flatten).length ≤ 9 * L.length := by
 induction L with
 | nil => simp
 | cons x L ih =>
  have h1 := (nameL_pos (h x (by simp))).2
  have h2 := ih fun l hl => h l (by simp [hl])
  simp only [List.map_cons, List.flatten_cons, List.length_append, List.length_cons]
  omega
theorem parent_small (p : ByteArray) : (parentB p).1.size ≤ 36 ∧ (parentB p).2.1.size ≤ 8 := by
 unfold parentB
 split
 ·rename_i hc
  obtain ⟨h1, h2⟩ := split_names (p := lb p)
  have hl : ∀ l ∈ (splitP (lb p)).1.dropLast, nameL l = true := fun l hl => h1 l (List.dropLast_subset _ hl)
  have e : (splitB p).1 = (splitP (lb p)).1.map ba := rfl
  dsimp only
  refine ⟨?_, ?_⟩
  ·have e2 : ((splitB p).1.dropLast.map lb) = (splitP (lb p)).1.dropLast := by
    rw [e, List.dropLast_eq_take, List.dropLast_eq_take, List.length_map, ← List.map_take, map_lb_ba]
   unfold joinB
   rw [e2]
   show (joinP _).toArray.size ≤ 36
   rw [List.size_toArray]
   unfold joinP
   split
   ·simp
   ·have h3 := flat_size _ hl
    rw [List.length_dropLast] at h3
    omega
  ·have hne := hc.2
   rcases List.eq_nil_or_concat (splitB p).1 with h0 | ⟨I, x, h0⟩
   ·exact absurd h0 hne
   ·rw [h0]
    have hx : x ∈ (splitB p).1 := by rw [h0]; simp
    have hn := (splitB_names p).1 x hx
    have := (nameL_pos (l := lb x) hn).2
    have e3 : (I ++ [x]).getLastD ⟨#[]⟩ = x := by simp [List.getLastD_eq_getLast?]
    rw [List.concat_eq_append, e3]
    exact this
 ·exact ⟨by decide, by decide⟩
end Go.Proofs.YtakhagkhngmpaaaGreat
/- SpnC: . -/
namespace Go.Proofs.YtakhagkhngmpaaaGreat
set_option maxRecDepth 100000
open Go.RowKit
attribute [local go_sem ↓] Go.wp_at_zero Go.wp_at_succ
end Go.Proofs.YtakhagkhngmpaaaGreat
/- HexM: . -/
namespace Go.Proofs.YtakhagkhngmpaaaGreat.W
open Go.PlainAid (bt)
def hfI (x : Int) : Int := if x < 10 then 48 + x else 87 + x
def hf (n : Nat) : UInt8 := UInt8.ofNat (hfI n).toNat
end Go.Proofs.YtakhagkhngmpaaaGreat.W
namespace Go.Proofs.YtakhagkhngmpaaaGreat
set_option maxRecDepth 100000
open Go.RowKit
open Go.PlainAid (bt)
end Go.Proofs.YtakhagkhngmpaaaGreat
/- SpnD: . -/
namespace Go.Proofs.YtakhagkhngmpaaaGreat
set_option maxRecDepth 100000
open Go.RowKit
attribute [local go_sem ↓] Go.wp_at_zero Go.wp_at_succ
structure TI (w wr : World) (ss : List SR) (ts : List SR) : Prop where
 rweq : rws ts = rws (ss.take ts.length)
 out : WCells wr w.heap.size (svs ts ++ List.replicate (ss.length - ts.length) (.slice none 0 0))
 rows : ∀ s ∈ ts, ∃ b, s.loc = some ⟨b, 0, none⟩ ∧ w.heap.size ≤ b ∧ b < wr.heap.size ∧ b ≠ w.heap.size ∧ WCells wr b (ics s.row) ∧ s.row.length ≤ s.cap
 apart : (ts.map SR.loc).Nodup
 bel : Below w.heap.size w wr
theorem set_mid (A B : List Value) (x y : Value) (k : Nat) (h : A.length = k) : (A ++ x :: B).set k y = A ++ y :: B := by
 subst h
 rw [List.set_append_right _ _ (Nat.le_refl _)]
 simp
theorem TI.next {w wr w1 : World} {ss ts : List SR} {g1 : Nat} {row : List Int} {n : Nat} (h : TI w wr ss ts) (hk : ts.length < ss.length) (hrow : (ss[ts.length]).row = row) (hn : n = row.length) (hw : w.heap.size < wr.heap.size)
  (hg1 : wr.heap.size ≤ g1) (hc : WCells w1 g1 (ics row)) (hb : Below wr.heap.size wr w1) : TI w (w1.setCell ⟨w.heap.size, ts.length, none⟩ (.slice (some ⟨g1, 0, none⟩) n n)) ss (ts ++ [SR.mk (some ⟨g1, 0, none⟩) row row.length]) := by
 subst hn
 have hne : g1 ≠ w.heap.size := by omega
 have hsz : (w1.setCell ⟨w.heap.size, ts.length, none⟩ (.slice (some ⟨g1, 0, none⟩) row.length row.length)).heap.size = w1.heap.size := by simp [World.setCell]
 have hgs : w1.grownBy (w1.setCell ⟨w.heap.size, ts.length, none⟩ (.slice (some ⟨g1, 0, none⟩) row.length row.length)) (some w.heap.size) := gb_set' _ _ _ _
 refine ⟨?_, ?_, ?_, ?_, ?_⟩
 ·rw [rws_snoc, h.rweq, List.length_append, List.length_singleton, List.take_succ_eq_append_getElem hk, rws_snoc, hrow]
 ·have o := (h.out.below hb h.out.1).set ts.length (.slice (some ⟨g1, 0, none⟩) row.length row.length) (by rw [List.length_append, svs_len, List.length_replicate]; omega)
  obtain ⟨m, hm⟩ : ∃ m, ss.length - ts.length = m + 1 := ⟨ss.length - ts.length - 1, by omega⟩
  rw [hm, List.replicate_succ, set_mid _ _ _ _ _ (svs_len ts)] at o
  have e : svs (ts ++ [SR.mk (some ⟨g1, 0, none⟩) row row.length]) ++ List.replicate (ss.length - (ts ++ [SR.mk (some ⟨g1, 0, none⟩) row row.length]).length) (.slice none 0 0) = svs ts ++ .slice (some ⟨g1, 0, none⟩) row.length row.length :: List.replicate m (.slice none 0 0) := by
   rw [List.length_append, List.length_singleton, show ss.length - (ts.length + 1) = m by omega]
   simp [svs, srv]
  rw [e]
  exact o
 ·intro s hs
  rcases List.mem_append.1 hs with h1 | h1
  ·obtain ⟨b, e, q1, q2, q3, q4, q5⟩ := h.rows s h1
   exact ⟨b, e, q1, by rw [hsz]; exact Nat.lt_of_lt_of_le q2 hb.size, q3, (q4.below hb q4.1).apart hgs q3, q5⟩
  ·simp at h1
   subst h1
   exact ⟨g1, rfl, by omega, by rw [hsz]; exact hc.1, hne, hc.apart hgs hne, Nat.le_refl _⟩
 ·rw [List.map_append, List.nodup_append]
  refine ⟨h.apart, by simp, fun l hl l' hl' => ?_⟩
  obtain ⟨s, hs, rfl⟩ := List.mem_map.1 hl
  simp only [List.map_cons, List.map_nil, List.mem_singleton] at hl'
  subst hl'
  obtain ⟨b, e, _, q2, _⟩ := h.rows s hs
  rw [e]
  intro e2
  have e4 : b = g1 := congrArg Addr.block (Option.some.inj e2)
  omega
 ·exact (h.bel.trans (hb.mono h.bel.size)).setCell (p := ⟨w.heap.size, ts.length, none⟩) (Nat.le_refl _) _
theorem TI.fin {w wr : World} {ss ts : List SR} (h : TI w wr ss ts) (hl : ts.length = ss.length) : rws ts = rws ss ∧ MW wr w.heap.size ts w.heap.size wr.heap.size := by
 refine ⟨by rw [h.rweq, hl, List.take_of_length_le (Nat.le_refl _)], ?_, Nat.le_refl _, h.out.1, h.rows, h.apart⟩
 have := h.out
 rwa [hl, Nat.sub_self, List.replicate_zero, List.append_nil] at this
end Go.Proofs.YtakhagkhngmpaaaGreat
/- SpnE: . -/
namespace Go.Proofs.YtakhagkhngmpaaaGreat
set_option maxRecDepth 100000
open Go.RowKit
theorem spansX_len (s n : Int) : (spansX s n).length ≤ 1001 := by
 unfold spansX
 split
 ·rename_i h
  unfold spanL
  rw [List.length_append, List.length_replicate, List.length_singleton]
  have := Nat.div_le_self (n.toNat - 1) (groupN s)
  omega
 ·exact Nat.zero_le _
end Go.Proofs.YtakhagkhngmpaaaGreat
/- TreL: . -/
namespace Go.Proofs.YtakhagkhngmpaaaGreat
set_option maxRecDepth 100000
open Go.RowKit
attribute [local go_sem ↓] Go.wp_at_zero Go.wp_at_succ
def newX : TM := ⟨[⟨1, 0, ⟨#[]⟩, true, 1, 0, 0, [], 0⟩], 2⟩
def newR : NR := ⟨⟨1, 0, ⟨#[]⟩, true, 1, 0, 0, [], 0⟩, none, 0⟩
set_option maxHeartbeats 2000000 in
theorem specTreeNew (w : World) : Calls Tryz.prog 30 #[] w fun e w' => TrPost newX w e w' := by
 go_enter Tryz.func30, Tryz.ntmps30
 go_wp2_with fail
 refine body_shade (fun W => WCells W w.heap.size [.slice (some ⟨w.heap.size + 1, 0, none⟩) 1 1, .int .i64 2] ∧ WCells W (w.heap.size + 1) (ncells newR) ∧ Below w.heap.size w W) ⟨(wcells_new w #[.slice (some ⟨w.heap.size + 1, 0, none⟩) 1 1, .int .i64 2] 26).alloc _, ?h2, ((Below.refl _ _).alloc (Nat.le_refl _) _).alloc (by simp) _⟩ ?_
 case h2 =>
  have := wcells_new (w.alloc (.cells #[.slice (some ⟨w.heap.size + 1, 0, none⟩) 1 1, .int .i64 2] 26)) (ncells newR).toArray 47
  rw [show (w.alloc (.cells #[.slice (some ⟨w.heap.size + 1, 0, none⟩) 1 1, .int .i64 2] 26)).heap.size = w.heap.size + 1 by simp] at this
  exact this
 rintro W ⟨h1, h2, hb⟩
 have x0 := (h1.2 0 _ rfl).1
 have x1 := (h1.2 1 _ rfl).1
 refine bodyPost_ret (v := .agg #[.slice (some ⟨w.heap.size + 1, 0, none⟩) 1 1, .int .i64 2]) (by simp [results, Tryz.results30, go_sem, x0, x1]) rfl ⟨_, rfl, ⟨_, 1, [newR], rfl, rfl, Nat.le_refl _, .inr ⟨_, rfl, ?_⟩⟩, hb⟩
 exact ⟨by simpa [NK.cells] using h2, by omega, h2.1, fun r hr => .inl (by rw [List.mem_singleton.1 hr]; rfl), by simp⟩
end Go.Proofs.YtakhagkhngmpaaaGreat
