/- Texts of ours, laid one behind the other: PathB, PathC, GrwA, EdA, LsA, LeM, AkP, EdB, SpAk, MemA, SlG. -/
import Derived.Test.YtendbipfmgnjkaaPe2
import Derived.BigQuiet
import Derived.Deep.CutRange
import Derived.PlainAid
import Derived.OwnWalk
import Derived.Deep.RegionHeld3
import Derived.Deep.DrawnRows
/- PathB: The walks of the models' SplitPath and JoinPath. -/
namespace Go.Proofs.Ytendbipfmgnjkaa
set_option maxRecDepth 100000
open Go.RowKit
open Go.PlainAid (bt)
attribute [local go_sem ↓] Go.wp_at_zero Go.wp_at_succ

/-- What an answer of texts and a flag is, in a row that may be made longer. -/
def OPost (R : List ByteArray × Bool) (w : World) (e : Ending) (w' : World) : Prop := ∃ v, e = .returned (.tuple #[v, .bool R.2]) ∧ w'.ownsRow w.heap.size 9 1 v R.1.length (tv R.1) ∧ Below w.heap.size w w'
theorem OPost.none {R : List ByteArray × Bool} {b : Bool} {w w' : World} {v : Value} (h : R = ([], b)) (ho : w'.ownsRow w.heap.size 9 1 v 0 []) (hb : Below w.heap.size w w') : OPost R w (.returned (.tuple #[v, .bool b])) w' := by
  unfold OPost
  rw [h]
  exact ⟨v, rfl, ho, hb⟩
theorem OPost.some {R L : List ByteArray × Bool} {w w' : World} {v : Value} (h : R = L) (ho : w'.ownsRow w.heap.size 9 1 v L.1.length (tv L.1)) (hb : Below w.heap.size w w') : OPost R w (.returned (.tuple #[v, .bool L.2])) w' := by
  rw [h]
  exact ⟨v, rfl, ho, hb⟩
theorem own_made0 {w w' : World} (hb : Below w.heap.size w w') : (w'.alloc (.cells #[] 9)).ownsRow w.heap.size 9 1 (.slice (.some ⟨w'.heap.size, 0, none⟩) 0 0) 0 [] := World.ownsRow_made w' #[] 0 hb.size (by decide) rfl
theorem splitB_first {p : ByteArray} (h : p.size = 0 ∨ bt p 0 ≠ 47) : splitB p = ([], false) := by
  have hl : (lb p).length = p.size := rfl
  unfold splitB
  cases e : lb p with
  | nil => rfl
  | cons c r =>
    have hc : c ≠ 47 := fun q => by
      subst q
      rw [e] at hl
      simp at hl
      rcases h with h | h
      · omega
      · apply h
        have h1 : 0 < p.size := by omega
        rw [bt_at h1]
        simp only [e, List.getElem_cons_zero]
        decide
    have e2 : splitP (c :: r) = ([], false) := by unfold splitP; exact if_neg hc
    rw [e2]; rfl
theorem splitB_one {p : ByteArray} (h : p = ⟨#[47]⟩) : splitB p = ([], true) := by subst h; rfl
theorem one_slash {p : ByteArray} (h : p.size = 1) (h0 : bt p 0 = 47) : p = ⟨#[47]⟩ := by
  have hl : (lb p).length = p.size := rfl
  have e : lb p = [47] := by
    cases e : lb p with
    | nil => rw [e] at hl; simp at hl; omega
    | cons c r =>
      rw [e] at hl
      have hr : r = [] := List.eq_nil_of_length_eq_zero (by simp at hl; omega)
      subst hr
      congr 1
      have h2 := bt_at (s := p) (j := 0) (by omega)
      simp only [e, List.getElem_cons_zero] at h2
      rw [h0] at h2
      have h3 : c.toNat = 47 := by omega
      exact UInt8.toNat_inj.1 h3
  have := congrArg ba e
  rw [ba_lb] at this
  exact this
/-- What the way through a path knows. -/
structure PaWay (p : ByteArray) (k bg : Nat) (done : List ByteArray) : Prop where
  open' : k ≤ p.size → PaRel p k bg done
  fin : p.size < k → (segs ((lb p).drop 1)).map ba = done ∧ ∀ s ∈ done, nameB s = true
theorem PaWay.split {p : ByteArray} {k bg : Nat} {done : List ByteArray} (h : PaWay p k bg done) (hk : k ≤ p.size) (hc : k < p.size → bt p k = 47) : ∃ rest, (segs ((lb p).drop 1)).map ba = (done ++ [p.extract bg k]) ++ rest := by
  by_cases e : k < p.size
  · exact ⟨_, (h.open' hk).split e (hc e)⟩
  · exact ⟨[], by rw [List.append_nil]; exact (h.open' hk).fin (by omega)⟩
theorem PaWay.bad {p : ByteArray} {k bg : Nat} {done : List ByteArray} (h : PaWay p k bg done) (h1 : 1 < p.size) (h0 : bt p 0 = 47) (hk : k ≤ p.size) (hc : k < p.size → bt p k = 47) (hn : nameB (p.extract bg k) = false) : splitB p = ([], false) := by
  obtain ⟨rest, e⟩ := h.split hk hc
  rw [splitB_rest h1 h0, if_neg (fun q => by
    have := q.1 (p.extract bg k) (by rw [e]; simp)
    rw [hn] at this; cases this)]
theorem PaWay.next {p : ByteArray} {k bg : Nat} {done : List ByteArray} (h : PaWay p k bg done) (hk : k ≤ p.size) (hc : k < p.size → bt p k = 47) (hn : nameB (p.extract bg k) = true) : PaWay p (k + 1) (k + 1) (done ++ [p.extract bg k]) := by
  refine ⟨fun q => (h.open' hk).next (by omega) (hc (by omega)) hn, fun q => ⟨(h.open' hk).fin (by omega), fun s hs => ?_⟩⟩
  rcases List.mem_append.1 hs with q | q
  · exact (h.open' hk).names s q
  · simp at q; subst q; exact hn
theorem PaWay.step {p : ByteArray} {k bg : Nat} {done : List ByteArray} (h : PaWay p k bg done) (hk : k < p.size) (hc : bt p k ≠ 47) : PaWay p (k + 1) bg done := ⟨fun _ => (h.open' (by omega)).step hc, fun q => by omega⟩
theorem PaWay.done {p : ByteArray} {k bg : Nat} {done : List ByteArray} (h : PaWay p k bg done) (h1 : 1 < p.size) (h0 : bt p 0 = 47) (hk : p.size < k) : splitB p = if done.length ≤ 4 then (done, true) else ([], false) := by
  obtain ⟨e, hn⟩ := h.fin hk
  rw [splitB_rest h1 h0, e]
  by_cases q : done.length ≤ 4
  · rw [if_pos ⟨hn, q⟩, if_pos q]
  · rw [if_neg (fun k => q k.2), if_neg q]
set_option maxRecDepth 100000 in
set_option maxHeartbeats 2000000 in
theorem specSplitPath (p : ByteArray) (w : World) (hs : p.size ≤ 1048576) : Calls Try.prog 86 #[.string p] w fun e w' => OPost (splitB p) w e w' := by
  obtain ⟨i0, hi, hz0, hz1, hz2⟩ := info_parts infoTextG
  have hb := Go.PlainAid.get_bt p
  have hal : Below w.heap.size w (w.alloc (.cells #[] 9)) := (Below.refl _ _).alloc (Nat.le_refl _) _
  have HAL := Shut.mk hal
  have HOW := Shut.mk (own_made0 (Below.refl w.heap.size w))
  clear hal
  by_cases h0 : p.size = 0
  · have HE := Shut.mk (splitB_first (.inl h0))
    have h0' : ((p.size : Int) == 0) = true := by rw [h0]; rfl
    go_enter Try.func86, Try.ntmps86
    go_wp2_with fail
    go_ret2
    exact OPost.none HE.out HOW.out HAL.out
  have h0' : ((p.size : Int) == 0) = false := by rw [beq_eq_false_iff_ne]; omega
  have h0n : 0 < p.size := by omega
  have h0i : (0 : Int) < (p.size : Int) := by omega
  have b0 := Go.PlainAid.bt_nonneg p 0
  have b1 := Go.PlainAid.bt_le p 0
  by_cases hc : bt p 0 = 47
  case neg =>
    have HE := Shut.mk (splitB_first (.inr hc))
    have hc' : (bt p 0 != 47) = true := by rw [bne_iff_ne]; exact hc
    go_enter Try.func86, Try.ntmps86
    go_wp2_with fail
    go_ret2
    exact OPost.none HE.out HOW.out HAL.out
  have hc' : (bt p 0 != 47) = false := by rw [hc]; rfl
  have HC := Shut.mk hc
  clear hc
  by_cases h1 : p = ⟨#[47]⟩
  · have HE := Shut.mk (splitB_one h1)
    have h1' : (p.toList == [47]) = true := by rw [h1, Go.ByteArray.toList_eq]; rfl
    have HP := Shut.mk h1
    clear h1
    go_enter Try.func86, Try.ntmps86
    go_wp2_with fail
    go_ret2
    exact OPost.none HE.out HOW.out HAL.out
  have h1' : (p.toList == [47]) = false := by
    rw [beq_eq_false_iff_ne]
    intro e
    rw [Go.ByteArray.toList_eq] at e
    exact h1 (ByteArray.ext (Array.toList_inj.1 e))
  have hsz : 1 < p.size := by
    by_cases e : p.size = 1
    · exact absurd (one_slash e HC.out) h1
    · omega
  clear h1
  go_enter Try.func86, Try.ntmps86
  go_wp2_with fail
  go_loopw [4, 5, 6] (fun v bg i wr => ∃ (k g : Nat) (done : List ByteArray) (vv : Value), vv = v ∧ bg = .int .i64 g ∧ i = .int .i64 k ∧ k ≤ p.size + 1 ∧ g ≤ k ∧ done.length ≤ k ∧ Shut (PaWay p k g done) ∧ Shut (wr.ownsRow w.heap.size 9 1 vv done.length (tv done)) ∧ Shut (Below w.heap.size w wr)) (fun _ _ i _ => p.size + 1 - (intOf i).toNat)
  case atStart => exact ⟨1, 1, [], _, rfl, rfl, rfl, by omega, by omega, by simp, ⟨⟨fun _ => PaRel.start, fun h => by omega⟩⟩, HOW, HAL⟩
  case round =>
    clear HOW HAL
    obtain ⟨k, g, done, v, rfl, rfl, rfl, hk, hgk, hdk, hway, hown, hbl⟩ := hrel
    have hB := hbl.out.size
    by_cases hlt : k < p.size
    · have c0 := Go.PlainAid.bt_nonneg p k
      have c1 := Go.PlainAid.bt_le p k
      have k1 : (k : Int) ≤ (p.size : Int) := by omega
      have k2 : (k : Int) < (p.size : Int) := by omega
      have k3 : (0 : Int) ≤ (k : Int) := by omega
      by_cases hne : bt p k = 47
      · have hne' : (bt p k != 47) = false := by rw [hne]; rfl
        have hsl := slice_str p g k hgk (by omega)
        have hes : (p.extract g k).size ≤ 1048576 := by rw [ByteArray.size_extract]; omega
        have HN := Shut.mk (fun W => specNameOk (p.extract g k) W hes)
        have HNE := Shut.mk hne
        clear hne
        cases hn : nameB (p.extract g k) with
        | false =>
          have HE := Shut.mk (hway.out.bad hsz HC.out (by omega) (fun _ => HNE.out) hn)
          rw [hn] at HN
          clear hn
          go_wp2_with fail
          refine (HN.out _).mono ?_
          rintro e w2 ⟨rfl, hb2⟩
          have HB2 := Shut.mk (hbl.out.trans (hb2.mono hbl.out.size))
          clear hb2
          go_wp2_with fail
          go_ret2
          exact OPost.none HE.out (own_made0 HB2.out) (HB2.out.alloc HB2.out.size _)
        | true =>
          have HE := Shut.mk (hway.out.next (by omega) (fun _ => HNE.out) hn)
          rw [hn] at HN
          clear hn
          generalize p.extract g k = x at *
          go_wp2_with fail
          refine (HN.out _).mono ?_
          rintro e w2 ⟨rfl, hb2⟩
          have HB2 := Shut.mk (hbl.out.trans (hb2.mono hbl.out.size))
          have hB2 := HB2.out.size
          have hown2 := hown.out.kept (row := none) ⟨hb2.os, hb2.tape, hb2.output, hb2.size, fun k hk _ => hb2.block k hk⟩ (Classical.em _)
          clear hb2 HN hway hown
          go_wp2_with (at_builtin; refine wpList_append_own _ rfl _ _ 45 rfl w.heap.size 9 i0 (.string ⟨#[]⟩) 1 16 Try.underlying45 hi hz0 hz1 hz2 rfl (by decide) _ _ _ rfl (hown2.alloc _) ⟨w2.heap.size, 0, none⟩ 1 1 [.string x] rfl rfl (cell_one_new _ _ _) ?c2 ?c3 ?c4 ?c5 ?_)
          case c2 => first | rfl | (intro u hu; simp at hu; subst hu; rfl)
          case c3 => unfold maxLen; omega
          case c4 => omega
          case c5 => first | omega | (simp; omega)
          intro v' w4 hown' hgrow _
          rw [tv_snoc] at hown'
          have Q1 : Shut (w4.ownsRow w.heap.size 9 1 v' (done ++ [x]).length (tv (done ++ [x]))) := ⟨by rw [List.length_append, List.length_singleton]; exact hown'⟩
          have Q2 := Shut.mk ((HB2.out.alloc hB2 (.cells #[.string x] 9)).grown hgrow (by simp; omega) (fun j hj => (hown2.lt j hj).1))
          clear hown' hgrow hown2
          go_wp2_with fail
          go_roundw
          case rel => exact ⟨k + 1, k + 1, _, v', rfl, by go_num, by go_num, by omega, by omega, by rw [List.length_append, List.length_singleton]; omega, HE, Q1, Q2⟩
          case measure => simp [intOf]; omega
      · have hne' : (bt p k != 47) = true := by rw [bne_iff_ne]; exact hne
        have HE := Shut.mk (hway.out.step hlt hne)
        go_wp2_with fail
        go_roundw
        case rel => exact ⟨k + 1, g, done, v, rfl, rfl, by go_num, by omega, by omega, by omega, HE, hown, hbl⟩
        case measure => simp [intOf]; omega
    · by_cases hek : k = p.size
      · have k1 : (k : Int) ≤ (p.size : Int) := by omega
        have k2 : ¬ (k : Int) < (p.size : Int) := by omega
        have hsl := slice_str p g k hgk (by omega)
        have hes : (p.extract g k).size ≤ 1048576 := by rw [ByteArray.size_extract]; omega
        have HN := Shut.mk (fun W => specNameOk (p.extract g k) W hes)
        have HK : Hid (k = p.size) := hek
        clear hek
        cases hn : nameB (p.extract g k) with
        | false =>
          have HE := Shut.mk (hway.out.bad hsz HC.out (by omega) (fun q => by omega) hn)
          rw [hn] at HN
          clear hn
          go_wp2_with fail
          refine (HN.out _).mono ?_
          rintro e w2 ⟨rfl, hb2⟩
          have HB2 := Shut.mk (hbl.out.trans (hb2.mono hbl.out.size))
          clear hb2
          go_wp2_with fail
          go_ret2
          exact OPost.none HE.out (own_made0 HB2.out) (HB2.out.alloc HB2.out.size _)
        | true =>
          have HE := Shut.mk (hway.out.next (by omega) (fun q => by omega) hn)
          rw [hn] at HN
          clear hn
          generalize p.extract g k = x at *
          go_wp2_with fail
          refine (HN.out _).mono ?_
          rintro e w2 ⟨rfl, hb2⟩
          have HB2 := Shut.mk (hbl.out.trans (hb2.mono hbl.out.size))
          have hB2 := HB2.out.size
          have hown2 := hown.out.kept (row := none) ⟨hb2.os, hb2.tape, hb2.output, hb2.size, fun k hk _ => hb2.block k hk⟩ (Classical.em _)
          clear hb2 HN hway hown
          go_wp2_with (at_builtin; refine wpList_append_own _ rfl _ _ 45 rfl w.heap.size 9 i0 (.string ⟨#[]⟩) 1 16 Try.underlying45 hi hz0 hz1 hz2 rfl (by decide) _ _ _ rfl (hown2.alloc _) ⟨w2.heap.size, 0, none⟩ 1 1 [.string x] rfl rfl (cell_one_new _ _ _) ?c2 ?c3 ?c4 ?c5 ?_)
          case c2 => first | rfl | (intro u hu; simp at hu; subst hu; rfl)
          case c3 => unfold maxLen; omega
          case c4 => omega
          case c5 => first | omega | (simp; omega)
          intro v' w4 hown' hgrow _
          rw [tv_snoc] at hown'
          have Q1 : Shut (w4.ownsRow w.heap.size 9 1 v' (done ++ [x]).length (tv (done ++ [x]))) := ⟨by rw [List.length_append, List.length_singleton]; exact hown'⟩
          have Q2 := Shut.mk ((HB2.out.alloc hB2 (.cells #[.string x] 9)).grown hgrow (by simp; omega) (fun j hj => (hown2.lt j hj).1))
          clear hown' hgrow hown2
          go_wp2_with fail
          go_roundw
          case rel => exact ⟨k + 1, k + 1, _, v', rfl, by go_num, by go_num, by omega, by omega, by rw [List.length_append, List.length_singleton]; omega, HE, Q1, Q2⟩
          case measure => simp [intOf]; omega
      · have k1 : ¬ (k : Int) ≤ (p.size : Int) := by omega
        have hfin := hway.out.done hsz HC.out (by omega)
        have hown2 := hown.out
        obtain ⟨a, cap, rfl⟩ : ∃ a cap, v = .slice a done.length cap := by
          rcases hown2.2 with ⟨e, h0⟩ | ⟨g, cap, _, e, _⟩
          · exact ⟨none, 0, by rw [e, h0]⟩
          · exact ⟨_, cap, e⟩
        clear hown2
        by_cases h4 : done.length ≤ 4
        · have HE := Shut.mk (show splitB p = (done, true) by rw [hfin, if_pos h4])
          have h4' : ¬ (4 : Int) < (done.length : Int) := by omega
          clear hfin hway
          go_wp2_with fail
          go_ret2
          exact OPost.some HE.out hown.out hbl.out
        · have HE := Shut.mk (show splitB p = ([], false) by rw [hfin, if_neg h4])
          have h4' : (4 : Int) < (done.length : Int) := by omega
          clear hfin hway
          go_wp2_with fail
          go_ret2
          exact OPost.none HE.out (own_made0 hbl.out) (hbl.out.alloc hbl.out.size _)
/-- A path, name by name. -/
def joinA (L : List ByteArray) : ByteArray := ba ((L.map lb).map (47 :: ·)).flatten
theorem joinA_snoc (L : List ByteArray) (x : ByteArray) : joinA (L ++ [x]) = (joinA L ++ ⟨#[47]⟩) ++ x := by
  apply ByteArray.ext
  unfold joinA
  simp
theorem joinA_size (L : List ByteArray) : (joinA L).size = L.length + tsum L := by
  induction L with
  | nil => rfl
  | cons x L ih =>
    have e : joinA (x :: L) = (⟨#[47]⟩ : ByteArray) ++ x ++ joinA L := by
      apply ByteArray.ext
      unfold joinA
      simp
    rw [e, ByteArray.size_append, ByteArray.size_append, ih]
    simp only [tsum, List.length_cons]
    have : (⟨#[47]⟩ : ByteArray).size = 1 := rfl
    omega
theorem joinB_ne {L : List ByteArray} (h : L ≠ []) : joinB L = joinA L := by
  unfold joinB joinP joinA
  rw [if_neg (fun e => h (List.map_eq_nil_iff.1 e))]
set_option maxHeartbeats 1000000 in
theorem specJoinPath {w : World} {v : Value} {L : List ByteArray} {lo hi : Nat} (hv : SSee w v L lo hi) (hf : TFit L) : Calls Try.prog 87 #[v] w fun e w' => e = .returned (.string (joinB L)) ∧ Below w.heap.size w w' := by
  obtain ⟨a, cap, rfl, hr⟩ := hv
  have hn : L.length + tsum L ≤ 1048576 := hf
  by_cases h0 : L = []
  · subst h0
    clear hr hf hn
    go_enter Try.func87, Try.ntmps87
    go_wp2_with fail
    go_ret
    exact ⟨rfl, Below.refl _ _⟩
  · have HE := Shut.mk (joinB_ne h0)
    have h1 : 0 < L.length := List.length_pos_iff.2 h0
    have h1' : ((L.length : Int) == 0) = false := by rw [beq_eq_false_iff_ne]; omega
    have HR := Shut.mk hr
    clear hr h0 hf
    go_enter Try.func87, Try.ntmps87
    go_wp2_with fail
    go_loopw [3, 4] (fun s i wr => ∃ (k : Nat), i = .int .i64 k ∧ k ≤ L.length ∧ s = .string (joinA (L.take k)) ∧ Shut (Below w.heap.size w wr)) (fun _ i _ => L.length - (intOf i).toNat)
    case atStart => exact ⟨0, rfl, Nat.zero_le _, rfl, ⟨Below.refl _ _⟩⟩
    case round =>
      obtain ⟨k, rfl, hk, rfl, hbl⟩ := hrel
      by_cases hlt : k < L.length
      · obtain ⟨b, off, rfl, lb', hc⟩ := units_at HR.out (by omega)
        have d0 := (hbl.out.cell (p := ⟨b, off + k, none⟩) lb').trans (hc k hlt)
        have k0 : (0 : Int) ≤ (k : Int) := by omega
        have k1 : (k : Int) < (L.length : Int) := by omega
        have hst : joinA (L.take (k + 1)) = (joinA (L.take k) ++ ⟨#[47]⟩) ++ L.getD k ⟨#[]⟩ := by
          rw [List.take_succ_eq_append_getElem hlt, joinA_snoc]
          simp [List.getD, hlt]
        have hz1 := joinA_size (L.take k)
        have hz2 := tsum_le L k
        have hz3 : (L.take k).length ≤ L.length := by rw [List.length_take]; omega
        have hz4 := tsum_take L k hlt
        have hz5 := tsum_le L (k + 1)
        generalize L.getD k ⟨#[]⟩ = x at *
        have hja : (joinA (L.take k)).size + x.size + 1 ≤ 2097152 := by omega
        generalize joinA (L.take k) = J at *
        have HST := Shut.mk hst
        clear hst hc hz1 hz2 hz3 hz4 hz5
        go_wp2_with fail
        go_roundw
        case rel => exact ⟨k + 1, by go_num, by omega, by rw [HST.out], hbl⟩
        case measure => simp [intOf]; omega
      · have hlt' : ¬ (k : Int) < (L.length : Int) := by omega
        have HF : Shut (joinA (L.take k) = joinB L) := ⟨by rw [List.take_of_length_le (by omega), HE.out]⟩
        generalize joinA (L.take k) = J at *
        go_wp2_with fail
        go_ret
        exact ⟨congrArg (fun x => Ending.returned (.string x)) HF.out, hbl.out⟩
end Go.Proofs.Ytendbipfmgnjkaa
/- PathC: The walk of the model's ParentPath; what is told of the program's own functions over paths. -/
namespace Go.Proofs.Ytendbipfmgnjkaa
set_option maxRecDepth 100000
open Go.RowKit
open Go.PlainAid (bt)
attribute [local go_sem ↓] Go.wp_at_zero Go.wp_at_succ

def ParPost (p : ByteArray) (w : World) (e : Ending) (w' : World) : Prop := e = .returned (.tuple #[.string (parentB p).1, .string (parentB p).2.1, .bool (parentB p).2.2]) ∧ Below w.heap.size w w'
theorem parent_no {p : ByteArray} {L : List ByteArray} {ok : Bool} (h : splitB p = (L, ok)) (hn : ok = false ∨ L = []) : parentB p = (⟨#[]⟩, ⟨#[]⟩, false) := by
  unfold parentB
  rw [h]
  rw [if_neg (fun q => by
    rcases hn with e | e
    · rw [e] at q; cases q.1
    · exact q.2 e)]
theorem parent_yes {p : ByteArray} {I : List ByteArray} {x : ByteArray} (h : splitB p = (I ++ [x], true)) : parentB p = (joinB I, x, true) := by
  unfold parentB
  rw [h, if_pos ⟨rfl, by simp⟩]
  simp
theorem names_fit {L : List ByteArray} (h : ∀ s ∈ L, nameB s = true) (h4 : L.length ≤ 4) : TFit L := by
  have hs : ∀ s ∈ L, s.size ≤ 8 := fun s hs => ((nameB_iff s).1 (h s hs)).2.2
  have : tsum L ≤ L.length * 8 := by
    clear h h4
    induction L with
    | nil => simp [tsum]
    | cons x L ih =>
      simp only [tsum, List.length_cons, Nat.add_mul, Nat.one_mul]
      have h1 := hs x (by simp)
      have h2 := ih (fun s h => hs s (by simp [h]))
      omega
  unfold TFit
  omega
theorem own_form9 {w : World} {B n : Nat} {t : TypeId} {v : Value} {L : List Value} (h : w.ownsRow B t 1 v n L) : ∃ a cap, v = .slice a n cap := by
  rcases h.2 with ⟨e, h0⟩ | ⟨g, cap, _, e, _⟩
  · exact ⟨none, 0, by rw [e, h0]⟩
  · exact ⟨_, cap, e⟩
theorem own_some9 {w : World} {B n : Nat} {t : TypeId} {v : Value} {L : List Value} (h : w.ownsRow B t 1 v n L) (hp : 0 < n) : ∃ g cap, v = .slice (some ⟨g, 0, none⟩) n cap ∧ n ≤ cap := by
  rcases h.2 with ⟨_, h0⟩ | ⟨g, cap, _, e, _, _, hc, _⟩
  · omega
  · exact ⟨g, cap, e, hc⟩
theorem own_part9 {w : World} {g cap B n k : Nat} {L : List ByteArray} (hown : w.ownsRow B 9 1 (.slice (some ⟨g, 0, none⟩) n cap) n (tv L)) (hk : k ≤ L.length) : SSee w (.slice (some ⟨g, 0, none⟩) k cap) (L.take k) 0 w.heap.size := by
  have hw := own_wcells hown
  refine ⟨_, cap, by rw [List.length_take, Nat.min_eq_left hk], fun _ => ⟨g, 0, rfl, Nat.zero_le _, hw.1, hw.1, fun i v hv => ?_⟩⟩
  rw [Nat.zero_add]
  have hv' : (tv L)[i]? = some v := by
    unfold tv at hv ⊢
    rw [List.map_take] at hv
    rw [List.getElem?_take] at hv
    split at hv
    · exact hv
    · cases hv
  exact (hw.2 i v hv').1
set_option maxRecDepth 100000 in
set_option maxHeartbeats 2000000 in
theorem specParentPath (p : ByteArray) (w : World) (hs : p.size ≤ 1048576) : Calls Try.prog 74 #[.string p] w fun e w' => ParPost p w e w' := by
  have HS := Shut.mk (fun W => specSplitPath p W hs)
  have hnm := splitB_names p
  unfold OPost at HS
  unfold ParPost
  obtain ⟨L, ok, hre⟩ : ∃ L ok, splitB p = (L, ok) := ⟨_, _, rfl⟩
  rw [hre] at HS hnm
  have HN := Shut.mk hnm
  clear hnm
  cases ok with
  | false =>
    rw [parent_no hre (.inl rfl)]
    clear hre
    go_enter Try.func74, Try.ntmps74
    go_wp2_with fail
    refine (HS.out _).mono ?_
    rintro e w1 ⟨v, rfl, ho, hb⟩
    obtain ⟨a, cap, rfl⟩ := own_form9 ho
    have HB := Shut.mk hb
    clear ho hb
    go_wp2_with fail
    go_ret3
    exact ⟨rfl, HB.out⟩
  | true =>
    rcases List.eq_nil_or_concat L with rfl | ⟨I, x, rfl⟩
    · rw [parent_no hre (.inr rfl)]
      clear hre
      go_enter Try.func74, Try.ntmps74
      go_wp2_with fail
      refine (HS.out _).mono ?_
      rintro e w1 ⟨v, rfl, ho, hb⟩
      obtain ⟨a, cap, rfl⟩ := own_form9 ho
      have HB := Shut.mk hb
      clear ho hb
      go_wp2_with fail
      go_ret3
      exact ⟨rfl, HB.out⟩
    · rw [List.concat_eq_append] at *
      rw [parent_yes hre]
      obtain ⟨J, hJ⟩ : ∃ J, J = joinB I := ⟨_, rfl⟩
      have HJE := Shut.mk hJ
      rw [← hJ]
      clear hJ
      have h4 := HN.out.2
      have HF : Shut (TFit I) := ⟨names_fit (fun s h => HN.out.1 s (List.mem_append.2 (.inl h))) (by rw [List.length_append] at h4; omega)⟩
      obtain ⟨m, hm⟩ : ∃ m, m = I.length := ⟨_, rfl⟩
      have HM := Shut.mk hm
      have hm4 : m ≤ 4 := by rw [List.length_append] at h4; omega
      rw [show (I ++ [x], true).1.length = m + 1 by simp [hm]] at HS
      clear hre h4 hm
      go_enter Try.func74, Try.ntmps74
      go_wp2_with fail
      refine (HS.out _).mono ?_
      rintro e w1 ⟨v, rfl, ho, hb⟩
      obtain ⟨g, cap, rfl, hcap⟩ := own_some9 ho (by omega)
      have hw := own_wcells ho
      have d0 : w1.cell? ⟨g, m, none⟩ = some (.string x) := (hw.2 m (.string x) (by
        rw [tv_get _ m (by rw [List.length_append, HM.out]; simp)]
        simp [List.getD, HM.out])).1
      have hg := hw.1
      have hsee := own_part9 (k := m) ho (by rw [List.length_append, HM.out]; simp)
      rw [show (I ++ [x]).take m = I by rw [HM.out]; simp] at hsee
      have HJ := Shut.mk (fun W (hW : Below w1.heap.size w1 W) => specJoinPath (hsee.below hW) HF.out)
      have HB := Shut.mk hb
      have hm0 : (((m + 1 : Nat) : Int) == 0) = false := by rw [beq_eq_false_iff_ne]; omega
      obtain ⟨n, hn⟩ : ∃ n, n = m + 1 := ⟨_, rfl⟩
      rw [← hn] at hcap hm0 ⊢
      have hnm : (n : Int) - 1 = (m : Int) := by omega
      have hmn : (m : Int) < (n : Int) := by omega
      have hmc : (m : Int) ≤ (cap : Int) := by omega
      have hm9 : (0 : Int) ≤ (m : Int) := by omega
      have hwr : IntKind.i64.wrap ((n : Int) - 1) = (m : Int) := by rw [hnm]; exact IntWalk.i64_in _ ⟨by omega, by omega⟩
      rw [← HJE.out] at HJ
      clear ho hb hw hsee hn HN HM hnm
      go_wp2_with fail
      go_region_held3 (fun w' => w'.cell? ⟨g, m, none⟩ = some (.string x))
        (first | assumption | (exact (hb9.cell (p := ⟨g, m, none⟩) hg).trans (by assumption)) | go_keep)
        (first | (go_at_call 87; refine (HJ.out _ (by first | exact Below.refl _ _ | exact Below.drew (Below.refl _ _))).mono ?_; rintro e w9 ⟨rfl, hb9⟩))
      all_goals
        go_wp2_with fail
        go_ret3
        exact ⟨rfl, by first | exact HB.out.trans (hb9.mono HB.out.size) | exact HB.out.trans (((Below.drew (Below.refl w1.heap.size w1)).trans hb9).mono HB.out.size)⟩
end Go.Proofs.Ytendbipfmgnjkaa
/- GrwA: A region that draws its order, whose operations only read and whose callees make new memory alone and answer one value wherever they are called: one walk, in the text's order. -/
namespace Go.Proofs.Ytendbipfmgnjkaa
set_option maxRecDepth 100000
open Go.RowKit

/-- A world with more memory. -/
structure Grow (w : World) where
  val : World
  bel : Below w.heap.size w val
instance {w : World} : Nonempty (Grow w) := ⟨⟨w, Below.refl _ _⟩⟩
theorem wp_region_grow {P : Program} {id : Nat} {Q : Exit → Act → World → Prop} {a : Act} {w : World} {l : List Oper} (hm : P.follows .mixedOrders = true) (hB : Region.lexB .any l.toArray = true)
    (h : wpQuiet P l.toArray (fun W => ∃ X : Grow w, W = X.val) (fun a' => ∀ w', (∃ X : Grow w, w' = X.val) → Q .normal a' w') l a) : (Code.region id l.toArray true).wp P Q a w :=
  wp_region_quiet (C := fun W => ∃ X : Grow w, W = X.val) hm hB ⟨⟨w.drew, Below.drew (Below.refl _ _)⟩, rfl⟩ (by simpa using h)
theorem Grow.cell {w : World} (X : Grow w) {p : Addr} {v : Value} (h : w.cell? p = some v) (hl : p.block < w.heap.size) : X.val.cell? p = some v := (X.bel.cell hl).trans h
theorem calls_grow {P : Program} {f : FuncId} {args : Array Value} {w : World} {v : Value} (h : ∀ W, Below w.heap.size w W → Calls P f args W fun e w' => e = .returned v ∧ Below W.heap.size W w') (X : Grow w) :
    Calls P f args X.val fun e w'' => e = .returned v ∧ ∃ Y : Grow w, w'' = Y.val :=
  (h X.val X.bel).mono fun _ w'' ⟨he, hb⟩ => ⟨he, ⟨w'', X.bel.trans (hb.mono X.bel.size)⟩, rfl⟩
theorem calls_same {P : Program} {f : FuncId} {args : Array Value} {w : World} {v : Value} (h : ∀ W, Below w.heap.size w W → Calls P f args W fun e w' => e = .returned v ∧ w' = W) (X : Grow w) :
    Calls P f args X.val fun e w'' => e = .returned v ∧ ∃ Y : Grow w, w'' = Y.val :=
  (h X.val X.bel).mono fun _ _ ⟨he, hb⟩ => ⟨he, X, hb⟩
end Go.Proofs.Ytendbipfmgnjkaa
/- EdA: Records, plain, and as values; the model's EditOk. -/
namespace Go.Proofs.Ytendbipfmgnjkaa
set_option maxRecDepth 100000
open Go.RowKit BigFrame
attribute [local go_sem ↓] Go.wp_at_zero Go.wp_at_succ

/-- A record. -/
structure EM where
  kind : Int
  path : ByteArray
  dest : ByteArray
  num : Int
  who : Int
instance : Inhabited EM := ⟨⟨0, ⟨#[]⟩, ⟨#[]⟩, 0, 0⟩⟩
abbrev ev (e : EM) : Value := .agg #[.int .i64 e.kind, .string e.path, .string e.dest, .int .i64 e.num, .int .i64 e.who]
def ecells (e : EM) : List Value := [.int .i64 e.kind, .string e.path, .string e.dest, .int .i64 e.num, .int .i64 e.who]
theorem ecells_len (e : EM) : (ecells e).length = 5 := rfl
/-- A record whose texts a machine can hold. -/
def EFit (e : EM) : Prop := e.path.size ≤ 1048576 ∧ e.dest.size ≤ 1048576
/-- A path that is not the root's. -/
def named (p : ByteArray) : Bool := (parentB p).2.2
/-- What is wrong with a record's paths. -/
def pathBad (e : EM) : Bool := (!named e.path && !(((e.kind == 5) || (e.kind == 6)) && (e.path.toList == [47]))) || ((e.kind == 3) != named e.dest) || ((e.kind != 3) && (e.dest.toList != []))
/-- Its numbers, by its kind. -/
def numsOk (e : EM) : Bool := if e.kind = 5 then inI e.num 1 3 && (e.who == 0) else if e.kind = 6 then inI e.num 0 1000 && (e.who == 0) else if e.kind = 7 then inI e.num 1 200 && (e.who == 0) else if e.kind = 2 ∨ e.kind = 9 then (e.num == 0) && inI e.who 1 9 else (e.num == 0) && (e.who == 0)
/-- A right record. -/
def editOk (e : EM) : Bool := inI e.kind 1 10 && (if e.kind = 10 then (e.path.toList == [47]) && (e.dest.toList == []) && (e.num == 0) && (e.who == 0) else !pathBad e && numsOk e)
theorem specNamed (p : ByteArray) (w : World) (hs : p.size ≤ 1048576) : Calls Try.prog 50 #[.string p] w fun e w' => e = .returned (.bool (named p)) ∧ Below w.heap.size w w' := by
  have HC := Shut.mk (fun W => specParentPath p W hs)
  unfold ParPost at HC
  have e0 : named p = (parentB p).2.2 := rfl
  rw [e0]
  generalize (parentB p).2.2 = a at *
  generalize (parentB p).2.1 = b at *
  generalize (parentB p).1 = c at *
  clear hs e0
  go_enter Try.func50, Try.ntmps50
  go_wp2_with fail
  refine (HC.out _).mono ?_
  rintro e w1 ⟨rfl, hb⟩
  go_wp2_with fail
  go_ret
  exact ⟨rfl, hb⟩
end Go.Proofs.Ytendbipfmgnjkaa
/- LsA: Rows of Leases in the laws: their sizes, their copies, two that are the same (written by gen/mkrow.py). -/
namespace Go.Proofs.Ytendbipfmgnjkaa
set_option maxRecDepth 100000
open Go.RowKit
attribute [local go_sem ↓] Go.wp_at_zero Go.wp_at_succ

structure LsM where
  path : ByteArray
  who : Int
  seen : Int
instance : Inhabited LsM := ⟨⟨⟨#[]⟩, 0, 0⟩⟩
abbrev lsv (f : LsM) : Value := .agg #[.string f.path, .int .i64 f.who, .int .i64 f.seen]
def lsC (f : LsM) : List Value := [.string f.path, .int .i64 f.who, .int .i64 f.seen]
theorem lsC_len (f : LsM) : (lsC f).length = 3 := rfl
def lsS (fs : List LsM) : List Value := fs.flatMap lsC
theorem lsS_len (fs : List LsM) : (lsS fs).length = fs.length * 3 := flat_len lsC_len fs
/-- A row in memory. -/
abbrev LsRow (w : World) (a : Option Addr) (fs : List LsM) : Prop := CRow w a (lsS fs)
theorem LsRow.at {w : World} {a : Option Addr} {fs : List LsM} (h : LsRow w a fs) (hp : 0 < fs.length) :
    ∃ b off, a = some ⟨b, off, none⟩ ∧ b < w.heap.size ∧ ∀ j (h : j < fs.length), w.cell? ⟨b, off + j * 3, none⟩ = some (.string fs[j].path) ∧ w.cell? ⟨b, off + j * 3 + 1, none⟩ = some (.int .i64 fs[j].who) ∧ w.cell? ⟨b, off + j * 3 + 2, none⟩ = some (.int .i64 fs[j].seen) := by
  obtain ⟨b, off, e, hb, hc⟩ := h (by rw [lsS_len]; omega)
  exact ⟨b, off, e, hb, fun j hj => ⟨hc (j * 3) _ (flat_get lsC_len fs j hj 0 (by omega)), hc (j * 3 + 1) _ (flat_get lsC_len fs j hj 1 (by omega)), hc (j * 3 + 2) _ (flat_get lsC_len fs j hj 2 (by omega))⟩⟩
def LsFit (f : LsM) : Prop := f.path.size ≤ 9223372036854775807 ∧ (-9223372036854775808 ≤ f.who ∧ f.who ≤ 9223372036854775807) ∧ (-9223372036854775808 ≤ f.seen ∧ f.seen ≤ 9223372036854775807)
def LsFits (fs : List LsM) : Prop := fs.length ≤ 9223372036854775807 ∧ ∀ f ∈ fs, LsFit f
def lsSum : List LsM → Nat
  | [] => 0
  | f :: fs => f.path.size + lsSum fs
theorem lsSum_take (fs : List LsM) (k : Nat) (h : k < fs.length) : lsSum (fs.take (k + 1)) = lsSum (fs.take k) + (fs[k].path.size) := by
  induction fs generalizing k with
  | nil => simp at h
  | cons f fs ih =>
    cases k with
    | zero => simp [lsSum]
    | succ k =>
      have := ih k (by simpa using h)
      simp only [List.take_succ_cons, lsSum, List.getElem_cons_succ]
      omega
theorem lsSum_mem {fs : List LsM} {f : LsM} (h : f ∈ fs) : f.path.size ≤ lsSum fs := by
  induction fs with
  | nil => cases h
  | cons g fs ih =>
    rcases List.mem_cons.1 h with rfl | q
    · simp only [lsSum]; omega
    · have := ih q
      simp only [lsSum]; omega
def SzPostLs (left : Int) (n : Nat) (w : World) (e : Ending) (w' : World) : Prop := ∃ r : Int, e = .returned (.int .i64 r) ∧ -1 ≤ r ∧ (0 ≤ r → r + n = left) ∧ Below w.heap.size w w'
/-- A copy, in a block of its own. -/
def ToPostLs (fs : List LsM) (w : World) (e : Ending) (w' : World) : Prop := ∃ g, e = .returned (.slice (some ⟨g, 0, none⟩) fs.length fs.length) ∧ w.heap.size ≤ g ∧ WCells w' g (lsS fs) ∧ Below w.heap.size w w'
theorem infoLease : (Try.prog.info? 113).map (fun i => (i.zero, i.size, i.bytes)) = some (some (.agg #[.string ⟨#[]⟩, .int .i64 0, .int .i64 0]), 3, 32) := by kernel_rfl
theorem eqLease_same (f : LsM) (w : World) :
    Calls Try.prog 80 #[lsv f, lsv f] w fun e w' => e = .returned (.bool true) ∧ Below w.heap.size w w' := by
  go_enter Try.func80, Try.ntmps80
  go_wp2_with fail
  go_ret
  exact ⟨rfl, ((Below.refl _ _).alloc (Nat.le_refl _) _).alloc (by simp) _⟩
set_option maxHeartbeats 1000000 in
theorem eqLeaseS_same (a b : Option Addr) (fs : List LsM) (ca cb : Nat) (w : World) (ha : LsRow w a fs) (hb : LsRow w b fs) (hl : fs.length ≤ 9000000) :
    Calls Try.prog 61 #[.slice a fs.length ca, .slice b fs.length cb] w fun e w' => e = .returned (.bool true) ∧ Below w.heap.size w w' := by
  have HA : Hid (LsRow w a fs) := ha
  have HB : Hid (LsRow w b fs) := hb
  clear ha hb
  go_enter Try.func61, Try.ntmps61
  go_wp2_with fail
  go_loopw [5] (fun i wr => ∃ (k : Nat), i = .int .i64 k ∧ k ≤ fs.length ∧ Below w.heap.size w wr) (fun i _ => fs.length - (intOf i).toNat)
  case atStart => exact ⟨0, rfl, Nat.zero_le _, Below.refl _ _⟩
  case round =>
    obtain ⟨k, rfl, hk, hbl⟩ := hrel
    by_cases hlt : k < fs.length
    · obtain ⟨b1, o1, rfl, l1, hc1⟩ := LsRow.at (HA.out.stays hbl) (by omega)
      obtain ⟨b2, o2, rfl, l2, hc2⟩ := LsRow.at (HB.out.stays hbl) (by omega)
      obtain ⟨d0, d1, d2⟩ := hc1 k hlt
      obtain ⟨e0, e1, e2⟩ := hc2 k hlt
      obtain ⟨f, hfe⟩ : ∃ f, f = fs[k] := ⟨_, rfl⟩
      rw [← hfe] at d0 d1 d2 e0 e1 e2
      have HS : Hid (Below w.heap.size w wr) := hbl
      have k0 : (0 : Int) ≤ (k : Int) := by omega
      have k1 : (k : Int) < (fs.length : Int) := by omega
      clear hc1 hc2 hfe hbl
      go_wp2_with fail
      go_region_held3 (fun w' => w'.cell? ⟨b1, o1 + k * 3, none⟩ = some (.string f.path) ∧ w'.cell? ⟨b1, o1 + k * 3 + 1, none⟩ = some (.int .i64 f.who) ∧ w'.cell? ⟨b1, o1 + k * 3 + 2, none⟩ = some (.int .i64 f.seen) ∧ w'.cell? ⟨b2, o2 + k * 3, none⟩ = some (.string f.path) ∧ w'.cell? ⟨b2, o2 + k * 3 + 1, none⟩ = some (.int .i64 f.who) ∧ w'.cell? ⟨b2, o2 + k * 3 + 2, none⟩ = some (.int .i64 f.seen))
        (first | go_keep | (refine ⟨?_, ?_, ?_, ?_, ?_, ?_⟩ <;> first | (rw [hb2.cell (by exact l1)]; simp [*]) | (rw [hb2.cell (by exact l2)]; simp [*])))
        ((go_at_call 80; refine (eqLease_same f _).mono ?_; rintro e w2 ⟨rfl, hb2⟩))
      all_goals go_wp2_with fail
      all_goals
        have hb3 : Below w.heap.size w w2 := HS.out.trans ((Below.drew (Below.refl _ _)).trans (hb2.mono HS.out.size))
        exact ⟨⟨k + 1, by go_num, by omega, hb3⟩, by simp [intOf]; omega⟩
    · have e : k = fs.length := by omega
      subst e
      go_wp2_with fail
      go_ret
      exact ⟨rfl, hbl⟩
end Go.Proofs.Ytendbipfmgnjkaa
/- LeM: Leases, plain: what each function of the chapter answers, as lists. -/
namespace Go.Proofs.Ytendbipfmgnjkaa
set_option maxRecDepth 100000
open Go.RowKit

/-- Two texts in order. -/
abbrev lt9 (a b : ByteArray) : Bool := Op.bytesLess a.toList b.toList
/-- A lease that is right by itself. -/
def lsOne (f : LsM) : Bool := named f.path && inI f.who 1 9 && inI f.seen 0 1000000000
/-- .. and at its place. -/
def lsAt (L : List LsM) (k : Nat) : Bool := lsOne (L.getD k default) && (decide (k = 0) || lt9 (L.getD (k - 1) default).path (L.getD k default).path)
def leasesOk (L : List LsM) : Bool := ((List.range L.length).all (lsAt L)) && decide (L.length ≤ 8)
/-- The first lease of a path. -/
def lsIdx (L : List LsM) (p : ByteArray) : Nat := L.findIdx fun f => f.path.toList == p.toList
def takeOk (L : List LsM) (p : ByteArray) (who now : Int) : Bool := leasesOk L && named p && inI who 1 9 && inI now 0 1000000000
/-- Those ahead of a path, and those behind it. -/
def lsLow (L : List LsM) (p : ByteArray) : List LsM := L.filter fun f => lt9 f.path p
def lsHigh (L : List LsM) (p : ByteArray) : List LsM := L.filter fun f => !(lt9 f.path p) && !(f.path.toList == p.toList)
def takeX (L : List LsM) (p : ByteArray) (who now : Int) : List LsM × Bool :=
  if takeOk L p who now then
    if lsIdx L p < L.length then
      if (L.getD (lsIdx L p) default).who ≠ who ∧ now - (L.getD (lsIdx L p) default).seen < 5 then (L, false)
      else (L.set (lsIdx L p) ⟨(L.getD (lsIdx L p) default).path, who, now⟩, true)
    else if L.length = 8 then (L, false) else (lsLow L p ++ [⟨p, who, now⟩] ++ lsHigh L p, true)
  else (L, false)
def renewX (L : List LsM) (who now : Int) : List LsM := L.map fun f => if f.who = who then ⟨f.path, f.who, now⟩ else f
def dropX9 (L : List LsM) (p : ByteArray) : List LsM := L.filter fun f => !(f.path.toList == p.toList)
def isOld (f : LsM) (now : Int) : Bool := inI f.seen 0 1000000000 && inI now 0 1000000000 && decide (12 ≤ now - f.seen)
def expiredX (L : List LsM) (now : Int) : List ByteArray := (L.filter fun f => isOld f now).map (·.path)
def holderX (L : List LsM) (p : ByteArray) : Int := if lsIdx L p < L.length then (L.getD (lsIdx L p) default).who else 0
/-- What is in a list of leases: few, and their paths short. -/
def LsSmall (L : List LsM) : Prop := L.length ≤ 1048576 ∧ (∀ f ∈ L, f.path.size ≤ 1048576) ∧ LsFits L
theorem leasesOk_len {L : List LsM} (h : leasesOk L = true) : L.length ≤ 8 := by
  unfold leasesOk at h
  rw [Bool.and_eq_true, decide_eq_true_eq] at h
  exact h.2
theorem leasesOk_at {L : List LsM} (h : leasesOk L = true) (k : Nat) (hk : k < L.length) : lsAt L k = true := by
  unfold leasesOk at h
  rw [Bool.and_eq_true] at h
  exact List.all_eq_true.1 h.1 k (by simpa using hk)
theorem leasesOk_mk {L : List LsM} (h : ∀ k, k < L.length → lsAt L k = true) (hl : L.length ≤ 8) : leasesOk L = true := by
  unfold leasesOk
  rw [Bool.and_eq_true, decide_eq_true_eq]
  exact ⟨List.all_eq_true.2 fun k hk => h k (by simpa using hk), hl⟩
theorem getD_ls (L : List LsM) (k : Nat) (h : k < L.length) : L.getD k default = L[k] := by simp [List.getD, h]
theorem lsIdx_found {L : List LsM} {p : ByteArray} {k : Nat} (hk : k < L.length) (h : (L[k].path.toList == p.toList) = true) (hb : ∀ j (hj : j < L.length), j < k → (L[j].path.toList == p.toList) = false) : lsIdx L p = k := by
  unfold lsIdx
  rw [List.findIdx_eq hk]
  exact ⟨h, fun j hj => hb j (by omega) hj⟩
theorem lsIdx_none {L : List LsM} {p : ByteArray} (hb : ∀ j (hj : j < L.length), (L[j].path.toList == p.toList) = false) : lsIdx L p = L.length := by
  unfold lsIdx
  rw [List.findIdx_eq_length]
  intro x hx
  obtain ⟨j, hj, rfl⟩ := List.getElem_of_mem hx
  exact hb j hj
theorem filter_take {α : Type} (f : α → Bool) (L : List α) (k : Nat) (h : k < L.length) : (L.take (k + 1)).filter f = (L.take k).filter f ++ if f L[k] = true then [L[k]] else [] := by
  rw [List.take_succ_eq_append_getElem h, List.filter_append]
  congr 1
  split <;> simp [*]
end Go.Proofs.Ytendbipfmgnjkaa
/- AkP: Asks: what their records are, and which are right: plain. -/
namespace Go.Proofs.Ytendbipfmgnjkaa
set_option maxRecDepth 100000
open Go.RowKit

/-- The record of an ask. -/
def edOf (q : AkM) : EM :=
  if q.kind = 1 then ⟨1, q.path, ⟨#[]⟩, 0, 0⟩
  else if q.kind = 2 then ⟨2, q.path, ⟨#[]⟩, 0, q.who⟩
  else if q.kind = 3 then ⟨7, q.path, ⟨#[]⟩, (q.text.size : Int), 0⟩
  else if q.kind = 4 then ⟨8, q.path, ⟨#[]⟩, 0, 0⟩
  else if q.kind = 5 then ⟨3, q.path, q.dest, 0, 0⟩
  else if q.kind = 6 then ⟨4, q.path, ⟨#[]⟩, 0, 0⟩
  else if q.kind = 8 then ⟨5, q.path, ⟨#[]⟩, q.num, 0⟩
  else if q.kind = 9 then ⟨6, q.path, ⟨#[]⟩, q.num, 0⟩
  else if q.kind = 10 then ⟨9, q.path, ⟨#[]⟩, 0, q.who⟩
  else ⟨0, ⟨#[]⟩, ⟨#[]⟩, 0, 0⟩
/-- A right ask. -/
def askOk (q : AkM) : Bool :=
  inI q.kind 1 10 && inI q.who 1 9 && !(q.kind != 5 && (q.dest.toList != [])) && !(q.kind != 8 && q.kind != 9 && (q.num != 0)) && (if q.kind = 3 then inI (q.text.size : Int) 1 60 else (q.text.toList == [])) && (if q.kind = 7 then named q.path else editOk (edOf q))
/-- Is a path one, or below it? -/
def underX (p top : ByteArray) : Bool := (p.toList == top.toList) || (decide (top.size < p.size) && ((p.extract 0 (top.size + 1)).toList == (top ++ ⟨#[47]⟩).toList))
/-- What keeps who asks from writing. -/
def mayX (L : List LsM) (q : AkM) : Int :=
  if q.kind = 3 then (if holderX L q.path = q.who then 0 else 6)
  else if q.kind = 4 ∨ q.kind = 10 then (if holderX L q.path = 0 ∨ holderX L q.path = q.who then 0 else 6)
  else if q.kind = 5 ∨ q.kind = 6 then (if L.any (fun l => (l.who != q.who) && underX l.path q.path) then 6 else 0)
  else 0
/-- Does a lease of another one lie at a path, or below it? -/
def barX (who : Int) (p : ByteArray) (l : LsM) : Bool := (l.who != who) && underX l.path p
theorem mayX_bar {L : List LsM} {q : AkM} (h : q.kind = 5 ∨ q.kind = 6) : mayX L q = if L.any (barX q.who q.path) then 6 else 0 := by
  unfold mayX
  rw [if_neg (by omega), if_neg (by omega), if_pos h]
  rfl
theorem bar_yes {L : List LsM} {who : Int} {p : ByteArray} {k : Nat} (hk : k < L.length) (h : barX who p L[k] = true) : L.any (barX who p) = true := List.any_eq_true.2 ⟨_, List.getElem_mem hk, h⟩
theorem bar_no {L : List LsM} {who : Int} {p : ByteArray} (h : ∀ j (hj : j < L.length), barX who p L[j] = false) : L.any (barX who p) = false := by
  cases e : L.any (barX who p) with
  | false => rfl
  | true =>
    obtain ⟨x, hx, hb⟩ := List.any_eq_true.1 e
    obtain ⟨j, hj, rfl⟩ := List.getElem_of_mem hx
    rw [h j hj] at hb
    cases hb
theorem edOf_fit {q : AkM} (h : q.path.size ≤ 1048576) (k : q.dest.size ≤ 1048576) : EFit (edOf q) := by
  unfold edOf
  repeat' split
  all_goals exact ⟨by first | exact h | exact Nat.zero_le _, by first | exact k | exact Nat.zero_le _⟩
end Go.Proofs.Ytendbipfmgnjkaa
/- EdB: The model's EditOk. -/
namespace Go.Proofs.Ytendbipfmgnjkaa
set_option maxRecDepth 100000
open Go.RowKit BigFrame
attribute [local go_sem ↓] Go.wp_at_zero Go.wp_at_succ

set_option maxRecDepth 100000 in
set_option maxHeartbeats 2000000 in
theorem specEditOk (e : EM) (w : World) (hf : EFit e) : Calls Try.prog 51 #[ev e] w fun r w' => r = .returned (.bool (editOk e)) ∧ Below w.heap.size w w' := by
  have hnp := fun W => specNamed e.path W hf.1
  have hnt := fun W => specNamed e.dest W hf.2
  obtain ⟨R, hR⟩ : ∃ R, R = editOk e := ⟨_, rfl⟩
  rw [← hR]
  obtain ⟨bad, hbad⟩ : ∃ b, b = pathBad e := ⟨_, rfl⟩
  have hRR : R = (inI e.kind 1 10 && (if e.kind = 10 then (e.path.toList == [47]) && (e.dest.toList == []) && (e.num == 0) && (e.who == 0) else !bad && numsOk e)) := by rw [hR, hbad]; rfl
  obtain ⟨np, hnp'⟩ : ∃ b, b = named e.path := ⟨_, rfl⟩
  obtain ⟨nt, hnt'⟩ : ∃ b, b = named e.dest := ⟨_, rfl⟩
  rw [← hnp'] at hnp
  rw [← hnt'] at hnt
  unfold pathBad at hbad
  rw [← hnp', ← hnt'] at hbad
  unfold numsOk at hRR
  have HR := Shut.mk hRR
  have HNPC := Shut.mk hnp
  have HNTC := Shut.mk hnt
  have HBD := Shut.mk hbad
  clear hf hnp hnt hR hbad hnp' hnt' hRR
  obtain ⟨kind, path, dest, num, who⟩ := e
  dsimp only at *
  by_cases h1 : inI kind 1 10 = true
  case neg =>
    have HF : Shut (R = false) := ⟨by rw [HR.out]; simp [h1]⟩
    have HI := Shut.mk (fun W => isInI kind 1 10 W false (by simpa using h1))
    clear h1 HR
    go_enter Try.func51, Try.ntmps51
    go_wp2_with (go_at_call 24; refine (HI.out _).mono ?_; rintro r w1 ⟨rfl, rfl⟩)
    go_ret
    exact ⟨by rw [HF.out]; rfl, (Below.refl _ _).alloc (Nat.le_refl _) _⟩
  have HI := Shut.mk (fun W => isInI kind 1 10 W true h1)
  have HKB := Shut.mk (inI_iff.1 h1)
  have HIN := Shut.mk (fun x a b W => isInI x a b W _ rfl)
  rw [h1] at HR
  clear h1
  by_cases h10 : kind = 10
  · rw [if_pos h10] at HR
    subst h10
    go_enter Try.func51, Try.ntmps51
    go_wp2_with (go_at_call 24; refine (HI.out _).mono ?_; rintro r w1 ⟨rfl, rfl⟩)
    all_goals
      go_ret
      exact ⟨by rw [HR.out]; simp [*], (Below.refl _ _).alloc (Nat.le_refl _) _⟩
  · rw [if_neg h10] at HR
    have h10' : (kind == 10) = false := by simp [h10]
    obtain ⟨st, hst⟩ : ∃ b, b = ((kind == 5) || (kind == 6)) := ⟨_, rfl⟩
    obtain ⟨pr, hpr⟩ : ∃ b, b = (path.toList == [47]) := ⟨_, rfl⟩
    obtain ⟨k3, hk3⟩ : ∃ b, b = (kind == 3) := ⟨_, rfl⟩
    obtain ⟨te, hte⟩ : ∃ b, b = (dest.toList == []) := ⟨_, rfl⟩
    have HBD' : Shut (bad = ((!np && !(st && pr)) || (k3 != nt) || (!k3 && !te))) := ⟨by
      rw [HBD.out, ← hst, ← hpr, ← hk3]
      have e1 : (kind != 3) = !k3 := by rw [hk3]; rfl
      have e2 : (dest.toList != []) = !te := by rw [hte]; rfl
      rw [e1, e2]⟩
    have HST := Shut.mk hst
    go_enter Try.func51, Try.ntmps51
    go_upto_region 5 with (go_at_call 24; refine (HI.out _).mono ?_; rintro r w1 ⟨rfl, rfl⟩)
    refine wp_shade (fun W => Below w.heap.size w W ∧ WCells W w.heap.size [.int .i64 kind, .string path, .string dest, .int .i64 num, .int .i64 who]) ⟨(Below.refl _ _).alloc (Nat.le_refl _) _, wcells_new w #[.int .i64 kind, .string path, .string dest, .int .i64 num, .int .i64 who] 91⟩ ?_
    intro W hW
    have HW := Shut.mk hW
    have c0 := (hW.2.2 0 _ rfl).1
    have lw := hW.2.1
    have g0 : ∀ X : Grow W, X.val.cell? ⟨w.heap.size, 0, none⟩ = some (.int .i64 kind) := fun X => X.cell c0 lw
    have g1 : ∀ X : Grow W, X.val.cell? ⟨w.heap.size, 1, none⟩ = some (.string path) := fun X => X.cell (hW.2.2 1 _ rfl).1 lw
    have g2 : ∀ X : Grow W, X.val.cell? ⟨w.heap.size, 2, none⟩ = some (.string dest) := fun X => X.cell (hW.2.2 2 _ rfl).1 lw
    have HNP := Shut.mk (fun X => calls_grow (w := W) (fun W' (_ : Below W.heap.size W W') => HNPC.out W') X)
    have HNT := Shut.mk (fun X => calls_grow (w := W) (fun W' (_ : Below W.heap.size W W') => HNTC.out W') X)
    clear hW HI h10
    rw [HBD'.out] at HR
    clear HBD HBD'
    go_upto_region 5 with fail
    go_cut [3] from 29 to 36 (fun b wx => b = .bool st ∧ wx = W)
    case first =>
      by_cases h5 : kind = 5
      · have h5' : (kind == 5) = true := by simp [h5]
        have HSE : Shut (st = true) := ⟨by rw [HST.out]; simp [h5]⟩
        clear h5
        go_wp2_with fail
        go_meet
        case rel => exact ⟨by rw [HSE.out], rfl⟩
      · have h5' : (kind == 5) = false := by simp [h5]
        have HSE : Shut (st = (kind == 6)) := ⟨by rw [HST.out]; simp [h5]⟩
        clear h5
        go_wp2_with fail
        go_meet
        case rel => exact ⟨by rw [HSE.out], rfl⟩
    case rest =>
      obtain ⟨rfl, rfl⟩ := hcut
      have HSTT := HST
      have hpr' : (path.toList == [47]) = pr := hpr.symm
      have hk3' : (kind == 3) = k3 := hk3.symm
      have hk3n : (kind != 3) = !k3 := by rw [hk3]; rfl
      have hte' : (dest.toList == []) = te := hte.symm
      have hten : (dest.toList != []) = !te := by rw [hte]; rfl
      clear hpr hk3 hte hst c0
      go_upto_region 6 with fail
      go_cut [68] from 37 to 68 (fun b wx => b = .bool ((!np && !(st && pr)) || (k3 != nt) || (!k3 && !te)) ∧ Shut (Below w.heap.size w wx ∧ WCells wx w.heap.size [.int .i64 kind, .string path, .string dest, .int .i64 num, .int .i64 who]))
      case first =>
        clear HR HST HSTT
        cases np with
        | true =>
          cases k3 with
          | true =>
            cases nt with
            | true =>
              refine wp_region_grow (by kernel_rfl) (by kernel_rfl) ?_
              repeat (go_big_quiet_step (first | (go_at_call 50; first | with_reducible exact HNP.out _ | with_reducible exact HNT.out _)))
              refine wpQuiet_nil ?_
              rintro _ ⟨X, rfl⟩
              go_wp2_with fail
              go_meet
              case rel => exact ⟨rfl, ⟨HW.out.1.trans (X.bel.mono HW.out.1.size), HW.out.2.grow X.bel⟩⟩
            | false =>
              refine wp_region_grow (by kernel_rfl) (by kernel_rfl) ?_
              repeat (go_big_quiet_step (first | (go_at_call 50; first | with_reducible exact HNP.out _ | with_reducible exact HNT.out _)))
              refine wpQuiet_nil ?_
              rintro _ ⟨X, rfl⟩
              go_wp2_with fail
              go_meet
              case rel => exact ⟨rfl, ⟨HW.out.1.trans (X.bel.mono HW.out.1.size), HW.out.2.grow X.bel⟩⟩
          | false =>
            cases nt with
            | true =>
              refine wp_region_grow (by kernel_rfl) (by kernel_rfl) ?_
              repeat (go_big_quiet_step (first | (go_at_call 50; first | with_reducible exact HNP.out _ | with_reducible exact HNT.out _)))
              refine wpQuiet_nil ?_
              rintro _ ⟨X, rfl⟩
              go_wp2_with fail
              go_meet
              case rel => exact ⟨rfl, ⟨HW.out.1.trans (X.bel.mono HW.out.1.size), HW.out.2.grow X.bel⟩⟩
            | false =>
              cases te with
              | true =>
                refine wp_region_grow (by kernel_rfl) (by kernel_rfl) ?_
                repeat (go_big_quiet_step (first | (go_at_call 50; first | with_reducible exact HNP.out _ | with_reducible exact HNT.out _)))
                refine wpQuiet_nil ?_
                rintro _ ⟨X, rfl⟩
                go_wp2_with fail
                go_meet
                case rel => exact ⟨rfl, ⟨HW.out.1.trans (X.bel.mono HW.out.1.size), HW.out.2.grow X.bel⟩⟩
              | false =>
                refine wp_region_grow (by kernel_rfl) (by kernel_rfl) ?_
                repeat (go_big_quiet_step (first | (go_at_call 50; first | with_reducible exact HNP.out _ | with_reducible exact HNT.out _)))
                refine wpQuiet_nil ?_
                rintro _ ⟨X, rfl⟩
                go_wp2_with fail
                go_meet
                case rel => exact ⟨rfl, ⟨HW.out.1.trans (X.bel.mono HW.out.1.size), HW.out.2.grow X.bel⟩⟩
        | false =>
          cases st with
          | true =>
            cases pr with
            | true =>
              cases k3 with
              | true =>
                cases nt with
                | true =>
                  refine wp_region_grow (by kernel_rfl) (by kernel_rfl) ?_
                  repeat (go_big_quiet_step (first | (go_at_call 50; first | with_reducible exact HNP.out _ | with_reducible exact HNT.out _)))
                  refine wpQuiet_nil ?_
                  rintro _ ⟨X, rfl⟩
                  go_wp2_with fail
                  go_meet
                  case rel => exact ⟨rfl, ⟨HW.out.1.trans (X.bel.mono HW.out.1.size), HW.out.2.grow X.bel⟩⟩
                | false =>
                  refine wp_region_grow (by kernel_rfl) (by kernel_rfl) ?_
                  repeat (go_big_quiet_step (first | (go_at_call 50; first | with_reducible exact HNP.out _ | with_reducible exact HNT.out _)))
                  refine wpQuiet_nil ?_
                  rintro _ ⟨X, rfl⟩
                  go_wp2_with fail
                  go_meet
                  case rel => exact ⟨rfl, ⟨HW.out.1.trans (X.bel.mono HW.out.1.size), HW.out.2.grow X.bel⟩⟩
              | false =>
                cases nt with
                | true =>
                  refine wp_region_grow (by kernel_rfl) (by kernel_rfl) ?_
                  repeat (go_big_quiet_step (first | (go_at_call 50; first | with_reducible exact HNP.out _ | with_reducible exact HNT.out _)))
                  refine wpQuiet_nil ?_
                  rintro _ ⟨X, rfl⟩
                  go_wp2_with fail
                  go_meet
                  case rel => exact ⟨rfl, ⟨HW.out.1.trans (X.bel.mono HW.out.1.size), HW.out.2.grow X.bel⟩⟩
                | false =>
                  cases te with
                  | true =>
                    refine wp_region_grow (by kernel_rfl) (by kernel_rfl) ?_
                    repeat (go_big_quiet_step (first | (go_at_call 50; first | with_reducible exact HNP.out _ | with_reducible exact HNT.out _)))
                    refine wpQuiet_nil ?_
                    rintro _ ⟨X, rfl⟩
                    go_wp2_with fail
                    go_meet
                    case rel => exact ⟨rfl, ⟨HW.out.1.trans (X.bel.mono HW.out.1.size), HW.out.2.grow X.bel⟩⟩
                  | false =>
                    refine wp_region_grow (by kernel_rfl) (by kernel_rfl) ?_
                    repeat (go_big_quiet_step (first | (go_at_call 50; first | with_reducible exact HNP.out _ | with_reducible exact HNT.out _)))
                    refine wpQuiet_nil ?_
                    rintro _ ⟨X, rfl⟩
                    go_wp2_with fail
                    go_meet
                    case rel => exact ⟨rfl, ⟨HW.out.1.trans (X.bel.mono HW.out.1.size), HW.out.2.grow X.bel⟩⟩
            | false =>
              refine wp_region_grow (by kernel_rfl) (by kernel_rfl) ?_
              repeat (go_big_quiet_step (first | (go_at_call 50; first | with_reducible exact HNP.out _ | with_reducible exact HNT.out _)))
              refine wpQuiet_nil ?_
              rintro _ ⟨X, rfl⟩
              go_wp2_with fail
              go_meet
              case rel => exact ⟨rfl, ⟨HW.out.1.trans (X.bel.mono HW.out.1.size), HW.out.2.grow X.bel⟩⟩
          | false =>
            refine wp_region_grow (by kernel_rfl) (by kernel_rfl) ?_
            repeat (go_big_quiet_step (first | (go_at_call 50; first | with_reducible exact HNP.out _ | with_reducible exact HNT.out _)))
            refine wpQuiet_nil ?_
            rintro _ ⟨X, rfl⟩
            go_wp2_with fail
            go_meet
            case rel => exact ⟨rfl, ⟨HW.out.1.trans (X.bel.mono HW.out.1.size), HW.out.2.grow X.bel⟩⟩
      case rest =>
        obtain ⟨rfl, hV⟩ := hcut
        clear g0 g1 g2 HNP HNT HNPC HNTC HW HST HSTT lw hpr' hk3' hk3n hte' hten
        generalize ((!np && !(st && pr)) || (k3 != nt) || (!k3 && !te)) = bd at *
        have c0 := (hV.out.2.2 0 _ rfl).1
        have c3 := (hV.out.2.2 3 _ rfl).1
        have c4 := (hV.out.2.2 4 _ rfl).1
        cases bd with
        | true =>
          have HF : Shut (R = false) := ⟨by rw [HR.out]; rfl⟩
          clear HR
          go_wp2_with fail
          go_ret
          exact ⟨by rw [HF.out]; rfl, hV.out.1⟩
        | false =>
          by_cases k5 : kind = 5
          · have HRR : Shut (R = (inI num 1 3 && (who == 0))) := ⟨by rw [HR.out]; simp [k5]⟩
            subst k5
            clear HR
            go_wp2_with (go_at_call 24; refine (HIN.out _ _ _ _).mono ?_; rintro r w1 ⟨rfl, rfl⟩)
            all_goals
              go_ret
              exact ⟨by rw [HRR.out]; simp [*], hV.out.1⟩
          by_cases k6 : kind = 6
          · have HRR : Shut (R = (inI num 0 1000 && (who == 0))) := ⟨by rw [HR.out]; simp [k6]⟩
            subst k6
            clear HR
            go_wp2_with (go_at_call 24; refine (HIN.out _ _ _ _).mono ?_; rintro r w1 ⟨rfl, rfl⟩)
            all_goals
              go_ret
              exact ⟨by rw [HRR.out]; simp [*], hV.out.1⟩
          by_cases k7 : kind = 7
          · have HRR : Shut (R = (inI num 1 200 && (who == 0))) := ⟨by rw [HR.out]; simp [k7]⟩
            subst k7
            clear HR
            go_wp2_with (go_at_call 24; refine (HIN.out _ _ _ _).mono ?_; rintro r w1 ⟨rfl, rfl⟩)
            all_goals
              go_ret
              exact ⟨by rw [HRR.out]; simp [*], hV.out.1⟩
          by_cases k2 : kind = 2
          · have HRR : Shut (R = ((num == 0) && inI who 1 9)) := ⟨by rw [HR.out]; simp [k2]⟩
            subst k2
            clear HR
            go_wp2_with (go_at_call 24; refine (HIN.out _ _ _ _).mono ?_; rintro r w1 ⟨rfl, rfl⟩)
            all_goals
              go_ret
              exact ⟨by rw [HRR.out]; simp [*], hV.out.1⟩
          by_cases k9 : kind = 9
          · have HRR : Shut (R = ((num == 0) && inI who 1 9)) := ⟨by rw [HR.out]; simp [k9]⟩
            subst k9
            clear HR
            go_wp2_with (go_at_call 24; refine (HIN.out _ _ _ _).mono ?_; rintro r w1 ⟨rfl, rfl⟩)
            all_goals
              go_ret
              exact ⟨by rw [HRR.out]; simp [*], hV.out.1⟩
          have HRR : Shut (R = ((num == 0) && (who == 0))) := ⟨by rw [HR.out]; simp [k5, k6, k7, k2, k9]⟩
          clear HR
          have j5 : (kind == 5) = false := by simp [k5]
          have j6 : (kind == 6) = false := by simp [k6]
          have j7 : (kind == 7) = false := by simp [k7]
          have j2 : (kind == 2) = false := by simp [k2]
          have j9 : (kind == 9) = false := by simp [k9]
          clear k5 k6 k7 k2 k9
          go_wp2_with (go_at_call 24; refine (HIN.out _ _ _ _).mono ?_; rintro r w1 ⟨rfl, rfl⟩)
          all_goals
            go_ret
            exact ⟨by rw [HRR.out]; simp [*], hV.out.1⟩
end Go.Proofs.Ytendbipfmgnjkaa
/- SpAk: The models of EditOf and AskOk (written by gen/mkspak.py). -/
namespace Go.Proofs.Ytendbipfmgnjkaa
set_option maxRecDepth 100000
open Go.RowKit
attribute [local go_sem ↓] Go.wp_at_zero Go.wp_at_succ

set_option maxHeartbeats 2000000 in
set_option maxRecDepth 100000 in
theorem specEditOf (q : AkM) (w : World) : Calls Try.prog 52 #[akv q] w fun e w' => e = .returned (ev (edOf q)) ∧ Below w.heap.size w w' := by
  obtain ⟨kind, who, path, dest, text, num⟩ := q
  by_cases h1 : kind = 1
  · subst h1
    rw [show edOf ⟨1, who, path, dest, text, num⟩ = ⟨1, path, ⟨#[]⟩, 0, 0⟩ by simp [edOf]]
    go_enter Try.func52, Try.ntmps52
    go_wp2_with fail
    refine bodyPost_ret (v := ev ⟨1, path, ⟨#[]⟩, 0, 0⟩) (by simp [results, Try.results52, go_sem]) rfl ⟨rfl, ?_⟩
    exact (((Below.refl _ _).alloc (Nat.le_refl _) _).alloc (by simp) _).alloc (by simp; omega) _
  by_cases h2 : kind = 2
  · subst h2
    rw [show edOf ⟨2, who, path, dest, text, num⟩ = ⟨2, path, ⟨#[]⟩, 0, who⟩ by simp [edOf]]
    go_enter Try.func52, Try.ntmps52
    go_wp2_with fail
    refine bodyPost_ret (v := ev ⟨2, path, ⟨#[]⟩, 0, who⟩) (by simp [results, Try.results52, go_sem]) rfl ⟨rfl, ?_⟩
    exact (((Below.refl _ _).alloc (Nat.le_refl _) _).alloc (by simp) _).alloc (by simp; omega) _
  by_cases h3 : kind = 3
  · subst h3
    rw [show edOf ⟨3, who, path, dest, text, num⟩ = ⟨7, path, ⟨#[]⟩, (text.size : Int), 0⟩ by simp [edOf]]
    go_enter Try.func52, Try.ntmps52
    go_wp2_with fail
    refine bodyPost_ret (v := ev ⟨7, path, ⟨#[]⟩, (text.size : Int), 0⟩) (by simp [results, Try.results52, go_sem]) rfl ⟨rfl, ?_⟩
    exact (((Below.refl _ _).alloc (Nat.le_refl _) _).alloc (by simp) _).alloc (by simp; omega) _
  by_cases h4 : kind = 4
  · subst h4
    rw [show edOf ⟨4, who, path, dest, text, num⟩ = ⟨8, path, ⟨#[]⟩, 0, 0⟩ by simp [edOf]]
    go_enter Try.func52, Try.ntmps52
    go_wp2_with fail
    refine bodyPost_ret (v := ev ⟨8, path, ⟨#[]⟩, 0, 0⟩) (by simp [results, Try.results52, go_sem]) rfl ⟨rfl, ?_⟩
    exact (((Below.refl _ _).alloc (Nat.le_refl _) _).alloc (by simp) _).alloc (by simp; omega) _
  by_cases h5 : kind = 5
  · subst h5
    rw [show edOf ⟨5, who, path, dest, text, num⟩ = ⟨3, path, dest, 0, 0⟩ by simp [edOf]]
    go_enter Try.func52, Try.ntmps52
    go_wp2_with fail
    refine bodyPost_ret (v := ev ⟨3, path, dest, 0, 0⟩) (by simp [results, Try.results52, go_sem]) rfl ⟨rfl, ?_⟩
    exact (((Below.refl _ _).alloc (Nat.le_refl _) _).alloc (by simp) _).alloc (by simp; omega) _
  by_cases h6 : kind = 6
  · subst h6
    rw [show edOf ⟨6, who, path, dest, text, num⟩ = ⟨4, path, ⟨#[]⟩, 0, 0⟩ by simp [edOf]]
    go_enter Try.func52, Try.ntmps52
    go_wp2_with fail
    refine bodyPost_ret (v := ev ⟨4, path, ⟨#[]⟩, 0, 0⟩) (by simp [results, Try.results52, go_sem]) rfl ⟨rfl, ?_⟩
    exact (((Below.refl _ _).alloc (Nat.le_refl _) _).alloc (by simp) _).alloc (by simp; omega) _
  by_cases h8 : kind = 8
  · subst h8
    rw [show edOf ⟨8, who, path, dest, text, num⟩ = ⟨5, path, ⟨#[]⟩, num, 0⟩ by simp [edOf]]
    go_enter Try.func52, Try.ntmps52
    go_wp2_with fail
    refine bodyPost_ret (v := ev ⟨5, path, ⟨#[]⟩, num, 0⟩) (by simp [results, Try.results52, go_sem]) rfl ⟨rfl, ?_⟩
    exact (((Below.refl _ _).alloc (Nat.le_refl _) _).alloc (by simp) _).alloc (by simp; omega) _
  by_cases h9 : kind = 9
  · subst h9
    rw [show edOf ⟨9, who, path, dest, text, num⟩ = ⟨6, path, ⟨#[]⟩, num, 0⟩ by simp [edOf]]
    go_enter Try.func52, Try.ntmps52
    go_wp2_with fail
    refine bodyPost_ret (v := ev ⟨6, path, ⟨#[]⟩, num, 0⟩) (by simp [results, Try.results52, go_sem]) rfl ⟨rfl, ?_⟩
    exact (((Below.refl _ _).alloc (Nat.le_refl _) _).alloc (by simp) _).alloc (by simp; omega) _
  by_cases h10 : kind = 10
  · subst h10
    rw [show edOf ⟨10, who, path, dest, text, num⟩ = ⟨9, path, ⟨#[]⟩, 0, who⟩ by simp [edOf]]
    go_enter Try.func52, Try.ntmps52
    go_wp2_with fail
    refine bodyPost_ret (v := ev ⟨9, path, ⟨#[]⟩, 0, who⟩) (by simp [results, Try.results52, go_sem]) rfl ⟨rfl, ?_⟩
    exact (((Below.refl _ _).alloc (Nat.le_refl _) _).alloc (by simp) _).alloc (by simp; omega) _
  rw [show edOf ⟨kind, who, path, dest, text, num⟩ = ⟨0, ⟨#[]⟩, ⟨#[]⟩, 0, 0⟩ by simp [edOf, h1, h2, h3, h4, h5, h6, h8, h9, h10]]
  have g1 : (kind == 1) = false := by simpa using h1
  have g2 : (kind == 2) = false := by simpa using h2
  have g3 : (kind == 3) = false := by simpa using h3
  have g4 : (kind == 4) = false := by simpa using h4
  have g5 : (kind == 5) = false := by simpa using h5
  have g6 : (kind == 6) = false := by simpa using h6
  have g8 : (kind == 8) = false := by simpa using h8
  have g9 : (kind == 9) = false := by simpa using h9
  have g10 : (kind == 10) = false := by simpa using h10
  go_enter Try.func52, Try.ntmps52
  go_wp2_with fail
  refine bodyPost_ret (v := ev ⟨0, ⟨#[]⟩, ⟨#[]⟩, 0, 0⟩) (by simp [results, Try.results52, go_sem]) rfl ⟨rfl, ?_⟩
  exact (((Below.refl _ _).alloc (Nat.le_refl _) _).alloc (by simp) _).alloc (by simp; omega) _
set_option maxHeartbeats 4000000 in
set_option maxRecDepth 100000 in
theorem specAskOk (q : AkM) (w : World) (hp : q.path.size ≤ 1048576) (hd : q.dest.size ≤ 1048576) : Calls Try.prog 25 #[akv q] w fun e w' => e = .returned (.bool (askOk q)) ∧ Below w.heap.size w w' := by
  have HIN := Shut.mk (fun x a b W => isInI x a b W _ rfl)
  have HNM := Shut.mk (fun W => specNamed q.path W hp)
  have HED := Shut.mk (fun W => specEditOf q W)
  have HOK := Shut.mk (fun W => specEditOk (edOf q) W (edOf_fit hp hd))
  obtain ⟨R, hR⟩ : ∃ R, R = askOk q := ⟨_, rfl⟩
  rw [← hR]
  have HR : Shut (R = (inI q.kind 1 10 && inI q.who 1 9 && !(q.kind != 5 && (q.dest.toList != [])) && !(q.kind != 8 && q.kind != 9 && (q.num != 0)) && (if q.kind = 3 then inI (q.text.size : Int) 1 60 else (q.text.toList == [])) && (if q.kind = 7 then named q.path else editOk (edOf q)))) := ⟨hR⟩
  generalize named q.path = nm9 at HNM HR
  generalize editOk (edOf q) = ed9 at HOK HR
  generalize edOf q = E at HED HOK
  clear hR hp hd
  obtain ⟨kind, who, path, dest, text, num⟩ := q
  obtain ⟨ek, ep, edt, en, ew⟩ := E
  dsimp only at *
  by_cases k5 : kind = 5
  · subst k5
    have h1 : inI 5 1 10 = true := rfl
    by_cases h2 : inI who 1 9 = true
    case neg =>
      have h2' : inI who 1 9 = false := by simpa using h2
      go_enter Try.func25, Try.ntmps25
      go_wp2_with (go_at_call 24; refine (HIN.out _ _ _ _).mono ?_; rintro r w1 ⟨rfl, rfl⟩)
      go_ret
      exact ⟨by rw [HR.out]; simp [*], (Below.refl _ _).alloc (Nat.le_refl _) _⟩
    by_cases hn : num = 0
    case neg =>
      have hn' : (num != 0) = true := by simpa using hn
      go_enter Try.func25, Try.ntmps25
      go_wp2_with (go_at_call 24; refine (HIN.out _ _ _ _).mono ?_; rintro r w1 ⟨rfl, rfl⟩)
      go_ret
      exact ⟨by rw [HR.out]; simp [*], (Below.refl _ _).alloc (Nat.le_refl _) _⟩
    subst hn
    by_cases ht : text.toList = []
    case neg =>
      have ht' : (text.toList != []) = true := by simpa using ht
      have hte : text.toList.isEmpty = false := by simpa using ht
      go_enter Try.func25, Try.ntmps25
      go_wp2_with (go_at_call 24; refine (HIN.out _ _ _ _).mono ?_; rintro r w1 ⟨rfl, rfl⟩)
      go_ret
      exact ⟨by rw [HR.out]; simp [*], (Below.refl _ _).alloc (Nat.le_refl _) _⟩
    have ht' : (text.toList != []) = false := by simp [ht]
    have hte : text.toList.isEmpty = true := by simp [ht]
    go_enter Try.func25, Try.ntmps25
    go_wp2_with (first | (go_at_call 24; refine (HIN.out _ _ _ _).mono ?_; rintro r w1 ⟨rfl, rfl⟩) | (go_at_call 50; refine (HNM.out _).mono ?_; rintro r w1 ⟨rfl, hb⟩; have HB := Shut.mk hb; clear hb) | (go_at_call 52; refine (HED.out _).mono ?_; rintro r w1 ⟨rfl, hb⟩; have HB := Shut.mk hb; clear hb) | (go_at_call 51; refine (HOK.out _).mono ?_; rintro r w2 ⟨rfl, hb⟩; have HB2 := Shut.mk hb; clear hb))
    go_ret
    exact ⟨by rw [HR.out]; simp [*], Below.trans (Below.trans ((Below.refl _ _).alloc (Nat.le_refl _) _) (HB.out.mono (by simp))) (HB2.out.mono (by have := HB.out.size; simp at this ⊢; omega))⟩
  by_cases k8 : kind = 8
  · subst k8
    have h1 : inI 8 1 10 = true := rfl
    by_cases h2 : inI who 1 9 = true
    case neg =>
      have h2' : inI who 1 9 = false := by simpa using h2
      go_enter Try.func25, Try.ntmps25
      go_wp2_with (go_at_call 24; refine (HIN.out _ _ _ _).mono ?_; rintro r w1 ⟨rfl, rfl⟩)
      go_ret
      exact ⟨by rw [HR.out]; simp [*], (Below.refl _ _).alloc (Nat.le_refl _) _⟩
    by_cases hd : dest.toList = []
    case neg =>
      have hd' : (dest.toList != []) = true := by simpa using hd
      have hde : dest.toList.isEmpty = false := by simpa using hd
      go_enter Try.func25, Try.ntmps25
      go_wp2_with (go_at_call 24; refine (HIN.out _ _ _ _).mono ?_; rintro r w1 ⟨rfl, rfl⟩)
      go_ret
      exact ⟨by rw [HR.out]; simp [*], (Below.refl _ _).alloc (Nat.le_refl _) _⟩
    have hd' : (dest.toList != []) = false := by simp [hd]
    have hde : dest.toList.isEmpty = true := by simp [hd]
    by_cases ht : text.toList = []
    case neg =>
      have ht' : (text.toList != []) = true := by simpa using ht
      have hte : text.toList.isEmpty = false := by simpa using ht
      go_enter Try.func25, Try.ntmps25
      go_wp2_with (go_at_call 24; refine (HIN.out _ _ _ _).mono ?_; rintro r w1 ⟨rfl, rfl⟩)
      go_ret
      exact ⟨by rw [HR.out]; simp [*], (Below.refl _ _).alloc (Nat.le_refl _) _⟩
    have ht' : (text.toList != []) = false := by simp [ht]
    have hte : text.toList.isEmpty = true := by simp [ht]
    go_enter Try.func25, Try.ntmps25
    go_wp2_with (first | (go_at_call 24; refine (HIN.out _ _ _ _).mono ?_; rintro r w1 ⟨rfl, rfl⟩) | (go_at_call 50; refine (HNM.out _).mono ?_; rintro r w1 ⟨rfl, hb⟩; have HB := Shut.mk hb; clear hb) | (go_at_call 52; refine (HED.out _).mono ?_; rintro r w1 ⟨rfl, hb⟩; have HB := Shut.mk hb; clear hb) | (go_at_call 51; refine (HOK.out _).mono ?_; rintro r w2 ⟨rfl, hb⟩; have HB2 := Shut.mk hb; clear hb))
    go_ret
    exact ⟨by rw [HR.out]; simp [*], Below.trans (Below.trans ((Below.refl _ _).alloc (Nat.le_refl _) _) (HB.out.mono (by simp))) (HB2.out.mono (by have := HB.out.size; simp at this ⊢; omega))⟩
  by_cases k9 : kind = 9
  · subst k9
    have h1 : inI 9 1 10 = true := rfl
    by_cases h2 : inI who 1 9 = true
    case neg =>
      have h2' : inI who 1 9 = false := by simpa using h2
      go_enter Try.func25, Try.ntmps25
      go_wp2_with (go_at_call 24; refine (HIN.out _ _ _ _).mono ?_; rintro r w1 ⟨rfl, rfl⟩)
      go_ret
      exact ⟨by rw [HR.out]; simp [*], (Below.refl _ _).alloc (Nat.le_refl _) _⟩
    by_cases hd : dest.toList = []
    case neg =>
      have hd' : (dest.toList != []) = true := by simpa using hd
      have hde : dest.toList.isEmpty = false := by simpa using hd
      go_enter Try.func25, Try.ntmps25
      go_wp2_with (go_at_call 24; refine (HIN.out _ _ _ _).mono ?_; rintro r w1 ⟨rfl, rfl⟩)
      go_ret
      exact ⟨by rw [HR.out]; simp [*], (Below.refl _ _).alloc (Nat.le_refl _) _⟩
    have hd' : (dest.toList != []) = false := by simp [hd]
    have hde : dest.toList.isEmpty = true := by simp [hd]
    by_cases ht : text.toList = []
    case neg =>
      have ht' : (text.toList != []) = true := by simpa using ht
      have hte : text.toList.isEmpty = false := by simpa using ht
      go_enter Try.func25, Try.ntmps25
      go_wp2_with (go_at_call 24; refine (HIN.out _ _ _ _).mono ?_; rintro r w1 ⟨rfl, rfl⟩)
      go_ret
      exact ⟨by rw [HR.out]; simp [*], (Below.refl _ _).alloc (Nat.le_refl _) _⟩
    have ht' : (text.toList != []) = false := by simp [ht]
    have hte : text.toList.isEmpty = true := by simp [ht]
    go_enter Try.func25, Try.ntmps25
    go_wp2_with (first | (go_at_call 24; refine (HIN.out _ _ _ _).mono ?_; rintro r w1 ⟨rfl, rfl⟩) | (go_at_call 50; refine (HNM.out _).mono ?_; rintro r w1 ⟨rfl, hb⟩; have HB := Shut.mk hb; clear hb) | (go_at_call 52; refine (HED.out _).mono ?_; rintro r w1 ⟨rfl, hb⟩; have HB := Shut.mk hb; clear hb) | (go_at_call 51; refine (HOK.out _).mono ?_; rintro r w2 ⟨rfl, hb⟩; have HB2 := Shut.mk hb; clear hb))
    go_ret
    exact ⟨by rw [HR.out]; simp [*], Below.trans (Below.trans ((Below.refl _ _).alloc (Nat.le_refl _) _) (HB.out.mono (by simp))) (HB2.out.mono (by have := HB.out.size; simp at this ⊢; omega))⟩
  by_cases k3 : kind = 3
  · subst k3
    have h1 : inI 3 1 10 = true := rfl
    by_cases h2 : inI who 1 9 = true
    case neg =>
      have h2' : inI who 1 9 = false := by simpa using h2
      go_enter Try.func25, Try.ntmps25
      go_wp2_with (go_at_call 24; refine (HIN.out _ _ _ _).mono ?_; rintro r w1 ⟨rfl, rfl⟩)
      go_ret
      exact ⟨by rw [HR.out]; simp [*], (Below.refl _ _).alloc (Nat.le_refl _) _⟩
    by_cases hd : dest.toList = []
    case neg =>
      have hd' : (dest.toList != []) = true := by simpa using hd
      have hde : dest.toList.isEmpty = false := by simpa using hd
      go_enter Try.func25, Try.ntmps25
      go_wp2_with (go_at_call 24; refine (HIN.out _ _ _ _).mono ?_; rintro r w1 ⟨rfl, rfl⟩)
      go_ret
      exact ⟨by rw [HR.out]; simp [*], (Below.refl _ _).alloc (Nat.le_refl _) _⟩
    have hd' : (dest.toList != []) = false := by simp [hd]
    have hde : dest.toList.isEmpty = true := by simp [hd]
    by_cases hn : num = 0
    case neg =>
      have hn' : (num != 0) = true := by simpa using hn
      go_enter Try.func25, Try.ntmps25
      go_wp2_with (go_at_call 24; refine (HIN.out _ _ _ _).mono ?_; rintro r w1 ⟨rfl, rfl⟩)
      go_ret
      exact ⟨by rw [HR.out]; simp [*], (Below.refl _ _).alloc (Nat.le_refl _) _⟩
    subst hn
    by_cases ht : inI (text.size : Int) 1 60 = true
    case neg =>
      have ht' : inI (text.size : Int) 1 60 = false := by simpa using ht
      go_enter Try.func25, Try.ntmps25
      go_wp2_with (go_at_call 24; refine (HIN.out _ _ _ _).mono ?_; rintro r w1 ⟨rfl, rfl⟩)
      go_ret
      exact ⟨by rw [HR.out]; simp [*], (Below.refl _ _).alloc (Nat.le_refl _) _⟩
    go_enter Try.func25, Try.ntmps25
    go_wp2_with (first | (go_at_call 24; refine (HIN.out _ _ _ _).mono ?_; rintro r w1 ⟨rfl, rfl⟩) | (go_at_call 50; refine (HNM.out _).mono ?_; rintro r w1 ⟨rfl, hb⟩; have HB := Shut.mk hb; clear hb) | (go_at_call 52; refine (HED.out _).mono ?_; rintro r w1 ⟨rfl, hb⟩; have HB := Shut.mk hb; clear hb) | (go_at_call 51; refine (HOK.out _).mono ?_; rintro r w2 ⟨rfl, hb⟩; have HB2 := Shut.mk hb; clear hb))
    go_ret
    exact ⟨by rw [HR.out]; simp [*], Below.trans (Below.trans ((Below.refl _ _).alloc (Nat.le_refl _) _) (HB.out.mono (by simp))) (HB2.out.mono (by have := HB.out.size; simp at this ⊢; omega))⟩
  by_cases k7 : kind = 7
  · subst k7
    have h1 : inI 7 1 10 = true := rfl
    by_cases h2 : inI who 1 9 = true
    case neg =>
      have h2' : inI who 1 9 = false := by simpa using h2
      go_enter Try.func25, Try.ntmps25
      go_wp2_with (go_at_call 24; refine (HIN.out _ _ _ _).mono ?_; rintro r w1 ⟨rfl, rfl⟩)
      go_ret
      exact ⟨by rw [HR.out]; simp [*], (Below.refl _ _).alloc (Nat.le_refl _) _⟩
    by_cases hd : dest.toList = []
    case neg =>
      have hd' : (dest.toList != []) = true := by simpa using hd
      have hde : dest.toList.isEmpty = false := by simpa using hd
      go_enter Try.func25, Try.ntmps25
      go_wp2_with (go_at_call 24; refine (HIN.out _ _ _ _).mono ?_; rintro r w1 ⟨rfl, rfl⟩)
      go_ret
      exact ⟨by rw [HR.out]; simp [*], (Below.refl _ _).alloc (Nat.le_refl _) _⟩
    have hd' : (dest.toList != []) = false := by simp [hd]
    have hde : dest.toList.isEmpty = true := by simp [hd]
    by_cases hn : num = 0
    case neg =>
      have hn' : (num != 0) = true := by simpa using hn
      go_enter Try.func25, Try.ntmps25
      go_wp2_with (go_at_call 24; refine (HIN.out _ _ _ _).mono ?_; rintro r w1 ⟨rfl, rfl⟩)
      go_ret
      exact ⟨by rw [HR.out]; simp [*], (Below.refl _ _).alloc (Nat.le_refl _) _⟩
    subst hn
    by_cases ht : text.toList = []
    case neg =>
      have ht' : (text.toList != []) = true := by simpa using ht
      have hte : text.toList.isEmpty = false := by simpa using ht
      go_enter Try.func25, Try.ntmps25
      go_wp2_with (go_at_call 24; refine (HIN.out _ _ _ _).mono ?_; rintro r w1 ⟨rfl, rfl⟩)
      go_ret
      exact ⟨by rw [HR.out]; simp [*], (Below.refl _ _).alloc (Nat.le_refl _) _⟩
    have ht' : (text.toList != []) = false := by simp [ht]
    have hte : text.toList.isEmpty = true := by simp [ht]
    go_enter Try.func25, Try.ntmps25
    go_wp2_with (first | (go_at_call 24; refine (HIN.out _ _ _ _).mono ?_; rintro r w1 ⟨rfl, rfl⟩) | (go_at_call 50; refine (HNM.out _).mono ?_; rintro r w1 ⟨rfl, hb⟩; have HB := Shut.mk hb; clear hb) | (go_at_call 52; refine (HED.out _).mono ?_; rintro r w1 ⟨rfl, hb⟩; have HB := Shut.mk hb; clear hb) | (go_at_call 51; refine (HOK.out _).mono ?_; rintro r w2 ⟨rfl, hb⟩; have HB2 := Shut.mk hb; clear hb))
    go_ret
    exact ⟨by rw [HR.out]; simp [*], Below.trans ((Below.refl _ _).alloc (Nat.le_refl _) _) (HB.out.mono (by simp))⟩
  have g5 : (kind != 5) = true := by simpa using k5
  have g8 : (kind != 8) = true := by simpa using k8
  have g9 : (kind != 9) = true := by simpa using k9
  have g3 : (kind == 3) = false := by simpa using k3
  have g7 : (kind == 7) = false := by simpa using k7
  by_cases h1 : inI kind 1 10 = true
  case neg =>
    have h1' : inI kind 1 10 = false := by simpa using h1
    go_enter Try.func25, Try.ntmps25
    go_wp2_with (go_at_call 24; refine (HIN.out _ _ _ _).mono ?_; rintro r w1 ⟨rfl, rfl⟩)
    go_ret
    exact ⟨by rw [HR.out]; simp [*], (Below.refl _ _).alloc (Nat.le_refl _) _⟩
  by_cases h2 : inI who 1 9 = true
  case neg =>
    have h2' : inI who 1 9 = false := by simpa using h2
    go_enter Try.func25, Try.ntmps25
    go_wp2_with (go_at_call 24; refine (HIN.out _ _ _ _).mono ?_; rintro r w1 ⟨rfl, rfl⟩)
    go_ret
    exact ⟨by rw [HR.out]; simp [*], (Below.refl _ _).alloc (Nat.le_refl _) _⟩
  by_cases hd : dest.toList = []
  case neg =>
    have hd' : (dest.toList != []) = true := by simpa using hd
    have hde : dest.toList.isEmpty = false := by simpa using hd
    go_enter Try.func25, Try.ntmps25
    go_wp2_with (go_at_call 24; refine (HIN.out _ _ _ _).mono ?_; rintro r w1 ⟨rfl, rfl⟩)
    go_ret
    exact ⟨by rw [HR.out]; simp [*], (Below.refl _ _).alloc (Nat.le_refl _) _⟩
  have hd' : (dest.toList != []) = false := by simp [hd]
  have hde : dest.toList.isEmpty = true := by simp [hd]
  by_cases hn : num = 0
  case neg =>
    have hn' : (num != 0) = true := by simpa using hn
    go_enter Try.func25, Try.ntmps25
    go_wp2_with (go_at_call 24; refine (HIN.out _ _ _ _).mono ?_; rintro r w1 ⟨rfl, rfl⟩)
    go_ret
    exact ⟨by rw [HR.out]; simp [*], (Below.refl _ _).alloc (Nat.le_refl _) _⟩
  subst hn
  by_cases ht : text.toList = []
  case neg =>
    have ht' : (text.toList != []) = true := by simpa using ht
    have hte : text.toList.isEmpty = false := by simpa using ht
    go_enter Try.func25, Try.ntmps25
    go_wp2_with (go_at_call 24; refine (HIN.out _ _ _ _).mono ?_; rintro r w1 ⟨rfl, rfl⟩)
    go_ret
    exact ⟨by rw [HR.out]; simp [*], (Below.refl _ _).alloc (Nat.le_refl _) _⟩
  have ht' : (text.toList != []) = false := by simp [ht]
  have hte : text.toList.isEmpty = true := by simp [ht]
  go_enter Try.func25, Try.ntmps25
  go_wp2_with (first | (go_at_call 24; refine (HIN.out _ _ _ _).mono ?_; rintro r w1 ⟨rfl, rfl⟩) | (go_at_call 50; refine (HNM.out _).mono ?_; rintro r w1 ⟨rfl, hb⟩; have HB := Shut.mk hb; clear hb) | (go_at_call 52; refine (HED.out _).mono ?_; rintro r w1 ⟨rfl, hb⟩; have HB := Shut.mk hb; clear hb) | (go_at_call 51; refine (HOK.out _).mono ?_; rintro r w2 ⟨rfl, hb⟩; have HB2 := Shut.mk hb; clear hb))
  go_ret
  exact ⟨by rw [HR.out]; simp [*], Below.trans (Below.trans ((Below.refl _ _).alloc (Nat.le_refl _) _) (HB.out.mono (by simp))) (HB2.out.mono (by have := HB.out.size; simp at this ⊢; omega))⟩
end Go.Proofs.Ytendbipfmgnjkaa
/- MemA: What lies in memory through a law: boxes, and rows of their own. -/
namespace Go.Proofs.Ytendbipfmgnjkaa
set_option maxRecDepth 100000
open Go.RowKit

theorem wc_grown {w w' : World} {g : Nat} {row : Option Nat} {L : List Value} (h : WCells w g L) (hg : w.grownBy w' row) (hr : row ≠ some g) : WCells w' g L := by
  have hblk := hg.block g h.1 (fun e => hr e.symm)
  refine ⟨Nat.lt_of_lt_of_le h.1 hg.size, fun i v hv => ⟨?_, ?_⟩⟩
  · rw [World.cell?_of_block (w := w) hblk]; exact (h.2 i v hv).1
  · rw [World.frozen?_of_block (w := w) hblk]; exact (h.2 i v hv).2
/-- A row of its own between two places, or none. -/
def FRw (w : World) (va : Option Addr) (X : List Value) (lo hi : Nat) : Prop := (va = none ∧ X = []) ∨ ∃ g, va = some ⟨g, 0, none⟩ ∧ lo ≤ g ∧ g < hi ∧ WCells w g X
theorem FRw.crow {w : World} {va : Option Addr} {X : List Value} {lo hi : Nat} (h : FRw w va X lo hi) : CRow w va X := by
  rcases h with ⟨_, rfl⟩ | ⟨g, rfl, _, _, h⟩
  · intro hp; simp at hp
  · exact h.crow
theorem FRw.below {w w' : World} {va : Option Addr} {X : List Value} {lo hi : Nat} (h : FRw w va X lo hi) (hb : Below w.heap.size w w') : FRw w' va X lo hi := by
  rcases h with h | ⟨g, h1, h2, h3, h⟩
  · exact .inl h
  · exact .inr ⟨g, h1, h2, h3, h.grow hb⟩
theorem FRw.grown {w w' : World} {va : Option Addr} {X : List Value} {lo hi : Nat} {row : Option Nat} (h : FRw w va X lo hi) (hg : w.grownBy w' row) (hr : ∀ g, row = some g → g < lo ∨ hi ≤ g) : FRw w' va X lo hi := by
  rcases h with h | ⟨g, h1, h2, h3, h⟩
  · exact .inl h
  · exact .inr ⟨g, h1, h2, h3, wc_grown h hg (fun e => by rcases hr g e with h | h <;> omega)⟩
theorem FRw.of_wcells {w : World} {g lo hi : Nat} {X : List Value} (h : WCells w g X) (h1 : lo ≤ g) (h2 : g < hi) : FRw w (some ⟨g, 0, none⟩) X lo hi := .inr ⟨g, rfl, h1, h2, h⟩
theorem FRw.wcells {w : World} {g lo hi : Nat} {X : List Value} (h : FRw w (some ⟨g, 0, none⟩) X lo hi) : WCells w g X := by
  rcases h with ⟨h, _⟩ | ⟨g', e, _, _, h⟩
  · cases h
  · have : g = g' := by simpa using e
    subst this; exact h
theorem FRw.of_own {w : World} {B n c t sz : Nat} {va : Option Addr} {X : List Value} (h : w.ownsRow B t sz (.slice va n c) n X) : FRw w va X B w.heap.size ∧ n ≤ c := by
  have h' := h
  rcases h.2 with ⟨h0, hX⟩ | ⟨g, cap, cur, he, hB, hcur, hn, _, _, _⟩
  · simp only [Value.slice.injEq] at h0
    obtain ⟨rfl, h1, rfl⟩ := h0
    refine ⟨.inl ⟨rfl, ?_⟩, by omega⟩
    have hl := h'.1
    rw [hX, Nat.zero_mul] at hl
    exact List.eq_nil_of_length_eq_zero hl
  · simp only [Value.slice.injEq] at he
    obtain ⟨rfl, _, rfl⟩ := he
    exact ⟨.inr ⟨g, rfl, hB, (Array.getElem?_eq_some_iff.1 hcur).1, own_wcells h'⟩, hn⟩
/-- Boxes and rows that lie in a world; what was there at the start is as it was. -/
structure Mem (w0 w : World) (L : List (Nat × List Value)) (R : List (Option Addr × List Value × Nat × Nat)) : Prop where
  cells : ∀ p ∈ L, WCells w p.1 p.2
  rows : ∀ r ∈ R, FRw w r.1 r.2.1 r.2.2.1 r.2.2.2
  low : Below w0.heap.size w0 w
theorem Mem.below {w0 w w' : World} {L : List (Nat × List Value)} {R : List (Option Addr × List Value × Nat × Nat)} (M : Mem w0 w L R) (hb : Below w.heap.size w w') : Mem w0 w' L R :=
  ⟨fun p hp => (M.cells p hp).grow hb, fun r hr => (M.rows r hr).below hb, M.low.trans (hb.mono M.low.size)⟩
theorem Mem.alloc {w0 w : World} {L : List (Nat × List Value)} {R : List (Option Addr × List Value × Nat × Nat)} (M : Mem w0 w L R) (o : Obj) : Mem w0 (w.alloc o) L R := M.below ((Below.refl _ _).alloc (Nat.le_refl _) o)
theorem Mem.drew {w0 w : World} {L : List (Nat × List Value)} {R : List (Option Addr × List Value × Nat × Nat)} (M : Mem w0 w L R) : Mem w0 w.drew L R := ⟨fun p hp => M.cells p hp, fun r hr => M.rows r hr, M.low.drew⟩
theorem Mem.box {w0 w : World} {L : List (Nat × List Value)} {R : List (Option Addr × List Value × Nat × Nat)} (M : Mem w0 w L R) (cs : Array Value) (t : TypeId) : Mem w0 (w.alloc (.cells cs t)) ((w.heap.size, cs.toList) :: L) R := by
  refine ⟨fun p hp => ?_, (M.alloc _).rows, (M.alloc _).low⟩
  rcases List.mem_cons.1 hp with rfl | h
  · exact wcells_new w cs t
  · exact (M.alloc _).cells p h
theorem Mem.row {w0 w : World} {L : List (Nat × List Value)} {R : List (Option Addr × List Value × Nat × Nat)} (M : Mem w0 w L R) {va : Option Addr} {X : List Value} {lo hi : Nat} (h : FRw w va X lo hi) : Mem w0 w L ((va, X, lo, hi) :: R) := by
  refine ⟨M.cells, fun r hr => ?_, M.low⟩
  rcases List.mem_cons.1 hr with rfl | h'
  · exact h
  · exact M.rows r h'
theorem Mem.less {w0 w : World} {L L' : List (Nat × List Value)} {R R' : List (Option Addr × List Value × Nat × Nat)} (M : Mem w0 w L R) (hL : ∀ p ∈ L', p ∈ L) (hR : ∀ r ∈ R', r ∈ R) : Mem w0 w L' R' := ⟨fun p hp => M.cells p (hL p hp), fun r hr => M.rows r (hR r hr), M.low⟩
theorem Mem.grown {w0 w w' : World} {L : List (Nat × List Value)} {R : List (Option Addr × List Value × Nat × Nat)} {row : Option Nat} (M : Mem w0 w L R) (hg : w.grownBy w' row) (hL : ∀ p ∈ L, ∀ g, row = some g → g ≠ p.1) (hR : ∀ r ∈ R, ∀ g, row = some g → g < r.2.2.1 ∨ r.2.2.2 ≤ g) (h0 : ∀ g, row = some g → w0.heap.size ≤ g) : Mem w0 w' L R :=
  ⟨fun p hp => wc_grown (M.cells p hp) hg (fun e => hL p hp _ e rfl), fun r hr => (M.rows r hr).grown hg (hR r hr), M.low.grown hg M.low.size h0⟩
theorem Mem.cell {w0 w : World} {L : List (Nat × List Value)} {R : List (Option Addr × List Value × Nat × Nat)} (M : Mem w0 w L R) {g : Nat} {v : Value} (h : (g, [v]) ∈ L) : w.cell? ⟨g, 0, none⟩ = some v := ((M.cells _ h).2 0 _ rfl).1
theorem Mem.lt {w0 w : World} {L : List (Nat × List Value)} {R : List (Option Addr × List Value × Nat × Nat)} (M : Mem w0 w L R) {g : Nat} {X : List Value} (h : (g, X) ∈ L) : g < w.heap.size := (M.cells _ h).1
theorem Mem.at {w0 w : World} {L : List (Nat × List Value)} {R : List (Option Addr × List Value × Nat × Nat)} (M : Mem w0 w L R) {va : Option Addr} {X : List Value} {lo hi : Nat} (h : (va, X, lo, hi) ∈ R) : FRw w va X lo hi := M.rows _ h

theorem Mem.at0 {w0 w : World} {L : List (Nat × List Value)} {R : List (Option Addr × List Value × Nat × Nat)} {va : Option Addr} {X : List Value} {lo hi : Nat} (M : Mem w0 w L ((va, X, lo, hi) :: R)) : FRw w va X lo hi := M.rows _ (List.mem_cons_self ..)
theorem Mem.cell0 {w0 w : World} {L : List (Nat × List Value)} {R : List (Option Addr × List Value × Nat × Nat)} {g : Nat} {v : Value} (M : Mem w0 w ((g, [v]) :: L) R) : w.cell? ⟨g, 0, none⟩ = some v := M.cell (List.mem_cons_self ..)
theorem Mem.lt0 {w0 w : World} {L : List (Nat × List Value)} {R : List (Option Addr × List Value × Nat × Nat)} {g : Nat} {X : List Value} (M : Mem w0 w ((g, X) :: L) R) : g < w.heap.size := M.lt (List.mem_cons_self ..)
theorem Mem.at1 {w0 w : World} {L : List (Nat × List Value)} {R : List (Option Addr × List Value × Nat × Nat)} {r0 : Option Addr × List Value × Nat × Nat} {va : Option Addr} {X : List Value} {lo hi : Nat} (M : Mem w0 w L (r0 :: (va, X, lo, hi) :: R)) : FRw w va X lo hi := M.rows _ (List.mem_cons_of_mem _ (List.mem_cons_self ..))
theorem Mem.cell1 {w0 w : World} {L : List (Nat × List Value)} {R : List (Option Addr × List Value × Nat × Nat)} {p0 : Nat × List Value} {g : Nat} {v : Value} (M : Mem w0 w (p0 :: (g, [v]) :: L) R) : w.cell? ⟨g, 0, none⟩ = some v := M.cell (List.mem_cons_of_mem _ (List.mem_cons_self ..))
theorem Mem.lt1 {w0 w : World} {L : List (Nat × List Value)} {R : List (Option Addr × List Value × Nat × Nat)} {p0 : Nat × List Value} {g : Nat} {X : List Value} (M : Mem w0 w (p0 :: (g, X) :: L) R) : g < w.heap.size := M.lt (List.mem_cons_of_mem _ (List.mem_cons_self ..))
theorem Mem.at2 {w0 w : World} {L : List (Nat × List Value)} {R : List (Option Addr × List Value × Nat × Nat)} {r0 : Option Addr × List Value × Nat × Nat} {r1 : Option Addr × List Value × Nat × Nat} {va : Option Addr} {X : List Value} {lo hi : Nat} (M : Mem w0 w L (r0 :: r1 :: (va, X, lo, hi) :: R)) : FRw w va X lo hi := M.rows _ (List.mem_cons_of_mem _ (List.mem_cons_of_mem _ (List.mem_cons_self ..)))
theorem Mem.cell2 {w0 w : World} {L : List (Nat × List Value)} {R : List (Option Addr × List Value × Nat × Nat)} {p0 : Nat × List Value} {p1 : Nat × List Value} {g : Nat} {v : Value} (M : Mem w0 w (p0 :: p1 :: (g, [v]) :: L) R) : w.cell? ⟨g, 0, none⟩ = some v := M.cell (List.mem_cons_of_mem _ (List.mem_cons_of_mem _ (List.mem_cons_self ..)))
theorem Mem.lt2 {w0 w : World} {L : List (Nat × List Value)} {R : List (Option Addr × List Value × Nat × Nat)} {p0 : Nat × List Value} {p1 : Nat × List Value} {g : Nat} {X : List Value} (M : Mem w0 w (p0 :: p1 :: (g, X) :: L) R) : g < w.heap.size := M.lt (List.mem_cons_of_mem _ (List.mem_cons_of_mem _ (List.mem_cons_self ..)))
theorem Mem.at3 {w0 w : World} {L : List (Nat × List Value)} {R : List (Option Addr × List Value × Nat × Nat)} {r0 : Option Addr × List Value × Nat × Nat} {r1 : Option Addr × List Value × Nat × Nat} {r2 : Option Addr × List Value × Nat × Nat} {va : Option Addr} {X : List Value} {lo hi : Nat} (M : Mem w0 w L (r0 :: r1 :: r2 :: (va, X, lo, hi) :: R)) : FRw w va X lo hi := M.rows _ (List.mem_cons_of_mem _ (List.mem_cons_of_mem _ (List.mem_cons_of_mem _ (List.mem_cons_self ..))))
theorem Mem.cell3 {w0 w : World} {L : List (Nat × List Value)} {R : List (Option Addr × List Value × Nat × Nat)} {p0 : Nat × List Value} {p1 : Nat × List Value} {p2 : Nat × List Value} {g : Nat} {v : Value} (M : Mem w0 w (p0 :: p1 :: p2 :: (g, [v]) :: L) R) : w.cell? ⟨g, 0, none⟩ = some v := M.cell (List.mem_cons_of_mem _ (List.mem_cons_of_mem _ (List.mem_cons_of_mem _ (List.mem_cons_self ..))))
theorem Mem.lt3 {w0 w : World} {L : List (Nat × List Value)} {R : List (Option Addr × List Value × Nat × Nat)} {p0 : Nat × List Value} {p1 : Nat × List Value} {p2 : Nat × List Value} {g : Nat} {X : List Value} (M : Mem w0 w (p0 :: p1 :: p2 :: (g, X) :: L) R) : g < w.heap.size := M.lt (List.mem_cons_of_mem _ (List.mem_cons_of_mem _ (List.mem_cons_of_mem _ (List.mem_cons_self ..))))
theorem Mem.at4 {w0 w : World} {L : List (Nat × List Value)} {R : List (Option Addr × List Value × Nat × Nat)} {r0 : Option Addr × List Value × Nat × Nat} {r1 : Option Addr × List Value × Nat × Nat} {r2 : Option Addr × List Value × Nat × Nat} {r3 : Option Addr × List Value × Nat × Nat} {va : Option Addr} {X : List Value} {lo hi : Nat} (M : Mem w0 w L (r0 :: r1 :: r2 :: r3 :: (va, X, lo, hi) :: R)) : FRw w va X lo hi := M.rows _ (List.mem_cons_of_mem _ (List.mem_cons_of_mem _ (List.mem_cons_of_mem _ (List.mem_cons_of_mem _ (List.mem_cons_self ..)))))
theorem Mem.cell4 {w0 w : World} {L : List (Nat × List Value)} {R : List (Option Addr × List Value × Nat × Nat)} {p0 : Nat × List Value} {p1 : Nat × List Value} {p2 : Nat × List Value} {p3 : Nat × List Value} {g : Nat} {v : Value} (M : Mem w0 w (p0 :: p1 :: p2 :: p3 :: (g, [v]) :: L) R) : w.cell? ⟨g, 0, none⟩ = some v := M.cell (List.mem_cons_of_mem _ (List.mem_cons_of_mem _ (List.mem_cons_of_mem _ (List.mem_cons_of_mem _ (List.mem_cons_self ..)))))
theorem Mem.lt4 {w0 w : World} {L : List (Nat × List Value)} {R : List (Option Addr × List Value × Nat × Nat)} {p0 : Nat × List Value} {p1 : Nat × List Value} {p2 : Nat × List Value} {p3 : Nat × List Value} {g : Nat} {X : List Value} (M : Mem w0 w (p0 :: p1 :: p2 :: p3 :: (g, X) :: L) R) : g < w.heap.size := M.lt (List.mem_cons_of_mem _ (List.mem_cons_of_mem _ (List.mem_cons_of_mem _ (List.mem_cons_of_mem _ (List.mem_cons_self ..)))))
theorem Mem.at5 {w0 w : World} {L : List (Nat × List Value)} {R : List (Option Addr × List Value × Nat × Nat)} {r0 : Option Addr × List Value × Nat × Nat} {r1 : Option Addr × List Value × Nat × Nat} {r2 : Option Addr × List Value × Nat × Nat} {r3 : Option Addr × List Value × Nat × Nat} {r4 : Option Addr × List Value × Nat × Nat} {va : Option Addr} {X : List Value} {lo hi : Nat} (M : Mem w0 w L (r0 :: r1 :: r2 :: r3 :: r4 :: (va, X, lo, hi) :: R)) : FRw w va X lo hi := M.rows _ (List.mem_cons_of_mem _ (List.mem_cons_of_mem _ (List.mem_cons_of_mem _ (List.mem_cons_of_mem _ (List.mem_cons_of_mem _ (List.mem_cons_self ..))))))
theorem Mem.cell5 {w0 w : World} {L : List (Nat × List Value)} {R : List (Option Addr × List Value × Nat × Nat)} {p0 : Nat × List Value} {p1 : Nat × List Value} {p2 : Nat × List Value} {p3 : Nat × List Value} {p4 : Nat × List Value} {g : Nat} {v : Value} (M : Mem w0 w (p0 :: p1 :: p2 :: p3 :: p4 :: (g, [v]) :: L) R) : w.cell? ⟨g, 0, none⟩ = some v := M.cell (List.mem_cons_of_mem _ (List.mem_cons_of_mem _ (List.mem_cons_of_mem _ (List.mem_cons_of_mem _ (List.mem_cons_of_mem _ (List.mem_cons_self ..))))))
theorem Mem.lt5 {w0 w : World} {L : List (Nat × List Value)} {R : List (Option Addr × List Value × Nat × Nat)} {p0 : Nat × List Value} {p1 : Nat × List Value} {p2 : Nat × List Value} {p3 : Nat × List Value} {p4 : Nat × List Value} {g : Nat} {X : List Value} (M : Mem w0 w (p0 :: p1 :: p2 :: p3 :: p4 :: (g, X) :: L) R) : g < w.heap.size := M.lt (List.mem_cons_of_mem _ (List.mem_cons_of_mem _ (List.mem_cons_of_mem _ (List.mem_cons_of_mem _ (List.mem_cons_of_mem _ (List.mem_cons_self ..))))))
end Go.Proofs.Ytendbipfmgnjkaa
/- SlG: Stretches of memory: what lies in each, all apart; what is put into one leaves the others as they are. -/
namespace Go.Proofs.Ytendbipfmgnjkaa
set_option maxRecDepth 100000
open Go.RowKit

/-- Something that lies in the blocks from lo to hi. -/
structure Str where
  p : World → Prop
  lo : Nat
  hi : Nat
def Str.Loc (s : Str) : Prop := ∀ W W' l h, s.p W → Turned W W' l h → (s.hi ≤ l ∨ h ≤ s.lo) → s.p W'
/-- A box. -/
abbrev bxS (b : Nat) (X : List Value) : Str := ⟨fun W => WCells W b X, b, b + 1⟩
/-- A row. -/
abbrev rwS (va : Option Addr) (X : List Value) (lo hi : Nat) : Str := ⟨fun W => FRw W va X lo hi, lo, hi⟩
theorem bxS.loc (b : Nat) (X : List Value) : (bxS b X).Loc := fun _ _ _ _ h t hd => h.turned t (by rcases hd with h | h <;> (dsimp only [bxS] at h; omega))
theorem rwS.loc (va : Option Addr) (X : List Value) (lo hi : Nat) : (rwS va X lo hi).Loc := fun _ _ l h hp t hd => by
  rcases hp with e | ⟨g, h1, h2, h3, h4⟩
  · exact .inl e
  · exact .inr ⟨g, h1, h2, h3, h4.turned t (by rcases hd with e | e <;> (dsimp only [rwS] at e; omega))⟩
structure SL (w0 W : World) (S : List Str) : Prop where
  bel : Below w0.heap.size w0 W
  is : ∀ s ∈ S, s.p W ∧ s.Loc ∧ w0.heap.size ≤ s.lo ∧ s.hi ≤ W.heap.size
  apart : S.Pairwise fun s t => s.hi ≤ t.lo ∨ t.hi ≤ s.lo
section
variable {w0 W W' : World} {S : List Str} {s t : Str}
theorem SL.tail (h : SL w0 W (s :: S)) : SL w0 W S := ⟨h.bel, fun x hx => h.is x (List.mem_cons_of_mem _ hx), (List.pairwise_cons.1 h.apart).2⟩
theorem SL.start (w : World) : SL w w [] := ⟨Below.refl _ _, fun _ h => (by cases h), .nil⟩
theorem SL.below (h : SL w0 W S) (hb : Below W.heap.size W W') : SL w0 W' S :=
  ⟨h.bel.trans (hb.mono h.bel.size), fun s hs => ⟨(h.is s hs).2.1 W W' W'.heap.size W'.heap.size (h.is s hs).1 (Turned.of_below hb _ _) (.inl (Nat.le_trans (h.is s hs).2.2.2 hb.size)), (h.is s hs).2.1, (h.is s hs).2.2.1, Nat.le_trans (h.is s hs).2.2.2 hb.size⟩, h.apart⟩
theorem SL.drew (h : SL w0 W S) : SL w0 W.drew S := h.below (Below.drew (Below.refl _ _))
/-- What a call has made. -/
theorem SL.add (h : SL w0 W S) (hb : Below W.heap.size W W') (hp : s.p W') (hl : s.Loc) (h1 : W.heap.size ≤ s.lo) (h2 : s.hi ≤ W'.heap.size) : SL w0 W' (s :: S) := by
  have k := h.below hb
  refine ⟨k.bel, fun x hx => ?_, List.pairwise_cons.2 ⟨fun x hx => .inr (Nat.le_trans (h.is x hx).2.2.2 h1), h.apart⟩⟩
  rcases List.mem_cons.1 hx with rfl | hx
  · exact ⟨hp, hl, Nat.le_trans h.bel.size h1, h2⟩
  · exact k.is x hx
theorem SL.add2 (h : SL w0 W S) (hb : Below W.heap.size W W') (hp : s.p W') (hl : s.Loc) (h1 : W.heap.size ≤ s.lo) (h2 : s.hi ≤ W'.heap.size) (kp : t.p W') (kl : t.Loc) (k1 : W.heap.size ≤ t.lo) (k2 : t.hi ≤ W'.heap.size) (ha : s.hi ≤ t.lo ∨ t.hi ≤ s.lo) : SL w0 W' (s :: t :: S) := by
  have k := h.add hb kp kl k1 k2
  refine ⟨k.bel, fun x hx => ?_, List.pairwise_cons.2 ⟨fun x hx => ?_, k.apart⟩⟩
  · rcases List.mem_cons.1 hx with rfl | hx
    · exact ⟨hp, hl, Nat.le_trans h.bel.size h1, h2⟩
    · exact k.is x hx
  · rcases List.mem_cons.1 hx with rfl | hx
    · exact ha
    · exact .inr (Nat.le_trans (h.is x hx).2.2.2 h1)
theorem SL.new (h : SL w0 W S) (cs : Array Value) (ty : TypeId) : SL w0 (W.alloc (.cells cs ty)) (bxS W.heap.size cs.toList :: S) :=
  h.add ((Below.refl _ _).alloc (Nat.le_refl _) _) (wcells_new W cs ty) (bxS.loc _ _) (Nat.le_refl _) (by simp)
theorem SL.at (h : SL w0 W S) (i : Nat) (hs : S[i]? = some s) : s.p W := (h.is _ (List.mem_of_getElem? hs)).1
theorem SL.bx (h : SL w0 W S) (i : Nat) {b : Nat} {X : List Value} (hs : S[i]? = some (bxS b X)) (j : Nat) (v : Value) (hv : X[j]? = some v) : W.cell? ⟨b, j, none⟩ = some v ∧ W.frozen? ⟨b, j, none⟩ = false := (show WCells W b X from h.at i hs).2 j v hv
/-- What lies in one stretch is turned. -/
theorem SL.turn (h : SL w0 W S) (i : Nat) (hs : S[i]? = some s) (tu : Turned W W' s.lo s.hi) {q : World → Prop} (hq : q W') (hl : Str.Loc ⟨q, s.lo, s.hi⟩) : SL w0 W' (S.set i ⟨q, s.lo, s.hi⟩) := by
  have hm := h.is s (List.mem_of_getElem? hs)
  obtain ⟨hi, hie⟩ := List.getElem?_eq_some_iff.1 hs
  have hap : ∀ j (hj : j < S.length), j ≠ i → S[j].hi ≤ s.lo ∨ s.hi ≤ S[j].lo := fun j hj hne => by
    have := List.pairwise_iff_getElem.1 h.apart
    rcases Nat.lt_or_gt_of_ne hne with e | e
    · have := this j i hj hi e; rw [hie] at this; exact this
    · have := this i j hi hj e; rw [hie] at this; exact this.symm
  refine ⟨⟨h.bel.os ▸ tu.base.os ▸ rfl, ?_, ?_, ?_, ?_⟩, fun x hx => ?_, ?_⟩
  · exact tu.base.tape.trans h.bel.tape
  · exact tu.base.output.trans h.bel.output
  · exact Nat.le_trans h.bel.size tu.base.size
  · intro k hk
    exact (tu.block k (Nat.lt_of_lt_of_le hk h.bel.size) (by omega)).trans (h.bel.block k hk)
  · obtain ⟨j, hj, rfl⟩ := List.getElem_of_mem hx
    rw [List.length_set] at hj
    by_cases e : j = i
    · subst e
      rw [List.getElem_set_self]
      exact ⟨hq, hl, hm.2.2.1, Nat.le_trans hm.2.2.2 tu.base.size⟩
    · rw [List.getElem_set_ne (Ne.symm e)]
      have k := h.is _ (List.getElem_mem hj)
      exact ⟨k.2.1 W W' _ _ k.1 tu (hap j hj e), k.2.1, k.2.2.1, Nat.le_trans k.2.2.2 tu.base.size⟩
  · rw [List.pairwise_iff_getElem] at *
    intro a b ha hb hab
    rw [List.length_set] at ha hb
    have := List.pairwise_iff_getElem.1 h.apart a b ha hb hab
    rw [List.getElem_set, List.getElem_set]
    split <;> split
    · omega
    · rename_i e1 e2; subst e1; rw [hie] at this; exact this
    · rename_i e1 e2; subst e2; rw [hie] at this; exact this
    · exact this
theorem SL.put (h : SL w0 W S) (i : Nat) {b : Nat} {X : List Value} (hs : S[i]? = some (bxS b X)) (j : Nat) (v : Value) (hj : j < X.length) : SL w0 (W.setCell ⟨b, j, none⟩ v) (S.set i (bxS b (X.set j v))) :=
  h.turn i hs (Turned.of_grown (gb_set' W b j v) (Nat.le_refl _) (Nat.lt_succ_self _)) ((show WCells W b X from h.at i hs).set j v hj) (bxS.loc _ _)
theorem SL.swap (h : SL w0 W (s :: t :: S)) : SL w0 W (t :: s :: S) := by
  refine ⟨h.bel, fun x hx => h.is x (by simp only [List.mem_cons] at hx ⊢; rcases hx with h | h | h <;> simp [h]), ?_⟩
  have h1 := List.pairwise_cons.1 h.apart
  have h2 := List.pairwise_cons.1 h1.2
  exact List.pairwise_cons.2 ⟨fun x hx => by
    rcases List.mem_cons.1 hx with rfl | hx
    · exact (h1.1 t (List.mem_cons_self ..)).symm
    · exact h2.1 x hx, List.pairwise_cons.2 ⟨fun x hx => h1.1 x (List.mem_cons_of_mem _ hx), h2.2⟩⟩
/-- A row of one's own that is made longer, outside all stretches. -/
theorem SL.grown (h : SL w0 W S) {row : Option Nat} (hg : W.grownBy W' row) (hr : ∀ q, row = some q → w0.heap.size ≤ q ∧ ∀ s ∈ S, s.hi ≤ q ∨ q < s.lo) : SL w0 W' S := by
  cases row with
  | none => exact h.below ⟨hg.os, hg.tape, hg.output, hg.size, fun k hk => hg.block k hk (by simp)⟩
  | some q =>
    have t := Turned.of_grown hg (Nat.le_refl q) (Nat.lt_succ_self q)
    refine ⟨h.bel.grown hg h.bel.size fun k e => by cases e; exact (hr q rfl).1, fun s hs => ⟨(h.is s hs).2.1 W W' _ _ (h.is s hs).1 t (by rcases (hr q rfl).2 s hs with e | e <;> omega), (h.is s hs).2.1, (h.is s hs).2.2.1, Nat.le_trans (h.is s hs).2.2.2 hg.size⟩, h.apart⟩
end
end Go.Proofs.Ytendbipfmgnjkaa
