/- Texts of ours, laid one behind the other: TCdX, TCdB, TFieldQ, TPrO, TCdC, TPrH, TPrI. -/
import Derived.Test.YtbkimmbfepjodaaDoorPfT8
set_option linter.unusedVariables false
set_option linter.unusedSimpArgs false
/- Units and sums, plain: what the program's own ways to Encode, Decode and Rebuild come to. Nothing of the program is read here. -/
namespace Go.Proofs.YtbkimmbfepjodaaDoorT
set_option maxRecDepth 100000
open Go.RowKit
open W (B8 Mx)
attribute [local irreducible] W.gm W.xs W.mm W.gi mx matOk

theorem getD_in {α : Type} {L : List α} {k : Nat} (d : α) (h : k < L.length) : L.getD k d = L[k] := by simp [List.getD, h]
theorem mostL_even {L : List ByteArray} {m : Nat} (hne : L ≠ []) (h : ∀ x ∈ L, x.size = m) : mostL L = m := by
  obtain ⟨x, r, rfl⟩ := List.exists_cons_of_ne_nil hne
  have h1 := mostL_le (L := x :: r) (x := x) (by simp)
  have h2 := mostL_all (L := x :: r) (n := m) (fun y hy => Nat.le_of_eq (h y hy))
  have h3 := h x (by simp)
  omega
/-- Texts of one length. -/
def evenL (L : List ByteArray) : Prop := ∀ x ∈ L, x.size = mostL L
theorem even_one (L : List ByteArray) (H : List Bool) (n : Nat) : evenL (unitsP L (thereI H n)) ↔ OneLen L H n := by
  constructor
  · intro h i hi j hj
    rw [h _ (List.mem_map.2 ⟨i, hi, rfl⟩), h _ (List.mem_map.2 ⟨j, hj, rfl⟩)]
  · intro h x hx
    have hall : ∀ y ∈ unitsP L (thereI H n), y.size = x.size := fun y hy => by
      obtain ⟨i, hi, rfl⟩ := List.mem_map.1 hx
      obtain ⟨j, hj, rfl⟩ := List.mem_map.1 hy
      exact h j hj i hi
    exact (mostL_even (List.ne_nil_of_mem hx) hall).symm
theorem invX_nil {X : List (List Int)} (h : (invX X).2 = false) : (invX X).1 = [] := by
  by_cases q : ∃ Y, IsInv X Y
  · obtain ⟨Y, hY⟩ := q
    rw [invX_yes hY] at h
    cases h
  · rw [invX_no q]
theorem app_empty (L : List ByteArray) : appX [] L = [] := appX_no (fun h => by have := matOk_iff h.1; simp at this)
/-- Decode, as the program comes to it. -/
theorem dec_is {s : Int} {L : List ByteArray} {H : List Bool} (h : DecOk s L H) : decX s L H = (appX (invX (rowsP s (pickI s H H.length))).1 (unitsP L (pickI s H H.length)), (invX (rowsP s (pickI s H H.length))).2) := by
  cases q : (invX (rowsP s (pickI s H H.length))).2 with
  | true => exact decX_yes h q
  | false =>
    rw [decX_no (fun k => by rw [k.2] at q; cases q), invX_nil q, app_empty]
theorem dec_not {s : Int} {L : List ByteArray} {H : List Bool} (h : ¬ DecOk s L H) : decX s L H = ([], false) := decX_no (fun k => h k.1)
theorem unitsP_take (L : List ByteArray) (I : List Nat) (k : Nat) : (unitsP L I).take k = unitsP L (I.take k) := by unfold unitsP; rw [List.map_take]
theorem rowsP_take (s : Int) (I : List Nat) (k : Nat) : (rowsP s I).take k = rowsP s (I.take k) := by unfold rowsP; rw [List.map_take]
end Go.Proofs.YtbkimmbfepjodaaDoorT
/- The program's own longest, oneLength, there. -/
namespace Go.Proofs.YtbkimmbfepjodaaDoorT
set_option maxRecDepth 100000
open Go.RowKit
open W (B8 Mx)
attribute [local go_sem ↓] Go.wp_at_zero Go.wp_at_succ
attribute [local irreducible] W.gm W.xs W.mm W.gi mx matOk

theorem most_step {L : List ByteArray} {k : Nat} (h : k < L.length) : mostL (L.take (k + 1)) = max (mostL (L.take k)) (L.getD k ⟨#[]⟩).size := by
  rw [List.take_succ_eq_append_getElem h, mostL_snoc, getD_in _ h]
theorem most_part (L : List ByteArray) (k : Nat) : mostL (L.take k) ≤ mostL L := mostL_all (fun _ hx => mostL_le (List.mem_of_mem_take hx))
theorem most_fitU {L : List ByteArray} (h : UFit L) : mostL L ≤ 1048576 := mostL_all (fun x hx => h.2 x hx)
set_option maxHeartbeats 1000000 in
theorem implLongestU {w : World} {v : Value} {L : List ByteArray} {lo hi : Nat} (hs : SSee w v L lo hi) (hf : UFit L) : Calls Tw.prog 53 #[v] w fun e w' => e = .returned (.int .i64 (mostL L : Nat)) ∧ Below w.heap.size w w' := by
  obtain ⟨a, cap, rfl, hr⟩ := hs
  have HR := Shut.mk hr
  have hn : L.length ≤ 1048576 := hf.1
  have hm := most_fitU hf
  clear hr hf
  go_enter Tw.func53, Tw.ntmps53
  go_wp2_with fail
  go_loopw [3, 8] (fun m i wr => ∃ (k : Nat), i = .int .i64 k ∧ k ≤ L.length ∧ m = .int .i64 (mostL (L.take k) : Nat) ∧ Below w.heap.size w wr) (fun _ i _ => L.length - (intOf i).toNat)
  case atStart => exact ⟨0, rfl, Nat.zero_le _, rfl, Below.refl _ _⟩
  case round =>
    obtain ⟨k, rfl, hk, rfl, hb⟩ := hrel
    have hmk := most_part L k
    by_cases hlt : k < L.length
    · obtain ⟨b, off, rfl, lb, hc⟩ := units_in HR.out (by omega)
      have d0 := (hb.cell (p := ⟨b, off + k, none⟩) lb).trans (hc k hlt)
      have hst := most_step hlt
      have hms := most_part L (k + 1)
      have k0 : (0 : Int) ≤ (k : Int) := by omega
      have k1 : (k : Int) < (L.length : Int) := by omega
      rw [hst] at hms
      generalize L.getD k ⟨#[]⟩ = x at *
      generalize mostL (L.take k) = m at *
      have HST := Shut.mk hst
      have HBN := Shut.mk hb
      clear hc hst hb
      go_wp2_with fail
      go_roundw
      case rel => exact ⟨k + 1, by go_num, by omega, congrArg (Value.int .i64) (by rw [HST.out]; split <;> omega), HBN.out⟩
      case measure => simp [intOf]; omega
    · have e : k = L.length := by omega
      have hlt' : ¬ (k : Int) < (L.length : Int) := by omega
      have hx : mostL (L.take k) = mostL L := by rw [List.take_of_length_le (by omega)]
      rw [hx]
      clear hx e hmk
      go_wp2_with fail
      go_ret
      exact ⟨rfl, hb⟩
def EvenPost (L : List ByteArray) (w : World) (e : Ending) (w' : World) : Prop := ∃ b, e = .returned (.bool b) ∧ (b = true ↔ evenL L) ∧ Below w.heap.size w w'
set_option maxHeartbeats 1000000 in
theorem implOneLengthU {w : World} {v : Value} {L : List ByteArray} {lo hi : Nat} (hs : SSee w v L lo hi) (hf : UFit L) : Calls Tw.prog 33 #[v] w fun e w' => EvenPost L w e w' := by
  have HL := Shut.mk (implLongestU hs hf)
  obtain ⟨a, cap, rfl, hr⟩ := hs
  have HR := Shut.mk hr
  have hn : L.length ≤ 1048576 := hf.1
  have hm := most_fitU hf
  have HF := Shut.mk hf
  clear hr hf
  go_enter Tw.func33, Tw.ntmps33
  go_wp2_with fail
  refine HL.out.mono ?_
  rintro e w1 ⟨rfl, hb1⟩
  have HB1 := Shut.mk hb1
  clear hb1 HL
  go_wp2_with fail
  go_loopw [10] (fun i wr => ∃ (k : Nat), i = .int .i64 k ∧ k ≤ L.length ∧ Shut (∀ j, j < k → (L.getD j ⟨#[]⟩).size = mostL L) ∧ Shut (Below w.heap.size w wr)) (fun i _ => L.length - (intOf i).toNat)
  case atStart => exact ⟨0, rfl, Nat.zero_le _, ⟨fun j hj => by omega⟩, HB1⟩
  case round =>
    clear HB1
    obtain ⟨k, rfl, hk, hall, hb⟩ := hrel
    by_cases hlt : k < L.length
    · obtain ⟨b, off, rfl, lb, hc⟩ := units_in HR.out (by omega)
      have d0 := (hb.out.cell (p := ⟨b, off + k, none⟩) lb).trans (hc k hlt)
      have hxm : L.getD k ⟨#[]⟩ ∈ L := by rw [getD_in _ hlt]; exact List.getElem_mem hlt
      have hxs := mostL_le hxm
      have HXM := Shut.mk hxm
      obtain ⟨x, hx⟩ : ∃ x, x = L.getD k ⟨#[]⟩ := ⟨_, rfl⟩
      rw [← hx] at d0 hxs HXM
      have HX := Shut.mk hx
      obtain ⟨M, hM⟩ : ∃ M, M = mostL L := ⟨_, rfl⟩
      have HMM := Shut.mk hM
      rw [← hM] at hxs hm ⊢
      have k0 : (0 : Int) ≤ (k : Int) := by omega
      have k1 : (k : Int) < (L.length : Int) := by omega
      clear hc hx hxm hM
      by_cases heq : x.size = M
      · have e1 : ((x.size : Int) != (M : Int)) = false := by rw [heq]; simp
        go_wp2_with fail
        go_roundw
        case rel => exact ⟨k + 1, by go_num, by omega, ⟨fun j hj => by
          rcases Nat.lt_succ_iff_lt_or_eq.1 hj with q | q
          · exact (hall.out j q).trans HMM.out.symm
          · subst q; rw [← HX.out]; exact heq⟩, hb⟩
        case measure => simp [intOf]; omega
      · have e1 : ((x.size : Int) != (M : Int)) = true := by rw [bne_iff_ne]; omega
        go_wp2_with fail
        go_ret
        exact ⟨false, rfl, ⟨fun h => (by cases h), fun h => absurd ((h _ HXM.out).trans HMM.out.symm) heq⟩, hb.out⟩
    · have hlt' : ¬ (k : Int) < (L.length : Int) := by omega
      have HE : Shut (evenL L) := ⟨fun x hx => by
        obtain ⟨j, hj, rfl⟩ := List.mem_iff_getElem.1 hx
        have := hall.out j (by omega)
        rw [getD_in _ hj] at this
        exact this⟩
      clear hall
      go_wp2_with fail
      go_ret
      exact ⟨true, rfl, ⟨fun _ => HE.out, fun _ => rfl⟩, hb.out⟩
def pickV (H : List Bool) (V : List Value) (n : Nat) : List Value := (thereI H n).map fun i => V.getD i (.bool false)
theorem thereI_le (H : List Bool) (n : Nat) : (thereI H n).length ≤ n := by
  have := List.length_filter_le (fun i => H.getD i false) (List.range n)
  rw [List.length_range] at this
  exact this
theorem pickV_yes {H : List Bool} {V : List Value} {n : Nat} (h : H.getD n false = true) : pickV H V (n + 1) = pickV H V n ++ [V.getD n (.bool false)] := by
  unfold pickV
  rw [thereI_succ, if_pos h, List.map_append]; rfl
theorem pickV_no {H : List Bool} {V : List Value} {n : Nat} (h : ¬ H.getD n false = true) : pickV H V (n + 1) = pickV H V n := by
  unfold pickV
  rw [thereI_succ, if_neg h, List.append_nil]
theorem there_yes {H : List Bool} {n : Nat} (h : H.getD n false = true) : (thereI H (n + 1)).length = (thereI H n).length + 1 := by rw [thereI_succ, if_pos h, List.length_append]; rfl
theorem there_no {H : List Bool} {n : Nat} (h : ¬ H.getD n false = true) : (thereI H (n + 1)).length = (thereI H n).length := by rw [thereI_succ, if_neg h, List.append_nil]
set_option maxRecDepth 100000 in
set_option maxHeartbeats 2000000 in
theorem implThereS {w : World} {a b : Option Addr} {c d lo hi lo' hi' : Nat} {H : List Bool} {V : List Value} (hh : RRow w a (bcs H) lo hi) (hv : RRow w b V lo' hi') (hn : V.length = H.length) (h8 : H.length ≤ 8) (h1 : ∀ u ∈ V, ∃ y, u = .string y) :
    Calls Tw.prog 30 #[.slice a H.length c, .slice b H.length d] w fun e w' => ∃ v, e = .returned v ∧ w'.ownsRow w.heap.size 9 1 v (thereI H H.length).length (pickV H V H.length) ∧ Below w.heap.size w w' := by
  obtain ⟨i0, hi0, hz0, hz1, hz2⟩ := info_parts infoTextG
  have HH := Shut.mk hh
  have HV := Shut.mk hv
  have HN := Shut.mk (And.intro hn h1)
  obtain ⟨n, hnn⟩ : ∃ n, n = H.length := ⟨_, rfl⟩
  have HL := Shut.mk hnn
  rw [← hnn] at h8 ⊢
  clear hh hv hn h1 hnn
  go_enter Tw.func30, Tw.ntmps30
  go_wp2_with fail
  go_loopw [5, 10] (fun v i wr => ∃ (k : Nat) (vv : Value), vv = v ∧ i = .int .i64 k ∧ k ≤ n ∧ Shut (wr.ownsRow w.heap.size 9 1 vv (thereI H k).length (pickV H V k)) ∧ Shut (Below w.heap.size w wr)) (fun _ i _ => n - (intOf i).toNat)
  case atStart => exact ⟨0, _, rfl, rfl, Nat.zero_le _, ⟨World.ownsRow_nil _ _ _ _⟩, ⟨Below.refl _ _⟩⟩
  case round =>
    obtain ⟨k, v, rfl, rfl, hk, hown, hb⟩ := hrel
    obtain ⟨wi, rfl⟩ : ∃ wi, wi = wr := ⟨_, rfl⟩
    by_cases hlt : k < n
    · have hkh : k < H.length := by have := HL.out; omega
      have hkv : k < V.length := by have := HN.out.1; omega
      obtain ⟨b1, o1, rfl, _, _, l1, c1⟩ := HH.out (by rw [bcs_len]; omega)
      obtain ⟨b2, o2, rfl, _, _, l2, c2⟩ := HV.out (by omega)
      have d1 := (hb.out.cell (p := ⟨b1, o1 + k, none⟩) l1).trans (c1 k _ (bcs_get H k hkh))
      have d2 := (hb.out.cell (p := ⟨b2, o2 + k, none⟩) l2).trans (c2 k (V.getD k (.bool false)) (by rw [getD_in _ hkv]; exact List.getElem?_eq_getElem hkv))
      have k0 : (0 : Int) ≤ (k : Int) := by omega
      have k1 : (k : Int) < (n : Int) := by omega
      have hle := thereI_le H k
      have hsz := hb.out.size
      cases hf : H.getD k false with
      | true =>
        rw [hf] at d1
        have HP := Shut.mk (pickV_yes (V := V) hf)
        have HQ := Shut.mk (there_yes hf)
        obtain ⟨y, hy⟩ := HN.out.2 (V.getD k (.bool false)) (by rw [getD_in _ hkv]; exact List.getElem_mem hkv)
        rw [hy] at d2 HP
        generalize (thereI H k).length = tl at *
        have hown2 := hown.out
        clear c1 c2 hf hown hy
        go_wp2_with (at_builtin; refine wpList_append_own _ rfl _ _ 34 rfl w.heap.size 9 i0 (.string ⟨#[]⟩) 1 16 Tw.underlying34 hi0 hz0 hz1 hz2 rfl (by decide) _ _ _ rfl (hown2.alloc _) ⟨wi.heap.size, 0, none⟩ 1 1 [.string y] rfl rfl (cell_one_new _ _ _) ?c2 ?c3 ?c4 ?c5 ?_)
        case c2 => first | rfl | (intro u hu; simp at hu; subst hu; rfl)
        case c3 => unfold maxLen; omega
        case c4 => omega
        case c5 => first | omega | (simp; omega)
        intro v' w4 hown' hgrow _
        rw [← HP.out, ← HQ.out] at hown'
        have Q1 := Shut.mk hown'
        have Q2 := Shut.mk ((hb.out.alloc hsz _).grown hgrow (by simp; omega) (fun j hj => (hown2.lt j hj).1))
        clear hown' hgrow hown2 hb
        go_wp2_with fail
        go_roundw
        case rel => exact ⟨k + 1, v', rfl, by go_num, by omega, Q1, Q2⟩
        case measure => simp [intOf]; omega
      | false =>
        rw [hf] at d1
        have HP := Shut.mk (pickV_no (V := V) (n := k) (H := H) (by rw [hf]; decide))
        have HQ := Shut.mk (there_no (n := k) (H := H) (by rw [hf]; decide))
        obtain ⟨y, hy⟩ := HN.out.2 (V.getD k (.bool false)) (by rw [getD_in _ hkv]; exact List.getElem_mem hkv)
        rw [hy] at d2
        clear c1 c2 hf hy
        go_wp2_with fail
        go_roundw
        case rel => exact ⟨k + 1, v, rfl, by go_num, by omega, ⟨by rw [HP.out, HQ.out]; exact hown.out⟩, hb⟩
        case measure => simp [intOf]; omega
    · have e : k = n := by omega
      subst e
      have hlt' : ¬ (k : Int) < (k : Int) := by omega
      clear hlt
      go_wp2_with fail
      go_ret
      exact ⟨v, rfl, hown.out, hb.out⟩
set_option maxRecDepth 100000 in
set_option maxHeartbeats 2000000 in
theorem implThereR {w : World} {a b : Option Addr} {c d lo hi lo' hi' : Nat} {H : List Bool} {V : List Value} (hh : RRow w a (bcs H) lo hi) (hv : RRow w b V lo' hi') (hn : V.length = H.length) (h8 : H.length ≤ 8) (h1 : ∀ u ∈ V, ∃ p n c, u = .slice p n c) :
    Calls Tw.prog 31 #[.slice a H.length c, .slice b H.length d] w fun e w' => ∃ v, e = .returned v ∧ w'.ownsRow w.heap.size 52 1 v (thereI H H.length).length (pickV H V H.length) ∧ Below w.heap.size w w' := by
  obtain ⟨i0, hi0, hz0, hz1, hz2⟩ := info_parts infoRow
  have HH := Shut.mk hh
  have HV := Shut.mk hv
  have HN := Shut.mk (And.intro hn h1)
  obtain ⟨n, hnn⟩ : ∃ n, n = H.length := ⟨_, rfl⟩
  have HL := Shut.mk hnn
  rw [← hnn] at h8 ⊢
  clear hh hv hn h1 hnn
  go_enter Tw.func31, Tw.ntmps31
  go_wp2_with fail
  go_loopw [5, 10] (fun v i wr => ∃ (k : Nat) (vv : Value), vv = v ∧ i = .int .i64 k ∧ k ≤ n ∧ Shut (wr.ownsRow w.heap.size 52 1 vv (thereI H k).length (pickV H V k)) ∧ Shut (Below w.heap.size w wr)) (fun _ i _ => n - (intOf i).toNat)
  case atStart => exact ⟨0, _, rfl, rfl, Nat.zero_le _, ⟨World.ownsRow_nil _ _ _ _⟩, ⟨Below.refl _ _⟩⟩
  case round =>
    obtain ⟨k, v, rfl, rfl, hk, hown, hb⟩ := hrel
    obtain ⟨wi, rfl⟩ : ∃ wi, wi = wr := ⟨_, rfl⟩
    by_cases hlt : k < n
    · have hkh : k < H.length := by have := HL.out; omega
      have hkv : k < V.length := by have := HN.out.1; omega
      obtain ⟨b1, o1, rfl, _, _, l1, c1⟩ := HH.out (by rw [bcs_len]; omega)
      obtain ⟨b2, o2, rfl, _, _, l2, c2⟩ := HV.out (by omega)
      have d1 := (hb.out.cell (p := ⟨b1, o1 + k, none⟩) l1).trans (c1 k _ (bcs_get H k hkh))
      have d2 := (hb.out.cell (p := ⟨b2, o2 + k, none⟩) l2).trans (c2 k (V.getD k (.bool false)) (by rw [getD_in _ hkv]; exact List.getElem?_eq_getElem hkv))
      have k0 : (0 : Int) ≤ (k : Int) := by omega
      have k1 : (k : Int) < (n : Int) := by omega
      have hle := thereI_le H k
      have hsz := hb.out.size
      cases hf : H.getD k false with
      | true =>
        rw [hf] at d1
        have HP := Shut.mk (pickV_yes (V := V) hf)
        have HQ := Shut.mk (there_yes hf)
        obtain ⟨yp, yn, yc, hy⟩ := HN.out.2 (V.getD k (.bool false)) (by rw [getD_in _ hkv]; exact List.getElem_mem hkv)
        rw [hy] at d2 HP
        generalize (thereI H k).length = tl at *
        have hown2 := hown.out
        clear c1 c2 hf hown hy
        go_wp2_with (at_builtin; refine wpList_append_own _ rfl _ _ 50 rfl w.heap.size 52 i0 (.slice none 0 0) 1 24 Tw.underlying50 hi0 hz0 hz1 hz2 rfl (by decide) _ _ _ rfl (hown2.alloc _) ⟨wi.heap.size, 0, none⟩ 1 1 [.slice yp yn yc] rfl rfl (cell_one_new _ _ _) ?c2 ?c3 ?c4 ?c5 ?_)
        case c2 => first | rfl | (intro u hu; simp at hu; subst hu; rfl)
        case c3 => unfold maxLen; omega
        case c4 => omega
        case c5 => first | omega | (simp; omega)
        intro v' w4 hown' hgrow _
        rw [← HP.out, ← HQ.out] at hown'
        have Q1 := Shut.mk hown'
        have Q2 := Shut.mk ((hb.out.alloc hsz _).grown hgrow (by simp; omega) (fun j hj => (hown2.lt j hj).1))
        clear hown' hgrow hown2 hb
        go_wp2_with fail
        go_roundw
        case rel => exact ⟨k + 1, v', rfl, by go_num, by omega, Q1, Q2⟩
        case measure => simp [intOf]; omega
      | false =>
        rw [hf] at d1
        have HP := Shut.mk (pickV_no (V := V) (n := k) (H := H) (by rw [hf]; decide))
        have HQ := Shut.mk (there_no (n := k) (H := H) (by rw [hf]; decide))
        obtain ⟨yp, yn, yc, hy⟩ := HN.out.2 (V.getD k (.bool false)) (by rw [getD_in _ hkv]; exact List.getElem_mem hkv)
        rw [hy] at d2
        clear c1 c2 hf hy
        go_wp2_with fail
        go_roundw
        case rel => exact ⟨k + 1, v, rfl, by go_num, by omega, ⟨by rw [HP.out, HQ.out]; exact hown.out⟩, hb⟩
        case measure => simp [intOf]; omega
    · have e : k = n := by omega
      subst e
      have hlt' : ¬ (k : Int) < (k : Int) := by omega
      clear hlt
      go_wp2_with fail
      go_ret
      exact ⟨v, rfl, hown.out, hb.out⟩
end Go.Proofs.YtbkimmbfepjodaaDoorT
/- The program's own sums and products of texts. -/
namespace Go.Proofs.YtbkimmbfepjodaaDoorT
set_option maxRecDepth 100000
open Go.RowKit
open W (B8)
attribute [local go_sem ↓] Go.wp_at_zero Go.wp_at_succ
attribute [local irreducible] W.gm W.xt W.gp W.gi
set_option maxHeartbeats 1000000 in
theorem implAdd_long (a b : ByteArray) (w : World) (ha : a.size ≤ 1048576) (h : b.size ≤ a.size) :
    Calls Tw.prog 58 #[.string a, .string b] w fun e w' => e = .returned (.string (addB a b)) ∧ Below w.heap.size w w' := by
  have hlt' : ¬ (a.size : Int) < (b.size : Int) := by omega
  obtain ⟨w1, c1, hcv, hrow, hb1⟩ := bytes_made w a
  have hla : a.data.toList.length = a.size := rfl
  have hlb : b.data.toList.length = b.size := rfl
  have HB1 : Hid (Below w.heap.size w w1) := hb1
  have HROW : Hid (BRow w1 w.heap.size a.data.toList) := hrow
  clear hb1 hrow
  go_enter Tw.func58, Tw.ntmps58
  go_wp2_with fail
  go_loopw [18] (fun i wr => ∃ k : Nat, i = .int .i64 k ∧ k ≤ b.size ∧ BRow wr w.heap.size (W.addTo a.data.toList b.data.toList k) ∧ Below w.heap.size w wr) (fun i _ => b.size - (intOf i).toNat)
  case atStart => exact ⟨0, rfl, Nat.zero_le _, by rw [W.addTo_zero]; exact HROW.out, HB1.out⟩
  case round =>
    obtain ⟨k, rfl, hk, hrw, hbl⟩ := hrel
    have hll := W.addTo_len (a := a.data.toList) (b := b.data.toList) (k := k) h
    by_cases hlt : k < b.size
    · have k0 : (0 : Int) ≤ (k : Int) := by omega
      have k1 : (k : Int) < (b.size : Int) := by omega
      have k2 : (k : Int) < (a.size : Int) := by omega
      have hst := W.addTo_step (a := a.data.toList) (b := b.data.toList) (k := k) h hlt
      have hc := hrw.2 k (by omega)
      obtain ⟨hc1, hc2⟩ := hc
      have hset := hrw.set k (a.data.toList.getD k 0 ^^^ b.data.toList.getD k 0) (by omega)
      rw [hst.2] at hset
      have hix := index_str b k hlt
      rw [get_list b k hlt] at hix
      have hiy := index_str a k (by omega)
      rw [get_list a k (by omega)] at hiy
      have hp : ∀ w : World, Calls Tw.prog 75 #[.int .u8 ((a.data.toList.getD k 0).toNat : Int), .int .u8 ((b.data.toList.getD k 0).toNat : Int)] w fun e w' => e = .returned (.int .u8 ((a.data.toList.getD k 0 ^^^ b.data.toList.getD k 0).toNat : Int)) ∧ w' = w := fun w => implPlus (a.data.toList.getD k 0).toBitVec (b.data.toList.getD k 0).toBitVec w
      generalize (W.addTo a.data.toList b.data.toList k).getD k 0 = o at *
      generalize a.data.toList.getD k 0 = x at *
      generalize b.data.toList.getD k 0 = y at *
      have HS : Hid (BRow (wr.setCell ⟨w.heap.size, k, none⟩ (.int .u8 ((x ^^^ y).toNat : Int))) w.heap.size (W.addTo a.data.toList b.data.toList (k + 1))) := hset
      have HBL : Hid (Below w.heap.size w wr) := hbl
      clear hset hst hrw hbl
      generalize x ^^^ y = z at *
      go_wp2_with fail
      go_region_with ((go_at_call 75; refine (hp _).mono ?_; rintro e w9 ⟨rfl, rfl⟩))
      all_goals go_wp2_with fail
      all_goals exact ⟨⟨k + 1, by go_num, by omega, HS.out, Below.drew (HBL.out.setCell (Nat.le_refl _) _)⟩, by simp [intOf]; omega⟩
    · have e : k = b.size := by omega
      subst e
      have hall := W.addTo_all (a := a.data.toList) (b := b.data.toList) h
      rw [hlb] at hall
      have hcv2 := brow_string (cap := c1) hrw
      rw [hall] at hcv2
      have hl2 : (W.addL a.data.toList b.data.toList).length = a.size := by rw [← hall]; exact hll
      rw [hl2] at hcv2
      have HBL : Hid (Below w.heap.size w wr) := hbl
      clear hrw hall hl2 hll hbl
      go_wp2_with fail
      go_ret
      exact ⟨rfl, HBL.out⟩
set_option maxHeartbeats 1000000 in
theorem implAdd_short (a b : ByteArray) (w : World) (ha : a.size ≤ 1048576) (h' : b.size < a.size) :
    Calls Tw.prog 58 #[.string b, .string a] w fun e w' => e = .returned (.string (addB a b)) ∧ Below w.heap.size w w' := by
  have hlt' : (b.size : Int) < (a.size : Int) := by omega
  have h : b.size ≤ a.size := by omega
  clear h'
  obtain ⟨w1, c1, hcv, hrow, hb1⟩ := bytes_made w a
  have hla : a.data.toList.length = a.size := rfl
  have hlb : b.data.toList.length = b.size := rfl
  have HB1 : Hid (Below w.heap.size w w1) := hb1
  have HROW : Hid (BRow w1 w.heap.size a.data.toList) := hrow
  clear hb1 hrow
  go_enter Tw.func58, Tw.ntmps58
  go_wp2_with fail
  go_loopw [18] (fun i wr => ∃ k : Nat, i = .int .i64 k ∧ k ≤ b.size ∧ BRow wr w.heap.size (W.addTo a.data.toList b.data.toList k) ∧ Below w.heap.size w wr) (fun i _ => b.size - (intOf i).toNat)
  case atStart => exact ⟨0, rfl, Nat.zero_le _, by rw [W.addTo_zero]; exact HROW.out, HB1.out⟩
  case round =>
    obtain ⟨k, rfl, hk, hrw, hbl⟩ := hrel
    have hll := W.addTo_len (a := a.data.toList) (b := b.data.toList) (k := k) h
    by_cases hlt : k < b.size
    · have k0 : (0 : Int) ≤ (k : Int) := by omega
      have k1 : (k : Int) < (b.size : Int) := by omega
      have k2 : (k : Int) < (a.size : Int) := by omega
      have hst := W.addTo_step (a := a.data.toList) (b := b.data.toList) (k := k) h hlt
      have hc := hrw.2 k (by omega)
      obtain ⟨hc1, hc2⟩ := hc
      have hset := hrw.set k (a.data.toList.getD k 0 ^^^ b.data.toList.getD k 0) (by omega)
      rw [hst.2] at hset
      have hix := index_str b k hlt
      rw [get_list b k hlt] at hix
      have hiy := index_str a k (by omega)
      rw [get_list a k (by omega)] at hiy
      have hp : ∀ w : World, Calls Tw.prog 75 #[.int .u8 ((a.data.toList.getD k 0).toNat : Int), .int .u8 ((b.data.toList.getD k 0).toNat : Int)] w fun e w' => e = .returned (.int .u8 ((a.data.toList.getD k 0 ^^^ b.data.toList.getD k 0).toNat : Int)) ∧ w' = w := fun w => implPlus (a.data.toList.getD k 0).toBitVec (b.data.toList.getD k 0).toBitVec w
      generalize (W.addTo a.data.toList b.data.toList k).getD k 0 = o at *
      generalize a.data.toList.getD k 0 = x at *
      generalize b.data.toList.getD k 0 = y at *
      have HS : Hid (BRow (wr.setCell ⟨w.heap.size, k, none⟩ (.int .u8 ((x ^^^ y).toNat : Int))) w.heap.size (W.addTo a.data.toList b.data.toList (k + 1))) := hset
      have HBL : Hid (Below w.heap.size w wr) := hbl
      clear hset hst hrw hbl
      generalize x ^^^ y = z at *
      go_wp2_with fail
      go_region_with ((go_at_call 75; refine (hp _).mono ?_; rintro e w9 ⟨rfl, rfl⟩))
      all_goals go_wp2_with fail
      all_goals exact ⟨⟨k + 1, by go_num, by omega, HS.out, Below.drew (HBL.out.setCell (Nat.le_refl _) _)⟩, by simp [intOf]; omega⟩
    · have e : k = b.size := by omega
      subst e
      have hall := W.addTo_all (a := a.data.toList) (b := b.data.toList) h
      rw [hlb] at hall
      have hcv2 := brow_string (cap := c1) hrw
      rw [hall] at hcv2
      have hl2 : (W.addL a.data.toList b.data.toList).length = a.size := by rw [← hall]; exact hll
      rw [hl2] at hcv2
      have HBL : Hid (Below w.heap.size w wr) := hbl
      clear hrw hall hl2 hll hbl
      go_wp2_with fail
      go_ret
      exact ⟨rfl, HBL.out⟩
theorem implAddText (a b : ByteArray) (w : World) (ha : a.size ≤ 1048576) (hb : b.size ≤ 1048576) : Calls Tw.prog 58 #[.string a, .string b] w fun e w' => e = .returned (.string (addB a b)) ∧ Below w.heap.size w w' := by
  by_cases h : b.size ≤ a.size
  · exact implAdd_long a b w ha h
  · rw [addB_comm]; exact implAdd_short b a w hb (by omega)
set_option maxHeartbeats 1000000 in
theorem implMulText (x : Int) (s : ByteArray) (w : World) (hs : s.size ≤ 1048576) : Calls Tw.prog 59 #[.int .i64 x, .string s] w fun e w' => e = .returned (.string (mulT (g8 x) s)) ∧ Below w.heap.size w w' := by
  have hm := g8_nat x
  generalize g8 x = A at *
  obtain ⟨w1, c1, hcv, hrow, hb1⟩ := bytes_made w s
  have HB1 : Hid (Below w.heap.size w w1) := hb1
  have HROW : Hid (BRow w1 w.heap.size s.data.toList) := hrow
  clear hb1 hrow
  go_enter Tw.func59, Tw.ntmps59
  go_wp2_with fail
  go_loopw [11] (fun i wr => ∃ k : Nat, i = .int .i64 k ∧ k ≤ s.size ∧ BRow wr w.heap.size (W.mulTo A s.data.toList k) ∧ Below w.heap.size w wr) (fun i _ => s.size - (intOf i).toNat)
  case atStart => exact ⟨0, rfl, Nat.zero_le _, by rw [W.mulTo_zero]; exact HROW.out, HB1.out⟩
  case round =>
    obtain ⟨k, rfl, hk, hrw, hbl⟩ := hrel
    have hll := W.mulTo_len A s.data.toList k
    have hls : s.data.toList.length = s.size := rfl
    by_cases hlt : k < s.size
    · have k0 : (0 : Int) ≤ (k : Int) := by omega
      have k1 : (k : Int) < (s.size : Int) := by omega
      have hst := W.mulTo_step A (l := s.data.toList) (k := k) hlt
      have hc := hrw.2 k (by omega)
      rw [hst.1] at hc
      obtain ⟨hc1, hc2⟩ := hc
      have hset := hrw.set k (W.mulB A (s.data.toList.getD k 0)) (by omega)
      rw [hst.2] at hset
      have hix := index_str s k hlt
      rw [get_list s k hlt] at hix
      generalize s.data.toList.getD k 0 = c at *
      have hcall : ∀ w : World, Calls Tw.prog 76 #[.int .u8 (x % 256), .int .u8 (c.toNat : Int)] w fun e w' => e = .returned (.int .u8 ((W.mulB A c).toNat : Int)) ∧ w' = w := fun w => by rw [← hm]; exact implTimes A c.toBitVec w
      have HS : Hid (BRow (wr.setCell ⟨w.heap.size, k, none⟩ (.int .u8 ((W.mulB A c).toNat : Int))) w.heap.size (W.mulTo A s.data.toList (k + 1))) := hset
      have HBL : Hid (Below w.heap.size w wr) := hbl
      clear hset hst hrw hbl
      generalize W.mulB A c = y at *
      go_wp2_with fail
      refine (hcall _).mono ?_
      rintro e w2 ⟨rfl, rfl⟩
      go_wp2_with fail
      go_roundw
      case rel => exact ⟨k + 1, by go_num, by omega, HS.out, HBL.out.setCell (Nat.le_refl _) _⟩
      case measure => simp [intOf]; omega
    · have e : k = s.size := by omega
      have hlt' : ¬ (k : Int) < (s.size : Int) := by omega
      subst e
      have hall := W.mulTo_all A s.data.toList (k := s.size) (Nat.le_of_eq hls)
      have hcv2 := brow_string (cap := c1) hrw
      rw [hall] at hcv2
      have hl2 : (W.mulL A s.data.toList).length = s.size := by rw [W.mulL_len]; exact hls
      rw [hl2] at hcv2
      have HBL : Hid (Below w.heap.size w wr) := hbl
      clear hrw hall hl2 hll hbl
      go_wp2_with fail
      go_ret
      exact ⟨rfl, HBL.out⟩
end Go.Proofs.YtbkimmbfepjodaaDoorT
/- The program's own ApplyM. -/
namespace Go.Proofs.YtbkimmbfepjodaaDoorT
set_option maxRecDepth 100000
open Go.RowKit
open W (B8 Mx)
attribute [local go_sem ↓] Go.wp_at_zero Go.wp_at_succ
attribute [local irreducible] W.gm W.xs W.mm W.gi mx addB mulT matOk

set_option maxRecDepth 100000 in
set_option maxHeartbeats 4000000 in
theorem applyI_walk (X : List (List Int)) (L : List ByteArray) (n m b1 o1 b2 o2 cap1 cap2 : Nat) (w : World) (hn1 : 1 ≤ n) (hn8 : n ≤ 8) (hm1 : 1 ≤ m) (hm8 : m ≤ 8) (hxl : X.length = n) (hll : L.length = m)
    (hR : b1 < w.heap.size ∧ ∀ i, i < n → ∃ b' o' cp, w.cell? ⟨b1, o1 + i, none⟩ = some (.slice (some ⟨b', o', none⟩) m cp) ∧ b' < w.heap.size ∧ ∀ j, j < m → w.cell? ⟨b', o' + j, none⟩ = some (.int .i64 ((X.getD i []).getD j 0)))
    (hU : b2 < w.heap.size ∧ ∀ j, j < m → w.cell? ⟨b2, o2 + j, none⟩ = some (.string (L.getD j ⟨#[]⟩))) (hf : ∀ x ∈ L, x.size ≤ 1048576)
    (hc1 : ∀ W : World, Below w.heap.size w W → Calls Tw.prog 54 #[.slice (some ⟨b1, o1, none⟩) n cap1] W fun e w' => e = .returned (.bool true) ∧ Below W.heap.size W w') :
    Calls Tw.prog 35 #[.slice (some ⟨b1, o1, none⟩) n cap1, .slice (some ⟨b2, o2, none⟩) m cap2] w fun e w' => SPost (X.map fun row => accB row L L.length) w e w' := by
  obtain ⟨i0, hi0, hz0, hz1, hz2⟩ := info_parts infoTextG
  have HC1 : Hid _ := hc1
  have HR : Shut (b1 < w.heap.size ∧ ∀ i, i < n → ∃ b' o' cp, w.cell? ⟨b1, o1 + i, none⟩ = some (.slice (some ⟨b', o', none⟩) m cp) ∧ b' < w.heap.size ∧ ∀ j, j < m → w.cell? ⟨b', o' + j, none⟩ = some (.int .i64 ((X.getD i []).getD j 0))) := ⟨hR⟩
  have HU : Shut (b2 < w.heap.size ∧ ∀ j, j < m → w.cell? ⟨b2, o2 + j, none⟩ = some (.string (L.getD j ⟨#[]⟩))) := ⟨hU⟩
  have HF : Shut (∀ x ∈ L, x.size ≤ 1048576) := ⟨hf⟩
  have HX : Shut (X.length = n ∧ L.length = m) := ⟨hxl, hll⟩
  have hne : ((m : Int) != (m : Int)) = false := by simp
  have n0 : (0 : Int) < (n : Int) := by omega
  clear hc1 hR hU hf hxl hll
  go_enter Tw.func35, Tw.ntmps35
  go_wp2_with fail
  refine (HC1.out _ (Below.refl _ _)).mono ?_
  rintro e w1 ⟨rfl, hb1⟩
  have hbw1 : Below w.heap.size w w1 := hb1
  obtain ⟨br, or, cr, d0', lr, _⟩ := HR.out.2 0 (by omega)
  have d0 : w1.cell? ⟨b1, o1, none⟩ = some (.slice (some ⟨br, or, none⟩) m cr) := (hbw1.cell (p := ⟨b1, o1 + 0, none⟩) HR.out.1).trans d0'
  have HOWN : Shut (w1.ownsRow w.heap.size 9 1 (.slice none 0 0) 0 []) := ⟨World.ownsRow_nil _ _ _ _⟩
  have HB1 : Shut (Below w.heap.size w w1) := ⟨hbw1⟩
  clear hb1 hbw1 HC1 d0'
  go_wp2_with fail
  go_loopw [5, 25] (fun v i wr => ∃ (k : Nat) (vv : Value), vv = v ∧ i = .int .i64 k ∧ k ≤ n ∧ Shut (wr.ownsRow w.heap.size 9 1 vv k (tv ((X.map fun row => accB row L L.length).take k))) ∧ Shut (Below w.heap.size w wr)) (fun _ i _ => n - (intOf i).toNat)
  case atStart => exact ⟨0, _, rfl, rfl, by omega, HOWN, HB1⟩
  case round =>
    clear HOWN HB1 d0 lr
    obtain ⟨k, v, rfl, rfl, hk, hown, hb⟩ := hrel
    obtain ⟨wo, rfl⟩ : ∃ wo, wo = wr := ⟨_, rfl⟩
    by_cases hlt : k < n
    · have hlt' : (k : Int) < (n : Int) := by omega
      have k0 : (0 : Int) ≤ (k : Int) := by omega
      obtain ⟨b', o', cp, e1, l1, e2⟩ := HR.out.2 k hlt
      have d1 := (hb.out.cell (p := ⟨b1, o1 + k, none⟩) HR.out.1).trans e1
      have HE2 := Shut.mk e2
      clear e1 e2
      obtain ⟨r, hre⟩ : ∃ r, r = X.getD k [] := ⟨_, rfl⟩
      have HRE : Shut (r = X.getD k []) := ⟨hre⟩
      clear hre
      go_wp2_with fail
      go_loopw [8, 31] (fun s j wq => ∃ (t : Nat), j = .int .i64 t ∧ t ≤ m ∧ s = .string (accB r L t) ∧ Shut (wq.ownsRow w.heap.size 9 1 v k (tv ((X.map fun row => accB row L L.length).take k))) ∧ Shut (Below w.heap.size w wq)) (fun _ j _ => m - (intOf j).toNat)
      case atStart => exact ⟨0, rfl, by omega, rfl, hown, hb⟩
      case round =>
        clear hown hb
        obtain ⟨t, rfl, ht, rfl, hown, hb⟩ := hrel
        obtain ⟨wi, rfl⟩ : ∃ wi, wi = wr := ⟨_, rfl⟩
        by_cases htl : t < m
        · have htl' : (t : Int) < (m : Int) := by omega
          have t0 : (0 : Int) ≤ (t : Int) := by omega
          have d2 := (hb.out.cell (p := ⟨b', o' + t, none⟩) l1).trans (HE2.out t htl)
          have d3 := (hb.out.cell (p := ⟨b2, o2 + t, none⟩) HU.out.1).trans (HU.out.2 t htl)
          rw [← HRE.out] at d2
          have hsz := hb.out.size
          have l2 : b1 < wi.heap.size := Nat.lt_of_lt_of_le HR.out.1 hsz
          have l3 : b2 < wi.heap.size := Nat.lt_of_lt_of_le HU.out.1 hsz
          have l4 : b' < wi.heap.size := Nat.lt_of_lt_of_le l1 hsz
          have hst : accB r L (t + 1) = addB (accB r L t) (mulT (g8 (r.getD t 0)) (L.getD t ⟨#[]⟩)) := rfl
          have hz1 := accB_size r L HF.out t
          have hz2 := HF.out (L.getD t ⟨#[]⟩) (by have := HX.out.2; simp [List.getD, show t < L.length by omega])
          have hz3 := mulT_size (g8 (r.getD t 0)) (L.getD t ⟨#[]⟩)
          have HM := Shut.mk fun W => implMulText (r.getD t 0) (L.getD t ⟨#[]⟩) W hz2
          have HA := Shut.mk fun W => implAddText (accB r L t) (mulT (g8 (r.getD t 0)) (L.getD t ⟨#[]⟩)) W hz1 (by omega)
          generalize mulT (g8 (r.getD t 0)) (L.getD t ⟨#[]⟩) = M at HM HA hst
          generalize r.getD t 0 = x at *
          generalize L.getD t ⟨#[]⟩ = u at *
          have HST := Shut.mk hst
          clear hst hz1 hz2 hz3
          go_wp2_with fail
          refine (HM.out _).mono ?_
          rintro e w6 ⟨rfl, hbA⟩
          have HBA := Shut.mk hbA
          clear hbA
          go_wp2_with fail
          refine (HA.out _).mono ?_
          rintro e w7 ⟨rfl, hbB⟩
          have hbx : Below wi.heap.size wi w7 := HBA.out.trans (hbB.mono HBA.out.size)
          have HO := Shut.mk (hown.out.kept (row := none) ⟨hbx.os, hbx.tape, hbx.output, hbx.size, fun k hk _ => hbx.block k hk⟩ (Classical.em _))
          have HB2 := Shut.mk (hb.out.trans (hbx.mono hb.out.size))
          clear hbx HBA hbB hown hb
          go_wp2_with fail
          go_roundw
          case rel => exact ⟨t + 1, by go_num, by omega, by rw [HST.out], HO, HB2⟩
          case measure => simp [intOf]; omega
        · have e : t = m := by omega
          have htl' : ¬ (t : Int) < (m : Int) := by omega
          have hsz := hb.out.size
          have hown' := hown.out
          have HST : Shut (tv ((X.map fun row => accB row L L.length).take (k + 1)) = tv ((X.map fun row => accB row L L.length).take k) ++ [.string (accB r L t)]) := ⟨by
            have hkx : k < X.length := by have := HX.out.1; omega
            rw [List.take_succ_eq_append_getElem (by rw [List.length_map]; exact hkx), ← tv_snoc, List.getElem_map, HRE.out, e, HX.out.2]
            congr 3
            simp [List.getD, hkx]⟩
          clear e hown
          generalize accB r L t = T at *
          go_wp2_with (at_builtin; refine wpList_append_own _ rfl _ _ 34 rfl w.heap.size 9 i0 (.string ⟨#[]⟩) 1 16 Tw.underlying34 hi0 hz0 hz1 hz2 rfl (by decide) _ _ _ rfl (hown'.alloc _) ⟨wi.heap.size, 0, none⟩ 1 1 [.string T] rfl rfl (cell_one_new _ _ _) ?c2 ?c3 ?c4 ?c5 ?_)
          case c2 => first | rfl | (intro u hu; simp at hu; subst hu; rfl)
          case c3 => unfold maxLen; omega
          case c4 => omega
          case c5 => first | omega | (simp; omega)
          intro v' w8 hown8 hgrow _
          rw [← HST.out] at hown8
          have hb8 : Below w.heap.size w w8 := (hb.out.alloc hsz _).grown hgrow (by simp; omega) (fun j hj => (hown'.lt j hj).1)
          have HO8 := Shut.mk hown8
          have HB8 := Shut.mk hb8
          clear hgrow hown8 hb8 hown' hb HST
          go_wp2_with fail
          go_roundw
          case rel => exact ⟨k + 1, v', rfl, by go_num, by omega, HO8, HB8⟩
          case measure => simp [intOf]; omega
    · have e : k = n := by omega
      have hlt' : ¬ (k : Int) < (n : Int) := by omega
      have hfin : SAns wo v (X.map fun row => accB row L L.length) w.heap.size wo.heap.size := own_sans (n := k) (by rw [List.length_map]; have := HX.out.1; omega) (by
        have h := hown.out
        rw [List.take_of_length_le (by rw [List.length_map]; have := HX.out.1; omega)] at h
        exact h)
      have HFIN := Shut.mk hfin
      clear hfin hown e
      go_wp2_with fail
      go_ret
      exact ⟨v, rfl, HFIN.out, hb.out⟩
set_option maxRecDepth 100000 in
set_option maxHeartbeats 4000000 in
theorem implApplyMU (w : World) (v u : Value) (X : List (List Int)) (L : List ByteArray) (lo hi lo' hi' : Nat) (hs : MSee w v X lo hi) (ht : SSee w u L lo' hi') (hf : MFit X) (hg : UFit L) : Calls Tw.prog 35 #[v, u] w fun e w' => SPost (appX X L) w e w' := by
  have hs' := hs
  obtain ⟨a1, cap1, ss, rfl, hr1, hm1⟩ := hs
  obtain ⟨a2, cap2, rfl, hm2⟩ := ht
  have hl1 : ss.length = X.length := by rw [← hr1, rws_len]
  rw [hl1] at hs' ⊢
  have hc1 := fun W (hW : Below w.heap.size w W) => implMatrixOk W _ X lo hi (hs'.below hW) hf
  cases h1 : matOk X with
  | false =>
    have HX : Hid (appX X L = []) := appX_no (fun h => by rw [h1] at h; cases h.1)
    rw [h1] at hc1
    have HC1 : Hid _ := hc1
    clear hc1 hm1 hm2 h1 hs' hf hg
    go_enter Tw.func35, Tw.ntmps35
    go_wp2_with fail
    refine (HC1.out _ (Below.refl _ _)).mono ?_
    rintro e w1 ⟨rfl, hb1⟩
    have HB : Hid (Below w.heap.size w w1) := hb1
    clear hb1
    go_wp2_with fail
    go_ret
    exact ⟨_, rfl, by rw [HX.out]; exact SAns.empty _ _ _ _ _, HB.out⟩
  | true =>
    rw [h1] at hc1
    obtain ⟨⟨hx1, hx8⟩, ⟨hcx1, hcx8⟩, _⟩ := matOk_iff h1
    obtain ⟨b1, o1, rfl, lb1, hrow1⟩ := rows_in hm1 hr1 h1
    by_cases h3 : colsOf X = L.length
    · obtain ⟨b2, o2, rfl, lb2, hrow2⟩ := units_in hm2 (by omega)
      have hX : appX X L = X.map fun row => accB row L L.length := if_pos ⟨h1, h3⟩
      rw [hX]
      rw [h3] at hrow1
      exact applyI_walk X L X.length L.length b1 o1 b2 o2 cap1 cap2 w hx1 hx8 (by omega) (by omega) rfl rfl ⟨lb1, hrow1⟩ ⟨lb2, hrow2⟩ (fun x hx => hg.2 x hx) hc1
    · have HX : Hid (appX X L = []) := appX_no (fun h => h3 h.2)
      obtain ⟨br, or, cr, d0', lr, _⟩ := hrow1 0 (by omega)
      have HD0 : Hid (∀ W : World, Below w.heap.size w W → W.cell? ⟨b1, o1, none⟩ = some (.slice (some ⟨br, or, none⟩) (colsOf X) cr)) := fun W hW => (hW.cell (p := ⟨b1, o1 + 0, none⟩) lb1).trans d0'
      have HC1 : Hid (∀ W : World, Below w.heap.size w W → Calls Tw.prog 54 #[.slice (some ⟨b1, o1, none⟩) X.length cap1] W fun e w' => e = .returned (.bool true) ∧ Below W.heap.size W w') := hc1
      have hne : ((colsOf X : Int) != (L.length : Int)) = true := by rw [bne_iff_ne]; omega
      have n0 : (0 : Int) < (X.length : Int) := by omega
      clear hc1 hm1 hm2 hs' d0' lr hrow1 h1 h3 hr1 hl1 hf hg
      go_enter Tw.func35, Tw.ntmps35
      go_wp2_with fail
      refine (HC1.out _ (Below.refl _ _)).mono ?_
      rintro e w1 ⟨rfl, hb1⟩
      have hbw1 : Below w.heap.size w w1 := hb1
      have d0 := HD0.out w1 hbw1
      have HB : Hid (Below w.heap.size w w1) := hbw1
      clear hb1 hbw1
      go_wp2_with fail
      go_ret
      exact ⟨_, rfl, by rw [HX.out]; exact SAns.empty _ _ _ _ _, HB.out⟩
end Go.Proofs.YtbkimmbfepjodaaDoorT
/- The program's own Encode. -/
namespace Go.Proofs.YtbkimmbfepjodaaDoorT
set_option maxRecDepth 100000
open Go.RowKit
open W (B8 Mx)
attribute [local go_sem ↓] Go.wp_at_zero Go.wp_at_succ
attribute [local irreducible] W.gm W.xs W.mm W.gi mx matOk addB mulT appX codeX invX

theorem SAns.wide {w : World} {v : Value} {L : List ByteArray} {lo hi lo' hi' : Nat} (h : SAns w v L lo hi) (h1 : lo' ≤ lo) (h2 : hi ≤ hi') : SAns w v L lo' hi' := by
  obtain ⟨a, cap, e, hc, q⟩ := h
  refine ⟨a, cap, e, hc, ?_⟩
  rcases q with rfl | ⟨g, rfl, q1, q2, q3⟩
  · exact .inl rfl
  · exact .inr ⟨g, rfl, by omega, by omega, q3⟩
end Go.Proofs.YtbkimmbfepjodaaDoorT
/- An elimination of bytes, plain: rows that have the matrix at their left and what was done to ones at their right. Nothing of the program is read here. -/
namespace Go.Proofs.YtbkimmbfepjodaaDoorT
set_option maxRecDepth 100000
open Go.RowKit
open W (B8 Mx)
attribute [local irreducible] W.gm W.xs W.mm W.gi matOk

def lf (K : List (List B8)) : Mx := fun i j => (K.getD i []).getD j 0#8
def rt (n : Nat) (K : List (List B8)) : Mx := fun i j => (K.getD i []).getD (n + j) 0#8
theorem getD_set {K : List (List B8)} {i : Nat} (hi : i < K.length) (r : List B8) (k : Nat) : (K.set i r).getD k [] = if k = i then r else K.getD k [] := by
  rw [List.getD_eq_getElem?_getD, List.getD_eq_getElem?_getD, List.getElem?_set]
  by_cases e : i = k
  · subst e; rw [if_pos rfl, if_pos rfl, if_pos hi]; rfl
  · rw [if_neg e, if_neg (Ne.symm e)]
/-- A row times a number, from the right. -/
def timesU (t : B8) (r : List B8) : List B8 := r.map fun x => W.gm x t
theorem timesU_len (t : B8) (r : List B8) : (timesU t r).length = r.length := by simp [timesU]
theorem timesU_at (t : B8) (r : List B8) (j : Nat) : (timesU t r).getD j 0#8 = W.gm t (r.getD j 0#8) := by
  unfold timesU
  rw [List.getD_eq_getElem?_getD, List.getElem?_map, List.getD_eq_getElem?_getD]
  cases r[j]? with
  | none => show 0#8 = W.gm t 0#8; rw [W.gm_zero]
  | some x => show W.gm x t = W.gm t x; exact W.gm_comm _ _
def swapU (p c : Nat) (K : List (List B8)) : List (List B8) := (K.set p (K.getD c [])).set c (K.getD p [])
theorem swapU_at {K : List (List B8)} {p c : Nat} (hp : p < K.length) (hc : c < K.length) (i : Nat) : (swapU p c K).getD i [] = if i = p then K.getD c [] else if i = c then K.getD p [] else K.getD i [] := by
  unfold swapU
  rw [getD_set (by rw [List.length_set]; exact hc)]
  by_cases e2 : i = c
  · rw [if_pos e2]
    by_cases e1 : i = p
    · rw [if_pos e1, ← e2, e1]
    · rw [if_neg e1, if_pos e2]
  · rw [if_neg e2, getD_set hp]
    by_cases e1 : i = p
    · rw [if_pos e1, if_pos e1]
    · rw [if_neg e1, if_neg e1, if_neg e2]
/-- What is known of the rows, with the first c columns done. -/
structure PuK (n c : Nat) (M : Mx) (K : List (List B8)) : Prop where
  len : K.length = n
  row : ∀ i, i < n → (K.getD i []).length = n + n
  el : W.Elim n M (lf K) (rt n K)
  co : W.Cols n c (lf K)
theorem swapU_len (p c : Nat) (K : List (List B8)) : (swapU p c K).length = K.length := by simp [swapU]
theorem lf_swap {K : List (List B8)} {p c : Nat} (hp : p < K.length) (hc : c < K.length) : lf (swapU p c K) = W.swapR p c (lf K) := by
  funext i j
  unfold lf W.swapR
  rw [swapU_at hp hc]
  split
  · rfl
  · split <;> rfl
theorem rt_swap {K : List (List B8)} {n p c : Nat} (hp : p < K.length) (hc : c < K.length) : rt n (swapU p c K) = W.swapR p c (rt n K) := by
  funext i j
  unfold rt W.swapR
  rw [swapU_at hp hc]
  split
  · rfl
  · split <;> rfl
theorem PuK.swap {n c p : Nat} {M : Mx} {K : List (List B8)} (h : PuK n c M K) (hc : c < n) (hp : p < n) (hcp : c ≤ p) : PuK n c M (swapU p c K) := by
  have hp' : p < K.length := by rw [h.len]; exact hp
  have hc' : c < K.length := by rw [h.len]; exact hc
  refine ⟨by rw [swapU_len]; exact h.len, fun i hi => ?_, ?_, ?_⟩
  · rw [swapU_at hp' hc']
    split
    · exact h.row c hc
    · split
      · exact h.row p hp
      · exact h.row i hi
  · rw [lf_swap hp' hc', rt_swap hp' hc']; exact h.el.swap hp hc
  · rw [lf_swap hp' hc']; exact cols_swap h.co hc hp hcp
theorem PuK.swap_c {n c p : Nat} {M : Mx} {K : List (List B8)} (h : PuK n c M K) (hc : c < n) (hp : p < n) : lf (swapU p c K) c c = lf K p c := by
  rw [lf_swap (by rw [h.len]; exact hp) (by rw [h.len]; exact hc)]
  unfold W.swapR
  by_cases e : c = p
  · subst e; rw [if_pos rfl]
  · rw [if_neg e, if_pos rfl]
theorem PuK.times {n c : Nat} {M : Mx} {K : List (List B8)} (h : PuK n c M K) (hc : c < n) {x : B8} (hx : x = lf K c c) (h0 : x ≠ 0#8) : PuK n c M (K.set c (timesU (W.gi x) (K.getD c []))) ∧ ColDone n c 0 (lf (K.set c (timesU (W.gi x) (K.getD c [])))) := by
  have hc' : c < K.length := by rw [h.len]; exact hc
  have e1 : lf (K.set c (timesU (W.gi x) (K.getD c []))) = W.timesR c (W.gi x) (lf K) := by
    funext i j
    unfold lf W.timesR
    rw [getD_set hc']
    by_cases e : i = c
    · rw [if_pos e, if_pos e, timesU_at]
    · rw [if_neg e, if_neg e]
  have e2 : rt n (K.set c (timesU (W.gi x) (K.getD c []))) = W.timesR c (W.gi x) (rt n K) := by
    funext i j
    unfold rt W.timesR
    rw [getD_set hc']
    by_cases e : i = c
    · rw [if_pos e, if_pos e, timesU_at]
    · rw [if_neg e, if_neg e]
  have hs : W.gm (W.gi x) x = 1#8 := by rw [W.gm_comm]; exact W.gm_gi x h0
  refine ⟨⟨by rw [List.length_set]; exact h.len, fun i hi => ?_, ?_, ?_⟩, ?_, fun k hk => by omega⟩
  · rw [getD_set hc']
    split
    · rw [timesU_len]; exact h.row c hc
    · exact h.row i hi
  · rw [e1, e2]; exact h.el.times hc hs
  · rw [e1]; exact cols_times h.co hc _
  · rw [e1]; unfold W.timesR; rw [if_pos rfl, ← hx, hs]
theorem PuK.plus {n c i : Nat} {M : Mx} {K : List (List B8)} (h : PuK n c M K) (hc : c < n) (hi : i < n) (hic : i ≠ c) (hd : ColDone n c i (lf K)) {t : B8} (ht : t = lf K i c) : PuK n c M (K.set i (plusU t (K.getD i []) (K.getD c []))) ∧ ColDone n c (i + 1) (lf (K.set i (plusU t (K.getD i []) (K.getD c [])))) := by
  have hi' : i < K.length := by rw [h.len]; exact hi
  have e1 : W.eqM n n (lf (K.set i (plusU t (K.getD i []) (K.getD c [])))) (W.plusR i c t (lf K)) := by
    intro k hk j hj
    unfold lf W.plusR
    rw [getD_set hi']
    by_cases e : k = i
    · rw [if_pos e, if_pos e, plusU_at (by rw [h.row i hi]; omega)]
    · rw [if_neg e, if_neg e]
  have e2 : W.eqM n n (rt n (K.set i (plusU t (K.getD i []) (K.getD c [])))) (W.plusR i c t (rt n K)) := by
    intro k hk j hj
    unfold rt W.plusR
    rw [getD_set hi']
    by_cases e : k = i
    · rw [if_pos e, if_pos e, plusU_at (by rw [h.row i hi]; omega)]
    · rw [if_neg e, if_neg e]
  refine ⟨⟨by rw [List.length_set]; exact h.len, fun k hk => ?_, (h.el.plus hi hc hic t).congr e1.symm e2.symm, cols_congr (cols_plus h.co hc t) (Nat.le_of_lt hc) e1.symm⟩, ?_, fun k hk hkn hkc => ?_⟩
  · rw [getD_set hi']
    split
    · rw [plusU_len]; exact h.row i hi
    · exact h.row k hk
  · rw [e1 c hc c hc]
    unfold W.plusR
    rw [if_neg (Ne.symm hic)]; exact hd.1
  · rw [e1 k hkn c hc]
    unfold W.plusR
    by_cases e : k = i
    · rw [if_pos e, hd.1, W.gm_one, ht, BitVec.xor_self]
    · rw [if_neg e]; exact hd.2 k (by omega) hkn hkc
theorem PuK.next {n c : Nat} {M : Mx} {K : List (List B8)} (h : PuK n c M K) (hd : ColDone n c n (lf K)) : PuK n (c + 1) M K := ⟨h.len, h.row, h.el, col_all h.co hd⟩
/-- The rows at the start: a matrix with ones beside it. -/
def besideU (K L : List (List B8)) : List (List B8) := (List.range K.length).map fun i => K.getD i [] ++ L.getD i []
theorem besideU_at {K L : List (List B8)} {i : Nat} (hi : i < K.length) : (besideU K L).getD i [] = K.getD i [] ++ L.getD i [] := by
  unfold besideU
  rw [List.getD_eq_getElem?_getD, List.getElem?_map, List.getElem?_range hi]; rfl
theorem besideU_len (K L : List (List B8)) : (besideU K L).length = K.length := by simp [besideU]
theorem onesU_at {t : B8} {n i : Nat} (hi : i < n) : (onesU t n).getD i [] = oneU t n i := by
  unfold onesU
  rw [List.getD_eq_getElem?_getD, List.getElem?_map, List.getElem?_range hi]; rfl
theorem oneU_at {n i j : Nat} (hi : i < n) (hj : j < n) : (oneU 1#8 n i).getD j 0#8 = W.one i j := by
  unfold oneU W.one
  rw [List.getD_eq_getElem?_getD, List.getElem?_set]
  by_cases e : i = j
  · subst e; rw [if_pos rfl, if_pos rfl, if_pos (by simpa using hi)]; rfl
  · rw [if_neg e, if_neg e]; simp [hj]
theorem PuK.start {n : Nat} {K : List (List B8)} (hK : K.length = n) (hr : ∀ i, i < n → (K.getD i []).length = n) : PuK n 0 (lf K) (besideU K (onesU 1#8 n)) := by
  refine ⟨by rw [besideU_len]; exact hK, fun i hi => ?_, (W.Elim.start n (lf K)).congr (fun i hi j hj => ?_) (fun i hi j hj => ?_), fun i _ j hj => by omega⟩
  · rw [besideU_at (by omega), List.length_append, hr i hi, onesU_at hi, oneU_len]
  · unfold lf
    rw [besideU_at (by omega)]
    have hl := hr i hi
    generalize K.getD i [] = r at *
    rw [List.getD_eq_getElem?_getD, List.getD_eq_getElem?_getD, List.getElem?_append_left (by omega)]
  · unfold rt
    rw [besideU_at (by omega), List.getD_eq_getElem?_getD, List.getElem?_append_right (by rw [hr i hi]; omega), hr i hi, Nat.add_sub_cancel_left, onesU_at hi, ← List.getD_eq_getElem?_getD, oneU_at hi hj]
/-- The right halves, as numbers. -/
def halfU (n : Nat) (K : List (List B8)) : List (List B8) := K.map fun r => r.drop n
theorem halfU_at (n : Nat) (K : List (List B8)) (i j : Nat) : mx (toIs (halfU n K)) i j = rt n K i j := by
  unfold mx rt toIs halfU
  rw [List.map_map, List.getD_eq_getElem?_getD (l := List.map _ K), List.getElem?_map, List.getD_eq_getElem?_getD (l := K)]
  cases K[i]? with
  | none => show g8 (([] : List Int).getD j 0) = ([] : List B8).getD (n + j) 0#8; rfl
  | some r =>
    show g8 ((toI (r.drop n)).getD j 0) = r.getD (n + j) 0#8
    unfold toI
    rw [List.getD_eq_getElem?_getD, List.getElem?_map, List.getElem?_drop, List.getD_eq_getElem?_getD]
    cases r[n + j]? with
    | none => rfl
    | some x => exact g8_back x
theorem PuK.done {n : Nat} {X : List (List Int)} {K : List (List B8)} (h : PuK n n (mx X) K) (hX : matOk X = true) (hn : X.length = n) (hc : colsOf X = n) : IsInv X (toIs (halfU n K)) := by
  obtain ⟨h1, h2⟩ := h.el.done (fun i hi j hj => h.co i hi j hj)
  have hsq : Sq n (toIs (halfU n K)) := by
    refine ⟨by simp [toIs, halfU, h.len], fun x hx => ?_⟩
    obtain ⟨r, hr, rfl⟩ := List.mem_map.1 hx
    obtain ⟨r', hr', rfl⟩ := List.mem_map.1 hr
    obtain ⟨i, hi, rfl⟩ := List.mem_iff_getElem.1 hr'
    have e : K.getD i [] = K[i] := by simp [List.getD, hi]
    have := h.row i (by rw [← h.len]; exact hi)
    rw [e] at this
    refine ⟨by rw [toI_len, List.length_drop, this]; omega, fun y hy => ?_⟩
    obtain ⟨z, _, rfl⟩ := List.mem_map.1 hy
    exact b8_num z
  have e : mx (toIs (halfU n K)) = rt n K := by funext i j; exact halfU_at n K i j
  refine ⟨hX, by omega, by rw [hn]; exact hsq, ?_, ?_⟩
  · rw [hn, e]; exact h1
  · rw [hn, e]; exact h2
theorem PuK.none {n c : Nat} {X : List (List Int)} {K : List (List B8)} (h : PuK n c (mx X) K) (hn : X.length = n) (hc : c < n) (hz : ∀ i, c ≤ i → i < n → lf K i c = 0#8) : ¬ ∃ Y, IsInv X Y := by
  rintro ⟨Y, hY⟩
  have := hY.2.2.2.1
  rw [hn] at this
  exact h.el.none hc h.co hz _ this
theorem lf_toBs (X : List (List Int)) : lf (toBs X) = mx X := by funext i j; exact toBs_get X i j
end Go.Proofs.YtbkimmbfepjodaaDoorT
/- Rows of bytes that are turned in place: in memory. -/
namespace Go.Proofs.YtbkimmbfepjodaaDoorT
set_option maxRecDepth 100000
open Go.RowKit
open W (B8 Mx)
attribute [local irreducible] W.gm W.xs W.mm W.gi matOk

theorem ks_set {ss : List KS} {i : Nat} (s : KS) (hi : i < ss.length) (k : Nat) : (ss.set i s).getD k default = if k = i then s else ss.getD k default := by
  rw [List.getD_eq_getElem?_getD, List.getD_eq_getElem?_getD, List.getElem?_set]
  by_cases e : i = k
  · subst e; rw [if_pos rfl, if_pos rfl, if_pos hi]; rfl
  · rw [if_neg e, if_neg (Ne.symm e)]
theorem kws_at (ss : List KS) (i : Nat) : (kws ss).getD i [] = (ss.getD i default).row := by
  unfold kws
  rw [List.getD_eq_getElem?_getD, List.getElem?_map, List.getD_eq_getElem?_getD]
  cases ss[i]? <;> rfl
theorem kvs_at {ss : List KS} {i : Nat} (hi : i < ss.length) : (kvs ss)[i]? = some (ksv (ss.getD i default)) := by
  rw [kvs_get ss i hi]; simp [List.getD, hi]
/-- A row of rows of bytes that may be written: each row in a block of its own, all from B on. -/
structure KX (w : World) (B g : Nat) (ss : List KS) : Prop where
  out : WCells w g (kvs ss)
  glo : B ≤ g
  rows : ∀ i, i < ss.length → ∃ b, (ss.getD i default).loc = some ⟨b, 0, none⟩ ∧ B ≤ b ∧ b ≠ g ∧ WCells w b (ucs (ss.getD i default).row) ∧ (ss.getD i default).row.length ≤ (ss.getD i default).cap
  apart : ∀ i j, i < j → j < ss.length → (ss.getD i default).loc ≠ (ss.getD j default).loc
theorem KX.ne {w : World} {B g : Nat} {ss : List KS} (h : KX w B g ss) {i j : Nat} (hi : i < ss.length) (hj : j < ss.length) (hij : i ≠ j) : (ss.getD i default).loc ≠ (ss.getD j default).loc := by
  rcases Nat.lt_or_gt_of_ne hij with q | q
  · exact h.apart i j q hj
  · exact (h.apart j i q hi).symm
theorem KW.kx {w : World} {g lo hi : Nat} {ss : List KS} (h : KW w g ss lo hi) : KX w lo g ss := by
  refine ⟨h.out, h.glo, fun i hi => ?_, fun i j hij hj e => ?_⟩
  · have e : ss.getD i default = ss[i] := by simp [List.getD, hi]
    rw [e]
    obtain ⟨b, e1, h1, _, h3, h4, h5⟩ := h.rows ss[i] (List.getElem_mem hi)
    exact ⟨b, e1, h1, h3, h4, h5⟩
  · have hi : i < ss.length := by omega
    have e1 : ss.getD i default = ss[i] := by simp [List.getD, hi]
    have e2 : ss.getD j default = ss[j] := by simp [List.getD, hj]
    rw [e1, e2] at e
    have := List.pairwise_iff_getElem.1 h.apart i j (by simpa using hi) (by simpa using hj) hij
    simp at this
    exact this e
theorem KX.below {w w' : World} {B g : Nat} {ss : List KS} (h : KX w B g ss) (hb : Below w.heap.size w w') : KX w' B g ss :=
  ⟨h.out.below hb h.out.1, h.glo, fun i hi => by
    obtain ⟨b, e, h1, h2, h3, h4⟩ := h.rows i hi
    exact ⟨b, e, h1, h2, h3.below hb h3.1, h4⟩, h.apart⟩
/-- A row is turned. -/
theorem KX.setRow {w w' : World} {B g : Nat} {ss : List KS} (h : KX w B g ss) {i b : Nat} {r : List B8} (hi : i < ss.length) (hloc : (ss.getD i default).loc = some ⟨b, 0, none⟩) (hg : w.grownBy w' (some b)) (hc : WCells w' b (ucs r)) (hl : r.length = (ss.getD i default).row.length) :
    KX w' B g (ss.set i ⟨some ⟨b, 0, none⟩, r, (ss.getD i default).cap⟩) := by
  obtain ⟨b0, e0, h1, h2, h3, h4⟩ := h.rows i hi
  have eb : b0 = b := congrArg Addr.block (Option.some.inj (e0.symm.trans hloc))
  subst eb
  have eg : ss.getD i default = ss[i] := by simp [List.getD, hi]
  have ek : kvs (ss.set i ⟨some ⟨b0, 0, none⟩, r, (ss.getD i default).cap⟩) = kvs ss := by
    unfold kvs
    rw [List.map_set]
    have : ksv ⟨some ⟨b0, 0, none⟩, r, (ss.getD i default).cap⟩ = ksv (ss.getD i default) := by unfold ksv; simp only [hl, hloc]
    rw [this, eg]
    apply List.ext_getElem (by simp)
    intro k q1 q2
    rw [List.getElem_set]
    split
    · rename_i e; subst e; simp
    · rfl
  refine ⟨by rw [ek]; exact h.out.apart hg (Ne.symm h2), h.glo, fun k hk => ?_, fun k j hkj hj => ?_⟩
  · rw [List.length_set] at hk
    rw [ks_set _ hi]
    by_cases e : k = i
    · rw [if_pos e]
      exact ⟨b0, rfl, h1, h2, hc, by show r.length ≤ _; rw [hl]; exact h4⟩
    · rw [if_neg e]
      obtain ⟨b1, e1, q1, q2, q3, q4⟩ := h.rows k hk
      refine ⟨b1, e1, q1, q2, q3.apart hg (fun eb => ?_), q4⟩
      subst eb
      exact h.ne hk hi e (e1.trans e0.symm)
  · rw [List.length_set] at hj
    rw [ks_set _ hi, ks_set _ hi]
    by_cases e1 : k = i
    · rw [if_pos e1, if_neg (by omega)]
      show some _ ≠ _
      rw [← hloc]
      exact h.ne hi hj (by omega)
    · rw [if_neg e1]
      by_cases e2 : j = i
      · rw [if_pos e2]
        show _ ≠ some _
        rw [← hloc]
        exact h.ne (by omega) hi e1
      · rw [if_neg e2]; exact h.apart k j hkj hj
def swapK (p c : Nat) (ss : List KS) : List KS := (ss.set p (ss.getD c default)).set c (ss.getD p default)
theorem swapK_len (p c : Nat) (ss : List KS) : (swapK p c ss).length = ss.length := by simp [swapK]
theorem kws_set (ss : List KS) (i : Nat) (s : KS) : kws (ss.set i s) = (kws ss).set i s.row := by simp [kws, List.map_set]
theorem kvs_set (ss : List KS) (i : Nat) (s : KS) : (kvs ss).set i (ksv s) = kvs (ss.set i s) := by simp [kvs, List.map_set]
theorem kws_swap (p c : Nat) (ss : List KS) : kws (swapK p c ss) = swapU p c (kws ss) := by
  unfold swapK swapU
  rw [kws_set, kws_set, kws_at, kws_at]
theorem swapK_at {ss : List KS} {p c : Nat} (hp : p < ss.length) (hc : c < ss.length) (i : Nat) : (swapK p c ss).getD i default = ss.getD (if i = p then c else if i = c then p else i) default := by
  unfold swapK
  rw [ks_set _ (by rw [List.length_set]; exact hc)]
  by_cases e2 : i = c
  · rw [if_pos e2]
    by_cases e1 : i = p
    · rw [if_pos e1, ← e2, e1]
    · rw [if_neg e1, if_pos e2]
  · rw [if_neg e2, ks_set _ hp]
    by_cases e1 : i = p
    · rw [if_pos e1, if_pos e1]
    · rw [if_neg e1, if_neg e1, if_neg e2]
/-- Two rows in each other's place. -/
theorem KX.swap {w : World} {B g : Nat} {ss : List KS} (h : KX w B g ss) {p c : Nat} (hp : p < ss.length) (hc : c < ss.length) :
    KX ((w.setCell ⟨g, p, none⟩ (ksv (ss.getD c default))).setCell ⟨g, c, none⟩ (ksv (ss.getD p default))) B g (swapK p c ss) := by
  refine ⟨?_, h.glo, fun i hi => ?_, fun i j hij hj => ?_⟩
  · have h1 := h.out.set p (ksv (ss.getD c default)) (by rw [kvs_len]; exact hp)
    rw [kvs_set] at h1
    have h2 := h1.set c (ksv (ss.getD p default)) (by rw [kvs_len, List.length_set]; exact hc)
    rw [kvs_set] at h2
    exact h2
  · rw [swapK_len] at hi
    rw [swapK_at hp hc]
    obtain ⟨b, e, q1, q2, q3, q4⟩ := h.rows (if i = p then c else if i = c then p else i) (by split; exact hc; split; exact hp; exact hi)
    exact ⟨b, e, q1, q2, (q3.other ⟨g, p, none⟩ _ q2).other ⟨g, c, none⟩ _ q2, q4⟩
  · rw [swapK_len] at hj
    rw [swapK_at hp hc, swapK_at hp hc]
    refine h.ne (by split; exact hc; split; exact hp; omega) (by split; exact hc; split; exact hp; exact hj) ?_
    split
    · split
      · omega
      · split <;> omega
    · split
      · split
        · omega
        · split <;> omega
      · split
        · omega
        · split <;> omega
/-- What a walk wants of a row. -/
theorem KX.at {w : World} {B g m : Nat} {ss : List KS} (h : KX w B g ss) {i : Nat} (hi : i < ss.length) (hm : ((kws ss).getD i []).length = m) : ∃ b cp, (ss.getD i default).loc = some ⟨b, 0, none⟩ ∧ (ss.getD i default).cap = cp ∧ B ≤ b ∧ b ≠ g ∧ b < w.heap.size ∧ m ≤ cp ∧ w.cell? ⟨g, i, none⟩ = some (.slice (some ⟨b, 0, none⟩) m cp) ∧ w.frozen? ⟨g, i, none⟩ = false ∧ WCells w b (ucs ((kws ss).getD i [])) ∧ ksv (ss.getD i default) = .slice (some ⟨b, 0, none⟩) m cp := by
  obtain ⟨b, e, h1, h2, h3, h4⟩ := h.rows i hi
  have hk := h.out.2 i _ (kvs_at hi)
  rw [kws_at] at hm ⊢
  have ev : ksv (ss.getD i default) = .slice (some ⟨b, 0, none⟩) m (ss.getD i default).cap := by unfold ksv; rw [e, hm]
  rw [ev] at hk
  exact ⟨b, _, e, rfl, h1, h2, h3.1, by omega, hk.1, hk.2, h3, ev⟩
end Go.Proofs.YtbkimmbfepjodaaDoorT
