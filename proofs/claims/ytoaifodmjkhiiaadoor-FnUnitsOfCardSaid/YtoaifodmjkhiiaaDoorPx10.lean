/- Texts of ours, laid one behind the other: SpL, GrwE, DrHt, DrHu, DrHo, DrHp, UoM, BoolA, UoA. -/
import Derived.Test.YtoaifodmjkhiiaaDoorPx9
import Derived.Deep.RegionHeld3
import Derived.Deep.DrawnRows
import Derived.BigQuiet
/- SpL: The model's Spoil (written by gen/mkspoil.py). -/
namespace Go.Proofs.YtoaifodmjkhiiaaDoor
set_option maxRecDepth 100000
open Go.RowKit BigFrame
attribute [local go_sem ↓] Go.wp_at_zero Go.wp_at_succ

theorem bits_one (x : UInt8) : bits .xor .u8 (x.toNat : Int) 1 = ((x ^^^ 1).toNat : Int) := by
  have h : ∀ y : Fin 256, bits .xor .u8 ((UInt8.ofNat y.val).toNat : Int) 1 = ((UInt8.ofNat y.val ^^^ 1).toNat : Int) := by decide +kernel
  have := h ⟨x.toNat, x.toNat_lt⟩
  simpa using this
theorem toList_none : (⟨#[]⟩ : ByteArray).toList = [] := by
  unfold ByteArray.toList ByteArray.toList.loop
  rfl
theorem set_same {α : Type} {Z : List α} {i : Nat} {v : α} (h : Z[i]? = some v) : Z.set i v = Z := by
  obtain ⟨hi, e⟩ := List.getElem?_eq_some_iff.1 h
  subst e
  exact List.set_getElem_self hi
theorem uns_text (us : List UnM) (k : Nat) (h : k < us.length) (T : ByteArray) : (unS us).set (k * 4 + 2) (.string T) = unS (us.set k ⟨us[k].group, us[k].index, T, us[k].sum⟩) := by
  have q := flat_setL unC_len us k h ⟨us[k].group, us[k].index, T, us[k].sum⟩
  have e0 : (unS us)[k * 4]? = some (.int .i64 us[k].group) := flat_get unC_len us k h 0 (by omega)
  have e1 : (unS us)[k * 4 + 1]? = some (.int .i64 us[k].index) := flat_get unC_len us k h 1 (by omega)
  have e3 : (unS us)[k * 4 + 3]? = some (.int .i64 us[k].sum) := flat_get unC_len us k h 3 (by omega)
  have q' : unS (us.set k ⟨us[k].group, us[k].index, T, us[k].sum⟩) = setL (unS us) (k * 4) (unC ⟨us[k].group, us[k].index, T, us[k].sum⟩) := q.symm
  rw [q']
  clear q q'
  generalize unS us = Z at *
  simp only [unC, setL]
  rw [set_same e0, set_same e1]
  exact (set_same (by rw [List.getElem?_set_ne (by omega)]; exact e3)).symm
abbrev byS (b : Nat) (l : List UInt8) : Str := ⟨fun W => BRow W b l, b, b + 1⟩
theorem BRow.turned {w w' : World} {g lo hi : Nat} {L : List UInt8} (h : BRow w g L) (t : Turned w w' lo hi) (hd : g < lo ∨ hi ≤ g) : BRow w' g L :=
  ⟨Nat.lt_of_lt_of_le h.1 t.size, fun i hi => ⟨(World.cell?_of_block (a := ⟨g, i, none⟩) (t.block g h.1 hd)).trans (h.2 i hi).1, (World.frozen?_of_block (a := ⟨g, i, none⟩) (t.block g h.1 hd)).trans (h.2 i hi).2⟩⟩
theorem byS.loc (b : Nat) (l : List UInt8) : (byS b l).Loc := fun _ _ _ _ h t hd => BRow.turned h t (by rcases hd with h | h <;> (dsimp only [byS] at h; omega))
set_option maxRecDepth 100000 in
set_option maxHeartbeats 8000000 in
theorem specSpoil (H : HM) (a : Option Addr) (cap : Nat) (g i at9 : Int) (w : World) (hr : UnRow w a H.us) (hl : H.us.length ≤ 1048576) (hz : unSum H.us ≤ 1048576) (ha : at9 ≤ 9223372036854775807) :
    Calls Tryd.prog 49 #[hov H a cap, .int .i64 g, .int .i64 i, .int .i64 at9] w fun e w' => HbPost (spoilX H g i at9) w e w' := by
  have HR := Shut.mk hr
  have HCP := Shut.mk (fun (W : World) (hb : Below w.heap.size w W) => specCopy14 H a cap W (hr.stays hb) hl)
  have HA := Shut.mk (fun (W : World) (hb : Below w.heap.size w W) => specAt14 H a cap g i W (hr.stays hb) hl)
  have HZ : Shut (∀ u ∈ H.us, u.text.size ≤ 1048576) := ⟨fun u hu => by have := unSum_mem hu; omega⟩
  unfold HoPost at HCP
  clear hr hz
  obtain ⟨id, up, us⟩ := H
  obtain ⟨RR, hRR⟩ : ∃ q, q = spoilX ⟨id, up, us⟩ g i at9 := ⟨_, rfl⟩
  rw [← hRR]
  have HQ := Shut.mk hRR
  unfold spoilX at HQ
  show Calls Tryd.prog 49 #[.agg #[.int .i64 id, .bool up, .slice a us.length cap], .int .i64 g, .int .i64 i, .int .i64 at9] w fun e w' => HbPost RR w e w'
  dsimp only [hov] at *
  obtain ⟨n, hn⟩ : ∃ n, n = us.length := ⟨_, rfl⟩
  have HN := Shut.mk hn
  rw [← hn] at HCP HA hl ⊢
  obtain ⟨ki, hki⟩ : ∃ q, q = atN us g i := ⟨_, rfl⟩
  rw [← hki] at HA
  have HK := Shut.mk hki
  clear hki hRR hn
  have HS0 := Shut.mk (((SL.start w).new #[.int .i64 id, .bool up, .slice a n cap] 46).new #[.int .i64 0, .bool false, .slice none 0 0] 46)
  simp only [World.size_alloc] at HS0
  go_enter Tryd.func49, Tryd.ntmps49
  go_upto_region 1 with fail
  refine wp_shade (fun W => SL w W [bxS (w.heap.size + 1) [.int .i64 0, .bool false, .slice none 0 0], bxS w.heap.size [.int .i64 id, .bool up, .slice a n cap]]) HS0.out ?_
  intro W0 hW
  have H := Shut.mk hW
  clear HS0 hW
  have x0 := (H.out.bx 1 rfl 0 _ rfl).1
  have x1 := (H.out.bx 1 rfl 1 _ rfl).1
  have x2 := (H.out.bx 1 rfl 2 _ rfl).1
  go_upto_region 2 with (go_at_call 64; refine (HCP.out _ H.out.bel).mono ?_; rintro e w1 ⟨ac, cc, rfl, hF, hcc, hb⟩; have HS1 := Shut.mk (H.out.add (s := rwS ac (unS us) W0.heap.size w1.heap.size) hb hF (rwS.loc _ _ _ _) (Nat.le_refl _) (Nat.le_refl _)); clear hF hb H x0 x1 x2)
  generalize W0.heap.size = lc at HS1
  obtain ⟨hc9, hhc⟩ : ∃ q, q = w1.heap.size := ⟨_, rfl⟩
  rw [← hhc] at HS1
  clear hhc
  obtain ⟨b6, hb6⟩ : ∃ q, q = w1.heap.size := ⟨_, rfl⟩
  refine wp_shade (fun W => SL w W [bxS b6 [.int .i64 id, .bool up, .slice ac n cc], rwS ac (unS us) lc hc9, bxS (w.heap.size + 1) [.int .i64 0, .bool false, .slice none 0 0], bxS w.heap.size [.int .i64 id, .bool up, .slice a n cap]]) (by rw [hb6]; exact HS1.out.new _ _) ?_
  intro W2 hW
  have H := Shut.mk hW
  rw [← hb6]
  clear hW hb6 HS1
  have x0 := (H.out.bx 3 rfl 0 _ rfl).1
  have x1 := (H.out.bx 3 rfl 1 _ rfl).1
  have x2 := (H.out.bx 3 rfl 2 _ rfl).1
  go_upto_region 3 with (go_at_call 37; refine (HA.out _ H.out.bel).mono ?_; rintro e w3 ⟨rfl, hb⟩; have HW := Shut.mk (H.out.below hb); clear hb x0 x1 x2 H)
  have lw := (show WCells w3 w.heap.size _ from HW.out.at 3 rfl).1
  have g2 : ∀ X : Grow w3, X.val.cell? ⟨w.heap.size, 2, none⟩ = some (.slice a n cap) := fun X => X.cell (HW.out.bx 3 rfl 2 _ rfl).1 lw
  by_cases hf : unIdx us g i < us.length
  case neg =>
    have hki : ki = -1 := by rw [HK.out, idx_no hf]
    have HE : Shut (RR = (⟨id, up, us⟩, false)) := ⟨by rw [HQ.out]; simp [hf]⟩
    subst hki
    clear hf
    refine wp_region_grow (by kernel_rfl) (by kernel_rfl) ?_
    repeat (go_big_quiet_step (fail))
    refine wpQuiet_nil ?_
    rintro _ ⟨X, rfl⟩
    have H := Shut.mk (HW.out.below X.bel)
    clear g2
    have z0 := (H.out.bx 0 rfl 0 _ rfl).1
    have z1 := (H.out.bx 0 rfl 1 _ rfl).1
    have z2 := (H.out.bx 0 rfl 2 _ rfl).1
    obtain ⟨r0, r0z⟩ := H.out.bx 2 rfl 0 _ rfl
    obtain ⟨r1, r1z⟩ := H.out.bx 2 rfl 1 _ rfl
    obtain ⟨r2, r2z⟩ := H.out.bx 2 rfl 2 _ rfl
    go_wp2_with fail
    have HE3 := Shut.mk ((((H.out.put 2 rfl 0 (.int .i64 id) (by simp)).put 2 rfl 1 (.bool up) (by simp)).put 2 rfl 2 (.slice ac n cc) (by simp)))
    refine bodyPost_ret (v := .tuple #[.agg #[.int .i64 id, .bool up, .slice ac n cc], .bool false]) (by simp [results, Tryd.results49, go_sem, r0, r1, r2]) rfl ?_
    rw [HE.out]
    have hs := HE3.out.is _ (List.mem_of_getElem? (show _[1]? = some (rwS ac (unS us) lc hc9) from rfl))
    exact ⟨_, cc, by rw [HN.out], frw_wide (show FRw _ _ (unS us) lc hc9 from hs.1) hs.2.2.1 hs.2.2.2, by have := HN.out; show us.length ≤ cc; omega, HE3.out.bel⟩
  obtain ⟨k, hk⟩ : ∃ k, k = unIdx us g i := ⟨_, rfl⟩
  have hki : ki = (k : Int) := by rw [HK.out, idx_lt hf, hk]
  rw [← hk] at hf
  obtain ⟨b, off, u, rfl, hu, lb, hc⟩ := un_at HR.out HW.out.bel hf
  have hut : u.text.size ≤ 1048576 := by rw [hu]; exact HZ.out _ (List.getElem_mem hf)
  have HQ2 : Shut (RR = if decide (0 ≤ at9) && !(u.text.toList == []) && unSound u then (⟨id, up, us.set k ⟨u.group, u.index, turnAt u.text (at9.toNat % u.text.size), u.sum⟩⟩, true) else (⟨id, up, us⟩, false)) := ⟨by
    rw [HQ.out, ← hk, getD_un us k hf, ← hu]; simp [hf]⟩
  have HSU := Shut.mk (fun X : Grow w3 => calls_same (w := w3) (fun W' (_ : Below w3.heap.size w3 W') => specSumText u.text W' hut) X)
  unfold unSound at HQ2
  generalize sumN u.text = sn at HQ2 HSU
  subst hki
  have k0 : (0 : Int) ≤ (k : Int) := by omega
  have k1 : (k : Int) < (n : Int) := by have := HN.out; omega
  have k2 : decide ((k : Int) < 0) = false := by simp
  have p2 : ∀ X : Grow w3, X.val.cell? ⟨b, off + k * 4 + 2, none⟩ = some (.string u.text) := fun X => (hc X.val X.bel).2.2.1
  have p3 : ∀ X : Grow w3, X.val.cell? ⟨b, off + k * 4 + 3, none⟩ = some (.int .i64 u.sum) := fun X => (hc X.val X.bel).2.2.2
  have HC := Shut.mk hc
  have HU := Shut.mk hu
  clear hc hk hu
  by_cases hat : 0 ≤ at9
  case neg =>
    have ha2 : decide (at9 < 0) = true := by simp; omega
    have HE : Shut (RR = (⟨id, up, us⟩, false)) := ⟨by rw [HQ2.out, decide_eq_false hat]; rfl⟩
    refine wp_region_grow (by kernel_rfl) (by kernel_rfl) ?_
    repeat (go_big_quiet_step (fail))
    refine wpQuiet_nil ?_
    rintro _ ⟨X, rfl⟩
    have H := Shut.mk (HW.out.below X.bel)
    clear p2 p3 g2
    have z0 := (H.out.bx 0 rfl 0 _ rfl).1
    have z1 := (H.out.bx 0 rfl 1 _ rfl).1
    have z2 := (H.out.bx 0 rfl 2 _ rfl).1
    obtain ⟨r0, r0z⟩ := H.out.bx 2 rfl 0 _ rfl
    obtain ⟨r1, r1z⟩ := H.out.bx 2 rfl 1 _ rfl
    obtain ⟨r2, r2z⟩ := H.out.bx 2 rfl 2 _ rfl
    go_wp2_with fail
    have HE3 := Shut.mk ((((H.out.put 2 rfl 0 (.int .i64 id) (by simp)).put 2 rfl 1 (.bool up) (by simp)).put 2 rfl 2 (.slice ac n cc) (by simp)))
    refine bodyPost_ret (v := .tuple #[.agg #[.int .i64 id, .bool up, .slice ac n cc], .bool false]) (by simp [results, Tryd.results49, go_sem, r0, r1, r2]) rfl ?_
    rw [HE.out]
    have hs := HE3.out.is _ (List.mem_of_getElem? (show _[1]? = some (rwS ac (unS us) lc hc9) from rfl))
    exact ⟨_, cc, by rw [HN.out], frw_wide (show FRw _ _ (unS us) lc hc9 from hs.1) hs.2.2.1 hs.2.2.2, by have := HN.out; show us.length ≤ cc; omega, HE3.out.bel⟩
  have ha2 : decide (at9 < 0) = false := by simp; omega
  rw [decide_eq_true hat] at HQ2
  cases hte : u.text.toList == [] with
  | true =>
    have HE : Shut (RR = (⟨id, up, us⟩, false)) := ⟨by rw [HQ2.out, hte]; rfl⟩
    refine wp_region_grow (by kernel_rfl) (by kernel_rfl) ?_
    repeat (go_big_quiet_step (fail))
    refine wpQuiet_nil ?_
    rintro _ ⟨X, rfl⟩
    have H := Shut.mk (HW.out.below X.bel)
    clear p2 p3 g2
    have z0 := (H.out.bx 0 rfl 0 _ rfl).1
    have z1 := (H.out.bx 0 rfl 1 _ rfl).1
    have z2 := (H.out.bx 0 rfl 2 _ rfl).1
    obtain ⟨r0, r0z⟩ := H.out.bx 2 rfl 0 _ rfl
    obtain ⟨r1, r1z⟩ := H.out.bx 2 rfl 1 _ rfl
    obtain ⟨r2, r2z⟩ := H.out.bx 2 rfl 2 _ rfl
    go_wp2_with fail
    have HE3 := Shut.mk ((((H.out.put 2 rfl 0 (.int .i64 id) (by simp)).put 2 rfl 1 (.bool up) (by simp)).put 2 rfl 2 (.slice ac n cc) (by simp)))
    refine bodyPost_ret (v := .tuple #[.agg #[.int .i64 id, .bool up, .slice ac n cc], .bool false]) (by simp [results, Tryd.results49, go_sem, r0, r1, r2]) rfl ?_
    rw [HE.out]
    have hs := HE3.out.is _ (List.mem_of_getElem? (show _[1]? = some (rwS ac (unS us) lc hc9) from rfl))
    exact ⟨_, cc, by rw [HN.out], frw_wide (show FRw _ _ (unS us) lc hc9 from hs.1) hs.2.2.1 hs.2.2.2, by have := HN.out; show us.length ≤ cc; omega, HE3.out.bel⟩
  | false =>
    rw [hte] at HQ2
    cases hs : u.sum == sn with
    | false =>
      have hs' : (u.sum != sn) = true := by rw [bne, hs]; rfl
      have HE : Shut (RR = (⟨id, up, us⟩, false)) := ⟨by rw [HQ2.out, hs]; rfl⟩
      refine wp_region_grow (by kernel_rfl) (by kernel_rfl) ?_
      repeat (go_big_quiet_step (first | (go_at_call 38; with_reducible exact HSU.out _)))
      refine wpQuiet_nil ?_
      rintro _ ⟨X, rfl⟩
      have H := Shut.mk (HW.out.below X.bel)
      clear p2 p3 g2
      have z0 := (H.out.bx 0 rfl 0 _ rfl).1
      have z1 := (H.out.bx 0 rfl 1 _ rfl).1
      have z2 := (H.out.bx 0 rfl 2 _ rfl).1
      obtain ⟨r0, r0z⟩ := H.out.bx 2 rfl 0 _ rfl
      obtain ⟨r1, r1z⟩ := H.out.bx 2 rfl 1 _ rfl
      obtain ⟨r2, r2z⟩ := H.out.bx 2 rfl 2 _ rfl
      go_wp2_with fail
      have HE3 := Shut.mk ((((H.out.put 2 rfl 0 (.int .i64 id) (by simp)).put 2 rfl 1 (.bool up) (by simp)).put 2 rfl 2 (.slice ac n cc) (by simp)))
      refine bodyPost_ret (v := .tuple #[.agg #[.int .i64 id, .bool up, .slice ac n cc], .bool false]) (by simp [results, Tryd.results49, go_sem, r0, r1, r2]) rfl ?_
      rw [HE.out]
      have hs := HE3.out.is _ (List.mem_of_getElem? (show _[1]? = some (rwS ac (unS us) lc hc9) from rfl))
      exact ⟨_, cc, by rw [HN.out], frw_wide (show FRw _ _ (unS us) lc hc9 from hs.1) hs.2.2.1 hs.2.2.2, by have := HN.out; show us.length ≤ cc; omega, HE3.out.bel⟩
    | true =>
      have hs' : (u.sum != sn) = false := by rw [bne, hs]; rfl
      have HE : Shut (RR = (⟨id, up, us.set k ⟨u.group, u.index, turnAt u.text (at9.toNat % u.text.size), u.sum⟩⟩, true)) := ⟨by rw [HQ2.out, hs]; rfl⟩
      refine wp_region_grow (by kernel_rfl) (by kernel_rfl) ?_
      repeat (go_big_quiet_step (first | (go_at_call 38; with_reducible exact HSU.out _)))
      refine wpQuiet_nil ?_
      rintro _ ⟨X, rfl⟩
      have H := Shut.mk (HW.out.below X.bel)
      have y2 := g2 X
      have y3 := p2 X
      clear p2 p3 g2 HW HQ2
      obtain ⟨W4, hb4⟩ := X
      dsimp only at *
      have hpos : 0 < u.text.size := by
        rcases Nat.eq_zero_or_pos u.text.size with e | e
        · exfalso
          have : u.text = ⟨#[]⟩ := by
            cases u; rename_i t _; cases t; rename_i d; simp only [ByteArray.size] at e ⊢; congr 1; exact Array.eq_empty_of_size_eq_zero e
          rw [this] at hte
          rw [toList_none] at hte
          cases hte
        · exact e
      obtain ⟨W5, c5, hcv, hrow5, hb5⟩ := bytes_made W4 u.text
      obtain ⟨bb, hbb⟩ : ∃ q, q = W4.heap.size := ⟨_, rfl⟩
      have H5 := Shut.mk (H.out.add (s := byS bb u.text.data.toList) hb5 (by rw [hbb]; exact hrow5) (byS.loc _ _) (by rw [hbb]; exact Nat.le_refl _) (by rw [hbb]; exact hrow5.1))
      rw [← hbb] at hcv
      clear hrow5 hb5 hbb hb4 H
      go_upto_region 6 with fail
      obtain ⟨j, hj⟩ : ∃ j : Nat, at9.tmod (u.text.size : Int) = (j : Int) := by
        rw [Int.tmod_eq_emod_of_nonneg hat]
        exact Int.eq_ofNat_of_zero_le (Int.emod_nonneg _ (by omega))
      have hj2 : j < u.text.size ∧ j = at9.toNat % u.text.size := by
        rw [Int.tmod_eq_emod_of_nonneg hat] at hj
        have h1 := Int.emod_lt_of_pos at9 (show (0 : Int) < (u.text.size : Int) by omega)
        obtain ⟨q, rfl⟩ := Int.eq_ofNat_of_zero_le hat
        simp only [Int.toNat_natCast] at *
        omega
      have HJ := Shut.mk hj2
      have hne : ¬ ((u.text.size : Int) = 0) := by omega
      have hL : u.text.data.toList.length = u.text.size := rfl
      obtain ⟨x, hx⟩ : ∃ o : UInt8, u.text.data.toList.getD j 0 = o := ⟨_, rfl⟩
      have hci := (show BRow W5 bb u.text.data.toList from H5.out.at 0 rfl).2 j (by have := HJ.out.1; omega)
      rw [hx] at hci
      obtain ⟨hc1, hc2⟩ := hci
      have hxo := bits_one x
      have j0 : (0 : Int) ≤ (j : Int) := by omega
      have j1 : (j : Int) < (u.text.size : Int) := by have := HJ.out.1; omega
      have HX := Shut.mk hx
      have H6 := Shut.mk (H5.out.turn 0 rfl (W' := W5.setCell ⟨bb, j, none⟩ (.int .u8 ((x ^^^ 1).toNat : Int))) (Turned.of_grown (gb_set' W5 bb j _) (Nat.le_refl _) (Nat.lt_succ_self _)) ((show BRow W5 bb u.text.data.toList from H5.out.at 0 rfl).set j (x ^^^ 1) (by have := HJ.out.1; omega)) (byS.loc _ _))
      simp only [List.set_cons_zero] at H6
      have HT : Shut ((⟨(u.text.data.toList.set j (x ^^^ 1)).toArray⟩ : ByteArray) = turnAt u.text (at9.toNat % u.text.size)) := ⟨by unfold turnAt; rw [← HJ.out.2, HX.out]⟩
      clear hj2 hx H5
      generalize x ^^^ 1 = z at *
      go_region
      all_goals
        go_upto_region 7 with fail
        refine wp_shade (fun W => SL w W [byS bb (u.text.data.toList.set j z), bxS b6 [.int .i64 id, .bool up, .slice ac n cc], rwS ac (unS us) lc hc9, bxS (w.heap.size + 1) [.int .i64 0, .bool false, .slice none 0 0], bxS w.heap.size [.int .i64 id, .bool up, .slice (some ⟨b, off, none⟩) n cap]]) (by first | exact H6.out.drew | exact H6.out) ?_
        intro W7 hW
        have H := Shut.mk hW.tail
        have hcv2 := brow_string (cap := c5) (show BRow W7 bb (u.text.data.toList.set j z) from hW.at 0 rfl)
        rw [List.length_set, hL, HT.out] at hcv2
        clear hW H6 hcv hc1 hc2 hxo hj
        generalize turnAt u.text (at9.toNat % u.text.size) = T at *
        obtain ⟨gc, rfl, hlc, hhc, hwc⟩ : ∃ gc, ac = some ⟨gc, 0, none⟩ ∧ lc ≤ gc ∧ gc < hc9 ∧ WCells W7 gc (unS us) := by
          rcases (show FRw W7 ac (unS us) lc hc9 from H.out.at 1 rfl) with ⟨_, e⟩ | q
          · have := congrArg List.length e
            rw [unS_len] at this
            simp at this
            omega
          · exact q
        obtain ⟨s2, s2z⟩ := hwc.2 (k * 4 + 2) _ (flat_get unC_len us k hf 2 (by omega))
        have z2 := (H.out.bx 0 rfl 2 _ rfl).1
        have H8 := Shut.mk (H.out.turn 1 rfl (W' := W7.setCell ⟨gc, k * 4 + 2, none⟩ (.string T)) (Turned.of_grown (gb_set' W7 gc (k * 4 + 2) _) hlc hhc) (q := fun W => FRw W (some ⟨gc, 0, none⟩) (unS (us.set k ⟨u.group, u.index, T, u.sum⟩)) lc hc9) (by
          have q1 := hwc.set (k * 4 + 2) (.string T) (by rw [unS_len]; omega)
          rw [uns_text us k hf T, ← HU.out] at q1
          exact .inr ⟨gc, rfl, hlc, hhc, q1⟩) (rwS.loc _ _ _ _))
        simp only [List.set_cons_zero, List.set_cons_succ] at H8
        clear hwc
        go_upto_region 8 with fail
        refine wp_shade (fun W => SL w W [bxS b6 [.int .i64 id, .bool up, .slice (some ⟨gc, 0, none⟩) n cc], rwS (some ⟨gc, 0, none⟩) (unS (us.set k ⟨u.group, u.index, T, u.sum⟩)) lc hc9, bxS (w.heap.size + 1) [.int .i64 0, .bool false, .slice none 0 0], bxS w.heap.size [.int .i64 id, .bool up, .slice (some ⟨b, off, none⟩) n cap]]) H8.out ?_
        intro W8 hW
        clear H z2 s2 s2z H8
        have H := Shut.mk hW
        clear hW
        have z0 := (H.out.bx 0 rfl 0 _ rfl).1
        have z1 := (H.out.bx 0 rfl 1 _ rfl).1
        have z2 := (H.out.bx 0 rfl 2 _ rfl).1
        obtain ⟨r0, r0z⟩ := H.out.bx 2 rfl 0 _ rfl
        obtain ⟨r1, r1z⟩ := H.out.bx 2 rfl 1 _ rfl
        obtain ⟨r2, r2z⟩ := H.out.bx 2 rfl 2 _ rfl
        go_wp2_with fail
        have HE3 := Shut.mk ((((H.out.put 2 rfl 0 (.int .i64 id) (by simp)).put 2 rfl 1 (.bool up) (by simp)).put 2 rfl 2 (.slice (some ⟨gc, 0, none⟩) n cc) (by simp)))
        refine bodyPost_ret (v := .tuple #[.agg #[.int .i64 id, .bool up, .slice (some ⟨gc, 0, none⟩) n cc], .bool true]) (by simp [results, Tryd.results49, go_sem, r0, r1, r2]) rfl ?_
        rw [HE.out]
        have hs := HE3.out.is _ (List.mem_of_getElem? (show _[1]? = some (rwS (some ⟨gc, 0, none⟩) (unS (us.set k ⟨u.group, u.index, T, u.sum⟩)) lc hc9) from rfl))
        exact ⟨_, cc, by show _ = Ending.returned (.tuple #[.agg #[.int .i64 id, .bool up, .slice _ (us.set k _).length cc], .bool true]); rw [List.length_set, ← HN.out], frw_wide (show FRw _ _ (unS (us.set k ⟨u.group, u.index, T, u.sum⟩)) lc hc9 from hs.1) hs.2.2.1 hs.2.2.2, by have := HN.out; show (us.set k _).length ≤ cc; rw [List.length_set]; omega, HE3.out.bel⟩
end Go.Proofs.YtoaifodmjkhiiaaDoor
/- GrwE: A region that draws its order, behind its last free operation: one alone may come up at a time: a call, or a value of the memory as it is. -/
namespace Go.Proofs.YtoaifodmjkhiiaaDoor
set_option maxRecDepth 100000
open Go.RowKit
section
variable {P : Program} {Q : Exit → Act → World → Prop} {md : Region.Mode}
/-- One alone may come up: a call; the rest behind it. -/
theorem wpA_mid {L r : List Oper} {i : Nat} {oi : Oper} {f : FuncId} {args : Array Value} {n : Nat} {l : Array Bool} {a : Act} {w : World} (hr : Region.ready md L.toArray l = [i]) (hi : L.drop i = oi :: r) (hw : Region.wanted oi (yielded L.toArray a.tmps) = true) (hy : (execOp a.eval oi).run P w = .ok (.enter f args) w)
    (h : Calls P f args w fun e y => ∃ v, e = .returned v ∧ wpAny P md L.toArray Q n (l.setIfInBounds i true) (a.put oi.dst v) y) : wpAny P md L.toArray Q (n + 1) l a w := by
  refine ⟨fun h => (by rw [hr] at h; cases h), fun j hj => ?_⟩
  rw [hr, List.mem_singleton] at hj
  subst hj
  unfold wpOp
  rw [at_drop hi]
  dsimp only
  rw [if_pos hw]
  refine Or.inl ?_
  unfold Oper.wp
  rw [hy]
  refine h.mono ?_
  rintro e y ⟨v, rfl, hq⟩
  exact hq
/-- One alone may come up: a value; the rest behind it. -/
theorem wpA_here {L r : List Oper} {i : Nat} {oi : Oper} {v : Value} {n : Nat} {l : Array Bool} {a : Act} {w y : World} (hr : Region.ready md L.toArray l = [i]) (hi : L.drop i = oi :: r) (hw : Region.wanted oi (yielded L.toArray a.tmps) = true) (hy : (execOp a.eval oi).run P w = .ok (.value v) y)
    (h : wpAny P md L.toArray Q n (l.setIfInBounds i true) (a.put oi.dst v) y) : wpAny P md L.toArray Q (n + 1) l a w := by
  refine ⟨fun h => (by rw [hr] at h; cases h), fun j hj => ?_⟩
  rw [hr, List.mem_singleton] at hj
  subst hj
  unfold wpOp
  rw [at_drop hi]
  dsimp only
  rw [if_pos hw]
  refine Or.inl ?_
  unfold Oper.wp
  rw [hy]
  exact h
/-- Two may come up, each a store: in either order. -/
theorem wpA_two {L r r' : List Oper} {i j : Nat} {oi oj : Oper} {n : Nat} {l : Array Bool} {a : Act} {w y z : World} (hr : Region.ready md L.toArray l = [i, j]) (hi : L.drop i = oi :: r) (hj : L.drop j = oj :: r') (hw : Region.wanted oi (yielded L.toArray a.tmps) = true) (hw' : Region.wanted oj (yielded L.toArray a.tmps) = true)
    (hy : (execOp a.eval oi).run P w = .ok .skip y) (hz : (execOp a.eval oj).run P w = .ok .skip z)
    (h : wpAny P md L.toArray Q n (l.setIfInBounds i true) (a.put oi.dst undef) y) (h' : wpAny P md L.toArray Q n (l.setIfInBounds j true) (a.put oj.dst undef) z) : wpAny P md L.toArray Q (n + 1) l a w := by
  refine ⟨fun h => (by rw [hr] at h; cases h), fun k hk => ?_⟩
  rw [hr] at hk
  rcases List.mem_cons.1 hk with rfl | hk
  · unfold wpOp
    rw [at_drop hi]
    dsimp only
    rw [if_pos hw]
    refine Or.inl ?_
    unfold Oper.wp
    rw [hy]
    exact h
  · rw [List.mem_singleton] at hk
    subst hk
    unfold wpOp
    rw [at_drop hj]
    dsimp only
    rw [if_pos hw']
    refine Or.inl ?_
    unfold Oper.wp
    rw [hz]
    exact h'
end
end Go.Proofs.YtoaifodmjkhiiaaDoor
/- DrHt: The models' draw of hosts. -/
namespace Go.Proofs.YtoaifodmjkhiiaaDoor
set_option maxRecDepth 100000
open Go.RowKit BigFrame
attribute [local go_sem ↓] Go.wp_at_zero Go.wp_at_succ

/-- Seven good hosts, a schema, a group's number, a text. -/
def HsDrawn (w0 W : World) (g B : Nat) (a : Option Addr) (len cap : Nat) (S : List Str) (e : Ending) (W' : World) : Prop :=
  ∃ gH c gs s t hi, e = .returned (.tuple #[.slice (some ⟨gH, 0, none⟩) 7 c, .int .i64 s, .int .i64 1, .string t]) ∧ 1 ≤ s ∧ s ≤ 3 ∧ t.size ≤ 200 ∧ DH w0 W' g B a len cap S W.heap.size hi gH gs 18
theorem group_le (s : Int) : groupN s ≤ 64 := by
  unfold groupN
  have : schK s ≤ 4 := by unfold schK; split <;> (try split) <;> (try split) <;> omega
  omega
set_option maxRecDepth 100000 in
set_option maxHeartbeats 8000000 in
theorem l15Hosts_any (w0 W : World) (g B : Nat) (a : Option Addr) (len cap : Nat) (S : List Str) (h : SD w0 W g B a len cap S) :
    Calls Tryd.prog 35 #[.pointer (some ⟨g, 0, none⟩)] W fun e W' => HsDrawn w0 W g B a len cap S e W' := by
  obtain ⟨i0, hin, hz0, hz1, hz2⟩ := info_parts infoHost15
  have H0 : Shut (D1 w0 (W.alloc (.cells #[] 46)) g B a len cap S W.heap.size (.slice (some ⟨W.heap.size, 0, none⟩) 0 0) []) := ⟨⟨h.below ((Below.refl _ _).alloc (Nat.le_refl _) _), World.ownsRow_made (e := 46) (size := 3) (base := W.heap.size) W #[] 0 (Nat.le_refl _) (by decide) (by simp), fun r hr => (by cases hr), fun i hi => (by simp at hi), h.cur.2.1, fun s hs => (h.sl.is s hs).2.2.2, h.sl.bel.size, by simp⟩⟩
  obtain ⟨base, hbase⟩ : ∃ q, q = W.heap.size := ⟨_, rfl⟩
  have HBA := Shut.mk hbase
  have H1 := H0.out
  rw [← hbase] at H1
  replace H1 := Shut.mk H1
  clear h H0
  go_enter Tryd.func35, Tryd.ntmps35
  go_wp2_with fail
  rw [← hbase]
  clear hbase
  go_loopw [6, 7] (fun v i9 wr => ∃ (k : Nat), i9 = .int .i64 ((k : Int) + 1) ∧ k ≤ 7 ∧ Shut (∃ gs, gs.length = k ∧ D1 w0 wr g B a len cap S base v gs)) (fun _ i9 _ => 8 - (intOf i9).toNat)
  case atStart => exact ⟨0, rfl, by omega, ⟨[], rfl, by first | exact H1.out | (have q := H1.out; simpa using q)⟩⟩
  case round =>
    clear H1
    obtain ⟨k, rfl, hk, HW⟩ := hrel
    obtain ⟨gs, hgl, hgs⟩ := HW.out
    have HG := Shut.mk (And.intro hgl hgs)
    obtain ⟨av, cv, rfl⟩ := own_any3 hgs.own
    rw [hgl]
    clear HW hgs hgl
    by_cases hlt : k < 7
    case pos =>
      have hk1 : (k : Int) + 1 ≤ 7 := by omega
      go_wp2_with (first
        | (go_at_call 44; refine (HG.out.2.sd.once 12 (by omega)).mono ?_; rintro e w2 ⟨y, rfl, hd⟩; have HD2 := Shut.mk (HG.out.2.draw hd); clear hd; have hown := HD2.out.own; rw [HG.out.1] at hown; have hsz := HD2.out.size)
        | (at_builtin; refine wpList_append_own_at _ rfl _ _ 28 rfl base 46 i0 (.agg #[.int .i64 0, .bool false, .slice none 0 0]) 3 40 Tryd.underlying28 hin hz0 hz1 hz2 rfl (by decide) _ _ _ rfl (hown.alloc _) ⟨w2.heap.size, 0, none⟩ 1 1 (hC ⟨⟨(k : Int) + 1, !y, []⟩, none, 0⟩) rfl rfl ?c1 ?c2 ?c3 ?c4 ?c5 ?_))
      case c1 =>
        intro j u hu
        have q := ((wcells_new w2 #[.int .i64 ((k : Int) + 1), .bool (!y), .slice none 0 0] 46).2 j u hu).1
        cases j with
        | zero => exact q
        | succ j => simpa [Addr.add] using q
      case c2 =>
        intro u hu
        simp only [hC, List.mem_cons, List.not_mem_nil, or_false] at hu
        rcases hu with rfl | rfl | rfl <;> rfl
      case c3 => unfold maxLen; omega
      case c4 => omega
      case c5 => first | omega | (simp; omega)
      intro v9 w9 ho hg _ hat
      have HN := Shut.mk (HD2.out.more ((Below.refl _ _).alloc (Nat.le_refl _) (.cells #[.int .i64 ((k : Int) + 1), .bool (!y), .slice none 0 0] 46)) (!y) (by rw [HG.out.1]; exact ho) (by rw [HG.out.1]; exact hg))
      clear ho hg hat hown hsz
      go_wp2_with fail
      go_roundw
      case rel => exact ⟨k + 1, by go_num, by omega, ⟨_, by rw [List.length_append, HG.out.1]; rfl, HN.out⟩⟩
      case measure => simp [intOf]; omega
    obtain rfl : 7 = k := by omega
    obtain ⟨gH, cH, e1, hdh⟩ := HG.out.2.done HG.out.1
    have HD := Shut.mk hdh
    rw [HG.out.1] at e1
    cases e1
    clear hdh HG
    go_upto_region 8 with (go_at_call 45; refine (HD.out.sd.pick 3 (by omega)).mono ?_; rintro e w2 ⟨y, rfl, y0, y1, hd⟩; have HD2 := Shut.mk (HD.out.draw hd); clear hd)
    have ys : 0 ≤ y ∧ y ≤ 2 := by omega
    obtain ⟨s, hs⟩ : ∃ q, q = 1 + y := ⟨_, rfl⟩
    have hs1 : 1 ≤ s ∧ s ≤ 3 := by omega
    rw [← hs]
    have HGN := Shut.mk (groupN_bounds s)
    clear hs y0 y1 ys HD
    go_upto_region 9 with fail
    go_loopw [6, 9, 10] (fun v t9 i9 wr => ∃ (j gH c hi : Nat) (gs : List HoR) (t : ByteArray), v = .slice (some ⟨gH, 0, none⟩) 7 c ∧ t9 = .string t ∧ i9 = .int .i64 (j : Nat) ∧ 1 ≤ j ∧ j ≤ 4 ∧ t.size ≤ 200 ∧ Shut (DH w0 wr g B a len cap S base hi gH gs (6 * (j - 1)))) (fun _ _ i9 _ => 5 - (intOf i9).toNat)
    case atStart => exact ⟨1, gH, _, _, gs, ⟨#[]⟩, rfl, rfl, rfl, by omega, by omega, by decide, ⟨HD2.out⟩⟩
    case round =>
      clear HD2
      obtain ⟨j, gH, cH, hi, gs, t, rfl, rfl, rfl, hj1, hj4, ht, HD⟩ := hrel
      go_wp2_with (go_at_call 45; (apply Calls.mono; focus (with_reducible exact (HD.out.sd.pick 3 (by omega)))); rintro e w2 ⟨y, rfl, y0, y1, hd⟩; have HD2 := Shut.mk (HD.out.draw hd); clear hd)
      · have hj3 : j ≤ 3 := by omega
        obtain ⟨gn, hgn⟩ : ∃ q, q = groupN s := ⟨_, rfl⟩
        have hgb : gn ≤ 32 := by rw [hgn]; exact HGN.out
        have HGS := Shut.mk (specGroupSize s w2)
        rw [← hgn] at HGS
        have HNX : Shut (6 * (j + 1 - 1) = 6 * (j - 1) + 6) := ⟨by omega⟩
        clear hgn HD
        refine HGS.out.mono ?_
        rintro e w3 ⟨rfl, hw3⟩
        subst hw3
        go_wp2_with fail
        refine (HD2.out.sd.pick (gn : Nat) (by omega)).mono ?_
        rintro e w4 ⟨z, rfl, z0, z1, hd⟩
        have HD4 := Shut.mk (HD2.out.draw hd)
        clear hd
        obtain ⟨z9, rfl⟩ := Int.eq_ofNat_of_zero_le z0
        obtain ⟨q, hq⟩ : ∃ q, q = 1 + z9 := ⟨_, rfl⟩
        have hq2 : (1 : Int) + (z9 : Int) = (q : Int) := by omega
        have hq3 : q ≤ 40 := by omega
        clear hq z1 z0
        go_wp2_with fail
        refine (HD4.out.sd.text q (by omega)).mono ?_
        rintro e w5 ⟨tx, rfl, htx, hd⟩
        have HD5 := Shut.mk (HD4.out.draw hd)
        have HWR := Shut.mk (specWrite15 (some ⟨gH, 0, none⟩) gs cH s (j : Nat) tx (6 * (j - 1)) w5 HD5.out.row HD5.out.good (by omega) (by omega) ⟨by omega, by omega⟩)
        rw [HD5.out.seven] at HWR
        have htx2 : tx.size ≤ 200 := by omega
        clear hd htx
        go_wp2_with fail
        refine HWR.out.mono ?_
        rintro e w6 ⟨g6, c6, gs6, ok6, rfl, hc6, hwg⟩
        have HD6 := HD5.out.wrote hwg
        rw [← HNX.out] at HD6
        replace HD6 := Shut.mk HD6
        clear hwg
        go_wp2_with fail
        all_goals first
          | exact ⟨⟨j + 1, g6, c6, _, gs6, tx, rfl, rfl, by go_num, by omega, by omega, htx2, HD6⟩, by simp [intOf]; omega⟩
          | exact ⟨⟨j + 1, g6, c6, _, gs6, t, rfl, rfl, by go_num, by omega, by omega, ht, HD6⟩, by simp [intOf]; omega⟩
      · have HD3 : Shut (DH w0 w2 g B a len cap S base hi gH gs 18) := ⟨HD2.out.mono (by omega)⟩
        clear HD HD2 HGN
        go_loopw [14] (fun i9 wr => ∃ (i hi : Nat) (gs : List HoR), i9 = .int .i64 (i : Nat) ∧ i ≤ 4 ∧ Shut (DH w0 wr g B a len cap S base hi gH gs 18)) (fun i9 _ => 5 - (intOf i9).toNat)
        case atStart => exact ⟨0, hi, gs, rfl, by omega, HD3⟩
        case round =>
          clear HD3
          obtain ⟨i, hi, gs, rfl, hi4, HD⟩ := hrel
          go_wp2_with (go_at_call 45; (apply Calls.mono; focus (with_reducible exact (HD.out.sd.pick 4 (by omega)))); rintro e w3 ⟨x, rfl, x0, x1, hd⟩; have HD3 := Shut.mk (HD.out.draw hd); clear hd)
          · have hi3 : i ≤ 3 := by omega
            refine (HD3.out.sd.pick 7 (by omega)).mono ?_
            rintro e w4 ⟨k9, rfl, k0, k1, hd⟩
            have HD4 := Shut.mk (HD3.out.draw hd)
            clear hd HD3 HD
            obtain ⟨k, rfl⟩ := Int.eq_ofNat_of_zero_le k0
            have hk7 : k < 7 := by omega
            have k2 : (k : Int) < 7 := by omega
            clear k1
            go_wp2_with fail
            refine (HD4.out.sd.pick 4 (by omega)).mono ?_
            rintro e w5 ⟨x9, rfl, y0, y1, hd⟩
            have HD5 := Shut.mk (HD4.out.draw hd)
            clear hd HD4
            have hkg : k < gs.length := by rw [HD5.out.seven]; exact hk7
            have hwo := HD5.out.gw.out
            obtain ⟨q0, z0⟩ := hwo.2 (k * 3) _ (flat_get hC_len gs k hkg 0 (by omega))
            obtain ⟨q1, z1⟩ := hwo.2 (k * 3 + 1) _ (flat_get hC_len gs k hkg 1 (by omega))
            obtain ⟨q2, z2⟩ := hwo.2 (k * 3 + 2) _ (flat_get hC_len gs k hkg 2 (by omega))
            have lgH : gH < w5.heap.size := hwo.1
            clear hwo
            by_cases hx0 : x9 = 0
            case pos =>
              subst hx0
              have HN := Shut.mk (HD5.out.up k hkg false)
              clear HD5
              go_wp2_with fail
              go_roundw
              case rel => exact ⟨i + 1, _, _, by go_num, by omega, HN⟩
              case measure => simp [intOf]; omega
            by_cases hx1 : x9 = 1
            case pos =>
              subst hx1
              have HN := Shut.mk ((HD5.out.empty k hkg (some ⟨w5.heap.size, 0, none⟩) 0).below ((Below.refl _ _).alloc (Nat.le_refl _) (.cells #[] 65)))
              have hne : ¬ gH = w5.heap.size := by omega
              clear HD5
              go_wp2_with fail
              go_roundw
              case rel => exact ⟨i + 1, _, _, by go_num, by omega, HN⟩
              case measure => simp [intOf]; omega
            by_cases hx2 : x9 = 2
            case neg =>
              have e0 : (x9 == 0) = false := by simpa using hx0
              have e1 : (x9 == 1) = false := by simpa using hx1
              have e2 : (x9 == 2) = false := by simpa using hx2
              have HN := Shut.mk (HD5.out.up k hkg true)
              clear HD5
              go_wp2_with fail
              go_roundw
              case rel => exact ⟨i + 1, _, _, by go_num, by omega, HN⟩
              case measure => simp [intOf]; omega
            subst hx2
            by_cases hn0 : gs[k].h.us.length = 0
            case pos =>
              have q3 : w5.cell? ⟨gH, k * 3 + 2, none⟩ = some (.slice gs[k].loc 0 gs[k].cap) := by rw [← hn0]; exact q2
              clear q2 hn0
              go_wp2_with fail
              go_roundw
              case rel => exact ⟨i + 1, _, _, by go_num, by omega, HD5⟩
              case measure => simp [intOf]; omega
            obtain ⟨r, hre⟩ : ∃ r, r = gs[k] := ⟨_, rfl⟩
            have hgd := (HD5.out.at k hkg).2
            have hrid := (HD5.out.at k hkg).1
            have q4 : w5.cell? ⟨gH, k * 3, none⟩ = some (.int .i64 r.h.id) := by rw [hre]; exact q0
            have q5 : w5.cell? ⟨gH, k * 3 + 1, none⟩ = some (.bool r.h.up) := by rw [hre]; exact q1
            have q6 : w5.cell? ⟨gH, k * 3 + 2, none⟩ = some (.slice r.loc r.h.us.length r.cap) := by rw [hre]; exact q2
            rw [← hre] at hn0 hgd hrid
            have HRE := Shut.mk (And.intro hre hrid)
            have HRW : Shut (∀ x, DH w0 x g B a len cap S base hi gH gs 18 → UnRow x r.loc r.h.us) := ⟨fun x hx => hx.row.2 r (by rw [hre]; exact List.getElem_mem hkg)⟩
            clear q0 q1 q2 hre hrid
            obtain ⟨⟨rid, rup, rus⟩, rl, rc⟩ := r
            dsimp only at *
            obtain ⟨u9, us', rfl⟩ : ∃ u us', rus = u :: us' := by
              cases rus with
              | nil => exact absurd rfl hn0
              | cons u us' => exact ⟨u, us', rfl⟩
            obtain ⟨ub0, uo0, rfl, lub, huc⟩ := (HRW.out w5 HD5.out).at (Nat.zero_lt_succ _)
            obtain ⟨u0, u1, u2, u3⟩ := huc 0 (Nat.zero_lt_succ _)
            rw [Nat.zero_mul, Nat.add_zero] at u0 u1 u2 u3
            simp only [List.getElem_cons_zero] at u0 u1 u2 u3
            have HSP := Shut.mk (fun (q : Int) (x : World) (h : UnRow x (some ⟨ub0, uo0, none⟩) (u9 :: us')) (hq : q ≤ 9) => specSpoil ⟨rid, rup, u9 :: us'⟩ (some ⟨ub0, uo0, none⟩) rc u9.group u9.index q x h (by have := hgd.2; show (u9 :: us').length ≤ 1048576; omega) (by have h1 := (hgd.fit (by omega)).2.1; have h2 := hgd.2; show unSum (u9 :: us') ≤ 1048576; omega) (by omega))
            have HSG := Shut.mk (fun (q : Int) => spoil_any (H := ⟨rid, rup, u9 :: us'⟩) hgd u9.group u9.index q)
            have HB6 := Shut.mk (HD5.out.below ((Below.refl _ _).alloc (Nat.le_refl _) (.cells #[.int .i64 u9.group, .int .i64 u9.index, .string u9.text, .int .i64 u9.sum] 65)))
            have HBX := Shut.mk (wcells_new w5 #[.int .i64 u9.group, .int .i64 u9.index, .string u9.text, .int .i64 u9.sum] 65)
            have HCL : Shut (∀ j v, w5.cell? ⟨gH, j, none⟩ = some v → (w5.alloc (.cells #[.int .i64 u9.group, .int .i64 u9.index, .string u9.text, .int .i64 u9.sum] 65)).cell? ⟨gH, j, none⟩ = some v) := ⟨fun j v hv => (((Below.refl w5.heap.size w5).alloc (Nat.le_refl _) _).cell (p := ⟨gH, j, none⟩) lgH).trans hv⟩
            have hgk : g < w5.heap.size := HD5.out.sd.cur.2.1
            have hggH : g < gH := Nat.lt_of_lt_of_le HD5.out.glt HD5.out.gw.glo
            have p0 := HCL.out _ _ q4
            have p1 := HCL.out _ _ q5
            have p2 := HCL.out _ _ q6
            obtain ⟨rn, hrn⟩ : ∃ q, q = (u9 :: us').length := ⟨_, rfl⟩
            rw [← hrn] at q6 p2
            have HRN := Shut.mk hrn
            have hn1 : 0 < rn := by rw [hrn]; exact Nat.zero_lt_succ _
            have hn2 : (0 : Int) < (rn : Int) := by omega
            clear huc hgd hn0 hrn HCL
            go_upto_region 29 with fail
            obtain ⟨ub, hub⟩ : ∃ q, q = w5.heap.size := ⟨_, rfl⟩
            refine wp_shade (fun V => DH w0 V g B a len cap S base hi gH gs 18 ∧ WCells V ub [.int .i64 u9.group, .int .i64 u9.index, .string u9.text, .int .i64 u9.sum] ∧ V.cell? ⟨gH, k * 3, none⟩ = some (.int .i64 rid) ∧ V.cell? ⟨gH, k * 3 + 1, none⟩ = some (.bool rup) ∧ V.cell? ⟨gH, k * 3 + 2, none⟩ = some (.slice (some ⟨ub0, uo0, none⟩) rn rc)) ⟨HB6.out, by rw [hub]; exact HBX.out, p0, p1, p2⟩ ?_
            rintro V ⟨hV, hVb, v0, v1, v2⟩
            rw [← hub]
            have hgub : g ≠ ub := by omega
            have HX : Shut (DH w0 V.drew g B a len cap S base hi gH gs 18) := ⟨hV.below (Below.drew (Below.refl _ _))⟩
            have HLE : Shut (∀ x, Dr g B a len cap V.drew x → x.cell? ⟨gH, k * 3, none⟩ = some (.int .i64 rid) ∧ x.cell? ⟨gH, k * 3 + 1, none⟩ = some (.bool rup) ∧ x.cell? ⟨gH, k * 3 + 2, none⟩ = some (.slice (some ⟨ub0, uo0, none⟩) rn rc) ∧ x.cell? ⟨ub, 0, none⟩ = some (.int .i64 u9.group) ∧ x.cell? ⟨ub, 1, none⟩ = some (.int .i64 u9.index)) := ⟨fun x hx => by
              have e1 : x.heap[gH]? = V.drew.heap[gH]? := hx.1.block gH hV.gw.out.1 (by simp; omega)
              have e2 : x.heap[ub]? = V.drew.heap[ub]? := hx.1.block ub hVb.1 (by simp; omega)
              exact ⟨(World.cell?_of_block (a := ⟨gH, k * 3, none⟩) e1).trans v0, (World.cell?_of_block (a := ⟨gH, k * 3 + 1, none⟩) e1).trans v1, (World.cell?_of_block (a := ⟨gH, k * 3 + 2, none⟩) e1).trans v2, (World.cell?_of_block (a := ⟨ub, 0, none⟩) e2).trans (hVb.2 0 _ rfl).1, (World.cell?_of_block (a := ⟨ub, 1, none⟩) e2).trans (hVb.2 1 _ rfl).1⟩⟩
            clear p0 p1 p2 q4 q5 q6 u0 u1 u2 u3 v0 v1 v2 hV hVb HB6 HBX HD5 hub z0 z1 z2
            refine wp_region_E (Dr g B a len cap) (Dr.pre g B a len cap) (fun j => decide (j = 0 ∨ j = 1 ∨ 14 ≤ j)) (by kernel_rfl) ?_
            refine wpE_pure (Dr.pre g B a len cap) (i := 0) (v := ?v0) rfl (by kernel_rfl) (by kernel_rfl) (by kernel_rfl) (by kernel_rfl) (fun _ _ _ h => h) (by rfl) ?hy0 ?rest0
            case hy0 => (intro x; go_simp; try with_reducible rfl)
            try simp only [Act.put, List.setIfInBounds_toArray, List.set_cons_zero, List.set_cons_succ]
            refine wpE_pure (Dr.pre g B a len cap) (i := 1) (v := ?v1) rfl (by kernel_rfl) (by kernel_rfl) (by kernel_rfl) (by kernel_rfl) (fun _ _ _ h => h) (by rfl) ?hy1 ?rest1
            case hy1 => (intro x; go_simp; try with_reducible rfl)
            try simp only [Act.put, List.setIfInBounds_toArray, List.set_cons_zero, List.set_cons_succ]
            refine wpE_val (Dr.pre g B a len cap) (i := 2) (v := ?v2) rfl (by kernel_rfl) (by kernel_rfl) (by kernel_rfl) (by kernel_rfl) (fun _ _ _ h => h) (by rfl) ?hy2 ?rest2
            case hy2 => (intro x hx; obtain ⟨d0, d1, d2, d3, d4⟩ := HLE.out x hx; go_simp; try with_reducible rfl)
            try simp only [Act.put, List.setIfInBounds_toArray, List.set_cons_zero, List.set_cons_succ]
            refine wpE_val (Dr.pre g B a len cap) (i := 3) (v := ?v3) rfl (by kernel_rfl) (by kernel_rfl) (by kernel_rfl) (by kernel_rfl) (fun _ _ _ h => h) (by rfl) ?hy3 ?rest3
            case hy3 => (intro x hx; obtain ⟨d0, d1, d2, d3, d4⟩ := HLE.out x hx; go_simp; try with_reducible rfl)
            try simp only [Act.put, List.setIfInBounds_toArray, List.set_cons_zero, List.set_cons_succ]
            refine wpE_val (Dr.pre g B a len cap) (i := 4) (v := ?v4) rfl (by kernel_rfl) (by kernel_rfl) (by kernel_rfl) (by kernel_rfl) (fun _ _ _ h => h) (by rfl) ?hy4 ?rest4
            case hy4 => (intro x hx; obtain ⟨d0, d1, d2, d3, d4⟩ := HLE.out x hx; go_simp; try with_reducible rfl)
            try simp only [Act.put, List.setIfInBounds_toArray, List.set_cons_zero, List.set_cons_succ]
            refine wpE_val (Dr.pre g B a len cap) (i := 5) (v := ?v5) rfl (by kernel_rfl) (by kernel_rfl) (by kernel_rfl) (by kernel_rfl) (fun _ _ _ h => h) (by rfl) ?hy5 ?rest5
            case hy5 => (intro x hx; obtain ⟨d0, d1, d2, d3, d4⟩ := HLE.out x hx; go_simp; try with_reducible rfl)
            try simp only [Act.put, List.setIfInBounds_toArray, List.set_cons_zero, List.set_cons_succ]
            refine wpE_val (Dr.pre g B a len cap) (i := 6) (v := ?v6) rfl (by kernel_rfl) (by kernel_rfl) (by kernel_rfl) (by kernel_rfl) (fun _ _ _ h => h) (by rfl) ?hy6 ?rest6
            case hy6 => (intro x hx; obtain ⟨d0, d1, d2, d3, d4⟩ := HLE.out x hx; go_simp; try with_reducible rfl)
            try simp only [Act.put, List.setIfInBounds_toArray, List.set_cons_zero, List.set_cons_succ]
            refine wpE_val (Dr.pre g B a len cap) (i := 7) (v := ?v7) rfl (by kernel_rfl) (by kernel_rfl) (by kernel_rfl) (by kernel_rfl) (fun _ _ _ h => h) (by rfl) ?hy7 ?rest7
            case hy7 => (intro x hx; obtain ⟨d0, d1, d2, d3, d4⟩ := HLE.out x hx; go_simp; try with_reducible rfl)
            try simp only [Act.put, List.setIfInBounds_toArray, List.set_cons_zero, List.set_cons_succ]
            refine wpE_val (Dr.pre g B a len cap) (i := 8) (v := ?v8) rfl (by kernel_rfl) (by kernel_rfl) (by kernel_rfl) (by kernel_rfl) (fun _ _ _ h => h) (by rfl) ?hy8 ?rest8
            case hy8 => (intro x hx; obtain ⟨d0, d1, d2, d3, d4⟩ := HLE.out x hx; go_simp; try with_reducible rfl)
            try simp only [Act.put, List.setIfInBounds_toArray, List.set_cons_zero, List.set_cons_succ]
            refine wpE_val (Dr.pre g B a len cap) (i := 9) (v := ?v9) rfl (by kernel_rfl) (by kernel_rfl) (by kernel_rfl) (by kernel_rfl) (fun _ _ _ h => h) (by rfl) ?hy9 ?rest9
            case hy9 => (intro x hx; obtain ⟨d0, d1, d2, d3, d4⟩ := HLE.out x hx; go_simp; try with_reducible rfl)
            try simp only [Act.put, List.setIfInBounds_toArray, List.set_cons_zero, List.set_cons_succ]
            refine wpE_val (Dr.pre g B a len cap) (i := 10) (v := ?v10) rfl (by kernel_rfl) (by kernel_rfl) (by kernel_rfl) (by kernel_rfl) (fun _ _ _ h => h) (by rfl) ?hy10 ?rest10
            case hy10 => (intro x hx; obtain ⟨d0, d1, d2, d3, d4⟩ := HLE.out x hx; go_simp; try with_reducible rfl)
            try simp only [Act.put, List.setIfInBounds_toArray, List.set_cons_zero, List.set_cons_succ]
            refine wpE_onecall (f := 45) (args := #[.pointer (some ⟨g, 0, none⟩), .int .i64 9]) (i := 11) (by kernel_rfl) rfl (by rfl) (fun x hx => by go_simp) (fun x hx => ((HX.out.draw hx).sd.pick 9 (by omega)).mono ?_)
            rintro e w9 ⟨q, rfl, qq0, qq1, hd⟩
            refine ⟨_, rfl, hd, ?_⟩
            replace HX : Shut (DH w0 w9 g B a len cap S base hi gH gs 18) := ⟨(HX.out.draw hx).draw hd⟩
            have qq2 : q ≤ 9 := by omega
            clear hd hx HLE qq1
            try simp only [Act.put, List.setIfInBounds_toArray, List.set_cons_zero, List.set_cons_succ]
            obtain ⟨⟨pid, pup, pus⟩, pok, hps⟩ : ∃ H b, spoilX ⟨rid, rup, u9 :: us'⟩ u9.group u9.index q = (H, b) := ⟨_, _, rfl⟩
            have HS9 := Shut.mk (fun (x : World) (h : UnRow x (some ⟨ub0, uo0, none⟩) (u9 :: us')) => HSP.out q x h qq2)
            have HG9 := Shut.mk (HSG.out q)
            unfold HbPost at HS9
            rw [hps] at HS9 HG9
            dsimp only [hov] at HS9 HG9
            rw [← HRN.out] at HS9
            clear hps HSP HSG
            refine wpE_onecall (f := 49) (args := #[.agg #[.int .i64 rid, .bool rup, .slice (some ⟨ub0, uo0, none⟩) rn rc], .int .i64 u9.group, .int .i64 u9.index, .int .i64 q]) (i := 12) (by kernel_rfl) rfl (by rfl) (fun x hx => by go_simp) (fun x hx => (HS9.out x (HRW.out x (HX.out.draw hx))).mono ?_)
            rintro e y8 ⟨v8, c8, rfl, hF, hc8, hb8⟩
            refine ⟨_, rfl, ⟨gb_below hb8, fun q => q.below hb8⟩, ?_⟩
            have HX8 := Shut.mk ((HX.out.draw hx).below hb8)
            have hxs : hi ≤ x.heap.size := (HX.out.draw hx).hlt
            have hgx : g < x.heap.size := (HX.out.draw hx).sd.cur.2.1
            have HF8 : Shut (∀ z, Dr g B a len cap y8 z → FRw z v8 (unS pus) hi y8.heap.size) := ⟨fun z hz => frw_wide (rwS.loc v8 (unS pus) x.heap.size y8.heap.size y8 z g (g + 1) hF (Turned.of_grown hz.1 (Nat.le_refl g) (Nat.lt_succ_self g)) (.inr hgx)) hxs (Nat.le_refl _)⟩
            obtain ⟨hi8, hh8⟩ : ∃ q, q = y8.heap.size := ⟨_, rfl⟩
            rw [← hh8] at HF8
            have hhi8 : hi ≤ hi8 := by rw [hh8]; exact Nat.le_trans hxs hb8.size
            have HH8 := Shut.mk hh8
            clear hF hb8 hx HX hxs hgx hh8
            try simp only [Act.put, List.setIfInBounds_toArray, List.set_cons_zero, List.set_cons_succ]
            refine wpE_val (Dr.pre g B a len cap) (i := 13) (v := ?v13) rfl (by kernel_rfl) (by kernel_rfl) (by kernel_rfl) (by kernel_rfl) (fun _ _ _ h => h) (by rfl) ?hy13 ?rest13
            case hy13 => (intro x hx; go_simp; try with_reducible rfl)
            try simp only [Act.put, List.setIfInBounds_toArray, List.set_cons_zero, List.set_cons_succ]
            refine wpE_pure (Dr.pre g B a len cap) (i := 14) (v := ?v14) rfl (by kernel_rfl) (by kernel_rfl) (by kernel_rfl) (by kernel_rfl) (fun _ _ _ h => h) (by rfl) ?hy14 ?rest14
            case hy14 => (intro x; go_simp; try with_reducible rfl)
            try simp only [Act.put, List.setIfInBounds_toArray, List.set_cons_zero, List.set_cons_succ]
            refine wpE_pure (Dr.pre g B a len cap) (i := 15) (v := ?v15) rfl (by kernel_rfl) (by kernel_rfl) (by kernel_rfl) (by kernel_rfl) (fun _ _ _ h => h) (by rfl) ?hy15 ?rest15
            case hy15 => (intro x; go_simp; try with_reducible rfl)
            try simp only [Act.put, List.setIfInBounds_toArray, List.set_cons_zero, List.set_cons_succ]
            refine wpE_tail (by kernel_rfl) ?_
            intro x5 hx5
            refine wpA_val (i := 16) (v := .pointer (some ⟨gH, k * 3, none⟩)) rfl (by kernel_rfl) (by kernel_rfl) (by kernel_rfl) (fun _ _ _ h => h) (by rfl) (fun x => by go_simp) ?_
            try simp only [Act.put, List.setIfInBounds_toArray, List.set_cons_zero, List.set_cons_succ]
            have HX5 := Shut.mk (HX8.out.draw hx5)
            have HN5 := Shut.mk (HX5.out.host k hkg ⟨pid, pup, pus⟩ v8 c8 hi8 (HF8.out x5 hx5) hhi8 (by rw [HH8.out]; exact hx5.1.size) hc8 (by show pid = _; rw [← HRE.out.1]; exact HG9.out.1) HG9.out.2)
            have hwo := HX5.out.gw.out
            obtain ⟨t0, s0⟩ := hwo.2 (k * 3) _ (flat_get hC_len gs k hkg 0 (by omega))
            obtain ⟨t1, s1⟩ := hwo.2 (k * 3 + 1) _ (flat_get hC_len gs k hkg 1 (by omega))
            obtain ⟨t2, s2⟩ := hwo.2 (k * 3 + 2) _ (flat_get hC_len gs k hkg 2 (by omega))
            unfold hC at HN5
            dsimp only at HN5
            rw [setW3] at HN5
            clear hwo hx5
            refine wpA_step (y := ((x5.setCell ⟨gH, k * 3, none⟩ (.int .i64 pid)).setCell ⟨gH, k * 3 + 1, none⟩ (.bool pup)).setCell ⟨gH, k * 3 + 2, none⟩ (.slice v8 pus.length c8)) (i := 17) (by kernel_rfl) rfl (by rfl) (by go_simp) ?_
            simp only [Act.put]
            refine wpA_done (by kernel_rfl) ?_ _
            clear t0 t1 t2 s0 s1 s2 HX5 HX8
            go_wp2_with fail
            go_roundw
            case rel => exact ⟨i + 1, _, _, by go_num, by omega, HN5⟩
            case measure => simp [intOf]; omega
          · go_returns
            exact ⟨gH, cH, gs, s, t, hi, rfl, hs1.1, hs1.2, ht, by rw [← HBA.out]; exact HD3.out⟩
end Go.Proofs.YtoaifodmjkhiiaaDoor
/- DrHu: The draw of hosts from a code. -/
namespace Go.Proofs.YtoaifodmjkhiiaaDoor
set_option maxRecDepth 100000
open Go.RowKit BigFrame
attribute [local go_sem ↓] Go.wp_at_zero Go.wp_at_succ

/-- Seven good hosts in memory of the call's own, a schema, a text. -/
def HostsDrawn (w : World) (e : Ending) (w' : World) : Prop :=
  ∃ gH c gs s t, e = .returned (.tuple #[.slice (some ⟨gH, 0, none⟩) 7 c, .int .i64 s, .int .i64 1, .string t]) ∧ 1 ≤ s ∧ s ≤ 3 ∧ t.size ≤ 200 ∧ WG w w' gH gs 18
theorem DH.wg {w W : World} {g B len cap base hi gH m : Nat} {a : Option Addr} {S : List Str} {gs : List HoR} (h : DH w W g B a len cap S base hi gH gs m) : WG w W gH gs m := ⟨h.sd.sl.bel, h.gw.wide h.blt h.hlt, h.caps, h.good⟩
set_option maxRecDepth 100000 in
set_option maxHeartbeats 1000000 in
theorem drawHosts_any (w : World) (a : Option Addr) (len cap : Nat) (hc : CodeAt w w.heap.size a len) :
    Calls Tryd.prog 21 #[.slice a len cap] w fun e w' => HostsDrawn w e w' := by
  have HC := Shut.mk hc
  clear hc
  go_enter Tryd.func21, Tryd.ntmps21
  go_wp2_with fail
  refine (l01New_any w a len cap HC.out).mono ?_
  rintro e w1 ⟨g, rfl, hg, hcur, hb⟩
  have HS : Shut (SD w w1 g w.heap.size a len cap []) := ⟨⟨(SL.start w).below hb, hcur, fun s hs => (by cases hs), hg, Nat.le_refl _⟩⟩
  clear hcur hb
  go_wp2_with fail
  refine (l15Hosts_any w w1 g w.heap.size a len cap [] HS.out).mono ?_
  rintro e w2 ⟨gH, c, gs, s, t, hi, rfl, hs1, hs3, ht, hd⟩
  have HD := Shut.mk hd.wg
  clear hd
  go_wp2_with fail
  go_returns
  exact ⟨gH, c, gs, s, t, rfl, hs1, hs3, ht, HD.out⟩
end Go.Proofs.YtoaifodmjkhiiaaDoor
/- DrHo: The model's draw of a host (written by gen/mkdrho.py). -/
namespace Go.Proofs.YtoaifodmjkhiiaaDoor
set_option maxRecDepth 100000
open Go.RowKit BigFrame
attribute [local go_sem ↓] Go.wp_at_zero Go.wp_at_succ

theorem SD.drop2 {w0 W : World} {g B len cap : Nat} {a : Option Addr} {S : List Str} {s t r : Str} (h : SD w0 W g B a len cap (s :: t :: r :: S)) : SD w0 W g B a len cap (s :: t :: S) := by
  have h1 := List.pairwise_cons.1 h.sl.apart
  have h2 := List.pairwise_cons.1 h1.2
  have sub : ∀ x, x ∈ s :: t :: S → x ∈ s :: t :: r :: S := fun x hx => by simp only [List.mem_cons] at hx ⊢; rcases hx with h | h | h <;> simp [h]
  exact ⟨⟨h.sl.bel, fun x hx => h.sl.is x (sub x hx), List.pairwise_cons.2 ⟨fun x hx => h1.1 x (by rcases List.mem_cons.1 hx with rfl | hx; exact List.mem_cons_self ..; exact List.mem_cons_of_mem _ (List.mem_cons_of_mem _ hx)), List.pairwise_cons.2 ⟨fun x hx => h2.1 x (List.mem_cons_of_mem _ hx), (List.pairwise_cons.1 h2.2).2⟩⟩⟩, h.cur, fun x hx => h.far x (sub x hx), h.hg, h.hB⟩
theorem frw_none (W : World) (lo hi : Nat) : FRw W none (unS []) lo hi := .inl ⟨rfl, rfl⟩
/-- A host that was drawn. -/
def HoDrawn (w0 : World) (g B : Nat) (a : Option Addr) (len cap : Nat) (S : List Str) (e : Ending) (W' : World) : Prop := ∃ (H : HM) (b : Option Addr) (c lo hi : Nat), e = .returned (hov H b c) ∧ HGood H.id H.us 7 ∧ H.us.length ≤ c ∧ SD w0 W' g B a len cap (rwS b (unS H.us) lo hi :: S)
set_option maxRecDepth 100000 in
set_option maxHeartbeats 4000000 in
theorem l14Host_any (w0 w : World) (g B : Nat) (a : Option Addr) (len cap : Nat) (S : List Str) (h : SD w0 w g B a len cap S) :
    Calls Tryd.prog 39 #[.pointer (some ⟨g, 0, none⟩)] w fun e W' => HoDrawn w0 g B a len cap S e W' := by
  have HS := Shut.mk (h.new #[.int .i64 0, .bool false, .slice none 0 0] 46)
  clear h
  obtain ⟨rb, hrb⟩ : ∃ q, q = w.heap.size := ⟨_, rfl⟩
  go_enter Tryd.func39, Tryd.ntmps39
  go_upto_region 1 with fail
  rw [← hrb] at HS ⊢
  refine wp_shade (fun W => SD w0 W g B a len cap (bxS rb [.int .i64 0, .bool false, .slice none 0 0] :: S)) HS.out ?_
  intro W0 hW
  have HW := Shut.mk hW
  clear HS hW hrb
  go_upto_region 2 with (go_at_call 45; refine (HW.out.pick 7 (by omega)).mono ?_; rintro e w1 ⟨y, rfl, y0, y1, hd⟩; replace HW := Shut.mk (HW.out.draw hd); clear hd)
  have y2 : y ≤ 6 := by omega
  obtain ⟨id, hid⟩ : ∃ id, id = 1 + y := ⟨_, rfl⟩
  have HG0 : Shut (HGood id [] 0) := ⟨⟨by unfold hostOk unitsOk inI; simp; omega, Nat.le_refl _⟩⟩
  have HS1 := Shut.mk ((HW.out.add (s := rwS none (unS []) w1.heap.size w1.heap.size) (Below.refl _ _) (frw_none _ _ _) (rwS.loc _ _ _ _) (Nat.le_refl _) (Nat.le_refl _)).new #[.int .i64 (1 + y), .bool true, .slice none 0 0] 46)
  obtain ⟨hb, hhb⟩ : ∃ q, q = w1.heap.size := ⟨_, rfl⟩
  rw [← hhb] at HS1
  refine wp_shade (fun W => SD w0 W g B a len cap (bxS hb [.int .i64 id, .bool true, .slice none 0 0] :: rwS none (unS []) hb hb :: bxS rb [.int .i64 0, .bool false, .slice none 0 0] :: S)) (by rw [hid]; exact HS1.out) ?_
  intro W2 hW
  rw [← hhb]
  have H2 := Shut.mk hW
  clear hW HS1 HW hhb hid y0 y1 y2
  go_upto_region 3 with fail
  go_loopw [4] (fun i9 wr => ∃ (k n : Nat) (us : List UnM) (v : Option Addr) (c lo hi : Nat), i9 = .int .i64 k ∧ k ≤ 7 ∧ Shut (n = us.length) ∧ Shut (HGood id us k) ∧ Shut (SD w0 wr g B a len cap (bxS hb [.int .i64 id, .bool true, .slice v n c] :: rwS v (unS us) lo hi :: bxS rb [.int .i64 0, .bool false, .slice none 0 0] :: S)) ∧ n ≤ c) (fun i9 _ => 7 - (intOf i9).toNat)
  case atStart => exact ⟨0, 0, [], none, 0, hb, hb, rfl, by omega, ⟨rfl⟩, HG0, H2, Nat.le_refl _⟩
  case round =>
    clear H2 HG0
    obtain ⟨k, n, us, v, c, lo, hi, rfl, hk, HN, HGQ, HW, hnc⟩ := hrel
    go_upto_region 5 with (go_at_call 45; refine (HW.out.pick 7 (by omega)).mono ?_; rintro e w3 ⟨p, rfl, pp0, pp1, hd⟩; replace HW := Shut.mk (HW.out.draw hd); clear hd; rcases Int.lt_or_le (k : Int) p with hlt | hlt)
    · have k6 : k ≤ 5 := by omega
      have HX : Shut (SD w0 w3.drew g B a len cap (bxS hb [.int .i64 id, .bool true, .slice v n c] :: rwS v (unS us) lo hi :: bxS rb [.int .i64 0, .bool false, .slice none 0 0] :: S)) := ⟨HW.out.below (Below.drew (Below.refl _ _))⟩
      have HLE : Shut (∀ x, Dr g B a len cap w3.drew x → x.cell? ⟨hb, 0, none⟩ = some (.int .i64 id) ∧ x.cell? ⟨hb, 1, none⟩ = some (.bool true) ∧ x.cell? ⟨hb, 2, none⟩ = some (.slice v n c)) := ⟨fun x hx => ⟨((HX.out.draw hx).bx 0 rfl 0 _ rfl).1, ((HX.out.draw hx).bx 0 rfl 1 _ rfl).1, ((HX.out.draw hx).bx 0 rfl 2 _ rfl).1⟩⟩
      refine wp_region_E (Dr g B a len cap) (Dr.pre g B a len cap) (fun j => decide (13 ≤ j)) (by kernel_rfl) ?_
      refine wpE_val (Dr.pre g B a len cap) (i := 0) (v := ?va0) rfl (by kernel_rfl) (by kernel_rfl) (by kernel_rfl) (by kernel_rfl) (fun _ _ _ h => h) (by rfl) ?hya0 ?resta0
      case hya0 => (intro x hx; obtain ⟨d0, d1, d2⟩ := HLE.out x hx; go_simp; try with_reducible rfl)
      try simp only [Act.put, List.setIfInBounds_toArray, List.set_cons_zero, List.set_cons_succ]
      refine wpE_val (Dr.pre g B a len cap) (i := 1) (v := ?va1) rfl (by kernel_rfl) (by kernel_rfl) (by kernel_rfl) (by kernel_rfl) (fun _ _ _ h => h) (by rfl) ?hya1 ?resta1
      case hya1 => (intro x hx; obtain ⟨d0, d1, d2⟩ := HLE.out x hx; go_simp; try with_reducible rfl)
      try simp only [Act.put, List.setIfInBounds_toArray, List.set_cons_zero, List.set_cons_succ]
      refine wpE_val (Dr.pre g B a len cap) (i := 4) (v := ?va4) rfl (by kernel_rfl) (by kernel_rfl) (by kernel_rfl) (by kernel_rfl) (fun _ _ _ h => h) (by rfl) ?hya4 ?resta4
      case hya4 => (intro x hx; obtain ⟨d0, d1, d2⟩ := HLE.out x hx; go_simp; try with_reducible rfl)
      try simp only [Act.put, List.setIfInBounds_toArray, List.set_cons_zero, List.set_cons_succ]
      refine wpE_val (Dr.pre g B a len cap) (i := 6) (v := ?va6) rfl (by kernel_rfl) (by kernel_rfl) (by kernel_rfl) (by kernel_rfl) (fun _ _ _ h => h) (by rfl) ?hya6 ?resta6
      case hya6 => (intro x hx; obtain ⟨d0, d1, d2⟩ := HLE.out x hx; go_simp; try with_reducible rfl)
      try simp only [Act.put, List.setIfInBounds_toArray, List.set_cons_zero, List.set_cons_succ]
      refine wpE_val (Dr.pre g B a len cap) (i := 7) (v := ?va7) rfl (by kernel_rfl) (by kernel_rfl) (by kernel_rfl) (by kernel_rfl) (fun _ _ _ h => h) (by rfl) ?hya7 ?resta7
      case hya7 => (intro x hx; obtain ⟨d0, d1, d2⟩ := HLE.out x hx; go_simp; try with_reducible rfl)
      try simp only [Act.put, List.setIfInBounds_toArray, List.set_cons_zero, List.set_cons_succ]
      refine wpE_onecall (f := 45) (args := #[.pointer (some ⟨g, 0, none⟩), .int .i64 3]) (i := 2) (by kernel_rfl) rfl (by rfl) (fun x hx => by go_simp) (fun x hx => ((HX.out.draw hx).pick 3 (by omega)).mono ?_)
      rintro e wy ⟨y, rfl, y0, y1, hd⟩
      refine ⟨_, rfl, hd, ?_⟩
      have y2 : y ≤ 2 := by omega
      replace HX : Shut (SD w0 wy g B a len cap (bxS hb [.int .i64 id, .bool true, .slice v n c] :: rwS v (unS us) lo hi :: bxS rb [.int .i64 0, .bool false, .slice none 0 0] :: S)) := ⟨(HX.out.draw hx).draw hd⟩
      clear hd hx HLE
      have HLE : Shut (∀ x, Dr g B a len cap wy x → x.cell? ⟨hb, 0, none⟩ = some (.int .i64 id) ∧ x.cell? ⟨hb, 1, none⟩ = some (.bool true) ∧ x.cell? ⟨hb, 2, none⟩ = some (.slice v n c)) := ⟨fun x hx => ⟨((HX.out.draw hx).bx 0 rfl 0 _ rfl).1, ((HX.out.draw hx).bx 0 rfl 1 _ rfl).1, ((HX.out.draw hx).bx 0 rfl 2 _ rfl).1⟩⟩
      clear y1
      try simp only [Act.put, List.setIfInBounds_toArray, List.set_cons_zero, List.set_cons_succ]
      have ew : IntKind.i64.wrap (1 + y) = 1 + y := IntWalk.i64_in _ ⟨by omega, by omega⟩
      refine wpE_val (Dr.pre g B a len cap) (i := 3) (v := ?vb3) rfl (by kernel_rfl) (by kernel_rfl) (by kernel_rfl) (by kernel_rfl) (fun _ _ _ h => h) (by rfl) ?hyb3 ?restb3
      case hyb3 => (intro x hx; obtain ⟨d0, d1, d2⟩ := HLE.out x hx; go_simp; try with_reducible rfl)
      try simp only [Act.put, List.setIfInBounds_toArray, List.set_cons_zero, List.set_cons_succ]
      clear ew
      refine wpE_onecall (f := 45) (args := #[.pointer (some ⟨g, 0, none⟩), .int .i64 4]) (i := 5) (by kernel_rfl) rfl (by rfl) (fun x hx => by go_simp) (fun x hx => ((HX.out.draw hx).pick 4 (by omega)).mono ?_)
      rintro e wz ⟨z, rfl, z0, z1, hd⟩
      refine ⟨_, rfl, hd, ?_⟩
      have z2 : z ≤ 3 := by omega
      replace HX : Shut (SD w0 wz g B a len cap (bxS hb [.int .i64 id, .bool true, .slice v n c] :: rwS v (unS us) lo hi :: bxS rb [.int .i64 0, .bool false, .slice none 0 0] :: S)) := ⟨(HX.out.draw hx).draw hd⟩
      clear hd hx HLE
      have HLE : Shut (∀ x, Dr g B a len cap wz x → x.cell? ⟨hb, 0, none⟩ = some (.int .i64 id) ∧ x.cell? ⟨hb, 1, none⟩ = some (.bool true) ∧ x.cell? ⟨hb, 2, none⟩ = some (.slice v n c)) := ⟨fun x hx => ⟨((HX.out.draw hx).bx 0 rfl 0 _ rfl).1, ((HX.out.draw hx).bx 0 rfl 1 _ rfl).1, ((HX.out.draw hx).bx 0 rfl 2 _ rfl).1⟩⟩
      clear z1
      try simp only [Act.put, List.setIfInBounds_toArray, List.set_cons_zero, List.set_cons_succ]
      refine wpE_onecall (f := 45) (args := #[.pointer (some ⟨g, 0, none⟩), .int .i64 5]) (i := 8) (by kernel_rfl) rfl (by rfl) (fun x hx => by go_simp) (fun x hx => ((HX.out.draw hx).pick 5 (by omega)).mono ?_)
      rintro e wm ⟨m, rfl, m0, m1, hd⟩
      refine ⟨_, rfl, hd, ?_⟩
      have m2 : m ≤ 4 := by omega
      replace HX : Shut (SD w0 wm g B a len cap (bxS hb [.int .i64 id, .bool true, .slice v n c] :: rwS v (unS us) lo hi :: bxS rb [.int .i64 0, .bool false, .slice none 0 0] :: S)) := ⟨(HX.out.draw hx).draw hd⟩
      clear hd hx HLE
      have HLE : Shut (∀ x, Dr g B a len cap wm x → x.cell? ⟨hb, 0, none⟩ = some (.int .i64 id) ∧ x.cell? ⟨hb, 1, none⟩ = some (.bool true) ∧ x.cell? ⟨hb, 2, none⟩ = some (.slice v n c)) := ⟨fun x hx => ⟨((HX.out.draw hx).bx 0 rfl 0 _ rfl).1, ((HX.out.draw hx).bx 0 rfl 1 _ rfl).1, ((HX.out.draw hx).bx 0 rfl 2 _ rfl).1⟩⟩
      clear m1
      try simp only [Act.put, List.setIfInBounds_toArray, List.set_cons_zero, List.set_cons_succ]
      obtain ⟨mm, rfl⟩ := Int.eq_ofNat_of_zero_le m0
      have mm2 : mm ≤ 4 := by omega
      refine wpE_onecall (f := 46) (args := #[.pointer (some ⟨g, 0, none⟩), .int .i64 mm]) (i := 9) (by kernel_rfl) rfl (by rfl) (fun x hx => by go_simp) (fun x hx => ((HX.out.draw hx).text mm (by omega)).mono ?_)
      rintro e wt ⟨t, rfl, ht, hd⟩
      refine ⟨_, rfl, hd, ?_⟩
      replace HX : Shut (SD w0 wt g B a len cap (bxS hb [.int .i64 id, .bool true, .slice v n c] :: rwS v (unS us) lo hi :: bxS rb [.int .i64 0, .bool false, .slice none 0 0] :: S)) := ⟨(HX.out.draw hx).draw hd⟩
      clear hd hx HLE
      have HLE : Shut (∀ x, Dr g B a len cap wt x → x.cell? ⟨hb, 0, none⟩ = some (.int .i64 id) ∧ x.cell? ⟨hb, 1, none⟩ = some (.bool true) ∧ x.cell? ⟨hb, 2, none⟩ = some (.slice v n c)) := ⟨fun x hx => ⟨((HX.out.draw hx).bx 0 rfl 0 _ rfl).1, ((HX.out.draw hx).bx 0 rfl 1 _ rfl).1, ((HX.out.draw hx).bx 0 rfl 2 _ rfl).1⟩⟩
      try simp only [Act.put, List.setIfInBounds_toArray, List.set_cons_zero, List.set_cons_succ]
      refine wpE_val (Dr.pre g B a len cap) (i := 10) (v := ?vc10) rfl (by kernel_rfl) (by kernel_rfl) (by kernel_rfl) (by kernel_rfl) (fun _ _ _ h => h) (by rfl) ?hyc10 ?restc10
      case hyc10 => (intro x hx; obtain ⟨d0, d1, d2⟩ := HLE.out x hx; go_simp; try with_reducible rfl)
      try simp only [Act.put, List.setIfInBounds_toArray, List.set_cons_zero, List.set_cons_succ]
      obtain ⟨us8, he8, hg8⟩ := put_good HGQ.out ⟨1 + y, z, t, 0⟩
      have HPU := Shut.mk (fun (x : World) (h : UnRow x v us) => specPutUnit ⟨id, true, us⟩ v c ⟨1 + y, z, t, 0⟩ x h (by have := HGQ.out.2; show us.length ≤ 1048576; omega) (HGQ.out.fit (by omega)).1 ⟨by show t.size ≤ _; omega, ⟨by show _ ≤ 1 + y; omega, by show 1 + y ≤ _; omega⟩, ⟨by show _ ≤ z; omega, by show z ≤ _; omega⟩, ⟨by show _ ≤ (0 : Int); omega, by show (0 : Int) ≤ _; omega⟩⟩ (by show t.size ≤ _; omega))
      have HG8 := Shut.mk hg8
      unfold HbPost at HPU
      generalize (putX ⟨id, true, us⟩ ⟨1 + y, z, t, 0⟩).2 = fl8 at HPU
      rw [he8] at HPU
      dsimp only [hov, unv] at HPU
      rw [← HN.out] at HPU
      clear he8 hg8
      refine wpE_onecall (f := 51) (args := #[.agg #[.int .i64 id, .bool true, .slice v n c], .agg #[.int .i64 (1 + y), .int .i64 z, .string t, .int .i64 0]]) (i := 11) (by kernel_rfl) rfl (by rfl) (fun x hx => by go_simp) (fun x hx => (HPU.out x (show FRw _ _ _ _ _ from (HX.out.draw hx).sl.at 1 rfl).crow).mono ?_)
      rintro e y8 ⟨v8, c8, rfl, hF, hc8, hb8⟩
      refine ⟨_, rfl, ⟨gb_below hb8, fun q => q.below hb8⟩, ?_⟩
      have HY := Shut.mk ((HX.out.draw hx).add (s := rwS v8 (unS us8) _ _) hb8 hF (rwS.loc _ _ _ _) (Nat.le_refl _) (Nat.le_refl _))
      generalize x.heap.size = lo8 at HY
      generalize hh8 : y8.heap.size = hi8 at HY
      clear hh8 hF hb8 hx HLE
      try simp only [Act.put, List.setIfInBounds_toArray, List.set_cons_zero, List.set_cons_succ]
      refine wpE_val (Dr.pre g B a len cap) (i := 12) (v := ?vz1215) rfl (by kernel_rfl) (by kernel_rfl) (by kernel_rfl) (by kernel_rfl) (fun _ _ _ h => h) (by rfl) ?hyz1215 ?restz1215
      case hyz1215 => (intro x hx; go_simp; try with_reducible rfl)
      try simp only [Act.put, List.setIfInBounds_toArray, List.set_cons_zero, List.set_cons_succ]
      refine wpE_pure (Dr.pre g B a len cap) (i := 13) (v := ?vz1315) rfl (by kernel_rfl) (by kernel_rfl) (by kernel_rfl) (by kernel_rfl) (fun _ _ _ h => h) (by rfl) ?hyz1315 ?restz1315
      case hyz1315 => (intro x; go_simp; try with_reducible rfl)
      try simp only [Act.put, List.setIfInBounds_toArray, List.set_cons_zero, List.set_cons_succ]
      refine wpE_pure (Dr.pre g B a len cap) (i := 14) (v := ?vz1415) rfl (by kernel_rfl) (by kernel_rfl) (by kernel_rfl) (by kernel_rfl) (fun _ _ _ h => h) (by rfl) ?hyz1415 ?restz1415
      case hyz1415 => (intro x; go_simp; try with_reducible rfl)
      try simp only [Act.put, List.setIfInBounds_toArray, List.set_cons_zero, List.set_cons_succ]
      refine wpE_tail (by kernel_rfl) ?_
      intro x5 hx5
      have HY3 := Shut.mk (HY.out.draw hx5)
      obtain ⟨q0, qf0⟩ := HY3.out.bx 1 rfl 0 _ rfl
      obtain ⟨q1, qf1⟩ := HY3.out.bx 1 rfl 1 _ rfl
      obtain ⟨q2, qf2⟩ := HY3.out.bx 1 rfl 2 _ rfl
      refine wpA_step (y := ((x5.setCell ⟨hb, 0, none⟩ (.int .i64 id)).setCell ⟨hb, 1, none⟩ (.bool true)).setCell ⟨hb, 2, none⟩ (.slice v8 us8.length c8)) (i := 15) (by kernel_rfl) rfl (by rfl) (by go_simp) ?_
      have HZ := Shut.mk ((((HY3.out.put 1 rfl 0 (.int .i64 id) (by simp)).put 1 rfl 1 (.bool true) (by simp)).put 1 rfl 2 (.slice v8 us8.length c8) (by simp)).swap.drop2)
      simp only [List.set_cons_zero, List.set_cons_succ] at HZ
      clear q0 qf0 q1 qf1 q2 qf2 hx5 HY HY3 HX
      simp only [Act.put]
      refine wpA_done (by kernel_rfl) ?_ _
      go_wp2_with fail
      go_roundw
      case rel => exact ⟨k + 1, us8.length, us8, v8, c8, lo8, hi8, by go_num, by omega, ⟨rfl⟩, HG8, HZ, hc8⟩
      case measure => simp [intOf]; omega
    · have HGQ7 : Shut (HGood id us 7) := ⟨⟨HGQ.out.1, by have := HGQ.out.2; omega⟩⟩
      clear HGQ
      have HGQ := HGQ7
      clear HGQ7 hlt pp0 pp1
      refine (HW.out.once 3 (by omega)).mono ?_
      rintro e w4 ⟨fl, rfl, hd⟩
      replace HW := Shut.mk (HW.out.draw hd)
      clear hd
      cases fl with
      | false =>
        go_upto_region 8 with fail
        go_upto_region 9 with (go_at_call 44; refine (HW.out.once 6 (by omega)).mono ?_; rintro e w6 ⟨up, rfl, hd⟩; replace HW := Shut.mk (HW.out.draw hd); clear hd; obtain ⟨o1, o1z⟩ := HW.out.bx 0 rfl 1 _ rfl)
        have HP := Shut.mk (HW.out.put 0 rfl 1 (.bool (!up)) (by simp))
        simp only [List.set_cons_zero, List.set_cons_succ] at HP
        generalize (!up) = up9 at HP ⊢
        refine wp_shade (fun W' => SD w0 W' g B a len cap (bxS hb [.int .i64 id, .bool up9, .slice v n c] :: rwS v (unS us) lo hi :: bxS rb [.int .i64 0, .bool false, .slice none 0 0] :: S)) HP.out ?_
        intro W7 h7
        have H7 := Shut.mk h7
        clear h7 HP o1 o1z HW
        have z0 := (H7.out.bx 0 rfl 0 _ rfl).1
        have z1 := (H7.out.bx 0 rfl 1 _ rfl).1
        have z2 := (H7.out.bx 0 rfl 2 _ rfl).1
        obtain ⟨r0, r0z⟩ := H7.out.bx 2 rfl 0 _ rfl
        obtain ⟨r1, r1z⟩ := H7.out.bx 2 rfl 1 _ rfl
        obtain ⟨r2, r2z⟩ := H7.out.bx 2 rfl 2 _ rfl
        go_wp2_with fail
        have HE := Shut.mk (((((H7.out.put 2 rfl 0 (.int .i64 id) (by simp)).put 2 rfl 1 (.bool up9) (by simp)).put 2 rfl 2 (.slice v n c) (by simp)).tail).drop1)
        refine bodyPost_ret (v := .agg #[.int .i64 id, .bool up9, .slice v n c]) (by simp [results, Tryd.results39, go_sem, r0, r1, r2]) rfl ?_
        exact ⟨⟨id, up9, us⟩, v, c, lo, hi, by rw [HN.out], HGQ.out, by have := HN.out; show us.length ≤ c; omega, HE.out⟩
      | true =>
        go_upto_region 7 with fail
        have HX : Shut (SD w0 w4.drew g B a len cap (bxS hb [.int .i64 id, .bool true, .slice v n c] :: rwS v (unS us) lo hi :: bxS rb [.int .i64 0, .bool false, .slice none 0 0] :: S)) := ⟨HW.out.below (Below.drew (Below.refl _ _))⟩
        have HLE : Shut (∀ x, Dr g B a len cap w4.drew x → x.cell? ⟨hb, 0, none⟩ = some (.int .i64 id) ∧ x.cell? ⟨hb, 1, none⟩ = some (.bool true) ∧ x.cell? ⟨hb, 2, none⟩ = some (.slice v n c)) := ⟨fun x hx => ⟨((HX.out.draw hx).bx 0 rfl 0 _ rfl).1, ((HX.out.draw hx).bx 0 rfl 1 _ rfl).1, ((HX.out.draw hx).bx 0 rfl 2 _ rfl).1⟩⟩
        refine wp_region_E (Dr g B a len cap) (Dr.pre g B a len cap) (fun j => decide (10 ≤ j)) (by kernel_rfl) ?_
        refine wpE_val (Dr.pre g B a len cap) (i := 0) (v := ?vs0) rfl (by kernel_rfl) (by kernel_rfl) (by kernel_rfl) (by kernel_rfl) (fun _ _ _ h => h) (by rfl) ?hys0 ?rests0
        case hys0 => (intro x hx; obtain ⟨d0, d1, d2⟩ := HLE.out x hx; go_simp; try with_reducible rfl)
        try simp only [Act.put, List.setIfInBounds_toArray, List.set_cons_zero, List.set_cons_succ]
        refine wpE_val (Dr.pre g B a len cap) (i := 1) (v := ?vs1) rfl (by kernel_rfl) (by kernel_rfl) (by kernel_rfl) (by kernel_rfl) (fun _ _ _ h => h) (by rfl) ?hys1 ?rests1
        case hys1 => (intro x hx; obtain ⟨d0, d1, d2⟩ := HLE.out x hx; go_simp; try with_reducible rfl)
        try simp only [Act.put, List.setIfInBounds_toArray, List.set_cons_zero, List.set_cons_succ]
        refine wpE_val (Dr.pre g B a len cap) (i := 4) (v := ?vs4) rfl (by kernel_rfl) (by kernel_rfl) (by kernel_rfl) (by kernel_rfl) (fun _ _ _ h => h) (by rfl) ?hys4 ?rests4
        case hys4 => (intro x hx; obtain ⟨d0, d1, d2⟩ := HLE.out x hx; go_simp; try with_reducible rfl)
        try simp only [Act.put, List.setIfInBounds_toArray, List.set_cons_zero, List.set_cons_succ]
        refine wpE_val (Dr.pre g B a len cap) (i := 6) (v := ?vs6) rfl (by kernel_rfl) (by kernel_rfl) (by kernel_rfl) (by kernel_rfl) (fun _ _ _ h => h) (by rfl) ?hys6 ?rests6
        case hys6 => (intro x hx; obtain ⟨d0, d1, d2⟩ := HLE.out x hx; go_simp; try with_reducible rfl)
        try simp only [Act.put, List.setIfInBounds_toArray, List.set_cons_zero, List.set_cons_succ]
        refine wpE_onecall (f := 45) (args := #[.pointer (some ⟨g, 0, none⟩), .int .i64 3]) (i := 2) (by kernel_rfl) rfl (by rfl) (fun x hx => by go_simp) (fun x hx => ((HX.out.draw hx).pick 3 (by omega)).mono ?_)
        rintro e wy ⟨y, rfl, y0, y1, hd⟩
        refine ⟨_, rfl, hd, ?_⟩
        have y2 : y ≤ 2 := by omega
        replace HX : Shut (SD w0 wy g B a len cap (bxS hb [.int .i64 id, .bool true, .slice v n c] :: rwS v (unS us) lo hi :: bxS rb [.int .i64 0, .bool false, .slice none 0 0] :: S)) := ⟨(HX.out.draw hx).draw hd⟩
        clear hd hx HLE
        have HLE : Shut (∀ x, Dr g B a len cap wy x → x.cell? ⟨hb, 0, none⟩ = some (.int .i64 id) ∧ x.cell? ⟨hb, 1, none⟩ = some (.bool true) ∧ x.cell? ⟨hb, 2, none⟩ = some (.slice v n c)) := ⟨fun x hx => ⟨((HX.out.draw hx).bx 0 rfl 0 _ rfl).1, ((HX.out.draw hx).bx 0 rfl 1 _ rfl).1, ((HX.out.draw hx).bx 0 rfl 2 _ rfl).1⟩⟩
        clear y1
        try simp only [Act.put, List.setIfInBounds_toArray, List.set_cons_zero, List.set_cons_succ]
        have ew : IntKind.i64.wrap (1 + y) = 1 + y := IntWalk.i64_in _ ⟨by omega, by omega⟩
        refine wpE_val (Dr.pre g B a len cap) (i := 3) (v := ?vt3) rfl (by kernel_rfl) (by kernel_rfl) (by kernel_rfl) (by kernel_rfl) (fun _ _ _ h => h) (by rfl) ?hyt3 ?restt3
        case hyt3 => (intro x hx; obtain ⟨d0, d1, d2⟩ := HLE.out x hx; go_simp; try with_reducible rfl)
        try simp only [Act.put, List.setIfInBounds_toArray, List.set_cons_zero, List.set_cons_succ]
        clear ew
        refine wpE_onecall (f := 45) (args := #[.pointer (some ⟨g, 0, none⟩), .int .i64 4]) (i := 5) (by kernel_rfl) rfl (by rfl) (fun x hx => by go_simp) (fun x hx => ((HX.out.draw hx).pick 4 (by omega)).mono ?_)
        rintro e wz ⟨z, rfl, z0, z1, hd⟩
        refine ⟨_, rfl, hd, ?_⟩
        have z2 : z ≤ 3 := by omega
        replace HX : Shut (SD w0 wz g B a len cap (bxS hb [.int .i64 id, .bool true, .slice v n c] :: rwS v (unS us) lo hi :: bxS rb [.int .i64 0, .bool false, .slice none 0 0] :: S)) := ⟨(HX.out.draw hx).draw hd⟩
        clear hd hx HLE
        have HLE : Shut (∀ x, Dr g B a len cap wz x → x.cell? ⟨hb, 0, none⟩ = some (.int .i64 id) ∧ x.cell? ⟨hb, 1, none⟩ = some (.bool true) ∧ x.cell? ⟨hb, 2, none⟩ = some (.slice v n c)) := ⟨fun x hx => ⟨((HX.out.draw hx).bx 0 rfl 0 _ rfl).1, ((HX.out.draw hx).bx 0 rfl 1 _ rfl).1, ((HX.out.draw hx).bx 0 rfl 2 _ rfl).1⟩⟩
        clear z1
        try simp only [Act.put, List.setIfInBounds_toArray, List.set_cons_zero, List.set_cons_succ]
        refine wpE_onecall (f := 45) (args := #[.pointer (some ⟨g, 0, none⟩), .int .i64 9]) (i := 7) (by kernel_rfl) rfl (by rfl) (fun x hx => by go_simp) (fun x hx => ((HX.out.draw hx).pick 9 (by omega)).mono ?_)
        rintro e wq ⟨q, rfl, q0, q1, hd⟩
        refine ⟨_, rfl, hd, ?_⟩
        have q2 : q ≤ 8 := by omega
        replace HX : Shut (SD w0 wq g B a len cap (bxS hb [.int .i64 id, .bool true, .slice v n c] :: rwS v (unS us) lo hi :: bxS rb [.int .i64 0, .bool false, .slice none 0 0] :: S)) := ⟨(HX.out.draw hx).draw hd⟩
        clear hd hx HLE
        have HLE : Shut (∀ x, Dr g B a len cap wq x → x.cell? ⟨hb, 0, none⟩ = some (.int .i64 id) ∧ x.cell? ⟨hb, 1, none⟩ = some (.bool true) ∧ x.cell? ⟨hb, 2, none⟩ = some (.slice v n c)) := ⟨fun x hx => ⟨((HX.out.draw hx).bx 0 rfl 0 _ rfl).1, ((HX.out.draw hx).bx 0 rfl 1 _ rfl).1, ((HX.out.draw hx).bx 0 rfl 2 _ rfl).1⟩⟩
        clear q1
        try simp only [Act.put, List.setIfInBounds_toArray, List.set_cons_zero, List.set_cons_succ]
        obtain ⟨us8, he8, hg8⟩ := spoil_good HGQ.out (1 + y) z q
        have HPU := Shut.mk (fun (x : World) (h : UnRow x v us) => specSpoil ⟨id, true, us⟩ v c (1 + y) z q x h (by have := HGQ.out.2; show us.length ≤ 1048576; omega) (by have h1 := (HGQ.out.fit (by omega)).2.1; have h2 := HGQ.out.2; show unSum us ≤ 1048576; omega) (by omega))
        have HG8 := Shut.mk hg8
        unfold HbPost at HPU
        generalize (spoilX ⟨id, true, us⟩ (1 + y) z q).2 = fl8 at HPU
        rw [he8] at HPU
        dsimp only [hov] at HPU
        rw [← HN.out] at HPU
        clear he8 hg8
        refine wpE_onecall (f := 49) (args := #[.agg #[.int .i64 id, .bool true, .slice v n c], .int .i64 (1 + y), .int .i64 z, .int .i64 q]) (i := 8) (by kernel_rfl) rfl (by rfl) (fun x hx => by go_simp) (fun x hx => (HPU.out x (show FRw _ _ _ _ _ from (HX.out.draw hx).sl.at 1 rfl).crow).mono ?_)
        rintro e y8 ⟨v8, c8, rfl, hF, hc8, hb8⟩
        refine ⟨_, rfl, ⟨gb_below hb8, fun q => q.below hb8⟩, ?_⟩
        have HY := Shut.mk ((HX.out.draw hx).add (s := rwS v8 (unS us8) _ _) hb8 hF (rwS.loc _ _ _ _) (Nat.le_refl _) (Nat.le_refl _))
        generalize x.heap.size = lo8 at HY
        generalize hh8 : y8.heap.size = hi8 at HY
        clear hh8 hF hb8 hx HLE
        try simp only [Act.put, List.setIfInBounds_toArray, List.set_cons_zero, List.set_cons_succ]
        refine wpE_val (Dr.pre g B a len cap) (i := 9) (v := ?vz912) rfl (by kernel_rfl) (by kernel_rfl) (by kernel_rfl) (by kernel_rfl) (fun _ _ _ h => h) (by rfl) ?hyz912 ?restz912
        case hyz912 => (intro x hx; go_simp; try with_reducible rfl)
        try simp only [Act.put, List.setIfInBounds_toArray, List.set_cons_zero, List.set_cons_succ]
        refine wpE_pure (Dr.pre g B a len cap) (i := 10) (v := ?vz1012) rfl (by kernel_rfl) (by kernel_rfl) (by kernel_rfl) (by kernel_rfl) (fun _ _ _ h => h) (by rfl) ?hyz1012 ?restz1012
        case hyz1012 => (intro x; go_simp; try with_reducible rfl)
        try simp only [Act.put, List.setIfInBounds_toArray, List.set_cons_zero, List.set_cons_succ]
        refine wpE_pure (Dr.pre g B a len cap) (i := 11) (v := ?vz1112) rfl (by kernel_rfl) (by kernel_rfl) (by kernel_rfl) (by kernel_rfl) (fun _ _ _ h => h) (by rfl) ?hyz1112 ?restz1112
        case hyz1112 => (intro x; go_simp; try with_reducible rfl)
        try simp only [Act.put, List.setIfInBounds_toArray, List.set_cons_zero, List.set_cons_succ]
        refine wpE_tail (by kernel_rfl) ?_
        intro x5 hx5
        have HY3 := Shut.mk (HY.out.draw hx5)
        obtain ⟨q0, qf0⟩ := HY3.out.bx 1 rfl 0 _ rfl
        obtain ⟨q1, qf1⟩ := HY3.out.bx 1 rfl 1 _ rfl
        obtain ⟨q2, qf2⟩ := HY3.out.bx 1 rfl 2 _ rfl
        refine wpA_step (y := ((x5.setCell ⟨hb, 0, none⟩ (.int .i64 id)).setCell ⟨hb, 1, none⟩ (.bool true)).setCell ⟨hb, 2, none⟩ (.slice v8 us8.length c8)) (i := 12) (by kernel_rfl) rfl (by rfl) (by go_simp) ?_
        have HZ := Shut.mk ((((HY3.out.put 1 rfl 0 (.int .i64 id) (by simp)).put 1 rfl 1 (.bool true) (by simp)).put 1 rfl 2 (.slice v8 us8.length c8) (by simp)).swap.drop2)
        simp only [List.set_cons_zero, List.set_cons_succ] at HZ
        clear q0 qf0 q1 qf1 q2 qf2 hx5 HY HY3 HX
        simp only [Act.put]
        refine wpA_done (by kernel_rfl) ?_ _
        go_upto_region 8 with fail
        refine wp_shade (fun W => SD w0 W g B a len cap (bxS hb [.int .i64 id, .bool true, .slice v8 us8.length c8] :: rwS v8 (unS us8) lo8 hi8 :: bxS rb [.int .i64 0, .bool false, .slice none 0 0] :: S)) HZ.out ?_
        intro W9 hW
        have HW9 := Shut.mk hW
        obtain ⟨n8, hn8⟩ : ∃ n8, n8 = us8.length := ⟨_, rfl⟩
        rw [← hn8] at HW9 hc8
        clear hW HZ HW HN HGQ
        have HN := Shut.mk hn8
        have HGQ := HG8
        have HW := HW9
        have hnc := hc8
        rw [← hn8]
        clear hn8 HG8 HW9 hc8
        go_upto_region 9 with (go_at_call 44; refine (HW.out.once 6 (by omega)).mono ?_; rintro e w6 ⟨up, rfl, hd⟩; replace HW := Shut.mk (HW.out.draw hd); clear hd; obtain ⟨o1, o1z⟩ := HW.out.bx 0 rfl 1 _ rfl)
        have HP := Shut.mk (HW.out.put 0 rfl 1 (.bool (!up)) (by simp))
        simp only [List.set_cons_zero, List.set_cons_succ] at HP
        generalize (!up) = up9 at HP ⊢
        refine wp_shade (fun W' => SD w0 W' g B a len cap (bxS hb [.int .i64 id, .bool up9, .slice v8 n8 c8] :: rwS v8 (unS us8) lo8 hi8 :: bxS rb [.int .i64 0, .bool false, .slice none 0 0] :: S)) HP.out ?_
        intro W7 h7
        have H7 := Shut.mk h7
        clear h7 HP o1 o1z HW
        have z0 := (H7.out.bx 0 rfl 0 _ rfl).1
        have z1 := (H7.out.bx 0 rfl 1 _ rfl).1
        have z2 := (H7.out.bx 0 rfl 2 _ rfl).1
        obtain ⟨r0, r0z⟩ := H7.out.bx 2 rfl 0 _ rfl
        obtain ⟨r1, r1z⟩ := H7.out.bx 2 rfl 1 _ rfl
        obtain ⟨r2, r2z⟩ := H7.out.bx 2 rfl 2 _ rfl
        go_wp2_with fail
        have HE := Shut.mk (((((H7.out.put 2 rfl 0 (.int .i64 id) (by simp)).put 2 rfl 1 (.bool up9) (by simp)).put 2 rfl 2 (.slice v8 n8 c8) (by simp)).tail).drop1)
        refine bodyPost_ret (v := .agg #[.int .i64 id, .bool up9, .slice v8 n8 c8]) (by simp [results, Tryd.results39, go_sem, r0, r1, r2]) rfl ?_
        exact ⟨⟨id, up9, us8⟩, v8, c8, lo8, hi8, by rw [HN.out], HGQ.out, by have := HN.out; show us8.length ≤ c8; omega, HE.out⟩
end Go.Proofs.YtoaifodmjkhiiaaDoor
/- DrHp: The draw of a host from a code; the places of a law, as a stretch. -/
namespace Go.Proofs.YtoaifodmjkhiiaaDoor
set_option maxRecDepth 100000
open Go.RowKit BigFrame
attribute [local go_sem ↓] Go.wp_at_zero Go.wp_at_succ

theorem Cur.low {w W : World} {g B len cap : Nat} {a : Option Addr} (h : Cur W g B a len cap) (hc : CodeAt w w.heap.size a len) (hb : Below w.heap.size w W) (hg : w.heap.size ≤ g) : Cur W g w.heap.size a len cap :=
  ⟨hg, h.2.1, hc.below hb (Nat.le_refl _), h.2.2.2⟩
def HostDrawn (w : World) (e : Ending) (w' : World) : Prop := ∃ (id : Int) (us : List UnM) (b : Option Addr) (c : Nat), e = .returned (.agg #[.int .i64 id, .bool true, .slice b us.length c]) ∧ HGood id us 7 ∧ us.length ≤ c ∧ FRw w' b (unS us) w.heap.size w'.heap.size ∧ Below w.heap.size w w'
set_option maxRecDepth 100000 in
set_option maxHeartbeats 1000000 in
theorem drawHost_any (w : World) (a : Option Addr) (len cap : Nat) (hc : CodeAt w w.heap.size a len) :
    Calls Tryd.prog 23 #[.slice a len cap] w fun e w' => HostDrawn w e w' := by
  have HC := Shut.mk hc
  have HS := Shut.mk ((SL.start w).new #[.int .i64 0, .bool false, .slice none 0 0] 46)
  clear hc
  go_enter Tryd.func23, Tryd.ntmps23
  go_upto_region 1 with fail
  refine wp_shade (fun W => SL w W [bxS w.heap.size [.int .i64 0, .bool false, .slice none 0 0]]) HS.out ?_
  intro W0 hW
  have H := Shut.mk hW
  clear HS hW
  go_upto_region 2 with (first
    | (go_at_call 36; refine (l01New_any _ a len cap ⟨HC.out.1, fun hp => by obtain ⟨b, off, e, lb, hx⟩ := HC.out.2 hp; exact ⟨b, off, e, Nat.lt_of_lt_of_le lb H.out.bel.size, fun j hj => by obtain ⟨x, h1, h2⟩ := hx j hj; exact ⟨x, (H.out.bel.cell (p := ⟨b, off + j, none⟩) lb).trans h1, h2⟩⟩⟩).mono ?_; rintro e w1 ⟨g, rfl, hg, hcur, hb1⟩; have HSD : Shut (SD w w1 g w.heap.size a len cap [bxS w.heap.size [.int .i64 0, .bool false, .slice none 0 0]]) := ⟨⟨H.out.below hb1, hcur.low HC.out (H.out.below hb1).bel (Nat.le_trans H.out.bel.size hg), fun s hs => by rw [List.mem_singleton] at hs; subst hs; exact .inl (Nat.le_trans (H.out.is _ (List.mem_singleton.2 rfl)).2.2.2 hg), Nat.le_trans H.out.bel.size hg, Nat.le_refl _⟩⟩; clear hcur hb1 hg)
    | (go_at_call 39; refine (l14Host_any w _ g _ a len cap _ HSD.out).mono ?_; rintro e w2 ⟨⟨id, up, us⟩, b, c, lo, hi, rfl, hgood, hlc, hsd⟩; have HG := Shut.mk hgood; have HL := Shut.mk hlc; have H2 := Shut.mk hsd.sl; clear hgood hlc hsd HSD H))
  dsimp only [hov] at *
  obtain ⟨n, hn⟩ : ∃ n, n = us.length := ⟨_, rfl⟩
  have HN := Shut.mk hn
  have HS3 := Shut.mk (H2.out.new #[.int .i64 id, .bool up, .slice b us.length c] 46)
  rw [← hn] at HS3 ⊢
  obtain ⟨hb, hhb⟩ : ∃ q, q = w2.heap.size := ⟨_, rfl⟩
  rw [← hhb] at HS3
  refine wp_shade (fun W => SL w W [bxS hb [.int .i64 id, .bool up, .slice b n c], rwS b (unS us) lo hi, bxS w.heap.size [.int .i64 0, .bool false, .slice none 0 0]]) HS3.out ?_
  intro W3 hW
  rw [← hhb]
  have H3 := Shut.mk hW
  clear hW HS3 H2 hhb hn
  obtain ⟨o1, o1z⟩ := H3.out.bx 0 rfl 1 _ rfl
  have HP := Shut.mk (H3.out.put 0 rfl 1 (.bool true) (by simp))
  simp only [List.set_cons_zero, List.set_cons_succ] at HP
  go_upto_region 3 with fail
  refine wp_shade (fun W => SL w W [bxS hb [.int .i64 id, .bool true, .slice b n c], rwS b (unS us) lo hi, bxS w.heap.size [.int .i64 0, .bool false, .slice none 0 0]]) HP.out ?_
  intro W4 hW
  clear H3 HP o1 o1z
  have H := Shut.mk hW
  clear hW
  have z0 := (H.out.bx 0 rfl 0 _ rfl).1
  have z1 := (H.out.bx 0 rfl 1 _ rfl).1
  have z2 := (H.out.bx 0 rfl 2 _ rfl).1
  obtain ⟨r0, r0z⟩ := H.out.bx 2 rfl 0 _ rfl
  obtain ⟨r1, r1z⟩ := H.out.bx 2 rfl 1 _ rfl
  obtain ⟨r2, r2z⟩ := H.out.bx 2 rfl 2 _ rfl
  go_wp2_with fail
  have HE := Shut.mk ((((H.out.put 2 rfl 0 (.int .i64 id) (by simp)).put 2 rfl 1 (.bool true) (by simp)).put 2 rfl 2 (.slice b n c) (by simp)))
  have hs := HE.out.is _ (List.mem_of_getElem? (show _[1]? = some (rwS b (unS us) lo hi) from rfl))
  refine bodyPost_ret (v := .agg #[.int .i64 id, .bool true, .slice b n c]) (by simp [results, Tryd.results23, go_sem, r0, r1, r2]) rfl ?_
  exact ⟨id, us, b, c, by rw [HN.out], HG.out, HL.out, frw_wide (show FRw _ _ (unS us) lo hi from hs.1) hs.2.2.1 hs.2.2.2, HE.out.bel⟩
/-- The places that were drawn. -/
abbrev plS (gp : Nat) (l : List Int) : Str := ⟨fun W => gp < W.heap.size ∧ ∀ j, j < 12 → W.cell? ⟨gp, j, none⟩ = some (.int .i64 (l.getD j 0)), gp, gp + 1⟩
theorem plS.loc (gp : Nat) (l : List Int) : (plS gp l).Loc := fun W W' lo hi h t hd => by
  have hb : W'.heap[gp]? = W.heap[gp]? := t.block gp h.1 (by rcases hd with e | e <;> (dsimp only [plS] at e; omega))
  exact ⟨Nat.lt_of_lt_of_le h.1 t.size, fun j hj => (World.cell?_of_block (a := ⟨gp, j, none⟩) hb).trans (h.2 j hj)⟩
end Go.Proofs.YtoaifodmjkhiiaaDoor
/- UoM: The units of a group, plain: of each index the first host's that has it. -/
namespace Go.Proofs.YtoaifodmjkhiiaaDoor
set_option maxRecDepth 100000
open Go.RowKit

def firstU (hs : List HM) (g i : Int) : ByteArray × Bool :=
  match hs with
  | [] => (⟨#[]⟩, false)
  | h :: hs => if (getX h g i).2 = true then getX h g i else firstU hs g i
theorem getX_none {h : HM} {g i : Int} (e : (getX h g i).2 = false) : getX h g i = (⟨#[]⟩, false) := by
  unfold getX at e ⊢
  split
  · rename_i c; rw [if_pos c] at e; cases e
  · rfl
theorem firstU_none {hs : List HM} {g i : Int} (e : (firstU hs g i).2 = false) : firstU hs g i = (⟨#[]⟩, false) := by
  induction hs with
  | nil => rfl
  | cons h hs ih =>
    unfold firstU at e ⊢
    split
    · rename_i c; rw [if_pos c, c] at e; cases e
    · rename_i c; rw [if_neg c] at e; exact ih e
theorem firstU_append (hs ks : List HM) (g i : Int) : firstU (hs ++ ks) g i = if (firstU hs g i).2 = true then firstU hs g i else firstU ks g i := by
  induction hs with
  | nil => simp [firstU]
  | cons h hs ih =>
    rw [List.cons_append, firstU, firstU]
    split
    · rename_i c; first | rfl | rw [if_pos c]
    · exact ih
theorem firstU_one (h : HM) (g i : Int) : firstU [h] g i = getX h g i := by
  unfold firstU
  split
  · rfl
  · rename_i c; rw [getX_none (by simpa using c)]; rfl
/-- One host more is asked. -/
theorem firstU_take {hs : List HM} {k : Nat} (hk : k < hs.length) (g i : Int) (e : (firstU (hs.take k) g i).2 = false) : firstU (hs.take (k + 1)) g i = getX hs[k] g i := by
  rw [List.take_succ_eq_append_getElem hk, firstU_append, e, if_neg (by simp), firstU_one]
theorem firstU_stop {hs : List HM} {k : Nat} (g i : Int) (e : (firstU (hs.take k) g i).2 = true) : firstU hs g i = firstU (hs.take k) g i := by
  conv => lhs; rw [← List.take_append_drop k hs]
  rw [firstU_append, if_pos e]
theorem firstU_mem {hs : List HM} {g i : Int} (e : (firstU hs g i).2 = true) : ∃ h ∈ hs, firstU hs g i = getX h g i ∧ (getX h g i).2 = true := by
  induction hs with
  | nil => simp [firstU] at e
  | cons h hs ih =>
    unfold firstU at e ⊢
    split
    · rename_i c; exact ⟨h, List.mem_cons_self .., rfl, c⟩
    · rename_i c
      rw [if_neg c] at e
      obtain ⟨k, hk, e1, e2⟩ := ih e
      exact ⟨k, List.mem_cons_of_mem _ hk, e1, e2⟩
/-- So many units and sums. -/
def schN (s : Int) : Nat := schK s + schM s
theorem schN_le (s : Int) : schN s ≤ 6 := by unfold schN schK schM; split <;> (try split) <;> (try split) <;> omega
def unitsL (hs : List HM) (g : Int) (n : Nat) : List (ByteArray × Bool) := (List.range n).map fun (i : Nat) => firstU hs g (i : Int)
theorem unitsL_len (hs : List HM) (g : Int) (n : Nat) : (unitsL hs g n).length = n := by simp [unitsL]
theorem unitsL_step (hs : List HM) (g : Int) (n : Nat) : unitsL hs g (n + 1) = unitsL hs g n ++ [firstU hs g (n : Int)] := by simp [unitsL, List.range_succ]
def unitsT (hs : List HM) (s g : Int) : List ByteArray := (unitsL hs g (schN s)).map Prod.fst
def unitsB (hs : List HM) (s g : Int) : List Bool := (unitsL hs g (schN s)).map Prod.snd
theorem unitsT_len (hs : List HM) (s g : Int) : (unitsT hs s g).length = schN s := by simp [unitsT, unitsL_len]
theorem unitsB_len (hs : List HM) (s g : Int) : (unitsB hs s g).length = schN s := by simp [unitsB, unitsL_len]
def leftX (hs : List HM) (s g : Int) : Nat := (unitsB hs s g).count true
theorem count_step (L : List Bool) (k : Nat) (hk : k < L.length) : (L.take (k + 1)).count true = (L.take k).count true + if L.getD k false = true then 1 else 0 := by
  rw [List.take_succ_eq_append_getElem hk, List.count_append]
  congr 1
  have e : L.getD k false = L[k] := by simp [List.getD, hk]
  rw [e]
  cases L[k] <;> rfl
theorem firstU_size {hs : List HM} {g i : Int} {B : Nat} (h : ∀ x ∈ hs, unSum x.us ≤ B) : (firstU hs g i).1.size ≤ B := by
  cases e : (firstU hs g i).2 with
  | false => rw [firstU_none e]; exact Nat.zero_le _
  | true =>
    obtain ⟨x, hx, e1, e2⟩ := firstU_mem e
    rw [e1]
    have q := h x hx
    unfold getX at e2 ⊢
    split
    · rename_i c
      simp only [Bool.and_eq_true, decide_eq_true_eq] at c
      have l := c.1.2
      refine Nat.le_trans ?_ q
      exact unSum_mem (by simp [List.getD, l])
    · rename_i c; rw [if_neg c] at e2; cases e2
end Go.Proofs.YtoaifodmjkhiiaaDoor
/- BoolA: Rows of flags: their copies, their comparison, marks, and as values. -/
namespace Go.Proofs.YtoaifodmjkhiiaaDoor
set_option maxRecDepth 100000
open Go.RowKit
attribute [local go_sem ↓] Go.wp_at_zero Go.wp_at_succ

def bcs (xs : List Bool) : List Value := xs.map Value.bool
theorem bcs_len (xs : List Bool) : (bcs xs).length = xs.length := by simp [bcs]
theorem bcs_get (xs : List Bool) (j : Nat) (h : j < xs.length) : (bcs xs)[j]? = some (.bool (xs.getD j false)) := by simp [bcs, List.getD, h]
theorem bcs_set (xs : List Bool) (j : Nat) (x : Bool) : (bcs xs).set j (.bool x) = bcs (xs.set j x) := by simp [bcs, List.map_set]
theorem crow_bool {w : World} {a : Option Addr} {xs : List Bool} (h : CRow w a (bcs xs)) (hp : 0 < xs.length) : ∃ b off, a = some ⟨b, off, none⟩ ∧ b < w.heap.size ∧ ∀ j, j < xs.length → w.cell? ⟨b, off + j, none⟩ = some (.bool (xs.getD j false)) := by
  obtain ⟨b, off, e, hb, hc⟩ := h (by rw [bcs_len]; exact hp)
  exact ⟨b, off, e, hb, fun j hj => hc j _ (bcs_get xs j hj)⟩
theorem infoBoolG : (Tryd.prog.info? 4).map (fun i => (i.zero, i.size, i.bytes)) = some (some (.bool false), 1, 1) := by kernel_rfl
def ToBools (xs : List Bool) (w : World) (e : Ending) (w' : World) : Prop := ∃ g, e = .returned (.slice (some ⟨g, 0, none⟩) xs.length xs.length) ∧ w.heap.size ≤ g ∧ WCells w' g (bcs xs) ∧ Below w.heap.size w w'
set_option maxHeartbeats 1000000 in
theorem eqBoolS_same (a b : Option Addr) (xs : List Bool) (ca cb : Nat) (w : World) (ha : CRow w a (bcs xs)) (hb : CRow w b (bcs xs)) (hl : xs.length ≤ 1048576) :
    Calls Tryd.prog 11 #[.slice a xs.length ca, .slice b xs.length cb] w fun e w' => e = .returned (.bool true) ∧ Below w.heap.size w w' := by
  have HA : Hid (CRow w a (bcs xs)) := ha
  have HB : Hid (CRow w b (bcs xs)) := hb
  clear ha hb
  go_enter Tryd.func11, Tryd.ntmps11
  go_wp2_with fail
  go_loopw [5] (fun i wr => ∃ (k : Nat), i = .int .i64 k ∧ k ≤ xs.length ∧ Below w.heap.size w wr) (fun i _ => xs.length - (intOf i).toNat)
  case atStart => exact ⟨0, rfl, Nat.zero_le _, Below.refl _ _⟩
  case round =>
    obtain ⟨k, rfl, hk, hbl⟩ := hrel
    by_cases hlt : k < xs.length
    · obtain ⟨b1, o1, rfl, l1, hc1⟩ := crow_bool (HA.out.stays hbl) (by omega)
      obtain ⟨b2, o2, rfl, l2, hc2⟩ := crow_bool (HB.out.stays hbl) (by omega)
      have d0 := hc1 k hlt
      have e0 := hc2 k hlt
      have k0 : (0 : Int) ≤ (k : Int) := by omega
      have k1 : (k : Int) < (xs.length : Int) := by omega
      have hbn : ∀ q, Below w.heap.size w (wr.drewN q) := fun q => hbl.trans ⟨rfl, rfl, rfl, Nat.le_refl _, fun _ _ => rfl⟩
      generalize xs.getD k false = x at d0 e0
      clear hc1 hc2 hbl
      go_wp2_with fail
      go_quiet (fail)
      go_wp2_with fail
      go_roundw
      case rel => exact ⟨k + 1, by go_num, by omega, hbn _⟩
      case measure => simp [intOf]; omega
    · have e : k = xs.length := by omega
      subst e
      go_wp2_with fail
      go_ret
      exact ⟨rfl, hbl⟩
theorem markBoolS_none (a : Option Addr) (k ca : Nat) (w : World) :
    Calls Tryd.prog 15 #[.slice a 0 ca, .int .i64 k] w fun e w' => e = .returned (.int .i64 k) ∧ w' = w := by
  go_enter Tryd.func15, Tryd.ntmps15
  go_wp2_with fail
  go_rounds 1
  go_ret
  exact ⟨rfl, rfl⟩
def MarkBools (g k n : Nat) (w : World) (e : Ending) (w' : World) : Prop := e = .returned (.int .i64 (k + n : Nat)) ∧ w.grownBy w' (some g)
set_option maxHeartbeats 1000000 in
theorem markBoolS_any (g : Nat) (xs : List Bool) (k ca : Nat) (w : World) (ha : WCells w g (bcs xs)) (hn : k + xs.length ≤ 1000000000) :
    Calls Tryd.prog 15 #[.slice (some ⟨g, 0, none⟩) xs.length ca, .int .i64 k] w fun e w' => MarkBools g k xs.length w e w' := by
  obtain ⟨n, hnx⟩ : ∃ n, n = xs.length := ⟨_, rfl⟩
  have HN : Hid (n = xs.length) := hnx
  rw [← hnx]
  rw [← hnx] at hn
  clear hnx
  have HA : Shut (WCells w g (bcs xs)) := ⟨ha⟩
  clear ha
  go_enter Tryd.func15, Tryd.ntmps15
  go_wp2_with fail
  go_loopw [1, 5] (fun c i wr => ∃ (j : Nat) (ys : List Bool), i = .int .i64 j ∧ c = .int .i64 (k + j : Nat) ∧ j ≤ n ∧ ys.length = n ∧ Shut (WCells wr g (bcs ys)) ∧ Shut (w.grownBy wr (some g))) (fun _ i _ => n - (intOf i).toNat)
  case atStart => exact ⟨0, xs, rfl, rfl, Nat.zero_le _, HN.out.symm, HA, ⟨⟨rfl, rfl, rfl, Nat.le_refl _, fun _ _ _ => rfl⟩⟩⟩
  case round =>
    obtain ⟨j, ys, rfl, rfl, hj, hyl, hw, hgr⟩ := hrel
    have HL : Hid (ys.length = n) := hyl
    by_cases hlt : j < n
    · have j0 : (0 : Int) ≤ (j : Int) := by omega
      have j1 : (j : Int) < (n : Int) := by omega
      obtain ⟨c0, z0⟩ := hw.out.2 j _ (bcs_get ys j (by omega))
      have HS := Shut.mk fun x : Bool => (bcs_set ys j x) ▸ hw.out.set j (.bool x) (by rw [bcs_len]; omega)
      have HG := Shut.mk fun v : Value => gb_two' hgr.out (gb_set' wr g j v)
      clear hyl hgr hw
      go_wp2_with fail
      go_roundw
      case rel => exact ⟨j + 1, _, by go_num, congrArg (Value.int .i64) (by omega), by omega, by rw [List.length_set]; exact HL.out, ⟨HS.out _⟩, ⟨HG.out _⟩⟩
      case measure => simp [intOf]; omega
    · have e : j = n := by omega
      subst e
      go_wp2_with fail
      go_ret
      exact ⟨rfl, hgr.out⟩
/-- A value that is these flags. -/
def BSee (w : World) (v : Value) (H : List Bool) (lo hi : Nat) : Prop := ∃ (a : Option Addr) (cap : Nat), v = .slice a H.length cap ∧ RRow w a (bcs H) lo hi
/-- A value that is these flags, in memory of its own. -/
def BAns (w : World) (v : Value) (H : List Bool) (lo hi : Nat) : Prop := ∃ (a : Option Addr) (cap : Nat), v = .slice a H.length cap ∧ (H = [] ∨ ∃ g, a = some ⟨g, 0, none⟩ ∧ lo ≤ g ∧ g < hi ∧ WCells w g (bcs H))
theorem BAns.see {w : World} {v : Value} {H : List Bool} {lo hi : Nat} (h : BAns w v H lo hi) : BSee w v H lo hi := by
  obtain ⟨a, cap, e, h1⟩ := h
  refine ⟨a, cap, e, ?_⟩
  rcases h1 with rfl | ⟨g, rfl, h1, h2, h3⟩
  · intro h; simp [bcs] at h
  · exact RRow.of_wcells h3 h1 h2
theorem BSee.turned {w w' : World} {v : Value} {H : List Bool} {lo hi lo' hi' : Nat} (h : BSee w v H lo hi) (t : Turned w w' lo' hi') (hd : hi ≤ lo' ∨ hi' ≤ lo) : BSee w' v H lo hi := by
  obtain ⟨a, cap, e, h1⟩ := h
  exact ⟨a, cap, e, h1.turned t hd⟩
theorem BSee.below {w w' : World} {v : Value} {H : List Bool} {lo hi : Nat} (h : BSee w v H lo hi) (hb : Below w.heap.size w w') : BSee w' v H lo hi := by
  obtain ⟨a, cap, e, h1⟩ := h
  exact ⟨a, cap, e, h1.below hb⟩
theorem BAns.turned {w w' : World} {v : Value} {H : List Bool} {lo hi lo' hi' : Nat} (h : BAns w v H lo hi) (t : Turned w w' lo' hi') (hd : hi ≤ lo' ∨ hi' ≤ lo) : BAns w' v H lo hi := by
  obtain ⟨a, cap, e, h1⟩ := h
  refine ⟨a, cap, e, ?_⟩
  rcases h1 with rfl | ⟨g, rfl, h1, h2, h3⟩
  · exact .inl rfl
  · exact .inr ⟨g, rfl, h1, h2, h3.turned t (by omega)⟩
theorem BAns.below {w w' : World} {v : Value} {H : List Bool} {lo hi : Nat} (h : BAns w v H lo hi) (hb : Below w.heap.size w w') : BAns w' v H lo hi := by
  obtain ⟨a, cap, e, h1⟩ := h
  refine ⟨a, cap, e, ?_⟩
  rcases h1 with rfl | ⟨g, rfl, h1, h2, h3⟩
  · exact .inl rfl
  · exact .inr ⟨g, rfl, h1, h2, h3.below hb h3.1⟩
def BPost (H : List Bool) (w : World) (e : Ending) (w' : World) : Prop := ∃ v, e = .returned v ∧ BAns w' v H w.heap.size w'.heap.size ∧ Below w.heap.size w w'
theorem eqBoolS_val {w : World} {v u : Value} {H : List Bool} {lo hi lo' hi' : Nat} (h : BSee w v H lo hi) (k : BSee w u H lo' hi') (hf : H.length ≤ 1048576) : Calls Tryd.prog 11 #[v, u] w fun e w' => e = .returned (.bool true) ∧ Below w.heap.size w w' := by
  obtain ⟨a, cap, rfl, h1⟩ := h
  obtain ⟨b, cap', rfl, h1'⟩ := k
  exact eqBoolS_same a b H cap cap' w h1.crow h1'.crow hf
theorem markBoolS_val {w : World} {v : Value} {H : List Bool} {lo hi : Nat} (k : Nat) (h : BAns w v H lo hi) (hk : k + H.length ≤ 1000000000) :
    Calls Tryd.prog 15 #[v, .int .i64 k] w fun e w' => e = .returned (.int .i64 (k + H.length : Nat)) ∧ Turned w w' lo hi := by
  obtain ⟨a, cap, rfl, h1⟩ := h
  rcases h1 with rfl | ⟨g, rfl, h1, h2, h3⟩
  · refine (markBoolS_none a k cap w).mono ?_
    rintro e w' ⟨rfl, rfl⟩
    exact ⟨rfl, Turned.refl _ _ _⟩
  · refine (markBoolS_any g H k cap w h3 hk).mono ?_
    rintro e w' ⟨rfl, hg⟩
    exact ⟨rfl, Turned.of_grown hg h1 h2⟩
end Go.Proofs.YtoaifodmjkhiiaaDoor
/- UoA: Units of a group as two lists that are answered. -/
namespace Go.Proofs.YtoaifodmjkhiiaaDoor
set_option maxRecDepth 100000
open Go.RowKit

/-- Two lists, each in memory of its own. -/
def UPost (T : List ByteArray) (Bs : List Bool) (w : World) (e : Ending) (w' : World) : Prop :=
  ∃ v u l1 h1 l2 h2, e = .returned (.tuple #[v, u]) ∧ SAns w' v T l1 h1 ∧ BAns w' u Bs l2 h2 ∧ w.heap.size ≤ l1 ∧ h1 ≤ w'.heap.size ∧ w.heap.size ≤ l2 ∧ h2 ≤ w'.heap.size ∧ (h1 ≤ l2 ∨ h2 ≤ l1) ∧ Below w.heap.size w w'
theorem upost_mk {T : List ByteArray} {Bs : List Bool} {w w' : World} {a b : Option Addr} {n c d : Nat} (hT : T.length = n) (hB : Bs.length = n) (hc : n ≤ c) (hb : Below w.heap.size w w')
    (h : n = 0 ∨ ∃ g q, a = some ⟨g, 0, none⟩ ∧ b = some ⟨q, 0, none⟩ ∧ g ≠ q ∧ w.heap.size ≤ g ∧ w.heap.size ≤ q ∧ WCells w' g (tv T) ∧ WCells w' q (bcs Bs)) : UPost T Bs w (.returned (.tuple #[.slice a n c, .slice b n d])) w' := by
  rcases h with rfl | ⟨g, q, rfl, rfl, hne, h1, h2, h3, h4⟩
  · obtain rfl := List.length_eq_zero_iff.1 hT
    obtain rfl := List.length_eq_zero_iff.1 hB
    exact ⟨_, _, w'.heap.size, w'.heap.size, w'.heap.size, w'.heap.size, rfl, ⟨a, c, rfl, Nat.zero_le _, .inl rfl⟩, ⟨b, d, rfl, .inl rfl⟩, hb.size, Nat.le_refl _, hb.size, Nat.le_refl _, .inl (Nat.le_refl _), hb⟩
  · exact ⟨_, _, g, g + 1, q, q + 1, rfl, ⟨_, c, by rw [hT], by rw [hT]; exact hc, .inr ⟨g, rfl, Nat.le_refl _, Nat.lt_succ_self _, h3⟩⟩, ⟨_, d, by rw [hB], .inr ⟨q, rfl, Nat.le_refl _, Nat.lt_succ_self _, h4⟩⟩, h1, h3.1, h2, h4.1, by omega, hb⟩
/-- A list of which a beginning is filled, and the next one under way. -/
def filT (T : List ByteArray) (k n : Nat) : List ByteArray := T.take k ++ List.replicate (n - k) ⟨#[]⟩
def filB (T : List Bool) (k n : Nat) : List Bool := T.take k ++ List.replicate (n - k) false
theorem filT_len {T : List ByteArray} {k n : Nat} (h : T.length = n) (hk : k ≤ n) : (filT T k n).length = n := by simp [filT]; omega
theorem filB_len {T : List Bool} {k n : Nat} (h : T.length = n) (hk : k ≤ n) : (filB T k n).length = n := by simp [filB]; omega
theorem fil_next {α : Type} (T : List α) (z x : α) (k n : Nat) (hk : k < n) (hT : T.length = n) (hx : T[k]? = some x) : (T.take k ++ List.replicate (n - k) z).set k x = T.take (k + 1) ++ List.replicate (n - (k + 1)) z := by
  obtain ⟨hk2, e⟩ := List.getElem?_eq_some_iff.1 hx
  obtain ⟨r, hr⟩ : ∃ r, n - k = r + 1 := ⟨n - k - 1, by omega⟩
  rw [hr, List.replicate_succ, List.take_succ_eq_append_getElem hk2, e, show n - (k + 1) = r by omega]
  rw [List.set_append_right _ _ (by rw [List.length_take]; omega)]
  rw [show k - (T.take k).length = 0 by rw [List.length_take]; omega]
  simp
theorem fil_same {α : Type} (T : List α) (z : α) (k n : Nat) (hk : k < n) (hT : T.length = n) : (T.take k ++ List.replicate (n - k) z).set k z = T.take k ++ List.replicate (n - k) z := by
  obtain ⟨r, hr⟩ : ∃ r, n - k = r + 1 := ⟨n - k - 1, by omega⟩
  rw [hr, List.replicate_succ, List.set_append_right _ _ (by rw [List.length_take]; omega), show k - (T.take k).length = 0 by rw [List.length_take]; omega]
  simp
end Go.Proofs.YtoaifodmjkhiiaaDoor
