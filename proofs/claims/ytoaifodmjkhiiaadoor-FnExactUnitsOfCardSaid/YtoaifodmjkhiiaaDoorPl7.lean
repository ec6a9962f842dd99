/- Texts of ours, laid one behind the other: SpL, HpE, HpF, UoP, OpenM, UnRo, HoO, HsO. -/
import Derived.Test.YtoaifodmjkhiiaaDoorPl6
import Derived.Deep.Slices
import Derived.Deep.Strs
import Derived.ChangeArms
import Derived.ChangeSame
import Derived.WideShapes
import Derived.OpenShut
/- SpL: The model's Spoil (written by gen/mkspoil.py). -/
namespace Go.Proofs.YtoaifodmjkhiiaaDoor
set_option maxRecDepth 100000
open Go.RowKit BigFrame
attribute [local go_sem ↓] Go.wp_at_zero Go.wp_at_succ

theorem bits_one (x : UInt8) : bits .xor .u8 (x.toNat : Int) 1 = ((x ^^^ 1).toNat : Int) := by
  have h : ∀ y : Fin 256, bits .xor .u8 ((UInt8.ofNat y.val).toNat : Int) 1 = ((UInt8.ofNat y.val ^^^ 1).toNat : Int) := by decide +kernel
  have := h ⟨x.toNat, x.toNat_lt⟩
  simpa using this
theorem toList_none : (⟨#[]⟩ : ByteArray).toList = [] := by
  unfold ByteArray.toList ByteArray.toList.loop
  rfl
theorem set_same {α : Type} {Z : List α} {i : Nat} {v : α} (h : Z[i]? = some v) : Z.set i v = Z := by
  obtain ⟨hi, e⟩ := List.getElem?_eq_some_iff.1 h
  subst e
  exact List.set_getElem_self hi
theorem uns_text (us : List UnM) (k : Nat) (h : k < us.length) (T : ByteArray) : (unS us).set (k * 4 + 2) (.string T) = unS (us.set k ⟨us[k].group, us[k].index, T, us[k].sum⟩) := by
  have q := flat_setL unC_len us k h ⟨us[k].group, us[k].index, T, us[k].sum⟩
  have e0 : (unS us)[k * 4]? = some (.int .i64 us[k].group) := flat_get unC_len us k h 0 (by omega)
  have e1 : (unS us)[k * 4 + 1]? = some (.int .i64 us[k].index) := flat_get unC_len us k h 1 (by omega)
  have e3 : (unS us)[k * 4 + 3]? = some (.int .i64 us[k].sum) := flat_get unC_len us k h 3 (by omega)
  have q' : unS (us.set k ⟨us[k].group, us[k].index, T, us[k].sum⟩) = setL (unS us) (k * 4) (unC ⟨us[k].group, us[k].index, T, us[k].sum⟩) := q.symm
  rw [q']
  clear q q'
  generalize unS us = Z at *
  simp only [unC, setL]
  rw [set_same e0, set_same e1]
  exact (set_same (by rw [List.getElem?_set_ne (by omega)]; exact e3)).symm
abbrev byS (b : Nat) (l : List UInt8) : Str := ⟨fun W => BRow W b l, b, b + 1⟩
theorem BRow.turned {w w' : World} {g lo hi : Nat} {L : List UInt8} (h : BRow w g L) (t : Turned w w' lo hi) (hd : g < lo ∨ hi ≤ g) : BRow w' g L :=
  ⟨Nat.lt_of_lt_of_le h.1 t.size, fun i hi => ⟨(World.cell?_of_block (a := ⟨g, i, none⟩) (t.block g h.1 hd)).trans (h.2 i hi).1, (World.frozen?_of_block (a := ⟨g, i, none⟩) (t.block g h.1 hd)).trans (h.2 i hi).2⟩⟩
theorem byS.loc (b : Nat) (l : List UInt8) : (byS b l).Loc := fun _ _ _ _ h t hd => BRow.turned h t (by rcases hd with h | h <;> (dsimp only [byS] at h; omega))
set_option maxRecDepth 100000 in
set_option maxHeartbeats 8000000 in
theorem specSpoil (H : HM) (a : Option Addr) (cap : Nat) (g i at9 : Int) (w : World) (hr : UnRow w a H.us) (hl : H.us.length ≤ 1048576) (hz : unSum H.us ≤ 1048576) (ha : at9 ≤ 9223372036854775807) :
    Calls Tryd.prog 49 #[hov H a cap, .int .i64 g, .int .i64 i, .int .i64 at9] w fun e w' => HbPost (spoilX H g i at9) w e w' := by
  have HR := Shut.mk hr
  have HCP := Shut.mk (fun (W : World) (hb : Below w.heap.size w W) => specCopy14 H a cap W (hr.stays hb) hl)
  have HA := Shut.mk (fun (W : World) (hb : Below w.heap.size w W) => specAt14 H a cap g i W (hr.stays hb) hl)
  have HZ : Shut (∀ u ∈ H.us, u.text.size ≤ 1048576) := ⟨fun u hu => by have := unSum_mem hu; omega⟩
  unfold HoPost at HCP
  clear hr hz
  obtain ⟨id, up, us⟩ := H
  obtain ⟨RR, hRR⟩ : ∃ q, q = spoilX ⟨id, up, us⟩ g i at9 := ⟨_, rfl⟩
  rw [← hRR]
  have HQ := Shut.mk hRR
  unfold spoilX at HQ
  show Calls Tryd.prog 49 #[.agg #[.int .i64 id, .bool up, .slice a us.length cap], .int .i64 g, .int .i64 i, .int .i64 at9] w fun e w' => HbPost RR w e w'
  dsimp only [hov] at *
  obtain ⟨n, hn⟩ : ∃ n, n = us.length := ⟨_, rfl⟩
  have HN := Shut.mk hn
  rw [← hn] at HCP HA hl ⊢
  obtain ⟨ki, hki⟩ : ∃ q, q = atN us g i := ⟨_, rfl⟩
  rw [← hki] at HA
  have HK := Shut.mk hki
  clear hki hRR hn
  have HS0 := Shut.mk (((SL.start w).new #[.int .i64 id, .bool up, .slice a n cap] 46).new #[.int .i64 0, .bool false, .slice none 0 0] 46)
  simp only [World.size_alloc] at HS0
  go_enter Tryd.func49, Tryd.ntmps49
  go_upto_region 1 with fail
  refine wp_shade (fun W => SL w W [bxS (w.heap.size + 1) [.int .i64 0, .bool false, .slice none 0 0], bxS w.heap.size [.int .i64 id, .bool up, .slice a n cap]]) HS0.out ?_
  intro W0 hW
  have H := Shut.mk hW
  clear HS0 hW
  have x0 := (H.out.bx 1 rfl 0 _ rfl).1
  have x1 := (H.out.bx 1 rfl 1 _ rfl).1
  have x2 := (H.out.bx 1 rfl 2 _ rfl).1
  go_upto_region 2 with (go_at_call 64; refine (HCP.out _ H.out.bel).mono ?_; rintro e w1 ⟨ac, cc, rfl, hF, hcc, hb⟩; have HS1 := Shut.mk (H.out.add (s := rwS ac (unS us) W0.heap.size w1.heap.size) hb hF (rwS.loc _ _ _ _) (Nat.le_refl _) (Nat.le_refl _)); clear hF hb H x0 x1 x2)
  generalize W0.heap.size = lc at HS1
  obtain ⟨hc9, hhc⟩ : ∃ q, q = w1.heap.size := ⟨_, rfl⟩
  rw [← hhc] at HS1
  clear hhc
  obtain ⟨b6, hb6⟩ : ∃ q, q = w1.heap.size := ⟨_, rfl⟩
  refine wp_shade (fun W => SL w W [bxS b6 [.int .i64 id, .bool up, .slice ac n cc], rwS ac (unS us) lc hc9, bxS (w.heap.size + 1) [.int .i64 0, .bool false, .slice none 0 0], bxS w.heap.size [.int .i64 id, .bool up, .slice a n cap]]) (by rw [hb6]; exact HS1.out.new _ _) ?_
  intro W2 hW
  have H := Shut.mk hW
  rw [← hb6]
  clear hW hb6 HS1
  have x0 := (H.out.bx 3 rfl 0 _ rfl).1
  have x1 := (H.out.bx 3 rfl 1 _ rfl).1
  have x2 := (H.out.bx 3 rfl 2 _ rfl).1
  go_upto_region 3 with (go_at_call 37; refine (HA.out _ H.out.bel).mono ?_; rintro e w3 ⟨rfl, hb⟩; have HW := Shut.mk (H.out.below hb); clear hb x0 x1 x2 H)
  have lw := (show WCells w3 w.heap.size _ from HW.out.at 3 rfl).1
  have g2 : ∀ X : Grow w3, X.val.cell? ⟨w.heap.size, 2, none⟩ = some (.slice a n cap) := fun X => X.cell (HW.out.bx 3 rfl 2 _ rfl).1 lw
  by_cases hf : unIdx us g i < us.length
  case neg =>
    have hki : ki = -1 := by rw [HK.out, idx_no hf]
    have HE : Shut (RR = (⟨id, up, us⟩, false)) := ⟨by rw [HQ.out]; simp [hf]⟩
    subst hki
    clear hf
    refine wp_region_grow (by kernel_rfl) (by kernel_rfl) ?_
    repeat (go_big_quiet_step (fail))
    refine wpQuiet_nil ?_
    rintro _ ⟨X, rfl⟩
    have H := Shut.mk (HW.out.below X.bel)
    clear g2
    have z0 := (H.out.bx 0 rfl 0 _ rfl).1
    have z1 := (H.out.bx 0 rfl 1 _ rfl).1
    have z2 := (H.out.bx 0 rfl 2 _ rfl).1
    obtain ⟨r0, r0z⟩ := H.out.bx 2 rfl 0 _ rfl
    obtain ⟨r1, r1z⟩ := H.out.bx 2 rfl 1 _ rfl
    obtain ⟨r2, r2z⟩ := H.out.bx 2 rfl 2 _ rfl
    go_wp2_with fail
    have HE3 := Shut.mk ((((H.out.put 2 rfl 0 (.int .i64 id) (by simp)).put 2 rfl 1 (.bool up) (by simp)).put 2 rfl 2 (.slice ac n cc) (by simp)))
    refine bodyPost_ret (v := .tuple #[.agg #[.int .i64 id, .bool up, .slice ac n cc], .bool false]) (by simp [results, Tryd.results49, go_sem, r0, r1, r2]) rfl ?_
    rw [HE.out]
    have hs := HE3.out.is _ (List.mem_of_getElem? (show _[1]? = some (rwS ac (unS us) lc hc9) from rfl))
    exact ⟨_, cc, by rw [HN.out], frw_wide (show FRw _ _ (unS us) lc hc9 from hs.1) hs.2.2.1 hs.2.2.2, by have := HN.out; show us.length ≤ cc; omega, HE3.out.bel⟩
  obtain ⟨k, hk⟩ : ∃ k, k = unIdx us g i := ⟨_, rfl⟩
  have hki : ki = (k : Int) := by rw [HK.out, idx_lt hf, hk]
  rw [← hk] at hf
  obtain ⟨b, off, u, rfl, hu, lb, hc⟩ := un_at HR.out HW.out.bel hf
  have hut : u.text.size ≤ 1048576 := by rw [hu]; exact HZ.out _ (List.getElem_mem hf)
  have HQ2 : Shut (RR = if decide (0 ≤ at9) && !(u.text.toList == []) && unSound u then (⟨id, up, us.set k ⟨u.group, u.index, turnAt u.text (at9.toNat % u.text.size), u.sum⟩⟩, true) else (⟨id, up, us⟩, false)) := ⟨by
    rw [HQ.out, ← hk, getD_un us k hf, ← hu]; simp [hf]⟩
  have HSU := Shut.mk (fun X : Grow w3 => calls_same (w := w3) (fun W' (_ : Below w3.heap.size w3 W') => specSumText u.text W' hut) X)
  unfold unSound at HQ2
  generalize sumN u.text = sn at HQ2 HSU
  subst hki
  have k0 : (0 : Int) ≤ (k : Int) := by omega
  have k1 : (k : Int) < (n : Int) := by have := HN.out; omega
  have k2 : decide ((k : Int) < 0) = false := by simp
  have p2 : ∀ X : Grow w3, X.val.cell? ⟨b, off + k * 4 + 2, none⟩ = some (.string u.text) := fun X => (hc X.val X.bel).2.2.1
  have p3 : ∀ X : Grow w3, X.val.cell? ⟨b, off + k * 4 + 3, none⟩ = some (.int .i64 u.sum) := fun X => (hc X.val X.bel).2.2.2
  have HC := Shut.mk hc
  have HU := Shut.mk hu
  clear hc hk hu
  by_cases hat : 0 ≤ at9
  case neg =>
    have ha2 : decide (at9 < 0) = true := by simp; omega
    have HE : Shut (RR = (⟨id, up, us⟩, false)) := ⟨by rw [HQ2.out, decide_eq_false hat]; rfl⟩
    refine wp_region_grow (by kernel_rfl) (by kernel_rfl) ?_
    repeat (go_big_quiet_step (fail))
    refine wpQuiet_nil ?_
    rintro _ ⟨X, rfl⟩
    have H := Shut.mk (HW.out.below X.bel)
    clear p2 p3 g2
    have z0 := (H.out.bx 0 rfl 0 _ rfl).1
    have z1 := (H.out.bx 0 rfl 1 _ rfl).1
    have z2 := (H.out.bx 0 rfl 2 _ rfl).1
    obtain ⟨r0, r0z⟩ := H.out.bx 2 rfl 0 _ rfl
    obtain ⟨r1, r1z⟩ := H.out.bx 2 rfl 1 _ rfl
    obtain ⟨r2, r2z⟩ := H.out.bx 2 rfl 2 _ rfl
    go_wp2_with fail
    have HE3 := Shut.mk ((((H.out.put 2 rfl 0 (.int .i64 id) (by simp)).put 2 rfl 1 (.bool up) (by simp)).put 2 rfl 2 (.slice ac n cc) (by simp)))
    refine bodyPost_ret (v := .tuple #[.agg #[.int .i64 id, .bool up, .slice ac n cc], .bool false]) (by simp [results, Tryd.results49, go_sem, r0, r1, r2]) rfl ?_
    rw [HE.out]
    have hs := HE3.out.is _ (List.mem_of_getElem? (show _[1]? = some (rwS ac (unS us) lc hc9) from rfl))
    exact ⟨_, cc, by rw [HN.out], frw_wide (show FRw _ _ (unS us) lc hc9 from hs.1) hs.2.2.1 hs.2.2.2, by have := HN.out; show us.length ≤ cc; omega, HE3.out.bel⟩
  have ha2 : decide (at9 < 0) = false := by simp; omega
  rw [decide_eq_true hat] at HQ2
  cases hte : u.text.toList == [] with
  | true =>
    have HE : Shut (RR = (⟨id, up, us⟩, false)) := ⟨by rw [HQ2.out, hte]; rfl⟩
    refine wp_region_grow (by kernel_rfl) (by kernel_rfl) ?_
    repeat (go_big_quiet_step (fail))
    refine wpQuiet_nil ?_
    rintro _ ⟨X, rfl⟩
    have H := Shut.mk (HW.out.below X.bel)
    clear p2 p3 g2
    have z0 := (H.out.bx 0 rfl 0 _ rfl).1
    have z1 := (H.out.bx 0 rfl 1 _ rfl).1
    have z2 := (H.out.bx 0 rfl 2 _ rfl).1
    obtain ⟨r0, r0z⟩ := H.out.bx 2 rfl 0 _ rfl
    obtain ⟨r1, r1z⟩ := H.out.bx 2 rfl 1 _ rfl
    obtain ⟨r2, r2z⟩ := H.out.bx 2 rfl 2 _ rfl
    go_wp2_with fail
    have HE3 := Shut.mk ((((H.out.put 2 rfl 0 (.int .i64 id) (by simp)).put 2 rfl 1 (.bool up) (by simp)).put 2 rfl 2 (.slice ac n cc) (by simp)))
    refine bodyPost_ret (v := .tuple #[.agg #[.int .i64 id, .bool up, .slice ac n cc], .bool false]) (by simp [results, Tryd.results49, go_sem, r0, r1, r2]) rfl ?_
    rw [HE.out]
    have hs := HE3.out.is _ (List.mem_of_getElem? (show _[1]? = some (rwS ac (unS us) lc hc9) from rfl))
    exact ⟨_, cc, by rw [HN.out], frw_wide (show FRw _ _ (unS us) lc hc9 from hs.1) hs.2.2.1 hs.2.2.2, by have := HN.out; show us.length ≤ cc; omega, HE3.out.bel⟩
  | false =>
    rw [hte] at HQ2
    cases hs : u.sum == sn with
    | false =>
      have hs' : (u.sum != sn) = true := by rw [bne, hs]; rfl
      have HE : Shut (RR = (⟨id, up, us⟩, false)) := ⟨by rw [HQ2.out, hs]; rfl⟩
      refine wp_region_grow (by kernel_rfl) (by kernel_rfl) ?_
      repeat (go_big_quiet_step (first | (go_at_call 38; with_reducible exact HSU.out _)))
      refine wpQuiet_nil ?_
      rintro _ ⟨X, rfl⟩
      have H := Shut.mk (HW.out.below X.bel)
      clear p2 p3 g2
      have z0 := (H.out.bx 0 rfl 0 _ rfl).1
      have z1 := (H.out.bx 0 rfl 1 _ rfl).1
      have z2 := (H.out.bx 0 rfl 2 _ rfl).1
      obtain ⟨r0, r0z⟩ := H.out.bx 2 rfl 0 _ rfl
      obtain ⟨r1, r1z⟩ := H.out.bx 2 rfl 1 _ rfl
      obtain ⟨r2, r2z⟩ := H.out.bx 2 rfl 2 _ rfl
      go_wp2_with fail
      have HE3 := Shut.mk ((((H.out.put 2 rfl 0 (.int .i64 id) (by simp)).put 2 rfl 1 (.bool up) (by simp)).put 2 rfl 2 (.slice ac n cc) (by simp)))
      refine bodyPost_ret (v := .tuple #[.agg #[.int .i64 id, .bool up, .slice ac n cc], .bool false]) (by simp [results, Tryd.results49, go_sem, r0, r1, r2]) rfl ?_
      rw [HE.out]
      have hs := HE3.out.is _ (List.mem_of_getElem? (show _[1]? = some (rwS ac (unS us) lc hc9) from rfl))
      exact ⟨_, cc, by rw [HN.out], frw_wide (show FRw _ _ (unS us) lc hc9 from hs.1) hs.2.2.1 hs.2.2.2, by have := HN.out; show us.length ≤ cc; omega, HE3.out.bel⟩
    | true =>
      have hs' : (u.sum != sn) = false := by rw [bne, hs]; rfl
      have HE : Shut (RR = (⟨id, up, us.set k ⟨u.group, u.index, turnAt u.text (at9.toNat % u.text.size), u.sum⟩⟩, true)) := ⟨by rw [HQ2.out, hs]; rfl⟩
      refine wp_region_grow (by kernel_rfl) (by kernel_rfl) ?_
      repeat (go_big_quiet_step (first | (go_at_call 38; with_reducible exact HSU.out _)))
      refine wpQuiet_nil ?_
      rintro _ ⟨X, rfl⟩
      have H := Shut.mk (HW.out.below X.bel)
      have y2 := g2 X
      have y3 := p2 X
      clear p2 p3 g2 HW HQ2
      obtain ⟨W4, hb4⟩ := X
      dsimp only at *
      have hpos : 0 < u.text.size := by
        rcases Nat.eq_zero_or_pos u.text.size with e | e
        · exfalso
          have : u.text = ⟨#[]⟩ := by
            cases u; rename_i t _; cases t; rename_i d; simp only [ByteArray.size] at e ⊢; congr 1; exact Array.eq_empty_of_size_eq_zero e
          rw [this] at hte
          rw [toList_none] at hte
          cases hte
        · exact e
      obtain ⟨W5, c5, hcv, hrow5, hb5⟩ := bytes_made W4 u.text
      obtain ⟨bb, hbb⟩ : ∃ q, q = W4.heap.size := ⟨_, rfl⟩
      have H5 := Shut.mk (H.out.add (s := byS bb u.text.data.toList) hb5 (by rw [hbb]; exact hrow5) (byS.loc _ _) (by rw [hbb]; exact Nat.le_refl _) (by rw [hbb]; exact hrow5.1))
      rw [← hbb] at hcv
      clear hrow5 hb5 hbb hb4 H
      go_upto_region 6 with fail
      obtain ⟨j, hj⟩ : ∃ j : Nat, at9.tmod (u.text.size : Int) = (j : Int) := by
        rw [Int.tmod_eq_emod_of_nonneg hat]
        exact Int.eq_ofNat_of_zero_le (Int.emod_nonneg _ (by omega))
      have hj2 : j < u.text.size ∧ j = at9.toNat % u.text.size := by
        rw [Int.tmod_eq_emod_of_nonneg hat] at hj
        have h1 := Int.emod_lt_of_pos at9 (show (0 : Int) < (u.text.size : Int) by omega)
        obtain ⟨q, rfl⟩ := Int.eq_ofNat_of_zero_le hat
        simp only [Int.toNat_natCast] at *
        omega
      have HJ := Shut.mk hj2
      have hne : ¬ ((u.text.size : Int) = 0) := by omega
      have hL : u.text.data.toList.length = u.text.size := rfl
      obtain ⟨x, hx⟩ : ∃ o : UInt8, u.text.data.toList.getD j 0 = o := ⟨_, rfl⟩
      have hci := (show BRow W5 bb u.text.data.toList from H5.out.at 0 rfl).2 j (by have := HJ.out.1; omega)
      rw [hx] at hci
      obtain ⟨hc1, hc2⟩ := hci
      have hxo := bits_one x
      have j0 : (0 : Int) ≤ (j : Int) := by omega
      have j1 : (j : Int) < (u.text.size : Int) := by have := HJ.out.1; omega
      have HX := Shut.mk hx
      have H6 := Shut.mk (H5.out.turn 0 rfl (W' := W5.setCell ⟨bb, j, none⟩ (.int .u8 ((x ^^^ 1).toNat : Int))) (Turned.of_grown (gb_set' W5 bb j _) (Nat.le_refl _) (Nat.lt_succ_self _)) ((show BRow W5 bb u.text.data.toList from H5.out.at 0 rfl).set j (x ^^^ 1) (by have := HJ.out.1; omega)) (byS.loc _ _))
      simp only [List.set_cons_zero] at H6
      have HT : Shut ((⟨(u.text.data.toList.set j (x ^^^ 1)).toArray⟩ : ByteArray) = turnAt u.text (at9.toNat % u.text.size)) := ⟨by unfold turnAt; rw [← HJ.out.2, HX.out]⟩
      clear hj2 hx H5
      generalize x ^^^ 1 = z at *
      go_region
      all_goals
        go_upto_region 7 with fail
        refine wp_shade (fun W => SL w W [byS bb (u.text.data.toList.set j z), bxS b6 [.int .i64 id, .bool up, .slice ac n cc], rwS ac (unS us) lc hc9, bxS (w.heap.size + 1) [.int .i64 0, .bool false, .slice none 0 0], bxS w.heap.size [.int .i64 id, .bool up, .slice (some ⟨b, off, none⟩) n cap]]) (by first | exact H6.out.drew | exact H6.out) ?_
        intro W7 hW
        have H := Shut.mk hW.tail
        have hcv2 := brow_string (cap := c5) (show BRow W7 bb (u.text.data.toList.set j z) from hW.at 0 rfl)
        rw [List.length_set, hL, HT.out] at hcv2
        clear hW H6 hcv hc1 hc2 hxo hj
        generalize turnAt u.text (at9.toNat % u.text.size) = T at *
        obtain ⟨gc, rfl, hlc, hhc, hwc⟩ : ∃ gc, ac = some ⟨gc, 0, none⟩ ∧ lc ≤ gc ∧ gc < hc9 ∧ WCells W7 gc (unS us) := by
          rcases (show FRw W7 ac (unS us) lc hc9 from H.out.at 1 rfl) with ⟨_, e⟩ | q
          · have := congrArg List.length e
            rw [unS_len] at this
            simp at this
            omega
          · exact q
        obtain ⟨s2, s2z⟩ := hwc.2 (k * 4 + 2) _ (flat_get unC_len us k hf 2 (by omega))
        have z2 := (H.out.bx 0 rfl 2 _ rfl).1
        have H8 := Shut.mk (H.out.turn 1 rfl (W' := W7.setCell ⟨gc, k * 4 + 2, none⟩ (.string T)) (Turned.of_grown (gb_set' W7 gc (k * 4 + 2) _) hlc hhc) (q := fun W => FRw W (some ⟨gc, 0, none⟩) (unS (us.set k ⟨u.group, u.index, T, u.sum⟩)) lc hc9) (by
          have q1 := hwc.set (k * 4 + 2) (.string T) (by rw [unS_len]; omega)
          rw [uns_text us k hf T, ← HU.out] at q1
          exact .inr ⟨gc, rfl, hlc, hhc, q1⟩) (rwS.loc _ _ _ _))
        simp only [List.set_cons_zero, List.set_cons_succ] at H8
        clear hwc
        go_upto_region 8 with fail
        refine wp_shade (fun W => SL w W [bxS b6 [.int .i64 id, .bool up, .slice (some ⟨gc, 0, none⟩) n cc], rwS (some ⟨gc, 0, none⟩) (unS (us.set k ⟨u.group, u.index, T, u.sum⟩)) lc hc9, bxS (w.heap.size + 1) [.int .i64 0, .bool false, .slice none 0 0], bxS w.heap.size [.int .i64 id, .bool up, .slice (some ⟨b, off, none⟩) n cap]]) H8.out ?_
        intro W8 hW
        clear H z2 s2 s2z H8
        have H := Shut.mk hW
        clear hW
        have z0 := (H.out.bx 0 rfl 0 _ rfl).1
        have z1 := (H.out.bx 0 rfl 1 _ rfl).1
        have z2 := (H.out.bx 0 rfl 2 _ rfl).1
        obtain ⟨r0, r0z⟩ := H.out.bx 2 rfl 0 _ rfl
        obtain ⟨r1, r1z⟩ := H.out.bx 2 rfl 1 _ rfl
        obtain ⟨r2, r2z⟩ := H.out.bx 2 rfl 2 _ rfl
        go_wp2_with fail
        have HE3 := Shut.mk ((((H.out.put 2 rfl 0 (.int .i64 id) (by simp)).put 2 rfl 1 (.bool up) (by simp)).put 2 rfl 2 (.slice (some ⟨gc, 0, none⟩) n cc) (by simp)))
        refine bodyPost_ret (v := .tuple #[.agg #[.int .i64 id, .bool up, .slice (some ⟨gc, 0, none⟩) n cc], .bool true]) (by simp [results, Tryd.results49, go_sem, r0, r1, r2]) rfl ?_
        rw [HE.out]
        have hs := HE3.out.is _ (List.mem_of_getElem? (show _[1]? = some (rwS (some ⟨gc, 0, none⟩) (unS (us.set k ⟨u.group, u.index, T, u.sum⟩)) lc hc9) from rfl))
        exact ⟨_, cc, by show _ = Ending.returned (.tuple #[.agg #[.int .i64 id, .bool up, .slice _ (us.set k _).length cc], .bool true]); rw [List.length_set, ← HN.out], frw_wide (show FRw _ _ (unS (us.set k ⟨u.group, u.index, T, u.sum⟩)) lc hc9 from hs.1) hs.2.2.1 hs.2.2.2, by have := HN.out; show (us.set k _).length ≤ cc; rw [List.length_set]; omega, HE3.out.bel⟩
end Go.Proofs.YtoaifodmjkhiiaaDoor
/- HpE: The program's own: SumText, a unit summed anew, one that is sound, one that is spoilt. -/
namespace Go.Proofs.YtoaifodmjkhiiaaDoor
set_option maxRecDepth 100000
open Go.RowKit BigFrame
attribute [local go_sem ↓] Go.wp_at_zero Go.wp_at_succ

theorem implSum (t : ByteArray) (w : World) (htab : SumTab w) (hs : t.size ≤ 1048576) : Calls Tryd.prog 79 #[.string t] w fun e w' => e = .returned (.int .i64 (sumN t)) ∧ w' = w := by
  have h := sumN_low t
  have HP := Shut.mk (implSumOf t w htab hs)
  unfold u32 at HP
  rw [show (((W.sumOf t).toNat : Nat) : Int) = sumN t from rfl] at HP
  generalize sumN t = q at *
  clear htab
  go_enter Tryd.func79, Tryd.ntmps79
  go_wp2_with fail
  refine HP.out.mono ?_
  rintro e w1 ⟨rfl, rfl⟩
  go_wp2_with fail
  go_ret
  exact ⟨rfl, rfl⟩
theorem implSumText (t : ByteArray) (w : World) (htab : SumTab w) (hs : t.size ≤ 1048576) : Calls Tryd.prog 79 #[.string t] w fun e w' => e = .returned (.int .i64 (sumN t)) ∧ Below w.heap.size w w' :=
  (implSum t w htab hs).mono (by rintro e w1 ⟨rfl, rfl⟩; exact ⟨rfl, Below.refl _ _⟩)
set_option maxRecDepth 100000 in
theorem implSummed (u : UnM) (w : World) (htab : SumTab w) (hs : u.text.size ≤ 1048576) : Calls Tryd.prog 71 #[unv u] w fun e w' => e = .returned (unv (summed u)) ∧ Below w.heap.size w w' := by
  have HS0 := Shut.mk (((SL.start w).new #[.int .i64 u.group, .int .i64 u.index, .string u.text, .int .i64 u.sum] 65).new #[.int .i64 0, .int .i64 0, .string ⟨#[]⟩, .int .i64 0] 65)
  simp only [World.size_alloc] at HS0
  have HT := Shut.mk (fun (W : World) (hb : Below w.heap.size w W) => implSum u.text W (htab.stays hb) hs)
  clear htab
  obtain ⟨g, i, t, s⟩ := u
  unfold summed
  dsimp only [unv] at *
  generalize sumN t = sn at HT ⊢
  go_enter Tryd.func71, Tryd.ntmps71
  go_upto_region 1 with fail
  refine wp_shade (fun W => SL w W [bxS (w.heap.size + 1) [.int .i64 0, .int .i64 0, .string ⟨#[]⟩, .int .i64 0], bxS w.heap.size [.int .i64 g, .int .i64 i, .string t, .int .i64 s]]) HS0.out ?_
  intro W hW
  have H := Shut.mk hW
  clear HS0 hW
  have x2 := (H.out.bx 1 rfl 2 _ rfl).1
  obtain ⟨y3, y3z⟩ := H.out.bx 1 rfl 3 _ rfl
  go_upto_region 2 with (go_at_call 79; refine (HT.out _ H.out.bel).mono ?_; rintro e w1 ⟨rfl, hw1⟩; subst hw1)
  have H2 := Shut.mk (H.out.put 1 rfl 3 (.int .i64 sn) (by simp))
  simp only [List.set_cons_zero, List.set_cons_succ] at H2
  refine wp_shade (fun W => SL w W [bxS (w.heap.size + 1) [.int .i64 0, .int .i64 0, .string ⟨#[]⟩, .int .i64 0], bxS w.heap.size [.int .i64 g, .int .i64 i, .string t, .int .i64 sn]]) H2.out ?_
  intro W3 hW
  clear H H2 x2 y3 y3z
  have H := Shut.mk hW
  clear hW
  have x0 := (H.out.bx 1 rfl 0 _ rfl).1
  have x1 := (H.out.bx 1 rfl 1 _ rfl).1
  have x2 := (H.out.bx 1 rfl 2 _ rfl).1
  have x3 := (H.out.bx 1 rfl 3 _ rfl).1
  obtain ⟨r0, r0z⟩ := H.out.bx 0 rfl 0 _ rfl
  obtain ⟨r1, r1z⟩ := H.out.bx 0 rfl 1 _ rfl
  obtain ⟨r2, r2z⟩ := H.out.bx 0 rfl 2 _ rfl
  obtain ⟨r3, r3z⟩ := H.out.bx 0 rfl 3 _ rfl
  go_wp2_with fail
  have HE := Shut.mk ((((H.out.put 0 rfl 0 (.int .i64 g) (by simp)).put 0 rfl 1 (.int .i64 i) (by simp)).put 0 rfl 2 (.string t) (by simp)).put 0 rfl 3 (.int .i64 sn) (by simp))
  exact bodyPost_ret (v := .agg #[.int .i64 g, .int .i64 i, .string t, .int .i64 sn]) (by simp [results, Tryd.results71, go_sem, r0, r1, r2, r3]) rfl ⟨rfl, HE.out.bel⟩
theorem eqgUn (x y : Operand) (g i : Int) (t : ByteArray) (s s' : Int) (W : World) : Sem.run Tryd.prog (eqGuard BinOp.eql 65 x y (.agg #[.int .i64 g, .int .i64 i, .string t, .int .i64 s]) (.agg #[.int .i64 g, .int .i64 i, .string t, .int .i64 s'])) W = .ok () W := by kernel_rfl
theorem eqUn (g i : Int) (t : ByteArray) (s s' : Int) (W : World) : Sem.run Tryd.prog (binOp BinOp.eql 65 (.agg #[.int .i64 g, .int .i64 i, .string t, .int .i64 s]) (.agg #[.int .i64 g, .int .i64 i, .string t, .int .i64 s'])) W = .ok (.bool (s == s')) W := by
  rw [run_eql_struct, run_equalIn_agg W 9999 65 _ _ (by kernel_rfl) (by kernel_rfl)]
  simp [Op.eqFields, go_sem]
  by_cases h1 : s = s' <;> simp [h1]
set_option maxRecDepth 100000 in
set_option maxHeartbeats 1000000 in
theorem implSound (u : UnM) (w : World) (htab : SumTab w) (hs : u.text.size ≤ 1048576) : Calls Tryd.prog 55 #[unv u] w fun e w' => e = .returned (.bool (unSound u)) ∧ Below w.heap.size w w' := by
  have HS0 := Shut.mk ((SL.start w).new #[.int .i64 u.group, .int .i64 u.index, .string u.text, .int .i64 u.sum] 65)
  have HT := Shut.mk (fun (W : World) (hb : Below w.heap.size w W) => implSummed u W (htab.stays hb) hs)
  clear htab
  obtain ⟨g, i, t, s⟩ := u
  unfold unSound
  unfold summed at HT
  dsimp only [unv] at *
  have hek := eqUn g i t s (sumN t)
  have heg := fun x y => eqgUn x y g i t s (sumN t)
  generalize sumN t = sn at *
  generalize (s == sn) = R at *
  go_enter Tryd.func55, Tryd.ntmps55
  go_upto_region 1 with fail
  refine wp_shade (fun W => SL w W [bxS w.heap.size [.int .i64 g, .int .i64 i, .string t, .int .i64 s]]) HS0.out ?_
  intro W hW
  have H := Shut.mk hW
  clear HS0 hW
  have lq : w.heap.size < W.heap.size := (H.out.at 0 rfl).1
  have g0 : ∀ X : Grow W, X.val.cell? ⟨w.heap.size, 0, none⟩ = some (.int .i64 g) := fun X => X.cell (H.out.bx 0 rfl 0 _ rfl).1 lq
  have g1 : ∀ X : Grow W, X.val.cell? ⟨w.heap.size, 1, none⟩ = some (.int .i64 i) := fun X => X.cell (H.out.bx 0 rfl 1 _ rfl).1 lq
  have g2 : ∀ X : Grow W, X.val.cell? ⟨w.heap.size, 2, none⟩ = some (.string t) := fun X => X.cell (H.out.bx 0 rfl 2 _ rfl).1 lq
  have g3 : ∀ X : Grow W, X.val.cell? ⟨w.heap.size, 3, none⟩ = some (.int .i64 s) := fun X => X.cell (H.out.bx 0 rfl 3 _ rfl).1 lq
  have HK := Shut.mk (fun X => calls_grow (w := W) (fun W' (hb : Below W.heap.size W W') => HT.out W' (H.out.bel.trans (hb.mono H.out.bel.size))) X)
  have HGR : Shut (∀ X : Grow W, Below w.heap.size w X.val) := ⟨fun X => (H.out.below X.bel).bel⟩
  refine wp_region_grow (by kernel_rfl) (by kernel_rfl) ?_
  repeat (go_big_quiet_step (first | (go_at_call 71; with_reducible exact HK.out _)))
  refine wpQuiet_nil ?_
  rintro _ ⟨X, rfl⟩
  go_wp2_with fail
  go_ret
  exact ⟨rfl, HGR.out X⟩
end Go.Proofs.YtoaifodmjkhiiaaDoor
/- HpF: The program's own GetUnit and Spoil (written by gen/mkhpf.py). -/
namespace Go.Proofs.YtoaifodmjkhiiaaDoor
set_option maxRecDepth 100000
open Go.RowKit BigFrame
attribute [local go_sem ↓] Go.wp_at_zero Go.wp_at_succ

set_option maxRecDepth 100000 in
set_option maxHeartbeats 2000000 in
theorem implGetUnit (H : HM) (a : Option Addr) (cap : Nat) (g i : Int) (w : World) (htab : SumTab w) (hr : UnRow w a H.us) (hl : H.us.length ≤ 1048576) (hz : unSum H.us ≤ 1048576) :
    Calls Tryd.prog 42 #[hov H a cap, .int .i64 g, .int .i64 i] w fun e w' => e = .returned (.tuple #[.string (getX H g i).1, .bool (getX H g i).2]) ∧ Below w.heap.size w w' := by
  have HS0 := Shut.mk ((SL.start w).new #[.int .i64 H.id, .bool H.up, .slice a H.us.length cap] 46)
  have HR := Shut.mk hr
  have HA := Shut.mk (fun (W : World) (hb : Below w.heap.size w W) => implAt H a cap g i W (hr.stays hb) (by omega))
  have HSD : Shut (∀ (W : World) (u : UnM), u ∈ H.us → Below w.heap.size w W → Calls Tryd.prog 55 #[unv u] W fun e w' => e = .returned (.bool (unSound u)) ∧ Below W.heap.size W w') := ⟨fun W u hu hb => implSound u W (htab.stays hb) (by have := unSum_mem hu; omega)⟩
  have HZ : Shut (∀ u ∈ H.us, u.text.size ≤ 1048576) := ⟨fun u hu => by have := unSum_mem hu; omega⟩
  clear hr hz htab
  obtain ⟨id, up, us⟩ := H
  obtain ⟨R, hR⟩ : ∃ R, R = getX ⟨id, up, us⟩ g i := ⟨_, rfl⟩
  rw [← hR]
  obtain ⟨t0, b0⟩ := R
  have HQ := Shut.mk hR
  clear hR
  show Calls Tryd.prog 42 #[.agg #[.int .i64 id, .bool up, .slice a us.length cap], .int .i64 g, .int .i64 i] w fun e w' => e = .returned (.tuple #[.string t0, .bool b0]) ∧ Below w.heap.size w w'
  dsimp only [hov] at *
  obtain ⟨n, hn⟩ : ∃ n, n = us.length := ⟨_, rfl⟩
  have HN := Shut.mk hn
  rw [← hn] at HS0 HA hl ⊢
  clear hn
  obtain ⟨ki, hki⟩ : ∃ q, q = atN us g i := ⟨_, rfl⟩
  rw [← hki] at HA
  have HK := Shut.mk hki
  clear hki
  go_enter Tryd.func42, Tryd.ntmps42
  go_upto_region 1 with fail
  refine wp_shade (fun W => SL w W [bxS w.heap.size [.int .i64 id, .bool up, .slice a n cap]]) HS0.out ?_
  intro W0 hW
  have HW := Shut.mk hW
  clear HS0 hW
  have x0 := (HW.out.bx 0 rfl 0 _ rfl).1
  have x1 := (HW.out.bx 0 rfl 1 _ rfl).1
  have x2 := (HW.out.bx 0 rfl 2 _ rfl).1
  go_upto_region 2 with (go_at_call 54; refine (HA.out _ HW.out.bel).mono ?_; rintro e w1 ⟨rfl, hb⟩; replace HW := Shut.mk (HW.out.below hb); clear hb x0 x1 x2)
  have x1 := (HW.out.bx 0 rfl 1 _ rfl).1
  have x2 := (HW.out.bx 0 rfl 2 _ rfl).1
  cases hup : up with
  | false =>
    have HE : Shut ((t0, b0) = ((⟨#[]⟩ : ByteArray), false)) := ⟨by rw [HQ.out]; unfold getX; rw [hup]; simp⟩
    rw [hup] at x1
    go_wp2_with fail
    go_ret2
    have e1 := HE.out
    simp only [Prod.mk.injEq] at e1
    exact ⟨by rw [e1.1, e1.2]; rfl, HW.out.bel⟩
  | true =>
    rw [hup] at x1 HQ
    by_cases hf : unIdx us g i < us.length
    case neg =>
      have hki : ki = -1 := by rw [HK.out, idx_no hf]
      have HE : Shut ((t0, b0) = ((⟨#[]⟩ : ByteArray), false)) := ⟨by rw [HQ.out]; unfold getX; simp [hf]⟩
      subst hki
      clear hf
      go_wp2_with fail
      go_ret2
      have e1 := HE.out
      simp only [Prod.mk.injEq] at e1
      exact ⟨by rw [e1.1, e1.2]; rfl, HW.out.bel⟩
    obtain ⟨k, hk⟩ : ∃ k, k = unIdx us g i := ⟨_, rfl⟩
    have hki : ki = (k : Int) := by rw [HK.out, idx_lt hf, hk]
    rw [← hk] at hf
    obtain ⟨b, off, u, rfl, hu, lb, hc⟩ := un_at HR.out HW.out.bel hf
    have HE : Shut ((t0, b0) = if unSound u then (u.text, true) else ((⟨#[]⟩ : ByteArray), false)) := ⟨by
      rw [HQ.out]; unfold getX; dsimp only; rw [← hk, getD_un us k hf, ← hu]; simp [hf]⟩
    have HSU := Shut.mk (fun (W : World) (hb : Below w.heap.size w W) => HSD.out W u (by rw [hu]; exact List.getElem_mem hf) hb)
    have HCL : Shut (∀ W, Calls Tryd.prog 56 #[.string u.text] W fun e w' => e = .returned (.string u.text) ∧ Below W.heap.size W w') := ⟨fun W => implClone u.text W (by have := HZ.out u (by rw [hu]; exact List.getElem_mem hf); omega)⟩
    generalize unSound u = snd at HE HSU
    subst hki
    have k0 : (0 : Int) ≤ (k : Int) := by omega
    have k1 : (k : Int) < (n : Int) := by have := HN.out; omega
    have k2 : decide ((k : Int) < 0) = false := by simp
    have k3 : ¬ ((k : Int) < 0) := by omega
    obtain ⟨p0, p1, p2, p3⟩ := hc w1 (Below.refl _ _)
    have HC := Shut.mk hc
    clear hc hk hu hf
    cases snd with
    | false =>
      go_wp2_with (go_at_call 55; refine (HSU.out _ HW.out.bel).mono ?_; rintro e w2 ⟨rfl, hb⟩; replace HW := Shut.mk (HW.out.below hb); clear hb)
      go_ret2
      have e1 := HE.out
      simp only [Bool.false_eq_true, if_false, Prod.mk.injEq] at e1
      exact ⟨by rw [e1.1, e1.2]; rfl, HW.out.bel⟩
    | true =>
      go_upto_region 4 with (go_at_call 55; refine (HSU.out _ HW.out.bel).mono ?_; rintro e w2 ⟨rfl, hb⟩; replace HW := Shut.mk (HW.out.below hb); have HC2 := Shut.mk (HC.out w2 hb); clear hb p0 p1 p2 p3 x1 x2)
      have x2 := (HW.out.bx 0 rfl 2 _ rfl).1
      obtain ⟨p0, p1, p2, p3⟩ := HC2.out
      go_wp2_with (go_at_call 56; refine (HCL.out _).mono ?_; rintro e w3 ⟨rfl, hb⟩; replace HW := Shut.mk (HW.out.below hb); clear hb)
      go_ret2
      have e1 := HE.out
      simp only [if_true, Prod.mk.injEq] at e1
      exact ⟨by rw [e1.1, e1.2]; rfl, HW.out.bel⟩
theorem turned_unC (w : World) (g o lo hi : Nat) (v0 v1 v2 v3 : Value) (h1 : lo ≤ g) (h2 : g < hi) : Turned w ((((w.setCell ⟨g, o, none⟩ v0).setCell ⟨g, o + 1, none⟩ v1).setCell ⟨g, o + 2, none⟩ v2).setCell ⟨g, o + 3, none⟩ v3) lo hi :=
  turned_setW w g o [v0, v1, v2, v3] h1 h2
end Go.Proofs.YtoaifodmjkhiiaaDoor
/- UoP: The program's own UnitsOf and LeftOf. -/
namespace Go.Proofs.YtoaifodmjkhiiaaDoor
set_option maxRecDepth 100000
open Go.RowKit BigFrame
attribute [local go_sem ↓] Go.wp_at_zero Go.wp_at_succ

theorem implSchU (s : Int) (w : World) : Calls Tryd.prog 30 #[.int .i64 s] w fun e w' => SchB s w e w' := by
  cases h : schOk s with
  | true =>
    obtain rfl | rfl | rfl := sch_cases h
    all_goals
      clear h
      go_enter Tryd.func30, Tryd.ntmps30
      go_wp2_with fail
      go_ret3
      exact ⟨rfl, Below.refl _ _⟩
  | false =>
    obtain ⟨h1, h2, h3⟩ := sch_no h
    obtain ⟨e1, e2⟩ := sch_zero h
    unfold SchB
    rw [e1, e2, h]
    clear h e1 e2
    go_enter Tryd.func30, Tryd.ntmps30
    go_wp2_with fail
    go_ret3
    exact ⟨rfl, Below.refl _ _⟩
set_option maxRecDepth 100000 in
set_option maxHeartbeats 2000000 in
theorem implFirst (a : Option Addr) (rs : List HoR) (cap : Nat) (g i : Int) (w : World) (htab : SumTab w) (hr : HsRow w a rs) (hl : rs.length ≤ 1048576) (hz : hsSum (hms rs) ≤ 1048576) :
    Calls Tryd.prog 31 #[.slice a rs.length cap, .int .i64 g, .int .i64 i] w fun e w' => e = .returned (.tuple #[.string (firstU (hms rs) g i).1, .bool (firstU (hms rs) g i).2]) ∧ Below w.heap.size w w' := by
  obtain ⟨n, hn⟩ : ∃ n, n = rs.length := ⟨_, rfl⟩
  have HN := Shut.mk hn
  have HR := Shut.mk (And.intro hr (And.intro hz htab))
  obtain ⟨F, hF⟩ : ∃ q, q = firstU (hms rs) g i := ⟨_, rfl⟩
  have HF := Shut.mk hF
  rw [← hn, ← hF]
  rw [← hn] at hl
  clear hr hz htab hn hF
  go_enter Tryd.func31, Tryd.ntmps31
  go_wp2_with fail
  go_loopw [14] (fun j9 wr => ∃ (j : Nat), j9 = .int .i64 (j : Nat) ∧ j ≤ n ∧ Shut ((firstU ((hms rs).take j) g i).2 = false ∧ Below w.heap.size w wr)) (fun j9 _ => n - (intOf j9).toNat)
  case atStart => exact ⟨0, rfl, Nat.zero_le _, ⟨by simp [firstU], Below.refl _ _⟩⟩
  case round =>
    obtain ⟨j, rfl, hj, HW⟩ := hrel
    by_cases hlt : j < n
    case neg =>
      obtain rfl : n = j := by omega
      have HE : Shut (F = (⟨#[]⟩, false)) := ⟨by
        have q := firstU_none HW.out.1
        rw [List.take_of_length_le (by rw [hms_len, HN.out]; exact Nat.le_refl _)] at q
        rw [HF.out, q]⟩
      go_wp2_with fail
      go_ret2
      exact ⟨by rw [HE.out]; rfl, HW.out.2⟩
    have hjr : j < rs.length := by rw [← HN.out]; exact hlt
    have j0 : (0 : Int) ≤ (j : Int) := by omega
    have j1 : (j : Int) < (n : Int) := by omega
    have HNX := Shut.mk (firstU_take (hs := hms rs) (k := j) (by rw [hms_len]; exact hjr) g i HW.out.1)
    obtain ⟨b, off, r, rfl, hre, lb, hc⟩ := hs_at HR.out.1 HW.out.2 hjr
    obtain ⟨d0, d1, d2, d3⟩ := hc wr (Below.refl _ _)
    have hme : (hms rs)[j]'(by rw [hms_len]; exact hjr) = r.h := by rw [hre]; simp [hms]
    rw [hme] at HNX
    have hsm := hsSum_mem (hs := hms rs) (h := r.h) (by rw [← hme]; exact List.getElem_mem _)
    have hsz := HR.out.2.1
    have HGU := Shut.mk (fun W (hW : Below wr.heap.size wr W) => implGetUnit r.h r.loc r.cap g i W (HR.out.2.2.stays (HW.out.2.trans (hW.mono HW.out.2.size))) (d3.stays hW) (by omega) (by omega))
    obtain ⟨⟨rid, rup, rus⟩, rl, rc⟩ := r
    dsimp only [hov] at *
    obtain ⟨q, hq⟩ : ∃ q, q = rus.length := ⟨_, rfl⟩
    rw [← hq] at d2 HGU
    cases hgb : (getX ⟨rid, rup, rus⟩ g i).2 with
    | false =>
      rw [hgb] at HGU
      rw [← HNX.out] at hgb
      have HX := Shut.mk hgb
      generalize (getX ⟨rid, rup, rus⟩ g i).1 = gt at HGU
      clear hc hre hme hq hsm hsz d3 HNX hgb
      go_wp2_with (go_at_call 42; refine (HGU.out _ ((Below.refl _ _).alloc (Nat.le_refl _) _)).mono ?_; rintro e w2 ⟨rfl, hb2⟩; have HB2 := Shut.mk (HW.out.2.trans ((((Below.refl wr.heap.size wr).alloc (Nat.le_refl _) _).trans (hb2.mono (by simp))).mono HW.out.2.size)); clear hb2)
      go_roundw
      case rel => exact ⟨j + 1, by go_num, by omega, ⟨HX.out, HB2.out⟩⟩
      case measure => simp [intOf]; omega
    | true =>
      rw [hgb] at HGU
      have HX : Shut (F = getX ⟨rid, rup, rus⟩ g i) := ⟨by rw [HF.out, ← HNX.out]; exact firstU_stop g i (by rw [HNX.out]; exact hgb)⟩
      have HX2 : Shut (F.2 = true) := ⟨by rw [HX.out]; exact hgb⟩
      rw [← HX.out] at HGU
      obtain ⟨gt, hgt⟩ : ∃ q, q = F.1 := ⟨_, rfl⟩
      rw [← hgt] at HGU
      have HGT := Shut.mk hgt
      clear hc hre hme hq hsm hsz d3 HNX hgb hgt
      go_wp2_with (go_at_call 42; refine (HGU.out _ ((Below.refl _ _).alloc (Nat.le_refl _) _)).mono ?_; rintro e w2 ⟨rfl, hb2⟩; have HB2 := Shut.mk (HW.out.2.trans ((((Below.refl wr.heap.size wr).alloc (Nat.le_refl _) _).trans (hb2.mono (by simp))).mono HW.out.2.size)); clear hb2)
      go_ret2
      exact ⟨by rw [HX2.out, ← HGT.out]; rfl, HB2.out⟩
theorem own_any9 {W : World} {B ty sz n : Nat} {v : Value} {L : List Value} (h : W.ownsRow B ty sz v n L) : ∃ a c, v = .slice a n c := by
  rcases h.2 with ⟨rfl, h0⟩ | ⟨g, cap, cur, e, _⟩
  · exact ⟨none, 0, by rw [h0]⟩
  · exact ⟨_, _, e⟩
/-- Two rows of one's own that are made longer in turn. -/
structure TwoR (w W : World) (v u : Value) (kt kb : Nat) (T : List ByteArray) (Bs : List Bool) : Prop where
  bel : Below w.heap.size w W
  t : W.ownsRow w.heap.size 9 1 v kt (tv T)
  b : W.ownsRow w.heap.size 4 1 u kb (bcs Bs)
  ne : ∀ q, v.ownBlock = some q → u.ownBlock ≠ some q
theorem TwoR.below {w W W' : World} {v u : Value} {kt kb : Nat} {T : List ByteArray} {Bs : List Bool} (h : TwoR w W v u kt kb T Bs) (hb : Below W.heap.size W W') : TwoR w W' v u kt kb T Bs :=
  ⟨h.bel.trans (hb.mono h.bel.size), h.t.kept (row := none) ⟨hb.os, hb.tape, hb.output, hb.size, fun k hk _ => hb.block k hk⟩ (Classical.em _), h.b.kept (row := none) ⟨hb.os, hb.tape, hb.output, hb.size, fun k hk _ => hb.block k hk⟩ (Classical.em _), h.ne⟩
theorem own_ne {W : World} {B ty sz n : Nat} {v : Value} {L : List Value} (_ : W.ownsRow B ty sz v n L) {row : Option Nat} (hr : ∀ q, v.ownBlock = some q → row ≠ some q) : v.ownBlock = none ∨ v.ownBlock ≠ row := by
  cases e : v.ownBlock with
  | none => exact .inl rfl
  | some q => exact .inr fun e2 => hr q e e2.symm
theorem TwoR.moreT {w W Wa W' : World} {v u v' : Value} {kt kb k' : Nat} {T T' : List ByteArray} {Bs : List Bool} (h : TwoR w W v u kt kb T Bs) (hb : Below W.heap.size W Wa) (ho : W'.ownsRow w.heap.size 9 1 v' k' (tv T')) (hg : Wa.grownBy W' v.ownBlock) (hat : v'.ownBlock = v.ownBlock ∨ v'.ownBlock = some Wa.heap.size) : TwoR w W' v' u k' kb T' Bs := by
  have k := h.below hb
  refine ⟨k.bel.grown hg k.bel.size (fun q e => (k.t.lt q e).1), ho, k.b.kept hg (own_ne k.b fun q e e2 => h.ne q e2 e), fun q e e2 => ?_⟩
  rcases hat with q1 | q1
  · rw [q1] at e; exact h.ne q e e2
  · rw [q1] at e
    have := (k.b.lt q e2).2
    have : Wa.heap.size = q := by simpa using e
    omega
theorem TwoR.moreB {w W Wa W' : World} {v u u' : Value} {kt kb k' : Nat} {T : List ByteArray} {Bs B' : List Bool} (h : TwoR w W v u kt kb T Bs) (hb : Below W.heap.size W Wa) (ho : W'.ownsRow w.heap.size 4 1 u' k' (bcs B')) (hg : Wa.grownBy W' u.ownBlock) (hat : u'.ownBlock = u.ownBlock ∨ u'.ownBlock = some Wa.heap.size) : TwoR w W' v u' kt k' T B' := by
  have k := h.below hb
  refine ⟨k.bel.grown hg k.bel.size (fun q e => (k.b.lt q e).1), k.t.kept hg (own_ne k.t fun q e e2 => h.ne q e e2), ho, fun q e e2 => ?_⟩
  rcases hat with q1 | q1
  · rw [q1] at e2; exact h.ne q e e2
  · rw [q1] at e2
    have := (k.t.lt q e).2
    have : Wa.heap.size = q := by simpa using e2
    omega
theorem TwoR.post {w W : World} {a b : Option Addr} {n c d : Nat} {T : List ByteArray} {Bs : List Bool} (h : TwoR w W (.slice a n c) (.slice b n d) n n T Bs) (hT : T.length = n) (hB : Bs.length = n) : UPost T Bs w (.returned (.tuple #[.slice a n c, .slice b n d])) W := by
  obtain ⟨f1, c1⟩ := FRw.of_own h.t
  obtain ⟨f2, _⟩ := FRw.of_own h.b
  refine upost_mk hT hB c1 h.bel ?_
  rcases f1 with ⟨_, e⟩ | ⟨g, e, q1, q2, q3⟩
  · left
    have := congrArg List.length e
    rw [tv_len, hT] at this
    exact this
  · rcases f2 with ⟨_, e'⟩ | ⟨g', e', q1', q2', q3'⟩
    · left
      have := congrArg List.length e'
      rw [bcs_len, hB] at this
      exact this
    · exact .inr ⟨g, g', e, e', fun q => h.ne g (by rw [e]; rfl) (by rw [e', q]; rfl), q1, q1', q3, q3'⟩
theorem infoStrP : (Tryd.prog.info? 9).map (fun i => (i.zero, i.size, i.bytes)) = some (some (.string ⟨#[]⟩), 1, 16) := by kernel_rfl
set_option maxRecDepth 100000 in
set_option maxHeartbeats 4000000 in
theorem implUnitsOf (a : Option Addr) (rs : List HoR) (cap : Nat) (s g : Int) (w : World) (htab : SumTab w) (hr : HsRow w a rs) (hl : rs.length ≤ 1048576) (hz : hsSum (hms rs) ≤ 1048576) :
    Calls Tryd.prog 9 #[.slice a rs.length cap, .int .i64 s, .int .i64 g] w fun e w' => UPost (unitsT (hms rs) s g) (unitsB (hms rs) s g) w e w' := by
  obtain ⟨i0, hi, hz0, hz1, hz2⟩ := info_parts infoStrP
  obtain ⟨i1, hi', hy0, hy1, hy2⟩ := info_parts infoBoolG
  have HSC := Shut.mk (fun W => implSchU s W)
  have HFI : Shut (∀ (k : Nat) W, Below w.heap.size w W → Calls Tryd.prog 31 #[.slice a rs.length cap, .int .i64 g, .int .i64 (k : Nat)] W fun e w' => e = .returned (.tuple #[.string (firstU (hms rs) g (k : Nat)).1, .bool (firstU (hms rs) g (k : Nat)).2]) ∧ Below W.heap.size W w') := ⟨fun k W hW => implFirst a rs cap g (k : Nat) W (htab.stays hW) (hr.stays hW) hl hz⟩
  obtain ⟨T, hT⟩ : ∃ q, q = unitsT (hms rs) s g := ⟨_, rfl⟩
  obtain ⟨Bs, hBs⟩ : ∃ q, q = unitsB (hms rs) s g := ⟨_, rfl⟩
  obtain ⟨m, hm⟩ : ∃ q, q = schN s := ⟨_, rfl⟩
  have hm6 : m ≤ 6 := by rw [hm]; exact schN_le s
  have HTL : Shut (T.length = m ∧ Bs.length = m) := ⟨by rw [hT, hBs, hm]; exact ⟨unitsT_len _ _ _, unitsB_len _ _ _⟩⟩
  have HTA : Shut (∀ k, k < m → tv (T.take (k + 1)) = tv (T.take k) ++ [.string (firstU (hms rs) g (k : Nat)).1] ∧ bcs (Bs.take (k + 1)) = bcs (Bs.take k) ++ [.bool (firstU (hms rs) g (k : Nat)).2]) := ⟨fun k hk => by
    have e1 : T[k]? = some (firstU (hms rs) g (k : Nat)).1 := by rw [hT]; unfold unitsT unitsL; simp [← hm, hk]
    have e2 : Bs[k]? = some (firstU (hms rs) g (k : Nat)).2 := by rw [hBs]; unfold unitsB unitsL; simp [← hm, hk]
    obtain ⟨l1, e1⟩ := List.getElem?_eq_some_iff.1 e1
    obtain ⟨l2, e2⟩ := List.getElem?_eq_some_iff.1 e2
    rw [List.take_succ_eq_append_getElem l1, List.take_succ_eq_append_getElem l2, e1, e2]
    exact ⟨by simp [tv], by simp [bcs]⟩⟩
  rw [← hT, ← hBs]
  have HM : Shut (m = schK s + schM s) := ⟨by rw [hm]; rfl⟩
  unfold SchB at HSC
  generalize rs.length = n at *
  generalize schK s = ka at *
  generalize schM s = kb at *
  generalize schOk s = kc at *
  have hkm : (ka : Int) + (kb : Int) = (m : Int) := by have := HM.out; omega
  clear hr hz hT hBs hm htab
  go_enter Tryd.func9, Tryd.ntmps9
  go_wp2_with (go_at_call 30; refine (HSC.out _).mono ?_; rintro e w1 ⟨rfl, hb1⟩; have HB1 := Shut.mk hb1; clear hb1)
  go_loopw [11, 12, 25] (fun v u i9 wr => ∃ (k : Nat), i9 = .int .i64 (k : Nat) ∧ k ≤ m ∧ Shut (TwoR w wr v u k k (T.take k) (Bs.take k))) (fun _ _ i9 _ => m - (intOf i9).toNat)
  case atStart => exact ⟨0, rfl, Nat.zero_le _, ⟨⟨HB1.out, by simp [tv]; exact World.ownsRow_nil _ _ _ _, by simp [bcs]; exact World.ownsRow_nil _ _ _ _, fun q e => by cases e⟩⟩⟩
  case round =>
    clear HB1
    obtain ⟨k, rfl, hk, HW⟩ := hrel
    obtain ⟨av, cv, rfl⟩ := own_any9 HW.out.t
    obtain ⟨bv, dv, rfl⟩ := own_any9 HW.out.b
    by_cases hlt : k < m
    case neg =>
      obtain rfl : m = k := by omega
      have HE := HW.out
      rw [List.take_of_length_le (Nat.le_of_eq HTL.out.1), List.take_of_length_le (Nat.le_of_eq HTL.out.2)] at HE
      replace HE := Shut.mk HE
      go_wp2_with fail
      go_ret2
      exact HE.out.post HTL.out.1 HTL.out.2
    have k1 : (k : Int) < (m : Int) := by omega
    have HCA := Shut.mk (HFI.out k wr HW.out.bel)
    have HNX := Shut.mk (HTA.out k hlt)
    generalize firstU (hms rs) g (k : Nat) = F at *
    obtain ⟨ft, fb⟩ := F
    dsimp only at HCA HNX
    go_wp2_with (first
      | (go_at_call 31; refine HCA.out.mono ?_; rintro e w2 ⟨rfl, hb2⟩; have HW2 := Shut.mk (HW.out.below hb2); clear hb2; have hown := HW2.out.t; have hsz := HW2.out.bel.size)
      | (at_builtin; refine wpList_append_own_at _ rfl _ _ 24 rfl w.heap.size 9 i0 (.string ⟨#[]⟩) 1 16 Tryd.underlying24 hi hz0 hz1 hz2 rfl (by decide) _ _ _ rfl (hown.alloc _) ⟨w2.heap.size, 0, none⟩ 1 1 [.string ft] rfl rfl (cell_one_new _ _ _) ?c2 ?c3 ?c4 ?c5 ?_))
    case c2 => simp [Value.oneCell']
    case c3 => unfold maxLen; omega
    case c4 => omega
    case c5 => first | omega | (simp; omega)
    intro v9 w9 ho hg _ hat
    rw [← HNX.out.1] at ho
    have HT9 := Shut.mk (HW2.out.moreT ((Below.refl _ _).alloc (Nat.le_refl _) _) ho hg (by simpa using hat))
    clear ho hg hat hown hsz
    have hown := HT9.out.b
    have hsz := HT9.out.bel.size
    go_wp2_with (at_builtin; refine wpList_append_own_at _ rfl _ _ 25 rfl w.heap.size 4 i1 (.bool false) 1 1 Tryd.underlying25 hi' hy0 hy1 hy2 rfl (by decide) _ _ _ rfl (hown.alloc _) ⟨w9.heap.size, 0, none⟩ 1 1 [.bool fb] rfl rfl (cell_one_new _ _ _) ?c2 ?c3 ?c4 ?c5 ?_)
    case c2 => simp [Value.oneCell']
    case c3 => unfold maxLen; omega
    case c4 => omega
    case c5 => first | omega | (simp; omega)
    intro u9 w10 ho hg _ hat
    rw [← HNX.out.2] at ho
    have HB9 := Shut.mk (HT9.out.moreB ((Below.refl _ _).alloc (Nat.le_refl _) _) ho hg (by simpa using hat))
    clear ho hg hat hown hsz
    go_wp2_with fail
    go_roundw
    case rel => exact ⟨k + 1, by go_num, by omega, HB9⟩
    case measure => simp [intOf]; omega
set_option maxRecDepth 100000 in
set_option maxHeartbeats 2000000 in
theorem implLeftOf (a : Option Addr) (rs : List HoR) (cap : Nat) (s g : Int) (w : World) (htab : SumTab w) (hr : HsRow w a rs) (hl : rs.length ≤ 1048576) (hz : hsSum (hms rs) ≤ 1048576) :
    Calls Tryd.prog 19 #[.slice a rs.length cap, .int .i64 s, .int .i64 g] w fun e w' => e = .returned (.int .i64 (leftX (hms rs) s g : Nat)) ∧ Below w.heap.size w w' := by
  have HU := Shut.mk (implUnitsOf a rs cap s g w htab hr hl hz)
  have HBL := Shut.mk (unitsB_len (hms rs) s g)
  have hm6 := schN_le s
  unfold leftX
  generalize unitsB (hms rs) s g = Bs at *
  generalize unitsT (hms rs) s g = T at *
  generalize schN s = m at *
  generalize rs.length = n at *
  unfold UPost at HU
  clear hr hl hz htab
  go_enter Tryd.func19, Tryd.ntmps19
  go_wp2_with (go_at_call 9; refine HU.out.mono ?_; rintro e w1 ⟨v, u, l1, h1, l2, h2, rfl, _, hB, _, _, _, _, _, hb⟩; obtain ⟨bv, dv, rfl, hrow⟩ := hB.see; have HB := Shut.mk (And.intro hrow.crow hb); clear hB hrow hb; rw [HBL.out])
  go_loopw [9, 21] (fun c9 i9 wr => ∃ (k z : Nat), i9 = .int .i64 (k : Nat) ∧ c9 = .int .i64 (z : Nat) ∧ k ≤ m ∧ z ≤ k ∧ wr = w1 ∧ Shut (z = (Bs.take k).count true)) (fun _ i9 _ => m - (intOf i9).toNat)
  case atStart => exact ⟨0, 0, rfl, rfl, Nat.zero_le _, Nat.zero_le _, rfl, ⟨by simp⟩⟩
  case round =>
    obtain ⟨k, z, rfl, rfl, hk, hzk, rfl, HZ⟩ := hrel
    by_cases hlt : k < m
    case neg =>
      obtain rfl : m = k := by omega
      have HE : Shut (z = Bs.count true) := ⟨by rw [HZ.out, List.take_of_length_le (Nat.le_of_eq HBL.out)]⟩
      go_wp2_with fail
      go_ret
      exact ⟨by rw [← HE.out]; rfl, HB.out.2⟩
    have k0 : (0 : Int) ≤ (k : Int) := by omega
    have k1 : (k : Int) < (m : Int) := by omega
    have hkb : k < Bs.length := by rw [HBL.out]; exact hlt
    obtain ⟨b, off, rfl, lb, hc⟩ := crow_bool HB.out.1 (by omega)
    have d0 := hc k hkb
    have HST := Shut.mk (count_step Bs k hkb)
    cases hq : Bs.getD k false with
    | true =>
      rw [hq] at d0 HST
      have HZ2 : Shut (z + 1 = (Bs.take (k + 1)).count true) := ⟨by rw [HST.out, HZ.out]; simp⟩
      clear hc hq HST
      go_wp2_with fail
      go_roundw
      case rel => exact ⟨k + 1, z + 1, by go_num, by go_num, by omega, by omega, by first | rfl | trivial, HZ2⟩
      case measure => simp [intOf]; omega
    | false =>
      rw [hq] at d0 HST
      have HZ2 : Shut (z = (Bs.take (k + 1)).count true) := ⟨by rw [HST.out, HZ.out]; simp⟩
      clear hc hq HST
      go_wp2_with fail
      go_roundw
      case rel => exact ⟨k + 1, z, by go_num, rfl, by omega, by omega, by first | rfl | trivial, HZ2⟩
      case measure => simp [intOf]; omega
end Go.Proofs.YtoaifodmjkhiiaaDoor
/- OpenM: Rows of numbers, of rows of numbers, and of texts, that came in. -/
namespace Go.Proofs.YtoaifodmjkhiiaaDoor
set_option maxRecDepth 100000
open Go.RowKit Go.Deep Go.ChangeShapes Go.WideShapes

theorem cells_int : Tryd.prog.cellsOf 3 = 1 := by kernel_rfl
theorem cells_ints : Tryd.prog.cellsOf 97 = 1 := by kernel_rfl
theorem cells_str : Tryd.prog.cellsOf 9 = 1 := by kernel_rfl
/-- A row out of its elements. -/
theorem rows_from {α : Type} [Inhabited α] {en : α → List Value} {sz : Nat} (hsz : ∀ x, (en x).length = sz) (hp0 : 0 < sz) {W : World} {ad : Addr} {len : Nat} {Pr : α → Prop}
    (each : ∀ i, i < len → ∃ f : α, (∀ r v, (en f)[r]? = some v → W.cell? (ad.add (i * sz + r)) = some v) ∧ Pr f) : ∃ xs : List α, xs.length = len ∧ CRow W (some ad) (xs.flatMap en) ∧ ∀ f ∈ xs, Pr f := by
  obtain ⟨F, hF⟩ := choose_lt each
  have hlen : ((List.range len).map F).length = len := by simp
  have hget : ∀ j (hj : j < ((List.range len).map F).length), ((List.range len).map F)[j] = F j := by intro j hj; simp
  refine ⟨(List.range len).map F, hlen, ?_, ?_⟩
  · intro hp
    rw [flat_len hsz, hlen] at hp
    have hl0 : 0 < len := Nat.pos_of_ne_zero fun e => by rw [e] at hp; simp at hp
    have h00 : ∃ v, (en (F 0))[0]? = some v := by
      have : 0 < (en (F 0)).length := by rw [hsz]; exact hp0
      exact ⟨_, List.getElem?_eq_getElem this⟩
    obtain ⟨v0, hv0⟩ := h00
    have c0 := (hF 0 hl0).1 0 v0 hv0
    have hs : ad.spot = none := by
      have := World.cell?_spot c0
      simpa [Addr.add] using this
    obtain ⟨b, off, spot⟩ := ad
    simp only at hs
    subst hs
    have hadd : ∀ i, (⟨b, off, none⟩ : Addr).add i = ⟨b, off + i, none⟩ := by intro i; cases i <;> simp [Addr.add]
    refine ⟨b, off, rfl, ?_, fun i v hv => ?_⟩
    · by_cases hb : b < W.heap.size
      · exact hb
      · unfold World.cell? at c0
        rw [hadd, Array.getElem?_eq_none (by simpa using hb)] at c0
        simp at c0
    · have hi : i < (((List.range len).map F).flatMap en).length := (List.getElem?_eq_some_iff.1 hv).1
      rw [flat_len hsz, hlen] at hi
      have hq : i / sz < len := Nat.div_lt_of_lt_mul (by rwa [Nat.mul_comm] at hi)
      have hr := Nat.mod_lt i hp0
      have ei : i = i / sz * sz + i % sz := by rw [Nat.mul_comm]; exact (Nat.div_add_mod i sz).symm
      have hj : i / sz < ((List.range len).map F).length := by rw [hlen]; exact hq
      have l1 := flat_get hsz ((List.range len).map F) (i / sz) hj (i % sz) hr
      rw [hget _ hj, ← ei] at l1
      have := (hF (i / sz) hq).1 (i % sz) v (by rw [← l1]; exact hv)
      rw [← ei, hadd] at this
      exact this
  · intro f hf
    obtain ⟨j, hj, rfl⟩ := List.mem_map.1 hf
    exact (hF j (by simpa using hj)).2
theorem ics_flats (xs : List Int) : ics xs = xs.flatMap fun x => [.int .i64 x] := by
  unfold ics
  induction xs with
  | nil => rfl
  | cons x xs ih => simp [ih]
set_option maxRecDepth 100000 in
theorem open_row {H : Type} {enc : TypeId × Value → H} {W : World} {base : Nat} {spare : Nat → Bool} {held : Bool} {fuel : Nat} {cs : List Value} {x : DataW H × List MemPlace}
    (h : DataW.trod enc Tryd.prog W base spare held fuel 97 cs = some x) : ∃ s : SR, cs = [srv s] ∧ CRow W s.loc (ics s.row) ∧ s.row.length ≤ 9223372036854775807 := by
  rcases open_slice Tryd.underlying97 h with ⟨rfl, _⟩ | ⟨ad, len, cap, m, n, D, Pl, rfl, hb, hl, hm, hmm, _, hx⟩
  · exact ⟨⟨none, [], 0⟩, rfl, fun h => by simp [ics] at h, by simp⟩
  · have hlm : len ≤ m := by rw [hmm]; split <;> omega
    have each : ∀ i, i < len → ∃ f : Int, (∀ r v, ([.int .i64 f] : List Value)[r]? = some v → W.cell? (ad.add (i * 1 + r)) = some v) ∧ True := by
      intro i hi
      obtain ⟨cs', h1, h2⟩ := hx i (by omega)
      rw [cells_int] at h1
      obtain ⟨_, hlen, hcell⟩ := World.cells?_some h1
      obtain ⟨q, e2, _, z2⟩ := DataW.trod_int Tryd.underlying3 h2
      have c0 := hcell 0 (by omega)
      rw [add_add] at c0
      subst e2
      refine ⟨q, fun r v hv => ?_, trivial⟩
      match r, hv with
      | 0, hv => simp at hv; subst hv; simpa using c0
    obtain ⟨xs, hxl, hrow, _⟩ := rows_from (en := fun x => [.int .i64 x]) (fun _ => rfl) (by decide) each
    rw [← ics_flats] at hrow
    exact ⟨⟨some ad, xs, cap⟩, by simp only [srv]; rw [hxl], hrow, by show xs.length ≤ _; rw [hxl]; unfold maxLen at hm; omega⟩
theorem svs_flat (ss : List SR) : svs ss = ss.flatMap fun s => [srv s] := by
  unfold svs
  induction ss with
  | nil => rfl
  | cons x xs ih => simp [ih]
set_option maxRecDepth 100000 in
theorem open_intSS {H : Type} {enc : TypeId × Value → H} {W : World} {r : Reach} {b0 base : Nat} {spare : Nat → Bool} {held : Bool} {v : Value} {d : DataW H} {p : List MemPlace}
    (hv : Value.okWide Tryd.prog W r b0 113 v) (h : DataW.Trod enc Tryd.prog W base spare held 113 v d p) : ∃ a ss cap, v = .slice a (List.length (α := SR) ss) cap ∧ MR W a ss 0 W.heap.size ∧ (ss.length ≤ 9223372036854775807 ∧ ∀ s ∈ ss, s.row.length ≤ 9223372036854775807) := by
  obtain ⟨va, vl, vc, rfl⟩ := okWide_slice Tryd.underlying113 hv
  obtain ⟨fuel, h⟩ := h
  rcases open_slice Tryd.underlying113 h with ⟨e, _⟩ | ⟨ad, len, cap, m, n, D, Pl, e, hb, hl, hm, hmm, _, hx⟩
  · simp only [Value.cells, List.cons.injEq, and_true, Value.slice.injEq] at e
    obtain ⟨rfl, rfl, rfl⟩ := e
    exact ⟨none, [], 0, rfl, MR.nil _ _ _ _, by simp, by simp⟩
  · have hlm : len ≤ m := by rw [hmm]; split <;> omega
    have each : ∀ i, i < len → ∃ s : SR, (∀ r v, ([srv s] : List Value)[r]? = some v → W.cell? (ad.add (i * 1 + r)) = some v) ∧ CRow W s.loc (ics s.row) ∧ s.row.length ≤ 9223372036854775807 := by
      intro i hi
      obtain ⟨cs', h1, h2⟩ := hx i (by omega)
      rw [cells_ints] at h1
      obtain ⟨_, hlen, hcell⟩ := World.cells?_some h1
      obtain ⟨s, e2, hc, hz⟩ := open_row h2
      have c0 := hcell 0 (by omega)
      rw [add_add] at c0
      subst e2
      refine ⟨s, fun r v hv => ?_, hc, hz⟩
      match r, hv with
      | 0, hv => simp at hv; subst hv; simpa using c0
    obtain ⟨ss, hxl, hrow, hall⟩ := rows_from (en := fun s => [srv s]) (fun _ => rfl) (by decide) each
    rw [← svs_flat] at hrow
    simp only [Value.cells, List.cons.injEq, and_true, Value.slice.injEq] at e
    obtain ⟨rfl, rfl, rfl⟩ := e
    exact ⟨some ad, ss, vc, by rw [hxl], ⟨RRow.of_crow hrow, fun s hs => RRow.of_crow (hall s hs).1⟩, by rw [hxl]; unfold maxLen at hm; omega, fun s hs => (hall s hs).2⟩
end Go.Proofs.YtoaifodmjkhiiaaDoor
/- UnRo: Units, and rows of them, that came in (written by gen/mkrow.py). -/
namespace Go.Proofs.YtoaifodmjkhiiaaDoor
set_option maxRecDepth 100000
open Go.RowKit Go.Deep Go.ChangeShapes Go.WideShapes
theorem cellsLUnit : Tryd.prog.cellsOf 85 = 4 := by kernel_rfl
theorem cellsTUnit : Tryd.prog.cellsOf 9 = 1 := by kernel_rfl
theorem cellsNUnit : Tryd.prog.cellsOf 3 = 1 := by kernel_rfl
set_option maxRecDepth 100000 in
theorem openUnit_cells {H : Type} {enc : TypeId × Value → H} {W : World} {base : Nat} {spare : Nat → Bool} {held : Bool} {n : Nat} {cs : List Value} {x : DataW H × List MemPlace} (h : DataW.trod enc Tryd.prog W base spare held n 85 cs = some x) :
    ∃ f : UnM, cs = unC f ∧ UnFit f := by
  obtain ⟨xs, k, _, rfl, hl, hlen, hf⟩ := DataW.trod_struct Tryd.underlying85 h
  rw [cellsLUnit] at hl
  match xs, hlen, cs, hl with
  | [y0, y1, y2, y3], _, [v0, v1, v2, v3], _ =>
    have g0 := hf 0 _ rfl
    have g1 := hf 1 _ rfl
    have g2 := hf 2 _ rfl
    have g3 := hf 3 _ rfl
    simp [cellsTUnit, cellsNUnit] at g0 g1 g2 g3
    obtain ⟨q0, e0, _, z0⟩ := DataW.trod_int Tryd.underlying3 g0
    obtain ⟨q1, e1, _, z1⟩ := DataW.trod_int Tryd.underlying3 g1
    obtain ⟨s2, e2, _, z2⟩ := DataW.trod_string Tryd.underlying9 g2
    obtain ⟨q3, e3, _, z3⟩ := DataW.trod_int Tryd.underlying3 g3
    simp only [List.cons.injEq, and_true] at e0 e1 e2 e3
    subst e0 e1 e2 e3
    unfold maxLen at z2
    exact ⟨⟨q0, q1, s2, q3⟩, rfl, by simpa using z2, bounds_i64 z0, bounds_i64 z1, bounds_i64 z3⟩
set_option maxRecDepth 100000 in
theorem openUnit {H : Type} {enc : TypeId × Value → H} {W : World} {r : Reach} {b0 base : Nat} {spare : Nat → Bool} {held : Bool} {v : Value} {d : DataW H} {p : List MemPlace}
    (hv : Value.okWide Tryd.prog W r b0 85 v) (h : DataW.Trod enc Tryd.prog W base spare held 85 v d p) : ∃ f : UnM, v = unv f ∧ UnFit f := by
  obtain ⟨cs, rfl, hsz⟩ := okWide_struct Tryd.underlying85 hv
  obtain ⟨fuel, h⟩ := h
  obtain ⟨f, e, hf⟩ := openUnit_cells h
  refine ⟨f, ?_, hf⟩
  have : cs.toList = unC f := by simpa [Value.cells] using e
  rw [show cs = (unC f).toArray by rw [← this]]
  rfl
/-- What a slice's cells hold. -/
theorem openUnitS_cells {H : Type} {enc : TypeId × Value → H} {W : World} {base : Nat} {spare : Nat → Bool} {held : Bool} {va : Option Addr} {vl vc fuel : Nat} {x : DataW H × List MemPlace}
    (h : DataW.trod enc Tryd.prog W base spare held fuel 50 [.slice va vl vc] = some x) : ∃ xs, vl = List.length (α := UnM) xs ∧ UnRow W va xs ∧ UnFits xs := by
  rcases open_slice Tryd.underlying50 h with ⟨e, _⟩ | ⟨ad, len, cap, m, n, D, Pl, e, hb, hl, hm, hmm, _, hx⟩
  · simp only [List.cons.injEq, and_true, Value.slice.injEq] at e
    obtain ⟨rfl, rfl, rfl⟩ := e
    exact ⟨[], rfl, fun h => by simp [unS] at h, by simp, by simp⟩
  · have hlm : len ≤ m := by rw [hmm]; split <;> omega
    have each : ∀ i, i < len → ∃ f : UnM, (∀ r v, (unC f)[r]? = some v → W.cell? (ad.add (i * 4 + r)) = some v) ∧ UnFit f := by
      intro i hi
      obtain ⟨cs', h1, h2⟩ := hx i (by omega)
      rw [cellsLUnit] at h1
      obtain ⟨_, hlen, hcell⟩ := World.cells?_some h1
      obtain ⟨f, rfl, hfit⟩ := openUnit_cells h2
      refine ⟨f, fun r v hv => ?_, hfit⟩
      have hr : r < (unC f).length := (List.getElem?_eq_some_iff.1 hv).1
      have c := hcell r (by rw [unC_len] at hr; omega)
      rw [add_add] at c
      rw [c]
      exact hv
    obtain ⟨xs, hxl, hrow, hall⟩ := rows_from (en := unC) unC_len (by decide) each
    simp only [List.cons.injEq, and_true, Value.slice.injEq] at e
    obtain ⟨rfl, rfl, rfl⟩ := e
    exact ⟨xs, by rw [hxl], hrow, by rw [hxl]; unfold maxLen at hm; omega, hall⟩
theorem openUnitS {H : Type} {enc : TypeId × Value → H} {W : World} {r : Reach} {b0 base : Nat} {spare : Nat → Bool} {held : Bool} {v : Value} {d : DataW H} {p : List MemPlace}
    (hv : Value.okWide Tryd.prog W r b0 50 v) (h : DataW.Trod enc Tryd.prog W base spare held 50 v d p) : ∃ a xs cap, v = .slice a (List.length (α := UnM) xs) cap ∧ UnRow W a xs ∧ UnFits xs := by
  obtain ⟨va, vl, vc, rfl⟩ := okWide_slice Tryd.underlying50 hv
  obtain ⟨fuel, h⟩ := h
  obtain ⟨xs, rfl, hr, hf⟩ := openUnitS_cells (by simpa only [Value.cells] using h)
  exact ⟨va, xs, vc, rfl, hr, hf⟩
end Go.Proofs.YtoaifodmjkhiiaaDoor
/- HoO: Hosts that came in. -/
namespace Go.Proofs.YtoaifodmjkhiiaaDoor
set_option maxRecDepth 100000
open Go.RowKit Go.Deep Go.ChangeShapes Go.WideShapes
theorem cellsLHost : Tryd.prog.cellsOf 52 = 3 := by kernel_rfl
theorem cellsBHost : Tryd.prog.cellsOf 4 = 1 := by kernel_rfl
theorem cellsSHost : Tryd.prog.cellsOf 50 = 1 := by kernel_rfl
/-- What a host's cells hold. -/
theorem openHost_cells {H : Type} {enc : TypeId × Value → H} {W : World} {base : Nat} {spare : Nat → Bool} {held : Bool} {n : Nat} {cs : List Value} {x : DataW H × List MemPlace} (h : DataW.trod enc Tryd.prog W base spare held n 52 cs = some x) :
    ∃ (f : HM) (a : Option Addr) (cap : Nat), cs = [.int .i64 f.id, .bool f.up, .slice a f.us.length cap] ∧ UnRow W a f.us ∧ UnFits f.us ∧ (-9223372036854775808 ≤ f.id ∧ f.id ≤ 9223372036854775807) := by
  obtain ⟨xs, k, _, rfl, hl, hlen, hf⟩ := DataW.trod_struct Tryd.underlying52 h
  rw [cellsLHost] at hl
  match xs, hlen, cs, hl with
  | [y0, y1, y2], _, [v0, v1, v2], _ =>
    have g0 := hf 0 _ rfl
    have g1 := hf 1 _ rfl
    have g2 := hf 2 _ rfl
    simp [cellsNUnit, cellsBHost, cellsSHost] at g0 g1 g2
    obtain ⟨q0, e0, _, z0⟩ := DataW.trod_int Tryd.underlying3 g0
    obtain ⟨q1, e1, _⟩ := DataW.trod_bool Tryd.underlying4 g1
    simp only [List.cons.injEq, and_true] at e0 e1
    subst e0 e1
    obtain ⟨va, vl, vc, rfl⟩ : ∃ va vl vc, v2 = .slice va vl vc := by
      rcases open_slice Tryd.underlying50 g2 with ⟨e, _⟩ | ⟨ad, len, cap, m, n, D, Pl, e, _⟩
      · simp only [List.cons.injEq, and_true] at e
        exact ⟨_, _, _, e⟩
      · simp only [List.cons.injEq, and_true] at e
        exact ⟨_, _, _, e⟩
    obtain ⟨us, rfl, hr, hu⟩ := openUnitS_cells g2
    exact ⟨⟨q0, q1, us⟩, va, vc, rfl, hr, hu, bounds_i64 z0⟩
theorem openHost {H : Type} {enc : TypeId × Value → H} {W : World} {r : Reach} {b0 base : Nat} {spare : Nat → Bool} {held : Bool} {v : Value} {d : DataW H} {p : List MemPlace}
    (hv : Value.okWide Tryd.prog W r b0 52 v) (h : DataW.Trod enc Tryd.prog W base spare held 52 v d p) : ∃ (f : HM) (a : Option Addr) (cap : Nat), v = hov f a cap ∧ UnRow W a f.us ∧ UnFits f.us ∧ (-9223372036854775808 ≤ f.id ∧ f.id ≤ 9223372036854775807) := by
  obtain ⟨cs, rfl, hsz⟩ := okWide_struct Tryd.underlying52 hv
  obtain ⟨fuel, h⟩ := h
  obtain ⟨f, a, cap, e, hr, hu, hi⟩ := openHost_cells h
  refine ⟨f, a, cap, ?_, hr, hu, hi⟩
  have : cs.toList = [.int .i64 f.id, .bool f.up, .slice a f.us.length cap] := by simpa [Value.cells] using e
  rw [show cs = #[.int .i64 f.id, .bool f.up, .slice a f.us.length cap] by rw [← this]]
end Go.Proofs.YtoaifodmjkhiiaaDoor
/- HsO: Rows of hosts that came in. -/
namespace Go.Proofs.YtoaifodmjkhiiaaDoor
set_option maxRecDepth 100000
open Go.RowKit Go.Deep Go.ChangeShapes Go.WideShapes
/-- What a slice's cells hold. -/
theorem openHostS_cells {H : Type} {enc : TypeId × Value → H} {W : World} {base : Nat} {spare : Nat → Bool} {held : Bool} {va : Option Addr} {vl vc fuel : Nat} {x : DataW H × List MemPlace}
    (h : DataW.trod enc Tryd.prog W base spare held fuel 22 [.slice va vl vc] = some x) : ∃ rs, vl = List.length (α := HoR) rs ∧ HsRow W va rs ∧ HsFits (hms rs) := by
  rcases open_slice Tryd.underlying22 h with ⟨e, _⟩ | ⟨ad, len, cap, m, n, D, Pl, e, hb, hl, hm, hmm, _, hx⟩
  · simp only [List.cons.injEq, and_true, Value.slice.injEq] at e
    obtain ⟨rfl, rfl, rfl⟩ := e
    exact ⟨[], rfl, ⟨fun h => by rw [hS_len] at h; simp at h, fun r hr => by cases hr⟩, by simp [hms], fun r hr => by cases hr⟩
  · have hlm : len ≤ m := by rw [hmm]; split <;> omega
    have each : ∀ i, i < len → ∃ f : HoR, (∀ r v, (hC f)[r]? = some v → W.cell? (ad.add (i * 3 + r)) = some v) ∧ (UnRow W f.loc f.h.us ∧ UnFits f.h.us ∧ -9223372036854775808 ≤ f.h.id ∧ f.h.id ≤ 9223372036854775807) := by
      intro i hi
      obtain ⟨cs', h1, h2⟩ := hx i (by omega)
      rw [cellsLHost] at h1
      obtain ⟨_, hlen, hcell⟩ := World.cells?_some h1
      obtain ⟨f, a, c, rfl, hr, hu, hi2⟩ := openHost_cells h2
      refine ⟨⟨f, a, c⟩, fun r v hv => ?_, hr, hu, hi2⟩
      have hr : r < 3 := (List.getElem?_eq_some_iff.1 hv).1
      have c := hcell r hr
      rw [add_add] at c
      rw [c]
      exact hv
    obtain ⟨xs, hxl, hrow, hall⟩ := rows_from (en := hC) hC_len (by decide) each
    simp only [List.cons.injEq, and_true, Value.slice.injEq] at e
    obtain ⟨rfl, rfl, rfl⟩ := e
    refine ⟨xs, by rw [hxl], ⟨hrow, fun r hr => (hall r hr).1⟩, by rw [hms_len, hxl]; unfold maxLen at hm; omega, fun h hh => ?_⟩
    obtain ⟨r, hr, rfl⟩ := List.mem_map.1 hh
    exact (hall r hr).2
theorem openHostS {H : Type} {enc : TypeId × Value → H} {W : World} {r : Reach} {b0 base : Nat} {spare : Nat → Bool} {held : Bool} {v : Value} {d : DataW H} {p : List MemPlace}
    (hv : Value.okWide Tryd.prog W r b0 22 v) (h : DataW.Trod enc Tryd.prog W base spare held 22 v d p) : ∃ a rs cap, v = .slice a (List.length (α := HoR) rs) cap ∧ HsRow W a rs ∧ HsFits (hms rs) := by
  obtain ⟨va, vl, vc, rfl⟩ := okWide_slice Tryd.underlying22 hv
  obtain ⟨fuel, h⟩ := h
  obtain ⟨xs, rfl, hr, hf⟩ := openHostS_cells (by simpa only [Value.cells] using h)
  exact ⟨va, xs, vc, rfl, hr, hf⟩
end Go.Proofs.YtoaifodmjkhiiaaDoor
