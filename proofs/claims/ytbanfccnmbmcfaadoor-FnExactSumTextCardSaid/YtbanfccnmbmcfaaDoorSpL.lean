/- The model's Spoil (written by gen/mkspoil.py). -/
import Derived.Test.YtbanfccnmbmcfaaDoorSpK
import Derived.Test.YtbanfccnmbmcfaaDoorBRowM
import Derived.Test.YtbanfccnmbmcfaaDoorFieldN
namespace Go.Proofs.YtbanfccnmbmcfaaDoor
set_option maxRecDepth 100000
open Go.RowKit BigFrame
attribute [local go_sem ↓] Go.wp_at_zero Go.wp_at_succ

theorem bits_one (x : UInt8) : bits .xor .u8 (x.toNat : Int) 1 = ((x ^^^ 1).toNat : Int) := by
  have h : ∀ y : Fin 256, bits .xor .u8 ((UInt8.ofNat y.val).toNat : Int) 1 = ((UInt8.ofNat y.val ^^^ 1).toNat : Int) := by decide +kernel
  have := h ⟨x.toNat, x.toNat_lt⟩
  simpa using this
theorem toList_none : (⟨#[]⟩ : ByteArray).toList = [] := by
  unfold ByteArray.toList ByteArray.toList.loop
  rfl
theorem set_same {α : Type} {Z : List α} {i : Nat} {v : α} (h : Z[i]? = some v) : Z.set i v = Z := by
  obtain ⟨hi, e⟩ := List.getElem?_eq_some_iff.1 h
  subst e
  exact List.set_getElem_self hi
theorem uns_text (us : List UnM) (k : Nat) (h : k < us.length) (T : ByteArray) : (unS us).set (k * 4 + 2) (.string T) = unS (us.set k ⟨us[k].group, us[k].index, T, us[k].sum⟩) := by
  have q := flat_setL unC_len us k h ⟨us[k].group, us[k].index, T, us[k].sum⟩
  have e0 : (unS us)[k * 4]? = some (.int .i64 us[k].group) := flat_get unC_len us k h 0 (by omega)
  have e1 : (unS us)[k * 4 + 1]? = some (.int .i64 us[k].index) := flat_get unC_len us k h 1 (by omega)
  have e3 : (unS us)[k * 4 + 3]? = some (.int .i64 us[k].sum) := flat_get unC_len us k h 3 (by omega)
  have q' : unS (us.set k ⟨us[k].group, us[k].index, T, us[k].sum⟩) = setL (unS us) (k * 4) (unC ⟨us[k].group, us[k].index, T, us[k].sum⟩) := q.symm
  rw [q']
  clear q q'
  generalize unS us = Z at *
  simp only [unC, setL]
  rw [set_same e0, set_same e1]
  exact (set_same (by rw [List.getElem?_set_ne (by omega)]; exact e3)).symm
abbrev byS (b : Nat) (l : List UInt8) : Str := ⟨fun W => BRow W b l, b, b + 1⟩
theorem BRow.turned {w w' : World} {g lo hi : Nat} {L : List UInt8} (h : BRow w g L) (t : Turned w w' lo hi) (hd : g < lo ∨ hi ≤ g) : BRow w' g L :=
  ⟨Nat.lt_of_lt_of_le h.1 t.size, fun i hi => ⟨(World.cell?_of_block (a := ⟨g, i, none⟩) (t.block g h.1 hd)).trans (h.2 i hi).1, (World.frozen?_of_block (a := ⟨g, i, none⟩) (t.block g h.1 hd)).trans (h.2 i hi).2⟩⟩
theorem byS.loc (b : Nat) (l : List UInt8) : (byS b l).Loc := fun _ _ _ _ h t hd => BRow.turned h t (by rcases hd with h | h <;> (dsimp only [byS] at h; omega))
set_option maxRecDepth 100000 in
set_option maxHeartbeats 8000000 in
theorem specSpoil (H : HM) (a : Option Addr) (cap : Nat) (g i at9 : Int) (w : World) (hr : UnRow w a H.us) (hl : H.us.length ≤ 1048576) (hz : unSum H.us ≤ 1048576) (ha : at9 ≤ 9223372036854775807) :
    Calls Tryd.prog 28 #[hov H a cap, .int .i64 g, .int .i64 i, .int .i64 at9] w fun e w' => HbPost (spoilX H g i at9) w e w' := by
  have HR := Shut.mk hr
  have HCP := Shut.mk (fun (W : World) (hb : Below w.heap.size w W) => specCopy14 H a cap W (hr.stays hb) hl)
  have HA := Shut.mk (fun (W : World) (hb : Below w.heap.size w W) => specAt14 H a cap g i W (hr.stays hb) hl)
  have HZ : Shut (∀ u ∈ H.us, u.text.size ≤ 1048576) := ⟨fun u hu => by have := unSum_mem hu; omega⟩
  unfold HoPost at HCP
  clear hr hz
  obtain ⟨id, up, us⟩ := H
  obtain ⟨RR, hRR⟩ : ∃ q, q = spoilX ⟨id, up, us⟩ g i at9 := ⟨_, rfl⟩
  rw [← hRR]
  have HQ := Shut.mk hRR
  unfold spoilX at HQ
  show Calls Tryd.prog 28 #[.agg #[.int .i64 id, .bool up, .slice a us.length cap], .int .i64 g, .int .i64 i, .int .i64 at9] w fun e w' => HbPost RR w e w'
  dsimp only [hov] at *
  obtain ⟨n, hn⟩ : ∃ n, n = us.length := ⟨_, rfl⟩
  have HN := Shut.mk hn
  rw [← hn] at HCP HA hl ⊢
  obtain ⟨ki, hki⟩ : ∃ q, q = atN us g i := ⟨_, rfl⟩
  rw [← hki] at HA
  have HK := Shut.mk hki
  clear hki hRR hn
  have HS0 := Shut.mk (((SL.start w).new #[.int .i64 id, .bool up, .slice a n cap] 26).new #[.int .i64 0, .bool false, .slice none 0 0] 26)
  simp only [World.size_alloc] at HS0
  go_enter Tryd.func28, Tryd.ntmps28
  go_upto_region 1 with fail
  refine wp_shade (fun W => SL w W [bxS (w.heap.size + 1) [.int .i64 0, .bool false, .slice none 0 0], bxS w.heap.size [.int .i64 id, .bool up, .slice a n cap]]) HS0.out ?_
  intro W0 hW
  have H := Shut.mk hW
  clear HS0 hW
  have x0 := (H.out.bx 1 rfl 0 _ rfl).1
  have x1 := (H.out.bx 1 rfl 1 _ rfl).1
  have x2 := (H.out.bx 1 rfl 2 _ rfl).1
  go_upto_region 2 with (go_at_call 48; refine (HCP.out _ H.out.bel).mono ?_; rintro e w1 ⟨ac, cc, rfl, hF, hcc, hb⟩; have HS1 := Shut.mk (H.out.add (s := rwS ac (unS us) W0.heap.size w1.heap.size) hb hF (rwS.loc _ _ _ _) (Nat.le_refl _) (Nat.le_refl _)); clear hF hb H x0 x1 x2)
  generalize W0.heap.size = lc at HS1
  obtain ⟨hc9, hhc⟩ : ∃ q, q = w1.heap.size := ⟨_, rfl⟩
  rw [← hhc] at HS1
  clear hhc
  obtain ⟨b6, hb6⟩ : ∃ q, q = w1.heap.size := ⟨_, rfl⟩
  refine wp_shade (fun W => SL w W [bxS b6 [.int .i64 id, .bool up, .slice ac n cc], rwS ac (unS us) lc hc9, bxS (w.heap.size + 1) [.int .i64 0, .bool false, .slice none 0 0], bxS w.heap.size [.int .i64 id, .bool up, .slice a n cap]]) (by rw [hb6]; exact HS1.out.new _ _) ?_
  intro W2 hW
  have H := Shut.mk hW
  rw [← hb6]
  clear hW hb6 HS1
  have x0 := (H.out.bx 3 rfl 0 _ rfl).1
  have x1 := (H.out.bx 3 rfl 1 _ rfl).1
  have x2 := (H.out.bx 3 rfl 2 _ rfl).1
  go_upto_region 3 with (go_at_call 44; refine (HA.out _ H.out.bel).mono ?_; rintro e w3 ⟨rfl, hb⟩; have HW := Shut.mk (H.out.below hb); clear hb x0 x1 x2 H)
  have lw := (show WCells w3 w.heap.size _ from HW.out.at 3 rfl).1
  have g2 : ∀ X : Grow w3, X.val.cell? ⟨w.heap.size, 2, none⟩ = some (.slice a n cap) := fun X => X.cell (HW.out.bx 3 rfl 2 _ rfl).1 lw
  by_cases hf : unIdx us g i < us.length
  case neg =>
    have hki : ki = -1 := by rw [HK.out, idx_no hf]
    have HE : Shut (RR = (⟨id, up, us⟩, false)) := ⟨by rw [HQ.out]; simp [hf]⟩
    subst hki
    clear hf
    refine wp_region_grow (by kernel_rfl) (by kernel_rfl) ?_
    repeat (go_big_quiet_step (fail))
    refine wpQuiet_nil ?_
    rintro _ ⟨X, rfl⟩
    have H := Shut.mk (HW.out.below X.bel)
    clear g2
    have z0 := (H.out.bx 0 rfl 0 _ rfl).1
    have z1 := (H.out.bx 0 rfl 1 _ rfl).1
    have z2 := (H.out.bx 0 rfl 2 _ rfl).1
    obtain ⟨r0, r0z⟩ := H.out.bx 2 rfl 0 _ rfl
    obtain ⟨r1, r1z⟩ := H.out.bx 2 rfl 1 _ rfl
    obtain ⟨r2, r2z⟩ := H.out.bx 2 rfl 2 _ rfl
    go_wp2_with fail
    have HE3 := Shut.mk ((((H.out.put 2 rfl 0 (.int .i64 id) (by simp)).put 2 rfl 1 (.bool up) (by simp)).put 2 rfl 2 (.slice ac n cc) (by simp)))
    refine bodyPost_ret (v := .tuple #[.agg #[.int .i64 id, .bool up, .slice ac n cc], .bool false]) (by simp [results, Tryd.results28, go_sem, r0, r1, r2]) rfl ?_
    rw [HE.out]
    have hs := HE3.out.is _ (List.mem_of_getElem? (show _[1]? = some (rwS ac (unS us) lc hc9) from rfl))
    exact ⟨_, cc, by rw [HN.out], frw_wide (show FRw _ _ (unS us) lc hc9 from hs.1) hs.2.2.1 hs.2.2.2, by have := HN.out; show us.length ≤ cc; omega, HE3.out.bel⟩
  obtain ⟨k, hk⟩ : ∃ k, k = unIdx us g i := ⟨_, rfl⟩
  have hki : ki = (k : Int) := by rw [HK.out, idx_lt hf, hk]
  rw [← hk] at hf
  obtain ⟨b, off, u, rfl, hu, lb, hc⟩ := un_at HR.out HW.out.bel hf
  have hut : u.text.size ≤ 1048576 := by rw [hu]; exact HZ.out _ (List.getElem_mem hf)
  have HQ2 : Shut (RR = if decide (0 ≤ at9) && !(u.text.toList == []) && unSound u then (⟨id, up, us.set k ⟨u.group, u.index, turnAt u.text (at9.toNat % u.text.size), u.sum⟩⟩, true) else (⟨id, up, us⟩, false)) := ⟨by
    rw [HQ.out, ← hk, getD_un us k hf, ← hu]; simp [hf]⟩
  have HSU := Shut.mk (fun X : Grow w3 => calls_same (w := w3) (fun W' (_ : Below w3.heap.size w3 W') => specSumText u.text W' hut) X)
  unfold unSound at HQ2
  generalize sumN u.text = sn at HQ2 HSU
  subst hki
  have k0 : (0 : Int) ≤ (k : Int) := by omega
  have k1 : (k : Int) < (n : Int) := by have := HN.out; omega
  have k2 : decide ((k : Int) < 0) = false := by simp
  have p2 : ∀ X : Grow w3, X.val.cell? ⟨b, off + k * 4 + 2, none⟩ = some (.string u.text) := fun X => (hc X.val X.bel).2.2.1
  have p3 : ∀ X : Grow w3, X.val.cell? ⟨b, off + k * 4 + 3, none⟩ = some (.int .i64 u.sum) := fun X => (hc X.val X.bel).2.2.2
  have HC := Shut.mk hc
  have HU := Shut.mk hu
  clear hc hk hu
  by_cases hat : 0 ≤ at9
  case neg =>
    have ha2 : decide (at9 < 0) = true := by simp; omega
    have HE : Shut (RR = (⟨id, up, us⟩, false)) := ⟨by rw [HQ2.out, decide_eq_false hat]; rfl⟩
    refine wp_region_grow (by kernel_rfl) (by kernel_rfl) ?_
    repeat (go_big_quiet_step (fail))
    refine wpQuiet_nil ?_
    rintro _ ⟨X, rfl⟩
    have H := Shut.mk (HW.out.below X.bel)
    clear p2 p3 g2
    have z0 := (H.out.bx 0 rfl 0 _ rfl).1
    have z1 := (H.out.bx 0 rfl 1 _ rfl).1
    have z2 := (H.out.bx 0 rfl 2 _ rfl).1
    obtain ⟨r0, r0z⟩ := H.out.bx 2 rfl 0 _ rfl
    obtain ⟨r1, r1z⟩ := H.out.bx 2 rfl 1 _ rfl
    obtain ⟨r2, r2z⟩ := H.out.bx 2 rfl 2 _ rfl
    go_wp2_with fail
    have HE3 := Shut.mk ((((H.out.put 2 rfl 0 (.int .i64 id) (by simp)).put 2 rfl 1 (.bool up) (by simp)).put 2 rfl 2 (.slice ac n cc) (by simp)))
    refine bodyPost_ret (v := .tuple #[.agg #[.int .i64 id, .bool up, .slice ac n cc], .bool false]) (by simp [results, Tryd.results28, go_sem, r0, r1, r2]) rfl ?_
    rw [HE.out]
    have hs := HE3.out.is _ (List.mem_of_getElem? (show _[1]? = some (rwS ac (unS us) lc hc9) from rfl))
    exact ⟨_, cc, by rw [HN.out], frw_wide (show FRw _ _ (unS us) lc hc9 from hs.1) hs.2.2.1 hs.2.2.2, by have := HN.out; show us.length ≤ cc; omega, HE3.out.bel⟩
  have ha2 : decide (at9 < 0) = false := by simp; omega
  rw [decide_eq_true hat] at HQ2
  cases hte : u.text.toList == [] with
  | true =>
    have HE : Shut (RR = (⟨id, up, us⟩, false)) := ⟨by rw [HQ2.out, hte]; rfl⟩
    refine wp_region_grow (by kernel_rfl) (by kernel_rfl) ?_
    repeat (go_big_quiet_step (fail))
    refine wpQuiet_nil ?_
    rintro _ ⟨X, rfl⟩
    have H := Shut.mk (HW.out.below X.bel)
    clear p2 p3 g2
    have z0 := (H.out.bx 0 rfl 0 _ rfl).1
    have z1 := (H.out.bx 0 rfl 1 _ rfl).1
    have z2 := (H.out.bx 0 rfl 2 _ rfl).1
    obtain ⟨r0, r0z⟩ := H.out.bx 2 rfl 0 _ rfl
    obtain ⟨r1, r1z⟩ := H.out.bx 2 rfl 1 _ rfl
    obtain ⟨r2, r2z⟩ := H.out.bx 2 rfl 2 _ rfl
    go_wp2_with fail
    have HE3 := Shut.mk ((((H.out.put 2 rfl 0 (.int .i64 id) (by simp)).put 2 rfl 1 (.bool up) (by simp)).put 2 rfl 2 (.slice ac n cc) (by simp)))
    refine bodyPost_ret (v := .tuple #[.agg #[.int .i64 id, .bool up, .slice ac n cc], .bool false]) (by simp [results, Tryd.results28, go_sem, r0, r1, r2]) rfl ?_
    rw [HE.out]
    have hs := HE3.out.is _ (List.mem_of_getElem? (show _[1]? = some (rwS ac (unS us) lc hc9) from rfl))
    exact ⟨_, cc, by rw [HN.out], frw_wide (show FRw _ _ (unS us) lc hc9 from hs.1) hs.2.2.1 hs.2.2.2, by have := HN.out; show us.length ≤ cc; omega, HE3.out.bel⟩
  | false =>
    rw [hte] at HQ2
    cases hs : u.sum == sn with
    | false =>
      have hs' : (u.sum != sn) = true := by rw [bne, hs]; rfl
      have HE : Shut (RR = (⟨id, up, us⟩, false)) := ⟨by rw [HQ2.out, hs]; rfl⟩
      refine wp_region_grow (by kernel_rfl) (by kernel_rfl) ?_
      repeat (go_big_quiet_step (first | (go_at_call 19; with_reducible exact HSU.out _)))
      refine wpQuiet_nil ?_
      rintro _ ⟨X, rfl⟩
      have H := Shut.mk (HW.out.below X.bel)
      clear p2 p3 g2
      have z0 := (H.out.bx 0 rfl 0 _ rfl).1
      have z1 := (H.out.bx 0 rfl 1 _ rfl).1
      have z2 := (H.out.bx 0 rfl 2 _ rfl).1
      obtain ⟨r0, r0z⟩ := H.out.bx 2 rfl 0 _ rfl
      obtain ⟨r1, r1z⟩ := H.out.bx 2 rfl 1 _ rfl
      obtain ⟨r2, r2z⟩ := H.out.bx 2 rfl 2 _ rfl
      go_wp2_with fail
      have HE3 := Shut.mk ((((H.out.put 2 rfl 0 (.int .i64 id) (by simp)).put 2 rfl 1 (.bool up) (by simp)).put 2 rfl 2 (.slice ac n cc) (by simp)))
      refine bodyPost_ret (v := .tuple #[.agg #[.int .i64 id, .bool up, .slice ac n cc], .bool false]) (by simp [results, Tryd.results28, go_sem, r0, r1, r2]) rfl ?_
      rw [HE.out]
      have hs := HE3.out.is _ (List.mem_of_getElem? (show _[1]? = some (rwS ac (unS us) lc hc9) from rfl))
      exact ⟨_, cc, by rw [HN.out], frw_wide (show FRw _ _ (unS us) lc hc9 from hs.1) hs.2.2.1 hs.2.2.2, by have := HN.out; show us.length ≤ cc; omega, HE3.out.bel⟩
    | true =>
      have hs' : (u.sum != sn) = false := by rw [bne, hs]; rfl
      have HE : Shut (RR = (⟨id, up, us.set k ⟨u.group, u.index, turnAt u.text (at9.toNat % u.text.size), u.sum⟩⟩, true)) := ⟨by rw [HQ2.out, hs]; rfl⟩
      refine wp_region_grow (by kernel_rfl) (by kernel_rfl) ?_
      repeat (go_big_quiet_step (first | (go_at_call 19; with_reducible exact HSU.out _)))
      refine wpQuiet_nil ?_
      rintro _ ⟨X, rfl⟩
      have H := Shut.mk (HW.out.below X.bel)
      have y2 := g2 X
      have y3 := p2 X
      clear p2 p3 g2 HW HQ2
      obtain ⟨W4, hb4⟩ := X
      dsimp only at *
      have hpos : 0 < u.text.size := by
        rcases Nat.eq_zero_or_pos u.text.size with e | e
        · exfalso
          have : u.text = ⟨#[]⟩ := by
            cases u; rename_i t _; cases t; rename_i d; simp only [ByteArray.size] at e ⊢; congr 1; exact Array.eq_empty_of_size_eq_zero e
          rw [this] at hte
          rw [toList_none] at hte
          cases hte
        · exact e
      obtain ⟨W5, c5, hcv, hrow5, hb5⟩ := bytes_made W4 u.text
      obtain ⟨bb, hbb⟩ : ∃ q, q = W4.heap.size := ⟨_, rfl⟩
      have H5 := Shut.mk (H.out.add (s := byS bb u.text.data.toList) hb5 (by rw [hbb]; exact hrow5) (byS.loc _ _) (by rw [hbb]; exact Nat.le_refl _) (by rw [hbb]; exact hrow5.1))
      rw [← hbb] at hcv
      clear hrow5 hb5 hbb hb4 H
      go_upto_region 6 with fail
      obtain ⟨j, hj⟩ : ∃ j : Nat, at9.tmod (u.text.size : Int) = (j : Int) := by
        rw [Int.tmod_eq_emod_of_nonneg hat]
        exact Int.eq_ofNat_of_zero_le (Int.emod_nonneg _ (by omega))
      have hj2 : j < u.text.size ∧ j = at9.toNat % u.text.size := by
        rw [Int.tmod_eq_emod_of_nonneg hat] at hj
        have h1 := Int.emod_lt_of_pos at9 (show (0 : Int) < (u.text.size : Int) by omega)
        obtain ⟨q, rfl⟩ := Int.eq_ofNat_of_zero_le hat
        simp only [Int.toNat_natCast] at *
        omega
      have HJ := Shut.mk hj2
      have hne : ¬ ((u.text.size : Int) = 0) := by omega
      have hL : u.text.data.toList.length = u.text.size := rfl
      obtain ⟨x, hx⟩ : ∃ o : UInt8, u.text.data.toList.getD j 0 = o := ⟨_, rfl⟩
      have hci := (show BRow W5 bb u.text.data.toList from H5.out.at 0 rfl).2 j (by have := HJ.out.1; omega)
      rw [hx] at hci
      obtain ⟨hc1, hc2⟩ := hci
      have hxo := bits_one x
      have j0 : (0 : Int) ≤ (j : Int) := by omega
      have j1 : (j : Int) < (u.text.size : Int) := by have := HJ.out.1; omega
      have HX := Shut.mk hx
      have H6 := Shut.mk (H5.out.turn 0 rfl (W' := W5.setCell ⟨bb, j, none⟩ (.int .u8 ((x ^^^ 1).toNat : Int))) (Turned.of_grown (gb_set' W5 bb j _) (Nat.le_refl _) (Nat.lt_succ_self _)) ((show BRow W5 bb u.text.data.toList from H5.out.at 0 rfl).set j (x ^^^ 1) (by have := HJ.out.1; omega)) (byS.loc _ _))
      simp only [List.set_cons_zero] at H6
      have HT : Shut ((⟨(u.text.data.toList.set j (x ^^^ 1)).toArray⟩ : ByteArray) = turnAt u.text (at9.toNat % u.text.size)) := ⟨by unfold turnAt; rw [← HJ.out.2, HX.out]⟩
      clear hj2 hx H5
      generalize x ^^^ 1 = z at *
      go_region
      all_goals
        go_upto_region 7 with fail
        refine wp_shade (fun W => SL w W [byS bb (u.text.data.toList.set j z), bxS b6 [.int .i64 id, .bool up, .slice ac n cc], rwS ac (unS us) lc hc9, bxS (w.heap.size + 1) [.int .i64 0, .bool false, .slice none 0 0], bxS w.heap.size [.int .i64 id, .bool up, .slice (some ⟨b, off, none⟩) n cap]]) (by first | exact H6.out.drew | exact H6.out) ?_
        intro W7 hW
        have H := Shut.mk hW.tail
        have hcv2 := brow_string (cap := c5) (show BRow W7 bb (u.text.data.toList.set j z) from hW.at 0 rfl)
        rw [List.length_set, hL, HT.out] at hcv2
        clear hW H6 hcv hc1 hc2 hxo hj
        generalize turnAt u.text (at9.toNat % u.text.size) = T at *
        obtain ⟨gc, rfl, hlc, hhc, hwc⟩ : ∃ gc, ac = some ⟨gc, 0, none⟩ ∧ lc ≤ gc ∧ gc < hc9 ∧ WCells W7 gc (unS us) := by
          rcases (show FRw W7 ac (unS us) lc hc9 from H.out.at 1 rfl) with ⟨_, e⟩ | q
          · have := congrArg List.length e
            rw [unS_len] at this
            simp at this
            omega
          · exact q
        obtain ⟨s2, s2z⟩ := hwc.2 (k * 4 + 2) _ (flat_get unC_len us k hf 2 (by omega))
        have z2 := (H.out.bx 0 rfl 2 _ rfl).1
        have H8 := Shut.mk (H.out.turn 1 rfl (W' := W7.setCell ⟨gc, k * 4 + 2, none⟩ (.string T)) (Turned.of_grown (gb_set' W7 gc (k * 4 + 2) _) hlc hhc) (q := fun W => FRw W (some ⟨gc, 0, none⟩) (unS (us.set k ⟨u.group, u.index, T, u.sum⟩)) lc hc9) (by
          have q1 := hwc.set (k * 4 + 2) (.string T) (by rw [unS_len]; omega)
          rw [uns_text us k hf T, ← HU.out] at q1
          exact .inr ⟨gc, rfl, hlc, hhc, q1⟩) (rwS.loc _ _ _ _))
        simp only [List.set_cons_zero, List.set_cons_succ] at H8
        clear hwc
        go_upto_region 8 with fail
        refine wp_shade (fun W => SL w W [bxS b6 [.int .i64 id, .bool up, .slice (some ⟨gc, 0, none⟩) n cc], rwS (some ⟨gc, 0, none⟩) (unS (us.set k ⟨u.group, u.index, T, u.sum⟩)) lc hc9, bxS (w.heap.size + 1) [.int .i64 0, .bool false, .slice none 0 0], bxS w.heap.size [.int .i64 id, .bool up, .slice (some ⟨b, off, none⟩) n cap]]) H8.out ?_
        intro W8 hW
        clear H z2 s2 s2z H8
        have H := Shut.mk hW
        clear hW
        have z0 := (H.out.bx 0 rfl 0 _ rfl).1
        have z1 := (H.out.bx 0 rfl 1 _ rfl).1
        have z2 := (H.out.bx 0 rfl 2 _ rfl).1
        obtain ⟨r0, r0z⟩ := H.out.bx 2 rfl 0 _ rfl
        obtain ⟨r1, r1z⟩ := H.out.bx 2 rfl 1 _ rfl
        obtain ⟨r2, r2z⟩ := H.out.bx 2 rfl 2 _ rfl
        go_wp2_with fail
        have HE3 := Shut.mk ((((H.out.put 2 rfl 0 (.int .i64 id) (by simp)).put 2 rfl 1 (.bool up) (by simp)).put 2 rfl 2 (.slice (some ⟨gc, 0, none⟩) n cc) (by simp)))
        refine bodyPost_ret (v := .tuple #[.agg #[.int .i64 id, .bool up, .slice (some ⟨gc, 0, none⟩) n cc], .bool true]) (by simp [results, Tryd.results28, go_sem, r0, r1, r2]) rfl ?_
        rw [HE.out]
        have hs := HE3.out.is _ (List.mem_of_getElem? (show _[1]? = some (rwS (some ⟨gc, 0, none⟩) (unS (us.set k ⟨u.group, u.index, T, u.sum⟩)) lc hc9) from rfl))
        exact ⟨_, cc, by show _ = Ending.returned (.tuple #[.agg #[.int .i64 id, .bool up, .slice _ (us.set k _).length cc], .bool true]); rw [List.length_set, ← HN.out], frw_wide (show FRw _ _ (unS (us.set k ⟨u.group, u.index, T, u.sum⟩)) lc hc9 from hs.1) hs.2.2.1 hs.2.2.2, by have := HN.out; show (us.set k _).length ≤ cc; rw [List.length_set]; omega, HE3.out.bel⟩
end Go.Proofs.YtbanfccnmbmcfaaDoor
