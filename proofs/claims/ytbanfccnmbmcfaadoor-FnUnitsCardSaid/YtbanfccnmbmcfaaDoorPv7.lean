/- Texts of ours, laid one behind the other: HpF, HpG, HpH, HpI, HpJ, HoL. -/
import Derived.Test.YtbanfccnmbmcfaaDoorPv6
import Derived.Handy
import Derived.Lib.AppendZeros
/- HpF: The program's own GetUnit and Spoil (written by gen/mkhpf.py). -/
namespace Go.Proofs.YtbanfccnmbmcfaaDoor
set_option maxRecDepth 100000
open Go.RowKit BigFrame
attribute [local go_sem ↓] Go.wp_at_zero Go.wp_at_succ

set_option maxRecDepth 100000 in
set_option maxHeartbeats 2000000 in
theorem implGetUnit (H : HM) (a : Option Addr) (cap : Nat) (g i : Int) (w : World) (htab : SumTab w) (hr : UnRow w a H.us) (hl : H.us.length ≤ 1048576) (hz : unSum H.us ≤ 1048576) :
    Calls Tryd.prog 13 #[hov H a cap, .int .i64 g, .int .i64 i] w fun e w' => e = .returned (.tuple #[.string (getX H g i).1, .bool (getX H g i).2]) ∧ Below w.heap.size w w' := by
  have HS0 := Shut.mk ((SL.start w).new #[.int .i64 H.id, .bool H.up, .slice a H.us.length cap] 26)
  have HR := Shut.mk hr
  have HA := Shut.mk (fun (W : World) (hb : Below w.heap.size w W) => implAt H a cap g i W (hr.stays hb) (by omega))
  have HSD : Shut (∀ (W : World) (u : UnM), u ∈ H.us → Below w.heap.size w W → Calls Tryd.prog 38 #[unv u] W fun e w' => e = .returned (.bool (unSound u)) ∧ Below W.heap.size W w') := ⟨fun W u hu hb => implSound u W (htab.stays hb) (by have := unSum_mem hu; omega)⟩
  have HZ : Shut (∀ u ∈ H.us, u.text.size ≤ 1048576) := ⟨fun u hu => by have := unSum_mem hu; omega⟩
  clear hr hz htab
  obtain ⟨id, up, us⟩ := H
  obtain ⟨R, hR⟩ : ∃ R, R = getX ⟨id, up, us⟩ g i := ⟨_, rfl⟩
  rw [← hR]
  obtain ⟨t0, b0⟩ := R
  have HQ := Shut.mk hR
  clear hR
  show Calls Tryd.prog 13 #[.agg #[.int .i64 id, .bool up, .slice a us.length cap], .int .i64 g, .int .i64 i] w fun e w' => e = .returned (.tuple #[.string t0, .bool b0]) ∧ Below w.heap.size w w'
  dsimp only [hov] at *
  obtain ⟨n, hn⟩ : ∃ n, n = us.length := ⟨_, rfl⟩
  have HN := Shut.mk hn
  rw [← hn] at HS0 HA hl ⊢
  clear hn
  obtain ⟨ki, hki⟩ : ∃ q, q = atN us g i := ⟨_, rfl⟩
  rw [← hki] at HA
  have HK := Shut.mk hki
  clear hki
  go_enter Tryd.func13, Tryd.ntmps13
  go_upto_region 1 with fail
  refine wp_shade (fun W => SL w W [bxS w.heap.size [.int .i64 id, .bool up, .slice a n cap]]) HS0.out ?_
  intro W0 hW
  have HW := Shut.mk hW
  clear HS0 hW
  have x0 := (HW.out.bx 0 rfl 0 _ rfl).1
  have x1 := (HW.out.bx 0 rfl 1 _ rfl).1
  have x2 := (HW.out.bx 0 rfl 2 _ rfl).1
  go_upto_region 2 with (go_at_call 37; refine (HA.out _ HW.out.bel).mono ?_; rintro e w1 ⟨rfl, hb⟩; replace HW := Shut.mk (HW.out.below hb); clear hb x0 x1 x2)
  have x1 := (HW.out.bx 0 rfl 1 _ rfl).1
  have x2 := (HW.out.bx 0 rfl 2 _ rfl).1
  cases hup : up with
  | false =>
    have HE : Shut ((t0, b0) = ((⟨#[]⟩ : ByteArray), false)) := ⟨by rw [HQ.out]; unfold getX; rw [hup]; simp⟩
    rw [hup] at x1
    go_wp2_with fail
    go_ret2
    have e1 := HE.out
    simp only [Prod.mk.injEq] at e1
    exact ⟨by rw [e1.1, e1.2]; rfl, HW.out.bel⟩
  | true =>
    rw [hup] at x1 HQ
    by_cases hf : unIdx us g i < us.length
    case neg =>
      have hki : ki = -1 := by rw [HK.out, idx_no hf]
      have HE : Shut ((t0, b0) = ((⟨#[]⟩ : ByteArray), false)) := ⟨by rw [HQ.out]; unfold getX; simp [hf]⟩
      subst hki
      clear hf
      go_wp2_with fail
      go_ret2
      have e1 := HE.out
      simp only [Prod.mk.injEq] at e1
      exact ⟨by rw [e1.1, e1.2]; rfl, HW.out.bel⟩
    obtain ⟨k, hk⟩ : ∃ k, k = unIdx us g i := ⟨_, rfl⟩
    have hki : ki = (k : Int) := by rw [HK.out, idx_lt hf, hk]
    rw [← hk] at hf
    obtain ⟨b, off, u, rfl, hu, lb, hc⟩ := un_at HR.out HW.out.bel hf
    have HE : Shut ((t0, b0) = if unSound u then (u.text, true) else ((⟨#[]⟩ : ByteArray), false)) := ⟨by
      rw [HQ.out]; unfold getX; dsimp only; rw [← hk, getD_un us k hf, ← hu]; simp [hf]⟩
    have HSU := Shut.mk (fun (W : World) (hb : Below w.heap.size w W) => HSD.out W u (by rw [hu]; exact List.getElem_mem hf) hb)
    have HCL : Shut (∀ W, Calls Tryd.prog 39 #[.string u.text] W fun e w' => e = .returned (.string u.text) ∧ Below W.heap.size W w') := ⟨fun W => implClone u.text W (by have := HZ.out u (by rw [hu]; exact List.getElem_mem hf); omega)⟩
    generalize unSound u = snd at HE HSU
    subst hki
    have k0 : (0 : Int) ≤ (k : Int) := by omega
    have k1 : (k : Int) < (n : Int) := by have := HN.out; omega
    have k2 : decide ((k : Int) < 0) = false := by simp
    have k3 : ¬ ((k : Int) < 0) := by omega
    obtain ⟨p0, p1, p2, p3⟩ := hc w1 (Below.refl _ _)
    have HC := Shut.mk hc
    clear hc hk hu hf
    cases snd with
    | false =>
      go_wp2_with (go_at_call 38; refine (HSU.out _ HW.out.bel).mono ?_; rintro e w2 ⟨rfl, hb⟩; replace HW := Shut.mk (HW.out.below hb); clear hb)
      go_ret2
      have e1 := HE.out
      simp only [Bool.false_eq_true, if_false, Prod.mk.injEq] at e1
      exact ⟨by rw [e1.1, e1.2]; rfl, HW.out.bel⟩
    | true =>
      go_upto_region 4 with (go_at_call 38; refine (HSU.out _ HW.out.bel).mono ?_; rintro e w2 ⟨rfl, hb⟩; replace HW := Shut.mk (HW.out.below hb); have HC2 := Shut.mk (HC.out w2 hb); clear hb p0 p1 p2 p3 x1 x2)
      have x2 := (HW.out.bx 0 rfl 2 _ rfl).1
      obtain ⟨p0, p1, p2, p3⟩ := HC2.out
      go_wp2_with (go_at_call 39; refine (HCL.out _).mono ?_; rintro e w3 ⟨rfl, hb⟩; replace HW := Shut.mk (HW.out.below hb); clear hb)
      go_ret2
      have e1 := HE.out
      simp only [if_true, Prod.mk.injEq] at e1
      exact ⟨by rw [e1.1, e1.2]; rfl, HW.out.bel⟩
theorem turned_unC (w : World) (g o lo hi : Nat) (v0 v1 v2 v3 : Value) (h1 : lo ≤ g) (h2 : g < hi) : Turned w ((((w.setCell ⟨g, o, none⟩ v0).setCell ⟨g, o + 1, none⟩ v1).setCell ⟨g, o + 2, none⟩ v2).setCell ⟨g, o + 3, none⟩ v3) lo hi :=
  turned_setW w g o [v0, v1, v2, v3] h1 h2
set_option maxRecDepth 100000 in
set_option maxHeartbeats 8000000 in
theorem implSpoil (H : HM) (a : Option Addr) (cap : Nat) (g i at9 : Int) (w : World) (htab : SumTab w) (hr : UnRow w a H.us) (hl : H.us.length ≤ 1048576) (hz : unSum H.us ≤ 1048576) :
    Calls Tryd.prog 14 #[hov H a cap, .int .i64 g, .int .i64 i, .int .i64 at9] w fun e w' => HbPost (spoilX H g i at9) w e w' := by
  have HCP := Shut.mk (fun (W : World) (hb : Below w.heap.size w W) => implCopyHost H a cap W (hr.stays hb) (by omega) (fun u hu => by have := unSum_mem hu; omega))
  have HSD : Shut (∀ (W : World) (u : UnM), u ∈ H.us → Below w.heap.size w W → Calls Tryd.prog 38 #[unv u] W fun e w' => e = .returned (.bool (unSound u)) ∧ Below W.heap.size W w') := ⟨fun W u hu hb => implSound u W (htab.stays hb) (by have := unSum_mem hu; omega)⟩
  unfold HoPost at HCP
  clear hr hz htab
  obtain ⟨id, up, us⟩ := H
  obtain ⟨RR, hRR⟩ : ∃ q, q = spoilX ⟨id, up, us⟩ g i at9 := ⟨_, rfl⟩
  rw [← hRR]
  have HQ := Shut.mk hRR
  unfold spoilX at HQ
  show Calls Tryd.prog 14 #[.agg #[.int .i64 id, .bool up, .slice a us.length cap], .int .i64 g, .int .i64 i, .int .i64 at9] w fun e w' => HbPost RR w e w'
  dsimp only [hov] at *
  have HA : Shut (∀ (W : World) (b : Option Addr) (c : Nat), UnRow W b us → Calls Tryd.prog 37 #[.agg #[.int .i64 id, .bool up, .slice b us.length c], .agg #[.int .i64 g, .int .i64 i]] W fun e w' => e = .returned (.int .i64 (atN us g i)) ∧ Below W.heap.size W w') := ⟨fun W b c h => implAt ⟨id, up, us⟩ b c g i W h (by show us.length ≤ 9000000; omega)⟩
  obtain ⟨n, hn⟩ : ∃ n, n = us.length := ⟨_, rfl⟩
  have HN := Shut.mk hn
  rw [← hn] at HCP HA hl ⊢
  obtain ⟨ki, hki⟩ : ∃ q, q = atN us g i := ⟨_, rfl⟩
  rw [← hki] at HA
  have HK := Shut.mk hki
  clear hki hRR hn
  have HS0 := Shut.mk (((SL.start w).new #[.int .i64 id, .bool up, .slice a n cap] 26).new #[.int .i64 0, .bool false, .slice none 0 0] 26)
  simp only [World.size_alloc] at HS0
  go_enter Tryd.func14, Tryd.ntmps14
  go_upto_region 1 with fail
  refine wp_shade (fun W => SL w W [bxS (w.heap.size + 1) [.int .i64 0, .bool false, .slice none 0 0], bxS w.heap.size [.int .i64 id, .bool up, .slice a n cap]]) HS0.out ?_
  intro W0 hW
  have H := Shut.mk hW
  clear HS0 hW
  have x0 := (H.out.bx 1 rfl 0 _ rfl).1
  have x1 := (H.out.bx 1 rfl 1 _ rfl).1
  have x2 := (H.out.bx 1 rfl 2 _ rfl).1
  go_upto_region 2 with (go_at_call 34; refine (HCP.out _ H.out.bel).mono ?_; rintro e w1 ⟨ac, cc, rfl, hF, hcc, hb⟩; have HS1 := Shut.mk (H.out.add (s := rwS ac (unS us) W0.heap.size w1.heap.size) hb hF (rwS.loc _ _ _ _) (Nat.le_refl _) (Nat.le_refl _)); clear hF hb H x0 x1 x2)
  generalize W0.heap.size = lc at HS1
  obtain ⟨hc9, hhc⟩ : ∃ q, q = w1.heap.size := ⟨_, rfl⟩
  rw [← hhc] at HS1
  clear hhc
  obtain ⟨b6, hb6⟩ : ∃ q, q = w1.heap.size := ⟨_, rfl⟩
  refine wp_shade (fun W => SL w W [bxS b6 [.int .i64 id, .bool up, .slice ac n cc], rwS ac (unS us) lc hc9, bxS (w.heap.size + 1) [.int .i64 0, .bool false, .slice none 0 0], bxS w.heap.size [.int .i64 id, .bool up, .slice a n cap]]) (by rw [hb6]; exact HS1.out.new _ _) ?_
  intro W2 hW
  have H := Shut.mk hW
  rw [← hb6]
  clear hW hb6 HS1
  have x0 := (H.out.bx 0 rfl 0 _ rfl).1
  have x1 := (H.out.bx 0 rfl 1 _ rfl).1
  have x2 := (H.out.bx 0 rfl 2 _ rfl).1
  go_upto_region 3 with (go_at_call 37; refine (HA.out _ _ _ (show FRw W2 ac (unS us) lc hc9 from H.out.at 1 rfl).crow).mono ?_; rintro e w3 ⟨rfl, hb⟩; replace H := Shut.mk (H.out.below hb); clear hb x0 x1 x2)
  by_cases hf : unIdx us g i < us.length
  case neg =>
    have hki : ki = -1 := by rw [HK.out, idx_no hf]
    have HE : Shut (RR = (⟨id, up, us⟩, false)) := ⟨by rw [HQ.out]; simp [hf]⟩
    subst hki
    clear hf
    have z0 := (H.out.bx 0 rfl 0 _ rfl).1
    have z1 := (H.out.bx 0 rfl 1 _ rfl).1
    have z2 := (H.out.bx 0 rfl 2 _ rfl).1
    obtain ⟨r0, r0z⟩ := H.out.bx 2 rfl 0 _ rfl
    obtain ⟨r1, r1z⟩ := H.out.bx 2 rfl 1 _ rfl
    obtain ⟨r2, r2z⟩ := H.out.bx 2 rfl 2 _ rfl
    go_wp2_with fail
    have HE3 := Shut.mk ((((H.out.put 2 rfl 0 (.int .i64 id) (by simp)).put 2 rfl 1 (.bool up) (by simp)).put 2 rfl 2 (.slice ac n cc) (by simp)))
    refine bodyPost_ret (v := .tuple #[.agg #[.int .i64 id, .bool up, .slice ac n cc], .bool false]) (by simp [results, Tryd.results14, go_sem, r0, r1, r2]) rfl ?_
    rw [HE.out]
    have hs := HE3.out.is _ (List.mem_of_getElem? (show _[1]? = some (rwS ac (unS us) lc hc9) from rfl))
    exact ⟨_, cc, by rw [HN.out], frw_wide (show FRw _ _ (unS us) lc hc9 from hs.1) hs.2.2.1 hs.2.2.2, by have := HN.out; show us.length ≤ cc; omega, HE3.out.bel⟩
  obtain ⟨k, hk⟩ : ∃ k, k = unIdx us g i := ⟨_, rfl⟩
  have hki : ki = (k : Int) := by rw [HK.out, idx_lt hf, hk]
  rw [← hk] at hf
  obtain ⟨gc, rfl⟩ := frw_some (show FRw w3 ac (unS us) lc hc9 from H.out.at 1 rfl) (by omega)
  obtain ⟨u, hu⟩ : ∃ u, u = us[k] := ⟨_, rfl⟩
  have HIT : Shut (∀ W S, SL w W S → S[1]? = some (rwS (some ⟨gc, 0, none⟩) (unS us) lc hc9) → lc ≤ gc ∧ gc < hc9 ∧ WCells W gc (unS us) ∧ (W.cell? ⟨gc, k * 4, none⟩ = some (.int .i64 u.group) ∧ W.frozen? ⟨gc, k * 4, none⟩ = false) ∧ (W.cell? ⟨gc, k * 4 + 1, none⟩ = some (.int .i64 u.index) ∧ W.frozen? ⟨gc, k * 4 + 1, none⟩ = false) ∧ (W.cell? ⟨gc, k * 4 + 2, none⟩ = some (.string u.text) ∧ W.frozen? ⟨gc, k * 4 + 2, none⟩ = false) ∧ (W.cell? ⟨gc, k * 4 + 3, none⟩ = some (.int .i64 u.sum) ∧ W.frozen? ⟨gc, k * 4 + 3, none⟩ = false)) := ⟨fun W S h hs => by
    rcases (show FRw W (some ⟨gc, 0, none⟩) (unS us) lc hc9 from h.at 1 hs) with ⟨e, _⟩ | ⟨q, e, h1, h2, h3⟩
    · cases e
    · cases e
      rw [hu]
      exact ⟨h1, h2, h3, h3.2 _ _ (flat_get unC_len us k hf 0 (by omega)), h3.2 _ _ (flat_get unC_len us k hf 1 (by omega)), h3.2 _ _ (flat_get unC_len us k hf 2 (by omega)), h3.2 _ _ (flat_get unC_len us k hf 3 (by omega))⟩⟩
  have HQ2 : Shut (RR = if decide (0 ≤ at9) && !(u.text.toList == []) && unSound u then (⟨id, up, us.set k ⟨u.group, u.index, turnAt u.text (at9.toNat % u.text.size), u.sum⟩⟩, true) else (⟨id, up, us⟩, false)) := ⟨by
    rw [HQ.out, ← hk, getD_un us k hf, ← hu]; simp [hf]⟩
  have HSU := Shut.mk (fun (W : World) (hb : Below w.heap.size w W) => HSD.out W u (by rw [hu]; exact List.getElem_mem hf) hb)
  have HF := Shut.mk hf
  generalize unSound u = snd at HQ2 HSU
  subst hki
  have k0 : (0 : Int) ≤ (k : Int) := by omega
  have k1 : (k : Int) < (n : Int) := by have := HN.out; omega
  have k2 : decide ((k : Int) < 0) = false := by simp
  have k3 : ¬ ((k : Int) < 0) := by omega
  have x2 := (H.out.bx 0 rfl 2 _ rfl).1
  clear hk hu HQ hf
  by_cases hat : 0 ≤ at9
  case neg =>
    have ha2 : at9 < 0 := by omega
    have HE : Shut (RR = (⟨id, up, us⟩, false)) := ⟨by rw [HQ2.out, decide_eq_false hat]; rfl⟩
    go_upto_region 4 with fail
    clear x2 HIT
    have z0 := (H.out.bx 0 rfl 0 _ rfl).1
    have z1 := (H.out.bx 0 rfl 1 _ rfl).1
    have z2 := (H.out.bx 0 rfl 2 _ rfl).1
    obtain ⟨r0, r0z⟩ := H.out.bx 2 rfl 0 _ rfl
    obtain ⟨r1, r1z⟩ := H.out.bx 2 rfl 1 _ rfl
    obtain ⟨r2, r2z⟩ := H.out.bx 2 rfl 2 _ rfl
    go_wp2_with fail
    have HE3 := Shut.mk ((((H.out.put 2 rfl 0 (.int .i64 id) (by simp)).put 2 rfl 1 (.bool up) (by simp)).put 2 rfl 2 (.slice (some ⟨gc, 0, none⟩) n cc) (by simp)))
    refine bodyPost_ret (v := .tuple #[.agg #[.int .i64 id, .bool up, .slice (some ⟨gc, 0, none⟩) n cc], .bool false]) (by simp [results, Tryd.results14, go_sem, r0, r1, r2]) rfl ?_
    rw [HE.out]
    have hs := HE3.out.is _ (List.mem_of_getElem? (show _[1]? = some (rwS (some ⟨gc, 0, none⟩) (unS us) lc hc9) from rfl))
    exact ⟨_, cc, by rw [HN.out], frw_wide (show FRw _ _ (unS us) lc hc9 from hs.1) hs.2.2.1 hs.2.2.2, by have := HN.out; show us.length ≤ cc; omega, HE3.out.bel⟩
  have ha2 : ¬ at9 < 0 := by omega
  have ha3 : decide (at9 < 0) = false := by simp; omega
  rw [decide_eq_true hat] at HQ2
  obtain ⟨-, -, -, ⟨p0, -⟩, ⟨p1, -⟩, ⟨p2, -⟩, ⟨p3, -⟩⟩ := HIT.out w3 _ H.out rfl
  cases hte : u.text.toList == [] with
  | true =>
    have hte2 : u.text = ⟨#[]⟩ := by
      have : u.text.toList = [] := by simpa using hte
      rw [Go.ByteArray.toList_eq] at this
      cases h : u.text with
      | mk d => rw [h] at this; congr 1; exact Array.toList_eq_nil_iff.1 this
    have HE : Shut (RR = (⟨id, up, us⟩, false)) := ⟨by rw [HQ2.out, hte]; rfl⟩
    go_upto_region 4 with fail
    clear x2 HIT
    have z0 := (H.out.bx 0 rfl 0 _ rfl).1
    have z1 := (H.out.bx 0 rfl 1 _ rfl).1
    have z2 := (H.out.bx 0 rfl 2 _ rfl).1
    obtain ⟨r0, r0z⟩ := H.out.bx 2 rfl 0 _ rfl
    obtain ⟨r1, r1z⟩ := H.out.bx 2 rfl 1 _ rfl
    obtain ⟨r2, r2z⟩ := H.out.bx 2 rfl 2 _ rfl
    go_wp2_with fail
    have HE3 := Shut.mk ((((H.out.put 2 rfl 0 (.int .i64 id) (by simp)).put 2 rfl 1 (.bool up) (by simp)).put 2 rfl 2 (.slice (some ⟨gc, 0, none⟩) n cc) (by simp)))
    refine bodyPost_ret (v := .tuple #[.agg #[.int .i64 id, .bool up, .slice (some ⟨gc, 0, none⟩) n cc], .bool false]) (by simp [results, Tryd.results14, go_sem, r0, r1, r2]) rfl ?_
    rw [HE.out]
    have hs := HE3.out.is _ (List.mem_of_getElem? (show _[1]? = some (rwS (some ⟨gc, 0, none⟩) (unS us) lc hc9) from rfl))
    exact ⟨_, cc, by rw [HN.out], frw_wide (show FRw _ _ (unS us) lc hc9 from hs.1) hs.2.2.1 hs.2.2.2, by have := HN.out; show us.length ≤ cc; omega, HE3.out.bel⟩
  | false =>
    rw [hte] at HQ2
    cases snd with
    | false =>
      have HE : Shut (RR = (⟨id, up, us⟩, false)) := ⟨by rw [HQ2.out]; rfl⟩
      go_upto_region 4 with (go_at_call 38; refine (HSU.out _ H.out.bel).mono ?_; rintro e w5 ⟨rfl, hb⟩; replace H := Shut.mk (H.out.below hb); clear hb)
      clear x2 HIT
      have z0 := (H.out.bx 0 rfl 0 _ rfl).1
      have z1 := (H.out.bx 0 rfl 1 _ rfl).1
      have z2 := (H.out.bx 0 rfl 2 _ rfl).1
      obtain ⟨r0, r0z⟩ := H.out.bx 2 rfl 0 _ rfl
      obtain ⟨r1, r1z⟩ := H.out.bx 2 rfl 1 _ rfl
      obtain ⟨r2, r2z⟩ := H.out.bx 2 rfl 2 _ rfl
      go_wp2_with fail
      have HE3 := Shut.mk ((((H.out.put 2 rfl 0 (.int .i64 id) (by simp)).put 2 rfl 1 (.bool up) (by simp)).put 2 rfl 2 (.slice (some ⟨gc, 0, none⟩) n cc) (by simp)))
      refine bodyPost_ret (v := .tuple #[.agg #[.int .i64 id, .bool up, .slice (some ⟨gc, 0, none⟩) n cc], .bool false]) (by simp [results, Tryd.results14, go_sem, r0, r1, r2]) rfl ?_
      rw [HE.out]
      have hs := HE3.out.is _ (List.mem_of_getElem? (show _[1]? = some (rwS (some ⟨gc, 0, none⟩) (unS us) lc hc9) from rfl))
      exact ⟨_, cc, by rw [HN.out], frw_wide (show FRw _ _ (unS us) lc hc9 from hs.1) hs.2.2.1 hs.2.2.2, by have := HN.out; show us.length ≤ cc; omega, HE3.out.bel⟩
    | true =>
      have hpos : 0 < u.text.size := by
        rcases Nat.eq_zero_or_pos u.text.size with e | e
        · exfalso
          have : u.text = ⟨#[]⟩ := by
            cases u; rename_i t _; cases t; rename_i d; simp only [ByteArray.size] at e ⊢; congr 1; exact Array.eq_empty_of_size_eq_zero e
          rw [this] at hte
          rw [toList_none] at hte
          cases hte
        · exact e
      obtain ⟨T, hT⟩ : ∃ T, T = turnAt u.text (at9.toNat % u.text.size) := ⟨_, rfl⟩
      have HSP := Shut.mk (fun W => implSpoilt u at9 W hat hpos)
      rw [← hT] at HSP HQ2
      have HE : Shut (RR = (⟨id, up, us.set k ⟨u.group, u.index, T, u.sum⟩⟩, true)) := ⟨by rw [HQ2.out]; rfl⟩
      clear hT HQ2
      go_upto_region 5 with (go_at_call 38; refine (HSU.out _ H.out.bel).mono ?_; rintro e w5 ⟨rfl, hb⟩; replace H := Shut.mk (H.out.below hb); clear hb x2 p0 p1 p2 p3)
      have x2 := (H.out.bx 0 rfl 2 _ rfl).1
      obtain ⟨hlc, hhc, hwc, ⟨p0, p0z⟩, ⟨p1, p1z⟩, ⟨p2, p2z⟩, ⟨p3, p3z⟩⟩ := HIT.out w5 _ H.out rfl
      have HTX : Shut (∀ x, Later w5.drew x → SL w x [bxS b6 [.int .i64 id, .bool up, .slice (some ⟨gc, 0, none⟩) n cc], rwS (some ⟨gc, 0, none⟩) (unS us) lc hc9, bxS (w.heap.size + 1) [.int .i64 0, .bool false, .slice none 0 0], bxS w.heap.size [.int .i64 id, .bool up, .slice a n cap]]) := ⟨fun x hx => H.out.drew.below hx⟩
      have HLE : Shut (∀ x, Later w5.drew x → x.cell? ⟨b6, 2, none⟩ = some (.slice (some ⟨gc, 0, none⟩) n cc) ∧ x.cell? ⟨gc, k * 4, none⟩ = some (.int .i64 u.group) ∧ x.cell? ⟨gc, k * 4 + 1, none⟩ = some (.int .i64 u.index) ∧ x.cell? ⟨gc, k * 4 + 2, none⟩ = some (.string u.text) ∧ x.cell? ⟨gc, k * 4 + 3, none⟩ = some (.int .i64 u.sum)) := ⟨fun x hx => ⟨((HTX.out x hx).bx 0 rfl 2 _ rfl).1, (HIT.out x _ (HTX.out x hx) rfl).2.2.2.1.1, (HIT.out x _ (HTX.out x hx) rfl).2.2.2.2.1.1, (HIT.out x _ (HTX.out x hx) rfl).2.2.2.2.2.1.1, (HIT.out x _ (HTX.out x hx) rfl).2.2.2.2.2.2.1⟩⟩
      clear p0 p0z p1 p1z p2 p2z p3 p3z x2 hlc hhc hwc
      refine wp_region_set (fun j => decide (11 ≤ j)) (by kernel_rfl) ?_
      refine wpD_val (i := 0) (v := ?v0) rfl (by kernel_rfl) (by kernel_rfl) (by kernel_rfl) (by kernel_rfl) (fun _ _ _ h => h) (by rfl) ?hy0 ?rest0
      case hy0 => (intro x hx; obtain ⟨c0, c1, c2, c3, c4⟩ := HLE.out x hx; go_simp; try with_reducible rfl)
      try simp only [Act.put, List.setIfInBounds_toArray, List.set_cons_zero, List.set_cons_succ]
      refine wpD_val (i := 1) (v := ?v1) rfl (by kernel_rfl) (by kernel_rfl) (by kernel_rfl) (by kernel_rfl) (fun _ _ _ h => h) (by rfl) ?hy1 ?rest1
      case hy1 => (intro x hx; obtain ⟨c0, c1, c2, c3, c4⟩ := HLE.out x hx; go_simp; try with_reducible rfl)
      try simp only [Act.put, List.setIfInBounds_toArray, List.set_cons_zero, List.set_cons_succ]
      refine wpD_val (i := 2) (v := ?v2) rfl (by kernel_rfl) (by kernel_rfl) (by kernel_rfl) (by kernel_rfl) (fun _ _ _ h => h) (by rfl) ?hy2 ?rest2
      case hy2 => (intro x hx; obtain ⟨c0, c1, c2, c3, c4⟩ := HLE.out x hx; go_simp; try with_reducible rfl)
      try simp only [Act.put, List.setIfInBounds_toArray, List.set_cons_zero, List.set_cons_succ]
      refine wpD_val (i := 3) (v := ?v3) rfl (by kernel_rfl) (by kernel_rfl) (by kernel_rfl) (by kernel_rfl) (fun _ _ _ h => h) (by rfl) ?hy3 ?rest3
      case hy3 => (intro x hx; obtain ⟨c0, c1, c2, c3, c4⟩ := HLE.out x hx; go_simp; try with_reducible rfl)
      try simp only [Act.put, List.setIfInBounds_toArray, List.set_cons_zero, List.set_cons_succ]
      refine wpD_val (i := 4) (v := ?v4) rfl (by kernel_rfl) (by kernel_rfl) (by kernel_rfl) (by kernel_rfl) (fun _ _ _ h => h) (by rfl) ?hy4 ?rest4
      case hy4 => (intro x hx; obtain ⟨c0, c1, c2, c3, c4⟩ := HLE.out x hx; go_simp; try with_reducible rfl)
      try simp only [Act.put, List.setIfInBounds_toArray, List.set_cons_zero, List.set_cons_succ]
      refine wpD_val (i := 5) (v := ?v5) rfl (by kernel_rfl) (by kernel_rfl) (by kernel_rfl) (by kernel_rfl) (fun _ _ _ h => h) (by rfl) ?hy5 ?rest5
      case hy5 => (intro x hx; obtain ⟨c0, c1, c2, c3, c4⟩ := HLE.out x hx; go_simp; try with_reducible rfl)
      try simp only [Act.put, List.setIfInBounds_toArray, List.set_cons_zero, List.set_cons_succ]
      refine wpD_val (i := 6) (v := ?v6) rfl (by kernel_rfl) (by kernel_rfl) (by kernel_rfl) (by kernel_rfl) (fun _ _ _ h => h) (by rfl) ?hy6 ?rest6
      case hy6 => (intro x hx; obtain ⟨c0, c1, c2, c3, c4⟩ := HLE.out x hx; go_simp; try with_reducible rfl)
      try simp only [Act.put, List.setIfInBounds_toArray, List.set_cons_zero, List.set_cons_succ]
      refine wpD_val (i := 7) (v := ?v7) rfl (by kernel_rfl) (by kernel_rfl) (by kernel_rfl) (by kernel_rfl) (fun _ _ _ h => h) (by rfl) ?hy7 ?rest7
      case hy7 => (intro x hx; obtain ⟨c0, c1, c2, c3, c4⟩ := HLE.out x hx; go_simp; try with_reducible rfl)
      try simp only [Act.put, List.setIfInBounds_toArray, List.set_cons_zero, List.set_cons_succ]
      refine wpD_val (i := 8) (v := ?v8) rfl (by kernel_rfl) (by kernel_rfl) (by kernel_rfl) (by kernel_rfl) (fun _ _ _ h => h) (by rfl) ?hy8 ?rest8
      case hy8 => (intro x hx; obtain ⟨c0, c1, c2, c3, c4⟩ := HLE.out x hx; go_simp; try with_reducible rfl)
      try simp only [Act.put, List.setIfInBounds_toArray, List.set_cons_zero, List.set_cons_succ]
      refine wpD_call (i := 9) (v := unv ⟨u.group, u.index, T, u.sum⟩) (f := 40) (args := #[unv u, .int .i64 at9]) rfl (by kernel_rfl) (by kernel_rfl) (by kernel_rfl) (by kernel_rfl) (fun _ _ _ h => h) (by rfl) ?hy9 (fun x _ => HSP.out x) ?rest9
      case hy9 => (intro x hx; go_simp; try with_reducible rfl)
      try simp only [Act.put, List.setIfInBounds_toArray, List.set_cons_zero, List.set_cons_succ]
      refine wpD_val (i := 10) (v := ?v10) rfl (by kernel_rfl) (by kernel_rfl) (by kernel_rfl) (by kernel_rfl) (fun _ _ _ h => h) (by rfl) ?hy10 ?rest10
      case hy10 => (intro x hx; obtain ⟨c0, c1, c2, c3, c4⟩ := HLE.out x hx; go_simp; try with_reducible rfl)
      try simp only [Act.put, List.setIfInBounds_toArray, List.set_cons_zero, List.set_cons_succ]
      refine wpD_tail (by kernel_rfl) ?_
      intro x5 hx5
      have H5 := Shut.mk (HTX.out x5 hx5)
      obtain ⟨hlc, hhc, hwc, ⟨p0, p0z⟩, ⟨p1, p1z⟩, ⟨p2, p2z⟩, ⟨p3, p3z⟩⟩ := HIT.out x5 _ H5.out rfl
      have H8 := Shut.mk (H5.out.turn 1 rfl (W' := (((x5.setCell ⟨gc, k * 4, none⟩ (.int .i64 u.group)).setCell ⟨gc, k * 4 + 1, none⟩ (.int .i64 u.index)).setCell ⟨gc, k * 4 + 2, none⟩ (.string T)).setCell ⟨gc, k * 4 + 3, none⟩ (.int .i64 u.sum)) (turned_unC x5 gc (k * 4) lc hc9 _ _ _ _ hlc hhc) (q := fun W => FRw W (some ⟨gc, 0, none⟩) (unS (us.set k ⟨u.group, u.index, T, u.sum⟩)) lc hc9) (by
        have q1 := hwc.setW (k * 4) (unC ⟨u.group, u.index, T, u.sum⟩) (by rw [unS_len]; have := HF.out; show k * 4 + 4 ≤ us.length * 4; omega)
        rw [show setL (unS us) (k * 4) (unC ⟨u.group, u.index, T, u.sum⟩) = unS (us.set k ⟨u.group, u.index, T, u.sum⟩) from flat_setL unC_len us k HF.out _] at q1
        exact .inr ⟨gc, rfl, hlc, hhc, q1⟩) (rwS.loc _ _ _ _))
      simp only [List.set_cons_zero, List.set_cons_succ] at H8
      refine wpA_step (y := (((x5.setCell ⟨gc, k * 4, none⟩ (.int .i64 u.group)).setCell ⟨gc, k * 4 + 1, none⟩ (.int .i64 u.index)).setCell ⟨gc, k * 4 + 2, none⟩ (.string T)).setCell ⟨gc, k * 4 + 3, none⟩ (.int .i64 u.sum)) (i := 11) (by kernel_rfl) rfl (by rfl) (by go_simp) ?_
      simp only [Act.put]
      refine wpA_done (by kernel_rfl) ?_ _
      clear p0 p0z p1 p1z p2 p2z p3 p3z hlc hhc hwc H5 HTX HLE hx5
      go_upto_region 6 with fail
      refine wp_shade (fun W => SL w W [bxS b6 [.int .i64 id, .bool up, .slice (some ⟨gc, 0, none⟩) n cc], rwS (some ⟨gc, 0, none⟩) (unS (us.set k ⟨u.group, u.index, T, u.sum⟩)) lc hc9, bxS (w.heap.size + 1) [.int .i64 0, .bool false, .slice none 0 0], bxS w.heap.size [.int .i64 id, .bool up, .slice a n cap]]) H8.out ?_
      intro W8 hW
      clear H H8
      have H := Shut.mk hW
      clear hW
      have z0 := (H.out.bx 0 rfl 0 _ rfl).1
      have z1 := (H.out.bx 0 rfl 1 _ rfl).1
      have z2 := (H.out.bx 0 rfl 2 _ rfl).1
      obtain ⟨r0, r0z⟩ := H.out.bx 2 rfl 0 _ rfl
      obtain ⟨r1, r1z⟩ := H.out.bx 2 rfl 1 _ rfl
      obtain ⟨r2, r2z⟩ := H.out.bx 2 rfl 2 _ rfl
      go_wp2_with fail
      have HE3 := Shut.mk ((((H.out.put 2 rfl 0 (.int .i64 id) (by simp)).put 2 rfl 1 (.bool up) (by simp)).put 2 rfl 2 (.slice (some ⟨gc, 0, none⟩) n cc) (by simp)))
      refine bodyPost_ret (v := .tuple #[.agg #[.int .i64 id, .bool up, .slice (some ⟨gc, 0, none⟩) n cc], .bool true]) (by simp [results, Tryd.results14, go_sem, r0, r1, r2]) rfl ?_
      rw [HE.out]
      have hs := HE3.out.is _ (List.mem_of_getElem? (show _[1]? = some (rwS (some ⟨gc, 0, none⟩) (unS (us.set k ⟨u.group, u.index, T, u.sum⟩)) lc hc9) from rfl))
      exact ⟨_, cc, by show _ = Ending.returned (.tuple #[.agg #[.int .i64 id, .bool up, .slice _ (us.set k ⟨u.group, u.index, T, u.sum⟩).length cc], .bool true]); rw [List.length_set, ← HN.out], frw_wide (show FRw _ _ (unS (us.set k ⟨u.group, u.index, T, u.sum⟩)) lc hc9 from hs.1) hs.2.2.1 hs.2.2.2, by have := HN.out; show (us.set k ⟨u.group, u.index, T, u.sum⟩).length ≤ cc; rw [List.length_set]; omega, HE3.out.bel⟩
end Go.Proofs.YtbanfccnmbmcfaaDoor
/- HpG: The library's slices.BinarySearchFunc over units that go up. -/
namespace Go.Proofs.YtbanfccnmbmcfaaDoor
set_option maxRecDepth 100000
open Go.RowKit BigFrame
attribute [local go_sem ↓] Go.wp_at_zero Go.wp_at_succ

/-- Where a unit belongs. -/
structure Cut (us : List UnM) (u : UnM) (p : Nat) (b : Bool) : Prop where
  le : p ≤ us.length
  low : ∀ j (hj : j < us.length), j < p → unLt us[j] u = true
  high : ∀ j (hj : j < us.length), p ≤ j → unLt us[j] u = false
  same : b = true ↔ ∃ h : p < us.length, unSame us[p] u = true
set_option maxRecDepth 100000 in
set_option maxHeartbeats 2000000 in
theorem searchUnit (us : List UnM) (a : Option Addr) (n cap : Nat) (u : UnM) (w : World) (hr : UnRow w a us) (hn : n = us.length) (hl : n ≤ 9000000) (hs : UpU us) :
    Calls Tryd.prog 57 #[.slice a n cap, unv u, .func (.func 43) #[] #[]] w fun e w' => ∃ (p : Nat) (b : Bool), e = .returned (.tuple #[.int .i64 p, .bool b]) ∧ Cut us u p b ∧ Below w.heap.size w w' := by
  have HS0 := Shut.mk ((SL.start w).new #[.int .i64 u.group, .int .i64 u.index, .string u.text, .int .i64 u.sum] 32)
  have HR := Shut.mk hr
  have HN := Shut.mk hn
  have HUP := Shut.mk hs
  clear hr hn hs
  go_enter Tryd.func57, Tryd.ntmps57
  go_upto_region 1 with fail
  refine wp_shade (fun W => SL w W [bxS w.heap.size [.int .i64 u.group, .int .i64 u.index, .string u.text, .int .i64 u.sum]]) HS0.out ?_
  intro W0 hW
  have HW := Shut.mk hW
  clear HS0 hW
  go_wp2_with fail
  go_loopw [9, 10] (fun v9 v10 wr => ∃ (p q : Nat), v9 = .int .i64 p ∧ v10 = .int .i64 q ∧ p ≤ q ∧ q ≤ n ∧ Shut (∀ j (hj : j < us.length), j < p → unLt us[j] u = true) ∧ Shut (∀ j (hj : j < us.length), q ≤ j → unLt us[j] u = false) ∧ Shut (SL w wr [bxS w.heap.size [.int .i64 u.group, .int .i64 u.index, .string u.text, .int .i64 u.sum]])) (fun v9 v10 _ => (intOf v10).toNat - (intOf v9).toNat)
  case atStart => exact ⟨0, n, rfl, rfl, Nat.zero_le _, Nat.le_refl _, ⟨fun j _ hj => by omega⟩, ⟨fun j hj hq => by have := HN.out; omega⟩, HW⟩
  case round =>
    clear HW
    obtain ⟨p, q, rfl, rfl, hpq, hqn, HLO, HHI, HW⟩ := hrel
    have lq : w.heap.size < wr.heap.size := (HW.out.at 0 rfl).1
    have g0 : ∀ X : Grow wr, X.val.cell? ⟨w.heap.size, 0, none⟩ = some (.int .i64 u.group) := fun X => X.cell (HW.out.bx 0 rfl 0 _ rfl).1 lq
    have g1 : ∀ X : Grow wr, X.val.cell? ⟨w.heap.size, 1, none⟩ = some (.int .i64 u.index) := fun X => X.cell (HW.out.bx 0 rfl 1 _ rfl).1 lq
    have g2 : ∀ X : Grow wr, X.val.cell? ⟨w.heap.size, 2, none⟩ = some (.string u.text) := fun X => X.cell (HW.out.bx 0 rfl 2 _ rfl).1 lq
    have g3 : ∀ X : Grow wr, X.val.cell? ⟨w.heap.size, 3, none⟩ = some (.int .i64 u.sum) := fun X => X.cell (HW.out.bx 0 rfl 3 _ rfl).1 lq
    have HGR : Shut (∀ X : Grow wr, SL w X.val [bxS w.heap.size [.int .i64 u.group, .int .i64 u.index, .string u.text, .int .i64 u.sum]]) := ⟨fun X => HW.out.below X.bel⟩
    have HNN := Shut.mk HN.out
    by_cases hlt : p < q
    · have hlt' : (p : Int) < (q : Int) := by omega
      obtain ⟨h, hh⟩ : ∃ h, h = (p + q) / 2 := ⟨_, rfl⟩
      have hhu : h < us.length := by have := HN.out; omega
      obtain ⟨b, off, x, rfl, hx, lb, hc⟩ := un_at HR.out HW.out.bel hhu
      have p0 : ∀ X : Grow wr, X.val.cell? ⟨b, off + h * 4, none⟩ = some (.int .i64 x.group) := fun X => (hc X.val X.bel).1
      have p1 : ∀ X : Grow wr, X.val.cell? ⟨b, off + h * 4 + 1, none⟩ = some (.int .i64 x.index) := fun X => (hc X.val X.bel).2.1
      have p2 : ∀ X : Grow wr, X.val.cell? ⟨b, off + h * 4 + 2, none⟩ = some (.string x.text) := fun X => (hc X.val X.bel).2.2.1
      have p3 : ∀ X : Grow wr, X.val.cell? ⟨b, off + h * 4 + 3, none⟩ = some (.int .i64 x.sum) := fun X => (hc X.val X.bel).2.2.2
      have HCM := Shut.mk (fun X => calls_grow (w := wr) (fun W' (_ : Below wr.heap.size wr W') => implCmp x u W') X)
      have HNG := Shut.mk (cmpU_neg x u)
      generalize cmpU x u = cv at HCM HNG
      have hdiv : ((p : Int) + (q : Int)) / 2 = (h : Int) := by omega
      have HPQ : Shut (p ≤ h ∧ h < q) := ⟨by omega⟩
      have h0 : (0 : Int) ≤ (h : Int) := by omega
      have h1 : (h : Int) < (n : Int) := by omega
      have HX : Shut (x = us[h]) := ⟨hx⟩
      clear hc hx hh
      go_upto_region 5 with fail
      have HST : Shut (∀ j (hj : j < us.length) k (hk : k < us.length), j < k → unLt us[j] us[k] = true) := ⟨fun j hj k hk h => List.pairwise_iff_getElem.1 HUP.out j k hj hk h⟩
      by_cases hcv : cv < 0
      · have hx := HNG.out.1 hcv
        have HL2 : Shut (∀ j (hj : j < us.length), j < h + 1 → unLt us[j] u = true) := ⟨fun j hj hjh => by
          rcases Nat.lt_succ_iff_lt_or_eq.1 hjh with e | e
          · have := HST.out j hj h hhu e
            rw [← HX.out] at this
            exact lt_trans9 this hx
          · subst e; rw [← HX.out]; exact hx⟩
        have hcd : decide (cv < 0) = true := by simpa using hcv
        clear hx
        refine wp_region_grow (by kernel_rfl) (by kernel_rfl) ?_
        repeat (go_big_quiet_step (first | (go_at_call 43; with_reducible exact HCM.out _)))
        refine wpQuiet_nil ?_
        rintro _ ⟨X, rfl⟩
        clear g0 g1 g2 g3 p0 p1 p2 p3
        go_wp2_with fail
        go_roundw
        case rel => exact ⟨h + 1, q, by go_num, rfl, by have := HPQ.out; omega, hqn, HL2, HHI, ⟨HGR.out X⟩⟩
        case measure => have := HPQ.out; simp [intOf]; omega
      · have hx : unLt x u = false := by
          cases hq : unLt x u with
          | false => rfl
          | true => exact absurd (HNG.out.2 hq) hcv
        have HH2 : Shut (∀ j (hj : j < us.length), h ≤ j → unLt us[j] u = false) := ⟨fun j hj hjh => by
          rcases Nat.lt_or_eq_of_le hjh with e | e
          · cases hq : unLt us[j] u with
            | false => rfl
            | true =>
              have := lt_trans9 (HST.out h hhu j hj e) hq
              rw [← HX.out, hx] at this
              cases this
          · subst e; rw [← HX.out]; exact hx⟩
        have hcd : decide (cv < 0) = false := by simpa using hcv
        clear hx
        refine wp_region_grow (by kernel_rfl) (by kernel_rfl) ?_
        repeat (go_big_quiet_step (first | (go_at_call 43; with_reducible exact HCM.out _)))
        refine wpQuiet_nil ?_
        rintro _ ⟨X, rfl⟩
        clear g0 g1 g2 g3 p0 p1 p2 p3
        go_wp2_with fail
        go_roundw
        case rel => exact ⟨p, h, rfl, rfl, by have := HPQ.out; omega, by have := HPQ.out; omega, HLO, HH2, ⟨HGR.out X⟩⟩
        case measure => have := HPQ.out; simp [intOf]; omega
    · obtain rfl : p = q := by omega
      go_upto_region 8 with fail
      by_cases hpn : p < n
      · have hpu : p < us.length := by have := HN.out; omega
        obtain ⟨b, off, x, rfl, hx, lb, hc⟩ := un_at HR.out HW.out.bel hpu
        have p0 : ∀ X : Grow wr, X.val.cell? ⟨b, off + p * 4, none⟩ = some (.int .i64 x.group) := fun X => (hc X.val X.bel).1
        have p1 : ∀ X : Grow wr, X.val.cell? ⟨b, off + p * 4 + 1, none⟩ = some (.int .i64 x.index) := fun X => (hc X.val X.bel).2.1
        have p2 : ∀ X : Grow wr, X.val.cell? ⟨b, off + p * 4 + 2, none⟩ = some (.string x.text) := fun X => (hc X.val X.bel).2.2.1
        have p3 : ∀ X : Grow wr, X.val.cell? ⟨b, off + p * 4 + 3, none⟩ = some (.int .i64 x.sum) := fun X => (hc X.val X.bel).2.2.2
        have HCM := Shut.mk (fun X => calls_grow (w := wr) (fun W' (_ : Below wr.heap.size wr W') => implCmp x u W') X)
        have HCT : Shut (Cut us u p (cmpU x u == 0)) := ⟨⟨by have := HN.out; omega, HLO.out, HHI.out, by
          have := cmpU_zero x u
          rw [hx] at this ⊢
          constructor
          · intro h; exact ⟨hpu, this.1 (by simpa using h)⟩
          · rintro ⟨_, h⟩; simpa using this.2 h⟩⟩
        generalize cmpU x u = cv at HCM HCT
        have hpd : decide ((p : Int) < (n : Int)) = true := by simp; omega
        have hpi : (p : Int) < (n : Int) := by omega
        have hp0 : (0 : Int) ≤ (p : Int) := by omega
        clear hc hx
        refine wp_region_grow (by kernel_rfl) (by kernel_rfl) ?_
        repeat (go_big_quiet_step (first | (go_at_call 43; with_reducible exact HCM.out _)))
        refine wpQuiet_nil ?_
        rintro _ ⟨X, rfl⟩
        clear g0 g1 g2 g3 p0 p1 p2 p3
        go_wp2_with fail
        go_ret2
        exact ⟨p, cv == 0, rfl, HCT.out, (HGR.out X).bel⟩
      · have HCT : Shut (Cut us u p false) := ⟨⟨by have := HN.out; omega, HLO.out, HHI.out, by
          constructor
          · intro h; cases h
          · rintro ⟨h, _⟩; have := HN.out; omega⟩⟩
        have hpd : decide ((p : Int) < (n : Int)) = false := by simp; omega
        have hpd2 : decide (p < n) = false := by simp; omega
        refine wp_region_grow (by kernel_rfl) (by kernel_rfl) ?_
        repeat (go_big_quiet_step (fail))
        refine wpQuiet_nil ?_
        rintro _ ⟨X, rfl⟩
        clear g0 g1 g2 g3
        go_wp2_with fail
        go_ret2
        exact ⟨p, false, rfl, HCT.out, (HGR.out X).bel⟩
end Go.Proofs.YtbanfccnmbmcfaaDoor
/- HpH: The library's slices.Grow of nothing, slices.Concat of rows of units. -/
namespace Go.Proofs.YtbanfccnmbmcfaaDoor
set_option maxRecDepth 100000
open Go.RowKit BigFrame
attribute [local go_sem ↓] Go.wp_at_zero Go.wp_at_succ

set_option maxRecDepth 100000 in
set_option maxHeartbeats 1000000 in
theorem growUnits (n : Nat) (w : World) (h0 : 0 < n) (h1 : n ≤ 9000000) :
    Calls Tryd.prog 70 #[.slice none 0 0, .int .i64 n] w fun e w' => ∃ v, e = .returned v ∧ w'.ownsRow w.heap.size 32 4 v 0 [] ∧ w.grownBy w' none ∧ v.ownBlock = some w.heap.size := by
  obtain ⟨i0, hin, hz0, hz1, hz2⟩ := info_parts infoUnit
  have hrun := fun ty => Lib.run_append_nil_zeros (P := Tryd.prog) w 24 3 ty 32 i0 _ .i64 .i64 Tryd.underlying24 Tryd.underlying3 hin hz0 n h0 (by rw [hz1]; decide) (by omega) (by rw [hz2]; omega)
  obtain ⟨c, hc⟩ : ∃ c, c = grownCap w n 0 32 := ⟨_, rfl⟩
  have hge := grownCap_ge w n 0 32
  have hle := grownCap_le_maxLen w n 0 32 (by unfold maxLen; omega)
  rw [← hc] at hrun hge hle
  obtain ⟨cur, hcur⟩ : ∃ cur, cur = Builtin.zeroCells (Value.agg #[.int .i64 0, .int .i64 0, .string ⟨#[]⟩, .int .i64 0]).cells n ++ Builtin.zeroCells (Value.agg #[.int .i64 0, .int .i64 0, .string ⟨#[]⟩, .int .i64 0]).cells (c - n) := ⟨_, rfl⟩
  rw [← hcur] at hrun
  have hsz : cur.size = c * 4 := by
    rw [hcur, Array.size_append, size_zeroCells, size_zeroCells]
    show n * 4 + (c - n) * 4 = c * 4
    omega
  have HO := Shut.mk (World.ownsRow_made (e := 32) (size := 4) (base := w.heap.size) w.drew cur c (Nat.le_refl _) hle hsz)
  have HG : Shut (w.grownBy (w.drew.alloc (.cells cur 32)) none) := ⟨⟨rfl, rfl, rfl, by simp, fun k hk _ => heap_alloc_old w.drew _ hk⟩⟩
  obtain ⟨W1, hW1⟩ : ∃ q, q = w.drew.alloc (.cells cur 32) := ⟨_, rfl⟩
  rw [← hW1] at hrun HO HG
  have HRUN := Shut.mk hrun
  have hp : (0 : Int) < (n : Int) := by omega
  have hneg : ¬ ((n : Int) < 0) := by omega
  have hc0 : (0 : Int) ≤ (c : Int) := by omega
  clear hrun hc hge hle hcur hsz hW1
  go_enter Tryd.func70, Tryd.ntmps70
  go_wp2_with (at_builtin; refine Lib.wpList_append_run _ rfl _ _ _ _ rfl _ _ rfl rfl _ _ (HRUN.out _) ?_)
  go_ret
  exact ⟨_, rfl, HO.out, HG.out, rfl⟩
/-- A row of units that is handed on. -/
structure CU where
  loc : Option Addr
  cap : Nat
  us : List UnM
def cuv (x : CU) : Value := .slice x.loc x.us.length x.cap
def cuAll (xs : List CU) : List UnM := xs.flatMap fun x => x.us
theorem cuAll_step {xs : List CU} {k : Nat} (h : k < xs.length) : cuAll (xs.take (k + 1)) = cuAll (xs.take k) ++ xs[k].us := by
  unfold cuAll
  rw [List.take_succ_eq_append_getElem h, List.flatMap_append]
  simp
theorem cuAll_le {xs : List CU} (k : Nat) : (cuAll (xs.take k)).length ≤ (cuAll xs).length := by
  unfold cuAll
  conv => rhs; rw [← List.take_append_drop k xs]
  rw [List.flatMap_append, List.length_append]
  omega
set_option maxRecDepth 100000 in
set_option maxHeartbeats 2000000 in
theorem concatUnits (xs : List CU) (g m cap : Nat) (w : World) (hm : m = xs.length) (hmx : m ≤ 1000) (hcell : ∀ j (hj : j < xs.length), w.cell? ⟨g, j, none⟩ = some (cuv xs[j])) (hg : g < w.heap.size) (hrow : ∀ x ∈ xs, UnRow w x.loc x.us) (h0 : 0 < (cuAll xs).length) (h1 : (cuAll xs).length ≤ 9000000) :
    Calls Tryd.prog 58 #[.slice (some ⟨g, 0, none⟩) m cap] w fun e w' => ∃ v, e = .returned v ∧ w'.ownsRow w.heap.size 32 4 v (cuAll xs).length (unS (cuAll xs)) ∧ Below w.heap.size w w' := by
  obtain ⟨i0, hin, hz0, hz1, hz2⟩ := info_parts infoUnit
  have HM := Shut.mk hm
  have HC := Shut.mk hcell
  have HRW := Shut.mk hrow
  clear hm hcell hrow
  obtain ⟨N, hN⟩ : ∃ N, N = (cuAll xs).length := ⟨_, rfl⟩
  rw [← hN] at h0 h1 ⊢
  have HNN := Shut.mk hN
  clear hN
  go_enter Tryd.func58, Tryd.ntmps58
  go_wp2_with fail
  go_loop [3, 11] (fun v3 i9 => ∃ (k s : Nat), v3 = .int .i64 s ∧ i9 = .int .i64 k ∧ k ≤ m ∧ Shut (s = (cuAll (xs.take k)).length)) (fun _ i9 => m - (intOf i9).toNat)
  case atStart => exact ⟨0, 0, rfl, rfl, Nat.zero_le _, ⟨rfl⟩⟩
  case round =>
    obtain ⟨k, s, rfl, rfl, hk, HS⟩ := hrel
    by_cases hlt : k < m
    · have hkx : k < xs.length := by have := HM.out; omega
      have c0 := HC.out k hkx
      unfold cuv at c0
      have HST := Shut.mk (cuAll_step hkx)
      have hsb : s + xs[k].us.length ≤ 9000000 := by
        have q1 := cuAll_le (xs := xs) (k + 1)
        rw [HST.out, List.length_append, ← HS.out, ← HNN.out] at q1
        omega
      have HS2 : Shut (s + xs[k].us.length = (cuAll (xs.take (k + 1))).length) := ⟨by rw [HST.out, List.length_append, ← HS.out]⟩
      generalize xs[k].us.length = l at c0 hsb HS2
      generalize xs[k].loc = la at c0
      generalize xs[k].cap = lc at c0
      have k0 : (0 : Int) ≤ (k : Int) := by omega
      have k1 : (k : Int) < (m : Int) := by omega
      have hn : ¬ ((s : Int) + (l : Int) < 0) := by omega
      clear HST
      go_wp2_with fail
      go_round
      case rel => exact ⟨k + 1, s + l, by go_num, by go_num, by omega, HS2⟩
      case measure => simp [intOf]; omega
    · obtain rfl : k = m := by omega
      have HSN : Shut (s = N) := ⟨by rw [HS.out, HNN.out, List.take_of_length_le (by have := HM.out; omega)]⟩
      have hsn := HSN.out
      subst hsn
      clear HS HSN
      go_upto_region 10 with (go_at_call 70; refine (growUnits _ _ h0 h1).mono ?_; rintro e w1 ⟨v1, rfl, ho1, hg1, hb1⟩; have HO := Shut.mk (OwS.more (OwS.nil (ty := 32) (sz := 4) (SL.start w)) (Below.refl _ _) ho1 hg1 (.inr hb1)); clear ho1 hg1 hb1)
      go_wp2_with fail
      go_loopw [6, 27] (fun v6 i9 wr => ∃ (k2 s2 : Nat), i9 = .int .i64 k2 ∧ k2 ≤ k ∧ Shut (s2 = (cuAll (xs.take k2)).length) ∧ Shut (OwS w wr [] 32 4 v6 s2 (unS (cuAll (xs.take k2))))) (fun _ i9 _ => k - (intOf i9).toNat)
      case atStart => exact ⟨0, 0, rfl, Nat.zero_le _, ⟨rfl⟩, HO⟩
      case round =>
        clear HO
        obtain ⟨k2, s2, rfl, hk2, HS, HW⟩ := hrel
        obtain ⟨av, cv, rfl⟩ := own_row_slice HW.out.own
        by_cases hlt2 : k2 < k
        · have hkx : k2 < xs.length := by have := HM.out; omega
          have c0 := (HW.out.sl.bel.cell (p := ⟨g, k2, none⟩) hg).trans (HC.out k2 hkx)
          unfold cuv at c0
          have HRX := Shut.mk ((HRW.out _ (List.getElem_mem hkx)).stays HW.out.sl.bel)
          have HST := Shut.mk (cuAll_step hkx)
          have hsb : s2 + xs[k2].us.length ≤ 9000000 := by
            have q1 := cuAll_le (xs := xs) (k2 + 1)
            rw [HST.out, List.length_append, ← HS.out, ← HNN.out] at q1
            omega
          have HS2 : Shut (s2 + xs[k2].us.length = (cuAll (xs.take (k2 + 1))).length) := ⟨by rw [HST.out, List.length_append, ← HS.out]⟩
          have HNX : Shut (unS (cuAll (xs.take (k2 + 1))) = unS (cuAll (xs.take k2)) ++ unS xs[k2].us) := ⟨by rw [HST.out, uns_app]⟩
          obtain ⟨U, hU⟩ : ∃ U, U = xs[k2].us := ⟨_, rfl⟩
          rw [← hU] at c0 hsb HS2 HNX HRX
          have HLU : Shut ((unS U).length = U.length * 4) := ⟨unS_len U⟩
          have HON := Shut.mk (uns_one U)
          generalize xs[k2].loc = la at c0 HRX
          generalize xs[k2].cap = lc at c0
          generalize U.length = l at c0 hsb HS2 HLU
          have k0 : (0 : Int) ≤ (k2 : Int) := by omega
          have k1 : (k2 : Int) < (k : Int) := by omega
          have hbs := HW.out.sl.bel.size
          clear HST hU
          go_wp2_with (at_builtin; refine wpList_append_row _ rfl _ _ 24 rfl w.heap.size 32 i0 _ 4 40 Tryd.underlying24 hin hz0 hz1 hz2 rfl (by decide) _ _ _ rfl HW.out.own la l lc (unS U) rfl HLU.out HRX.out HON.out (by unfold maxLen; omega) (by omega) hbs ?_; intro v9 w9 ho9 hg9 ha9; have H9 := Shut.mk (HW.out.more (Below.refl _ _) ho9 hg9 ha9); clear ho9 hg9 ha9)
          rw [← HNX.out] at H9
          go_roundw
          case rel => exact ⟨k2 + 1, s2 + l, by go_num, by omega, HS2, H9⟩
          case measure => simp [intOf]; omega
        · obtain rfl : k2 = k := by omega
          have HE : Shut (OwS w wr [] 32 4 (.slice av s2 cv) s (unS (cuAll xs))) := ⟨by
            have q := HW.out
            have e := HS.out
            rw [List.take_of_length_le (by have := HM.out; omega)] at q e
            rw [← HNN.out] at e
            rw [e] at q ⊢
            exact q⟩
          go_wp2_with fail
          go_ret
          exact ⟨_, rfl, HE.out.own, HE.out.sl.bel⟩
end Go.Proofs.YtbanfccnmbmcfaaDoor
/- HpI: The program's own with (written by gen/mkhpi.py). -/
namespace Go.Proofs.YtbanfccnmbmcfaaDoor
set_option maxRecDepth 100000
open Go.RowKit BigFrame
attribute [local go_sem ↓] Go.wp_at_zero Go.wp_at_succ

/-- A part of a row of units, behind a place. -/
theorem row_drop {w : World} {b off : Nat} {us : List UnM} (h : UnRow w (some ⟨b, off, none⟩) us) (q : Nat) (hq : q ≤ us.length) (a : Option Addr) (ha : q < us.length → a = some ⟨b, off + q * 4, none⟩) : UnRow w a (us.drop q) := by
  intro hp
  have hp' : 0 < (unS (us.drop q)).length := hp
  have hlt : q < us.length := by rw [unS_len, List.length_drop] at hp'; omega
  obtain ⟨b', off', e, lb, hc⟩ := h (by show 0 < (unS us).length; rw [unS_len]; omega)
  simp only [Option.some.injEq, Addr.mk.injEq, and_true] at e
  obtain ⟨rfl, rfl⟩ := e
  refine ⟨b, off + q * 4, ha hlt, lb, fun j u hj => ?_⟩
  have e1 : unS us = unS (us.take q) ++ unS (us.drop q) := by rw [← uns_app, List.take_append_drop]
  have l1 : (unS (us.take q)).length = q * 4 := by rw [unS_len, List.length_take, Nat.min_eq_left hq]
  have := hc (q * 4 + j) u (by rw [e1, List.getElem?_append_right (by omega), l1, show q * 4 + j - q * 4 = j by omega]; exact hj)
  rw [Nat.add_assoc]
  exact this
theorem row_part {w : World} {a : Option Addr} {us : List UnM} {cap : Nat} (h : UnRow w a us) (q : Nat) (hq : q ≤ us.length) (hc : us.length ≤ cap) : UnRow w (if cap = q then a else Option.map (fun x => x.add (q * 4)) a) (us.drop q) := by
  by_cases hlt : q < us.length
  · obtain ⟨b, off, rfl, lb, hcc⟩ := UnRow.at h (by omega)
    refine row_drop h q hq _ fun _ => ?_
    rw [if_neg (by omega)]
    have : (⟨b, off, none⟩ : Addr).add (q * 4) = ⟨b, off + q * 4, none⟩ := by cases hq4 : q * 4 <;> simp [Addr.add]
    simp [this]
  · rw [List.drop_of_length_le (by omega)]
    intro hp
    have hp' : 0 < (unS []).length := hp
    simp [unS] at hp'
theorem row_one {w : World} {g : Nat} {u : UnM} (h : WCells w g (unC u)) : UnRow w (some ⟨g, 0, none⟩) [u] := fun _ => ⟨g, 0, rfl, h.1, fun j x hj => by
  rw [Nat.zero_add]
  exact (h.2 j x (by simpa [unS] using hj)).1⟩
/-- A beginning of a row of units. -/
theorem row_take {w : World} {a : Option Addr} {us : List UnM} (h : UnRow w a us) (q : Nat) : UnRow w a (us.take q) := by
  intro hp
  have hp' : 0 < (unS (us.take q)).length := hp
  obtain ⟨b, off, e, lb, hc⟩ := h (by show 0 < (unS us).length; rw [unS_len] at hp' ⊢; rw [List.length_take] at hp'; omega)
  refine ⟨b, off, e, lb, fun j u hj => hc j u ?_⟩
  have e1 : unS us = unS (us.take q) ++ unS (us.drop q) := by rw [← uns_app, List.take_append_drop]
  rw [e1, List.getElem?_append_left (List.getElem?_eq_some_iff.1 hj).1]
  exact hj
theorem with_is {us : List UnM} {u : UnM} {p : Nat} {b : Bool} (h : Cut us u p b) (hs : UpU us) : putL us u = us.take p ++ [u] ++ us.drop (if b = true then p + 1 else p) := by
  rw [putL_cut h.low h.high hs]
  congr 2
  by_cases hb : b = true
  · rw [if_pos (h.same.1 hb), if_pos hb]
  · rw [if_neg (fun e => hb (h.same.2 e)), if_neg hb]
set_option maxRecDepth 100000 in
set_option maxHeartbeats 4000000 in
theorem implWith (H : HM) (a : Option Addr) (cap : Nat) (u : UnM) (w : World) (hr : UnRow w a H.us) (hcn : H.us.length ≤ cap) (hl : H.us.length ≤ 1048576) (hs : UpU H.us) :
    Calls Tryd.prog 35 #[hov H a cap, unv u] w fun e w' => HoPost ⟨H.id, H.up, putL H.us u⟩ w e w' := by
  have HS0 := Shut.mk ((((SL.start w).new #[.int .i64 H.id, .bool H.up, .slice a H.us.length cap] 26).new #[.int .i64 u.group, .int .i64 u.index, .string u.text, .int .i64 u.sum] 32).new #[.int .i64 0, .bool false, .slice none 0 0] 26)
  simp only [World.size_alloc] at HS0
  have HBS := Shut.mk (fun (W : World) (hb : Below w.heap.size w W) => searchUnit H.us a H.us.length cap u W (hr.stays hb) rfl (by omega) hs)
  have HR := Shut.mk hr
  have HUP := Shut.mk hs
  clear hr hs
  obtain ⟨id, up, us⟩ := H
  dsimp only [hov] at *
  obtain ⟨n, hn⟩ : ∃ n, n = us.length := ⟨_, rfl⟩
  have HN := Shut.mk hn
  rw [← hn] at HS0 HBS hl hcn ⊢
  clear hn
  go_enter Tryd.func35, Tryd.ntmps35
  go_upto_region 1 with fail
  refine wp_shade (fun W => SL w W [bxS (w.heap.size + 1 + 1) [.int .i64 0, .bool false, .slice none 0 0], bxS (w.heap.size + 1) [.int .i64 u.group, .int .i64 u.index, .string u.text, .int .i64 u.sum], bxS w.heap.size [.int .i64 id, .bool up, .slice a n cap]]) HS0.out ?_
  intro W0 hW
  have H := Shut.mk hW
  clear HS0 hW
  have x2 := (H.out.bx 2 rfl 2 _ rfl).1
  have y0 := (H.out.bx 1 rfl 0 _ rfl).1
  have y1 := (H.out.bx 1 rfl 1 _ rfl).1
  have y2 := (H.out.bx 1 rfl 2 _ rfl).1
  have y3 := (H.out.bx 1 rfl 3 _ rfl).1
  go_upto_region 2 with (go_at_call 57; refine (HBS.out _ H.out.bel).mono ?_; rintro e w1 ⟨p, fl, rfl, hcut, hb⟩; have HCUT := Shut.mk hcut; replace H := Shut.mk (H.out.below hb); clear hb hcut x2 y0 y1 y2 y3)
  have hpn : p ≤ n := by have := HCUT.out.le; have := HN.out; omega
  obtain ⟨q, hq⟩ : ∃ q, q = if fl = true then p + 1 else p := ⟨_, rfl⟩
  have HPU := Shut.mk (with_is HCUT.out HUP.out)
  rw [← hq] at HPU
  have hqn : q ≤ n := by
    cases fl with
    | true =>
      obtain ⟨h, _⟩ := HCUT.out.same.1 rfl
      rw [if_pos rfl] at hq
      have := HN.out
      omega
    | false => rw [if_neg (by decide)] at hq; omega
  have HQ := Shut.mk hq
  clear hq
  have p0 : (0 : Int) ≤ (p : Int) := by omega
  have p1 : (p : Int) ≤ (cap : Int) := by omega
  have q0 : (0 : Int) ≤ (q : Int) := by omega
  have q1 : (q : Int) ≤ (n : Int) := by omega
  have q2 : (n : Int) ≤ (cap : Int) := by omega
  cases fl with
  | true =>
    have hq1 : (p : Int) + 1 = (q : Int) := by have := HQ.out; rw [if_pos rfl] at this; omega
    go_upto_region 5 with fail
    clear hq1
    have HTX : Shut (∀ x, Later w1.drew x → SL w x [bxS (w.heap.size + 1 + 1) [.int .i64 0, .bool false, .slice none 0 0], bxS (w.heap.size + 1) [.int .i64 u.group, .int .i64 u.index, .string u.text, .int .i64 u.sum], bxS w.heap.size [.int .i64 id, .bool up, .slice a n cap]]) := ⟨fun x hx => H.out.drew.below hx⟩
    have HLE : Shut (∀ x, Later w1.drew x → x.cell? ⟨w.heap.size, 2, none⟩ = some (.slice a n cap) ∧ x.cell? ⟨w.heap.size + 1, 0, none⟩ = some (.int .i64 u.group) ∧ x.cell? ⟨w.heap.size + 1, 1, none⟩ = some (.int .i64 u.index) ∧ x.cell? ⟨w.heap.size + 1, 2, none⟩ = some (.string u.text) ∧ x.cell? ⟨w.heap.size + 1, 3, none⟩ = some (.int .i64 u.sum)) := ⟨fun x hx => ⟨((HTX.out x hx).bx 2 rfl 2 _ rfl).1, ((HTX.out x hx).bx 1 rfl 0 _ rfl).1, ((HTX.out x hx).bx 1 rfl 1 _ rfl).1, ((HTX.out x hx).bx 1 rfl 2 _ rfl).1, ((HTX.out x hx).bx 1 rfl 3 _ rfl).1⟩⟩
    refine wp_region_set (fun j => decide (12 ≤ j)) (by kernel_rfl) ?_
    refine wpD_val (i := 0) (v := ?vt0) rfl (by kernel_rfl) (by kernel_rfl) (by kernel_rfl) (by kernel_rfl) (fun _ _ _ h => h) (by rfl) ?hyt0 ?restt0
    case hyt0 => (intro x hx; obtain ⟨d2, e0, e1, e2, e3⟩ := HLE.out x hx; go_simp; try with_reducible rfl)
    try simp only [Act.put, List.setIfInBounds_toArray, List.set_cons_zero, List.set_cons_succ]
    refine wpD_val (i := 1) (v := ?vt1) rfl (by kernel_rfl) (by kernel_rfl) (by kernel_rfl) (by kernel_rfl) (fun _ _ _ h => h) (by rfl) ?hyt1 ?restt1
    case hyt1 => (intro x hx; obtain ⟨d2, e0, e1, e2, e3⟩ := HLE.out x hx; go_simp; try with_reducible rfl)
    try simp only [Act.put, List.setIfInBounds_toArray, List.set_cons_zero, List.set_cons_succ]
    refine wpD_val (i := 2) (v := ?vt2) rfl (by kernel_rfl) (by kernel_rfl) (by kernel_rfl) (by kernel_rfl) (fun _ _ _ h => h) (by rfl) ?hyt2 ?restt2
    case hyt2 => (intro x hx; obtain ⟨d2, e0, e1, e2, e3⟩ := HLE.out x hx; go_simp; try with_reducible rfl)
    try simp only [Act.put, List.setIfInBounds_toArray, List.set_cons_zero, List.set_cons_succ]
    refine wpD_val (i := 3) (v := ?vt3) rfl (by kernel_rfl) (by kernel_rfl) (by kernel_rfl) (by kernel_rfl) (fun _ _ _ h => h) (by rfl) ?hyt3 ?restt3
    case hyt3 => (intro x hx; obtain ⟨d2, e0, e1, e2, e3⟩ := HLE.out x hx; go_simp; try with_reducible rfl)
    try simp only [Act.put, List.setIfInBounds_toArray, List.set_cons_zero, List.set_cons_succ]
    refine wpD_val (i := 4) (v := ?vt4) rfl (by kernel_rfl) (by kernel_rfl) (by kernel_rfl) (by kernel_rfl) (fun _ _ _ h => h) (by rfl) ?hyt4 ?restt4
    case hyt4 => (intro x hx; obtain ⟨d2, e0, e1, e2, e3⟩ := HLE.out x hx; go_simp; try with_reducible rfl)
    try simp only [Act.put, List.setIfInBounds_toArray, List.set_cons_zero, List.set_cons_succ]
    refine wpD_val (i := 6) (v := ?vt6) rfl (by kernel_rfl) (by kernel_rfl) (by kernel_rfl) (by kernel_rfl) (fun _ _ _ h => h) (by rfl) ?hyt6 ?restt6
    case hyt6 => (intro x hx; obtain ⟨d2, e0, e1, e2, e3⟩ := HLE.out x hx; go_simp; try with_reducible rfl)
    try simp only [Act.put, List.setIfInBounds_toArray, List.set_cons_zero, List.set_cons_succ]
    refine wpD_val (i := 7) (v := ?vt7) rfl (by kernel_rfl) (by kernel_rfl) (by kernel_rfl) (by kernel_rfl) (fun _ _ _ h => h) (by rfl) ?hyt7 ?restt7
    case hyt7 => (intro x hx; obtain ⟨d2, e0, e1, e2, e3⟩ := HLE.out x hx; go_simp; try with_reducible rfl)
    try simp only [Act.put, List.setIfInBounds_toArray, List.set_cons_zero, List.set_cons_succ]
    refine wpD_val (i := 8) (v := ?vt8) rfl (by kernel_rfl) (by kernel_rfl) (by kernel_rfl) (by kernel_rfl) (fun _ _ _ h => h) (by rfl) ?hyt8 ?restt8
    case hyt8 => (intro x hx; obtain ⟨d2, e0, e1, e2, e3⟩ := HLE.out x hx; go_simp; try with_reducible rfl)
    try simp only [Act.put, List.setIfInBounds_toArray, List.set_cons_zero, List.set_cons_succ]
    refine wpD_val (i := 9) (v := ?vt9) rfl (by kernel_rfl) (by kernel_rfl) (by kernel_rfl) (by kernel_rfl) (fun _ _ _ h => h) (by rfl) ?hyt9 ?restt9
    case hyt9 => (intro x hx; obtain ⟨d2, e0, e1, e2, e3⟩ := HLE.out x hx; go_simp; try with_reducible rfl)
    try simp only [Act.put, List.setIfInBounds_toArray, List.set_cons_zero, List.set_cons_succ]
    have HSR := Shut.mk (fun (W : World) (hb : Below w.heap.size w W) => row_part (cap := cap) (HR.out.stays hb) q (by have := HN.out; omega) (by have := HN.out; omega))
    generalize (if cap = q then a else Option.map (fun x => x.add (q * 4)) a) = sa at HSR ⊢
    refine wpD_one (i := 5) (by kernel_rfl) rfl (by rfl) ?_
    intro x1 hx1
    refine ⟨.slice (some ⟨x1.heap.size, 0, none⟩) 1 1, x1.alloc (.cells #[.int .i64 u.group, .int .i64 u.index, .string u.text, .int .i64 u.sum] 32), ?_, (Below.refl _ _).alloc (Nat.le_refl _) _, ?_⟩
    · go_simp
    have HX1 := Shut.mk ((HTX.out x1 hx1).new #[.int .i64 u.group, .int .i64 u.index, .string u.text, .int .i64 u.sum] 32)
    obtain ⟨g1, hg1⟩ : ∃ g1, g1 = x1.heap.size := ⟨_, rfl⟩
    rw [← hg1] at HX1 ⊢
    generalize x1.alloc (.cells #[.int .i64 u.group, .int .i64 u.index, .string u.text, .int .i64 u.sum] 32) = W1 at HX1 ⊢
    clear hx1 hg1 HTX HLE
    try simp only [Act.put, List.setIfInBounds_toArray, List.set_cons_zero, List.set_cons_succ]
    refine wpD_one (i := 10) (by kernel_rfl) rfl (by rfl) ?_
    intro x2 hx2
    refine ⟨.slice (some ⟨x2.heap.size, 0, none⟩) 3 3, x2.alloc (.cells #[.slice a p cap, .slice (some ⟨g1, 0, none⟩) 1 1, .slice sa (n - q) (cap - q)] 24), ?_, (Below.refl _ _).alloc (Nat.le_refl _) _, ?_⟩
    · go_simp
    have HX2 := Shut.mk ((HX1.out.below hx2).new #[.slice a p cap, .slice (some ⟨g1, 0, none⟩) 1 1, .slice sa (n - q) (cap - q)] 24)
    obtain ⟨g2, hg2⟩ : ∃ g2, g2 = x2.heap.size := ⟨_, rfl⟩
    rw [← hg2] at HX2 ⊢
    generalize x2.alloc (.cells #[.slice a p cap, .slice (some ⟨g1, 0, none⟩) 1 1, .slice sa (n - q) (cap - q)] 24) = W2 at HX2 ⊢
    clear hx2 hg2 HX1
    try simp only [Act.put, List.setIfInBounds_toArray, List.set_cons_zero, List.set_cons_succ]
    have HCC : Shut (∀ W, SL w W (bxS g2 [.slice a p cap, .slice (some ⟨g1, 0, none⟩) 1 1, .slice sa (n - q) (cap - q)] :: bxS g1 [.int .i64 u.group, .int .i64 u.index, .string u.text, .int .i64 u.sum] :: [bxS (w.heap.size + 1 + 1) [.int .i64 0, .bool false, .slice none 0 0], bxS (w.heap.size + 1) [.int .i64 u.group, .int .i64 u.index, .string u.text, .int .i64 u.sum], bxS w.heap.size [.int .i64 id, .bool up, .slice a n cap]]) → Calls Tryd.prog 58 #[.slice (some ⟨g2, 0, none⟩) 3 3] W fun e w' => ∃ av cv, e = .returned (.slice av (putL us u).length cv) ∧ FRw w' av (unS (putL us u)) W.heap.size w'.heap.size ∧ (putL us u).length ≤ cv ∧ Below W.heap.size W w') := ⟨fun W h => by
      have l1 : (us.take p).length = p := by rw [List.length_take]; have := HN.out; omega
      have l2 : (us.drop q).length = n - q := by rw [List.length_drop, ← HN.out]
      have ea : cuAll [⟨a, cap, us.take p⟩, ⟨some ⟨g1, 0, none⟩, 1, [u]⟩, ⟨sa, cap - q, us.drop q⟩] = putL us u := by rw [HPU.out]; simp [cuAll]
      have k := concatUnits [⟨a, cap, us.take p⟩, ⟨some ⟨g1, 0, none⟩, 1, [u]⟩, ⟨sa, cap - q, us.drop q⟩] g2 3 3 W rfl (by omega) (fun j hj => by
        match j, hj with
        | 0, _ => have q9 := (h.bx 0 rfl 0 _ rfl).1; show _ = some (Value.slice a (us.take p).length cap); rw [l1]; exact q9
        | 1, _ => exact (h.bx 0 rfl 1 _ rfl).1
        | 2, _ => have q9 := (h.bx 0 rfl 2 _ rfl).1; show _ = some (Value.slice sa (us.drop _).length (cap - _)); rw [l2]; exact q9) (h.at 0 rfl).1 (fun x hx => by
        simp only [List.mem_cons, List.not_mem_nil, or_false] at hx
        rcases hx with rfl | rfl | rfl
        · exact row_take (HR.out.stays h.bel) p
        · exact row_one (show WCells W g1 (unC u) from h.at 1 rfl)
        · exact HSR.out W h.bel) (by rw [ea, HPU.out]; simp only [List.length_append, List.length_singleton]; omega) (by rw [ea, HPU.out]; simp only [List.length_append, l1, l2, List.length_singleton]; omega)
      rw [ea] at k
      refine k.mono ?_
      rintro e y ⟨v, rfl, ho, hb⟩
      obtain ⟨av, cv, rfl⟩ := own_row_slice ho
      exact ⟨av, cv, rfl, (FRw.of_own ho).1, (FRw.of_own ho).2, hb⟩⟩
    obtain ⟨P, hP⟩ : ∃ P, P = putL us u := ⟨_, rfl⟩
    have HP9 := Shut.mk hP
    rw [← hP] at HCC
    clear hP HSR
    refine wpD_onecall (f := 58) (args := #[.slice (some ⟨g2, 0, none⟩) 3 3]) (i := 11) (by kernel_rfl) rfl (by rfl) (fun x hx => by go_simp) (fun x hx => (HCC.out x (HX2.out.below hx)).mono ?_)
    rintro e y3 ⟨av, cv, rfl, hF, hcv, hb3⟩
    refine ⟨_, rfl, hb3, ?_⟩
    have HY := Shut.mk (((HX2.out.below hx).tail.tail).add (s := rwS av (unS P) _ _) hb3 hF (rwS.loc _ _ _ _) (Nat.le_refl _) (Nat.le_refl _))
    clear hF hb3 hx HX2 HCC
    generalize x.heap.size = lo9 at HY
    generalize hh9 : y3.heap.size = hi9 at HY
    clear hh9
    try simp only [Act.put, List.setIfInBounds_toArray, List.set_cons_zero, List.set_cons_succ]
    refine wpD_tail (by kernel_rfl) ?_
    intro x5 hx5
    have H5 := Shut.mk (HY.out.below hx5)
    clear HY hx5
    refine wpA_val (i := 12) (v := .pointer (some ⟨w.heap.size, 2, none⟩)) rfl (by kernel_rfl) (by kernel_rfl) (by kernel_rfl) (fun _ _ _ h => h) (by rfl) (fun x => by go_simp) ?_
    try simp only [Act.put, List.setIfInBounds_toArray, List.set_cons_zero, List.set_cons_succ]
    obtain ⟨z2, z2z⟩ := H5.out.bx 3 rfl 2 _ rfl
    refine wpA_step (y := x5.setCell ⟨w.heap.size, 2, none⟩ (.slice av P.length cv)) (i := 13) (by kernel_rfl) rfl (by rfl) (by go_simp) ?_
    have H7 := Shut.mk (H5.out.put 3 rfl 2 (.slice av P.length cv) (by simp))
    simp only [List.set_cons_zero, List.set_cons_succ] at H7
    simp only [Act.put]
    refine wpA_done (by kernel_rfl) ?_ _
    clear z2 z2z H5 H
    go_upto_region 6 with fail
    refine wp_shade (fun W => SL w W [rwS av (unS P) lo9 hi9, bxS (w.heap.size + 1 + 1) [.int .i64 0, .bool false, .slice none 0 0], bxS (w.heap.size + 1) [.int .i64 u.group, .int .i64 u.index, .string u.text, .int .i64 u.sum], bxS w.heap.size [.int .i64 id, .bool up, .slice av P.length cv]]) H7.out ?_
    intro W8 hW
    have H := Shut.mk hW
    clear hW H7
    obtain ⟨m9, hm9⟩ : ∃ m9, m9 = P.length := ⟨_, rfl⟩
    rw [← hm9] at H
    have HM9 := Shut.mk hm9
    rw [← hm9]
    clear hm9
    have z0 := (H.out.bx 3 rfl 0 _ rfl).1
    have z1 := (H.out.bx 3 rfl 1 _ rfl).1
    have z2 := (H.out.bx 3 rfl 2 _ rfl).1
    obtain ⟨r0, r0z⟩ := H.out.bx 1 rfl 0 _ rfl
    obtain ⟨r1, r1z⟩ := H.out.bx 1 rfl 1 _ rfl
    obtain ⟨r2, r2z⟩ := H.out.bx 1 rfl 2 _ rfl
    go_wp2_with fail
    have HE := Shut.mk ((((H.out.put 1 rfl 0 (.int .i64 id) (by simp)).put 1 rfl 1 (.bool up) (by simp)).put 1 rfl 2 (.slice av m9 cv) (by simp)))
    have hs := HE.out.is _ (List.mem_of_getElem? (show _[0]? = some (rwS av (unS P) lo9 hi9) from rfl))
    refine bodyPost_ret (v := .agg #[.int .i64 id, .bool up, .slice av m9 cv]) (by simp [results, Tryd.results35, go_sem, r0, r1, r2]) rfl ?_
    rw [← HP9.out]
    exact ⟨av, cv, by show _ = Ending.returned (.agg #[.int .i64 id, .bool up, .slice av P.length cv]); rw [← HM9.out], frw_wide (show FRw _ _ (unS P) lo9 hi9 from hs.1) hs.2.2.1 hs.2.2.2, hcv, HE.out.bel⟩
  | false =>
    have hq1 : q = p := by have := HQ.out; rw [if_neg (by decide)] at this; exact this
    subst hq1
    go_upto_region 5 with fail
    have HTX : Shut (∀ x, Later w1.drew x → SL w x [bxS (w.heap.size + 1 + 1) [.int .i64 0, .bool false, .slice none 0 0], bxS (w.heap.size + 1) [.int .i64 u.group, .int .i64 u.index, .string u.text, .int .i64 u.sum], bxS w.heap.size [.int .i64 id, .bool up, .slice a n cap]]) := ⟨fun x hx => H.out.drew.below hx⟩
    have HLE : Shut (∀ x, Later w1.drew x → x.cell? ⟨w.heap.size, 2, none⟩ = some (.slice a n cap) ∧ x.cell? ⟨w.heap.size + 1, 0, none⟩ = some (.int .i64 u.group) ∧ x.cell? ⟨w.heap.size + 1, 1, none⟩ = some (.int .i64 u.index) ∧ x.cell? ⟨w.heap.size + 1, 2, none⟩ = some (.string u.text) ∧ x.cell? ⟨w.heap.size + 1, 3, none⟩ = some (.int .i64 u.sum)) := ⟨fun x hx => ⟨((HTX.out x hx).bx 2 rfl 2 _ rfl).1, ((HTX.out x hx).bx 1 rfl 0 _ rfl).1, ((HTX.out x hx).bx 1 rfl 1 _ rfl).1, ((HTX.out x hx).bx 1 rfl 2 _ rfl).1, ((HTX.out x hx).bx 1 rfl 3 _ rfl).1⟩⟩
    refine wp_region_set (fun j => decide (12 ≤ j)) (by kernel_rfl) ?_
    refine wpD_val (i := 0) (v := ?vf0) rfl (by kernel_rfl) (by kernel_rfl) (by kernel_rfl) (by kernel_rfl) (fun _ _ _ h => h) (by rfl) ?hyf0 ?restf0
    case hyf0 => (intro x hx; obtain ⟨d2, e0, e1, e2, e3⟩ := HLE.out x hx; go_simp; try with_reducible rfl)
    try simp only [Act.put, List.setIfInBounds_toArray, List.set_cons_zero, List.set_cons_succ]
    refine wpD_val (i := 1) (v := ?vf1) rfl (by kernel_rfl) (by kernel_rfl) (by kernel_rfl) (by kernel_rfl) (fun _ _ _ h => h) (by rfl) ?hyf1 ?restf1
    case hyf1 => (intro x hx; obtain ⟨d2, e0, e1, e2, e3⟩ := HLE.out x hx; go_simp; try with_reducible rfl)
    try simp only [Act.put, List.setIfInBounds_toArray, List.set_cons_zero, List.set_cons_succ]
    refine wpD_val (i := 2) (v := ?vf2) rfl (by kernel_rfl) (by kernel_rfl) (by kernel_rfl) (by kernel_rfl) (fun _ _ _ h => h) (by rfl) ?hyf2 ?restf2
    case hyf2 => (intro x hx; obtain ⟨d2, e0, e1, e2, e3⟩ := HLE.out x hx; go_simp; try with_reducible rfl)
    try simp only [Act.put, List.setIfInBounds_toArray, List.set_cons_zero, List.set_cons_succ]
    refine wpD_val (i := 3) (v := ?vf3) rfl (by kernel_rfl) (by kernel_rfl) (by kernel_rfl) (by kernel_rfl) (fun _ _ _ h => h) (by rfl) ?hyf3 ?restf3
    case hyf3 => (intro x hx; obtain ⟨d2, e0, e1, e2, e3⟩ := HLE.out x hx; go_simp; try with_reducible rfl)
    try simp only [Act.put, List.setIfInBounds_toArray, List.set_cons_zero, List.set_cons_succ]
    refine wpD_val (i := 4) (v := ?vf4) rfl (by kernel_rfl) (by kernel_rfl) (by kernel_rfl) (by kernel_rfl) (fun _ _ _ h => h) (by rfl) ?hyf4 ?restf4
    case hyf4 => (intro x hx; obtain ⟨d2, e0, e1, e2, e3⟩ := HLE.out x hx; go_simp; try with_reducible rfl)
    try simp only [Act.put, List.setIfInBounds_toArray, List.set_cons_zero, List.set_cons_succ]
    refine wpD_val (i := 6) (v := ?vf6) rfl (by kernel_rfl) (by kernel_rfl) (by kernel_rfl) (by kernel_rfl) (fun _ _ _ h => h) (by rfl) ?hyf6 ?restf6
    case hyf6 => (intro x hx; obtain ⟨d2, e0, e1, e2, e3⟩ := HLE.out x hx; go_simp; try with_reducible rfl)
    try simp only [Act.put, List.setIfInBounds_toArray, List.set_cons_zero, List.set_cons_succ]
    refine wpD_val (i := 7) (v := ?vf7) rfl (by kernel_rfl) (by kernel_rfl) (by kernel_rfl) (by kernel_rfl) (fun _ _ _ h => h) (by rfl) ?hyf7 ?restf7
    case hyf7 => (intro x hx; obtain ⟨d2, e0, e1, e2, e3⟩ := HLE.out x hx; go_simp; try with_reducible rfl)
    try simp only [Act.put, List.setIfInBounds_toArray, List.set_cons_zero, List.set_cons_succ]
    refine wpD_val (i := 8) (v := ?vf8) rfl (by kernel_rfl) (by kernel_rfl) (by kernel_rfl) (by kernel_rfl) (fun _ _ _ h => h) (by rfl) ?hyf8 ?restf8
    case hyf8 => (intro x hx; obtain ⟨d2, e0, e1, e2, e3⟩ := HLE.out x hx; go_simp; try with_reducible rfl)
    try simp only [Act.put, List.setIfInBounds_toArray, List.set_cons_zero, List.set_cons_succ]
    refine wpD_val (i := 9) (v := ?vf9) rfl (by kernel_rfl) (by kernel_rfl) (by kernel_rfl) (by kernel_rfl) (fun _ _ _ h => h) (by rfl) ?hyf9 ?restf9
    case hyf9 => (intro x hx; obtain ⟨d2, e0, e1, e2, e3⟩ := HLE.out x hx; go_simp; try with_reducible rfl)
    try simp only [Act.put, List.setIfInBounds_toArray, List.set_cons_zero, List.set_cons_succ]
    have HSR := Shut.mk (fun (W : World) (hb : Below w.heap.size w W) => row_part (cap := cap) (HR.out.stays hb) q (by have := HN.out; omega) (by have := HN.out; omega))
    generalize (if cap = q then a else Option.map (fun x => x.add (q * 4)) a) = sa at HSR ⊢
    refine wpD_one (i := 5) (by kernel_rfl) rfl (by rfl) ?_
    intro x1 hx1
    refine ⟨.slice (some ⟨x1.heap.size, 0, none⟩) 1 1, x1.alloc (.cells #[.int .i64 u.group, .int .i64 u.index, .string u.text, .int .i64 u.sum] 32), ?_, (Below.refl _ _).alloc (Nat.le_refl _) _, ?_⟩
    · go_simp
    have HX1 := Shut.mk ((HTX.out x1 hx1).new #[.int .i64 u.group, .int .i64 u.index, .string u.text, .int .i64 u.sum] 32)
    obtain ⟨g1, hg1⟩ : ∃ g1, g1 = x1.heap.size := ⟨_, rfl⟩
    rw [← hg1] at HX1 ⊢
    generalize x1.alloc (.cells #[.int .i64 u.group, .int .i64 u.index, .string u.text, .int .i64 u.sum] 32) = W1 at HX1 ⊢
    clear hx1 hg1 HTX HLE
    try simp only [Act.put, List.setIfInBounds_toArray, List.set_cons_zero, List.set_cons_succ]
    refine wpD_one (i := 10) (by kernel_rfl) rfl (by rfl) ?_
    intro x2 hx2
    refine ⟨.slice (some ⟨x2.heap.size, 0, none⟩) 3 3, x2.alloc (.cells #[.slice a q cap, .slice (some ⟨g1, 0, none⟩) 1 1, .slice sa (n - q) (cap - q)] 24), ?_, (Below.refl _ _).alloc (Nat.le_refl _) _, ?_⟩
    · go_simp
    have HX2 := Shut.mk ((HX1.out.below hx2).new #[.slice a q cap, .slice (some ⟨g1, 0, none⟩) 1 1, .slice sa (n - q) (cap - q)] 24)
    obtain ⟨g2, hg2⟩ : ∃ g2, g2 = x2.heap.size := ⟨_, rfl⟩
    rw [← hg2] at HX2 ⊢
    generalize x2.alloc (.cells #[.slice a q cap, .slice (some ⟨g1, 0, none⟩) 1 1, .slice sa (n - q) (cap - q)] 24) = W2 at HX2 ⊢
    clear hx2 hg2 HX1
    try simp only [Act.put, List.setIfInBounds_toArray, List.set_cons_zero, List.set_cons_succ]
    have HCC : Shut (∀ W, SL w W (bxS g2 [.slice a q cap, .slice (some ⟨g1, 0, none⟩) 1 1, .slice sa (n - q) (cap - q)] :: bxS g1 [.int .i64 u.group, .int .i64 u.index, .string u.text, .int .i64 u.sum] :: [bxS (w.heap.size + 1 + 1) [.int .i64 0, .bool false, .slice none 0 0], bxS (w.heap.size + 1) [.int .i64 u.group, .int .i64 u.index, .string u.text, .int .i64 u.sum], bxS w.heap.size [.int .i64 id, .bool up, .slice a n cap]]) → Calls Tryd.prog 58 #[.slice (some ⟨g2, 0, none⟩) 3 3] W fun e w' => ∃ av cv, e = .returned (.slice av (putL us u).length cv) ∧ FRw w' av (unS (putL us u)) W.heap.size w'.heap.size ∧ (putL us u).length ≤ cv ∧ Below W.heap.size W w') := ⟨fun W h => by
      have l1 : (us.take q).length = q := by rw [List.length_take]; have := HN.out; omega
      have l2 : (us.drop q).length = n - q := by rw [List.length_drop, ← HN.out]
      have ea : cuAll [⟨a, cap, us.take q⟩, ⟨some ⟨g1, 0, none⟩, 1, [u]⟩, ⟨sa, cap - q, us.drop q⟩] = putL us u := by rw [HPU.out]; simp [cuAll]
      have k := concatUnits [⟨a, cap, us.take q⟩, ⟨some ⟨g1, 0, none⟩, 1, [u]⟩, ⟨sa, cap - q, us.drop q⟩] g2 3 3 W rfl (by omega) (fun j hj => by
        match j, hj with
        | 0, _ => have q9 := (h.bx 0 rfl 0 _ rfl).1; show _ = some (Value.slice a (us.take q).length cap); rw [l1]; exact q9
        | 1, _ => exact (h.bx 0 rfl 1 _ rfl).1
        | 2, _ => have q9 := (h.bx 0 rfl 2 _ rfl).1; show _ = some (Value.slice sa (us.drop _).length (cap - _)); rw [l2]; exact q9) (h.at 0 rfl).1 (fun x hx => by
        simp only [List.mem_cons, List.not_mem_nil, or_false] at hx
        rcases hx with rfl | rfl | rfl
        · exact row_take (HR.out.stays h.bel) q
        · exact row_one (show WCells W g1 (unC u) from h.at 1 rfl)
        · exact HSR.out W h.bel) (by rw [ea, HPU.out]; simp only [List.length_append, List.length_singleton]; omega) (by rw [ea, HPU.out]; simp only [List.length_append, l1, l2, List.length_singleton]; omega)
      rw [ea] at k
      refine k.mono ?_
      rintro e y ⟨v, rfl, ho, hb⟩
      obtain ⟨av, cv, rfl⟩ := own_row_slice ho
      exact ⟨av, cv, rfl, (FRw.of_own ho).1, (FRw.of_own ho).2, hb⟩⟩
    obtain ⟨P, hP⟩ : ∃ P, P = putL us u := ⟨_, rfl⟩
    have HP9 := Shut.mk hP
    rw [← hP] at HCC
    clear hP HSR
    refine wpD_onecall (f := 58) (args := #[.slice (some ⟨g2, 0, none⟩) 3 3]) (i := 11) (by kernel_rfl) rfl (by rfl) (fun x hx => by go_simp) (fun x hx => (HCC.out x (HX2.out.below hx)).mono ?_)
    rintro e y3 ⟨av, cv, rfl, hF, hcv, hb3⟩
    refine ⟨_, rfl, hb3, ?_⟩
    have HY := Shut.mk (((HX2.out.below hx).tail.tail).add (s := rwS av (unS P) _ _) hb3 hF (rwS.loc _ _ _ _) (Nat.le_refl _) (Nat.le_refl _))
    clear hF hb3 hx HX2 HCC
    generalize x.heap.size = lo9 at HY
    generalize hh9 : y3.heap.size = hi9 at HY
    clear hh9
    try simp only [Act.put, List.setIfInBounds_toArray, List.set_cons_zero, List.set_cons_succ]
    refine wpD_tail (by kernel_rfl) ?_
    intro x5 hx5
    have H5 := Shut.mk (HY.out.below hx5)
    clear HY hx5
    refine wpA_val (i := 12) (v := .pointer (some ⟨w.heap.size, 2, none⟩)) rfl (by kernel_rfl) (by kernel_rfl) (by kernel_rfl) (fun _ _ _ h => h) (by rfl) (fun x => by go_simp) ?_
    try simp only [Act.put, List.setIfInBounds_toArray, List.set_cons_zero, List.set_cons_succ]
    obtain ⟨z2, z2z⟩ := H5.out.bx 3 rfl 2 _ rfl
    refine wpA_step (y := x5.setCell ⟨w.heap.size, 2, none⟩ (.slice av P.length cv)) (i := 13) (by kernel_rfl) rfl (by rfl) (by go_simp) ?_
    have H7 := Shut.mk (H5.out.put 3 rfl 2 (.slice av P.length cv) (by simp))
    simp only [List.set_cons_zero, List.set_cons_succ] at H7
    simp only [Act.put]
    refine wpA_done (by kernel_rfl) ?_ _
    clear z2 z2z H5 H
    go_upto_region 6 with fail
    refine wp_shade (fun W => SL w W [rwS av (unS P) lo9 hi9, bxS (w.heap.size + 1 + 1) [.int .i64 0, .bool false, .slice none 0 0], bxS (w.heap.size + 1) [.int .i64 u.group, .int .i64 u.index, .string u.text, .int .i64 u.sum], bxS w.heap.size [.int .i64 id, .bool up, .slice av P.length cv]]) H7.out ?_
    intro W8 hW
    have H := Shut.mk hW
    clear hW H7
    obtain ⟨m9, hm9⟩ : ∃ m9, m9 = P.length := ⟨_, rfl⟩
    rw [← hm9] at H
    have HM9 := Shut.mk hm9
    rw [← hm9]
    clear hm9
    have z0 := (H.out.bx 3 rfl 0 _ rfl).1
    have z1 := (H.out.bx 3 rfl 1 _ rfl).1
    have z2 := (H.out.bx 3 rfl 2 _ rfl).1
    obtain ⟨r0, r0z⟩ := H.out.bx 1 rfl 0 _ rfl
    obtain ⟨r1, r1z⟩ := H.out.bx 1 rfl 1 _ rfl
    obtain ⟨r2, r2z⟩ := H.out.bx 1 rfl 2 _ rfl
    go_wp2_with fail
    have HE := Shut.mk ((((H.out.put 1 rfl 0 (.int .i64 id) (by simp)).put 1 rfl 1 (.bool up) (by simp)).put 1 rfl 2 (.slice av m9 cv) (by simp)))
    have hs := HE.out.is _ (List.mem_of_getElem? (show _[0]? = some (rwS av (unS P) lo9 hi9) from rfl))
    refine bodyPost_ret (v := .agg #[.int .i64 id, .bool up, .slice av m9 cv]) (by simp [results, Tryd.results35, go_sem, r0, r1, r2]) rfl ?_
    rw [← HP9.out]
    exact ⟨av, cv, by show _ = Ending.returned (.agg #[.int .i64 id, .bool up, .slice av P.length cv]); rw [← HM9.out], frw_wide (show FRw _ _ (unS P) lo9 hi9 from hs.1) hs.2.2.1 hs.2.2.2, hcv, HE.out.bel⟩
end Go.Proofs.YtbanfccnmbmcfaaDoor
/- HpJ: The program's own PutUnit (written by gen/mkhpi.py). -/
namespace Go.Proofs.YtbanfccnmbmcfaaDoor
set_option maxRecDepth 100000
open Go.RowKit BigFrame
attribute [local go_sem ↓] Go.wp_at_zero Go.wp_at_succ

theorem put_len (us : List UnM) (u : UnM) : (putL us u).length ≤ 2 * us.length + 1 := by
  unfold putL
  have l1 := List.length_filter_le (unLt · u) us
  have l2 := List.length_filter_le (unLt u ·) us
  simp only [List.length_append, List.length_singleton]
  omega
theorem put_mem {us : List UnM} {u x : UnM} (h : x ∈ putL us u) : x ∈ us ∨ x = u := by
  unfold putL at h
  simp only [List.mem_append, List.mem_filter, List.mem_singleton] at h
  rcases h with (h | h) | h
  · exact .inl h.1
  · exact .inr h
  · exact .inl h.1
set_option maxRecDepth 100000 in
set_option maxHeartbeats 1000000 in
theorem implPutUnit (H : HM) (a : Option Addr) (cap : Nat) (u : UnM) (w : World) (htab : SumTab w) (hr : UnRow w a H.us) (hcn : H.us.length ≤ cap) (hl : H.us.length ≤ 1048576) (hz : unSum H.us ≤ 1048576) (hut : u.text.size ≤ 1048576) :
    Calls Tryd.prog 12 #[hov H a cap, unv u] w fun e w' => HbPost (putX H u) w e w' := by
  have HCP := Shut.mk (fun (W : World) (hb : Below w.heap.size w W) => implCopyHost H a cap W (hr.stays hb) (by omega) (fun u hu => by have := unSum_mem hu; omega))
  have HO1 := Shut.mk (fun (W : World) (hb : Below w.heap.size w W) => implHostOk H a cap W (hr.stays hb) (by omega))
  have HSM := Shut.mk (fun (W : World) (hb : Below w.heap.size w W) => implSummed u W (htab.stays hb) hut)
  have HWI := Shut.mk (fun (hs : UpU H.us) (W : World) (hb : Below w.heap.size w W) => implWith H a cap (summed u) W (hr.stays hb) hcn (by omega) hs)
  have HPL := Shut.mk (put_len H.us (summed u))
  have HPC : Shut (∀ (W : World) (b : Option Addr) (c : Nat), UnRow W b (putL H.us (summed u)) → Calls Tryd.prog 34 #[hov ⟨H.id, H.up, putL H.us (summed u)⟩ b c] W fun e w' => HoPost ⟨H.id, H.up, putL H.us (summed u)⟩ W e w') := ⟨fun W b c h => implCopyHost ⟨H.id, H.up, putL H.us (summed u)⟩ b c W h (by show (putL H.us (summed u)).length ≤ 3000000; have := HPL.out; omega) (fun x hx => by
    rcases put_mem hx with h | rfl
    · have := unSum_mem h; omega
    · exact hut)⟩
  have HPO : Shut (∀ (W : World) (b : Option Addr) (c : Nat), UnRow W b (putL H.us (summed u)) → Calls Tryd.prog 16 #[hov ⟨H.id, H.up, putL H.us (summed u)⟩ b c] W fun e w' => e = .returned (.bool (hostOk ⟨H.id, H.up, putL H.us (summed u)⟩)) ∧ Below W.heap.size W w') := ⟨fun W b c h => implHostOk ⟨H.id, H.up, putL H.us (summed u)⟩ b c W h (by show (putL H.us (summed u)).length ≤ 9000000; have := HPL.out; omega)⟩
  unfold HoPost at HCP HWI HPC
  clear hr htab hz
  obtain ⟨id, up, us⟩ := H
  obtain ⟨ug, ui, ut, us0⟩ := u
  obtain ⟨RR, hRR⟩ : ∃ q, q = putX ⟨id, up, us⟩ ⟨ug, ui, ut, us0⟩ := ⟨_, rfl⟩
  rw [← hRR]
  have HQ := Shut.mk hRR
  unfold putX at HQ
  unfold summed at HQ HSM HWI HPL HPC HPO
  dsimp only [hov, unv] at *
  generalize sumN ut = sn at *
  obtain ⟨P, hP⟩ : ∃ q, q = putL us ⟨ug, ui, ut, sn⟩ := ⟨_, rfl⟩
  rw [← hP] at HQ HWI HPL HPC HPO
  clear hRR hP
  obtain ⟨n, hn⟩ : ∃ n, n = us.length := ⟨_, rfl⟩
  have HN := Shut.mk hn
  obtain ⟨m, hm⟩ : ∃ m, m = P.length := ⟨_, rfl⟩
  have HM := Shut.mk hm
  rw [← hm] at HWI HPL HPC HPO
  rw [← hn] at HCP HO1 HWI HPL hl hcn ⊢
  clear hn hm
  obtain ⟨ok1, hk1⟩ : ∃ q, q = hostOk ⟨id, up, us⟩ := ⟨_, rfl⟩
  have HUP : Shut (ok1 = true → UpU us) := ⟨fun h => by
    rw [hk1] at h
    unfold hostOk at h
    exact up_of_ok (by simpa using (Bool.and_eq_true_iff.1 h).1)⟩
  rw [← hk1] at HQ HO1
  generalize hostOk ⟨id, up, P⟩ = ok2 at HQ HPO
  clear hk1
  have HS0 := Shut.mk ((((SL.start w).new #[.int .i64 id, .bool up, .slice a n cap] 26).new #[.int .i64 ug, .int .i64 ui, .string ut, .int .i64 us0] 32).new #[.int .i64 0, .bool false, .slice none 0 0] 26)
  simp only [World.size_alloc] at HS0
  go_enter Tryd.func12, Tryd.ntmps12
  go_upto_region 1 with fail
  refine wp_shade (fun W => SL w W [bxS (w.heap.size + 1 + 1) [.int .i64 0, .bool false, .slice none 0 0], bxS (w.heap.size + 1) [.int .i64 ug, .int .i64 ui, .string ut, .int .i64 us0], bxS w.heap.size [.int .i64 id, .bool up, .slice a n cap]]) HS0.out ?_
  intro W0 hW
  have H := Shut.mk hW
  clear HS0 hW
  have x0 := (H.out.bx 2 rfl 0 _ rfl).1
  have x1 := (H.out.bx 2 rfl 1 _ rfl).1
  have x2 := (H.out.bx 2 rfl 2 _ rfl).1
  cases up with
  | false =>
    have HE : Shut (RR = (⟨id, false, us⟩, false)) := ⟨by rw [HQ.out]; simp⟩
    go_upto_region 2 with fail
    clear x0 x1 x2
    have x0 := (H.out.bx 2 rfl 0 _ rfl).1
    have x1 := (H.out.bx 2 rfl 1 _ rfl).1
    have x2 := (H.out.bx 2 rfl 2 _ rfl).1
    go_wp2_with (go_at_call 34; refine (HCP.out _ H.out.bel).mono ?_; rintro e w5 ⟨ac, cc, rfl, hF, hcc, hb⟩; have HS5 := Shut.mk (H.out.add (s := rwS ac (unS us) _ w5.heap.size) hb hF (rwS.loc _ _ _ _) (Nat.le_refl _) (Nat.le_refl _)); obtain ⟨r0, r0z⟩ := HS5.out.bx 1 rfl 0 _ rfl; obtain ⟨r1, r1z⟩ := HS5.out.bx 1 rfl 1 _ rfl; obtain ⟨r2, r2z⟩ := HS5.out.bx 1 rfl 2 _ rfl; clear hF hb x0 x1 x2)
    have HE3 := Shut.mk ((((HS5.out.put 1 rfl 0 (.int .i64 id) (by simp)).put 1 rfl 1 (.bool false) (by simp)).put 1 rfl 2 (.slice ac n cc) (by simp)))
    refine bodyPost_ret (v := .tuple #[.agg #[.int .i64 id, .bool false, .slice ac n cc], .bool false]) (by simp [results, Tryd.results12, go_sem, r0, r1, r2]) rfl ?_
    rw [HE.out]
    have hs := HE3.out.is _ (List.mem_of_getElem? (show _[0]? = some (rwS ac (unS us) _ _) from rfl))
    exact ⟨_, cc, by rw [HN.out], frw_wide (show FRw _ _ (unS us) _ _ from hs.1) hs.2.2.1 hs.2.2.2, by have := HN.out; show us.length ≤ cc; omega, HE3.out.bel⟩
  | true =>
    cases ok1 with
    | false =>
      have HE : Shut (RR = (⟨id, true, us⟩, false)) := ⟨by rw [HQ.out]; simp⟩
      go_upto_region 2 with (go_at_call 16; refine (HO1.out _ H.out.bel).mono ?_; rintro e w1 ⟨rfl, hb⟩; replace H := Shut.mk (H.out.below hb); clear hb x0 x1 x2)
      have x0 := (H.out.bx 2 rfl 0 _ rfl).1
      have x1 := (H.out.bx 2 rfl 1 _ rfl).1
      have x2 := (H.out.bx 2 rfl 2 _ rfl).1
      go_wp2_with (go_at_call 34; refine (HCP.out _ H.out.bel).mono ?_; rintro e w5 ⟨ac, cc, rfl, hF, hcc, hb⟩; have HS5 := Shut.mk (H.out.add (s := rwS ac (unS us) _ w5.heap.size) hb hF (rwS.loc _ _ _ _) (Nat.le_refl _) (Nat.le_refl _)); obtain ⟨r0, r0z⟩ := HS5.out.bx 1 rfl 0 _ rfl; obtain ⟨r1, r1z⟩ := HS5.out.bx 1 rfl 1 _ rfl; obtain ⟨r2, r2z⟩ := HS5.out.bx 1 rfl 2 _ rfl; clear hF hb x0 x1 x2)
      have HE3 := Shut.mk ((((HS5.out.put 1 rfl 0 (.int .i64 id) (by simp)).put 1 rfl 1 (.bool true) (by simp)).put 1 rfl 2 (.slice ac n cc) (by simp)))
      refine bodyPost_ret (v := .tuple #[.agg #[.int .i64 id, .bool true, .slice ac n cc], .bool false]) (by simp [results, Tryd.results12, go_sem, r0, r1, r2]) rfl ?_
      rw [HE.out]
      have hs := HE3.out.is _ (List.mem_of_getElem? (show _[0]? = some (rwS ac (unS us) _ _) from rfl))
      exact ⟨_, cc, by rw [HN.out], frw_wide (show FRw _ _ (unS us) _ _ from hs.1) hs.2.2.1 hs.2.2.2, by have := HN.out; show us.length ≤ cc; omega, HE3.out.bel⟩
    | true =>
      replace HWI := Shut.mk (HWI.out (HUP.out rfl))
      go_upto_region 3 with (go_at_call 16; refine (HO1.out _ H.out.bel).mono ?_; rintro e w1 ⟨rfl, hb⟩; replace H := Shut.mk (H.out.below hb); clear hb x0 x1 x2)
      go_cut [6] from 17 to 20 (fun u6 wq => ∃ (b8 : Nat) (a8 : Option Addr) (c8 lo8 hi8 : Nat), u6 = .pointer (some ⟨b8, 0, none⟩) ∧ Shut (SL w wq (bxS b8 [.int .i64 id, .bool true, .slice a8 m c8] :: rwS a8 (unS P) lo8 hi8 :: [bxS (w.heap.size + 1 + 1) [.int .i64 0, .bool false, .slice none 0 0], bxS (w.heap.size + 1) [.int .i64 ug, .int .i64 ui, .string ut, .int .i64 us0], bxS w.heap.size [.int .i64 id, .bool true, .slice a n cap]])) ∧ m ≤ c8)
      case first =>
        have HTX : Shut (∀ x, Later w1.drew x → SL w x [bxS (w.heap.size + 1 + 1) [.int .i64 0, .bool false, .slice none 0 0], bxS (w.heap.size + 1) [.int .i64 ug, .int .i64 ui, .string ut, .int .i64 us0], bxS w.heap.size [.int .i64 id, .bool true, .slice a n cap]]) := ⟨fun x hx => H.out.drew.below hx⟩
        have HLE : Shut (∀ x, Later w1.drew x → x.cell? ⟨w.heap.size, 0, none⟩ = some (.int .i64 id) ∧ x.cell? ⟨w.heap.size, 1, none⟩ = some (.bool true) ∧ x.cell? ⟨w.heap.size, 2, none⟩ = some (.slice a n cap) ∧ x.cell? ⟨w.heap.size + 1, 0, none⟩ = some (.int .i64 ug) ∧ x.cell? ⟨w.heap.size + 1, 1, none⟩ = some (.int .i64 ui) ∧ x.cell? ⟨w.heap.size + 1, 2, none⟩ = some (.string ut) ∧ x.cell? ⟨w.heap.size + 1, 3, none⟩ = some (.int .i64 us0)) := ⟨fun x hx => ⟨((HTX.out x hx).bx 2 rfl 0 _ rfl).1, ((HTX.out x hx).bx 2 rfl 1 _ rfl).1, ((HTX.out x hx).bx 2 rfl 2 _ rfl).1, ((HTX.out x hx).bx 1 rfl 0 _ rfl).1, ((HTX.out x hx).bx 1 rfl 1 _ rfl).1, ((HTX.out x hx).bx 1 rfl 2 _ rfl).1, ((HTX.out x hx).bx 1 rfl 3 _ rfl).1⟩⟩
        refine wp_region_set (fun j => decide (5 ≤ j)) (by kernel_rfl) ?_
        refine wpD_val (i := 0) (v := ?vp0) rfl (by kernel_rfl) (by kernel_rfl) (by kernel_rfl) (by kernel_rfl) (fun _ _ _ h => h) (by rfl) ?hyp0 ?restp0
        case hyp0 => (intro x hx; obtain ⟨d0, d1, d2, e0, e1, e2, e3⟩ := HLE.out x hx; go_simp; try with_reducible rfl)
        try simp only [Act.put, List.setIfInBounds_toArray, List.set_cons_zero, List.set_cons_succ]
        refine wpD_val (i := 1) (v := ?vp1) rfl (by kernel_rfl) (by kernel_rfl) (by kernel_rfl) (by kernel_rfl) (fun _ _ _ h => h) (by rfl) ?hyp1 ?restp1
        case hyp1 => (intro x hx; obtain ⟨d0, d1, d2, e0, e1, e2, e3⟩ := HLE.out x hx; go_simp; try with_reducible rfl)
        try simp only [Act.put, List.setIfInBounds_toArray, List.set_cons_zero, List.set_cons_succ]
        refine wpD_call (i := 2) (v := .agg #[.int .i64 ug, .int .i64 ui, .string ut, .int .i64 sn]) (f := 36) (args := #[.agg #[.int .i64 ug, .int .i64 ui, .string ut, .int .i64 us0]]) rfl (by kernel_rfl) (by kernel_rfl) (by kernel_rfl) (by kernel_rfl) (fun _ _ _ h => h) (by rfl) ?hyp2 (fun x hx => HSM.out x (HTX.out x hx).bel) ?restp2
        case hyp2 => (intro x hx; go_simp; try with_reducible rfl)
        try simp only [Act.put, List.setIfInBounds_toArray, List.set_cons_zero, List.set_cons_succ]
        refine wpD_callbox (f := 35) (args := #[.agg #[.int .i64 id, .bool true, .slice a n cap], .agg #[.int .i64 ug, .int .i64 ui, .string ut, .int .i64 sn]]) (C := #[.int .i64 0, .bool false, .slice none 0 0]) (t := 26) (i := 3) (j := 4) (by kernel_rfl) rfl rfl (by rfl) (by rfl) (fun x hx => by go_simp) (fun x hx => by kernel_rfl) (fun x hx => (HWI.out _ (HTX.out x hx).bel).mono ?_) (fun x hx => ?_)
        · rintro e y2 ⟨a8, c8, rfl, hF, hc8, hb2⟩
          refine ⟨_, rfl, hb2, ?_⟩
          have HY := Shut.mk ((HTX.out x hx).add (s := rwS a8 (unS P) _ _) hb2 hF (rwS.loc _ _ _ _) (Nat.le_refl _) (Nat.le_refl _))
          clear hF hb2
          try simp only [Act.put, List.setIfInBounds_toArray, List.set_cons_zero, List.set_cons_succ]
          clear hx
          refine wpD_one (i := 4) (by kernel_rfl) rfl (by rfl) (fun x2 hx2 => ⟨.pointer (some ⟨x2.heap.size, 0, none⟩), x2.alloc (.cells #[.int .i64 0, .bool false, .slice none 0 0] 26), by kernel_rfl, (Below.refl _ _).alloc (Nat.le_refl _) _, ?_⟩)
          have HY2 := Shut.mk ((HY.out.below hx2).new #[.int .i64 0, .bool false, .slice none 0 0] 26)
          obtain ⟨nb, hnb⟩ : ∃ nb, nb = x2.heap.size := ⟨_, rfl⟩
          rw [← hnb] at HY2 ⊢
          clear hx2 hnb HY
          try simp only [Act.put, List.setIfInBounds_toArray, List.set_cons_zero, List.set_cons_succ]
          refine wpD_tail (by kernel_rfl) ?_
          intro x5 hx5
          have HY3 := Shut.mk (HY2.out.below hx5)
          obtain ⟨q0, qf0⟩ := HY3.out.bx 0 rfl 0 _ rfl
          obtain ⟨q1, qf1⟩ := HY3.out.bx 0 rfl 1 _ rfl
          obtain ⟨q2, qf2⟩ := HY3.out.bx 0 rfl 2 _ rfl
          refine wpA_step (y := ((x5.setCell ⟨nb, 0, none⟩ (.int .i64 id)).setCell ⟨nb, 1, none⟩ (.bool true)).setCell ⟨nb, 2, none⟩ (.slice a8 m c8)) (i := 5) (by kernel_rfl) rfl (by rfl) (by go_simp) ?_
          have HZ := Shut.mk (((HY3.out.put 0 rfl 0 (.int .i64 id) (by simp)).put 0 rfl 1 (.bool true) (by simp)).put 0 rfl 2 (.slice a8 m c8) (by simp))
          clear q0 qf0 q1 qf1 q2 qf2 hx5 HY2 HY3
          simp only [Act.put]
          refine wpA_done (by kernel_rfl) ?_ _
          go_wp2_with fail
          go_meet
          case rel => exact ⟨nb, a8, c8, _, _, rfl, ⟨HZ.out⟩, hc8⟩
        · have HW := Shut.mk ((HTX.out x hx).new #[.int .i64 0, .bool false, .slice none 0 0] 26)
          obtain ⟨nb, hnb⟩ : ∃ nb, nb = x.heap.size := ⟨_, rfl⟩
          rw [← hnb] at HW ⊢
          generalize x.alloc (.cells #[.int .i64 0, .bool false, .slice none 0 0] 26) = xx at HW ⊢
          clear hnb hx
          try simp only [Act.put, List.setIfInBounds_toArray, List.set_cons_zero, List.set_cons_succ]
          refine wpD_onecall (f := 35) (args := #[.agg #[.int .i64 id, .bool true, .slice a n cap], .agg #[.int .i64 ug, .int .i64 ui, .string ut, .int .i64 sn]]) (i := 3) (by kernel_rfl) rfl (by rfl) (fun x hx => by go_simp) (fun x hx => (HWI.out _ (HW.out.below hx).bel).mono ?_)
          rintro e y2 ⟨a8, c8, rfl, hF, hc8, hb2⟩
          refine ⟨_, rfl, hb2, ?_⟩
          have HY := Shut.mk ((HW.out.below hx).add (s := rwS a8 (unS P) _ _) hb2 hF (rwS.loc _ _ _ _) (Nat.le_refl _) (Nat.le_refl _))
          clear hF hb2
          try simp only [Act.put, List.setIfInBounds_toArray, List.set_cons_zero, List.set_cons_succ]
          clear hx HW
          have HY2 := HY
          clear HY
          refine wpD_tail (by kernel_rfl) ?_
          intro x5 hx5
          have HY3 := Shut.mk (HY2.out.below hx5)
          obtain ⟨q0, qf0⟩ := HY3.out.bx 1 rfl 0 _ rfl
          obtain ⟨q1, qf1⟩ := HY3.out.bx 1 rfl 1 _ rfl
          obtain ⟨q2, qf2⟩ := HY3.out.bx 1 rfl 2 _ rfl
          refine wpA_step (y := ((x5.setCell ⟨nb, 0, none⟩ (.int .i64 id)).setCell ⟨nb, 1, none⟩ (.bool true)).setCell ⟨nb, 2, none⟩ (.slice a8 m c8)) (i := 5) (by kernel_rfl) rfl (by rfl) (by go_simp) ?_
          have HZ := Shut.mk (((HY3.out.put 1 rfl 0 (.int .i64 id) (by simp)).put 1 rfl 1 (.bool true) (by simp)).put 1 rfl 2 (.slice a8 m c8) (by simp))
          clear q0 qf0 q1 qf1 q2 qf2 hx5 HY2 HY3
          simp only [Act.put]
          refine wpA_done (by kernel_rfl) ?_ _
          go_wp2_with fail
          go_meet
          case rel => exact ⟨nb, a8, c8, _, _, rfl, ⟨HZ.out.swap⟩, hc8⟩
      case rest =>
        obtain ⟨b8, a8, c8, lo8, hi8, rfl, H, hc8⟩ := hcut
        have x0 := (H.out.bx 0 rfl 0 _ rfl).1
        have x1 := (H.out.bx 0 rfl 1 _ rfl).1
        have x2 := (H.out.bx 0 rfl 2 _ rfl).1
        cases ok2 with
        | false =>
          have HE : Shut (RR = (⟨id, true, us⟩, false)) := ⟨by rw [HQ.out]; simp⟩
          go_upto_region 5 with (go_at_call 16; refine (HPO.out _ _ _ (show FRw _ _ _ _ _ from H.out.at 1 rfl).crow).mono ?_; rintro e w3 ⟨rfl, hb⟩; replace H := Shut.mk (H.out.below hb); clear hb x0 x1 x2)
          have x0 := (H.out.bx 4 rfl 0 _ rfl).1
          have x1 := (H.out.bx 4 rfl 1 _ rfl).1
          have x2 := (H.out.bx 4 rfl 2 _ rfl).1
          go_wp2_with (go_at_call 34; refine (HCP.out _ H.out.bel).mono ?_; rintro e w5 ⟨ac, cc, rfl, hF, hcc, hb⟩; have HS5 := Shut.mk (H.out.add (s := rwS ac (unS us) _ w5.heap.size) hb hF (rwS.loc _ _ _ _) (Nat.le_refl _) (Nat.le_refl _)); obtain ⟨r0, r0z⟩ := HS5.out.bx 3 rfl 0 _ rfl; obtain ⟨r1, r1z⟩ := HS5.out.bx 3 rfl 1 _ rfl; obtain ⟨r2, r2z⟩ := HS5.out.bx 3 rfl 2 _ rfl; clear hF hb x0 x1 x2)
          have HE3 := Shut.mk ((((HS5.out.put 3 rfl 0 (.int .i64 id) (by simp)).put 3 rfl 1 (.bool true) (by simp)).put 3 rfl 2 (.slice ac n cc) (by simp)))
          refine bodyPost_ret (v := .tuple #[.agg #[.int .i64 id, .bool true, .slice ac n cc], .bool false]) (by simp [results, Tryd.results12, go_sem, r0, r1, r2]) rfl ?_
          rw [HE.out]
          have hs := HE3.out.is _ (List.mem_of_getElem? (show _[0]? = some (rwS ac (unS us) _ _) from rfl))
          exact ⟨_, cc, by rw [HN.out], frw_wide (show FRw _ _ (unS us) _ _ from hs.1) hs.2.2.1 hs.2.2.2, by have := HN.out; show us.length ≤ cc; omega, HE3.out.bel⟩
        | true =>
          have HE : Shut (RR = (⟨id, true, P⟩, true)) := ⟨by rw [HQ.out]; simp⟩
          go_upto_region 6 with (go_at_call 16; refine (HPO.out _ _ _ (show FRw _ _ _ _ _ from H.out.at 1 rfl).crow).mono ?_; rintro e w3 ⟨rfl, hb⟩; replace H := Shut.mk (H.out.below hb); clear hb x0 x1 x2)
          have x0 := (H.out.bx 0 rfl 0 _ rfl).1
          have x1 := (H.out.bx 0 rfl 1 _ rfl).1
          have x2 := (H.out.bx 0 rfl 2 _ rfl).1
          go_wp2_with (go_at_call 34; refine (HPC.out _ _ _ (show FRw _ _ _ _ _ from H.out.at 1 rfl).crow).mono ?_; rintro e w5 ⟨ac, cc, rfl, hF, hcc, hb⟩; have HS5 := Shut.mk (H.out.add (s := rwS ac (unS P) _ w5.heap.size) hb hF (rwS.loc _ _ _ _) (Nat.le_refl _) (Nat.le_refl _)); obtain ⟨r0, r0z⟩ := HS5.out.bx 3 rfl 0 _ rfl; obtain ⟨r1, r1z⟩ := HS5.out.bx 3 rfl 1 _ rfl; obtain ⟨r2, r2z⟩ := HS5.out.bx 3 rfl 2 _ rfl; clear hF hb x0 x1 x2)
          have HE3 := Shut.mk ((((HS5.out.put 3 rfl 0 (.int .i64 id) (by simp)).put 3 rfl 1 (.bool true) (by simp)).put 3 rfl 2 (.slice ac m cc) (by simp)))
          refine bodyPost_ret (v := .tuple #[.agg #[.int .i64 id, .bool true, .slice ac m cc], .bool true]) (by simp [results, Tryd.results12, go_sem, r0, r1, r2]) rfl ?_
          rw [HE.out]
          have hs := HE3.out.is _ (List.mem_of_getElem? (show _[0]? = some (rwS ac (unS P) _ _) from rfl))
          exact ⟨_, cc, by rw [HM.out], frw_wide (show FRw _ _ (unS P) _ _ from hs.1) hs.2.2.1 hs.2.2.2, by have := HM.out; show P.length ≤ cc; omega, HE3.out.bel⟩
end Go.Proofs.YtbanfccnmbmcfaaDoor
/- HoL: How many units a host has behind a call; plain. -/
namespace Go.Proofs.YtbanfccnmbmcfaaDoor
set_option maxRecDepth 100000
open Go.RowKit

theorem spoilX_len (H : HM) (g i at9 : Int) : (spoilX H g i at9).1.us.length = H.us.length := by
  unfold spoilX
  split
  · exact List.length_set
  · rfl
theorem dropU_len (H : HM) (g i : Int) : (dropU H g i).1.us.length ≤ H.us.length := by
  unfold dropU
  split
  · simp only [List.length_append, List.length_take, List.length_drop]; omega
  · exact Nat.le_refl _
theorem putL_len (L : List UnM) (u : UnM) : (putL L u).length ≤ 2 * L.length + 1 := by
  unfold putL
  have l1 := List.length_filter_le (unLt · u) L
  have l2 := List.length_filter_le (unLt u ·) L
  simp only [List.length_append, List.length_singleton]
  omega
theorem putX_len (H : HM) (u : UnM) : (putX H u).1.us.length ≤ 2 * H.us.length + 1 := by
  unfold putX
  split
  · exact putL_len _ _
  · show H.us.length ≤ _; omega
theorem len_or {m n k : Nat} (h : m ≤ 2 * n + 1) (hk : 2 * 1048576 + 1 ≤ k) : m ≤ k ∨ 1048576 < n := by omega
end Go.Proofs.YtbanfccnmbmcfaaDoor
