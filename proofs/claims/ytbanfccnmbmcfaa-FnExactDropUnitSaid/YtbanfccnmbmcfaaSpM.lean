/- The model's DropUnit (written by gen/mkdrop.py). -/
import Derived.Test.YtbanfccnmbmcfaaSpK
import Derived.Test.YtbanfccnmbmcfaaGrwD
import Derived.Test.YtbanfccnmbmcfaaGrwE
namespace Go.Proofs.Ytbanfccnmbmcfaa
set_option maxRecDepth 100000
open Go.RowKit BigFrame
attribute [local go_sem ↓] Go.wp_at_zero Go.wp_at_succ

theorem run_append_op {P : Program} {w y : World} {o : Oper} {a : Act} {s x : Operand} {t : TypeId} {v1 v2 v : Value} (ho : o.op = .call { callee := .builtin .append, args := #[s, x], argTypes := #[t, t] }) (hs : a.eval s = v1) (hx : a.eval x = v2) (hr : ∀ ty, (Builtin.append_ #[t, t] ty #[v1, v2]).run P w = .ok v y) : (execOp a.eval o).run P w = .ok (.value v) y := by
  simp [execOp, ho, resolve, invoke, builtin, hs, hx, hr, Result.andThen]
theorem setCells_setW (w : World) (g off : Nat) (vs : List Value) : w.setCells g off vs = setW w g off vs := by
  induction vs generalizing w off with
  | nil => rfl
  | cons v vs ih => exact ih _ _
theorem WCells.pre {w : World} {g : Nat} {A B : List Value} (h : WCells w g (A ++ B)) : WCells w g A :=
  ⟨h.1, fun i v hv => h.2 i v (by rw [List.getElem?_append_left (List.getElem?_eq_some_iff.1 hv).1]; exact hv)⟩
theorem turned_setW (w : World) (g off : Nat) (vs : List Value) {lo hi : Nat} (h1 : lo ≤ g) (h2 : g < hi) : Turned w (setW w g off vs) lo hi := by
  induction vs generalizing w off with
  | nil => exact Turned.refl _ _ _
  | cons v vs ih => exact (Turned.of_grown (gb_set' w g off v) h1 h2).trans (ih _ _)
theorem uns_app (a b : List UnM) : unS (a ++ b) = unS a ++ unS b := by simp [unS]
/-- What stands behind a place moves up by one. -/
theorem uns_shift (us : List UnM) (k : Nat) (h : k < us.length) : ∃ R, setL (unS us) (k * 4) (unS (us.drop (k + 1))) = unS (us.take k ++ us.drop (k + 1)) ++ R := by
  refine ⟨unS ((us.drop k).drop (us.length - k - 1)), ?_⟩
  have e1 : unS us = unS (us.take k) ++ unS (us.drop k) := by rw [← uns_app, List.take_append_drop]
  have e2 : unS (us.drop k) = unS ((us.drop k).take (us.length - k - 1)) ++ unS ((us.drop k).drop (us.length - k - 1)) := by rw [← uns_app, List.take_append_drop]
  have l1 : (unS (us.take k)).length = k * 4 := by rw [unS_len, List.length_take, Nat.min_eq_left (by omega)]
  rw [e1, show k * 4 = (unS (us.take k)).length + 0 by omega, setL_app, e2, setL_head _ _ _ (by rw [unS_len, unS_len, List.length_take, List.length_drop, List.length_drop, Nat.min_eq_left (by omega)]; congr 1), uns_app, List.append_assoc]
set_option maxRecDepth 100000 in
set_option maxHeartbeats 8000000 in
theorem specDropUnit (H : HM) (a : Option Addr) (cap : Nat) (g i : Int) (w : World) (hr : UnRow w a H.us) (hl : H.us.length ≤ 1048576) :
    Calls Try.prog 10 #[hov H a cap, .int .i64 g, .int .i64 i] w fun e w' => HbPost (dropU H g i) w e w' := by
  obtain ⟨i0, hin, hz0, hz1, hz2⟩ := info_parts infoUnit
  have HCP := Shut.mk (fun (W : World) (hb : Below w.heap.size w W) => specCopy14 H a cap W (hr.stays hb) hl)
  have HA := Shut.mk (fun (W : World) (hb : Below w.heap.size w W) => specAt14 H a cap g i W (hr.stays hb) hl)
  unfold HoPost at HCP
  clear hr
  obtain ⟨id, up, us⟩ := H
  obtain ⟨RR, hRR⟩ : ∃ q, q = dropU ⟨id, up, us⟩ g i := ⟨_, rfl⟩
  rw [← hRR]
  have HQ := Shut.mk hRR
  unfold dropU at HQ
  show Calls Try.prog 10 #[.agg #[.int .i64 id, .bool up, .slice a us.length cap], .int .i64 g, .int .i64 i] w fun e w' => HbPost RR w e w'
  dsimp only [hov] at *
  obtain ⟨n, hn⟩ : ∃ n, n = us.length := ⟨_, rfl⟩
  have HN := Shut.mk hn
  rw [← hn] at HCP HA hl ⊢
  obtain ⟨ki, hki⟩ : ∃ q, q = atN us g i := ⟨_, rfl⟩
  rw [← hki] at HA
  have HK := Shut.mk hki
  clear hki hRR hn
  have HS0 := Shut.mk (((SL.start w).new #[.int .i64 id, .bool up, .slice a n cap] 29).new #[.int .i64 0, .bool false, .slice none 0 0] 29)
  simp only [World.size_alloc] at HS0
  go_enter Try.func10, Try.ntmps10
  go_upto_region 1 with fail
  refine wp_shade (fun W => SL w W [bxS (w.heap.size + 1) [.int .i64 0, .bool false, .slice none 0 0], bxS w.heap.size [.int .i64 id, .bool up, .slice a n cap]]) HS0.out ?_
  intro W0 hW
  have H := Shut.mk hW
  clear HS0 hW
  have x0 := (H.out.bx 1 rfl 0 _ rfl).1
  have x1 := (H.out.bx 1 rfl 1 _ rfl).1
  have x2 := (H.out.bx 1 rfl 2 _ rfl).1
  go_upto_region 2 with (go_at_call 21; refine (HCP.out _ H.out.bel).mono ?_; rintro e w1 ⟨ac, cc, rfl, hF, hcc, hb⟩; have HS1 := Shut.mk (H.out.add (s := rwS ac (unS us) W0.heap.size w1.heap.size) hb hF (rwS.loc _ _ _ _) (Nat.le_refl _) (Nat.le_refl _)); clear hF hb H x0 x1 x2)
  generalize W0.heap.size = lc at HS1
  obtain ⟨hc9, hhc⟩ : ∃ q, q = w1.heap.size := ⟨_, rfl⟩
  rw [← hhc] at HS1
  clear hhc
  obtain ⟨b6, hb6⟩ : ∃ q, q = w1.heap.size := ⟨_, rfl⟩
  refine wp_shade (fun W => SL w W [bxS b6 [.int .i64 id, .bool up, .slice ac n cc], rwS ac (unS us) lc hc9, bxS (w.heap.size + 1) [.int .i64 0, .bool false, .slice none 0 0], bxS w.heap.size [.int .i64 id, .bool up, .slice a n cap]]) (by rw [hb6]; exact HS1.out.new _ _) ?_
  intro W2 hW
  have H := Shut.mk hW
  rw [← hb6]
  clear hW hb6 HS1
  have x0 := (H.out.bx 3 rfl 0 _ rfl).1
  have x1 := (H.out.bx 3 rfl 1 _ rfl).1
  have x2 := (H.out.bx 3 rfl 2 _ rfl).1
  go_upto_region 3 with (go_at_call 22; refine (HA.out _ H.out.bel).mono ?_; rintro e w3 ⟨rfl, hb⟩; replace H := Shut.mk (H.out.below hb); clear hb x0 x1 x2)
  by_cases hf : unIdx us g i < us.length
  case neg =>
    have hki : ki = -1 := by rw [HK.out, idx_no hf]
    have HE : Shut (RR = (⟨id, up, us⟩, false)) := ⟨by rw [HQ.out]; simp [hf]⟩
    subst hki
    clear hf
    have z0 := (H.out.bx 0 rfl 0 _ rfl).1
    have z1 := (H.out.bx 0 rfl 1 _ rfl).1
    have z2 := (H.out.bx 0 rfl 2 _ rfl).1
    obtain ⟨r0, r0z⟩ := H.out.bx 2 rfl 0 _ rfl
    obtain ⟨r1, r1z⟩ := H.out.bx 2 rfl 1 _ rfl
    obtain ⟨r2, r2z⟩ := H.out.bx 2 rfl 2 _ rfl
    go_wp2_with fail
    have HE3 := Shut.mk ((((H.out.put 2 rfl 0 (.int .i64 id) (by simp)).put 2 rfl 1 (.bool up) (by simp)).put 2 rfl 2 (.slice ac n cc) (by simp)))
    refine bodyPost_ret (v := .tuple #[.agg #[.int .i64 id, .bool up, .slice ac n cc], .bool false]) (by simp [results, Try.results10, go_sem, r0, r1, r2]) rfl ?_
    rw [HE.out]
    have hs := HE3.out.is _ (List.mem_of_getElem? (show _[1]? = some (rwS ac (unS us) lc hc9) from rfl))
    exact ⟨_, cc, by rw [HN.out], frw_wide (show FRw _ _ (unS us) lc hc9 from hs.1) hs.2.2.1 hs.2.2.2, by have := HN.out; show us.length ≤ cc; omega, HE3.out.bel⟩
  obtain ⟨k, hk⟩ : ∃ k, k = unIdx us g i := ⟨_, rfl⟩
  have hki : ki = (k : Int) := by rw [HK.out, idx_lt hf, hk]
  rw [← hk] at hf
  have HE : Shut (RR = (⟨id, up, us.take k ++ us.drop (k + 1)⟩, true)) := ⟨by rw [HQ.out, ← hk, if_pos hf]⟩
  subst hki
  have k0 : (0 : Int) ≤ (k : Int) := by omega
  have k1 : (k : Int) < (n : Int) := by have := HN.out; omega
  have k2 : ¬ ((k : Int) < 0) := by omega
  clear hk HQ
  obtain ⟨gc, rfl, hlc, hhc, hwc⟩ : ∃ gc, ac = some ⟨gc, 0, none⟩ ∧ lc ≤ gc ∧ gc < hc9 ∧ WCells w3 gc (unS us) := by
    rcases (show FRw w3 ac (unS us) lc hc9 from H.out.at 1 rfl) with ⟨_, e⟩ | q
    · have := congrArg List.length e
      rw [unS_len] at this
      simp at this
      omega
    · exact q
  have HWC := Shut.mk (And.intro hlc hhc)
  clear hlc hhc hwc
  have HF := Shut.mk hf
  have hkn : k < n := by omega
  have hcn : n ≤ cc := hcc
  have hk3 : (k : Int) + 1 ≤ (n : Int) := by omega
  have hk4 : (k : Int) ≤ (cc : Int) := by omega
  have hk5 : (0 : Int) ≤ (k : Int) + 1 := by omega
  clear hf
  go_upto_region 5 with fail
  have HTX : Shut (∀ x, Later w3.drew x → SL w x [bxS b6 [.int .i64 id, .bool up, .slice (some ⟨gc, 0, none⟩) n cc], rwS (some ⟨gc, 0, none⟩) (unS us) lc hc9, bxS (w.heap.size + 1) [.int .i64 0, .bool false, .slice none 0 0], bxS w.heap.size [.int .i64 id, .bool up, .slice a n cap]]) := ⟨fun x hx => H.out.below (Below.trans (Below.drew (Below.refl _ _)) hx)⟩
  have HLE : Shut (∀ x, Later w3.drew x → x.cell? ⟨b6, 2, none⟩ = some (.slice (some ⟨gc, 0, none⟩) n cc)) := ⟨fun x hx => ((HTX.out x hx).bx 0 rfl 2 _ rfl).1⟩
  refine wp_region_set (fun j => decide (9 ≤ j)) (by kernel_rfl) ?_
  refine wpD_val (i := 0) (v := ?v0) rfl (by kernel_rfl) (by kernel_rfl) (by kernel_rfl) (by kernel_rfl) (fun _ _ _ h => h) (by rfl) ?hy0 ?rest0
  case hy0 => (intro x hx; have d2 := HLE.out x hx; go_simp; try with_reducible rfl)
  try simp only [Act.put, List.setIfInBounds_toArray, List.set_cons_zero, List.set_cons_succ]
  refine wpD_val (i := 1) (v := ?v1) rfl (by kernel_rfl) (by kernel_rfl) (by kernel_rfl) (by kernel_rfl) (fun _ _ _ h => h) (by rfl) ?hy1 ?rest1
  case hy1 => (intro x hx; have d2 := HLE.out x hx; go_simp; try with_reducible rfl)
  try simp only [Act.put, List.setIfInBounds_toArray, List.set_cons_zero, List.set_cons_succ]
  refine wpD_val (i := 2) (v := ?v2) rfl (by kernel_rfl) (by kernel_rfl) (by kernel_rfl) (by kernel_rfl) (fun _ _ _ h => h) (by rfl) ?hy2 ?rest2
  case hy2 => (intro x hx; have d2 := HLE.out x hx; go_simp; try with_reducible rfl)
  try simp only [Act.put, List.setIfInBounds_toArray, List.set_cons_zero, List.set_cons_succ]
  refine wpD_val (i := 3) (v := ?v3) rfl (by kernel_rfl) (by kernel_rfl) (by kernel_rfl) (by kernel_rfl) (fun _ _ _ h => h) (by rfl) ?hy3 ?rest3
  case hy3 => (intro x hx; have d2 := HLE.out x hx; go_simp; try with_reducible rfl)
  try simp only [Act.put, List.setIfInBounds_toArray, List.set_cons_zero, List.set_cons_succ]
  refine wpD_val (i := 4) (v := ?v4) rfl (by kernel_rfl) (by kernel_rfl) (by kernel_rfl) (by kernel_rfl) (fun _ _ _ h => h) (by rfl) ?hy4 ?rest4
  case hy4 => (intro x hx; have d2 := HLE.out x hx; go_simp; try with_reducible rfl)
  try simp only [Act.put, List.setIfInBounds_toArray, List.set_cons_zero, List.set_cons_succ]
  refine wpD_val (i := 5) (v := ?v5) rfl (by kernel_rfl) (by kernel_rfl) (by kernel_rfl) (by kernel_rfl) (fun _ _ _ h => h) (by rfl) ?hy5 ?rest5
  case hy5 => (intro x hx; have d2 := HLE.out x hx; go_simp; try with_reducible rfl)
  try simp only [Act.put, List.setIfInBounds_toArray, List.set_cons_zero, List.set_cons_succ]
  refine wpD_val (i := 6) (v := ?v6) rfl (by kernel_rfl) (by kernel_rfl) (by kernel_rfl) (by kernel_rfl) (fun _ _ _ h => h) (by rfl) ?hy6 ?rest6
  case hy6 => (intro x hx; have d2 := HLE.out x hx; go_simp; try with_reducible rfl)
  try simp only [Act.put, List.setIfInBounds_toArray, List.set_cons_zero, List.set_cons_succ]
  refine wpD_val (i := 7) (v := ?v7) rfl (by kernel_rfl) (by kernel_rfl) (by kernel_rfl) (by kernel_rfl) (fun _ _ _ h => h) (by rfl) ?hy7 ?rest7
  case hy7 => (intro x hx; have d2 := HLE.out x hx; go_simp; try with_reducible rfl)
  try simp only [Act.put, List.setIfInBounds_toArray, List.set_cons_zero, List.set_cons_succ]
  have HW1 : Shut (IntKind.i64.wrap ((k : Int) + 1) = ((k + 1 : Nat) : Int)) := ⟨(IntWalk.i64_in _ ⟨by omega, by omega⟩).trans (by omega)⟩
  obtain ⟨sa, hsa⟩ : ∃ ad : Addr, (if cc = k + 1 then some (⟨gc, 0, none⟩ : Addr) else some ⟨gc, (k + 1) * 4, none⟩) = some ad := by split <;> exact ⟨_, rfl⟩
  have HSA := Shut.mk hsa
  clear hsa
  refine wpD_val (i := 8) (v := .slice (some sa) (n - (k + 1)) (cc - (k + 1))) rfl (by kernel_rfl) (by kernel_rfl) (by kernel_rfl) (by kernel_rfl) (fun _ _ _ h => h) (by rfl) ?hy8 ?rest8
  case hy8 => (intro x hx; have d2 := HLE.out x hx; go_simp; rw [HW1.out, if_pos (by omega), Int.toNat_natCast, HSA.out])
  try simp only [Act.put, List.setIfInBounds_toArray, List.set_cons_zero, List.set_cons_succ]
  refine wpD_tail (by kernel_rfl) ?_
  intro x5 hx5
  have H5 := Shut.mk (HTX.out x5 hx5)
  have hwc : WCells x5 gc (unS us) := FRw.wcells (show FRw x5 (some ⟨gc, 0, none⟩) (unS us) lc hc9 from H5.out.at 1 rfl)
  have hsrc : Src Try.prog i0.size 27 (.slice (some sa) (n - (k + 1)) (cc - (k + 1))) (n - (k + 1)) (unS (us.drop (k + 1))) x5 := by
    refine Src.ofSlice x5 Try.underlying27 sa _ _ _ ?_ ?_ (uns_one _)
    · rw [unS_len, hz1, List.length_drop, HN.out]
    · intro j u hj
      have hjl := (List.getElem?_eq_some_iff.1 hj).1
      rw [unS_len, List.length_drop] at hjl
      have e1 : unS us = unS (us.take (k + 1)) ++ unS (us.drop (k + 1)) := by rw [← uns_app, List.take_append_drop]
      have l1 : (unS (us.take (k + 1))).length = (k + 1) * 4 := by rw [unS_len, List.length_take, Nat.min_eq_left (by have := HF.out; omega)]
      have e2 : (unS us)[(k + 1) * 4 + j]? = some u := by rw [e1, List.getElem?_append_right (by omega), l1, show (k + 1) * 4 + j - (k + 1) * 4 = j by omega]; exact hj
      have hne : ¬ cc = k + 1 := by have := HN.out; omega
      have es : sa = ⟨gc, (k + 1) * 4, none⟩ := by have q := HSA.out; rw [if_neg hne] at q; exact (Option.some.inj q).symm
      rw [es, show (⟨gc, (k + 1) * 4, none⟩ : Addr).add j = ⟨gc, (k + 1) * 4 + j, none⟩ by cases j <;> simp [Addr.add]]
      exact (hwc.2 _ _ e2).1
  have hlen : (unS us).length = us.length * 4 := unS_len us
  have hap : ∀ ty, (Builtin.append_ #[27, 27] ty #[.slice (some ⟨gc, 0, none⟩) k cc, .slice (some sa) (n - (k + 1)) (cc - (k + 1))]).run Try.prog x5 = .ok (.slice (some ⟨gc, 0, none⟩) (k + (n - (k + 1))) cc) (x5.setCells gc (0 + k * 4) (unS (us.drop (k + 1)))) := fun ty => by
    have q := run_append_room_src (P := Try.prog) (w := x5) 27 27 ty 39 i0 Try.underlying27 hin gc 0 k cc (.slice (some sa) (n - (k + 1)) (cc - (k + 1))) (n - (k + 1)) (unS (us.drop (k + 1))) hsrc (by omega) (fun j hj => ?_) (fun j hj => ?_)
    · rw [hz1] at q
      exact q
    · rw [unS_len, List.length_drop] at hj
      rw [hz1, (hwc.2 (0 + k * 4 + j) _ (List.getElem?_eq_getElem (by have := HF.out; omega))).1]
      rfl
    · rw [unS_len, List.length_drop] at hj
      rw [hz1]
      exact (hwc.2 (0 + k * 4 + j) _ (List.getElem?_eq_getElem (by have := HF.out; omega))).2
  have H6 := Shut.mk (H5.out.turn 1 rfl (W' := x5.setCells gc (0 + k * 4) (unS (us.drop (k + 1)))) (q := fun W => FRw W (some ⟨gc, 0, none⟩) (unS (us.take k ++ us.drop (k + 1))) lc hc9) (by
    rw [setCells_setW]; exact turned_setW x5 gc _ _ HWC.out.1 HWC.out.2) (by
    obtain ⟨R, hR⟩ := uns_shift us k HF.out
    have q := hwc.setW (k * 4) (unS (us.drop (k + 1))) (by rw [unS_len, unS_len, List.length_drop]; have := HF.out; omega)
    rw [hR] at q
    rw [setCells_setW, Nat.zero_add]
    exact .inr ⟨gc, rfl, HWC.out.1, HWC.out.2, q.pre⟩) (rwS.loc _ _ _ _))
  simp only [List.set_cons_zero, List.set_cons_succ] at H6
  obtain ⟨y5, hy5⟩ : ∃ q, q = x5.setCells gc (0 + k * 4) (unS (us.drop (k + 1))) := ⟨_, rfl⟩
  rw [← hy5] at hap H6
  obtain ⟨nn, hnn⟩ : ∃ q, q = k + (n - (k + 1)) := ⟨_, rfl⟩
  rw [← hnn] at hap
  have HNN : Shut (nn = (us.take k ++ us.drop (k + 1)).length) := ⟨by rw [hnn, List.length_append, List.length_take, List.length_drop, ← HN.out, Nat.min_eq_left (by omega)]⟩
  clear hy5 hnn hwc hsrc hlen H5 hx5 HTX HLE
  refine wpA_here (v := .slice (some ⟨gc, 0, none⟩) nn cc) (y := y5) (i := 9) (by kernel_rfl) rfl (by rfl) (run_append_op rfl rfl rfl hap) ?_
  try simp only [Act.put, List.setIfInBounds_toArray, List.set_cons_zero, List.set_cons_succ]
  refine wpA_val (i := 10) (v := .pointer (some ⟨b6, 2, none⟩)) rfl (by kernel_rfl) (by kernel_rfl) (by kernel_rfl) (fun _ _ _ h => h) (by rfl) (fun x => by go_simp) ?_
  try simp only [Act.put, List.setIfInBounds_toArray, List.set_cons_zero, List.set_cons_succ]
  obtain ⟨z2, z2z⟩ := H6.out.bx 0 rfl 2 _ rfl
  refine wpA_step (y := y5.setCell ⟨b6, 2, none⟩ (.slice (some ⟨gc, 0, none⟩) nn cc)) (i := 11) (by kernel_rfl) rfl (by rfl) (by go_simp) ?_
  have H7 := Shut.mk (H6.out.put 0 rfl 2 (.slice (some ⟨gc, 0, none⟩) nn cc) (by simp))
  simp only [List.set_cons_zero, List.set_cons_succ] at H7
  simp only [Act.put]
  refine wpA_done (by kernel_rfl) ?_ _
  clear z2 z2z H6 hap H
  go_upto_region 6 with fail
  refine wp_shade (fun W => SL w W [bxS b6 [.int .i64 id, .bool up, .slice (some ⟨gc, 0, none⟩) nn cc], rwS (some ⟨gc, 0, none⟩) (unS (us.take k ++ us.drop (k + 1))) lc hc9, bxS (w.heap.size + 1) [.int .i64 0, .bool false, .slice none 0 0], bxS w.heap.size [.int .i64 id, .bool up, .slice a n cap]]) H7.out ?_
  intro W8 hW
  have H := Shut.mk hW
  clear hW H7
  have z0 := (H.out.bx 0 rfl 0 _ rfl).1
  have z1 := (H.out.bx 0 rfl 1 _ rfl).1
  have z2 := (H.out.bx 0 rfl 2 _ rfl).1
  obtain ⟨r0, r0z⟩ := H.out.bx 2 rfl 0 _ rfl
  obtain ⟨r1, r1z⟩ := H.out.bx 2 rfl 1 _ rfl
  obtain ⟨r2, r2z⟩ := H.out.bx 2 rfl 2 _ rfl
  go_wp2_with fail
  have HE3 := Shut.mk ((((H.out.put 2 rfl 0 (.int .i64 id) (by simp)).put 2 rfl 1 (.bool up) (by simp)).put 2 rfl 2 (.slice (some ⟨gc, 0, none⟩) nn cc) (by simp)))
  refine bodyPost_ret (v := .tuple #[.agg #[.int .i64 id, .bool up, .slice (some ⟨gc, 0, none⟩) nn cc], .bool true]) (by simp [results, Try.results10, go_sem, r0, r1, r2]) rfl ?_
  rw [HE.out]
  have hs := HE3.out.is _ (List.mem_of_getElem? (show _[1]? = some (rwS (some ⟨gc, 0, none⟩) (unS (us.take k ++ us.drop (k + 1))) lc hc9) from rfl))
  exact ⟨_, cc, by show _ = Ending.returned (.tuple #[.agg #[.int .i64 id, .bool up, .slice _ (us.take k ++ us.drop (k + 1)).length cc], .bool true]); rw [← HNN.out], frw_wide (show FRw _ _ (unS (us.take k ++ us.drop (k + 1))) lc hc9 from hs.1) hs.2.2.1 hs.2.2.2, by have h1 := HNN.out; have h2 := HN.out; show (us.take k ++ us.drop (k + 1)).length ≤ cc; rw [List.length_append, List.length_take, List.length_drop]; omega, HE3.out.bel⟩
end Go.Proofs.Ytbanfccnmbmcfaa
