/- The library's slices.Delete of one unit in a row of one's own; the program's own DropUnit (written by gen/mkhpd.py). -/
import Derived.Test.YtbanfccnmbmcfaaHpB
import Derived.Test.YtbanfccnmbmcfaaHpC
namespace Go.Proofs.Ytbanfccnmbmcfaa
set_option maxRecDepth 100000
open Go.RowKit BigFrame
attribute [local go_sem ↓] Go.wp_at_zero Go.wp_at_succ

abbrev zeroU : Array Value := #[.int .i64 0, .int .i64 0, .string ⟨#[]⟩, .int .i64 0]
theorem zeroU_one (m : Nat) : ∀ v ∈ (Builtin.zeroCells zeroU m).toList, v.oneCell' = true := by
  intro v hv
  unfold Builtin.zeroCells at hv
  simp only [Array.toList_map, List.mem_map] at hv
  obtain ⟨i, -, rfl⟩ := hv
  have : i % 4 < 4 := Nat.mod_lt _ (by decide)
  generalize i % 4 = q at this
  show (zeroU[q]!).oneCell' = true
  match q, this with
  | 0, _ => rfl
  | 1, _ => rfl
  | 2, _ => rfl
  | 3, _ => rfl
theorem zeroU_len (m : Nat) : (Builtin.zeroCells zeroU m).toList.length = m * 4 := by
  unfold Builtin.zeroCells
  simp
theorem clear_unit (g o c : Nat) (W : World) (hc : ∀ j, j < 4 → (W.cell? ⟨g, o + j, none⟩).isSome = true ∧ W.frozen? ⟨g, o + j, none⟩ = false) : Sem.run Try.prog (Builtin.clear_ #[27] 0 #[.slice (some ⟨g, o, none⟩) 1 c]) W = .ok (.tuple #[]) (W.setCells g o (Builtin.zeroCells zeroU 1).toList) := by
  have hz : ∀ w, Sem.run Try.prog (zeroValue 39) w = .ok (.agg zeroU) w := fun w => by kernel_rfl
  have hs := run_storeCells_cells (P := Try.prog) g o (Builtin.zeroCells zeroU 1).toList 0 W (fun j hj => by rw [Nat.add_zero]; exact (hc j (by rw [zeroU_len] at hj; omega)).1) (fun j hj => by rw [Nat.add_zero]; exact (hc j (by rw [zeroU_len] at hj; omega)).2) (zeroU_one 1)
  unfold Builtin.clear_
  simp [go_sem, hz, Value.cells, hs]
set_option maxRecDepth 100000 in
set_option maxHeartbeats 4000000 in
theorem deleteUnit (us : List UnM) (gc n cc k lo hi : Nat) (W : World) (hF : FRw W (some ⟨gc, 0, none⟩) (unS us) lo hi) (hn : n = us.length) (hk : k < n) (hcn : n ≤ cc) :
    Calls Try.prog 25 #[.slice (some ⟨gc, 0, none⟩) n cc, .int .i64 k, .int .i64 ((k : Int) + 1)] W fun e w' => e = .returned (.slice (some ⟨gc, 0, none⟩) (n - 1) cc) ∧ FRw w' (some ⟨gc, 0, none⟩) (unS (us.take k ++ us.drop (k + 1))) lo hi ∧ Turned W w' lo hi := by
  obtain ⟨i0, hin, hz0, hz1, hz2⟩ := info_parts infoUnit
  obtain ⟨hlo, hhi, hwc0⟩ : lo ≤ gc ∧ gc < hi ∧ WCells W gc (unS us) := by
    rcases hF with ⟨e, _⟩ | ⟨q, e, h1, h2, h3⟩
    · cases e
    · cases e; exact ⟨h1, h2, h3⟩
  have HWC := Shut.mk hwc0
  have HN := Shut.mk hn
  have HB := Shut.mk (And.intro hlo hhi)
  clear hF hwc0 hlo hhi hn
  have k0 : (0 : Int) ≤ (k : Int) := by omega
  have k1 : (k : Int) < (n : Int) := by omega
  have k3 : (k : Int) + 1 ≤ (n : Int) := by omega
  have k4 : (k : Int) ≤ (cc : Int) := by omega
  have k5 : (0 : Int) ≤ (k : Int) + 1 := by omega
  have k6 : (n : Int) ≤ (cc : Int) := by omega
  have k7 : ((k : Int) == (k : Int) + 1) = false := by simp; omega
  have k8 : (k : Int) ≤ (k : Int) + 1 := by omega
  have k9 : ¬ (k : Int) = (k : Int) + 1 := by omega
  go_enter Try.func25, Try.ntmps25
  go_upto_region 5 with fail
  refine wp_region_set (fun j => decide (6 ≤ j)) (by kernel_rfl) ?_
  refine wpD_val (i := 0) (v := ?v0) rfl (by kernel_rfl) (by kernel_rfl) (by kernel_rfl) (by kernel_rfl) (fun _ _ _ h => h) (by rfl) ?hy0 ?rest0
  case hy0 => (intro x hx; go_simp; try with_reducible rfl)
  try simp only [Act.put, List.setIfInBounds_toArray, List.set_cons_zero, List.set_cons_succ]
  refine wpD_val (i := 1) (v := ?v1) rfl (by kernel_rfl) (by kernel_rfl) (by kernel_rfl) (by kernel_rfl) (fun _ _ _ h => h) (by rfl) ?hy1 ?rest1
  case hy1 => (intro x hx; go_simp; try with_reducible rfl)
  try simp only [Act.put, List.setIfInBounds_toArray, List.set_cons_zero, List.set_cons_succ]
  refine wpD_val (i := 2) (v := ?v2) rfl (by kernel_rfl) (by kernel_rfl) (by kernel_rfl) (by kernel_rfl) (fun _ _ _ h => h) (by rfl) ?hy2 ?rest2
  case hy2 => (intro x hx; go_simp; try with_reducible rfl)
  try simp only [Act.put, List.setIfInBounds_toArray, List.set_cons_zero, List.set_cons_succ]
  refine wpD_val (i := 3) (v := ?v3) rfl (by kernel_rfl) (by kernel_rfl) (by kernel_rfl) (by kernel_rfl) (fun _ _ _ h => h) (by rfl) ?hy3 ?rest3
  case hy3 => (intro x hx; go_simp; try with_reducible rfl)
  try simp only [Act.put, List.setIfInBounds_toArray, List.set_cons_zero, List.set_cons_succ]
  refine wpD_val (i := 4) (v := ?v4) rfl (by kernel_rfl) (by kernel_rfl) (by kernel_rfl) (by kernel_rfl) (fun _ _ _ h => h) (by rfl) ?hy4 ?rest4
  case hy4 => (intro x hx; go_simp; try with_reducible rfl)
  try simp only [Act.put, List.setIfInBounds_toArray, List.set_cons_zero, List.set_cons_succ]
  obtain ⟨sa, hsa⟩ : ∃ ad : Addr, (if cc = k + 1 then some (⟨gc, 0, none⟩ : Addr) else some ⟨gc, (k + 1) * 4, none⟩) = some ad := by split <;> exact ⟨_, rfl⟩
  have HSA := Shut.mk hsa
  clear hsa
  refine wpD_val (i := 5) (v := .slice (some sa) (n - (k + 1)) (cc - (k + 1))) rfl (by kernel_rfl) (by kernel_rfl) (by kernel_rfl) (by kernel_rfl) (fun _ _ _ h => h) (by rfl) ?hy5 ?rest5
  case hy5 => (intro x hx; go_simp; first | done | (rw [HSA.out]))
  try simp only [Act.put, List.setIfInBounds_toArray, List.set_cons_zero, List.set_cons_succ]
  refine wpD_tail (by kernel_rfl) ?_
  intro x5 hx5
  have hwc : WCells x5 gc (unS us) := (WCells.grow HWC.out (Below.drew (Below.refl _ _))).grow hx5
  have HT5 : Shut (Turned W x5 lo hi) := ⟨Turned.of_below (Below.trans (Below.drew (Below.refl W.heap.size W)) (show Below W.heap.size W.drew x5 from hx5)) lo hi⟩
  have hsrc : Src Try.prog i0.size 27 (.slice (some sa) (n - (k + 1)) (cc - (k + 1))) (n - (k + 1)) (unS (us.drop (k + 1))) x5 := by
    refine Src.ofSlice x5 Try.underlying27 sa _ _ _ ?_ ?_ (uns_one _)
    · rw [unS_len, hz1, List.length_drop, HN.out]
    · intro j u hj
      have hjl := (List.getElem?_eq_some_iff.1 hj).1
      rw [unS_len, List.length_drop] at hjl
      have e1 : unS us = unS (us.take (k + 1)) ++ unS (us.drop (k + 1)) := by rw [← uns_app, List.take_append_drop]
      have l1 : (unS (us.take (k + 1))).length = (k + 1) * 4 := by rw [unS_len, List.length_take, Nat.min_eq_left (by have := HN.out; omega)]
      have e2 : (unS us)[(k + 1) * 4 + j]? = some u := by rw [e1, List.getElem?_append_right (by omega), l1, show (k + 1) * 4 + j - (k + 1) * 4 = j by omega]; exact hj
      have hne : ¬ cc = k + 1 := by have := HN.out; omega
      have es : sa = ⟨gc, (k + 1) * 4, none⟩ := by have q := HSA.out; rw [if_neg hne] at q; exact (Option.some.inj q).symm
      rw [es, show (⟨gc, (k + 1) * 4, none⟩ : Addr).add j = ⟨gc, (k + 1) * 4 + j, none⟩ by cases j <;> simp [Addr.add]]
      exact (hwc.2 _ _ e2).1
  have hlen : (unS us).length = us.length * 4 := unS_len us
  have hap : ∀ ty, (Builtin.append_ #[27, 27] ty #[.slice (some ⟨gc, 0, none⟩) k cc, .slice (some sa) (n - (k + 1)) (cc - (k + 1))]).run Try.prog x5 = .ok (.slice (some ⟨gc, 0, none⟩) (k + (n - (k + 1))) cc) (x5.setCells gc (0 + k * 4) (unS (us.drop (k + 1)))) := fun ty => by
    have q := run_append_room_src (P := Try.prog) (w := x5) 27 27 ty 39 i0 Try.underlying27 hin gc 0 k cc (.slice (some sa) (n - (k + 1)) (cc - (k + 1))) (n - (k + 1)) (unS (us.drop (k + 1))) hsrc (by omega) (fun j hj => ?_) (fun j hj => ?_)
    · rw [hz1] at q
      exact q
    · rw [unS_len, List.length_drop] at hj
      rw [hz1, (hwc.2 (0 + k * 4 + j) _ (List.getElem?_eq_getElem (by have := HN.out; omega))).1]
      rfl
    · rw [unS_len, List.length_drop] at hj
      rw [hz1]
      exact (hwc.2 (0 + k * 4 + j) _ (List.getElem?_eq_getElem (by have := HN.out; omega))).2
  have HY : Shut (∃ R, WCells (x5.setCells gc (0 + k * 4) (unS (us.drop (k + 1)))) gc (unS (us.take k ++ us.drop (k + 1)) ++ R) ∧ R.length = 4) := ⟨by
    obtain ⟨R, hR⟩ := uns_shift us k (by have := HN.out; omega)
    have q := hwc.setW (k * 4) (unS (us.drop (k + 1))) (by rw [unS_len, unS_len, List.length_drop]; have := HN.out; omega)
    have q2 := congrArg List.length hR
    rw [hR] at q
    rw [setCells_setW, Nat.zero_add]
    refine ⟨R, q, ?_⟩
    rw [setL_len, List.length_append, unS_len, unS_len, List.length_append, List.length_take, List.length_drop] at q2
    have := HN.out
    omega⟩
  have HT6 : Shut (Turned W (x5.setCells gc (0 + k * 4) (unS (us.drop (k + 1)))) lo hi) := ⟨HT5.out.trans (by rw [setCells_setW]; exact turned_setW x5 gc _ _ HB.out.1 HB.out.2)⟩
  obtain ⟨y5, hy5⟩ : ∃ q, q = x5.setCells gc (0 + k * 4) (unS (us.drop (k + 1))) := ⟨_, rfl⟩
  rw [← hy5] at hap HY HT6
  obtain ⟨nn, hnn⟩ : ∃ q, q = k + (n - (k + 1)) := ⟨_, rfl⟩
  rw [← hnn] at hap
  have HNN : Shut (nn = n - 1 ∧ nn = (us.take k ++ us.drop (k + 1)).length) := ⟨⟨by omega, by rw [hnn, List.length_append, List.length_take, List.length_drop, ← HN.out, Nat.min_eq_left (by omega)]⟩⟩
  have n1 : (nn : Int) ≤ (n : Int) := by omega
  have n2 : n - nn = 1 := by omega
  have n3 : ¬ cc = nn := by omega
  have n4 : (0 : Int) ≤ (nn : Int) := by omega
  clear hy5 hnn hwc hsrc hlen hx5 HT5
  refine wpA_here (v := .slice (some ⟨gc, 0, none⟩) nn cc) (y := y5) (i := 6) (by kernel_rfl) rfl (by rfl) (run_append_op rfl rfl rfl hap) ?_
  try simp only [Act.put, List.setIfInBounds_toArray, List.set_cons_zero, List.set_cons_succ]
  refine wpA_val (i := 7) (v := .slice (some ⟨gc, 0, none⟩) nn cc) rfl (by kernel_rfl) (by kernel_rfl) (by kernel_rfl) (fun _ _ _ h => h) (by rfl) (fun x => by go_simp) ?_
  simp only [Act.put, List.setIfInBounds_toArray, List.set_cons_zero]
  refine wpA_done (by kernel_rfl) ?_ _
  obtain ⟨R, hR⟩ : ∃ R, WCells y5 gc (unS (us.take k ++ us.drop (k + 1)) ++ R) ∧ R.length = 4 := HY.out
  have HRR := Shut.mk hR
  have hcl := clear_unit gc (nn * 4) (cc - nn) y5 (fun j hj => by
    have hl : (unS (us.take k ++ us.drop (k + 1))).length = nn * 4 := by rw [unS_len, ← HNN.out.2]
    have q := HRR.out.1.2 (nn * 4 + j) _ (List.getElem?_eq_getElem (by rw [List.length_append, hl]; have := HRR.out.2; omega))
    exact ⟨by rw [q.1]; rfl, q.2⟩)
  have HF : Shut (FRw (y5.setCells gc (nn * 4) (Builtin.zeroCells zeroU 1).toList) (some ⟨gc, 0, none⟩) (unS (us.take k ++ us.drop (k + 1))) lo hi ∧ Turned W (y5.setCells gc (nn * 4) (Builtin.zeroCells zeroU 1).toList) lo hi) := ⟨by
    have hl : (unS (us.take k ++ us.drop (k + 1))).length = nn * 4 := by rw [unS_len, ← HNN.out.2]
    rw [setCells_setW]
    have q := HRR.out.1.setW (nn * 4) (Builtin.zeroCells zeroU 1).toList (by rw [List.length_append, hl, zeroU_len]; have := HRR.out.2; omega)
    rw [show nn * 4 = (unS (us.take k ++ us.drop (k + 1))).length + 0 by omega, setL_app] at q
    rw [show (unS (us.take k ++ us.drop (k + 1))).length + 0 = nn * 4 by omega] at q
    exact ⟨.inr ⟨gc, rfl, HB.out.1, HB.out.2, q.pre⟩, HT6.out.trans (turned_setW y5 gc _ _ HB.out.1 HB.out.2)⟩⟩
  clear hap hR
  generalize (Builtin.zeroCells zeroU 1).toList = Z at hcl HF
  go_wp2_with fail
  go_ret
  exact ⟨by rw [← HNN.out.1]; rfl, HF.out⟩
theorem frw_some {w : World} {a : Option Addr} {us : List UnM} {lo hi : Nat} (h : FRw w a (unS us) lo hi) (hp : 0 < us.length) : ∃ gc, a = some ⟨gc, 0, none⟩ := by
  rcases h with ⟨_, e⟩ | ⟨q, e, _⟩
  · have := congrArg List.length e
    rw [unS_len] at this
    simp at this
    omega
  · exact ⟨q, e⟩
set_option maxRecDepth 100000 in
set_option maxHeartbeats 4000000 in
theorem implDropUnit (H : HM) (a : Option Addr) (cap : Nat) (g i : Int) (w : World) (hr : UnRow w a H.us) (hl : H.us.length ≤ 1048576) (hz : unSum H.us ≤ 1048576) :
    Calls Try.prog 11 #[hov H a cap, .int .i64 g, .int .i64 i] w fun e w' => HbPost (dropU H g i) w e w' := by
  have HCP := Shut.mk (fun (W : World) (hb : Below w.heap.size w W) => implCopyHost H a cap W (hr.stays hb) (by omega) (fun u hu => by have := unSum_mem hu; omega))
  unfold HoPost at HCP
  clear hr hz
  obtain ⟨id, up, us⟩ := H
  obtain ⟨RR, hRR⟩ : ∃ q, q = dropU ⟨id, up, us⟩ g i := ⟨_, rfl⟩
  rw [← hRR]
  have HQ := Shut.mk hRR
  unfold dropU at HQ
  show Calls Try.prog 11 #[.agg #[.int .i64 id, .bool up, .slice a us.length cap], .int .i64 g, .int .i64 i] w fun e w' => HbPost RR w e w'
  dsimp only [hov] at *
  have HA : Shut (∀ (W : World) (b : Option Addr) (c : Nat), UnRow W b us → Calls Try.prog 24 #[.agg #[.int .i64 id, .bool up, .slice b us.length c], .agg #[.int .i64 g, .int .i64 i]] W fun e w' => e = .returned (.int .i64 (atN us g i)) ∧ Below W.heap.size W w') := ⟨fun W b c h => implAt ⟨id, up, us⟩ b c g i W h (by show us.length ≤ 9000000; omega)⟩
  obtain ⟨n, hn⟩ : ∃ n, n = us.length := ⟨_, rfl⟩
  have HN := Shut.mk hn
  rw [← hn] at HCP HA hl ⊢
  obtain ⟨ki, hki⟩ : ∃ q, q = atN us g i := ⟨_, rfl⟩
  rw [← hki] at HA
  have HK := Shut.mk hki
  clear hki hRR hn
  have HS0 := Shut.mk (((SL.start w).new #[.int .i64 id, .bool up, .slice a n cap] 29).new #[.int .i64 0, .bool false, .slice none 0 0] 29)
  simp only [World.size_alloc] at HS0
  go_enter Try.func11, Try.ntmps11
  go_upto_region 1 with fail
  refine wp_shade (fun W => SL w W [bxS (w.heap.size + 1) [.int .i64 0, .bool false, .slice none 0 0], bxS w.heap.size [.int .i64 id, .bool up, .slice a n cap]]) HS0.out ?_
  intro W0 hW
  have H := Shut.mk hW
  clear HS0 hW
  have x0 := (H.out.bx 1 rfl 0 _ rfl).1
  have x1 := (H.out.bx 1 rfl 1 _ rfl).1
  have x2 := (H.out.bx 1 rfl 2 _ rfl).1
  go_upto_region 2 with (go_at_call 23; refine (HCP.out _ H.out.bel).mono ?_; rintro e w1 ⟨ac, cc, rfl, hF, hcc, hb⟩; have HS1 := Shut.mk (H.out.add (s := rwS ac (unS us) W0.heap.size w1.heap.size) hb hF (rwS.loc _ _ _ _) (Nat.le_refl _) (Nat.le_refl _)); clear hF hb H x0 x1 x2)
  generalize W0.heap.size = lc at HS1
  obtain ⟨hc9, hhc⟩ : ∃ q, q = w1.heap.size := ⟨_, rfl⟩
  rw [← hhc] at HS1
  clear hhc
  obtain ⟨b6, hb6⟩ : ∃ q, q = w1.heap.size := ⟨_, rfl⟩
  refine wp_shade (fun W => SL w W [bxS b6 [.int .i64 id, .bool up, .slice ac n cc], rwS ac (unS us) lc hc9, bxS (w.heap.size + 1) [.int .i64 0, .bool false, .slice none 0 0], bxS w.heap.size [.int .i64 id, .bool up, .slice a n cap]]) (by rw [hb6]; exact HS1.out.new _ _) ?_
  intro W2 hW
  have H := Shut.mk hW
  rw [← hb6]
  clear hW hb6 HS1
  have x0 := (H.out.bx 0 rfl 0 _ rfl).1
  have x1 := (H.out.bx 0 rfl 1 _ rfl).1
  have x2 := (H.out.bx 0 rfl 2 _ rfl).1
  go_upto_region 3 with (go_at_call 24; refine (HA.out _ _ _ (show FRw W2 ac (unS us) lc hc9 from H.out.at 1 rfl).crow).mono ?_; rintro e w3 ⟨rfl, hb⟩; replace H := Shut.mk (H.out.below hb); clear hb x0 x1 x2)
  by_cases hf : unIdx us g i < us.length
  case neg =>
    have hki : ki = -1 := by rw [HK.out, idx_no hf]
    have HE : Shut (RR = (⟨id, up, us⟩, false)) := ⟨by rw [HQ.out]; simp [hf]⟩
    subst hki
    clear hf
    have z0 := (H.out.bx 0 rfl 0 _ rfl).1
    have z1 := (H.out.bx 0 rfl 1 _ rfl).1
    have z2 := (H.out.bx 0 rfl 2 _ rfl).1
    obtain ⟨r0, r0z⟩ := H.out.bx 2 rfl 0 _ rfl
    obtain ⟨r1, r1z⟩ := H.out.bx 2 rfl 1 _ rfl
    obtain ⟨r2, r2z⟩ := H.out.bx 2 rfl 2 _ rfl
    go_wp2_with fail
    have HE3 := Shut.mk ((((H.out.put 2 rfl 0 (.int .i64 id) (by simp)).put 2 rfl 1 (.bool up) (by simp)).put 2 rfl 2 (.slice ac n cc) (by simp)))
    refine bodyPost_ret (v := .tuple #[.agg #[.int .i64 id, .bool up, .slice ac n cc], .bool false]) (by simp [results, Try.results11, go_sem, r0, r1, r2]) rfl ?_
    rw [HE.out]
    have hs := HE3.out.is _ (List.mem_of_getElem? (show _[1]? = some (rwS ac (unS us) lc hc9) from rfl))
    exact ⟨_, cc, by rw [HN.out], frw_wide (show FRw _ _ (unS us) lc hc9 from hs.1) hs.2.2.1 hs.2.2.2, by have := HN.out; show us.length ≤ cc; omega, HE3.out.bel⟩
  obtain ⟨k, hk⟩ : ∃ k, k = unIdx us g i := ⟨_, rfl⟩
  have hki : ki = (k : Int) := by rw [HK.out, idx_lt hf, hk]
  rw [← hk] at hf
  have HE : Shut (RR = (⟨id, up, us.take k ++ us.drop (k + 1)⟩, true)) := ⟨by rw [HQ.out, ← hk, if_pos hf]⟩
  subst hki
  have k0 : (0 : Int) ≤ (k : Int) := by omega
  have k1 : (k : Int) < (n : Int) := by have := HN.out; omega
  have k2 : ¬ ((k : Int) < 0) := by omega
  clear hk HQ
  obtain ⟨gc, rfl⟩ := frw_some (show FRw w3 ac (unS us) lc hc9 from H.out.at 1 rfl) (by omega)
  have x2 := (H.out.bx 0 rfl 2 _ rfl).1
  have hkn : k < n := by omega
  have hcn : n ≤ cc := hcc
  have HDL := Shut.mk (deleteUnit us gc n cc k lc hc9 w3 (show FRw w3 (some ⟨gc, 0, none⟩) (unS us) lc hc9 from H.out.at 1 rfl) HN.out hkn hcn)
  have hw1 : (k : Int) + 1 ≤ 9223372036854775807 := by omega
  have HT : Shut (∀ w4, FRw w4 (some ⟨gc, 0, none⟩) (unS (us.take k ++ us.drop (k + 1))) lc hc9 → Turned w3 w4 lc hc9 → SL w w4 [bxS b6 [.int .i64 id, .bool up, .slice (some ⟨gc, 0, none⟩) n cc], rwS (some ⟨gc, 0, none⟩) (unS (us.take k ++ us.drop (k + 1))) lc hc9, bxS (w.heap.size + 1) [.int .i64 0, .bool false, .slice none 0 0], bxS w.heap.size [.int .i64 id, .bool up, .slice a n cap]]) := ⟨fun w4 hF hT => H.out.turn 1 rfl hT hF (rwS.loc _ _ _ _)⟩
  clear hf
  go_upto_region 6 with (go_at_call 25; refine HDL.out.mono ?_; rintro e w4 ⟨rfl, hF4, hT4⟩; have H4 := Shut.mk (HT.out w4 hF4 hT4); obtain ⟨y2, y2z⟩ := H4.out.bx 0 rfl 2 _ rfl; clear hF4 hT4 HDL HT H x2)
  obtain ⟨nn, hnn⟩ : ∃ q, q = n - 1 := ⟨_, rfl⟩
  have H7 := Shut.mk (H4.out.put 0 rfl 2 (.slice (some ⟨gc, 0, none⟩) (n - 1) cc) (by simp))
  simp only [List.set_cons_zero, List.set_cons_succ] at H7
  rw [← hnn] at H7 ⊢
  have HNN : Shut (nn = (us.take k ++ us.drop (k + 1)).length) := ⟨by rw [hnn, List.length_append, List.length_take, List.length_drop, ← HN.out]; omega⟩
  clear H4 y2 y2z hnn
  refine wp_shade (fun W => SL w W [bxS b6 [.int .i64 id, .bool up, .slice (some ⟨gc, 0, none⟩) nn cc], rwS (some ⟨gc, 0, none⟩) (unS (us.take k ++ us.drop (k + 1))) lc hc9, bxS (w.heap.size + 1) [.int .i64 0, .bool false, .slice none 0 0], bxS w.heap.size [.int .i64 id, .bool up, .slice a n cap]]) H7.out ?_
  intro W8 hW
  have H := Shut.mk hW
  clear hW H7
  have z0 := (H.out.bx 0 rfl 0 _ rfl).1
  have z1 := (H.out.bx 0 rfl 1 _ rfl).1
  have z2 := (H.out.bx 0 rfl 2 _ rfl).1
  obtain ⟨r0, r0z⟩ := H.out.bx 2 rfl 0 _ rfl
  obtain ⟨r1, r1z⟩ := H.out.bx 2 rfl 1 _ rfl
  obtain ⟨r2, r2z⟩ := H.out.bx 2 rfl 2 _ rfl
  go_wp2_with fail
  have HE3 := Shut.mk ((((H.out.put 2 rfl 0 (.int .i64 id) (by simp)).put 2 rfl 1 (.bool up) (by simp)).put 2 rfl 2 (.slice (some ⟨gc, 0, none⟩) nn cc) (by simp)))
  refine bodyPost_ret (v := .tuple #[.agg #[.int .i64 id, .bool up, .slice (some ⟨gc, 0, none⟩) nn cc], .bool true]) (by simp [results, Try.results11, go_sem, r0, r1, r2]) rfl ?_
  rw [HE.out]
  have hs := HE3.out.is _ (List.mem_of_getElem? (show _[1]? = some (rwS (some ⟨gc, 0, none⟩) (unS (us.take k ++ us.drop (k + 1))) lc hc9) from rfl))
  exact ⟨_, cc, by show _ = Ending.returned (.tuple #[.agg #[.int .i64 id, .bool up, .slice _ (us.take k ++ us.drop (k + 1)).length cc], .bool true]); rw [← HNN.out], frw_wide (show FRw _ _ (unS (us.take k ++ us.drop (k + 1))) lc hc9 from hs.1) hs.2.2.1 hs.2.2.2, by have h1 := HNN.out; have h2 := HN.out; show (us.take k ++ us.drop (k + 1)).length ≤ cc; rw [List.length_append, List.length_take, List.length_drop]; omega, HE3.out.bel⟩
end Go.Proofs.Ytbanfccnmbmcfaa
