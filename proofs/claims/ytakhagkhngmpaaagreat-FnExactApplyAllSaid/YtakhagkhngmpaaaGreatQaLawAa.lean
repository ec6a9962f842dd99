/- Texts of ours, laid one behind the other: LawAa. -/
import Derived.Test.YtakhagkhngmpaaaGreatQa9
import Derived.Test.YtakhagkhngmpaaaGreatQaEsA
/- LawAa: . -/
namespace Go.Proofs.YtakhagkhngmpaaaGreat
set_option maxRecDepth 100000
open Go.RowKit
section
variable {w0 W W' : World} {L : List (Nat × List Value)} {S H : List (Value × TM × Nat × Nat)}
theorem TL.row {g : Nat} {X : List Value} (h : TL w0 W L S H) (hg : W.heap.size ≤ g) (hw : WCells W' g X) (hb : Below W.heap.size W W') : TL w0 W' ((g, X) :: L) S H := by
 have q := h.below hb
 refine ⟨⟨fun p hp => ?_, List.pairwise_cons.2 ⟨fun p hp => ?_, q.mb.dist⟩, q.mb.bel⟩, q.ans, fun s hs p hp => ?_, q.apart, q.held, fun s hs p hp => ?_, q.hap⟩
 ·rcases List.mem_cons.1 hp with rfl | hp
  ·exact ⟨hw, Nat.le_trans h.mb.bel.size hg⟩
  ·exact q.mb.box p hp
 ·have := (h.mb.box p hp).1.1
  show g ≠ p.1
  omega
 ·rcases List.mem_cons.1 hp with rfl | hp
  ·exact .inr (Nat.le_trans (h.ans s hs).2.2 hg)
  ·exact q.far s hs p hp
 ·rcases List.mem_cons.1 hp with rfl | hp
  ·exact .inr (Nat.le_trans (h.held s hs).2 hg)
  ·exact q.hfar s hs p hp
theorem TL.turn {g : Nat} {X : List Value} (A B : List (Nat × List Value)) (h : TL w0 W (A ++ (g, X) :: B) S H) (hg : W.grownBy W' (some g)) : TL w0 W' (A ++ B) S H := by
 have hm : (g, X) ∈ A ++ (g, X) :: B := by simp
 have hsub : (A ++ B).Sublist (A ++ (g, X) :: B) := (List.Sublist.refl A).append (List.sublist_cons_self _ _)
 have ht : Turned W W' g (g + 1) := Turned.of_grown hg (Nat.le_refl _) (by omega)
 have hmb : MB w0 W (A ++ B) := ⟨fun p hp => h.mb.box p (hsub.subset hp), h.mb.dist.sublist hsub, h.mb.bel⟩
 have hd := List.pairwise_append.1 h.mb.dist
 refine ⟨hmb.far hg (fun p hp e => ?_) (fun k e => by cases e; exact (h.mb.box _ hm).2), fun s hs => ?_, fun s hs p hp => h.far s hs p (hsub.subset hp), h.apart, fun s hs => ?_, fun s hs p hp => h.hfar s hs p (hsub.subset hp), h.hap⟩
 ·have e : g = p.1 := by simpa using e
  rcases List.mem_append.1 hp with q | q
  ·exact hd.2.2 p q _ (List.mem_cons_self ..) e.symm
  ·exact (List.pairwise_cons.1 hd.2.1).1 p q e
 ·obtain ⟨h1, h2, h3⟩ := h.ans s hs
  have hf := h.far s hs _ hm
  dsimp only at hf
  exact ⟨h1.turned ht (by omega), h2, Nat.le_trans h3 ht.size⟩
 ·obtain ⟨h1, h3⟩ := h.held s hs
  have hf := h.hfar s hs _ hm
  dsimp only at hf
  exact ⟨h1.turned ht (by omega), Nat.le_trans h3 ht.size⟩
end
theorem all_fit (es : List EM) : ∀ {s : TM × Int}, NFit s.1 → NFit (es.foldl stepX s).1 := by
 induction es with
 | nil => intro s h; exact h
 | cons e es ih =>
  intro s h
  refine ih ?_
  unfold stepX
  split
  ·exact apply_fit h e s.2
  ·exact h
theorem mark_low (T : TM) (h : NFit T) : 0 < markK 1 T.nodes ∧ markK 1 T.nodes ≤ 100000000 := by
 have := markK_le 1 T.nodes
 unfold NFit at h
 omega
attribute [local go_sem ↓] Go.wp_at_zero Go.wp_at_succ
attribute [local irreducible] treeOk allX markK
set_option maxHeartbeats 16000000 in
theorem lawApplyAll {w : World} {v : Value} {T : TM} (la : Option Addr) (lc : Nat) (es : List EM) (gr : Int) (h : ∀ {w : World} {v : Value} {T : TM} {lo hi : Nat} (la : Option Addr) (lc : Nat) (es : List EM) (l1 l2 : Nat) (gr : Int), TSee w v T lo hi → NFit T → NInt T.nodes → RRow w la (ecs es) l1 l2 → (∀ e ∈ es, EFit e) → es.length ≤ 1048576 → Calls Tryz.prog 27 #[v, .slice la es.length lc, .int .i64 gr] w fun r w' => ApPost (allX T es gr) w r w') (hv : TSee w v T 0 w.heap.size) (lT : NOk T.nodes) (hI : NInt T.nodes) (hE : ERow w la es) (hf : ESFit es) :
  Calls Tryz.prog 10 #[v, .slice la es.length lc, .int .i64 gr] w fun r w' => r = .returned (.bool true) ∧ Below w.heap.size w w' := by
 have HSZ := Shut.mk (fun W left (hb : Below w.heap.size w W) h0 h1 => szEditS_any la es lc left W (hE.stays hb) hf h0 h1)
 have HTE := Shut.mk (fun W (hb : Below w.heap.size w W) hl => toEditS_any la es lc W (hE.stays hb) hf hl)
 have HEQ := Shut.mk (fun W g1 g2 (h1 : WCells W g1 (ecs es)) (h2 : WCells W g2 (ecs es)) hl => eqEditS_same (some ⟨g1, 0, none⟩) (some ⟨g2, 0, none⟩) es es.length es.length W h1.crow h2.crow hl)
 have HMK := Shut.mk (fun W g k (h1 : WCells W g (ecs es)) hk hn => markEditS_any g es k es.length W h1 hk hn (Nat.le_refl _))
 obtain ⟨a, cap, rs, rfl, hr, hm⟩ := id hv
 obtain ⟨n, hn⟩ : ∃ n, n = rs.length := ⟨_, rfl⟩
 obtain ⟨nx, hnx⟩ : ∃ nx, nx = T.next := ⟨_, rfl⟩
 rw [← hn, ← hnx] at hv ⊢
 have FV := Shut.mk hv
 have HNO := Shut.mk (And.intro lT hI)
 have HNX := Shut.mk hnx
 have HIM := Shut.mk (fun (W : World) (u : Value) (lo hi g : Nat) (q : TSee W u T lo hi) (hf : NFit T) (he : WCells W g (ecs es)) (h1 : ∀ e ∈ es, EFit e) (h2 : es.length ≤ 1048576) => h (some ⟨g, 0, none⟩) es.length es 0 W.heap.size gr q hf hI (RRow.of_wcells he (Nat.zero_le _) he.1) h1 h2)
 have HSP := Shut.mk (fun (W : World) (u : Value) (lo hi g : Nat) (q : TSee W u T lo hi) (hf : NFit T) (he : WCells W g (ecs es)) (h1 : ∀ e ∈ es, EFit e) (h2 : es.length ≤ 1048576) => specApplyAll (some ⟨g, 0, none⟩) es.length es 0 W.heap.size gr q hf (RRow.of_wcells he (Nat.zero_le _) he.1) h1 h2)
 have HFX := Shut.mk (fun (hf : NFit T) => show NFit (allX T es gr).1 from by unfold allX; exact all_fit es (s := (T, gr)) hf)
 have HES := Shut.mk (fun (e : EM) (he : e ∈ es) => esum_mem he)
 obtain ⟨XT, rc, hXX⟩ : ∃ XT rc, allX T es gr = (XT, rc) := ⟨_, _, rfl⟩
 rw [hXX] at HIM HSP HFX
 unfold ApPost at HIM HSP
 obtain ⟨tx, htx⟩ : ∃ tx, tx = XT.next := ⟨_, rfl⟩
 have HTX9 := Shut.mk htx
 obtain ⟨el, hel⟩ : ∃ el, el = es.length := ⟨_, rfl⟩
 rw [← hel] at HSZ HTE HEQ HMK HIM HSP ⊢
 obtain ⟨sm9, hsm9⟩ : ∃ s, s = esum es := ⟨_, rfl⟩
 rw [← hsm9] at HSZ HES
 unfold SzPostE at HSZ
 unfold ToPostE at HTE
 rw [← hel] at HTE
 unfold MarkEds at HMK
 clear hXX htx h hm hr hn hv lT hI hnx hf hE hel hsm9
 go_enter Tryz.func10, Tryz.ntmps10
 go_upto_region 1 with fail
 obtain ⟨tb, htb⟩ : ∃ tb, tb = w.heap.size := ⟨_, rfl⟩
 refine wp_shade (fun W => TL w W [(tb, [.slice a n cap, .int .i64 nx])] [] []) (by rw [htb]; exact TL.of ((MB.nil w).new #[.slice a n cap, .int .i64 nx] 56)) ?_
 intro W1 hW1
 have HT := Shut.mk hW1
 rw [← htb]
 clear hW1 htb
 have tb0 := ((HT.out.mb.at 0 rfl).1.2 0 _ rfl).1
 have tb1 := ((HT.out.mb.at 0 rfl).1.2 1 _ rfl).1
 go_upto_region 3 with (go_at_call 41; refine (szTree_val 1048576 (FV.out.below HT.out.bel) HNO.out.1 (by omega) (by omega)).mono ?_; rintro e w1 ⟨r0, rfl, r00, q1, hb⟩; replace HT := Shut.mk (HT.out.below hb); clear hb tb0 tb1)
 by_cases r0n : r0 < 0
 case pos =>
  clear q1 r00
  go_wp2_with fail
  go_ret
  exact ⟨rfl, HT.out.bel⟩
 have hq1 := q1 (by omega)
 have HF : Shut (NFit T) := ⟨by unfold NFit; omega⟩
 have r01 : r0 ≤ 1048576 := by omega
 clear q1 hq1 r00
 go_upto_region 6 with (go_at_call 48; refine (HSZ.out _ r0 HT.out.bel (by omega) r01).mono ?_; rintro e w2 ⟨q0, rfl, q00, q1, hb⟩; replace HT := Shut.mk (HT.out.below hb); clear hb)
 by_cases q0n : q0 < 0
 case pos =>
  clear q1 q00
  go_wp2_with fail
  go_ret
  exact ⟨rfl, HT.out.bel⟩
 have hq1 := q1 (by omega)
 have hel : el ≤ 1048576 := by omega
 have HEL := Shut.mk hel
 have HEF : Shut (∀ e ∈ es, EFit e) := ⟨fun e he => by have := HES.out e he; exact ⟨by omega, by omega⟩⟩
 clear q1 hq1 q00 HSZ HES
 go_upto_region 8 with fail
 clear r0n q0n r01
 have HXF := Shut.mk (HFX.out HF.out)
 clear HFX
 have hrr : (rc != rc) = false := by simp
 have tb0 := ((HT.out.mb.at 0 rfl).1.2 0 _ rfl).1
 have tb1 := ((HT.out.mb.at 0 rfl).1.2 1 _ rfl).1
 go_upto_region 9 with (first | (go_at_call 43; refine (toTree_val (FV.out.below HT.out.bel) HF.out).mono ?_; rintro e w3 ⟨u2, rfl, hA, hb⟩; obtain ⟨c1, m1, d1, rfl⟩ := tans_is hA; rw [← HNX.out] at hA ⊢; obtain ⟨lo1, hi1, h9⟩ := HT.out.call hA hb; replace HT := Shut.mk h9; clear hA hb h9 tb0 tb1) | (go_at_call 49; refine (HTE.out _ HT.out.bel HEL.out).mono ?_; rintro e w4 ⟨g1, rfl, hg, hw, hb⟩; replace HT := Shut.mk (HT.out.row hg hw hb); clear hg hw hb) | (go_at_call 29; refine (HSP.out _ _ _ _ g1 (HT.out.at 0 rfl).see HF.out (HT.out.mb.at 0 rfl).1 HEF.out HEL.out).mono ?_; rintro e w5 ⟨vv, rfl, hans, hb⟩; obtain ⟨c8, m8, d8, rfl⟩ := tans_is hans; rw [← HTX9.out] at hans ⊢; obtain ⟨lo8, hi8, h9⟩ := HT.out.call hans hb; replace HT := Shut.mk h9; clear hans hb h9 ))
 obtain ⟨b8, hb9⟩ : ∃ b, b = w5.heap.size := ⟨_, rfl⟩
 rw [← hb9]
 refine wp_shade (fun W => TL w W [(b8, [.slice c8 m8 d8, .int .i64 tx]), (g1, ecs es), (tb, [.slice a n cap, .int .i64 nx])] [(.agg #[.slice c8 m8 d8, .int .i64 tx], XT, lo8, hi8), (.agg #[.slice c1 m1 d1, .int .i64 nx], T, lo1, hi1)] []) (by rw [hb9]; exact HT.out.new #[.slice c8 m8 d8, .int .i64 tx] 26) ?_
 intro w6 hW9
 replace HT := Shut.mk hW9
 clear hW9
 clear hb9
 have tb0 := ((HT.out.mb.at 2 rfl).1.2 0 _ rfl).1
 have tb1 := ((HT.out.mb.at 2 rfl).1.2 1 _ rfl).1
 go_upto_region 10 with (go_at_call 43; refine (toTree_val (FV.out.below HT.out.bel) HF.out).mono ?_; rintro e w7 ⟨u2, rfl, hA, hb⟩; obtain ⟨c2, m2, d2, rfl⟩ := tans_is hA; rw [← HNX.out] at hA ⊢; obtain ⟨lo2, hi2, h9⟩ := HT.out.call hA hb; replace HT := Shut.mk h9; clear hA hb h9 tb0 tb1)
 obtain ⟨b2, hb9⟩ : ∃ b, b = w7.heap.size := ⟨_, rfl⟩
 rw [← hb9]
 refine wp_shade (fun W => TL w W [(b2, [.slice c2 m2 d2, .int .i64 nx]), (b8, [.slice c8 m8 d8, .int .i64 tx]), (g1, ecs es), (tb, [.slice a n cap, .int .i64 nx])] [(.agg #[.slice c2 m2 d2, .int .i64 nx], T, lo2, hi2), (.agg #[.slice c8 m8 d8, .int .i64 tx], XT, lo8, hi8), (.agg #[.slice c1 m1 d1, .int .i64 nx], T, lo1, hi1)] []) (by rw [hb9]; exact HT.out.new #[.slice c2 m2 d2, .int .i64 nx] 26) ?_
 intro w8 hW9
 replace HT := Shut.mk hW9
 clear hW9
 clear hb9
 go_upto_region 11 with (go_at_call 49; refine (HTE.out _ HT.out.bel HEL.out).mono ?_; rintro e w9 ⟨g2, rfl, hg, hw, hb⟩; replace HT := Shut.mk (HT.out.row hg hw hb); clear hg hw hb)
 have b20 := ((HT.out.mb.at 1 rfl).1.2 0 _ rfl).1
 have b21 := ((HT.out.mb.at 1 rfl).1.2 1 _ rfl).1
 go_upto_region 12 with (go_at_call 27; refine (HIM.out _ _ _ _ g2 (HT.out.at 0 rfl).see HF.out (HT.out.mb.at 0 rfl).1 HEF.out HEL.out).mono ?_; rintro e w10 ⟨vv, rfl, hans, hb⟩; obtain ⟨c9, m9, d9, rfl⟩ := tans_is hans; rw [← HTX9.out] at hans ⊢; obtain ⟨lo9, hi9, h9⟩ := HT.out.call hans hb; replace HT := Shut.mk h9; clear hans hb h9 b20 b21)
 obtain ⟨b9, hb9⟩ : ∃ b, b = w10.heap.size := ⟨_, rfl⟩
 rw [← hb9]
 refine wp_shade (fun W => TL w W [(b9, [.slice c9 m9 d9, .int .i64 tx]), (g2, ecs es), (b2, [.slice c2 m2 d2, .int .i64 nx]), (b8, [.slice c8 m8 d8, .int .i64 tx]), (g1, ecs es), (tb, [.slice a n cap, .int .i64 nx])] [(.agg #[.slice c9 m9 d9, .int .i64 tx], XT, lo9, hi9), (.agg #[.slice c2 m2 d2, .int .i64 nx], T, lo2, hi2), (.agg #[.slice c8 m8 d8, .int .i64 tx], XT, lo8, hi8), (.agg #[.slice c1 m1 d1, .int .i64 nx], T, lo1, hi1)] []) (by rw [hb9]; exact HT.out.new #[.slice c9 m9 d9, .int .i64 tx] 26) ?_
 intro w11 hW9
 replace HT := Shut.mk hW9
 clear hW9
 clear hb9
 have b90 := ((HT.out.mb.at 0 rfl).1.2 0 _ rfl).1
 have b91 := ((HT.out.mb.at 0 rfl).1.2 1 _ rfl).1
 have b80 := ((HT.out.mb.at 3 rfl).1.2 0 _ rfl).1
 have b81 := ((HT.out.mb.at 3 rfl).1.2 1 _ rfl).1
 go_upto_region 14 with (go_at_call 45; refine (eqTree_val (HT.out.at 0 rfl).see (HT.out.at 2 rfl).see HXF.out).mono ?_; rintro e w12 ⟨rfl, hb⟩; replace HT := Shut.mk (HT.out.below hb); clear hb b90 b91 b80 b81)
 have HTX : Shut (∀ x, Later w12.drew x → TL w x [(b9, [.slice c9 m9 d9, .int .i64 tx]), (g2, ecs es), (b2, [.slice c2 m2 d2, .int .i64 nx]), (b8, [.slice c8 m8 d8, .int .i64 tx]), (g1, ecs es), (tb, [.slice a n cap, .int .i64 nx])] [(.agg #[.slice c9 m9 d9, .int .i64 tx], XT, lo9, hi9), (.agg #[.slice c2 m2 d2, .int .i64 nx], T, lo2, hi2), (.agg #[.slice c8 m8 d8, .int .i64 tx], XT, lo8, hi8), (.agg #[.slice c1 m1 d1, .int .i64 nx], T, lo1, hi1)] []) := ⟨fun x hx => HT.out.below (Below.trans (Below.drew (Below.refl _ _)) hx)⟩
 have HLE : Shut (∀ x, Later w12.drew x → x.cell? ⟨b2, 0, none⟩ = some (.slice c2 m2 d2) ∧ x.cell? ⟨b2, 1, none⟩ = some (.int .i64 nx) ∧ x.cell? ⟨tb, 0, none⟩ = some (.slice a n cap) ∧ x.cell? ⟨tb, 1, none⟩ = some (.int .i64 nx)) := ⟨fun x hx => by
  have M := (HTX.out x hx).mb
  exact ⟨((M.at 2 rfl).1.2 0 _ rfl).1, ((M.at 2 rfl).1.2 1 _ rfl).1, ((M.at 5 rfl).1.2 0 _ rfl).1, ((M.at 5 rfl).1.2 1 _ rfl).1⟩⟩
 refine wp_region_tail 5 (by kernel_rfl) ?_
 refine wpK_val (i := 0) (v := ?vc0) rfl (by kernel_rfl) (by kernel_rfl) (by kernel_rfl) (by kernel_rfl) (fun _ _ _ h => h) (by rfl) ?hyc0 ?restc0
 case hyc0 => (intro x hx; obtain ⟨d0, d1, d2, d3⟩ := HLE.out x hx; go_simp; try with_reducible rfl)
 try simp only [Act.put, qA, qB, qC]
 refine wpK_val (i := 1) (v := ?vc1) rfl (by kernel_rfl) (by kernel_rfl) (by kernel_rfl) (by kernel_rfl) (fun _ _ _ h => h) (by rfl) ?hyc1 ?restc1
 case hyc1 => (intro x hx; obtain ⟨d0, d1, d2, d3⟩ := HLE.out x hx; go_simp; try with_reducible rfl)
 try simp only [Act.put, qA, qB, qC]
 refine wpK_onecall (f := 43) (args := #[.agg #[.slice a n cap, .int .i64 nx]]) (i := 2) (by kernel_rfl) rfl (by rfl) (fun x hx => by go_simp) (fun x hx => (toTree_val (FV.out.below (HTX.out x hx).bel) HF.out).mono ?_)
 rintro e y ⟨u1, rfl, hA, hby⟩
 refine ⟨_, rfl, hby, ?_⟩
 obtain ⟨c7, m7, d7, rfl⟩ := tans_is hA
 have T1 := Shut.mk ((HTX.out x hx).below hby)
 have SE1 := Shut.mk hA.see
 clear hA hby hx
 try simp only [Act.put, qA, qB, qC]
 refine wpK_call (i := 3) (v := .bool true) (f := 45) (args := #[.agg #[.slice c2 m2 d2, .int .i64 nx], .agg #[.slice c7 m7 d7, .int .i64 T.next]]) rfl (by kernel_rfl) (by kernel_rfl) (by kernel_rfl) (by kernel_rfl) (fun _ _ _ h => h) (by rfl) (fun x hx => by go_simp; try with_reducible rfl) (fun x hx => eqTree_val ((T1.out.below hx).at 1 rfl).see (SE1.out.below hx) HF.out) ?_
 try simp only [Act.put, qA, qB, qC]
 refine wpK_val (i := 4) (v := ?vk1) rfl (by kernel_rfl) (by kernel_rfl) (by kernel_rfl) (by kernel_rfl) (fun _ _ _ h => h) (by rfl) ?hyk1 ?restk1
 case hyk1 => (intro x hx; go_simp; try with_reducible rfl)
 try simp only [Act.put, qA, qB, qC]
 refine wpK_done (by kernel_rfl) ?_ _
 intro w13 hy9
 have T9 := Shut.mk (T1.out.below hy9)
 clear hy9 HTX HLE HT T1 SE1
 have HT := T9
 clear T9
 go_upto_region 16 with fail
 go_upto_region 18 with (first | (go_at_call 49; refine (HTE.out _ HT.out.bel HEL.out).mono ?_; rintro e w14 ⟨g3, rfl, hg, hw, hb⟩; replace HT := Shut.mk (HT.out.row hg hw hb); clear hg hw hb) | (go_at_call 50; refine (HEQ.out _ g2 g3 (HT.out.mb.at 2 rfl).1 (HT.out.mb.at 0 rfl).1 HEL.out).mono ?_; rintro e w15 ⟨rfl, hb⟩; replace HT := Shut.mk (HT.out.below hb); clear hb))
 have HML := Shut.mk (mark_low T HF.out)
 obtain ⟨K1, hK1⟩ : ∃ K, K = markK 1 T.nodes := ⟨_, rfl⟩
 obtain ⟨K2, hK2⟩ : ∃ K, K = markK 1 XT.nodes := ⟨_, rfl⟩
 have HM1 := Shut.mk (fun (W : World) (u : Value) (lo hi : Nat) (q : TAns W u T lo hi) => markTree_val 1 q HF.out (by omega) (by omega))
 have HM2 := Shut.mk (fun (W : World) (u : Value) (lo hi : Nat) (q : TAns W u XT lo hi) => markTree_val 1 q HXF.out (by omega) (by omega))
 have HH2 := Shut.mk (fun (W : World) (u : Value) (lo hi : Nat) (q : THeld W u 1 XT lo hi) => heldTree_val q HXF.out (by omega) (by omega))
 rw [← hK1] at HM1 HML
 rw [← hK2] at HM2 HH2
 clear hK1 hK2
 have k10 : ¬ (K1 : Int) < 0 := by omega
 have k20 : ¬ (K2 : Int) < 0 := by omega
 have k11 : decide ((K1 : Int) < 0) = false := by simp
 have k21 : decide ((K2 : Int) < 0) = false := by simp
 have k22 : ((K2 : Int) != (K2 : Int)) = false := by simp
 have b20 := ((HT.out.mb.at 3 rfl).1.2 0 _ rfl).1
 have b21 := ((HT.out.mb.at 3 rfl).1.2 1 _ rfl).1
 go_upto_region 20 with (go_at_call 46; refine (HM1.out _ _ _ _ (HT.out.at 1 rfl)).mono ?_; rintro e w16 ⟨rfl, hH, ht⟩; replace HT := Shut.mk (TL.mark [(.agg #[.slice c9 m9 d9, .int .i64 tx], XT, lo9, hi9)] [(.agg #[.slice c8 m8 d8, .int .i64 tx], XT, lo8, hi8), (.agg #[.slice c1 m1 d1, .int .i64 nx], T, lo1, hi1)] HT.out hH ht); clear hH ht b20 b21)
 replace HT : Shut (TL w w16 [(g3, ecs es), (b9, [.slice c9 m9 d9, .int .i64 tx]), (g2, ecs es), (b2, [.slice c2 m2 d2, .int .i64 nx]), (b8, [.slice c8 m8 d8, .int .i64 tx]), (g1, ecs es), (tb, [.slice a n cap, .int .i64 nx])] [(.agg #[.slice c9 m9 d9, .int .i64 tx], XT, lo9, hi9), (.agg #[.slice c8 m8 d8, .int .i64 tx], XT, lo8, hi8), (.agg #[.slice c1 m1 d1, .int .i64 nx], T, lo1, hi1)] [(.agg #[.slice c2 m2 d2, .int .i64 nx], T, lo2, hi2)]) := HT
 have k50 : ¬ ((K1 + 5 * el : Nat) : Int) < 0 := by omega
 have k51 : decide (((K1 + 5 * el : Nat) : Int) < 0) = false := by simp; omega
 have HMK2 := Shut.mk (fun (W : World) (h1 : WCells W g2 (ecs es)) => HMK.out W g2 K1 h1 HML.out.1 (by have := HML.out.2; have := HEL.out; omega))
 generalize K1 + 5 * el = K5 at HMK2 k50 k51
 clear HMK
 go_upto_region 21 with (go_at_call 51; refine (HMK2.out _ (HT.out.mb.at 2 rfl).1).mono ?_; rintro e w17 ⟨rfl, hg⟩; replace HT := Shut.mk (TL.turn [(g3, ecs es), (b9, [.slice c9 m9 d9, .int .i64 tx])] [(b2, [.slice c2 m2 d2, .int .i64 nx]), (b8, [.slice c8 m8 d8, .int .i64 tx]), (g1, ecs es), (tb, [.slice a n cap, .int .i64 nx])] HT.out hg); clear hg)
 replace HT : Shut (TL w w17 [(g3, ecs es), (b9, [.slice c9 m9 d9, .int .i64 tx]), (b2, [.slice c2 m2 d2, .int .i64 nx]), (b8, [.slice c8 m8 d8, .int .i64 tx]), (g1, ecs es), (tb, [.slice a n cap, .int .i64 nx])] [(.agg #[.slice c9 m9 d9, .int .i64 tx], XT, lo9, hi9), (.agg #[.slice c8 m8 d8, .int .i64 tx], XT, lo8, hi8), (.agg #[.slice c1 m1 d1, .int .i64 nx], T, lo1, hi1)] [(.agg #[.slice c2 m2 d2, .int .i64 nx], T, lo2, hi2)]) := HT
 have b90 := ((HT.out.mb.at 1 rfl).1.2 0 _ rfl).1
 have b91 := ((HT.out.mb.at 1 rfl).1.2 1 _ rfl).1
 have b80 := ((HT.out.mb.at 3 rfl).1.2 0 _ rfl).1
 have b81 := ((HT.out.mb.at 3 rfl).1.2 1 _ rfl).1
 go_upto_region 23 with (go_at_call 45; refine (eqTree_val (HT.out.at 0 rfl).see (HT.out.at 1 rfl).see HXF.out).mono ?_; rintro e w18 ⟨rfl, hb⟩; replace HT := Shut.mk (HT.out.below hb); clear hb b90 b91 b80 b81)
 have b90 := ((HT.out.mb.at 1 rfl).1.2 0 _ rfl).1
 have b91 := ((HT.out.mb.at 1 rfl).1.2 1 _ rfl).1
 go_upto_region 25 with (go_at_call 46; refine (HM2.out _ _ _ _ (HT.out.at 0 rfl)).mono ?_; rintro e w19 ⟨rfl, hH, ht⟩; replace HT := Shut.mk (TL.mark [] [(.agg #[.slice c8 m8 d8, .int .i64 tx], XT, lo8, hi8), (.agg #[.slice c1 m1 d1, .int .i64 nx], T, lo1, hi1)] HT.out hH ht); clear hH ht b90 b91)
 replace HT : Shut (TL w w19 [(g3, ecs es), (b9, [.slice c9 m9 d9, .int .i64 tx]), (b2, [.slice c2 m2 d2, .int .i64 nx]), (b8, [.slice c8 m8 d8, .int .i64 tx]), (g1, ecs es), (tb, [.slice a n cap, .int .i64 nx])] [(.agg #[.slice c8 m8 d8, .int .i64 tx], XT, lo8, hi8), (.agg #[.slice c1 m1 d1, .int .i64 nx], T, lo1, hi1)] [(.agg #[.slice c9 m9 d9, .int .i64 tx], XT, lo9, hi9), (.agg #[.slice c2 m2 d2, .int .i64 nx], T, lo2, hi2)]) := HT
 have b90 := ((HT.out.mb.at 1 rfl).1.2 0 _ rfl).1
 have b91 := ((HT.out.mb.at 1 rfl).1.2 1 _ rfl).1
 go_upto_region 31 with (go_at_call 47; refine (HH2.out _ _ _ _ (HT.out.hat 0 rfl)).mono ?_; rintro e w20 ⟨rfl, hb⟩; replace HT := Shut.mk (HT.out.below hb); clear hb b90 b91)
 have tb0 := ((HT.out.mb.at 5 rfl).1.2 0 _ rfl).1
 have tb1 := ((HT.out.mb.at 5 rfl).1.2 1 _ rfl).1
 go_upto_region 32 with (first | (go_at_call 43; refine (toTree_val (FV.out.below HT.out.bel) HF.out).mono ?_; rintro e w21 ⟨u2, rfl, hA, hb⟩; obtain ⟨c4, m4, d4, rfl⟩ := tans_is hA; rw [← HNX.out] at hA ⊢; obtain ⟨lo4, hi4, h9⟩ := HT.out.call hA hb; replace HT := Shut.mk h9; clear hA hb h9 tb0 tb1) | (go_at_call 49; refine (HTE.out _ HT.out.bel HEL.out).mono ?_; rintro e w22 ⟨g4, rfl, hg, hw, hb⟩; replace HT := Shut.mk (HT.out.row hg hw hb); clear hg hw hb) | (go_at_call 27; refine (HIM.out _ _ _ _ g4 (HT.out.at 0 rfl).see HF.out (HT.out.mb.at 0 rfl).1 HEF.out HEL.out).mono ?_; rintro e w23 ⟨vv, rfl, hans, hb⟩; obtain ⟨c5, m5, d5, rfl⟩ := tans_is hans; rw [← HTX9.out] at hans ⊢; obtain ⟨lo5, hi5, h9⟩ := HT.out.call hans hb; replace HT := Shut.mk h9; clear hans hb h9 ))
 obtain ⟨b5, hb9⟩ : ∃ b, b = w23.heap.size := ⟨_, rfl⟩
 rw [← hb9]
 refine wp_shade (fun W => TL w W [(b5, [.slice c5 m5 d5, .int .i64 tx]), (g4, ecs es), (g3, ecs es), (b9, [.slice c9 m9 d9, .int .i64 tx]), (b2, [.slice c2 m2 d2, .int .i64 nx]), (b8, [.slice c8 m8 d8, .int .i64 tx]), (g1, ecs es), (tb, [.slice a n cap, .int .i64 nx])] [(.agg #[.slice c5 m5 d5, .int .i64 tx], XT, lo5, hi5), (.agg #[.slice c4 m4 d4, .int .i64 nx], T, lo4, hi4), (.agg #[.slice c8 m8 d8, .int .i64 tx], XT, lo8, hi8), (.agg #[.slice c1 m1 d1, .int .i64 nx], T, lo1, hi1)] [(.agg #[.slice c9 m9 d9, .int .i64 tx], XT, lo9, hi9), (.agg #[.slice c2 m2 d2, .int .i64 nx], T, lo2, hi2)]) (by rw [hb9]; exact HT.out.new #[.slice c5 m5 d5, .int .i64 tx] 26) ?_
 intro w24 hW9
 replace HT := Shut.mk hW9
 clear hW9
 clear hb9
 have b50 := ((HT.out.mb.at 0 rfl).1.2 0 _ rfl).1
 have b51 := ((HT.out.mb.at 0 rfl).1.2 1 _ rfl).1
 have b80 := ((HT.out.mb.at 5 rfl).1.2 0 _ rfl).1
 have b81 := ((HT.out.mb.at 5 rfl).1.2 1 _ rfl).1
 go_upto_region 34 with (go_at_call 45; refine (eqTree_val (HT.out.at 0 rfl).see (HT.out.at 2 rfl).see HXF.out).mono ?_; rintro e w25 ⟨rfl, hb⟩; replace HT := Shut.mk (HT.out.below hb); clear hb b50 b51 b80 b81)
 have b90 := ((HT.out.mb.at 3 rfl).1.2 0 _ rfl).1
 have b91 := ((HT.out.mb.at 3 rfl).1.2 1 _ rfl).1
 go_wp2_with (go_at_call 47; refine (HH2.out _ _ _ _ (HT.out.hat 0 rfl)).mono ?_; rintro e w26 ⟨rfl, hb⟩; replace HT := Shut.mk (HT.out.below hb); clear hb b90 b91)
 go_ret
 exact ⟨rfl, HT.out.bel⟩
end Go.Proofs.YtakhagkhngmpaaaGreat
