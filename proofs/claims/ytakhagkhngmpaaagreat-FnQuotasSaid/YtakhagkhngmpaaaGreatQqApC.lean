/- Texts of ours, laid one behind the other: ApC. -/
import Derived.Test.YtakhagkhngmpaaaGreatQqApB
import Derived.Test.YtakhagkhngmpaaaGreatQq5
import Derived.Deep.RegionHeld3
/- ApC: . -/
namespace Go.Proofs.YtakhagkhngmpaaaGreat
set_option maxRecDepth 100000
open Go.RowKit BigFrame
attribute [local go_sem ↓] Go.wp_at_zero Go.wp_at_succ
set_option maxHeartbeats 4000000 in
theorem specMove {w : World} {v : Value} {T : TM} {lo hi : Nat} (e : EM) (id : Int) (k : Nat) (h : TSee w v T lo hi) (hf : NFit T) (hp : e.dest.size ≤ 1048576) (hk : k < T.nodes.length) (hid : atI T.nodes id = (k : Int)) (hfm : NFit (moveT T e.dest id)) : Calls Tryz.prog 64 #[v, ev e, .int .i64 id] w fun r w' => ApPost (moveX T e.dest id) w r w' := by
 have hl : T.nodes.length ≤ 1048576 := by unfold NFit at hf; omega
 have HU := Shut.mk (fun (W : World) (hb : Below w.heap.size w W) => specFindPath (parentB e.dest).1 (h.below hb) hf (Nat.le_trans (parent_small e.dest).1 (by omega)))
 have HF := Shut.mk (fun (W : World) (hb : Below w.heap.size w W) => specFindPath e.dest (h.below hb) hf hp)
 have HAT := Shut.mk (fun (i : Int) (W : World) (hb : Below w.heap.size w W) => specAt i (h.below hb) hl)
 have HBL := Shut.mk (fun (i j : Int) (W : World) (hb : Below w.heap.size w W) => specBelow i j (h.below hb) hf)
 have HPP := Shut.mk (fun (W : World) => specParentPath e.dest W hp)
 unfold ParPost at HPP
 have HCP := Shut.mk (fun (W : World) (n : Nat) (hn : n = T.nodes.length) (hb : Below w.heap.size w W) => specCopyN (h.below hb) hf hn)
 have hft := @find_there T (parentB e.dest).1
 have HX : Shut (moveX T e.dest id = if upX T e.dest = 0 then (T, 1) else if (ndAt T (plc T (upX T e.dest))).dir = false then (T, 3) else if findX T e.dest ≠ 0 then (T, 2) else if belowF T.nodes 15 (upX T e.dest) id = true then (T, 7) else if treeOk (moveT T e.dest id) = false then (T, 8) else (moveT T e.dest id, 0)) := ⟨rfl⟩
 have HMT : Shut (moveT T e.dest id = setN T k { ndAt T k with parent := upX T e.dest, name := (parentB e.dest).2.1 }) := ⟨by unfold moveT plc; rw [hid]; rfl⟩
 have HFM := Shut.mk hfm
 have HUP : Shut (upX T e.dest = findX T (parentB e.dest).1) := ⟨rfl⟩
 rw [← HUP.out] at hft
 simp only [← HUP.out] at HU
 generalize moveX T e.dest id = R at HX ⊢
 obtain ⟨TO, hTO⟩ : ∃ q, q = moveT T e.dest id := ⟨_, rfl⟩
 rw [← hTO] at HX HMT HFM
 generalize upX T e.dest = up at HU HX HMT hft
 generalize findX T e.dest = f2 at HF HX
 clear hTO hfm HUP
 obtain ⟨a, cap, rs, rfl, hr, hm⟩ := h
 obtain ⟨nodes, nx⟩ := T
 dsimp only at *
 subst hr
 have hkr : k < rs.length := by rw [nds_len] at hk; exact hk
 obtain ⟨b, off, rfl, lb, -⟩ := see_at hm k hkr
 have HALL : Shut (∀ j (hj : j < rs.length), NAt w b (off + j * 9) rs[j]) := ⟨fun j hj => by
  obtain ⟨b', off', e', -, hc⟩ := TR.nat hm (by omega)
  cases e'
  exact hc j hj⟩
 have HRE : Shut (∃ r, rs[k]? = some r) := ⟨rs[k], by simp [hkr]⟩
 obtain ⟨n, hn⟩ : ∃ n, n = rs.length := ⟨_, rfl⟩
 have hkn : k < n := by omega
 have hn' : n ≤ 1048576 := by rw [nds_len] at hl; omega
 rw [← hn] at HU HF HAT HBL HCP ⊢
 have HN := Shut.mk hn
 have HID := Shut.mk hid
 have HFT := Shut.mk hft
 clear hk hn hm hf hl hkr hp hid hft
 obtain ⟨kind, path, dest, num, who⟩ := e
 dsimp only at *
 obtain ⟨P1, hP1⟩ : ∃ q, q = (parentB dest).1 := ⟨_, rfl⟩
 obtain ⟨nm, hnm⟩ : ∃ q, q = (parentB dest).2.1 := ⟨_, rfl⟩
 obtain ⟨okp, hokp⟩ : ∃ q, q = (parentB dest).2.2 := ⟨_, rfl⟩
 rw [← hP1, ← hnm, ← hokp] at HPP
 rw [← hP1] at HU
 rw [← hnm] at HMT
 clear hP1 hnm hokp
 have k0 : (0 : Int) ≤ (k : Int) := by omega
 have k1 : (k : Int) < (n : Int) := by omega
 go_enter Tryz.func64, Tryz.ntmps64
 go_upto_region 1 with fail
 refine wp_shade (fun W => MB w W [(w.heap.size + 1 + 1, [.slice none 0 0, .int .i64 0]), (w.heap.size + 1, ecells ⟨kind, path, dest, num, who⟩), (w.heap.size, [.slice (some ⟨b, off, none⟩) n cap, .int .i64 nx])]) (MB.three w _ _ _ _ _ _) ?_
 intro W0 hM
 have HM := Shut.mk hM
 clear hM
 have x0 := ((HM.out.at 2 rfl).1.2 0 _ rfl).1
 have x1 := ((HM.out.at 2 rfl).1.2 1 _ rfl).1
 have hsw := Shut.mk (HM.out.at 0 rfl).1.1
 have hsw0 := Shut.mk HM.out.bel.size
 have HC := Shut.mk (HCP.out W0 n (by rw [nds_len]; exact HN.out) HM.out.bel)
 go_upto_region 2 with (go_at_call 62; refine HC.out.mono ?_; rintro e w1 ⟨a2, cap2, rs2, rfl, hl2, hr2, hnb, hb1⟩; have HR2 := Shut.mk (And.intro hl2 hr2); have HNB := Shut.mk hnb; replace HM := Shut.mk (HM.out.below hb1); have HB1 := Shut.mk hb1; clear hl2 hr2 hnb hb1 x0 x1)
 obtain ⟨g2, rfl, hg2, hg2', -⟩ := HNB.out.blk HR2.out.1 (by omega)
 clear hg2 hg2'
 refine wp_shade (fun W => MB w W [(w1.heap.size, [.slice (some ⟨g2, 0, none⟩) n cap2, .int .i64 nx]), (w.heap.size + 1 + 1, [.slice none 0 0, .int .i64 0]), (w.heap.size + 1, ecells ⟨kind, path, dest, num, who⟩), (w.heap.size, [.slice (some ⟨b, off, none⟩) n cap, .int .i64 nx])] ∧ NB W W0.heap.size (.slice (some ⟨g2, 0, none⟩) n cap2) rs2) ⟨HM.out.new _ _, HNB.out.below ((Below.refl _ _).alloc (Nat.le_refl _) _)⟩ ?_
 rintro W1 ⟨hM1, hN1⟩
 have HM1 := Shut.mk hM1
 have HN1 := Shut.mk hN1
 clear hM1 hN1 HM HNB HC
 have x0 := ((HM1.out.at 3 rfl).1.2 0 _ rfl).1
 have x1 := ((HM1.out.at 3 rfl).1.2 1 _ rfl).1
 have y2 := ((HM1.out.at 2 rfl).1.2 2 _ rfl).1
 obtain ⟨z0, zf0⟩ := (HM1.out.at 0 rfl).1.2 0 _ rfl
 obtain ⟨z1, zf1⟩ := (HM1.out.at 0 rfl).1.2 1 _ rfl
 obtain ⟨q0, qf0⟩ := (HM1.out.at 1 rfl).1.2 0 _ rfl
 obtain ⟨q1, qf1⟩ := (HM1.out.at 1 rfl).1.2 1 _ rfl
 dsimp only at y2
 go_upto_region 4 with (first
  | (go_at_call 112; refine (HPP.out _).mono ?_; rintro e w2 ⟨rfl, hb2⟩; replace HM1 := Shut.mk (HM1.out.below hb2); replace HN1 := Shut.mk (HN1.out.below hb2); clear x0 x1 y2 z0 zf0 z1 zf1 q0 qf0 q1 qf1 hb2; have x0 := ((HM1.out.at 3 rfl).1.2 0 _ rfl).1; have x1 := ((HM1.out.at 3 rfl).1.2 1 _ rfl).1; have y2 := ((HM1.out.at 2 rfl).1.2 2 _ rfl).1; obtain ⟨z0, zf0⟩ := (HM1.out.at 0 rfl).1.2 0 _ rfl; obtain ⟨z1, zf1⟩ := (HM1.out.at 0 rfl).1.2 1 _ rfl; obtain ⟨q0, qf0⟩ := (HM1.out.at 1 rfl).1.2 0 _ rfl; obtain ⟨q1, qf1⟩ := (HM1.out.at 1 rfl).1.2 1 _ rfl; dsimp only at y2)
  | (go_at_call 20; refine (HU.out _ HM1.out.bel).mono ?_; rintro e w3 ⟨rfl, hb3⟩; replace HM1 := Shut.mk (HM1.out.below hb3); replace HN1 := Shut.mk (HN1.out.below hb3); clear x0 x1 y2 z0 zf0 z1 zf1 q0 qf0 q1 qf1 hb3; have x0 := ((HM1.out.at 3 rfl).1.2 0 _ rfl).1; have x1 := ((HM1.out.at 3 rfl).1.2 1 _ rfl).1; have y2 := ((HM1.out.at 2 rfl).1.2 2 _ rfl).1; obtain ⟨z0, zf0⟩ := (HM1.out.at 0 rfl).1.2 0 _ rfl; obtain ⟨z1, zf1⟩ := (HM1.out.at 0 rfl).1.2 1 _ rfl; obtain ⟨q0, qf0⟩ := (HM1.out.at 1 rfl).1.2 0 _ rfl; obtain ⟨q1, qf1⟩ := (HM1.out.at 1 rfl).1.2 1 _ rfl; dsimp only at y2))
 by_cases hup : up = 0
 ·have b0 : (up == 0) = true := by simp [hup]
  have HXX : Shut (R = (⟨nds rs, nx⟩, 1)) := ⟨by rw [HX.out, if_pos hup]⟩
  clear hup
  go_wp2_with fail
  refine body_shade (fun W => FinT w W (w.heap.size + 1 + 1) (.slice (some ⟨g2, 0, none⟩) n cap2) nx ⟨nds rs, nx⟩) (TAns.fin9 ((HM1.out.put 1 rfl 0 _ (by simp)).put 1 rfl 1 _ (by simp)) 1 rfl ((HN1.out.setBox _ 0 _ hsw.out).setBox _ 1 _ hsw.out) HR2.out.2 hsw0.out) ?_
  rintro W8 ⟨r0, r1, hans, hbel⟩
  refine bodyPost_ret (v := .tuple #[.agg #[.slice (some ⟨g2, 0, none⟩) n cap2, .int .i64 nx], .int .i64 1]) (by simp [results, Tryz.results64, go_sem, r0, r1]) rfl ⟨_, by rw [HXX.out], by rw [HXX.out]; exact hans, hbel⟩
 have b0 : (up == 0) = false := by simp [hup]
 obtain ⟨ku, hku, hau, -⟩ := HFT.out hup
 have hkur : ku < rs.length := by rw [nds_len] at hku; exact hku
 have HAU : Shut (atI (nds rs) up = (ku : Int)) := ⟨hau⟩
 have HNU := Shut.mk (HALL.out ku hkur)
 have HDU : Shut ((ndAt ⟨nds rs, nx⟩ (plc ⟨nds rs, nx⟩ up)).dir = (rs[ku]).nd.dir) := ⟨by
  have e1 : plc ⟨nds rs, nx⟩ up = ku := by unfold plc; dsimp only; rw [hau]; rfl
  rw [e1]
  simp [ndAt, nds, List.getD, hkur]⟩
 obtain ⟨ru, hru⟩ : ∃ r, r = rs[ku] := ⟨_, rfl⟩
 rw [← hru] at HNU HDU
 have hkun : ku < n := by have := HN.out; omega
 clear hru hau hku hkur
 obtain ⟨du, hdu⟩ : ∃ d, d = ru.nd.dir := ⟨_, rfl⟩
 rw [← hdu] at HDU
 have HDD := Shut.mk hdu
 clear hdu
 have HX2 : Shut (R = if du = false then (⟨nds rs, nx⟩, 3) else if f2 ≠ 0 then (⟨nds rs, nx⟩, 2) else if belowF (nds rs) 15 up id = true then (⟨nds rs, nx⟩, 7) else if treeOk TO = false then (⟨nds rs, nx⟩, 8) else (TO, 0)) := ⟨by rw [HX.out, if_neg hup, HDU.out]⟩
 have ku0 : (0 : Int) ≤ (ku : Int) := by omega
 have ku1 : (ku : Int) < (n : Int) := by omega
 clear hup HX HDU
 go_upto_region 6 with fail
 have HLE : Shut (∀ x, Later w3.drew x → x.cell? ⟨w.heap.size, 0, none⟩ = some (.slice (some ⟨b, off, none⟩) n cap) ∧ x.cell? ⟨w.heap.size, 1, none⟩ = some (.int .i64 nx) ∧ x.cell? ⟨b, off + ku * 9 + 3, none⟩ = some (.bool du)) := ⟨fun x hx => by
  have hb : Below w3.heap.size w3 x := Below.trans (Below.drew (Below.refl _ _)) hx
  have M := HM1.out.below hb
  obtain ⟨-, -, -, c3, -⟩ := HNU.out.below M.bel lb
  rw [← HDD.out] at c3
  exact ⟨((M.at 3 rfl).1.2 0 _ rfl).1, ((M.at 3 rfl).1.2 1 _ rfl).1, c3⟩⟩
 have HBX : Shut (∀ x, Later w3.drew x → Below w.heap.size w x) := ⟨fun x hx => HM1.out.bel.trans ((Below.trans (Below.drew (Below.refl _ _)) hx : Below w3.heap.size w3 x).mono HM1.out.bel.size)⟩
 have HA2 := Shut.mk (fun (x : World) (hx : Below w.heap.size w x) => HAT.out up x hx)
 rw [HAU.out] at HA2
 refine wp_region_later (by kernel_rfl) ?_
 refine wpL_val (i := 0) (v := ?va0) rfl (by kernel_rfl) (by kernel_rfl) (by kernel_rfl) (fun _ _ _ h => h) (by rfl) ?hya0 ?resta0
 case hya0 => (intro x hx; obtain ⟨d0, d1, d2⟩ := HLE.out x hx; go_simp; try with_reducible rfl)
 try simp only [Act.put, qA, qB, qC]
 refine wpL_val (i := 1) (v := ?va1) rfl (by kernel_rfl) (by kernel_rfl) (by kernel_rfl) (fun _ _ _ h => h) (by rfl) ?hya1 ?resta1
 case hya1 => (intro x hx; obtain ⟨d0, d1, d2⟩ := HLE.out x hx; go_simp; try with_reducible rfl)
 try simp only [Act.put, qA, qB, qC]
 refine wpL_val (i := 2) (v := ?va2) rfl (by kernel_rfl) (by kernel_rfl) (by kernel_rfl) (fun _ _ _ h => h) (by rfl) ?hya2 ?resta2
 case hya2 => (intro x hx; obtain ⟨d0, d1, d2⟩ := HLE.out x hx; go_simp; try with_reducible rfl)
 try simp only [Act.put, qA, qB, qC]
 refine wpL_val (i := 3) (v := ?va3) rfl (by kernel_rfl) (by kernel_rfl) (by kernel_rfl) (fun _ _ _ h => h) (by rfl) ?hya3 ?resta3
 case hya3 => (intro x hx; obtain ⟨d0, d1, d2⟩ := HLE.out x hx; go_simp; try with_reducible rfl)
 try simp only [Act.put, qA, qB, qC]
 refine wpL_call (i := 4) (v := .int .i64 (ku : Nat)) (f := 67) (args := #[.agg #[.slice (some ⟨b, off, none⟩) n cap, .int .i64 nx], .int .i64 up]) rfl (by kernel_rfl) (by kernel_rfl) (by kernel_rfl) (fun _ _ _ h => h) (by rfl) ?hya4 (fun x hx => HA2.out x (HBX.out x hx)) ?resta4
 case hya4 => (intro x hx; obtain ⟨d0, d1, d2⟩ := HLE.out x hx; go_simp; try with_reducible rfl)
 try simp only [Act.put, qA, qB, qC]
 refine wpL_val (i := 5) (v := ?va5) rfl (by kernel_rfl) (by kernel_rfl) (by kernel_rfl) (fun _ _ _ h => h) (by rfl) ?hya5 ?resta5
 case hya5 => (intro x hx; obtain ⟨d0, d1, d2⟩ := HLE.out x hx; go_simp; try with_reducible rfl)
 try simp only [Act.put, qA, qB, qC]
 refine wpL_val (i := 6) (v := ?va6) rfl (by kernel_rfl) (by kernel_rfl) (by kernel_rfl) (fun _ _ _ h => h) (by rfl) ?hya6 ?resta6
 case hya6 => (intro x hx; obtain ⟨d0, d1, d2⟩ := HLE.out x hx; go_simp; try with_reducible rfl)
 try simp only [Act.put, qA, qB, qC]
 refine wpL_val (i := 7) (v := ?va7) rfl (by kernel_rfl) (by kernel_rfl) (by kernel_rfl) (fun _ _ _ h => h) (by rfl) ?hya7 ?resta7
 case hya7 => (intro x hx; obtain ⟨d0, d1, d2⟩ := HLE.out x hx; go_simp; try with_reducible rfl)
 try simp only [Act.put, qA, qB, qC]
 refine wpL_val (i := 8) (v := ?va8) rfl (by kernel_rfl) (by kernel_rfl) (by kernel_rfl) (fun _ _ _ h => h) (by rfl) ?hya8 ?resta8
 case hya8 => (intro x hx; obtain ⟨d0, d1, d2⟩ := HLE.out x hx; go_simp; try with_reducible rfl)
 try simp only [Act.put, qA, qB, qC]
 refine wpL_done (by kernel_rfl) ?_ _
 intro W4 hy
 have HB9 := (Below.trans (Below.drew (Below.refl _ _)) hy : Below w3.heap.size w3 W4)
 replace HM1 := Shut.mk (HM1.out.below HB9)
 replace HN1 := Shut.mk (HN1.out.below HB9)
 clear x0 x1 y2 z0 zf0 z1 zf1 q0 qf0 q1 qf1 HB9
 have x0 := ((HM1.out.at 3 rfl).1.2 0 _ rfl).1
 have x1 := ((HM1.out.at 3 rfl).1.2 1 _ rfl).1
 have y2 := ((HM1.out.at 2 rfl).1.2 2 _ rfl).1
 obtain ⟨z0, zf0⟩ := (HM1.out.at 0 rfl).1.2 0 _ rfl
 obtain ⟨z1, zf1⟩ := (HM1.out.at 0 rfl).1.2 1 _ rfl
 obtain ⟨q0, qf0⟩ := (HM1.out.at 1 rfl).1.2 0 _ rfl
 obtain ⟨q1, qf1⟩ := (HM1.out.at 1 rfl).1.2 1 _ rfl
 dsimp only at y2
 clear hy HLE HBX HA2
 cases du with
 | false =>
  have HXX : Shut (R = (⟨nds rs, nx⟩, 3)) := ⟨by rw [HX2.out]; rfl⟩
  go_wp2_with fail
  refine body_shade (fun W => FinT w W (w.heap.size + 1 + 1) (.slice (some ⟨g2, 0, none⟩) n cap2) nx ⟨nds rs, nx⟩) (TAns.fin9 ((HM1.out.put 1 rfl 0 _ (by simp)).put 1 rfl 1 _ (by simp)) 1 rfl ((HN1.out.setBox _ 0 _ hsw.out).setBox _ 1 _ hsw.out) HR2.out.2 hsw0.out) ?_
  rintro W8 ⟨r0, r1, hans, hbel⟩
  refine bodyPost_ret (v := .tuple #[.agg #[.slice (some ⟨g2, 0, none⟩) n cap2, .int .i64 nx], .int .i64 3]) (by simp [results, Tryz.results64, go_sem, r0, r1]) rfl ⟨_, by rw [HXX.out], by rw [HXX.out]; exact hans, hbel⟩
 | true =>
 go_upto_if 43 with (go_at_call 20; refine (HF.out _ HM1.out.bel).mono ?_; rintro e w5 ⟨rfl, hb5⟩; replace HM1 := Shut.mk (HM1.out.below hb5); replace HN1 := Shut.mk (HN1.out.below hb5); clear x0 x1 y2 z0 zf0 z1 zf1 q0 qf0 q1 qf1 hb5; have x0 := ((HM1.out.at 3 rfl).1.2 0 _ rfl).1; have x1 := ((HM1.out.at 3 rfl).1.2 1 _ rfl).1; have y2 := ((HM1.out.at 2 rfl).1.2 2 _ rfl).1; obtain ⟨z0, zf0⟩ := (HM1.out.at 0 rfl).1.2 0 _ rfl; obtain ⟨z1, zf1⟩ := (HM1.out.at 0 rfl).1.2 1 _ rfl; obtain ⟨q0, qf0⟩ := (HM1.out.at 1 rfl).1.2 0 _ rfl; obtain ⟨q1, qf1⟩ := (HM1.out.at 1 rfl).1.2 1 _ rfl; dsimp only at y2)
 by_cases hf2 : f2 = 0
 case neg =>
  have b2 : (f2 != 0) = true := by simp [hf2]
  have HXX : Shut (R = (⟨nds rs, nx⟩, 2)) := ⟨by rw [HX2.out, if_neg (by simp), if_pos hf2]⟩
  clear hf2
  go_wp2_with fail
  refine body_shade (fun W => FinT w W (w.heap.size + 1 + 1) (.slice (some ⟨g2, 0, none⟩) n cap2) nx ⟨nds rs, nx⟩) (TAns.fin9 ((HM1.out.put 1 rfl 0 _ (by simp)).put 1 rfl 1 _ (by simp)) 1 rfl ((HN1.out.setBox _ 0 _ hsw.out).setBox _ 1 _ hsw.out) HR2.out.2 hsw0.out) ?_
  rintro W8 ⟨r0, r1, hans, hbel⟩
  refine bodyPost_ret (v := .tuple #[.agg #[.slice (some ⟨g2, 0, none⟩) n cap2, .int .i64 nx], .int .i64 2]) (by simp [results, Tryz.results64, go_sem, r0, r1]) rfl ⟨_, by rw [HXX.out], by rw [HXX.out]; exact hans, hbel⟩
 have b2 : (f2 != 0) = false := by simp [hf2]
 have HX3 : Shut (R = if belowF (nds rs) 15 up id = true then (⟨nds rs, nx⟩, 7) else if treeOk TO = false then (⟨nds rs, nx⟩, 8) else (TO, 0)) := ⟨by rw [HX2.out, if_neg (by simp), if_neg (by simp [hf2])]⟩
 clear hf2 HX2
 obtain ⟨bl, hbl⟩ : ∃ q, q = belowF (nds rs) 15 up id := ⟨_, rfl⟩
 have HB3 := Shut.mk (fun (x : World) (hx : Below w.heap.size w x) => HBL.out up id x hx)
 rw [← hbl] at HB3 HX3
 clear hbl
 go_upto_if 48 with (go_at_call 77; refine (HB3.out _ HM1.out.bel).mono ?_; rintro e w6 ⟨rfl, hb6⟩; replace HM1 := Shut.mk (HM1.out.below hb6); replace HN1 := Shut.mk (HN1.out.below hb6); clear x0 x1 y2 z0 zf0 z1 zf1 q0 qf0 q1 qf1 hb6; have x0 := ((HM1.out.at 3 rfl).1.2 0 _ rfl).1; have x1 := ((HM1.out.at 3 rfl).1.2 1 _ rfl).1; have y2 := ((HM1.out.at 2 rfl).1.2 2 _ rfl).1; obtain ⟨z0, zf0⟩ := (HM1.out.at 0 rfl).1.2 0 _ rfl; obtain ⟨z1, zf1⟩ := (HM1.out.at 0 rfl).1.2 1 _ rfl; obtain ⟨q0, qf0⟩ := (HM1.out.at 1 rfl).1.2 0 _ rfl; obtain ⟨q1, qf1⟩ := (HM1.out.at 1 rfl).1.2 1 _ rfl; dsimp only at y2)
 cases bl with
 | true =>
  have HXX : Shut (R = (⟨nds rs, nx⟩, 7)) := ⟨by rw [HX3.out]; rfl⟩
  go_wp2_with fail
  refine body_shade (fun W => FinT w W (w.heap.size + 1 + 1) (.slice (some ⟨g2, 0, none⟩) n cap2) nx ⟨nds rs, nx⟩) (TAns.fin9 ((HM1.out.put 1 rfl 0 _ (by simp)).put 1 rfl 1 _ (by simp)) 1 rfl ((HN1.out.setBox _ 0 _ hsw.out).setBox _ 1 _ hsw.out) HR2.out.2 hsw0.out) ?_
  rintro W8 ⟨r0, r1, hans, hbel⟩
  refine bodyPost_ret (v := .tuple #[.agg #[.slice (some ⟨g2, 0, none⟩) n cap2, .int .i64 nx], .int .i64 7]) (by simp [results, Tryz.results64, go_sem, r0, r1]) rfl ⟨_, by rw [HXX.out], by rw [HXX.out]; exact hans, hbel⟩
 | false =>
 have HX4 : Shut (R = if treeOk TO = false then (⟨nds rs, nx⟩, 8) else (TO, 0)) := ⟨by rw [HX3.out]; rfl⟩
 have HC3 := Shut.mk (HCP.out w6 n (by rw [nds_len]; exact HN.out) HM1.out.bel)
 have hz1 := Shut.mk (And.intro (HM1.out.at 0 rfl).1.1 (And.intro (HM1.out.at 1 rfl).1.1 (HN1.out.own.lt g2 rfl).2))
 go_upto_region 13 with (go_at_call 62; refine HC3.out.mono ?_; rintro e w7 ⟨a3, cap3, rs3, rfl, hl3, hr3, hnb3, hb7⟩; have HR3 := Shut.mk (And.intro hl3 hr3); have HNB3 := Shut.mk hnb3; have hs67 := Shut.mk hb7.size; clear hl3 hr3 hnb3; replace HM1 := Shut.mk (HM1.out.below hb7); replace HN1 := Shut.mk (HN1.out.below hb7); clear x0 x1 y2 z0 zf0 z1 zf1 q0 qf0 q1 qf1 hb7; have x0 := ((HM1.out.at 3 rfl).1.2 0 _ rfl).1; have x1 := ((HM1.out.at 3 rfl).1.2 1 _ rfl).1; have y2 := ((HM1.out.at 2 rfl).1.2 2 _ rfl).1; obtain ⟨z0, zf0⟩ := (HM1.out.at 0 rfl).1.2 0 _ rfl; obtain ⟨z1, zf1⟩ := (HM1.out.at 0 rfl).1.2 1 _ rfl; obtain ⟨q0, qf0⟩ := (HM1.out.at 1 rfl).1.2 0 _ rfl; obtain ⟨q1, qf1⟩ := (HM1.out.at 1 rfl).1.2 1 _ rfl; dsimp only at y2)
 obtain ⟨g3, rfl, hg3, hg3', -⟩ := HNB3.out.blk HR3.out.1 (by omega)
 refine wp_shade (fun W => MB w W [(w7.heap.size, [.slice (some ⟨g3, 0, none⟩) n cap3, .int .i64 nx]), (w1.heap.size, [.slice (some ⟨g2, 0, none⟩) n cap2, .int .i64 nx]), (w.heap.size + 1 + 1, [.slice none 0 0, .int .i64 0]), (w.heap.size + 1, ecells ⟨kind, path, dest, num, who⟩), (w.heap.size, [.slice (some ⟨b, off, none⟩) n cap, .int .i64 nx])] ∧ NB W W0.heap.size (.slice (some ⟨g2, 0, none⟩) n cap2) rs2 ∧ NB W w6.heap.size (.slice (some ⟨g3, 0, none⟩) n cap3) rs3) ⟨HM1.out.new _ _, HN1.out.below ((Below.refl _ _).alloc (Nat.le_refl _) _), HNB3.out.below ((Below.refl _ _).alloc (Nat.le_refl _) _)⟩ ?_
 rintro W5 ⟨hM5, hN5, hP5⟩
 clear x0 x1 y2 z0 zf0 z1 zf1 q0 qf0 q1 qf1
 have HM5 := Shut.mk hM5
 have HN5 := Shut.mk hN5
 have HP5 := Shut.mk hP5
 have HG3 := Shut.mk (And.intro hg3 hg3')
 clear hM5 hN5 hP5 HM1 HN1 HNB3 HC3 hg3 hg3' HX3
 obtain ⟨rk, hrk⟩ := HRE.out
 obtain ⟨loc3, cp3, hd3⟩ := copy_at HR3.out.2 hrk
 have HD3 := Shut.mk hd3
 have HMT2 : Shut (TO = setN ⟨nds rs, nx⟩ k { rk.nd with parent := up, name := nm }) := ⟨by
  rw [HMT.out]
  have e1 : ndAt ⟨nds rs, nx⟩ k = rk.nd := by simp [ndAt, nds, List.getD, hrk]
  rw [e1]⟩
 clear hrk hd3 HMT
 obtain ⟨⟨id9, parent9, name9, dir9, schema9, quota9, len9, pieces9, writer9⟩, loc9, cp9⟩ := rk
 dsimp only at *
 have HA3 := Shut.mk (fun (x : World) (hx : Below w.heap.size w x) => HAT.out id x hx)
 rw [HID.out] at HA3
 have ne1 : ¬ (g3 = w7.heap.size) := by have := HG3.out; omega
 have ne2 : ¬ (w7.heap.size = g3) := by have := HG3.out; omega
 have ne3 : ¬ (g3 = w.heap.size) := by have := HG3.out; have := hz1.out; omega
 have ne4 : ¬ (w.heap.size = g3) := by have := HG3.out; have := hz1.out; omega
 have HGB : Shut (∀ (W : World) (i : Nat) (x : Value), MB w W [(w7.heap.size, [.slice (some ⟨g3, 0, none⟩) n cap3, .int .i64 nx]), (w1.heap.size, [.slice (some ⟨g2, 0, none⟩) n cap2, .int .i64 nx]), (w.heap.size + 1 + 1, [.slice none 0 0, .int .i64 0]), (w.heap.size + 1, ecells ⟨kind, path, dest, num, who⟩), (w.heap.size, [.slice (some ⟨b, off, none⟩) n cap, .int .i64 nx])] → MB w (W.setCell ⟨g3, i, none⟩ x) [(w7.heap.size, [.slice (some ⟨g3, 0, none⟩) n cap3, .int .i64 nx]), (w1.heap.size, [.slice (some ⟨g2, 0, none⟩) n cap2, .int .i64 nx]), (w.heap.size + 1 + 1, [.slice none 0 0, .int .i64 0]), (w.heap.size + 1, ecells ⟨kind, path, dest, num, who⟩), (w.heap.size, [.slice (some ⟨b, off, none⟩) n cap, .int .i64 nx])]) := ⟨fun W i x M => M.far (gb_set' W g3 i x) (fun p hp => by
  have h1 := HG3.out
  have h2 := hz1.out
  have h3 := hs67.out
  simp only [List.mem_cons, List.not_mem_nil, or_false] at hp
  rcases hp with rfl | rfl | rfl | rfl | rfl <;> simp <;> omega) (fun q hq => by cases hq; have := HG3.out; have := hz1.out; omega)⟩
 have n0 := ((HM5.out.at 0 rfl).1.2 0 _ rfl).1
 have n1 := ((HM5.out.at 0 rfl).1.2 1 _ rfl).1
 have x0 := ((HM5.out.at 4 rfl).1.2 0 _ rfl).1
 have x1 := ((HM5.out.at 4 rfl).1.2 1 _ rfl).1
 have lt7 := (HM5.out.at 0 rfl).1.1
 have lt0 := (HM5.out.at 4 rfl).1.1
 go_region_held3 (fun w' => w'.cell? ⟨w7.heap.size, 0, none⟩ = some (.slice (some ⟨g3, 0, none⟩) n cap3) ∧ w'.cell? ⟨w.heap.size, 0, none⟩ = some (.slice (some ⟨b, off, none⟩) n cap) ∧ w'.cell? ⟨w.heap.size, 1, none⟩ = some (.int .i64 nx)) (first | go_keep | (rw [hw8.cell (p := ⟨w7.heap.size, 0, none⟩) lt7, hw8.cell (p := ⟨w.heap.size, 0, none⟩) lt0, hw8.cell (p := ⟨w.heap.size, 1, none⟩) lt0]; assumption)) ((go_at_call 67; refine (HA3.out _ HM5.out.bel.drew).mono ?_; rintro e w8 ⟨rfl, hw8⟩; have hb9 := Shut.mk (Below.trans (Below.drew (Below.refl _ _)) hw8 : Below W5.heap.size W5 w8); have hm1 := Shut.mk ((HP5.out.below hb9.out).cellK HR3.out.1 HD3.out 1 _ rfl); obtain ⟨m1, mf1⟩ := hm1.out; dsimp only at m1))
 go_upto_region 14 with fail
 refine wp_shade (fun W => MB w W [(w7.heap.size, [.slice (some ⟨g3, 0, none⟩) n cap3, .int .i64 nx]), (w1.heap.size, [.slice (some ⟨g2, 0, none⟩) n cap2, .int .i64 nx]), (w.heap.size + 1 + 1, [.slice none 0 0, .int .i64 0]), (w.heap.size + 1, ecells ⟨kind, path, dest, num, who⟩), (w.heap.size, [.slice (some ⟨b, off, none⟩) n cap, .int .i64 nx])] ∧ NB W W0.heap.size (.slice (some ⟨g2, 0, none⟩) n cap2) rs2 ∧ NB W w6.heap.size (.slice (some ⟨g3, 0, none⟩) n cap3) (rs3.set k ⟨⟨id9, up, name9, dir9, schema9, quota9, len9, pieces9, writer9⟩, loc3, cp3⟩)) ⟨HGB.out _ _ _ (HM5.out.below hb9.out), ?_, (HP5.out.below hb9.out).putK HR3.out.1 HD3.out 1 (by omega) _ _ rfl rfl rfl rfl⟩ ?_
 ·obtain ⟨cur, hcur⟩ := own_blk' (HP5.out.below hb9.out).own (show (Value.slice (some ⟨g3, 0, none⟩) n cap3).ownBlock = some g3 from rfl)
  exact (HN5.out.below hb9.out).setOut g3 _ _ hcur (by decide) (by have h1 := HG3.out; have h2 := hz1.out; simp [Value.ownBlock]; omega)
 rintro W6 ⟨hM5, hN5, hP5⟩
 replace HM5 := Shut.mk hM5
 replace HN5 := Shut.mk hN5
 replace HP5 := Shut.mk hP5
 clear hM5 hN5 hP5 n0 n1 x0 x1 m1 mf1 hm1 hb9 hw8 lt7 lt0
 have HD4 : Shut ((rs3.set k ⟨⟨id9, up, name9, dir9, schema9, quota9, len9, pieces9, writer9⟩, loc3, cp3⟩)[k]? = some ⟨⟨id9, up, name9, dir9, schema9, quota9, len9, pieces9, writer9⟩, loc3, cp3⟩) := ⟨by
  obtain ⟨hk', -⟩ := List.getElem?_eq_some_iff.1 HD3.out
  rw [List.getElem?_set_self hk']⟩
 have HL4 : Shut ((rs3.set k ⟨⟨id9, up, name9, dir9, schema9, quota9, len9, pieces9, writer9⟩, loc3, cp3⟩).length = n) := ⟨by rw [List.length_set]; exact HR3.out.1⟩
 have n0 := ((HM5.out.at 0 rfl).1.2 0 _ rfl).1
 have n1 := ((HM5.out.at 0 rfl).1.2 1 _ rfl).1
 have x0 := ((HM5.out.at 4 rfl).1.2 0 _ rfl).1
 have x1 := ((HM5.out.at 4 rfl).1.2 1 _ rfl).1
 have lt7 := (HM5.out.at 0 rfl).1.1
 have lt0 := (HM5.out.at 4 rfl).1.1
 go_region_held3 (fun w' => w'.cell? ⟨w7.heap.size, 0, none⟩ = some (.slice (some ⟨g3, 0, none⟩) n cap3) ∧ w'.cell? ⟨w.heap.size, 0, none⟩ = some (.slice (some ⟨b, off, none⟩) n cap) ∧ w'.cell? ⟨w.heap.size, 1, none⟩ = some (.int .i64 nx)) (first | go_keep | (rw [hw9.cell (p := ⟨w7.heap.size, 0, none⟩) lt7, hw9.cell (p := ⟨w.heap.size, 0, none⟩) lt0, hw9.cell (p := ⟨w.heap.size, 1, none⟩) lt0]; assumption)) ((go_at_call 67; refine (HA3.out _ HM5.out.bel.drew).mono ?_; rintro e w9 ⟨rfl, hw9⟩; have hb9 := Shut.mk (Below.trans (Below.drew (Below.refl _ _)) hw9 : Below W6.heap.size W6 w9); have hm1 := Shut.mk ((HP5.out.below hb9.out).cellK HL4.out HD4.out 2 _ rfl); obtain ⟨m1, mf1⟩ := hm1.out; dsimp only at m1))
 go_upto_region 15 with fail
 refine wp_shade (fun W => MB w W [(w7.heap.size, [.slice (some ⟨g3, 0, none⟩) n cap3, .int .i64 nx]), (w1.heap.size, [.slice (some ⟨g2, 0, none⟩) n cap2, .int .i64 nx]), (w.heap.size + 1 + 1, [.slice none 0 0, .int .i64 0]), (w.heap.size + 1, ecells ⟨kind, path, dest, num, who⟩), (w.heap.size, [.slice (some ⟨b, off, none⟩) n cap, .int .i64 nx])] ∧ NB W W0.heap.size (.slice (some ⟨g2, 0, none⟩) n cap2) rs2 ∧ NB W w6.heap.size (.slice (some ⟨g3, 0, none⟩) n cap3) ((rs3.set k ⟨⟨id9, up, name9, dir9, schema9, quota9, len9, pieces9, writer9⟩, loc3, cp3⟩).set k ⟨⟨id9, up, nm, dir9, schema9, quota9, len9, pieces9, writer9⟩, loc3, cp3⟩)) ⟨HGB.out _ _ _ (HM5.out.below hb9.out), ?_, (HP5.out.below hb9.out).putK HL4.out HD4.out 2 (by omega) _ _ rfl rfl rfl rfl⟩ ?_
 ·obtain ⟨cur, hcur⟩ := own_blk' (HP5.out.below hb9.out).own (show (Value.slice (some ⟨g3, 0, none⟩) n cap3).ownBlock = some g3 from rfl)
  exact (HN5.out.below hb9.out).setOut g3 _ _ hcur (by decide) (by have h1 := HG3.out; have h2 := hz1.out; simp [Value.ownBlock]; omega)
 rintro W7 ⟨hM5, hN5, hP5⟩
 replace HM5 := Shut.mk hM5
 replace HN5 := Shut.mk hN5
 replace HP5 := Shut.mk hP5
 clear hM5 hN5 hP5 n0 n1 x0 x1 m1 mf1 hm1 hb9 hw9 lt7 lt0
 have HTO : Shut (nds ((rs3.set k ⟨⟨id9, up, name9, dir9, schema9, quota9, len9, pieces9, writer9⟩, loc3, cp3⟩).set k ⟨⟨id9, up, nm, dir9, schema9, quota9, len9, pieces9, writer9⟩, loc3, cp3⟩) = (setN ⟨nds rs, nx⟩ k ⟨id9, up, nm, dir9, schema9, quota9, len9, pieces9, writer9⟩).nodes) := ⟨by
  rw [List.set_set, nds_set, HR3.out.2]
  rfl⟩
 rw [← HMT2.out] at HTO
 have HTN : Shut (TO.next = nx) := ⟨by rw [HMT2.out]; rfl⟩
 have HTT : Shut (TO = ⟨nds ((rs3.set k ⟨⟨id9, up, name9, dir9, schema9, quota9, len9, pieces9, writer9⟩, loc3, cp3⟩).set k ⟨⟨id9, up, nm, dir9, schema9, quota9, len9, pieces9, writer9⟩, loc3, cp3⟩), nx⟩) := ⟨by rw [HTO.out, ← HTN.out]⟩
 rw [HTT.out] at HFM HX4
 have HOK := Shut.mk (specTreeOk ((HP5.out.fin (nx := nx)).see) HFM.out)
 generalize (rs3.set k ⟨⟨id9, up, name9, dir9, schema9, quota9, len9, pieces9, writer9⟩, loc3, cp3⟩).set k ⟨⟨id9, up, nm, dir9, schema9, quota9, len9, pieces9, writer9⟩, loc3, cp3⟩ = rs9 at HP5 HTO HTT HFM HX4 HOK
 obtain ⟨tk, htk⟩ : ∃ q, q = treeOk ⟨nds rs9, nx⟩ := ⟨_, rfl⟩
 rw [← htk] at HOK HX4
 clear htk HTO HTN HFM HTT HMT2
 have n0 := ((HM5.out.at 0 rfl).1.2 0 _ rfl).1
 have n1 := ((HM5.out.at 0 rfl).1.2 1 _ rfl).1
 go_upto_if 70 with (go_at_call 60; refine HOK.out.mono ?_; rintro e w10 ⟨rfl, hb10⟩; replace HM5 := Shut.mk (HM5.out.below hb10); replace HN5 := Shut.mk (HN5.out.below hb10); replace HP5 := Shut.mk (HP5.out.below hb10); clear hb10 n0 n1)
 have n0 := ((HM5.out.at 0 rfl).1.2 0 _ rfl).1
 have n1 := ((HM5.out.at 0 rfl).1.2 1 _ rfl).1
 obtain ⟨z0, zf0⟩ := (HM5.out.at 1 rfl).1.2 0 _ rfl
 obtain ⟨z1, zf1⟩ := (HM5.out.at 1 rfl).1.2 1 _ rfl
 obtain ⟨q0, qf0⟩ := (HM5.out.at 2 rfl).1.2 0 _ rfl
 obtain ⟨q1, qf1⟩ := (HM5.out.at 2 rfl).1.2 1 _ rfl
 cases tk with
 | false =>
  have HXX : Shut (R = (⟨nds rs, nx⟩, 8)) := ⟨by rw [HX4.out]; rfl⟩
  go_wp2_with fail
  refine body_shade (fun W => FinT w W (w.heap.size + 1 + 1) (.slice (some ⟨g2, 0, none⟩) n cap2) nx ⟨nds rs, nx⟩) (TAns.fin9 ((HM5.out.put 2 rfl 0 _ (by simp)).put 2 rfl 1 _ (by simp)) 2 rfl ((HN5.out.setBox _ 0 _ hsw.out).setBox _ 1 _ hsw.out) HR2.out.2 hsw0.out) ?_
  rintro W8 ⟨r0, r1, hans, hbel⟩
  refine bodyPost_ret (v := .tuple #[.agg #[.slice (some ⟨g2, 0, none⟩) n cap2, .int .i64 nx], .int .i64 8]) (by simp [results, Tryz.results64, go_sem, r0, r1]) rfl ⟨_, by rw [HXX.out], by rw [HXX.out]; exact hans, hbel⟩
 | true =>
  have HXX : Shut (R = (⟨nds rs9, nx⟩, 0)) := ⟨by rw [HX4.out]; rfl⟩
  go_wp2_with fail
  refine body_shade (fun W => FinT w W (w.heap.size + 1 + 1) (.slice (some ⟨g3, 0, none⟩) n cap3) nx ⟨nds rs9, nx⟩) (TAns.fin9 ((HM5.out.put 2 rfl 0 _ (by simp)).put 2 rfl 1 _ (by simp)) 2 rfl ((HP5.out.setBox _ 0 _ hz1.out.2.1).setBox _ 1 _ hz1.out.2.1) rfl (by have := hz1.out; omega)) ?_
  rintro W8 ⟨r0, r1, hans, hbel⟩
  refine bodyPost_ret (v := .tuple #[.agg #[.slice (some ⟨g3, 0, none⟩) n cap3, .int .i64 nx], .int .i64 0]) (by simp [results, Tryz.results64, go_sem, r0, r1]) rfl ⟨_, by rw [HXX.out], by rw [HXX.out]; exact hans, hbel⟩
end Go.Proofs.YtakhagkhngmpaaaGreat
