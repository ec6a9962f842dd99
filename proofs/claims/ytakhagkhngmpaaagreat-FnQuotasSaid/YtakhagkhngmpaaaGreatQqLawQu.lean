/- Texts of ours, laid one behind the other: LawQu. -/
import Derived.Test.YtakhagkhngmpaaaGreatQq9
import Derived.Test.YtakhagkhngmpaaaGreatQq13
import Derived.Test.YtakhagkhngmpaaaGreatQq4
import Derived.Test.YtakhagkhngmpaaaGreatQq7
import Derived.Test.YtakhagkhngmpaaaGreatQq3
/- LawQu: . -/
namespace Go.Proofs.YtakhagkhngmpaaaGreat
set_option maxRecDepth 100000
open Go.RowKit
attribute [local go_sem ↓] Go.wp_at_zero Go.wp_at_succ
theorem new_rt8 : Rt newX := Rt.of newX_ok9
theorem TL.sub {w0 W : World} {L L' : List (Nat × List Value)} {S S' H : List (Value × TM × Nat × Nat)} (h : TL w0 W L S H) (hL : L'.Sublist L) (hS : S'.Sublist S) : TL w0 W L' S' H :=
 ⟨⟨fun p hp => h.mb.box p (hL.subset hp), h.mb.dist.sublist hL, h.mb.bel⟩, fun s hs => h.ans s (hS.subset hs), fun s hs p hp => h.far s (hS.subset hs) p (hL.subset hp), h.apart.sublist hS, h.held, fun s hs p hp => h.hfar s hs p (hL.subset hp), fun s hs t ht => h.hap s hs t (hS.subset ht)⟩
theorem all_next {es : List EM} {i : Nat} {Tk : TM} {g : Int} (h : allX newX (es.take i) 1 = (Tk, g)) (hi : i < es.length) : allX newX (es.take (i + 1)) 1 = ((applyX Tk es[i] g).1, groupsX Tk es[i] g) := by
 have q := all_take newX es 1 i hi
 rw [h] at q
 rw [q]
 unfold stepX
 by_cases c : (applyX Tk es[i] g).2 = 0
 ·rw [if_pos c]
 ·rw [if_neg c, (not_took c).1, (not_took c).2]
theorem drawn_right {es : List EM} {i : Nat} {Tk : TM} {g : Int} (h : allX newX (es.take i) 1 = (Tk, g)) : Rt Tk := by
 have := drawn_ok (es.take i)
 rw [h] at this
 exact Rt.of this
theorem drawn_bound {es : List EM} {i : Nat} {Tk : TM} {g : Int} (h : allX newX (es.take i) 1 = (Tk, g)) (hl : es.length ≤ 14) : 1 ≤ g ∧ g ≤ 1000 := by
 have q := groups_all (es.take i) (newX, 1)
 unfold allX at h
 rw [h, List.length_take] at q
 dsimp only at q
 omega
attribute [local irreducible] treeOk allX applyX groupsX findX belowX usedX newX
set_option maxHeartbeats 16000000 in
theorem quotas_walk (a : Option Addr) (len cap : Nat) (w : World) (hcode : CodeAt w w.heap.size a len) :
  Calls Tryz.prog 6 #[.slice a len cap] w fun e w' => e = .returned (.bool true) ∧ Below w.heap.size w w' := by
 have hbig : decide ((1048576 : Int) < (len : Int)) = false := by have := hcode.1; simp; omega
 have HC : Hid (CodeAt w w.heap.size a len) := hcode
 clear hcode
 go_enter Tryz.func6, Tryz.ntmps6
 go_wp2_with fail
 refine (big_any a len cap _).mono ?_
 rintro e w1 ⟨rfl, hw1⟩
 obtain rfl : w = w1 := hw1.symm
 clear hw1
 rw [hbig]
 go_upto_region 4 with (go_at_call 26; refine (drawEdits_any _ a len cap HC.out).mono ?_; rintro e w1 ⟨va, vc, es, rfl, hes, hpl, hrow, hvc, hb1⟩; have HB1 := Shut.mk hb1; have HROW := Shut.mk hrow; have HEF := Shut.mk (fun e he => (hpl e he).fit); clear hpl hrow hb1 hvc)
 have HT : Shut (TL w1 w1 [] [] []) := ⟨TL.of (MB.nil w1)⟩
 have HES := Shut.mk hes
 obtain ⟨ln, hln⟩ : ∃ n, n = es.length := ⟨_, rfl⟩
 have HLN := Shut.mk hln
 rw [← hln] at hes ⊢
 clear hln HC hbig
 go_upto_region 5 with (go_at_call 28; refine (implTreeNew _).mono ?_; rintro e w2 ⟨vv, rfl, hans, hb⟩; obtain ⟨tg, tf, tn, td, rfl⟩ := tans_some hans new_rt8.l1; have htn := (see_node hans.see new_rt8.l1).1; obtain ⟨tx, htx⟩ : ∃ n, n = newX.next := ⟨_, rfl⟩; rw [← htx] at hans ⊢; have HTN := Shut.mk (And.intro htn htx); obtain ⟨lo, hi, h9⟩ := HT.out.call hans hb; replace HT := Shut.mk h9; clear hans hb h9 htn htx)
 obtain ⟨b4, hb9⟩ : ∃ b, b = w2.heap.size := ⟨_, rfl⟩
 rw [← hb9]
 refine wp_shade (fun W => TL w1 W [(b4, [.slice (some ⟨tg, tf, none⟩) tn td, .int .i64 tx])] [(.agg #[.slice (some ⟨tg, tf, none⟩) tn td, .int .i64 tx], newX, lo, hi)] []) (by rw [hb9]; exact HT.out.new #[.slice (some ⟨tg, tf, none⟩) tn td, .int .i64 tx] 26) ?_
 intro W3 hW9
 replace HT := Shut.mk hW9
 clear hW9 hb9
 go_wp2_with fail
 go_loopw [5, 6] (fun gv iv wr => ∃ (i : Nat) (g : Int) (tg tf tn td lo hi : Nat) (tx : Int) (Tk : TM), gv = .int .i64 g ∧ iv = .int .i64 i ∧ i ≤ ln ∧ Shut (allX newX (es.take i) 1 = (Tk, g)) ∧ Shut (tn = Tk.nodes.length ∧ tx = Tk.next) ∧ Shut (TL w1 wr [(b4, [.slice (some ⟨tg, tf, none⟩) tn td, .int .i64 tx])] [(.agg #[.slice (some ⟨tg, tf, none⟩) tn td, .int .i64 tx], Tk, lo, hi)] [])) (fun _ iv _ => ln - (intOf iv).toNat)
 case atStart => exact ⟨0, 1, tg, tf, tn, td, lo, hi, tx, newX, rfl, rfl, Nat.zero_le _, ⟨by unfold allX; simp⟩, HTN, HT⟩
 case round =>
  clear HT HTN
  obtain ⟨i, g, tg, tf, tn, td, lo, hi, tx, Tk, rfl, rfl, hil, HALL, HTN, HT⟩ := hrel
  have HOK := Shut.mk (drawn_right HALL.out)
  have hgb := drawn_bound HALL.out HES.out
  by_cases hlt : i < ln
  case neg =>
   have i1 : ¬ (i : Int) < (ln : Int) := by omega
   have HSA := Shut.mk (fun (W : World) (u : Value) (lo hi : Nat) (q : TSee W u newX lo hi) (hb : Below w1.heap.size w1 W) => specApplyAll va vc es 0 w1.heap.size 1 q new_rt8.fit (HROW.out.below hb) HEF.out (by have := HES.out; omega))
   have hall : allX newX es 1 = (Tk, g) := by
    have q := HALL.out
    rwa [List.take_of_length_le (by have := HLN.out; omega)] at q
   rw [hall, ← HLN.out] at HSA
   unfold ApPost at HSA
   dsimp only at HSA
   have hgg : (g == g) = true := by simp
   clear hall
   go_upto_region 24 with (first
    | (go_at_call 30; refine (specTreeNew _).mono ?_; rintro e y1 ⟨vv, rfl, hans, hb⟩; obtain ⟨cz, dz, rfl⟩ := tans_len hans; obtain ⟨zn, hzn⟩ : ∃ n, n = newX.nodes.length := ⟨_, rfl⟩; obtain ⟨zx, hzx⟩ : ∃ n, n = newX.next := ⟨_, rfl⟩; rw [← hzn, ← hzx] at hans ⊢; clear hzn hzx; obtain ⟨lz, hz, h9⟩ := HT.out.call hans hb; replace HT := Shut.mk h9; clear hans hb h9)
    | (go_at_call 29; refine (HSA.out _ _ _ _ (HT.out.at 0 rfl).see HT.out.bel).mono ?_; rintro e y2 ⟨vv, rfl, hans, hb⟩; obtain ⟨cq, dq, rfl⟩ := tans_len hans; rw [← HTN.out.1, ← HTN.out.2] at hans ⊢; obtain ⟨lq, hq, h9⟩ := HT.out.call hans hb; replace HT := Shut.mk h9; clear hans hb h9))
   obtain ⟨b13, hb9⟩ : ∃ b, b = y2.heap.size := ⟨_, rfl⟩
   rw [← hb9]
   refine wp_shade (fun W => TL w1 W [(b13, [.slice cq tn dq, .int .i64 tx]), (b4, [.slice (some ⟨tg, tf, none⟩) tn td, .int .i64 tx])] [(.agg #[.slice cq tn dq, .int .i64 tx], Tk, lq, hq), (.agg #[.slice cz zn dz, .int .i64 zx], newX, lz, hz), (.agg #[.slice (some ⟨tg, tf, none⟩) tn td, .int .i64 tx], Tk, lo, hi)] []) (by rw [hb9]; exact HT.out.new #[.slice cq tn dq, .int .i64 tx] 26) ?_
   intro W9 hW9
   replace HT := Shut.mk hW9
   clear hW9 hb9
   have x0 := ((HT.out.mb.at 0 rfl).1.2 0 _ rfl).1
   have x1 := ((HT.out.mb.at 0 rfl).1.2 1 _ rfl).1
   have y0 := ((HT.out.mb.at 1 rfl).1.2 0 _ rfl).1
   have y1 := ((HT.out.mb.at 1 rfl).1.2 1 _ rfl).1
   go_wp2_with (go_at_call 16; refine (sameTree_val (HT.out.at 2 rfl).see (HT.out.at 0 rfl).see HOK.out.fit).mono ?_; rintro e y3 ⟨rfl, hb⟩; replace HT := Shut.mk (HT.out.below hb); clear hb x0 x1 y0 y1)
   go_ret
   exact ⟨rfl, HB1.out.trans (HT.out.bel.mono HB1.out.size)⟩
  have i0 : (0 : Int) ≤ (i : Int) := by omega
  have i1 : (i : Int) < (ln : Int) := by omega
  have hie : i < es.length := by have := HLN.out; omega
  have HNX := Shut.mk (all_next HALL.out hie)
  have HFE := Shut.mk (HEF.out _ (List.getElem_mem hie))
  obtain ⟨eb, eo, hva, leb, hec⟩ := ecs_at HROW.out (by omega)
  have hce := hec i hie
  subst hva
  generalize es[i] = e at HNX HFE hce
  obtain ⟨kind, path, dest, num, who⟩ := e
  dsimp only at hce
  have HCE : Shut (∀ W, Below w1.heap.size w1 W → W.cell? ⟨eb, eo + i * 5, none⟩ = some (.int .i64 kind) ∧ W.cell? ⟨eb, eo + i * 5 + 1, none⟩ = some (.string path) ∧ W.cell? ⟨eb, eo + i * 5 + 2, none⟩ = some (.string dest) ∧ W.cell? ⟨eb, eo + i * 5 + 3, none⟩ = some (.int .i64 num) ∧ W.cell? ⟨eb, eo + i * 5 + 4, none⟩ = some (.int .i64 who)) := ⟨fun W hb => ⟨(hb.cell (p := ⟨eb, eo + i * 5, none⟩) leb).trans hce.1, (hb.cell (p := ⟨eb, eo + i * 5 + 1, none⟩) leb).trans hce.2.1, (hb.cell (p := ⟨eb, eo + i * 5 + 2, none⟩) leb).trans hce.2.2.1, (hb.cell (p := ⟨eb, eo + i * 5 + 3, none⟩) leb).trans hce.2.2.2.1, (hb.cell (p := ⟨eb, eo + i * 5 + 4, none⟩) leb).trans hce.2.2.2.2⟩⟩
  clear hce hec hie
  have HAP := Shut.mk (fun (W : World) (u : Value) (lo hi : Nat) (q : TSee W u Tk lo hi) (_ : Below w1.heap.size w1 W) => implApply ⟨kind, path, dest, num, who⟩ g q HOK.out.fit HOK.out.int HFE.out)
  have HGA := Shut.mk (fun (W : World) (u : Value) (lo hi : Nat) (q : TSee W u Tk lo hi) => implGroupsAfter ⟨kind, path, dest, num, who⟩ g (by omega) q HOK.out.fit HOK.out.int HFE.out)
  have HXOK := Shut.mk (Rt.of (applyX_ok (e := ⟨kind, path, dest, num, who⟩) (g := g) HOK.out.ok))
  have HNT := Shut.mk (fun (h : (applyX Tk ⟨kind, path, dest, num, who⟩ g).2 ≠ 0) => (not_took h).2)
  have HQK := Shut.mk (fun (h : (applyX Tk ⟨kind, path, dest, num, who⟩ g).2 = 0) (hk : kind = 7) => quota_kept h hk)
  obtain ⟨XT, rc, hXX⟩ : ∃ XT rc, applyX Tk ⟨kind, path, dest, num, who⟩ g = (XT, rc) := ⟨_, _, rfl⟩
  obtain ⟨G, hG⟩ : ∃ G, G = groupsX Tk ⟨kind, path, dest, num, who⟩ g := ⟨_, rfl⟩
  rw [hXX, ← hG] at HNX
  rw [hXX] at HAP HXOK HNT HQK
  rw [← hG] at HGA HNT
  unfold ApPost at HAP
  dsimp only at HNX HAP HXOK HNT HQK
  obtain ⟨xn, hxn⟩ : ∃ n, n = XT.nodes.length := ⟨_, rfl⟩
  obtain ⟨xx, hxx⟩ : ∃ n, n = XT.next := ⟨_, rfl⟩
  have HXN := Shut.mk (And.intro hxn hxx)
  have xn14 : xn ≤ 14 := by have := HXOK.out.l14; omega
  have HPS := Shut.mk (show path.size ≤ 1048576 from HFE.out.1)
  clear hXX hG hxn hxx
  go_upto_region 9 with fail
  go_cut [7, 8] from 26 to 35 (fun u8 u9 wq => ∃ (b7 g7 o7 d7 lo7 hi7 : Nat), u8 = .pointer (some ⟨b7, 0, none⟩) ∧ u9 = .int .i64 rc ∧ Shut (TL w1 wq [(b7, [.slice (some ⟨g7, o7, none⟩) xn d7, .int .i64 xx]), (b4, [.slice (some ⟨tg, tf, none⟩) tn td, .int .i64 tx])] [(.agg #[.slice (some ⟨g7, o7, none⟩) xn d7, .int .i64 xx], XT, lo7, hi7), (.agg #[.slice (some ⟨tg, tf, none⟩) tn td, .int .i64 tx], Tk, lo, hi)] []))
  case first =>
   have HTX : Shut (∀ x, Later wr.drew x → TL w1 x [(b4, [.slice (some ⟨tg, tf, none⟩) tn td, .int .i64 tx])] [(.agg #[.slice (some ⟨tg, tf, none⟩) tn td, .int .i64 tx], Tk, lo, hi)] []) := ⟨fun x hx => HT.out.below (Below.trans (Below.drew (Below.refl _ _)) hx)⟩
   have HLE : Shut (∀ x, Later wr.drew x → x.cell? ⟨b4, 0, none⟩ = some (.slice (some ⟨tg, tf, none⟩) tn td) ∧ x.cell? ⟨b4, 1, none⟩ = some (.int .i64 tx) ∧ x.cell? ⟨eb, eo + i * 5, none⟩ = some (.int .i64 kind) ∧ x.cell? ⟨eb, eo + i * 5 + 1, none⟩ = some (.string path) ∧ x.cell? ⟨eb, eo + i * 5 + 2, none⟩ = some (.string dest) ∧ x.cell? ⟨eb, eo + i * 5 + 3, none⟩ = some (.int .i64 num) ∧ x.cell? ⟨eb, eo + i * 5 + 4, none⟩ = some (.int .i64 who)) := ⟨fun x hx => by
    have M := (HTX.out x hx).mb
    exact ⟨((M.at 0 rfl).1.2 0 _ rfl).1, ((M.at 0 rfl).1.2 1 _ rfl).1, (HCE.out x M.bel).1, (HCE.out x M.bel).2.1, (HCE.out x M.bel).2.2.1, (HCE.out x M.bel).2.2.2.1, (HCE.out x M.bel).2.2.2.2⟩⟩
   refine wp_region_set (fun j => decide (j = 7 ∨ j = 8 ∨ j = 9 ∨ 10 < j)) (by kernel_rfl) ?_
   refine wpD_val (i := 0) (v := ?ve1) rfl (by kernel_rfl) (by kernel_rfl) (by kernel_rfl) (by kernel_rfl) (fun _ _ _ h => h) (by rfl) ?hye1 ?reste1
   case hye1 => (intro x hx; obtain ⟨d0, d1, d2, d3, d4, d5, d6⟩ := HLE.out x hx; go_simp; try with_reducible rfl)
   try simp only [Act.put, qA, qB, qC]
   refine wpD_val (i := 1) (v := ?ve2) rfl (by kernel_rfl) (by kernel_rfl) (by kernel_rfl) (by kernel_rfl) (fun _ _ _ h => h) (by rfl) ?hye2 ?reste2
   case hye2 => (intro x hx; obtain ⟨d0, d1, d2, d3, d4, d5, d6⟩ := HLE.out x hx; go_simp; try with_reducible rfl)
   try simp only [Act.put, qA, qB, qC]
   refine wpD_val (i := 2) (v := ?ve3) rfl (by kernel_rfl) (by kernel_rfl) (by kernel_rfl) (by kernel_rfl) (fun _ _ _ h => h) (by rfl) ?hye3 ?reste3
   case hye3 => (intro x hx; obtain ⟨d0, d1, d2, d3, d4, d5, d6⟩ := HLE.out x hx; go_simp; try with_reducible rfl)
   try simp only [Act.put, qA, qB, qC]
   refine wpD_val (i := 3) (v := ?ve4) rfl (by kernel_rfl) (by kernel_rfl) (by kernel_rfl) (by kernel_rfl) (fun _ _ _ h => h) (by rfl) ?hye4 ?reste4
   case hye4 => (intro x hx; obtain ⟨d0, d1, d2, d3, d4, d5, d6⟩ := HLE.out x hx; go_simp; try with_reducible rfl)
   try simp only [Act.put, qA, qB, qC]
   refine wpD_val (i := 4) (v := ?ve5) rfl (by kernel_rfl) (by kernel_rfl) (by kernel_rfl) (by kernel_rfl) (fun _ _ _ h => h) (by rfl) ?hye5 ?reste5
   case hye5 => (intro x hx; obtain ⟨d0, d1, d2, d3, d4, d5, d6⟩ := HLE.out x hx; go_simp; try with_reducible rfl)
   try simp only [Act.put, qA, qB, qC]
   refine wpD_val (i := 5) (v := ?ve6) rfl (by kernel_rfl) (by kernel_rfl) (by kernel_rfl) (by kernel_rfl) (fun _ _ _ h => h) (by rfl) ?hye6 ?reste6
   case hye6 => (intro x hx; obtain ⟨d0, d1, d2, d3, d4, d5, d6⟩ := HLE.out x hx; go_simp; try with_reducible rfl)
   try simp only [Act.put, qA, qB, qC]
   refine wpD_callbox (f := 13) (args := #[.agg #[.slice (some ⟨tg, tf, none⟩) tn td, .int .i64 tx], .agg #[.int .i64 kind, .string path, .string dest, .int .i64 num, .int .i64 who], .int .i64 g]) (C := #[.slice none 0 0, .int .i64 0]) (t := 26) (i := 6) (j := 10) (by kernel_rfl) rfl rfl (by rfl) (by rfl) (fun x hx => by go_simp) (fun x hx => by kernel_rfl) (fun x hx => (HAP.out x _ _ _ ((HTX.out x hx).at 0 rfl).see (HTX.out x hx).bel).mono ?_) (fun x hx => ?_)
   ·rintro e y2 ⟨vv, rfl, hans, hb2⟩
    refine ⟨_, rfl, hb2, ?_⟩
    obtain ⟨g7, o7, n7, d7, rfl⟩ := tans_some hans HXOK.out.l1
    have hn9 := (see_node hans.see HXOK.out.l1).1.symm
    rw [← HXN.out.1] at hn9
    subst hn9
    rw [← HXN.out.2] at hans ⊢
    obtain ⟨lo9, hi9, hcall⟩ := (HTX.out x hx).call hans hb2
    have HY := Shut.mk hcall
    clear hcall hans hb2
    try simp only [Act.put, qA, qB, qC]
    clear hx
    refine wpD_pure (i := 7) (v := ?ve7) rfl (by kernel_rfl) (by kernel_rfl) (by kernel_rfl) (by kernel_rfl) (fun _ _ _ h => h) (by rfl) ?hye7 ?reste7
    case hye7 => (intro x; go_simp; try with_reducible rfl)
    try simp only [Act.put, qA, qB, qC]
    refine wpD_pure (i := 8) (v := ?ve8) rfl (by kernel_rfl) (by kernel_rfl) (by kernel_rfl) (by kernel_rfl) (fun _ _ _ h => h) (by rfl) ?hye8 ?reste8
    case hye8 => (intro x; go_simp; try with_reducible rfl)
    try simp only [Act.put, qA, qB, qC]
    refine wpD_pure (i := 9) (v := ?ve9) rfl (by kernel_rfl) (by kernel_rfl) (by kernel_rfl) (by kernel_rfl) (fun _ _ _ h => h) (by rfl) ?hye9 ?reste9
    case hye9 => (intro x; go_simp; try with_reducible rfl)
    try simp only [Act.put, qA, qB, qC]
    refine wpD_one (i := 10) (by kernel_rfl) rfl (by rfl) (fun x2 hx2 => ⟨.pointer (some ⟨x2.heap.size, 0, none⟩), x2.alloc (.cells #[.slice none 0 0, .int .i64 0] 26), by kernel_rfl, (Below.refl _ _).alloc (Nat.le_refl _) _, ?_⟩)
    have HY2 := Shut.mk ((HY.out.below hx2).new #[.slice none 0 0, .int .i64 0] 26)
    obtain ⟨nb, hnb⟩ : ∃ nb, nb = x2.heap.size := ⟨_, rfl⟩
    rw [← hnb] at HY2 ⊢
    clear hx2 hnb HY
    try simp only [Act.put, qA, qB, qC]
    refine wpD_tail (by kernel_rfl) ?_
    intro x5 hx5
    have HY3 := Shut.mk (HY2.out.below hx5)
    obtain ⟨q0, qf0⟩ := (HY3.out.mb.at 0 rfl).1.2 0 _ rfl
    obtain ⟨q1, qf1⟩ := (HY3.out.mb.at 0 rfl).1.2 1 _ rfl
    refine wpA_step (y := (x5.setCell ⟨nb, 0, none⟩ (.slice (some ⟨g7, o7, none⟩) xn d7)).setCell ⟨nb, 1, none⟩ (.int .i64 xx)) (i := 11) (by kernel_rfl) rfl (by rfl) (by go_simp) ?_
    have HZ := Shut.mk ((HY3.out.setBox 0 rfl 0 (.slice (some ⟨g7, o7, none⟩) xn d7) (by simp)).setBox 0 rfl 1 (.int .i64 xx) (by simp))
    clear q0 qf0 q1 qf1 hx5 HY2 HY3
    simp only [Act.put]
    refine wpA_val (i := 12) (v := .int .i64 rc) rfl (by kernel_rfl) (by kernel_rfl) (by kernel_rfl) (fun _ _ _ h => h) (by rfl) (fun x => by go_simp) ?_
    try simp only [Act.put, qA, qB, qC]
    refine wpA_done (by kernel_rfl) ?_ _
    go_wp2_with fail
    go_meet
    case rel => exact ⟨nb, g7, o7, d7, _, _, rfl, rfl, ⟨HZ.out⟩⟩
   ·have HW := Shut.mk ((HTX.out x hx).new #[.slice none 0 0, .int .i64 0] 26)
    have HSEE := Shut.mk (((HTX.out x hx).at 0 rfl).see.below ((Below.refl x.heap.size x).alloc (Nat.le_refl _) (.cells #[.slice none 0 0, .int .i64 0] 26)))
    obtain ⟨nb, hnb⟩ : ∃ nb, nb = x.heap.size := ⟨_, rfl⟩
    rw [← hnb] at HW ⊢
    generalize x.alloc (.cells #[.slice none 0 0, .int .i64 0] 26) = xw9 at HW HSEE ⊢
    clear hnb hx
    try simp only [Act.put, qA, qB, qC]
    refine wpD_onecall (f := 13) (args := #[.agg #[.slice (some ⟨tg, tf, none⟩) tn td, .int .i64 tx], .agg #[.int .i64 kind, .string path, .string dest, .int .i64 num, .int .i64 who], .int .i64 g]) (i := 6) (by kernel_rfl) rfl (by rfl) (fun x hx => by go_simp) (fun x hx => (HAP.out x _ _ _ (HSEE.out.below hx) (HW.out.below hx).bel).mono ?_)
    rintro e y2 ⟨vv, rfl, hans, hb2⟩
    refine ⟨_, rfl, hb2, ?_⟩
    obtain ⟨g7, o7, n7, d7, rfl⟩ := tans_some hans HXOK.out.l1
    have hn9 := (see_node hans.see HXOK.out.l1).1.symm
    rw [← HXN.out.1] at hn9
    subst hn9
    rw [← HXN.out.2] at hans ⊢
    obtain ⟨lo9, hi9, hcall⟩ := (HW.out.below hx).call hans hb2
    have HY := Shut.mk hcall
    clear hcall hans hb2
    try simp only [Act.put, qA, qB, qC]
    clear hx HW HSEE
    refine wpD_pure (i := 7) (v := ?ve10) rfl (by kernel_rfl) (by kernel_rfl) (by kernel_rfl) (by kernel_rfl) (fun _ _ _ h => h) (by rfl) ?hye10 ?reste10
    case hye10 => (intro x; go_simp; try with_reducible rfl)
    try simp only [Act.put, qA, qB, qC]
    refine wpD_pure (i := 8) (v := ?ve11) rfl (by kernel_rfl) (by kernel_rfl) (by kernel_rfl) (by kernel_rfl) (fun _ _ _ h => h) (by rfl) ?hye11 ?reste11
    case hye11 => (intro x; go_simp; try with_reducible rfl)
    try simp only [Act.put, qA, qB, qC]
    refine wpD_pure (i := 9) (v := ?ve12) rfl (by kernel_rfl) (by kernel_rfl) (by kernel_rfl) (by kernel_rfl) (fun _ _ _ h => h) (by rfl) ?hye12 ?reste12
    case hye12 => (intro x; go_simp; try with_reducible rfl)
    try simp only [Act.put, qA, qB, qC]
    have HY2 := HY
    clear HY
    refine wpD_tail (by kernel_rfl) ?_
    intro x5 hx5
    have HY3 := Shut.mk (HY2.out.below hx5)
    obtain ⟨q0, qf0⟩ := (HY3.out.mb.at 0 rfl).1.2 0 _ rfl
    obtain ⟨q1, qf1⟩ := (HY3.out.mb.at 0 rfl).1.2 1 _ rfl
    refine wpA_step (y := (x5.setCell ⟨nb, 0, none⟩ (.slice (some ⟨g7, o7, none⟩) xn d7)).setCell ⟨nb, 1, none⟩ (.int .i64 xx)) (i := 11) (by kernel_rfl) rfl (by rfl) (by go_simp) ?_
    have HZ := Shut.mk ((HY3.out.setBox 0 rfl 0 (.slice (some ⟨g7, o7, none⟩) xn d7) (by simp)).setBox 0 rfl 1 (.int .i64 xx) (by simp))
    clear q0 qf0 q1 qf1 hx5 HY2 HY3
    simp only [Act.put]
    refine wpA_val (i := 12) (v := .int .i64 rc) rfl (by kernel_rfl) (by kernel_rfl) (by kernel_rfl) (fun _ _ _ h => h) (by rfl) (fun x => by go_simp) ?_
    try simp only [Act.put, qA, qB, qC]
    refine wpA_done (by kernel_rfl) ?_ _
    go_wp2_with fail
    go_meet
    case rel => exact ⟨nb, g7, o7, d7, _, _, rfl, rfl, ⟨HZ.out⟩⟩
  case rest =>
  obtain ⟨b7, g7, o7, d7, lo7, hi7, rfl, rfl, hS⟩ := hcut
  clear HT
  have HT := hS
  clear hS
  obtain ⟨w5, rfl⟩ : ∃ w5, w5 = wc := ⟨_, rfl⟩
  go_upto_region 10 with fail
  refine wp_region_R Later ⟨Later.refl, Later.trans⟩ (by kernel_rfl) ?_
  have HTX : Shut (∀ x, Later w5.drew x → TL w1 x [(b7, [.slice (some ⟨g7, o7, none⟩) xn d7, .int .i64 xx]), (b4, [.slice (some ⟨tg, tf, none⟩) tn td, .int .i64 tx])] [(.agg #[.slice (some ⟨g7, o7, none⟩) xn d7, .int .i64 xx], XT, lo7, hi7), (.agg #[.slice (some ⟨tg, tf, none⟩) tn td, .int .i64 tx], Tk, lo, hi)] []) := ⟨fun x hx => HT.out.below (Below.trans (Below.drew (Below.refl _ _)) hx)⟩
  have HLE : Shut (∀ x, Later w5.drew x → x.cell? ⟨b4, 0, none⟩ = some (.slice (some ⟨tg, tf, none⟩) tn td) ∧ x.cell? ⟨b4, 1, none⟩ = some (.int .i64 tx) ∧ x.cell? ⟨eb, eo + i * 5, none⟩ = some (.int .i64 kind) ∧ x.cell? ⟨eb, eo + i * 5 + 1, none⟩ = some (.string path) ∧ x.cell? ⟨eb, eo + i * 5 + 2, none⟩ = some (.string dest) ∧ x.cell? ⟨eb, eo + i * 5 + 3, none⟩ = some (.int .i64 num) ∧ x.cell? ⟨eb, eo + i * 5 + 4, none⟩ = some (.int .i64 who)) := ⟨fun x hx => by
   have M := (HTX.out x hx).mb
   exact ⟨((M.at 1 rfl).1.2 0 _ rfl).1, ((M.at 1 rfl).1.2 1 _ rfl).1, (HCE.out x M.bel).1, (HCE.out x M.bel).2.1, (HCE.out x M.bel).2.2.1, (HCE.out x M.bel).2.2.2.1, (HCE.out x M.bel).2.2.2.2⟩⟩
  refine wpR_val ⟨Later.refl, Later.trans⟩ (i := 0) (v := ?vr1) rfl (by kernel_rfl) (by kernel_rfl) (by kernel_rfl) (fun _ _ _ h => h) (by rfl) ?hyr1 ?restr1
  case hyr1 => (intro x hx; obtain ⟨d0, d1, d2, d3, d4, d5, d6⟩ := HLE.out x hx; go_simp; try with_reducible rfl)
  try simp only [Act.put, qA, qB, qC]
  refine wpR_val ⟨Later.refl, Later.trans⟩ (i := 1) (v := ?vr2) rfl (by kernel_rfl) (by kernel_rfl) (by kernel_rfl) (fun _ _ _ h => h) (by rfl) ?hyr2 ?restr2
  case hyr2 => (intro x hx; obtain ⟨d0, d1, d2, d3, d4, d5, d6⟩ := HLE.out x hx; go_simp; try with_reducible rfl)
  try simp only [Act.put, qA, qB, qC]
  refine wpR_val ⟨Later.refl, Later.trans⟩ (i := 2) (v := ?vr3) rfl (by kernel_rfl) (by kernel_rfl) (by kernel_rfl) (fun _ _ _ h => h) (by rfl) ?hyr3 ?restr3
  case hyr3 => (intro x hx; obtain ⟨d0, d1, d2, d3, d4, d5, d6⟩ := HLE.out x hx; go_simp; try with_reducible rfl)
  try simp only [Act.put, qA, qB, qC]
  refine wpR_val ⟨Later.refl, Later.trans⟩ (i := 3) (v := ?vr4) rfl (by kernel_rfl) (by kernel_rfl) (by kernel_rfl) (fun _ _ _ h => h) (by rfl) ?hyr4 ?restr4
  case hyr4 => (intro x hx; obtain ⟨d0, d1, d2, d3, d4, d5, d6⟩ := HLE.out x hx; go_simp; try with_reducible rfl)
  try simp only [Act.put, qA, qB, qC]
  refine wpR_val ⟨Later.refl, Later.trans⟩ (i := 4) (v := ?vr5) rfl (by kernel_rfl) (by kernel_rfl) (by kernel_rfl) (fun _ _ _ h => h) (by rfl) ?hyr5 ?restr5
  case hyr5 => (intro x hx; obtain ⟨d0, d1, d2, d3, d4, d5, d6⟩ := HLE.out x hx; go_simp; try with_reducible rfl)
  try simp only [Act.put, qA, qB, qC]
  refine wpR_val ⟨Later.refl, Later.trans⟩ (i := 5) (v := ?vr6) rfl (by kernel_rfl) (by kernel_rfl) (by kernel_rfl) (fun _ _ _ h => h) (by rfl) ?hyr6 ?restr6
  case hyr6 => (intro x hx; obtain ⟨d0, d1, d2, d3, d4, d5, d6⟩ := HLE.out x hx; go_simp; try with_reducible rfl)
  try simp only [Act.put, qA, qB, qC]
  refine wpR_call ⟨Later.refl, Later.trans⟩ (i := 6) (v := .int .i64 G) (f := 15) (args := #[.agg #[.slice (some ⟨tg, tf, none⟩) tn td, .int .i64 tx], .agg #[.int .i64 kind, .string path, .string dest, .int .i64 num, .int .i64 who], .int .i64 g]) rfl (by kernel_rfl) (by kernel_rfl) (by kernel_rfl) (fun _ _ _ h => h) (by rfl) (fun x hx => by obtain ⟨d0, d1, d2, d3, d4, d5, d6⟩ := HLE.out x hx; go_simp; try with_reducible rfl) (fun x hx => HGA.out x _ _ _ ((HTX.out x hx).at 1 rfl).see) ?_
  try simp only [Act.put, qA, qB, qC]
  refine wpR_val ⟨Later.refl, Later.trans⟩ (i := 7) (v := ?vr7) rfl (by kernel_rfl) (by kernel_rfl) (by kernel_rfl) (fun _ _ _ h => h) (by rfl) ?hyr7 ?restr7
  case hyr7 => (intro x hx; obtain ⟨d0, d1, d2, d3, d4, d5, d6⟩ := HLE.out x hx; go_simp; try with_reducible rfl)
  try simp only [Act.put, qA, qB, qC]
  refine wpR_done (by kernel_rfl) ?_ _
  intro w6 hy9
  have T9 := Shut.mk (HTX.out w6 hy9)
  clear hy9 HTX HLE HT
  have HT := T9
  clear T9
  clear HAP HGA
  by_cases k7 : kind = 7
  case pos =>
   subst k7
   by_cases h0 : rc = 0
   case neg =>
    have hr0 : (rc == 0) = false := by simpa using h0
    have hr1 : (rc != 0) = true := by simpa using h0
    have hgg : (G != g) = false := by rw [HNT.out h0]; simp
    clear h0
    have k0c := (HCE.out _ HT.out.bel).1
    obtain ⟨q0, qf0⟩ := (HT.out.mb.at 1 rfl).1.2 0 _ rfl
    obtain ⟨q1, qf1⟩ := (HT.out.mb.at 1 rfl).1.2 1 _ rfl
    have p0 := ((HT.out.mb.at 0 rfl).1.2 0 _ rfl).1
    have p1 := ((HT.out.mb.at 0 rfl).1.2 1 _ rfl).1
    have HZ := Shut.mk (((HT.out.setBox 1 rfl 0 (.slice (some ⟨g7, o7, none⟩) xn d7) (by simp)).setBox 1 rfl 1 (.int .i64 xx) (by simp)).sub (L' := [(b4, [.slice (some ⟨g7, o7, none⟩) xn d7, .int .i64 xx])]) (S' := [(.agg #[.slice (some ⟨g7, o7, none⟩) xn d7, .int .i64 xx], XT, lo7, hi7)]) (List.sublist_cons_self _ _) (List.Sublist.cons_cons _ (List.nil_sublist _)))
    go_wp2_with fail
    go_roundw
    case rel => exact ⟨i + 1, G, g7, o7, xn, d7, lo7, hi7, xx, XT, rfl, by go_num, by omega, HNX, HXN, HZ⟩
    case measure => simp [intOf]; omega
   subst h0
   have HQ7 := Shut.mk (HQK.out rfl rfl)
   have k0c := (HCE.out _ HT.out.bel).1
   go_wp2_with fail
   clear k0c
   go_loopw [10] (fun kv wr => ∃ k : Nat, kv = .int .i64 k ∧ k ≤ xn ∧ Shut (TL w1 wr [(b7, [.slice (some ⟨g7, o7, none⟩) xn d7, .int .i64 xx]), (b4, [.slice (some ⟨tg, tf, none⟩) tn td, .int .i64 tx])] [(.agg #[.slice (some ⟨g7, o7, none⟩) xn d7, .int .i64 xx], XT, lo7, hi7), (.agg #[.slice (some ⟨tg, tf, none⟩) tn td, .int .i64 tx], Tk, lo, hi)] [])) (fun kv _ => xn - (intOf kv).toNat)
   case atStart => exact ⟨0, rfl, Nat.zero_le _, HT⟩
   case round =>
    clear HT
    obtain ⟨k, rfl, hkl, HT⟩ := hrel
    obtain ⟨wi, rfl⟩ : ∃ wi, wi = wr := ⟨_, rfl⟩
    have k0c := (HCE.out _ HT.out.bel).1
    by_cases hk : k < xn
    case neg =>
     have k1 : ¬ (k : Int) < (xn : Int) := by omega
     obtain ⟨q0, qf0⟩ := (HT.out.mb.at 1 rfl).1.2 0 _ rfl
     obtain ⟨q1, qf1⟩ := (HT.out.mb.at 1 rfl).1.2 1 _ rfl
     have p0 := ((HT.out.mb.at 0 rfl).1.2 0 _ rfl).1
     have p1 := ((HT.out.mb.at 0 rfl).1.2 1 _ rfl).1
     have HZ := Shut.mk (((HT.out.setBox 1 rfl 0 (.slice (some ⟨g7, o7, none⟩) xn d7) (by simp)).setBox 1 rfl 1 (.int .i64 xx) (by simp)).sub (L' := [(b4, [.slice (some ⟨g7, o7, none⟩) xn d7, .int .i64 xx])]) (S' := [(.agg #[.slice (some ⟨g7, o7, none⟩) xn d7, .int .i64 xx], XT, lo7, hi7)]) (List.sublist_cons_self _ _) (List.Sublist.cons_cons _ (List.nil_sublist _)))
     go_wp2_with fail
     go_roundw
     case rel => exact ⟨i + 1, G, g7, o7, xn, d7, lo7, hi7, xx, XT, rfl, by go_num, by omega, HNX, HXN, HZ⟩
     case measure => simp [intOf]; omega
    have k0 : (0 : Int) ≤ (k : Int) := by omega
    have k1 : (k : Int) < (xn : Int) := by omega
    have hkx : k < XT.nodes.length := by have := HXN.out.1; omega
    obtain ⟨r, hr, hn⟩ := (see_node (HT.out.at 0 rfl).see HXOK.out.l1).2.2.2 k hkx
    have HXM : Shut (r.nd ∈ XT.nodes) := ⟨by rw [hr]; exact List.getElem_mem hkx⟩
    obtain ⟨n0, n1, n2, n3, n4, n5, n6, n7, n8⟩ := hn
    have HQX := Shut.mk (HQ7.out r.nd HXM.out)
    clear hr hkx
    obtain ⟨⟨nid, npar, nnam, ndir, nsch, nquo, nlen, npcs, nwri⟩, nloc, ncap⟩ := r
    dsimp only at n0 n1 n2 n3 n4 n5 n6 n7 n8 HQX HXM
    obtain ⟨pl, hpl⟩ : ∃ n, n = npcs.length := ⟨_, rfl⟩
    rw [← hpl] at n7
    have HBL := Shut.mk (belowX_len XT nid)
    clear hpl
    have p0 := ((HT.out.mb.at 0 rfl).1.2 0 _ rfl).1
    go_upto_region 16 with fail
    obtain ⟨xb, hxb⟩ : ∃ b, b = wi.heap.size := ⟨_, rfl⟩
    rw [← hxb]
    clear n0 n1 n2 n3 n4 n5 n6 n7 n8 p0 k0c
    refine wp_shade (fun W => TL w1 W [(xb, [.int .i64 nid, .int .i64 npar, .string nnam, .bool ndir, .int .i64 nsch, .int .i64 nquo, .int .i64 nlen, .slice nloc pl ncap, .int .i64 nwri]), (b7, [.slice (some ⟨g7, o7, none⟩) xn d7, .int .i64 xx]), (b4, [.slice (some ⟨tg, tf, none⟩) tn td, .int .i64 tx])] [(.agg #[.slice (some ⟨g7, o7, none⟩) xn d7, .int .i64 xx], XT, lo7, hi7), (.agg #[.slice (some ⟨tg, tf, none⟩) tn td, .int .i64 tx], Tk, lo, hi)] []) (by rw [hxb]; exact HT.out.new #[.int .i64 nid, .int .i64 npar, .string nnam, .bool ndir, .int .i64 nsch, .int .i64 nquo, .int .i64 nlen, .slice nloc pl ncap, .int .i64 nwri] 47) ?_
    intro W9 hW9
    replace HT := Shut.mk hW9
    clear hW9 hxb
    obtain ⟨Bw, hBw⟩ : ∃ b, b = belowX XT nid := ⟨_, rfl⟩
    have HBW := Shut.mk hBw
    obtain ⟨fid, hfid⟩ : ∃ f, f = findX XT path := ⟨_, rfl⟩
    have HFD := Shut.mk hfid
    obtain ⟨ub, hub⟩ : ∃ u, u = usedX XT nid := ⟨_, rfl⟩
    have HUB := Shut.mk hub
    rw [← hBw] at HBL
    rw [← hBw, ← hfid, ← hub] at HQX
    obtain ⟨bl, hbl⟩ : ∃ n, n = Bw.length := ⟨_, rfl⟩
    have HBN := Shut.mk hbl
    obtain ⟨ins, hins⟩ : ∃ b, b = Bw.contains fid := ⟨_, rfl⟩
    have HIN := Shut.mk hins
    have HQI : Shut (0 < nquo → ins = true → ub ≤ nquo) := ⟨fun h1 h2 => HQX.out h1 (by have := HIN.out; rw [h2] at this; simpa using this.symm)⟩
    clear hBw hfid hub hbl hins HQX HXM
    go_cut [12] from 85 to 96 (fun u wq => u = .bool ins ∧ Shut (TL w1 wq [(xb, [.int .i64 nid, .int .i64 npar, .string nnam, .bool ndir, .int .i64 nsch, .int .i64 nquo, .int .i64 nlen, .slice nloc pl ncap, .int .i64 nwri]), (b7, [.slice (some ⟨g7, o7, none⟩) xn d7, .int .i64 xx]), (b4, [.slice (some ⟨tg, tf, none⟩) tn td, .int .i64 tx])] [(.agg #[.slice (some ⟨g7, o7, none⟩) xn d7, .int .i64 xx], XT, lo7, hi7), (.agg #[.slice (some ⟨tg, tf, none⟩) tn td, .int .i64 tx], Tk, lo, hi)] []))
    case first =>
     refine wp_region_R Later ⟨Later.refl, Later.trans⟩ (by kernel_rfl) ?_
     have HTX : Shut (∀ x, Later W9.drew x → TL w1 x [(xb, [.int .i64 nid, .int .i64 npar, .string nnam, .bool ndir, .int .i64 nsch, .int .i64 nquo, .int .i64 nlen, .slice nloc pl ncap, .int .i64 nwri]), (b7, [.slice (some ⟨g7, o7, none⟩) xn d7, .int .i64 xx]), (b4, [.slice (some ⟨tg, tf, none⟩) tn td, .int .i64 tx])] [(.agg #[.slice (some ⟨g7, o7, none⟩) xn d7, .int .i64 xx], XT, lo7, hi7), (.agg #[.slice (some ⟨tg, tf, none⟩) tn td, .int .i64 tx], Tk, lo, hi)] []) := ⟨fun x hx => HT.out.below (Below.trans (Below.drew (Below.refl _ _)) hx)⟩
     have HLE : Shut (∀ x, Later W9.drew x → x.cell? ⟨b7, 0, none⟩ = some (.slice (some ⟨g7, o7, none⟩) xn d7) ∧ x.cell? ⟨b7, 1, none⟩ = some (.int .i64 xx) ∧ x.cell? ⟨xb, 0, none⟩ = some (.int .i64 nid) ∧ x.cell? ⟨xb, 5, none⟩ = some (.int .i64 nquo) ∧ x.cell? ⟨eb, eo + i * 5 + 1, none⟩ = some (.string path)) := ⟨fun x hx => by
      have M := (HTX.out x hx).mb
      exact ⟨((M.at 1 rfl).1.2 0 _ rfl).1, ((M.at 1 rfl).1.2 1 _ rfl).1, ((M.at 0 rfl).1.2 0 _ rfl).1, ((M.at 0 rfl).1.2 5 _ rfl).1, (HCE.out x M.bel).2.1⟩⟩
     refine wpR_val ⟨Later.refl, Later.trans⟩ (i := 0) (v := ?vr8) rfl (by kernel_rfl) (by kernel_rfl) (by kernel_rfl) (fun _ _ _ h => h) (by rfl) ?hyr8 ?restr8
     case hyr8 => (intro x hx; obtain ⟨d0, d1, d2, d3, d4⟩ := HLE.out x hx; go_simp; try with_reducible rfl)
     try simp only [Act.put, qA, qB, qC]
     refine wpR_val ⟨Later.refl, Later.trans⟩ (i := 1) (v := ?vr9) rfl (by kernel_rfl) (by kernel_rfl) (by kernel_rfl) (fun _ _ _ h => h) (by rfl) ?hyr9 ?restr9
     case hyr9 => (intro x hx; obtain ⟨d0, d1, d2, d3, d4⟩ := HLE.out x hx; go_simp; try with_reducible rfl)
     try simp only [Act.put, qA, qB, qC]
     refine wpR_val ⟨Later.refl, Later.trans⟩ (i := 2) (v := ?vr10) rfl (by kernel_rfl) (by kernel_rfl) (by kernel_rfl) (fun _ _ _ h => h) (by rfl) ?hyr10 ?restr10
     case hyr10 => (intro x hx; obtain ⟨d0, d1, d2, d3, d4⟩ := HLE.out x hx; go_simp; try with_reducible rfl)
     try simp only [Act.put, qA, qB, qC]
     refine wpR_val ⟨Later.refl, Later.trans⟩ (i := 4) (v := ?vr11) rfl (by kernel_rfl) (by kernel_rfl) (by kernel_rfl) (fun _ _ _ h => h) (by rfl) ?hyr11 ?restr11
     case hyr11 => (intro x hx; obtain ⟨d0, d1, d2, d3, d4⟩ := HLE.out x hx; go_simp; try with_reducible rfl)
     try simp only [Act.put, qA, qB, qC]
     refine wpR_val ⟨Later.refl, Later.trans⟩ (i := 5) (v := ?vr12) rfl (by kernel_rfl) (by kernel_rfl) (by kernel_rfl) (fun _ _ _ h => h) (by rfl) ?hyr12 ?restr12
     case hyr12 => (intro x hx; obtain ⟨d0, d1, d2, d3, d4⟩ := HLE.out x hx; go_simp; try with_reducible rfl)
     try simp only [Act.put, qA, qB, qC]
     refine wpR_val ⟨Later.refl, Later.trans⟩ (i := 6) (v := ?vr13) rfl (by kernel_rfl) (by kernel_rfl) (by kernel_rfl) (fun _ _ _ h => h) (by rfl) ?hyr13 ?restr13
     case hyr13 => (intro x hx; obtain ⟨d0, d1, d2, d3, d4⟩ := HLE.out x hx; go_simp; try with_reducible rfl)
     try simp only [Act.put, qA, qB, qC]
     refine wpR_val ⟨Later.refl, Later.trans⟩ (i := 7) (v := ?vr14) rfl (by kernel_rfl) (by kernel_rfl) (by kernel_rfl) (fun _ _ _ h => h) (by rfl) ?hyr14 ?restr14
     case hyr14 => (intro x hx; obtain ⟨d0, d1, d2, d3, d4⟩ := HLE.out x hx; go_simp; try with_reducible rfl)
     try simp only [Act.put, qA, qB, qC]
     refine wpR_val ⟨Later.refl, Later.trans⟩ (i := 8) (v := ?vr15) rfl (by kernel_rfl) (by kernel_rfl) (by kernel_rfl) (fun _ _ _ h => h) (by rfl) ?hyr15 ?restr15
     case hyr15 => (intro x hx; obtain ⟨d0, d1, d2, d3, d4⟩ := HLE.out x hx; go_simp; try with_reducible rfl)
     try simp only [Act.put, qA, qB, qC]
     refine wpR_val ⟨Later.refl, Later.trans⟩ (i := 9) (v := ?vr16) rfl (by kernel_rfl) (by kernel_rfl) (by kernel_rfl) (fun _ _ _ h => h) (by rfl) ?hyr16 ?restr16
     case hyr16 => (intro x hx; obtain ⟨d0, d1, d2, d3, d4⟩ := HLE.out x hx; go_simp; try with_reducible rfl)
     try simp only [Act.put, qA, qB, qC]
     refine wpR_onecall (f := 21) (args := #[.agg #[.slice (some ⟨g7, o7, none⟩) xn d7, .int .i64 xx], .int .i64 nid]) (i := 3) (by kernel_rfl) rfl (by rfl) (fun x hx => by obtain ⟨d0, d1, d2, d3, d4⟩ := HLE.out x hx; go_simp; try with_reducible rfl) (fun x hx => (specBelowOf nid ((HTX.out x hx).at 0 rfl).see HXOK.out.fit).mono ?_)
     rintro e y5 ⟨vv, rfl, hia, hb⟩
     refine ⟨_, rfl, hb, ?_⟩
     have T9 := Shut.mk ((HTX.out x hx).below hb)
     obtain ⟨ba, bc, rfl, hbr⟩ := hia.crow
     rw [← HBW.out] at hbr ⊢
     rw [← HBN.out]
     have HBR := Shut.mk hbr
     clear hia hbr
     clear hb hx HTX HLE HT
     have HT := T9
     clear T9
     try simp only [Act.put, qA, qB, qC]
     have HTX : Shut (∀ x, Later y5 x → TL w1 x [(xb, [.int .i64 nid, .int .i64 npar, .string nnam, .bool ndir, .int .i64 nsch, .int .i64 nquo, .int .i64 nlen, .slice nloc pl ncap, .int .i64 nwri]), (b7, [.slice (some ⟨g7, o7, none⟩) xn d7, .int .i64 xx]), (b4, [.slice (some ⟨tg, tf, none⟩) tn td, .int .i64 tx])] [(.agg #[.slice (some ⟨g7, o7, none⟩) xn d7, .int .i64 xx], XT, lo7, hi7), (.agg #[.slice (some ⟨tg, tf, none⟩) tn td, .int .i64 tx], Tk, lo, hi)] []) := ⟨fun x hx => HT.out.below hx⟩
     have HLE : Shut (∀ x, Later y5 x → x.cell? ⟨b7, 0, none⟩ = some (.slice (some ⟨g7, o7, none⟩) xn d7) ∧ x.cell? ⟨b7, 1, none⟩ = some (.int .i64 xx) ∧ x.cell? ⟨xb, 0, none⟩ = some (.int .i64 nid) ∧ x.cell? ⟨xb, 5, none⟩ = some (.int .i64 nquo) ∧ x.cell? ⟨eb, eo + i * 5 + 1, none⟩ = some (.string path)) := ⟨fun x hx => by
      have M := (HTX.out x hx).mb
      exact ⟨((M.at 1 rfl).1.2 0 _ rfl).1, ((M.at 1 rfl).1.2 1 _ rfl).1, ((M.at 0 rfl).1.2 0 _ rfl).1, ((M.at 0 rfl).1.2 5 _ rfl).1, (HCE.out x M.bel).2.1⟩⟩
     refine wpR_call ⟨Later.refl, Later.trans⟩ (i := 10) (v := .int .i64 fid) (f := 20) (args := #[.agg #[.slice (some ⟨g7, o7, none⟩) xn d7, .int .i64 xx], .string path]) rfl (by kernel_rfl) (by kernel_rfl) (by kernel_rfl) (fun _ _ _ h => h) (by rfl) (fun x hx => by obtain ⟨d0, d1, d2, d3, d4⟩ := HLE.out x hx; go_simp; try with_reducible rfl) (fun x hx => (by have q := specFindPath path ((HTX.out x hx).at 0 rfl).see HXOK.out.fit HPS.out; rwa [← HFD.out] at q)) ?_
     try simp only [Act.put, qA, qB, qC]
     refine wpR_call ⟨Later.refl, Later.trans⟩ (i := 11) (v := .bool ins) (f := 38) (args := #[.slice ba bl bc, .int .i64 fid]) rfl (by kernel_rfl) (by kernel_rfl) (by kernel_rfl) (fun _ _ _ h => h) (by rfl) (fun x hx => by obtain ⟨d0, d1, d2, d3, d4⟩ := HLE.out x hx; go_simp; try with_reducible rfl) (fun x hx => (by have q := in_any (w := x) (a := ba) (xs := Bw) bc fid (HBR.out.stays hx) (by have := HBL.out; omega); rw [← HBN.out, ← HIN.out] at q; exact q.mono (by rintro e y ⟨rfl, rfl⟩; exact ⟨rfl, Later.refl _⟩))) ?_
     try simp only [Act.put, qA, qB, qC]
     refine wpR_val ⟨Later.refl, Later.trans⟩ (i := 12) (v := ?vr17) rfl (by kernel_rfl) (by kernel_rfl) (by kernel_rfl) (fun _ _ _ h => h) (by rfl) ?hyr17 ?restr17
     case hyr17 => (intro x hx; obtain ⟨d0, d1, d2, d3, d4⟩ := HLE.out x hx; go_simp; try with_reducible rfl)
     try simp only [Act.put, qA, qB, qC]
     refine wpR_done (by kernel_rfl) ?_ _
     intro y6 hy9
     have T9 := Shut.mk (HTX.out y6 hy9)
     clear hy9 HTX HLE HT
     have HT := T9
     clear T9
     go_wp2_with fail
     go_meet
     case rel => exact ⟨rfl, HT⟩
    case rest =>
    obtain ⟨rfl, hS⟩ := hcut
    clear HT
    have HT := hS
    clear hS
    obtain ⟨w8, rfl⟩ : ∃ w8, w8 = wc := ⟨_, rfl⟩
    go_upto_region 17 with fail
    by_cases hq0 : 0 < nquo
    case neg =>
     have hq1 : decide (0 < nquo) = false := by simpa using hq0
     refine wp_region_R Later ⟨Later.refl, Later.trans⟩ (by kernel_rfl) ?_
     have HTX : Shut (∀ x, Later w8.drew x → TL w1 x [(xb, [.int .i64 nid, .int .i64 npar, .string nnam, .bool ndir, .int .i64 nsch, .int .i64 nquo, .int .i64 nlen, .slice nloc pl ncap, .int .i64 nwri]), (b7, [.slice (some ⟨g7, o7, none⟩) xn d7, .int .i64 xx]), (b4, [.slice (some ⟨tg, tf, none⟩) tn td, .int .i64 tx])] [(.agg #[.slice (some ⟨g7, o7, none⟩) xn d7, .int .i64 xx], XT, lo7, hi7), (.agg #[.slice (some ⟨tg, tf, none⟩) tn td, .int .i64 tx], Tk, lo, hi)] []) := ⟨fun x hx => HT.out.below (Below.trans (Below.drew (Below.refl _ _)) hx)⟩
     have HLE : Shut (∀ x, Later w8.drew x → x.cell? ⟨b7, 0, none⟩ = some (.slice (some ⟨g7, o7, none⟩) xn d7) ∧ x.cell? ⟨b7, 1, none⟩ = some (.int .i64 xx) ∧ x.cell? ⟨xb, 0, none⟩ = some (.int .i64 nid) ∧ x.cell? ⟨xb, 5, none⟩ = some (.int .i64 nquo)) := ⟨fun x hx => by
      have M := (HTX.out x hx).mb
      exact ⟨((M.at 1 rfl).1.2 0 _ rfl).1, ((M.at 1 rfl).1.2 1 _ rfl).1, ((M.at 0 rfl).1.2 0 _ rfl).1, ((M.at 0 rfl).1.2 5 _ rfl).1⟩⟩
     refine wpR_val ⟨Later.refl, Later.trans⟩ (i := 0) (v := ?vr18) rfl (by kernel_rfl) (by kernel_rfl) (by kernel_rfl) (fun _ _ _ h => h) (by rfl) ?hyr18 ?restr18
     case hyr18 => (intro x hx; obtain ⟨d0, d1, d2, d3⟩ := HLE.out x hx; go_simp; try with_reducible rfl)
     try simp only [Act.put, qA, qB, qC]
     refine wpR_val ⟨Later.refl, Later.trans⟩ (i := 1) (v := ?vr19) rfl (by kernel_rfl) (by kernel_rfl) (by kernel_rfl) (fun _ _ _ h => h) (by rfl) ?hyr19 ?restr19
     case hyr19 => (intro x hx; obtain ⟨d0, d1, d2, d3⟩ := HLE.out x hx; go_simp; try with_reducible rfl)
     try simp only [Act.put, qA, qB, qC]
     refine wpR_val ⟨Later.refl, Later.trans⟩ (i := 2) (v := .bool false) rfl (by kernel_rfl) (by kernel_rfl) (by kernel_rfl) (fun _ _ _ h => h) (by rfl) ?hyr20 ?restr20
     case hyr20 => (intro x hx; obtain ⟨d0, d1, d2, d3⟩ := HLE.out x hx; go_simp; try with_reducible rfl)
     try simp only [Act.put, qA, qB, qC]
     refine wpR_val ⟨Later.refl, Later.trans⟩ (i := 3) (v := .bool false) rfl (by kernel_rfl) (by kernel_rfl) (by kernel_rfl) (fun _ _ _ h => h) (by rfl) ?hyr21 ?restr21
     case hyr21 => (intro x hx; obtain ⟨d0, d1, d2, d3⟩ := HLE.out x hx; go_simp; try with_reducible rfl)
     try simp only [Act.put, qA, qB, qC]
     refine wpR_skip ⟨Later.refl, Later.trans⟩ (i := 4) rfl (by kernel_rfl) (by kernel_rfl) (by kernel_rfl) (fun _ _ _ h => h) (by rfl) ?_
     try simp only [Act.put, qA, qB, qC]
     refine wpR_val ⟨Later.refl, Later.trans⟩ (i := 5) (v := .bool false) rfl (by kernel_rfl) (by kernel_rfl) (by kernel_rfl) (fun _ _ _ h => h) (by rfl) ?hyr22 ?restr22
     case hyr22 => (intro x hx; obtain ⟨d0, d1, d2, d3⟩ := HLE.out x hx; go_simp; try with_reducible rfl)
     try simp only [Act.put, qA, qB, qC]
     refine wpR_val ⟨Later.refl, Later.trans⟩ (i := 6) (v := .bool false) rfl (by kernel_rfl) (by kernel_rfl) (by kernel_rfl) (fun _ _ _ h => h) (by rfl) ?hyr23 ?restr23
     case hyr23 => (intro x hx; obtain ⟨d0, d1, d2, d3⟩ := HLE.out x hx; go_simp; try with_reducible rfl)
     try simp only [Act.put, qA, qB, qC]
     refine wpR_skip ⟨Later.refl, Later.trans⟩ (i := 7) rfl (by kernel_rfl) (by kernel_rfl) (by kernel_rfl) (fun _ _ _ h => h) (by rfl) ?_
     try simp only [Act.put, qA, qB, qC]
     refine wpR_skip ⟨Later.refl, Later.trans⟩ (i := 8) rfl (by kernel_rfl) (by kernel_rfl) (by kernel_rfl) (fun _ _ _ h => h) (by rfl) ?_
     try simp only [Act.put, qA, qB, qC]
     refine wpR_skip ⟨Later.refl, Later.trans⟩ (i := 9) rfl (by kernel_rfl) (by kernel_rfl) (by kernel_rfl) (fun _ _ _ h => h) (by rfl) ?_
     try simp only [Act.put, qA, qB, qC]
     refine wpR_skip ⟨Later.refl, Later.trans⟩ (i := 10) rfl (by kernel_rfl) (by kernel_rfl) (by kernel_rfl) (fun _ _ _ h => h) (by rfl) ?_
     try simp only [Act.put, qA, qB, qC]
     refine wpR_skip ⟨Later.refl, Later.trans⟩ (i := 11) rfl (by kernel_rfl) (by kernel_rfl) (by kernel_rfl) (fun _ _ _ h => h) (by rfl) ?_
     try simp only [Act.put, qA, qB, qC]
     refine wpR_skip ⟨Later.refl, Later.trans⟩ (i := 12) rfl (by kernel_rfl) (by kernel_rfl) (by kernel_rfl) (fun _ _ _ h => h) (by rfl) ?_
     try simp only [Act.put, qA, qB, qC]
     refine wpR_skip ⟨Later.refl, Later.trans⟩ (i := 13) rfl (by kernel_rfl) (by kernel_rfl) (by kernel_rfl) (fun _ _ _ h => h) (by rfl) ?_
     try simp only [Act.put, qA, qB, qC]
     refine wpR_val ⟨Later.refl, Later.trans⟩ (i := 14) (v := .bool false) rfl (by kernel_rfl) (by kernel_rfl) (by kernel_rfl) (fun _ _ _ h => h) (by rfl) ?hyr24 ?restr24
     case hyr24 => (intro x hx; obtain ⟨d0, d1, d2, d3⟩ := HLE.out x hx; go_simp; try with_reducible rfl)
     try simp only [Act.put, qA, qB, qC]
     refine wpR_done (by kernel_rfl) ?_ _
     intro x9 hy9
     have T9 := Shut.mk ((HTX.out x9 hy9).sub (L' := [(b7, [.slice (some ⟨g7, o7, none⟩) xn d7, .int .i64 xx]), (b4, [.slice (some ⟨tg, tf, none⟩) tn td, .int .i64 tx])]) (List.sublist_cons_self _ _) (List.Sublist.refl _))
     clear hy9 HTX HLE HT
     go_wp2_with fail
     go_roundw
     case rel => exact ⟨k + 1, by go_num, by omega, T9⟩
     case measure => simp [intOf]; omega
    have hq1 : decide (0 < nquo) = true := by simpa using hq0
    cases ins with
    | false =>
     refine wp_region_R Later ⟨Later.refl, Later.trans⟩ (by kernel_rfl) ?_
     have HTX : Shut (∀ x, Later w8.drew x → TL w1 x [(xb, [.int .i64 nid, .int .i64 npar, .string nnam, .bool ndir, .int .i64 nsch, .int .i64 nquo, .int .i64 nlen, .slice nloc pl ncap, .int .i64 nwri]), (b7, [.slice (some ⟨g7, o7, none⟩) xn d7, .int .i64 xx]), (b4, [.slice (some ⟨tg, tf, none⟩) tn td, .int .i64 tx])] [(.agg #[.slice (some ⟨g7, o7, none⟩) xn d7, .int .i64 xx], XT, lo7, hi7), (.agg #[.slice (some ⟨tg, tf, none⟩) tn td, .int .i64 tx], Tk, lo, hi)] []) := ⟨fun x hx => HT.out.below (Below.trans (Below.drew (Below.refl _ _)) hx)⟩
     have HLE : Shut (∀ x, Later w8.drew x → x.cell? ⟨b7, 0, none⟩ = some (.slice (some ⟨g7, o7, none⟩) xn d7) ∧ x.cell? ⟨b7, 1, none⟩ = some (.int .i64 xx) ∧ x.cell? ⟨xb, 0, none⟩ = some (.int .i64 nid) ∧ x.cell? ⟨xb, 5, none⟩ = some (.int .i64 nquo)) := ⟨fun x hx => by
      have M := (HTX.out x hx).mb
      exact ⟨((M.at 1 rfl).1.2 0 _ rfl).1, ((M.at 1 rfl).1.2 1 _ rfl).1, ((M.at 0 rfl).1.2 0 _ rfl).1, ((M.at 0 rfl).1.2 5 _ rfl).1⟩⟩
     refine wpR_val ⟨Later.refl, Later.trans⟩ (i := 0) (v := ?vr25) rfl (by kernel_rfl) (by kernel_rfl) (by kernel_rfl) (fun _ _ _ h => h) (by rfl) ?hyr25 ?restr25
     case hyr25 => (intro x hx; obtain ⟨d0, d1, d2, d3⟩ := HLE.out x hx; go_simp; try with_reducible rfl)
     try simp only [Act.put, qA, qB, qC]
     refine wpR_val ⟨Later.refl, Later.trans⟩ (i := 1) (v := ?vr26) rfl (by kernel_rfl) (by kernel_rfl) (by kernel_rfl) (fun _ _ _ h => h) (by rfl) ?hyr26 ?restr26
     case hyr26 => (intro x hx; obtain ⟨d0, d1, d2, d3⟩ := HLE.out x hx; go_simp; try with_reducible rfl)
     try simp only [Act.put, qA, qB, qC]
     refine wpR_val ⟨Later.refl, Later.trans⟩ (i := 2) (v := .bool true) rfl (by kernel_rfl) (by kernel_rfl) (by kernel_rfl) (fun _ _ _ h => h) (by rfl) ?hyr27 ?restr27
     case hyr27 => (intro x hx; obtain ⟨d0, d1, d2, d3⟩ := HLE.out x hx; go_simp; try with_reducible rfl)
     try simp only [Act.put, qA, qB, qC]
     refine wpR_val ⟨Later.refl, Later.trans⟩ (i := 3) (v := .bool true) rfl (by kernel_rfl) (by kernel_rfl) (by kernel_rfl) (fun _ _ _ h => h) (by rfl) ?hyr28 ?restr28
     case hyr28 => (intro x hx; obtain ⟨d0, d1, d2, d3⟩ := HLE.out x hx; go_simp; try with_reducible rfl)
     try simp only [Act.put, qA, qB, qC]
     refine wpR_val ⟨Later.refl, Later.trans⟩ (i := 4) (v := .bool false) rfl (by kernel_rfl) (by kernel_rfl) (by kernel_rfl) (fun _ _ _ h => h) (by rfl) ?hyr29 ?restr29
     case hyr29 => (intro x hx; obtain ⟨d0, d1, d2, d3⟩ := HLE.out x hx; go_simp; try with_reducible rfl)
     try simp only [Act.put, qA, qB, qC]
     refine wpR_val ⟨Later.refl, Later.trans⟩ (i := 5) (v := .bool false) rfl (by kernel_rfl) (by kernel_rfl) (by kernel_rfl) (fun _ _ _ h => h) (by rfl) ?hyr30 ?restr30
     case hyr30 => (intro x hx; obtain ⟨d0, d1, d2, d3⟩ := HLE.out x hx; go_simp; try with_reducible rfl)
     try simp only [Act.put, qA, qB, qC]
     refine wpR_val ⟨Later.refl, Later.trans⟩ (i := 6) (v := .bool false) rfl (by kernel_rfl) (by kernel_rfl) (by kernel_rfl) (fun _ _ _ h => h) (by rfl) ?hyr31 ?restr31
     case hyr31 => (intro x hx; obtain ⟨d0, d1, d2, d3⟩ := HLE.out x hx; go_simp; try with_reducible rfl)
     try simp only [Act.put, qA, qB, qC]
     refine wpR_skip ⟨Later.refl, Later.trans⟩ (i := 7) rfl (by kernel_rfl) (by kernel_rfl) (by kernel_rfl) (fun _ _ _ h => h) (by rfl) ?_
     try simp only [Act.put, qA, qB, qC]
     refine wpR_skip ⟨Later.refl, Later.trans⟩ (i := 8) rfl (by kernel_rfl) (by kernel_rfl) (by kernel_rfl) (fun _ _ _ h => h) (by rfl) ?_
     try simp only [Act.put, qA, qB, qC]
     refine wpR_skip ⟨Later.refl, Later.trans⟩ (i := 9) rfl (by kernel_rfl) (by kernel_rfl) (by kernel_rfl) (fun _ _ _ h => h) (by rfl) ?_
     try simp only [Act.put, qA, qB, qC]
     refine wpR_skip ⟨Later.refl, Later.trans⟩ (i := 10) rfl (by kernel_rfl) (by kernel_rfl) (by kernel_rfl) (fun _ _ _ h => h) (by rfl) ?_
     try simp only [Act.put, qA, qB, qC]
     refine wpR_skip ⟨Later.refl, Later.trans⟩ (i := 11) rfl (by kernel_rfl) (by kernel_rfl) (by kernel_rfl) (fun _ _ _ h => h) (by rfl) ?_
     try simp only [Act.put, qA, qB, qC]
     refine wpR_skip ⟨Later.refl, Later.trans⟩ (i := 12) rfl (by kernel_rfl) (by kernel_rfl) (by kernel_rfl) (fun _ _ _ h => h) (by rfl) ?_
     try simp only [Act.put, qA, qB, qC]
     refine wpR_skip ⟨Later.refl, Later.trans⟩ (i := 13) rfl (by kernel_rfl) (by kernel_rfl) (by kernel_rfl) (fun _ _ _ h => h) (by rfl) ?_
     try simp only [Act.put, qA, qB, qC]
     refine wpR_val ⟨Later.refl, Later.trans⟩ (i := 14) (v := .bool false) rfl (by kernel_rfl) (by kernel_rfl) (by kernel_rfl) (fun _ _ _ h => h) (by rfl) ?hyr32 ?restr32
     case hyr32 => (intro x hx; obtain ⟨d0, d1, d2, d3⟩ := HLE.out x hx; go_simp; try with_reducible rfl)
     try simp only [Act.put, qA, qB, qC]
     refine wpR_done (by kernel_rfl) ?_ _
     intro x9 hy9
     have T9 := Shut.mk ((HTX.out x9 hy9).sub (L' := [(b7, [.slice (some ⟨g7, o7, none⟩) xn d7, .int .i64 xx]), (b4, [.slice (some ⟨tg, tf, none⟩) tn td, .int .i64 tx])]) (List.sublist_cons_self _ _) (List.Sublist.refl _))
     clear hy9 HTX HLE HT
     go_wp2_with fail
     go_roundw
     case rel => exact ⟨k + 1, by go_num, by omega, T9⟩
     case measure => simp [intOf]; omega
    | true =>
    have hle := HQI.out hq0 rfl
    have hg1 : ¬ nquo < ub := by omega
    have hg2 : decide (nquo < ub) = false := by simpa using hg1
    clear hle
    refine wp_region_R Later ⟨Later.refl, Later.trans⟩ (by kernel_rfl) ?_
    have HTX : Shut (∀ x, Later w8.drew x → TL w1 x [(xb, [.int .i64 nid, .int .i64 npar, .string nnam, .bool ndir, .int .i64 nsch, .int .i64 nquo, .int .i64 nlen, .slice nloc pl ncap, .int .i64 nwri]), (b7, [.slice (some ⟨g7, o7, none⟩) xn d7, .int .i64 xx]), (b4, [.slice (some ⟨tg, tf, none⟩) tn td, .int .i64 tx])] [(.agg #[.slice (some ⟨g7, o7, none⟩) xn d7, .int .i64 xx], XT, lo7, hi7), (.agg #[.slice (some ⟨tg, tf, none⟩) tn td, .int .i64 tx], Tk, lo, hi)] []) := ⟨fun x hx => HT.out.below (Below.trans (Below.drew (Below.refl _ _)) hx)⟩
    have HLE : Shut (∀ x, Later w8.drew x → x.cell? ⟨b7, 0, none⟩ = some (.slice (some ⟨g7, o7, none⟩) xn d7) ∧ x.cell? ⟨b7, 1, none⟩ = some (.int .i64 xx) ∧ x.cell? ⟨xb, 0, none⟩ = some (.int .i64 nid) ∧ x.cell? ⟨xb, 5, none⟩ = some (.int .i64 nquo)) := ⟨fun x hx => by
     have M := (HTX.out x hx).mb
     exact ⟨((M.at 1 rfl).1.2 0 _ rfl).1, ((M.at 1 rfl).1.2 1 _ rfl).1, ((M.at 0 rfl).1.2 0 _ rfl).1, ((M.at 0 rfl).1.2 5 _ rfl).1⟩⟩
    refine wpR_val ⟨Later.refl, Later.trans⟩ (i := 0) (v := ?vr33) rfl (by kernel_rfl) (by kernel_rfl) (by kernel_rfl) (fun _ _ _ h => h) (by rfl) ?hyr33 ?restr33
    case hyr33 => (intro x hx; obtain ⟨d0, d1, d2, d3⟩ := HLE.out x hx; go_simp; try with_reducible rfl)
    try simp only [Act.put, qA, qB, qC]
    refine wpR_val ⟨Later.refl, Later.trans⟩ (i := 1) (v := ?vr34) rfl (by kernel_rfl) (by kernel_rfl) (by kernel_rfl) (fun _ _ _ h => h) (by rfl) ?hyr34 ?restr34
    case hyr34 => (intro x hx; obtain ⟨d0, d1, d2, d3⟩ := HLE.out x hx; go_simp; try with_reducible rfl)
    try simp only [Act.put, qA, qB, qC]
    refine wpR_val ⟨Later.refl, Later.trans⟩ (i := 2) (v := .bool true) rfl (by kernel_rfl) (by kernel_rfl) (by kernel_rfl) (fun _ _ _ h => h) (by rfl) ?hyr35 ?restr35
    case hyr35 => (intro x hx; obtain ⟨d0, d1, d2, d3⟩ := HLE.out x hx; go_simp; try with_reducible rfl)
    try simp only [Act.put, qA, qB, qC]
    refine wpR_val ⟨Later.refl, Later.trans⟩ (i := 3) (v := .bool true) rfl (by kernel_rfl) (by kernel_rfl) (by kernel_rfl) (fun _ _ _ h => h) (by rfl) ?hyr36 ?restr36
    case hyr36 => (intro x hx; obtain ⟨d0, d1, d2, d3⟩ := HLE.out x hx; go_simp; try with_reducible rfl)
    try simp only [Act.put, qA, qB, qC]
    refine wpR_val ⟨Later.refl, Later.trans⟩ (i := 4) (v := .bool true) rfl (by kernel_rfl) (by kernel_rfl) (by kernel_rfl) (fun _ _ _ h => h) (by rfl) ?hyr37 ?restr37
    case hyr37 => (intro x hx; obtain ⟨d0, d1, d2, d3⟩ := HLE.out x hx; go_simp; try with_reducible rfl)
    try simp only [Act.put, qA, qB, qC]
    refine wpR_val ⟨Later.refl, Later.trans⟩ (i := 5) (v := .bool true) rfl (by kernel_rfl) (by kernel_rfl) (by kernel_rfl) (fun _ _ _ h => h) (by rfl) ?hyr38 ?restr38
    case hyr38 => (intro x hx; obtain ⟨d0, d1, d2, d3⟩ := HLE.out x hx; go_simp; try with_reducible rfl)
    try simp only [Act.put, qA, qB, qC]
    refine wpR_val ⟨Later.refl, Later.trans⟩ (i := 6) (v := .bool true) rfl (by kernel_rfl) (by kernel_rfl) (by kernel_rfl) (fun _ _ _ h => h) (by rfl) ?hyr39 ?restr39
    case hyr39 => (intro x hx; obtain ⟨d0, d1, d2, d3⟩ := HLE.out x hx; go_simp; try with_reducible rfl)
    try simp only [Act.put, qA, qB, qC]
    refine wpR_val ⟨Later.refl, Later.trans⟩ (i := 7) (v := ?vr40) rfl (by kernel_rfl) (by kernel_rfl) (by kernel_rfl) (fun _ _ _ h => h) (by rfl) ?hyr40 ?restr40
    case hyr40 => (intro x hx; obtain ⟨d0, d1, d2, d3⟩ := HLE.out x hx; go_simp; try with_reducible rfl)
    try simp only [Act.put, qA, qB, qC]
    refine wpR_val ⟨Later.refl, Later.trans⟩ (i := 8) (v := ?vr41) rfl (by kernel_rfl) (by kernel_rfl) (by kernel_rfl) (fun _ _ _ h => h) (by rfl) ?hyr41 ?restr41
    case hyr41 => (intro x hx; obtain ⟨d0, d1, d2, d3⟩ := HLE.out x hx; go_simp; try with_reducible rfl)
    try simp only [Act.put, qA, qB, qC]
    refine wpR_val ⟨Later.refl, Later.trans⟩ (i := 9) (v := ?vr42) rfl (by kernel_rfl) (by kernel_rfl) (by kernel_rfl) (fun _ _ _ h => h) (by rfl) ?hyr42 ?restr42
    case hyr42 => (intro x hx; obtain ⟨d0, d1, d2, d3⟩ := HLE.out x hx; go_simp; try with_reducible rfl)
    try simp only [Act.put, qA, qB, qC]
    refine wpR_call ⟨Later.refl, Later.trans⟩ (i := 10) (v := .int .i64 ub) (f := 22) (args := #[.agg #[.slice (some ⟨g7, o7, none⟩) xn d7, .int .i64 xx], .int .i64 nid]) rfl (by kernel_rfl) (by kernel_rfl) (by kernel_rfl) (fun _ _ _ h => h) (by rfl) (fun x hx => by obtain ⟨d0, d1, d2, d3⟩ := HLE.out x hx; go_simp; try with_reducible rfl) (fun x hx => (by have q := implUsedBelow x _ XT _ _ nid ((HTX.out x hx).at 0 rfl).see HXOK.out.fit HXOK.out.int; rwa [← HUB.out] at q)) ?_
    try simp only [Act.put, qA, qB, qC]
    refine wpR_val ⟨Later.refl, Later.trans⟩ (i := 11) (v := ?vr43) rfl (by kernel_rfl) (by kernel_rfl) (by kernel_rfl) (fun _ _ _ h => h) (by rfl) ?hyr43 ?restr43
    case hyr43 => (intro x hx; obtain ⟨d0, d1, d2, d3⟩ := HLE.out x hx; go_simp; try with_reducible rfl)
    try simp only [Act.put, qA, qB, qC]
    refine wpR_val ⟨Later.refl, Later.trans⟩ (i := 12) (v := ?vr44) rfl (by kernel_rfl) (by kernel_rfl) (by kernel_rfl) (fun _ _ _ h => h) (by rfl) ?hyr44 ?restr44
    case hyr44 => (intro x hx; obtain ⟨d0, d1, d2, d3⟩ := HLE.out x hx; go_simp; try with_reducible rfl)
    try simp only [Act.put, qA, qB, qC]
    refine wpR_val ⟨Later.refl, Later.trans⟩ (i := 13) (v := .bool false) rfl (by kernel_rfl) (by kernel_rfl) (by kernel_rfl) (fun _ _ _ h => h) (by rfl) ?hyr45 ?restr45
    case hyr45 => (intro x hx; obtain ⟨d0, d1, d2, d3⟩ := HLE.out x hx; go_simp; try with_reducible rfl)
    try simp only [Act.put, qA, qB, qC]
    refine wpR_val ⟨Later.refl, Later.trans⟩ (i := 14) (v := .bool false) rfl (by kernel_rfl) (by kernel_rfl) (by kernel_rfl) (fun _ _ _ h => h) (by rfl) ?hyr46 ?restr46
    case hyr46 => (intro x hx; obtain ⟨d0, d1, d2, d3⟩ := HLE.out x hx; go_simp; try with_reducible rfl)
    try simp only [Act.put, qA, qB, qC]
    refine wpR_done (by kernel_rfl) ?_ _
    intro x9 hy9
    have T9 := Shut.mk ((HTX.out x9 hy9).sub (L' := [(b7, [.slice (some ⟨g7, o7, none⟩) xn d7, .int .i64 xx]), (b4, [.slice (some ⟨tg, tf, none⟩) tn td, .int .i64 tx])]) (List.sublist_cons_self _ _) (List.Sublist.refl _))
    clear hy9 HTX HLE HT
    go_wp2_with fail
    go_roundw
    case rel => exact ⟨k + 1, by go_num, by omega, T9⟩
    case measure => simp [intOf]; omega
  have kb7 : (kind == 7) = false := by simpa using k7
  by_cases k6 : kind = 6
  case pos =>
   subst k6
   by_cases h0 : rc = 0
   case neg =>
    have hr0 : (rc == 0) = false := by simpa using h0
    have hr1 : (rc != 0) = true := by simpa using h0
    have hgg : (G != g) = false := by rw [HNT.out h0]; simp
    clear h0
    have k0c := (HCE.out _ HT.out.bel).1
    obtain ⟨q0, qf0⟩ := (HT.out.mb.at 1 rfl).1.2 0 _ rfl
    obtain ⟨q1, qf1⟩ := (HT.out.mb.at 1 rfl).1.2 1 _ rfl
    have p0 := ((HT.out.mb.at 0 rfl).1.2 0 _ rfl).1
    have p1 := ((HT.out.mb.at 0 rfl).1.2 1 _ rfl).1
    have HZ := Shut.mk (((HT.out.setBox 1 rfl 0 (.slice (some ⟨g7, o7, none⟩) xn d7) (by simp)).setBox 1 rfl 1 (.int .i64 xx) (by simp)).sub (L' := [(b4, [.slice (some ⟨g7, o7, none⟩) xn d7, .int .i64 xx])]) (S' := [(.agg #[.slice (some ⟨g7, o7, none⟩) xn d7, .int .i64 xx], XT, lo7, hi7)]) (List.sublist_cons_self _ _) (List.Sublist.cons_cons _ (List.nil_sublist _)))
    go_wp2_with fail
    go_roundw
    case rel => exact ⟨i + 1, G, g7, o7, xn, d7, lo7, hi7, xx, XT, rfl, by go_num, by omega, HNX, HXN, HZ⟩
    case measure => simp [intOf]; omega
   subst h0
   have k0c := (HCE.out _ HT.out.bel).1
   have p0 := ((HT.out.mb.at 0 rfl).1.2 0 _ rfl).1
   have xn1 : 0 < xn := by have := HXOK.out.l1; have := HXN.out.1; omega
   go_wp2_with fail
   go_loopw [10] (fun kv wr => kv = .int .i64 0 ∧ Shut (TL w1 wr [(b7, [.slice (some ⟨g7, o7, none⟩) xn d7, .int .i64 xx]), (b4, [.slice (some ⟨tg, tf, none⟩) tn td, .int .i64 tx])] [(.agg #[.slice (some ⟨g7, o7, none⟩) xn d7, .int .i64 xx], XT, lo7, hi7), (.agg #[.slice (some ⟨tg, tf, none⟩) tn td, .int .i64 tx], Tk, lo, hi)] [])) (fun kv _ => 1)
   case atStart => exact ⟨rfl, HT⟩
   case round =>
    clear HT k0c p0
    obtain ⟨rfl, HT⟩ := hrel
    have k0c := (HCE.out _ HT.out.bel).1
    obtain ⟨q0, qf0⟩ := (HT.out.mb.at 1 rfl).1.2 0 _ rfl
    obtain ⟨q1, qf1⟩ := (HT.out.mb.at 1 rfl).1.2 1 _ rfl
    have p0 := ((HT.out.mb.at 0 rfl).1.2 0 _ rfl).1
    have p1 := ((HT.out.mb.at 0 rfl).1.2 1 _ rfl).1
    have HZ := Shut.mk (((HT.out.setBox 1 rfl 0 (.slice (some ⟨g7, o7, none⟩) xn d7) (by simp)).setBox 1 rfl 1 (.int .i64 xx) (by simp)).sub (L' := [(b4, [.slice (some ⟨g7, o7, none⟩) xn d7, .int .i64 xx])]) (S' := [(.agg #[.slice (some ⟨g7, o7, none⟩) xn d7, .int .i64 xx], XT, lo7, hi7)]) (List.sublist_cons_self _ _) (List.Sublist.cons_cons _ (List.nil_sublist _)))
    go_wp2_with fail
    go_roundw
    case rel => exact ⟨i + 1, G, g7, o7, xn, d7, lo7, hi7, xx, XT, rfl, by go_num, by omega, HNX, HXN, HZ⟩
    case measure => simp [intOf]; omega
  have kb6 : (kind == 6) = false := by simpa using k6
  by_cases h0 : rc = 0
  case neg =>
   have hr0 : (rc == 0) = false := by simpa using h0
   have hr1 : (rc != 0) = true := by simpa using h0
   have hgg : (G != g) = false := by rw [HNT.out h0]; simp
   clear h0
   have k0c := (HCE.out _ HT.out.bel).1
   obtain ⟨q0, qf0⟩ := (HT.out.mb.at 1 rfl).1.2 0 _ rfl
   obtain ⟨q1, qf1⟩ := (HT.out.mb.at 1 rfl).1.2 1 _ rfl
   have p0 := ((HT.out.mb.at 0 rfl).1.2 0 _ rfl).1
   have p1 := ((HT.out.mb.at 0 rfl).1.2 1 _ rfl).1
   have HZ := Shut.mk (((HT.out.setBox 1 rfl 0 (.slice (some ⟨g7, o7, none⟩) xn d7) (by simp)).setBox 1 rfl 1 (.int .i64 xx) (by simp)).sub (L' := [(b4, [.slice (some ⟨g7, o7, none⟩) xn d7, .int .i64 xx])]) (S' := [(.agg #[.slice (some ⟨g7, o7, none⟩) xn d7, .int .i64 xx], XT, lo7, hi7)]) (List.sublist_cons_self _ _) (List.Sublist.cons_cons _ (List.nil_sublist _)))
   go_wp2_with fail
   go_roundw
   case rel => exact ⟨i + 1, G, g7, o7, xn, d7, lo7, hi7, xx, XT, rfl, by go_num, by omega, HNX, HXN, HZ⟩
   case measure => simp [intOf]; omega
  subst h0
  have k0c := (HCE.out _ HT.out.bel).1
  obtain ⟨q0, qf0⟩ := (HT.out.mb.at 1 rfl).1.2 0 _ rfl
  obtain ⟨q1, qf1⟩ := (HT.out.mb.at 1 rfl).1.2 1 _ rfl
  have p0 := ((HT.out.mb.at 0 rfl).1.2 0 _ rfl).1
  have p1 := ((HT.out.mb.at 0 rfl).1.2 1 _ rfl).1
  have HZ := Shut.mk (((HT.out.setBox 1 rfl 0 (.slice (some ⟨g7, o7, none⟩) xn d7) (by simp)).setBox 1 rfl 1 (.int .i64 xx) (by simp)).sub (L' := [(b4, [.slice (some ⟨g7, o7, none⟩) xn d7, .int .i64 xx])]) (S' := [(.agg #[.slice (some ⟨g7, o7, none⟩) xn d7, .int .i64 xx], XT, lo7, hi7)]) (List.sublist_cons_self _ _) (List.Sublist.cons_cons _ (List.nil_sublist _)))
  go_wp2_with fail
  go_roundw
  case rel => exact ⟨i + 1, G, g7, o7, xn, d7, lo7, hi7, xx, XT, rfl, by go_num, by omega, HNX, HXN, HZ⟩
  case measure => simp [intOf]; omega
end Go.Proofs.YtakhagkhngmpaaaGreat
