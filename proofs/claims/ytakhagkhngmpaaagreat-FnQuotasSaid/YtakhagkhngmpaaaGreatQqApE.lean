/- Texts of ours, laid one behind the other: ApE. -/
import Derived.Test.YtakhagkhngmpaaaGreatQqApB
import Derived.Deep.AppendLies
import Derived.Deep.RegionLaw
/- ApE: . -/
namespace Go.Proofs.YtakhagkhngmpaaaGreat
set_option maxRecDepth 100000
open Go.RowKit BigFrame
attribute [local go_sem ↓] Go.wp_at_zero Go.wp_at_succ
structure DR (w W : World) (L : List (Nat × List Value)) (B C n cap2 g2 : Nat) (v : Value) (rs2 gs : List NR) : Prop where
 mb : MB w W L
 nb : NB W B (.slice (some ⟨g2, 0, none⟩) n cap2) rs2
 own : W.ownsRow C 47 9 v gs.length (ncs gs)
theorem DR.below {w W W' : World} {L : List (Nat × List Value)} {B C n cap2 g2 : Nat} {v : Value} {rs2 gs : List NR} (h : DR w W L B C n cap2 g2 v rs2 gs) (hb : Below W.heap.size W W') : DR w W' L B C n cap2 g2 v rs2 gs :=
 ⟨h.mb.below hb, h.nb.below hb, h.own.kept (row := none) ⟨hb.os, hb.tape, hb.output, hb.size, fun k hk _ => hb.block k hk⟩ (by
  cases e : v.ownBlock with
  | none => exact .inl rfl
  | some k => exact .inr (by simp))⟩
theorem DR.app {w W w5 : World} {L : List (Nat × List Value)} {B C n cap2 g2 ob gg cap1 : Nat} {v nv : Value} {rs2 gs : List NR} {r : NR} {o : Obj} (h : DR w W L B C n cap2 g2 v rs2 gs) (hi : L[1]? = some (ob, [v, nv])) (hb : ob < B) (hBC : B ≤ C) (hL : ∀ p ∈ L, p.1 < C) (hwC : w.heap.size ≤ C) (hg2 : g2 < C) (hlt : ∀ r ∈ rs2, ∀ a, r.loc = some a → a.block < C)
  (hgrow : ((W.alloc o).drew).grownBy w5 v.ownBlock) (ho : w5.ownsRow C 47 9 (.slice (some ⟨gg, 0, none⟩) (gs.length + 1) cap1) (gs.length + 1) (ncs gs ++ ncells r)) :
  DR w (w5.setCell ⟨ob, 0, none⟩ (.slice (some ⟨gg, 0, none⟩) (gs.length + 1) cap1)) (L.set 1 (ob, [.slice (some ⟨gg, 0, none⟩) (gs.length + 1) cap1, nv])) B C n cap2 g2 (.slice (some ⟨gg, 0, none⟩) (gs.length + 1) cap1) rs2 (gs ++ [r]) := by
 have hba : Below W.heap.size W (W.alloc o).drew := ((Below.refl _ _).alloc (Nat.le_refl _) _).drew
 have hq : ∀ k, v.ownBlock = some k → C ≤ k := fun k e => (h.own.lt k e).1
 have hgg := (ho.lt gg rfl).1
 refine ⟨?_, ?_, ?_⟩
 ·exact ((h.mb.below hba).far hgrow (fun p hp e => by have := hL p hp; have := hq p.1 e; omega) (fun k e => by have := hq k e; omega)).put 1 hi 0 _ (by simp)
 ·exact ((h.nb.below hba).beyond hgrow hq (fun k e => by simp [Value.ownBlock] at e; omega) hlt).setBox ob 0 _ hb
 ·have e : ncs (gs ++ [r]) = ncs gs ++ ncells r := by simp [ncs]
  rw [e, List.length_append, List.length_singleton]
  exact ho.kept (gb_set' _ _ _ _) (.inr (by simp [Value.ownBlock]; omega))
theorem DR.fin {w W : World} {L : List (Nat × List Value)} {B C n cap2 g2 : Nat} {v : Value} {rs2 gs : List NR} (h : DR w W L B C n cap2 g2 v rs2 gs) (hs : gs.Sublist rs2) (hBC : B ≤ C) : NB W B v gs :=
 ⟨own_lower h.own hBC, fun r hr => h.nb.rows r (hs.subset hr), h.nb.apart.sublist hs⟩
theorem filt_takz (f : NR → Bool) (rs : List NR) (k : Nat) (h : k < rs.length) : (rs.take (k + 1)).filter f = (rs.take k).filter f ++ (if f rs[k] then [rs[k]] else []) := by
 rw [List.take_succ_eq_append_getElem h, List.filter_append]
 congr 1
 cases hf : f rs[k] <;> simp [hf]
set_option maxHeartbeats 4000000 in
theorem specDrop {w : World} {v : Value} {T : TM} {lo hi : Nat} (id : Int) (h : TSee w v T lo hi) (hf : NFit T) (h1n : 1 ≤ T.nodes.length) : Calls Tryz.prog 65 #[v, .int .i64 id] w fun r w' => TrPost (dropT T id) w r w' := by
 have hl : T.nodes.length ≤ 1048576 := by unfold NFit at hf; omega
 have HBL := Shut.mk (fun (i j : Int) (W : World) (hb : Below w.heap.size w W) => specBelow i j (h.below hb) hf)
 have HCP := Shut.mk (fun (W : World) (n : Nat) (hn : n = T.nodes.length) (hb : Below w.heap.size w W) => specCopyN (h.below hb) hf hn)
 obtain ⟨a, cap, rs, rfl, hr, hm⟩ := h
 obtain ⟨nodes, nx⟩ := T
 dsimp only at *
 subst hr
 rw [nds_len] at h1n
 obtain ⟨b, off, rfl, lb, -⟩ := see_at hm 0 (by omega)
 obtain ⟨n, hn⟩ : ∃ n, n = rs.length := ⟨_, rfl⟩
 have hn0 : n ≠ 0 := by omega
 have hn' : n ≤ 1048576 := by rw [nds_len] at hl; omega
 rw [← hn] at HBL HCP ⊢
 have HN := Shut.mk hn
 clear hn hm hf hl h1n
 obtain ⟨p, hpd⟩ : ∃ p : NR → Bool, p = fun r => !belowF (nds rs) 15 r.nd.id id := ⟨_, rfl⟩
 have HPD : Shut (∀ r, p r = !belowF (nds rs) 15 r.nd.id id) := ⟨fun r => by rw [hpd]⟩
 clear hpd
 obtain ⟨i0, hin, hz0, hz1', hz2⟩ := info_parts infoNode
 have HM0 := Shut.mk (MB.three w #[.slice (some ⟨b, off, none⟩) n cap, .int .i64 nx] #[.slice none 0 0, .int .i64 0] #[.slice none 0 0, .int .i64 nx] 26 26 26)
 obtain ⟨DT, hDT⟩ : ∃ D, D = dropT ⟨nds rs, nx⟩ id := ⟨_, rfl⟩
 rw [← hDT]
 have HDT := Shut.mk hDT
 clear hDT
 go_enter Tryz.func65, Tryz.ntmps65
 go_upto_region 2 with fail
 refine wp_shade (fun W => MB w W [(w.heap.size + 1 + 1, [.slice none 0 0, .int .i64 nx]), (w.heap.size + 1, [.slice none 0 0, .int .i64 0]), (w.heap.size, [.slice (some ⟨b, off, none⟩) n cap, .int .i64 nx])]) HM0.out ?_
 intro W0 hM
 have HM := Shut.mk hM
 clear hM HM0
 have x0 := ((HM.out.at 2 rfl).1.2 0 _ rfl).1
 have x1 := ((HM.out.at 2 rfl).1.2 1 _ rfl).1
 have hsw := Shut.mk (HM.out.at 0 rfl).1.1
 have hsw0 := Shut.mk HM.out.bel.size
 have HC := Shut.mk (HCP.out W0 n (by rw [nds_len]; exact HN.out) HM.out.bel)
 go_upto_region 3 with (go_at_call 62; refine HC.out.mono ?_; rintro e w1 ⟨a2, cap2, rs2, rfl, hl2, hr2, hnb, hb1⟩; have HR2 := Shut.mk (And.intro hl2 hr2); have HNB := Shut.mk hnb; replace HM := Shut.mk (HM.out.below hb1); clear hl2 hr2 hnb x0 x1; have HB1 := Shut.mk hb1; clear hb1)
 obtain ⟨g2, rfl, hg2, hg2', -⟩ := HNB.out.blk HR2.out.1 hn0
 have HG2 := Shut.mk (And.intro hg2 hg2')
 have HLT2 := Shut.mk HNB.out.lts
 clear hg2 hg2'
 have hsz1 : (w1.alloc (.cells #[.slice (some ⟨g2, 0, none⟩) n cap2, .int .i64 nx] 26)).heap.size = w1.heap.size + 1 := by simp
 have HD0 : Shut (DR w (w1.alloc (.cells #[.slice (some ⟨g2, 0, none⟩) n cap2, .int .i64 nx] 26)) [(w1.heap.size, [.slice (some ⟨g2, 0, none⟩) n cap2, .int .i64 nx]), (w.heap.size + 1 + 1, [.slice none 0 0, .int .i64 nx]), (w.heap.size + 1, [.slice none 0 0, .int .i64 0]), (w.heap.size, [.slice (some ⟨b, off, none⟩) n cap, .int .i64 nx])] W0.heap.size (w1.heap.size + 1) n cap2 g2 (.slice none 0 0) rs2 []) := ⟨HM.out.new _ _, HNB.out.below ((Below.refl _ _).alloc (Nat.le_refl _) _), by simpa [ncs] using World.ownsRow_nil _ _ _ _⟩
 refine wp_shade (fun W => DR w W [(w1.heap.size, [.slice (some ⟨g2, 0, none⟩) n cap2, .int .i64 nx]), (w.heap.size + 1 + 1, [.slice none 0 0, .int .i64 nx]), (w.heap.size + 1, [.slice none 0 0, .int .i64 0]), (w.heap.size, [.slice (some ⟨b, off, none⟩) n cap, .int .i64 nx])] W0.heap.size (w1.heap.size + 1) n cap2 g2 (.slice none 0 0) rs2 []) HD0.out ?_
 rintro W1 hD
 have HD := Shut.mk hD
 clear hD HD0 HM HNB HC hsz1
 go_wp2_with fail
 go_loopw [7] (fun i wr => ∃ (k : Nat) (vv : Value), i = .int .i64 k ∧ k ≤ n ∧ Shut (DR w wr [(w1.heap.size, [.slice (some ⟨g2, 0, none⟩) n cap2, .int .i64 nx]), (w.heap.size + 1 + 1, [vv, .int .i64 nx]), (w.heap.size + 1, [.slice none 0 0, .int .i64 0]), (w.heap.size, [.slice (some ⟨b, off, none⟩) n cap, .int .i64 nx])] W0.heap.size (w1.heap.size + 1) n cap2 g2 vv rs2 ((rs2.take k).filter p))) (fun i _ => n - (intOf i).toNat)
 case atStart => exact ⟨0, _, rfl, Nat.zero_le _, ⟨by simpa using HD.out⟩⟩
 case round =>
  clear HD
  obtain ⟨k, vv, rfl, hk, hD⟩ := hrel
  have z0 := ((hD.out.mb.at 0 rfl).1.2 0 _ rfl).1
  have k0 : (0 : Int) ≤ (k : Int) := by omega
  by_cases hlt : k < n
  ·have k1 : (k : Int) < (n : Int) := by omega
   have hk2 : k < rs2.length := by rw [HR2.out.1]; exact hlt
   have hstep := filt_takz p rs2 k hk2
   have HRK : Shut (rs2[k]? = some rs2[k]) := ⟨by simp⟩
   obtain ⟨r, hre⟩ : ∃ r, r = rs2[k] := ⟨_, rfl⟩
   rw [← hre] at hstep HRK
   have HST := Shut.mk hstep
   clear hstep hre
   have HPR := Shut.mk (HPD.out r)
   obtain ⟨⟨id9, parent9, name9, dir9, schema9, quota9, len9, pieces9, writer9⟩, loc9, cp9⟩ := r
   dsimp only at HPR
   have HBL2 := Shut.mk (fun (x : World) (hx : Below w.heap.size w x) => HBL.out id9 id x hx)
   obtain ⟨bl, hbl⟩ : ∃ q, q = belowF (nds rs) 15 id9 id := ⟨_, rfl⟩
   rw [← hbl] at HPR HBL2
   clear hbl
   go_upto_region 6 with fail
   have HLE : Shut (∀ x, Later wr.drew x → x.cell? ⟨w1.heap.size, 0, none⟩ = some (.slice (some ⟨g2, 0, none⟩) n cap2) ∧ x.cell? ⟨w.heap.size, 0, none⟩ = some (.slice (some ⟨b, off, none⟩) n cap) ∧ x.cell? ⟨w.heap.size, 1, none⟩ = some (.int .i64 nx) ∧ x.cell? ⟨g2, k * 9, none⟩ = some (.int .i64 id9)) := ⟨fun x hx => by
    have D := hD.out.below (Below.trans (Below.drew (Below.refl _ _)) hx)
    exact ⟨((D.mb.at 0 rfl).1.2 0 _ rfl).1, ((D.mb.at 3 rfl).1.2 0 _ rfl).1, ((D.mb.at 3 rfl).1.2 1 _ rfl).1, (D.nb.cellK HR2.out.1 HRK.out 0 _ rfl).1⟩⟩
   have HBX : Shut (∀ x, Later wr.drew x → Below w.heap.size w x) := ⟨fun x hx => (hD.out.below (Below.trans (Below.drew (Below.refl _ _)) hx)).mb.bel⟩
   refine wp_region_later (by kernel_rfl) ?_
   refine wpL_val (i := 0) (v := ?va0) rfl (by kernel_rfl) (by kernel_rfl) (by kernel_rfl) (fun _ _ _ h => h) (by rfl) ?hya0 ?resta0
   case hya0 => (intro x hx; obtain ⟨d0, d1, d2, d3⟩ := HLE.out x hx; go_simp; try with_reducible rfl)
   try simp only [Act.put, qA, qB, qC]
   refine wpL_val (i := 1) (v := ?va1) rfl (by kernel_rfl) (by kernel_rfl) (by kernel_rfl) (fun _ _ _ h => h) (by rfl) ?hya1 ?resta1
   case hya1 => (intro x hx; obtain ⟨d0, d1, d2, d3⟩ := HLE.out x hx; go_simp; try with_reducible rfl)
   try simp only [Act.put, qA, qB, qC]
   refine wpL_val (i := 2) (v := ?va2) rfl (by kernel_rfl) (by kernel_rfl) (by kernel_rfl) (fun _ _ _ h => h) (by rfl) ?hya2 ?resta2
   case hya2 => (intro x hx; obtain ⟨d0, d1, d2, d3⟩ := HLE.out x hx; go_simp; try with_reducible rfl)
   try simp only [Act.put, qA, qB, qC]
   refine wpL_val (i := 3) (v := ?va3) rfl (by kernel_rfl) (by kernel_rfl) (by kernel_rfl) (fun _ _ _ h => h) (by rfl) ?hya3 ?resta3
   case hya3 => (intro x hx; obtain ⟨d0, d1, d2, d3⟩ := HLE.out x hx; go_simp; try with_reducible rfl)
   try simp only [Act.put, qA, qB, qC]
   refine wpL_val (i := 4) (v := ?va4) rfl (by kernel_rfl) (by kernel_rfl) (by kernel_rfl) (fun _ _ _ h => h) (by rfl) ?hya4 ?resta4
   case hya4 => (intro x hx; obtain ⟨d0, d1, d2, d3⟩ := HLE.out x hx; go_simp; try with_reducible rfl)
   try simp only [Act.put, qA, qB, qC]
   refine wpL_val (i := 5) (v := ?va5) rfl (by kernel_rfl) (by kernel_rfl) (by kernel_rfl) (fun _ _ _ h => h) (by rfl) ?hya5 ?resta5
   case hya5 => (intro x hx; obtain ⟨d0, d1, d2, d3⟩ := HLE.out x hx; go_simp; try with_reducible rfl)
   try simp only [Act.put, qA, qB, qC]
   refine wpL_val (i := 6) (v := ?va6) rfl (by kernel_rfl) (by kernel_rfl) (by kernel_rfl) (fun _ _ _ h => h) (by rfl) ?hya6 ?resta6
   case hya6 => (intro x hx; obtain ⟨d0, d1, d2, d3⟩ := HLE.out x hx; go_simp; try with_reducible rfl)
   try simp only [Act.put, qA, qB, qC]
   refine wpL_val (i := 7) (v := ?va7) rfl (by kernel_rfl) (by kernel_rfl) (by kernel_rfl) (fun _ _ _ h => h) (by rfl) ?hya7 ?resta7
   case hya7 => (intro x hx; obtain ⟨d0, d1, d2, d3⟩ := HLE.out x hx; go_simp; try with_reducible rfl)
   try simp only [Act.put, qA, qB, qC]
   refine wpL_call (i := 8) (v := .bool bl) (f := 77) (args := #[.agg #[.slice (some ⟨b, off, none⟩) n cap, .int .i64 nx], .int .i64 id9, .int .i64 id]) rfl (by kernel_rfl) (by kernel_rfl) (by kernel_rfl) (fun _ _ _ h => h) (by rfl) ?hya8 (fun x hx => HBL2.out x (HBX.out x hx)) ?resta8
   case hya8 => (intro x hx; obtain ⟨d0, d1, d2, d3⟩ := HLE.out x hx; go_simp; try with_reducible rfl)
   try simp only [Act.put, qA, qB, qC]
   refine wpL_val (i := 9) (v := ?va9) rfl (by kernel_rfl) (by kernel_rfl) (by kernel_rfl) (fun _ _ _ h => h) (by rfl) ?hya9 ?resta9
   case hya9 => (intro x hx; obtain ⟨d0, d1, d2, d3⟩ := HLE.out x hx; go_simp; try with_reducible rfl)
   try simp only [Act.put, qA, qB, qC]
   refine wpL_done (by kernel_rfl) ?_ _
   intro W4 hy
   replace hD := Shut.mk (hD.out.below (Below.trans (Below.drew (Below.refl _ _)) hy))
   clear hy HLE HBX HBL2 z0
   cases bl with
   | true =>
    have e1 := HPR.out
    go_wp2_with fail
    go_roundw
    case rel => exact ⟨k + 1, vv, by go_num, by omega, ⟨by rw [HST.out, e1]; simpa using hD.out⟩⟩
    case measure => simp [intOf]; omega
   | false =>
    have e1 : p ⟨⟨id9, parent9, name9, dir9, schema9, quota9, len9, pieces9, writer9⟩, loc9, cp9⟩ = true := HPR.out
    rw [e1, if_pos rfl] at HST
    clear HPR e1
    have hlen : ((rs2.take k).filter p).length ≤ 1048576 := by
     have := List.length_filter_le p (rs2.take k)
     simp at this
     omega
    rw [Bool.not_false]
    go_upto_region 7 with fail
    obtain ⟨gs, hgs⟩ : ∃ gs, gs = (rs2.take k).filter p := ⟨_, rfl⟩
    rw [← hgs] at hD HST hlen
    have HGS := Shut.mk hgs
    clear hgs
    have hown := hD.out.own
    have z0 := ((hD.out.mb.at 0 rfl).1.2 0 _ rfl).1
    obtain ⟨n0, nf0⟩ := (hD.out.mb.at 1 rfl).1.2 0 _ rfl
    have l0 := (hD.out.mb.at 0 rfl).1.1
    have l1 := (hD.out.mb.at 1 rfl).1.1
    have l2 := (hD.out.nb.own.lt g2 rfl).2
    have d0 := (hD.out.nb.cellK HR2.out.1 HRK.out 0 _ rfl).1
    have d1 := (hD.out.nb.cellK HR2.out.1 HRK.out 1 _ rfl).1
    have d2 := (hD.out.nb.cellK HR2.out.1 HRK.out 2 _ rfl).1
    have d3 := (hD.out.nb.cellK HR2.out.1 HRK.out 3 _ rfl).1
    have d4 := (hD.out.nb.cellK HR2.out.1 HRK.out 4 _ rfl).1
    have d5 := (hD.out.nb.cellK HR2.out.1 HRK.out 5 _ rfl).1
    have d6 := (hD.out.nb.cellK HR2.out.1 HRK.out 6 _ rfl).1
    have d7 := (hD.out.nb.cellK HR2.out.1 HRK.out 7 _ rfl).1
    have d8 := (hD.out.nb.cellK HR2.out.1 HRK.out 8 _ rfl).1
    dsimp only [Nat.add_zero] at d0 d1 d2 d3 d4 d5 d6 d7 d8
    have hC : w1.heap.size + 1 ≤ W4.heap.size := by omega
    have m1 : ¬ (w1.heap.size = w.heap.size + 1 + 1) := by have := hsw.out; have := HB1.out.size; omega
    have m2 : ¬ (g2 = w.heap.size + 1 + 1) := by have := hsw.out; have := HG2.out; omega
    have hob : ∀ c, c < w1.heap.size + 1 → vv.ownBlock ≠ some c := fun c hc e => by have := (hown.lt c e).1; omega
    have nb1 : vv.ownBlock ≠ some (w.heap.size + 1 + 1) := hob _ (by have := hsw.out; have := HB1.out.size; omega)
    have nb2 : vv.ownBlock ≠ some w1.heap.size := hob _ (by omega)
    have nb3 : vv.ownBlock ≠ some g2 := hob _ (by have := HG2.out; omega)
    have HN9 : Shut (ncells ⟨⟨id9, parent9, name9, dir9, schema9, quota9, len9, pieces9, writer9⟩, loc9, cp9⟩ = [.int .i64 id9, .int .i64 parent9, .string name9, .bool dir9, .int .i64 schema9, .int .i64 quota9, .int .i64 len9, .slice loc9 pieces9.length cp9, .int .i64 writer9]) := ⟨rfl⟩
    generalize pieces9.length = pn9 at HN9 d7
    clear hob
    go_region_law ((refine step_append_lies _ (by rfl) _ _ _ (by rfl) (w1.heap.size + 1) 47 i0 _ 9 96 Tryz.underlying24 hin hz0 hz1' hz2 rfl (by omega) _ _ _ (by rfl) ((hown.alloc _).drew) ⟨W4.heap.size, 0, none⟩ 1 1 [.int .i64 id9, .int .i64 parent9, .string name9, .bool dir9, .int .i64 schema9, .int .i64 quota9, .int .i64 len9, .slice loc9 pn9 cp9, .int .i64 writer9] (by rfl) (by rfl) (World.news_of_block (cs := #[.int .i64 id9, .int .i64 parent9, .string name9, .bool dir9, .int .i64 schema9, .int .i64 quota9, .int .i64 len9, .slice loc9 pn9 cp9, .int .i64 writer9]) (t := 47) (fr := (0, 0)) (heap_alloc_new W4 _)) (by simp [Value.oneCell']) (by omega) (by unfold maxLen; omega) (by omega) (by simp; omega) (W4.heap.size + 1) (by simp) ?_; intro gg cap1 w5 hown1 hgrow hat hlt'; have vc1 := (hgrow.cell_far ⟨w.heap.size + 1 + 1, 0, none⟩ (by simp; omega) (Ne.symm nb1)).trans (((hD.out.mb.at 1 rfl).1.alloc _).2 0 _ rfl).1; have vf1 := (hgrow.frozen_far ⟨w.heap.size + 1 + 1, 0, none⟩ (by simp; omega) (Ne.symm nb1)).trans (((hD.out.mb.at 1 rfl).1.alloc _).2 0 _ rfl).2))
    all_goals go_wp2_with fail
    all_goals
     refine ⟨⟨k + 1, .slice (some ⟨gg, 0, none⟩) (gs.length + 1) cap1, by go_num, by omega, ⟨?_⟩⟩, by simp [intOf]; omega⟩
     rw [← HN9.out] at hown1
     have hh := hD.out.app rfl hsw.out (by have := HB1.out.size; omega) (fun q hq => by
      have h1 := hsw.out
      have h2 := HB1.out.size
      simp only [List.mem_cons, List.not_mem_nil, or_false] at hq
      rcases hq with rfl | rfl | rfl | rfl <;> simp <;> omega) (by have := hsw.out; have := HB1.out.size; omega) (by have := HG2.out; omega) (fun r hr q e => by have := HLT2.out r hr q e; omega) hgrow hown1
     rw [HST.out]
     exact hh
  ·have k1 : ¬ ((k : Int) < (n : Int)) := by omega
   have hkn : k = n := by omega
   have hall : rs2.take k = rs2 := List.take_of_length_le (by rw [HR2.out.1]; omega)
   rw [hall] at hD
   have HSL : Shut ((rs2.filter p).Sublist rs2) := ⟨List.filter_sublist⟩
   have HTT : Shut (dropT ⟨nds rs, nx⟩ id = ⟨nds (rs2.filter p), nx⟩) := ⟨by
    unfold dropT
    dsimp only
    congr 1
    rw [← HR2.out.2]
    unfold nds
    rw [List.filter_map]
    congr 1
    apply List.filter_congr
    intro r _
    rw [HPD.out r]
    have := HR2.out.2
    unfold nds at this
    simp [this, nds]⟩
   rw [HTT.out] at HDT
   clear hkn hall HTT
   generalize rs2.filter p = gs at hD HSL HDT
   obtain ⟨va, vc, rfl⟩ := own_slice hD.out.own
   obtain ⟨y0, yf0⟩ := (hD.out.mb.at 1 rfl).1.2 0 _ rfl
   obtain ⟨y1, yf1⟩ := (hD.out.mb.at 1 rfl).1.2 1 _ rfl
   obtain ⟨q0, qf0⟩ := (hD.out.mb.at 2 rfl).1.2 0 _ rfl
   obtain ⟨q1, qf1⟩ := (hD.out.mb.at 2 rfl).1.2 1 _ rfl
   have HF := Shut.mk (hD.out.fin HSL.out (by have := HB1.out.size; omega))
   have hq1 : w.heap.size + 1 < W0.heap.size := by have := hsw.out; omega
   generalize gs.length = gl at *
   go_wp2_with fail
   refine body_shade (fun W => FinT w W (w.heap.size + 1) (.slice va gl vc) nx ⟨nds gs, nx⟩) (TAns.fin9 ((hD.out.mb.put 2 rfl 0 _ (by simp)).put 2 rfl 1 _ (by simp)) 2 rfl ((HF.out.setBox _ 0 _ hq1).setBox _ 1 _ hq1) rfl hsw0.out) ?_
   rintro W8 ⟨r0, r1, hans, hbel⟩
   exact bodyPost_ret (v := .agg #[.slice va gl vc, .int .i64 nx]) (by simp [results, Tryz.results65, go_sem, r0, r1]) rfl ⟨_, rfl, by rw [HDT.out]; exact hans, hbel⟩
end Go.Proofs.YtakhagkhngmpaaaGreat
