/- Texts of ours, laid one behind the other: ApJ, ApK, DrEdE, DrTr, TlA, DrPr, SmA, LwK. -/
import Derived.Test.YtakhagkhngmpaaaGreatQqApI
import Derived.Test.YtakhagkhngmpaaaGreatQq2
import Derived.Test.YtakhagkhngmpaaaGreatQq3
import Derived.Test.YtakhagkhngmpaaaGreatQq1
import Derived.Test.YtakhagkhngmpaaaGreatQq5
import Derived.Test.YtakhagkhngmpaaaGreatQq6
import Derived.Deep.RegionHeld3
import Derived.Deep.CutRange
/- ApJ: . -/
namespace Go.Proofs.YtakhagkhngmpaaaGreat
set_option maxRecDepth 100000
open Go.RowKit BigFrame
attribute [local go_sem ↓] Go.wp_at_zero Go.wp_at_succ
theorem apply_add {T : TM} {e : EM} {g : Int} (h7 : e.kind = 7) (h : (applyX T e g).2 = 0) : ∃ k, k < T.nodes.length ∧ atI T.nodes (findX T e.path) = (k : Int) ∧ (applyX T e g).1.nodes.length = T.nodes.length ∧ (ndAt (applyX T e g).1 k).pieces.length ≤ 40 ∧ (ndAt T k).pieces.length ≤ 40 ∧ 1 ≤ g ∧ g ≤ 99000 := by
 unfold applyX at h ⊢
 split at h
 ·cases h
 ·rename_i hm
  rw [if_neg hm]
  have hm' : mayX T e g = true := by simpa using hm
  unfold mayX at hm'
  simp only [Bool.and_eq_true] at hm'
  have hg := inI_iff.1 hm'.2
  rw [if_neg (by omega), if_neg (by omega), if_neg (by omega)] at h ⊢
  split at h
  ·cases h
  ·rename_i hid
   rw [if_neg hid]
   rw [if_neg (by omega), if_neg (by omega), if_neg (by omega)] at h ⊢
   obtain ⟨k, hk, hat, -⟩ := find_there hid
   have e1 : plc T (findX T e.path) = k := by unfold plc; rw [hat]; rfl
   rw [e1] at h ⊢
   have hp := node_parts hm'.1.1 k hk
   have hp40 : (ndAt T k).pieces.length ≤ 40 := by rw [nd_mem hk]; exact hp.2.1
   refine ⟨k, hk, hat, ?_⟩
   unfold writeX at h ⊢
   split at h
   ·cases h
   ·rename_i c1
    rw [if_neg c1]
    split at h
    ·cases h
    ·rename_i c2
     rw [if_neg c2]
     rw [if_neg (by omega), if_neg (by omega)] at h ⊢
     split at h
     ·cases h
     ·rename_i c3
      rw [if_neg c3]
      split at h
      ·cases h
      ·rename_i c4
       rw [if_neg c4]
       refine ⟨by simp [setN], ?_, hp40, hg.1, hg.2⟩
       unfold ndAt setN
       dsimp only
       rw [List.getD, List.getElem?_set_self hk]
       simp only [Option.getD_some, List.length_append, newP_len]
       unfold ndAt at c4
       omega
theorem TAns.see_form {w : World} {v : Value} {T : TM} {lo hi : Nat} (h : TAns w v T lo hi) : ∃ (a : Option Addr) (cap : Nat) (rs : List NR), v = .agg #[.slice a rs.length cap, .int .i64 T.next] ∧ nds rs = T.nodes ∧ rs.length ≤ cap ∧ TR w a rs lo hi := by
 obtain ⟨a, cap, rs, e, hr, hc, h1⟩ := h
 refine ⟨a, cap, rs, e, hr, hc, ?_⟩
 rcases h1 with rfl | ⟨g, rfl, hm⟩
 ·exact GR.nil _ _ _ _ _
 ·exact hm.gr
theorem MB.two (w : World) (c1 c2 : Array Value) (t1 t2 : TypeId) : MB w ((w.alloc (.cells c1 t1)).alloc (.cells c2 t2)) [(w.heap.size + 1, c2.toList), (w.heap.size, c1.toList)] := by
 have h := ((MB.nil w).new c1 t1).new c2 t2
 have e1 : (w.alloc (.cells c1 t1)).heap.size = w.heap.size + 1 := by simp
 rw [e1] at h
 exact h
set_option maxHeartbeats 4000000 in
theorem specGroupsAfter {w : World} {v : Value} {T : TM} {lo hi : Nat} (e : EM) (gr : Int) (h : TSee w v T lo hi) (hf : NFit T) (he : EFit e) : Calls Tryz.prog 18 #[v, ev e, .int .i64 gr] w fun r w' => r = .returned (.int .i64 (groupsX T e gr)) ∧ Below w.heap.size w w' := by
 have HAP := Shut.mk (fun (W : World) (hb : Below w.heap.size w W) => specApply e gr (h.below hb) hf he)
 have HFP := Shut.mk (fun (W : World) (hb : Below w.heap.size w W) => specFindPath e.path (h.below hb) hf he.1)
 have hl : T.nodes.length ≤ 1048576 := by unfold NFit at hf; omega
 have HAT := Shut.mk (fun (i : Int) (W : World) (hb : Below w.heap.size w W) => specAt i (h.below hb) hl)
 have hadd := @apply_add T e gr
 have hboot : (applyX T e gr).2 = 0 → e.kind = 10 → 1 ≤ gr ∧ gr ≤ 99000 := fun h0 h1 => by
  unfold applyX at h0
  split at h0
  ·cases h0
  ·rename_i hm
   have hm' : mayX T e gr = true := by simpa using hm
   unfold mayX at hm'
   simp only [Bool.and_eq_true] at hm'
   exact inI_iff.1 hm'.2
 have HX : Shut (groupsX T e gr = if (applyX T e gr).2 ≠ 0 then gr else if e.kind = 10 then gr + 20 else if e.kind ≠ 7 then gr else gr + (ndAt (applyX T e gr).1 (plc T (findX T e.path))).pieces.length - (ndAt T (plc T (findX T e.path))).pieces.length) := ⟨rfl⟩
 generalize groupsX T e gr = R at HX ⊢
 obtain ⟨RT, rc, hRR⟩ : ∃ RT rc, applyX T e gr = (RT, rc) := ⟨_, _, rfl⟩
 rw [hRR] at HAP HX hadd hboot
 clear hRR
 dsimp only at HX hadd hboot
 obtain ⟨a, cap, rs, rfl, hr, hm⟩ := h
 obtain ⟨nodes, nx⟩ := T
 dsimp only at *
 subst hr
 obtain ⟨n, hn⟩ : ∃ n, n = rs.length := ⟨_, rfl⟩
 rw [← hn] at HAP HFP HAT ⊢
 have HN := Shut.mk hn
 have HMR : Shut (TR w a rs lo hi) := ⟨hm⟩
 have HADD := Shut.mk hadd
 have HBOOT := Shut.mk hboot
 clear hn hm hf hl he hadd hboot
 obtain ⟨kind, path, dest, num, who⟩ := e
 dsimp only at *
 have HM0 := Shut.mk (MB.two w #[.slice a n cap, .int .i64 nx] #[.int .i64 kind, .string path, .string dest, .int .i64 num, .int .i64 who] 26 28)
 go_enter Tryz.func18, Tryz.ntmps18
 go_upto_region 1 with fail
 refine wp_shade (fun W => MB w W [(w.heap.size + 1, ecells ⟨kind, path, dest, num, who⟩), (w.heap.size, [.slice a n cap, .int .i64 nx])]) HM0.out ?_
 intro W0 hM
 have HM := Shut.mk hM
 clear hM HM0
 have x0 := ((HM.out.at 1 rfl).1.2 0 _ rfl).1
 have x1 := ((HM.out.at 1 rfl).1.2 1 _ rfl).1
 have y0 := ((HM.out.at 0 rfl).1.2 0 _ rfl).1
 have y1 := ((HM.out.at 0 rfl).1.2 1 _ rfl).1
 have y2 := ((HM.out.at 0 rfl).1.2 2 _ rfl).1
 have y3 := ((HM.out.at 0 rfl).1.2 3 _ rfl).1
 have y4 := ((HM.out.at 0 rfl).1.2 4 _ rfl).1
 dsimp only at y0 y1 y2 y3 y4
 go_upto_region 2 with (go_at_call 14; refine (HAP.out _ HM.out.bel).mono ?_; rintro e w2 ⟨vv, rfl, hans, hb2⟩; dsimp only at hans; obtain ⟨a5, c5, rs5, rfl, hr5, -, hq5⟩ := hans.see_form; have HR5 := Shut.mk (And.intro hr5 hq5); replace HM := Shut.mk (HM.out.below hb2); clear hans hr5 hq5 hb2 x0 x1 y0 y1 y2 y3 y4)
 obtain ⟨m5, hm5⟩ : ∃ m, m = rs5.length := ⟨_, rfl⟩
 obtain ⟨t5, ht5⟩ : ∃ m, m = RT.next := ⟨_, rfl⟩
 rw [← hm5, ← ht5]
 have HM5 := Shut.mk hm5
 clear hm5 ht5
 refine wp_shade (fun W => MB w W [(w2.heap.size, [.slice a5 m5 c5, .int .i64 t5]), (w.heap.size + 1, ecells ⟨kind, path, dest, num, who⟩), (w.heap.size, [.slice a n cap, .int .i64 nx])] ∧ Below w2.heap.size w2 W) ⟨HM.out.new _ _, (Below.refl _ _).alloc (Nat.le_refl _) _⟩ ?_
 rintro W1 ⟨hM1, hB1⟩
 replace HM := Shut.mk hM1
 have HB1 := Shut.mk hB1
 clear hM1 hB1
 have y0 := ((HM.out.at 1 rfl).1.2 0 _ rfl).1
 dsimp only at y0
 by_cases h0 : rc = 0
 case neg =>
  have b0 : (rc != 0) = true := by simp [h0]
  have HXX : Shut (R = gr) := ⟨by rw [HX.out, if_pos h0]⟩
  clear h0
  go_wp2_with fail
  go_ret
  exact ⟨by rw [HXX.out]; rfl, HM.out.bel⟩
 have b0 : (rc != 0) = false := by simp [h0]
 by_cases h10 : kind = 10
 ·have b10 : (kind == 10) = true := by simp [h10]
  have hg := HBOOT.out h0 h10
  have HXX : Shut (R = gr + 20) := ⟨by rw [HX.out, if_neg (by simp [h0]), if_pos h10]⟩
  obtain ⟨g1, g2⟩ := hg
  clear h10 h0
  go_wp2_with fail
  go_ret
  exact ⟨by rw [HXX.out]; rfl, HM.out.bel⟩
 have b10 : (kind == 10) = false := by simp [h10]
 by_cases h7 : kind = 7
 case neg =>
  have b7 : (kind != 7) = true := by simp [h7]
  have HXX : Shut (R = gr) := ⟨by rw [HX.out, if_neg (by simp [h0]), if_neg h10, if_pos h7]⟩
  clear h0 h7 h10
  go_wp2_with fail
  go_ret
  exact ⟨by rw [HXX.out]; rfl, HM.out.bel⟩
 have b7 : (kind != 7) = false := by simp [h7]
 obtain ⟨k, hk, hat, hlen, hp1, hp2, g1, g2⟩ := HADD.out h7 h0
 have hkr : k < rs.length := by rw [nds_len] at hk; exact hk
 have hk5 : k < rs5.length := by
  have := HR5.out.1
  rw [← nds_len rs5, this, hlen]
  exact hk
 have e1 : plc ⟨nds rs, nx⟩ (findX ⟨nds rs, nx⟩ path) = k := by unfold plc; dsimp only; rw [hat]; rfl
 have n1 : ndAt ⟨nds rs, nx⟩ k = rs[k].nd := by simp [ndAt, nds, List.getD, hkr]
 have n2 : ndAt RT k = rs5[k].nd := by
  unfold ndAt
  rw [← HR5.out.1]
  simp [nds, List.getD, hk5]
 have HX7 : Shut (R = gr + (rs5[k].nd.pieces.length : Nat) - (rs[k].nd.pieces.length : Nat)) := ⟨by rw [HX.out, if_neg (by simp [h0]), if_neg h10, if_neg (by simp [h7]), e1, n1, n2]⟩
 rw [n2] at hp1
 rw [n1] at hp2
 obtain ⟨b, off, rfl, lb, hc⟩ := TR.nat HMR.out (by omega)
 obtain ⟨b5, off5, rfl, lb5, hc5⟩ := TR.nat HR5.out.2 (by omega)
 have HC1 := Shut.mk (hc k hkr)
 have HC5 := Shut.mk (hc5 k hk5)
 obtain ⟨r, hr⟩ : ∃ r, r = rs[k] := ⟨_, rfl⟩
 obtain ⟨r5, hr5⟩ : ∃ r, r = rs5[k] := ⟨_, rfl⟩
 rw [← hr] at HX7 HC1 hp2
 rw [← hr5] at HX7 HC5 hp1
 obtain ⟨id, hid⟩ : ∃ q, q = findX ⟨nds rs, nx⟩ path := ⟨_, rfl⟩
 rw [← hid] at hat
 simp only [← hid] at HFP
 have HA2 : Shut (∀ (W : World) (hb : Below w.heap.size w W), Calls Tryz.prog 67 #[.agg #[.slice (some ⟨b, off, none⟩) n cap, .int .i64 nx], .int .i64 id] W fun e w' => e = .returned (.int .i64 (k : Nat)) ∧ Below W.heap.size W w') := ⟨fun W hb => by have := HAT.out id W hb; rw [hat] at this; exact this⟩
 have k0 : (0 : Int) ≤ (k : Int) := by omega
 have k1 : (k : Int) < (n : Int) := by have := HN.out; omega
 have k2 : (k : Int) < (m5 : Int) := by have := HM5.out; omega
 clear hr hr5 hid hat hlen hk e1 n1 n2 h0 h7 h10 hc hc5 HAT HX HADD HBOOT HAP
 obtain ⟨⟨id9, parent9, name9, dir9, schema9, quota9, len9, pieces9, writer9⟩, loc9, cp9⟩ := r
 obtain ⟨⟨id8, parent8, name8, dir8, schema8, quota8, len8, pieces8, writer8⟩, loc8, cp8⟩ := r5
 dsimp only at *
 obtain ⟨p9, hp9⟩ : ∃ q, q = pieces9.length := ⟨_, rfl⟩
 obtain ⟨p8, hp8⟩ : ∃ q, q = pieces8.length := ⟨_, rfl⟩
 rw [← hp9] at HX7 hp2
 rw [← hp8] at HX7 hp1
 have HP9 := Shut.mk hp9
 have HP8 := Shut.mk hp8
 clear hp9 hp8 hkr hk5
 go_upto_region 8 with fail
 have HLE : Shut (∀ x, Later W1.drew x → x.cell? ⟨w.heap.size, 0, none⟩ = some (.slice (some ⟨b, off, none⟩) n cap) ∧ x.cell? ⟨w.heap.size, 1, none⟩ = some (.int .i64 nx) ∧ x.cell? ⟨w.heap.size + 1, 1, none⟩ = some (.string path)) := ⟨fun x hx => by
  have M := HM.out.below (Below.trans (Below.drew (Below.refl _ _)) hx)
  exact ⟨((M.at 2 rfl).1.2 0 _ rfl).1, ((M.at 2 rfl).1.2 1 _ rfl).1, ((M.at 1 rfl).1.2 1 _ rfl).1⟩⟩
 have HBX : Shut (∀ x, Later W1.drew x → Below w.heap.size w x) := ⟨fun x hx => (HM.out.below (Below.trans (Below.drew (Below.refl _ _)) hx)).bel⟩
 refine wp_region_later (by kernel_rfl) ?_
 refine wpL_val (i := 0) (v := ?va0) rfl (by kernel_rfl) (by kernel_rfl) (by kernel_rfl) (fun _ _ _ h => h) (by rfl) ?hya0 ?resta0
 case hya0 => (intro x hx; obtain ⟨d0, d1, d2⟩ := HLE.out x hx; go_simp; try with_reducible rfl)
 try simp only [Act.put, qA, qB, qC]
 refine wpL_val (i := 1) (v := ?va1) rfl (by kernel_rfl) (by kernel_rfl) (by kernel_rfl) (fun _ _ _ h => h) (by rfl) ?hya1 ?resta1
 case hya1 => (intro x hx; obtain ⟨d0, d1, d2⟩ := HLE.out x hx; go_simp; try with_reducible rfl)
 try simp only [Act.put, qA, qB, qC]
 refine wpL_val (i := 2) (v := ?va2) rfl (by kernel_rfl) (by kernel_rfl) (by kernel_rfl) (fun _ _ _ h => h) (by rfl) ?hya2 ?resta2
 case hya2 => (intro x hx; obtain ⟨d0, d1, d2⟩ := HLE.out x hx; go_simp; try with_reducible rfl)
 try simp only [Act.put, qA, qB, qC]
 refine wpL_val (i := 3) (v := ?va3) rfl (by kernel_rfl) (by kernel_rfl) (by kernel_rfl) (fun _ _ _ h => h) (by rfl) ?hya3 ?resta3
 case hya3 => (intro x hx; obtain ⟨d0, d1, d2⟩ := HLE.out x hx; go_simp; try with_reducible rfl)
 try simp only [Act.put, qA, qB, qC]
 refine wpL_call (i := 4) (v := .int .i64 id) (f := 20) (args := #[.agg #[.slice (some ⟨b, off, none⟩) n cap, .int .i64 nx], .string path]) rfl (by kernel_rfl) (by kernel_rfl) (by kernel_rfl) (fun _ _ _ h => h) (by rfl) ?hya4 (fun x hx => HFP.out x (HBX.out x hx)) ?resta4
 case hya4 => (intro x hx; obtain ⟨d0, d1, d2⟩ := HLE.out x hx; go_simp; try with_reducible rfl)
 try simp only [Act.put, qA, qB, qC]
 refine wpL_call (i := 5) (v := .int .i64 (k : Nat)) (f := 67) (args := #[.agg #[.slice (some ⟨b, off, none⟩) n cap, .int .i64 nx], .int .i64 id]) rfl (by kernel_rfl) (by kernel_rfl) (by kernel_rfl) (fun _ _ _ h => h) (by rfl) ?hya5 (fun x hx => HA2.out x (HBX.out x hx)) ?resta5
 case hya5 => (intro x hx; obtain ⟨d0, d1, d2⟩ := HLE.out x hx; go_simp; try with_reducible rfl)
 try simp only [Act.put, qA, qB, qC]
 refine wpL_val (i := 6) (v := ?va6) rfl (by kernel_rfl) (by kernel_rfl) (by kernel_rfl) (fun _ _ _ h => h) (by rfl) ?hya6 ?resta6
 case hya6 => (intro x hx; obtain ⟨d0, d1, d2⟩ := HLE.out x hx; go_simp; try with_reducible rfl)
 try simp only [Act.put, qA, qB, qC]
 refine wpL_done (by kernel_rfl) ?_ _
 intro W3 hy
 have hb3 := (Below.trans (Below.drew (Below.refl _ _)) hy : Below W1.heap.size W1 W3)
 replace HM := Shut.mk (HM.out.below hb3)
 replace HB1 := Shut.mk (HB1.out.trans (hb3.mono HB1.out.size))
 clear hb3 hy HLE HBX y0
 go_upto_region 9 with fail
 have HLE : Shut (∀ x, Later W3.drew x → x.cell? ⟨w.heap.size, 0, none⟩ = some (.slice (some ⟨b, off, none⟩) n cap) ∧ x.cell? ⟨w2.heap.size, 0, none⟩ = some (.slice (some ⟨b5, off5, none⟩) m5 c5) ∧ x.cell? ⟨b, off + k * 9 + 7, none⟩ = some (.slice loc9 p9 cp9) ∧ x.cell? ⟨b5, off5 + k * 9 + 7, none⟩ = some (.slice loc8 p8 cp8)) := ⟨fun x hx => by
  have hb : Below W3.heap.size W3 x := Below.trans (Below.drew (Below.refl _ _)) hx
  have M := HM.out.below hb
  obtain ⟨-, -, -, -, -, -, -, c7, -⟩ := HC1.out.below M.bel lb
  obtain ⟨-, -, -, -, -, -, -, d7, -⟩ := HC5.out.below (HB1.out.trans (hb.mono HB1.out.size)) lb5
  dsimp only at c7 d7
  rw [← HP9.out] at c7
  rw [← HP8.out] at d7
  exact ⟨((M.at 2 rfl).1.2 0 _ rfl).1, ((M.at 0 rfl).1.2 0 _ rfl).1, c7, d7⟩⟩
 have hw1 : IntKind.i64.wrap (gr + (p8 : Int)) = gr + (p8 : Int) := IntWalk.i64_in _ ⟨by omega, by omega⟩
 have hw2 : IntKind.i64.wrap (gr + (p8 : Int) - (p9 : Int)) = gr + (p8 : Int) - (p9 : Int) := IntWalk.i64_in _ ⟨by omega, by omega⟩
 refine wp_region_later (by kernel_rfl) ?_
 refine wpL_val (i := 0) (v := ?vb0) rfl (by kernel_rfl) (by kernel_rfl) (by kernel_rfl) (fun _ _ _ h => h) (by rfl) ?hyb0 ?restb0
 case hyb0 => (intro x hx; obtain ⟨d0, d1, d2, d3⟩ := HLE.out x hx; go_simp; try with_reducible rfl)
 try simp only [Act.put, qA, qB, qC]
 refine wpL_val (i := 1) (v := ?vb1) rfl (by kernel_rfl) (by kernel_rfl) (by kernel_rfl) (fun _ _ _ h => h) (by rfl) ?hyb1 ?restb1
 case hyb1 => (intro x hx; obtain ⟨d0, d1, d2, d3⟩ := HLE.out x hx; go_simp; try with_reducible rfl)
 try simp only [Act.put, qA, qB, qC]
 refine wpL_val (i := 2) (v := ?vb2) rfl (by kernel_rfl) (by kernel_rfl) (by kernel_rfl) (fun _ _ _ h => h) (by rfl) ?hyb2 ?restb2
 case hyb2 => (intro x hx; obtain ⟨d0, d1, d2, d3⟩ := HLE.out x hx; go_simp; try with_reducible rfl)
 try simp only [Act.put, qA, qB, qC]
 refine wpL_val (i := 3) (v := ?vb3) rfl (by kernel_rfl) (by kernel_rfl) (by kernel_rfl) (fun _ _ _ h => h) (by rfl) ?hyb3 ?restb3
 case hyb3 => (intro x hx; obtain ⟨d0, d1, d2, d3⟩ := HLE.out x hx; go_simp; try with_reducible rfl)
 try simp only [Act.put, qA, qB, qC]
 refine wpL_val (i := 4) (v := ?vb4) rfl (by kernel_rfl) (by kernel_rfl) (by kernel_rfl) (fun _ _ _ h => h) (by rfl) ?hyb4 ?restb4
 case hyb4 => (intro x hx; obtain ⟨d0, d1, d2, d3⟩ := HLE.out x hx; go_simp; try with_reducible rfl)
 try simp only [Act.put, qA, qB, qC]
 refine wpL_val (i := 5) (v := ?vb5) rfl (by kernel_rfl) (by kernel_rfl) (by kernel_rfl) (fun _ _ _ h => h) (by rfl) ?hyb5 ?restb5
 case hyb5 => (intro x hx; obtain ⟨d0, d1, d2, d3⟩ := HLE.out x hx; go_simp; try with_reducible rfl)
 try simp only [Act.put, qA, qB, qC]
 refine wpL_val (i := 6) (v := ?vb6) rfl (by kernel_rfl) (by kernel_rfl) (by kernel_rfl) (fun _ _ _ h => h) (by rfl) ?hyb6 ?restb6
 case hyb6 => (intro x hx; obtain ⟨d0, d1, d2, d3⟩ := HLE.out x hx; go_simp; try with_reducible rfl)
 try simp only [Act.put, qA, qB, qC]
 refine wpL_val (i := 7) (v := ?vb7) rfl (by kernel_rfl) (by kernel_rfl) (by kernel_rfl) (fun _ _ _ h => h) (by rfl) ?hyb7 ?restb7
 case hyb7 => (intro x hx; obtain ⟨d0, d1, d2, d3⟩ := HLE.out x hx; go_simp; try with_reducible rfl)
 try simp only [Act.put, qA, qB, qC]
 refine wpL_val (i := 8) (v := ?vb8) rfl (by kernel_rfl) (by kernel_rfl) (by kernel_rfl) (fun _ _ _ h => h) (by rfl) ?hyb8 ?restb8
 case hyb8 => (intro x hx; obtain ⟨d0, d1, d2, d3⟩ := HLE.out x hx; go_simp; try with_reducible rfl)
 try simp only [Act.put, qA, qB, qC]
 refine wpL_val (i := 9) (v := ?vb9) rfl (by kernel_rfl) (by kernel_rfl) (by kernel_rfl) (fun _ _ _ h => h) (by rfl) ?hyb9 ?restb9
 case hyb9 => (intro x hx; obtain ⟨d0, d1, d2, d3⟩ := HLE.out x hx; go_simp; try with_reducible rfl)
 try simp only [Act.put, qA, qB, qC]
 refine wpL_val (i := 10) (v := ?vb10) rfl (by kernel_rfl) (by kernel_rfl) (by kernel_rfl) (fun _ _ _ h => h) (by rfl) ?hyb10 ?restb10
 case hyb10 => (intro x hx; obtain ⟨d0, d1, d2, d3⟩ := HLE.out x hx; go_simp; try with_reducible rfl)
 try simp only [Act.put, qA, qB, qC]
 refine wpL_val (i := 11) (v := ?vb11) rfl (by kernel_rfl) (by kernel_rfl) (by kernel_rfl) (fun _ _ _ h => h) (by rfl) ?hyb11 ?restb11
 case hyb11 => (intro x hx; obtain ⟨d0, d1, d2, d3⟩ := HLE.out x hx; go_simp; try with_reducible rfl)
 try simp only [Act.put, qA, qB, qC]
 refine wpL_val (i := 12) (v := ?vb12) rfl (by kernel_rfl) (by kernel_rfl) (by kernel_rfl) (fun _ _ _ h => h) (by rfl) ?hyb12 ?restb12
 case hyb12 => (intro x hx; obtain ⟨d0, d1, d2, d3⟩ := HLE.out x hx; go_simp; try with_reducible rfl)
 try simp only [Act.put, qA, qB, qC]
 refine wpL_val (i := 13) (v := ?vb13) rfl (by kernel_rfl) (by kernel_rfl) (by kernel_rfl) (fun _ _ _ h => h) (by rfl) ?hyb13 ?restb13
 case hyb13 => (intro x hx; obtain ⟨d0, d1, d2, d3⟩ := HLE.out x hx; go_simp; try with_reducible rfl)
 try simp only [Act.put, qA, qB, qC]
 refine wpL_val (i := 14) (v := ?vb14) rfl (by kernel_rfl) (by kernel_rfl) (by kernel_rfl) (fun _ _ _ h => h) (by rfl) ?hyb14 ?restb14
 case hyb14 => (intro x hx; obtain ⟨d0, d1, d2, d3⟩ := HLE.out x hx; go_simp; try with_reducible rfl)
 try simp only [Act.put, qA, qB, qC]
 refine wpL_val (i := 15) (v := ?vb15) rfl (by kernel_rfl) (by kernel_rfl) (by kernel_rfl) (fun _ _ _ h => h) (by rfl) ?hyb15 ?restb15
 case hyb15 => (intro x hx; obtain ⟨d0, d1, d2, d3⟩ := HLE.out x hx; go_simp; try with_reducible rfl)
 try simp only [Act.put, qA, qB, qC]
 refine wpL_val (i := 16) (v := ?vb16) rfl (by kernel_rfl) (by kernel_rfl) (by kernel_rfl) (fun _ _ _ h => h) (by rfl) ?hyb16 ?restb16
 case hyb16 => (intro x hx; obtain ⟨d0, d1, d2, d3⟩ := HLE.out x hx; go_simp; try with_reducible rfl)
 try simp only [Act.put, qA, qB, qC]
 refine wpL_val (i := 17) (v := ?vb17) rfl (by kernel_rfl) (by kernel_rfl) (by kernel_rfl) (fun _ _ _ h => h) (by rfl) ?hyb17 ?restb17
 case hyb17 => (intro x hx; obtain ⟨d0, d1, d2, d3⟩ := HLE.out x hx; go_simp; try with_reducible rfl)
 try simp only [Act.put, qA, qB, qC]
 refine wpL_done (by kernel_rfl) ?_ _
 intro W4 hy
 have hb4 := (Below.trans (Below.drew (Below.refl _ _)) hy : Below W3.heap.size W3 W4)
 replace HM := Shut.mk (HM.out.below hb4)
 clear hb4 hy HLE
 go_wp2_with fail
 go_ret
 exact ⟨by rw [HX7.out]; rfl, HM.out.bel⟩
def ecs (es : List EM) : List Value := es.flatMap ecells
theorem ecs_len (es : List EM) : (ecs es).length = es.length * 5 := flat_len ecells_len es
theorem ecs_at {w : World} {a : Option Addr} {es : List EM} {lo hi : Nat} (h : RRow w a (ecs es) lo hi) (hp : 0 < es.length) : ∃ b off, a = some ⟨b, off, none⟩ ∧ b < w.heap.size ∧ ∀ j (hj : j < es.length), w.cell? ⟨b, off + j * 5, none⟩ = some (.int .i64 es[j].kind) ∧ w.cell? ⟨b, off + j * 5 + 1, none⟩ = some (.string es[j].path) ∧ w.cell? ⟨b, off + j * 5 + 2, none⟩ = some (.string es[j].dest) ∧ w.cell? ⟨b, off + j * 5 + 3, none⟩ = some (.int .i64 es[j].num) ∧ w.cell? ⟨b, off + j * 5 + 4, none⟩ = some (.int .i64 es[j].who) := by
 obtain ⟨b, off, e, _, _, hb, hc⟩ := h (by rw [ecs_len]; omega)
 refine ⟨b, off, e, hb, fun j hj => ?_⟩
 have hg : ∀ i v, (ecells es[j])[i]? = some v → w.cell? ⟨b, off + j * 5 + i, none⟩ = some v := fun i v hv => by
  have hi : i < 5 := by have := (List.getElem?_eq_some_iff.1 hv).1; rw [ecells_len] at this; exact this
  have := hc (j * 5 + i) v ((flat_get ecells_len es j hj i hi).trans hv)
  rw [← Nat.add_assoc] at this
  exact this
 exact ⟨hg 0 _ rfl, hg 1 _ rfl, hg 2 _ rfl, hg 3 _ rfl, hg 4 _ rfl⟩
theorem nsum_filter (p : NM → Bool) (ns : List NM) : nsum (ns.filter p) ≤ nsum ns := by
 induction ns with
 | nil => simp [nsum]
 | cons n ns ih =>
  rw [List.filter_cons]
  split
  ·simp only [nsum]; omega
  ·simp only [nsum]; omega
theorem set_fit {T : TM} (h : treeOk T = true) {k : Nat} (x : NM) (hx : x.name.size + x.pieces.length ≤ 1000) : NFit (setN T k x) := by
 have h1 := tree_sum h
 have h2 := tree_len h
 have h3 := nsum_set T.nodes k x
 unfold NFit setN
 dsimp only
 rw [List.length_set]
 omega
theorem apply_fit {T : TM} (hf : NFit T) (e : EM) (g : Int) : NFit (applyX T e g).1 := by
 unfold applyX
 split
 ·exact hf
 ·rename_i hm
  have hm' : mayX T e g = true := by simpa using hm
  unfold mayX at hm'
  simp only [Bool.and_eq_true] at hm'
  have ht := hm'.1.1
  split
  ·exact hf
  ·split
   ·unfold addX
    repeat' split
    all_goals first | exact hf | exact add_fit ht _ _ rfl
   ·split
    ·unfold addX
     repeat' split
     all_goals first | exact hf | exact add_fit ht _ _ rfl
    ·split
     ·exact hf
     ·rename_i hid
      obtain ⟨k, hk, hat, -⟩ := find_there hid
      have e1 : plc T (findX T e.path) = k := by unfold plc; rw [hat]; rfl
      have hp := node_parts ht k hk
      rw [e1]
      split
      ·unfold moveX
       repeat' split
       all_goals first | exact hf | exact move_fit ht _ _ k hk hat
      ·split
       ·have h1 := tree_sum ht
        have h2 := tree_len ht
        unfold NFit dropT
        dsimp only
        have h3 := nsum_filter (fun n => !belowF T.nodes 15 n.id (findX T e.path)) T.nodes
        have h4 := List.length_filter_le (fun n : NM => !belowF T.nodes 15 n.id (findX T e.path)) T.nodes
        omega
       ·split
        ·unfold setX
         repeat' split
         all_goals first | exact hf | exact set_fit ht _ (by rw [nd_mem hk]; dsimp only; omega)
        ·unfold writeX
         repeat' split
         all_goals first | exact hf | (refine set_fit ht _ ?_; rw [nd_mem hk] at *; simp only [List.length_append, newP_len]; omega) | (refine set_fit ht _ ?_; rw [nd_mem hk]; dsimp only; omega)
theorem all_take (T : TM) (es : List EM) (g : Int) (k : Nat) (h : k < es.length) : allX T (es.take (k + 1)) g = stepX (allX T (es.take k) g) es[k] := by
 unfold allX
 rw [List.take_succ_eq_append_getElem h, List.foldl_append]
 rfl
structure AL (w W : World) (L : List (Nat × List Value)) (ob : Nat) (v : Value) (T : TM) : Prop where
 mb : MB w W L
 ans : ∃ lo hi, TAns W v T lo hi ∧ w.heap.size + 1 + 1 ≤ lo ∧ (hi ≤ ob ∨ ob < lo) ∧ hi ≤ W.heap.size
 fit : NFit T
theorem AL.below {w W W' : World} {L : List (Nat × List Value)} {ob : Nat} {v : Value} {T : TM} (h : AL w W L ob v T) (hb : Below W.heap.size W W') : AL w W' L ob v T := by
 obtain ⟨lo, hi, h1, h2, h3, h4⟩ := h.ans
 exact ⟨h.mb.below hb, ⟨lo, hi, h1.below hb, h2, h3, Nat.le_trans h4 hb.size⟩, h.fit⟩
set_option maxHeartbeats 4000000 in
theorem specApplyAll {w : World} {v : Value} {T : TM} {lo hi : Nat} (la : Option Addr) (lc : Nat) (es : List EM) (l1 l2 : Nat) (gr : Int) (h : TSee w v T lo hi) (hf : NFit T) (hE : RRow w la (ecs es) l1 l2) (he : ∀ e ∈ es, EFit e) (hel : es.length ≤ 1048576) : Calls Tryz.prog 29 #[v, .slice la es.length lc, .int .i64 gr] w fun r w' => ApPost (allX T es gr) w r w' := by
 have HCP := Shut.mk (fun (W : World) (hb : Below w.heap.size w W) => specCopy (h.below hb) hf)
 have HF := Shut.mk hf
 obtain ⟨R, hR⟩ : ∃ R, R = allX T es gr := ⟨_, rfl⟩
 rw [← hR]
 have HR := Shut.mk hR
 obtain ⟨a, cap, rs, rfl, hr, hm⟩ := h
 obtain ⟨nodes, nx⟩ := T
 obtain ⟨n, hn⟩ : ∃ n, n = rs.length := ⟨_, rfl⟩
 dsimp only at *
 rw [← hn] at HCP ⊢
 have HE := Shut.mk hE
 have HFE := Shut.mk he
 obtain ⟨ln, hln⟩ : ∃ n, n = es.length := ⟨_, rfl⟩
 rw [← hln] at hel ⊢
 have HLN := Shut.mk hln
 clear hn hm hr hf hE he hR hln
 have HM0 := Shut.mk (MB.two w #[.slice a n cap, .int .i64 nx] #[.slice none 0 0, .int .i64 0] 26 26)
 go_enter Tryz.func29, Tryz.ntmps29
 go_upto_region 1 with fail
 refine wp_shade (fun W => MB w W [(w.heap.size + 1, [.slice none 0 0, .int .i64 0]), (w.heap.size, [.slice a n cap, .int .i64 nx])]) HM0.out ?_
 intro W0 hM
 have HM := Shut.mk hM
 clear hM HM0
 have x0 := ((HM.out.at 1 rfl).1.2 0 _ rfl).1
 have x1 := ((HM.out.at 1 rfl).1.2 1 _ rfl).1
 have hw0 := Shut.mk (HM.out.at 0 rfl).1.1
 go_upto_region 2 with (go_at_call 62; refine (HCP.out _ HM.out.bel).mono ?_; rintro e w1 ⟨vv, rfl, hans, hb1⟩; have HANS := Shut.mk hans; obtain ⟨a5, c5, rs5, rfl, hr5, -, -⟩ := hans.see_form; replace HM := Shut.mk (HM.out.below hb1); clear hans hr5 hb1 x0 x1)
 have HAL : Shut (AL w (w1.alloc (.cells #[.slice a5 rs5.length c5, .int .i64 nx] 26)) [(w1.heap.size, [.slice a5 rs5.length c5, .int .i64 nx]), (w.heap.size + 1, [.slice none 0 0, .int .i64 0]), (w.heap.size, [.slice a n cap, .int .i64 nx])] w1.heap.size (.agg #[.slice a5 rs5.length c5, .int .i64 nx]) ⟨nodes, nx⟩) := ⟨HM.out.new _ _, ⟨_, _, HANS.out.below ((Below.refl _ _).alloc (Nat.le_refl _) _), hw0.out, .inl (Nat.le_refl _), by simp⟩, HF.out⟩
 obtain ⟨m5, hm5⟩ : ∃ m, m = rs5.length := ⟨_, rfl⟩
 rw [← hm5] at HAL ⊢
 refine wp_shade (fun W => AL w W [(w1.heap.size, [.slice a5 m5 c5, .int .i64 nx]), (w.heap.size + 1, [.slice none 0 0, .int .i64 0]), (w.heap.size, [.slice a n cap, .int .i64 nx])] w1.heap.size (.agg #[.slice a5 m5 c5, .int .i64 nx]) ⟨nodes, nx⟩) HAL.out ?_
 rintro W1 hA1
 replace HAL := Shut.mk hA1
 clear hA1 HM HANS hm5
 go_wp2_with fail
 go_loopw [2, 9] (fun gv iv wr => ∃ (k : Nat) (g : Int) (ka : Option Addr) (km kc : Nat) (Tk : TM), gv = .int .i64 g ∧ iv = .int .i64 k ∧ k ≤ ln ∧ Shut (allX ⟨nodes, nx⟩ (es.take k) gr = (Tk, g)) ∧ Shut (AL w wr [(w1.heap.size, [.slice ka km kc, .int .i64 Tk.next]), (w.heap.size + 1, [.slice none 0 0, .int .i64 0]), (w.heap.size, [.slice a n cap, .int .i64 nx])] w1.heap.size (.agg #[.slice ka km kc, .int .i64 Tk.next]) Tk)) (fun _ iv _ => ln - (intOf iv).toNat)
 case atStart => exact ⟨0, gr, _, _, _, ⟨nodes, nx⟩, rfl, rfl, Nat.zero_le _, ⟨by simp [allX]⟩, HAL⟩
 case round =>
  clear HAL
  obtain ⟨k, g, ka, km, kc, Tk, rfl, rfl, hk, HTK, HA⟩ := hrel
  have k0 : (0 : Int) ≤ (k : Int) := by omega
  by_cases hlt : k < ln
  ·have k1 : (k : Int) < (ln : Int) := by omega
   have hkl : k < es.length := by have := HLN.out; omega
   have hst := all_take ⟨nodes, nx⟩ es gr k hkl
   rw [HTK.out] at hst
   obtain ⟨b, off, hla, lb, hc⟩ := ecs_at HE.out (by omega)
   subst hla
   have hce := hc k hkl
   have HEF := Shut.mk (HFE.out _ (List.getElem_mem hkl))
   obtain ⟨e, hee⟩ : ∃ e, e = es[k] := ⟨_, rfl⟩
   rw [← hee] at hst hce HEF
   clear hee hc
   obtain ⟨kind, path, dest, num, who⟩ := e
   dsimp only at hce
   have HCE := Shut.mk hce
   clear hce
   obtain ⟨lo9, hi9, hans9, hlo9, hob9, hhi9⟩ := HA.out.ans
   have HAP := Shut.mk (fun (W : World) (hb : Below wr.heap.size wr W) => specApply ⟨kind, path, dest, num, who⟩ g (hans9.see.below hb) HA.out.fit HEF.out)
   have HGA := Shut.mk (fun (W : World) (hb : Below wr.heap.size wr W) => specGroupsAfter ⟨kind, path, dest, num, who⟩ g (hans9.see.below hb) HA.out.fit HEF.out)
   have HFT := Shut.mk (apply_fit HA.out.fit ⟨kind, path, dest, num, who⟩ g)
   have HST : Shut (allX ⟨nodes, nx⟩ (es.take (k + 1)) gr = if (applyX Tk ⟨kind, path, dest, num, who⟩ g).2 = 0 then ((applyX Tk ⟨kind, path, dest, num, who⟩ g).1, groupsX Tk ⟨kind, path, dest, num, who⟩ g) else (Tk, g)) := ⟨hst⟩
   obtain ⟨RT, rc, hRR⟩ : ∃ RT rc, applyX Tk ⟨kind, path, dest, num, who⟩ g = (RT, rc) := ⟨_, _, rfl⟩
   obtain ⟨gx, hgx⟩ : ∃ q, q = groupsX Tk ⟨kind, path, dest, num, who⟩ g := ⟨_, rfl⟩
   rw [hRR] at HAP HST HFT
   simp only [← hgx] at HGA HST
   dsimp only at HST HFT
   obtain ⟨kx, hkx⟩ : ∃ q, q = Tk.next := ⟨_, rfl⟩
   have HKX := Shut.mk hkx
   rw [← hkx] at HA HAP HGA
   have HL9 := Shut.mk (And.intro hlo9 (And.intro hob9 hhi9))
   clear hst hRR hgx hkx hans9 hlo9 hob9 hhi9 hkl
   go_upto_region 5 with fail
   go_cut [10, 11] from 20 to 29 (fun u10 u11 wx => ∃ (nb : Nat) (ra : Option Addr) (rm rcp : Nat), u10 = .pointer (some ⟨nb, 0, none⟩) ∧ u11 = .int .i64 rc ∧ Shut (WCells wx nb [.slice ra rm rcp, .int .i64 RT.next] ∧ Below wr.heap.size wr wx ∧ wr.heap.size ≤ nb ∧ ∃ lo8 hi8, TAns wx (.agg #[.slice ra rm rcp, .int .i64 RT.next]) RT lo8 hi8 ∧ wr.heap.size ≤ lo8 ∧ hi8 ≤ wx.heap.size))
   case first =>
    have z0 := ((HA.out.mb.at 0 rfl).1.2 0 _ rfl).1
    have z1 := ((HA.out.mb.at 0 rfl).1.2 1 _ rfl).1
    have lz := (HA.out.mb.at 0 rfl).1.1
    have hB := HA.out.mb.bel
    have c0 := (hB.cell (p := ⟨b, off + k * 5, none⟩) lb).trans HCE.out.1
    have c1 := (hB.cell (p := ⟨b, off + k * 5 + 1, none⟩) lb).trans HCE.out.2.1
    have c2 := (hB.cell (p := ⟨b, off + k * 5 + 2, none⟩) lb).trans HCE.out.2.2.1
    have c3 := (hB.cell (p := ⟨b, off + k * 5 + 3, none⟩) lb).trans HCE.out.2.2.2.1
    have c4 := (hB.cell (p := ⟨b, off + k * 5 + 4, none⟩) lb).trans HCE.out.2.2.2.2
    have lbr : b < wr.heap.size := Nat.lt_of_lt_of_le lb hB.size
    have ne1 : ¬ (wr.heap.size = w1.heap.size) := by omega
    have ne2 : ¬ (w1.heap.size = wr.heap.size) := by omega
    have ne3 : ¬ (wr.heap.size = b) := by omega
    have ne4 : ¬ (b = wr.heap.size) := by omega
    clear hB
    go_region_held3 (fun w' => w'.cell? ⟨w1.heap.size, 0, none⟩ = some (.slice ka km kc) ∧ w'.cell? ⟨w1.heap.size, 1, none⟩ = some (.int .i64 kx) ∧ w'.cell? ⟨b, off + k * 5, none⟩ = some (.int .i64 kind) ∧ w'.cell? ⟨b, off + k * 5 + 1, none⟩ = some (.string path) ∧ w'.cell? ⟨b, off + k * 5 + 2, none⟩ = some (.string dest) ∧ w'.cell? ⟨b, off + k * 5 + 3, none⟩ = some (.int .i64 num) ∧ w'.cell? ⟨b, off + k * 5 + 4, none⟩ = some (.int .i64 who)) (first | go_keep | (rw [hb2.cell (p := ⟨w1.heap.size, 0, none⟩) (by simp; omega), hb2.cell (p := ⟨w1.heap.size, 1, none⟩) (by simp; omega), hb2.cell (p := ⟨b, off + k * 5, none⟩) (by simp; omega), hb2.cell (p := ⟨b, off + k * 5 + 1, none⟩) (by simp; omega), hb2.cell (p := ⟨b, off + k * 5 + 2, none⟩) (by simp; omega), hb2.cell (p := ⟨b, off + k * 5 + 3, none⟩) (by simp; omega), hb2.cell (p := ⟨b, off + k * 5 + 4, none⟩) (by simp; omega)]; assumption)) ((go_at_call 14; refine (HAP.out _ (by first | exact Below.drew (Below.refl _ _) | exact ((Below.refl _ _).alloc (Nat.le_refl _) _).drew | exact Below.alloc (Below.drew (Below.refl _ _)) (Nat.le_refl _) _)).mono ?_; rintro e w2 ⟨vv, rfl, hans, hb2⟩; dsimp only at hans; have HANS := Shut.mk hans; obtain ⟨ra, rcp, rs5, rfl, hr5, -, -⟩ := hans.see_form; have hbw : Below wr.heap.size wr w2 := (by first | exact (Below.drew (Below.refl _ _)).trans hb2 | exact (((Below.refl _ _).alloc (Nat.le_refl _) _).drew).trans (hb2.mono (by simp)) | exact (Below.alloc (Below.drew (Below.refl _ _)) (Nat.le_refl _) _).trans (hb2.mono (by simp))); have f0 := (hbw.cell (p := ⟨w1.heap.size, 0, none⟩) lz).trans z0; have f1 := (hbw.cell (p := ⟨w1.heap.size, 1, none⟩) lz).trans z1; have f2 := (hbw.cell (p := ⟨b, off + k * 5, none⟩) lbr).trans c0; have f3 := (hbw.cell (p := ⟨b, off + k * 5 + 1, none⟩) lbr).trans c1; have f4 := (hbw.cell (p := ⟨b, off + k * 5 + 2, none⟩) lbr).trans c2; have f5 := (hbw.cell (p := ⟨b, off + k * 5 + 3, none⟩) lbr).trans c3; have f6 := (hbw.cell (p := ⟨b, off + k * 5 + 4, none⟩) lbr).trans c4; have HBW := Shut.mk hbw; have HB2 := Shut.mk hb2; (try (have hx : WCells w2 wr.heap.size [.slice none 0 0, .int .i64 0] := WCells.grow (w := wr.drew.alloc (.cells #[.slice none 0 0, .int .i64 0] 26)) (wcells_new wr.drew #[.slice none 0 0, .int .i64 0] 26) hb2; have HXX := Shut.mk hx; obtain ⟨p0, pf0⟩ := hx.2 0 _ rfl; obtain ⟨p1, pf1⟩ := hx.2 1 _ rfl; clear hx)); have lz2 : w1.heap.size < w2.heap.size := (by have q := hb2.size; simp at q; omega); have lb2 : b < w2.heap.size := (by have q := hb2.size; simp at q; omega); clear hans hr5))
    all_goals go_wp2_with fail
    all_goals go_meet
    all_goals
     first
     | exact ⟨w2.heap.size, ra, rs5.length, rcp, rfl, rfl, ⟨wcells_new w2 #[.slice ra rs5.length rcp, .int .i64 RT.next] 26, HBW.out.alloc HBW.out.size _, HBW.out.size, _, _, HANS.out.below ((Below.refl _ _).alloc (Nat.le_refl _) _), Nat.le_refl _, by simp⟩⟩
     | exact ⟨wr.heap.size, ra, rs5.length, rcp, rfl, rfl, ⟨(HXX.out.set 0 _ (by simp)).set 1 _ (by simp), (HBW.out.setCell (p := ⟨wr.heap.size, 0, none⟩) (Nat.le_refl _) _).setCell (p := ⟨wr.heap.size, 1, none⟩) (Nat.le_refl _) _, Nat.le_refl _, _, _, (HANS.out.box wr.heap.size 0 _ (by simp)).box wr.heap.size 1 _ (by simp), by simp, by simp⟩⟩
   case rest =>
   obtain ⟨nb, ra, rm, rcp, rfl, rfl, hC⟩ := hcut
   have HC := hC
   clear hC
   obtain ⟨rx, hrx⟩ : ∃ q, q = RT.next := ⟨_, rfl⟩
   rw [← hrx] at HC
   have HRX := Shut.mk hrx
   clear hrx
   have hwz := (HA.out.mb.at 0 rfl).1.1
   have hRT : Shut (AL w wc [(w1.heap.size, [.slice ka km kc, .int .i64 kx]), (w.heap.size + 1, [.slice none 0 0, .int .i64 0]), (w.heap.size, [.slice a n cap, .int .i64 nx])] w1.heap.size (.agg #[.slice ka km kc, .int .i64 kx]) Tk) := ⟨HA.out.below HC.out.2.1⟩
   by_cases h0 : rc = 0
   case neg =>
    have b0 : (rc == 0) = false := by simp [h0]
    have HS1 : Shut (allX ⟨nodes, nx⟩ (es.take (k + 1)) gr = (Tk, g)) := ⟨by rw [HST.out, if_neg h0]⟩
    clear h0
    go_wp2_with fail
    go_roundw
    case rel => exact ⟨k + 1, g, ka, km, kc, Tk, rfl, by go_num, by omega, HS1, by rw [← HKX.out]; exact hRT⟩
    case measure => simp [intOf]; omega
   have b0 : (rc == 0) = true := by simp [h0]
   have HS1 : Shut (allX ⟨nodes, nx⟩ (es.take (k + 1)) gr = (RT, gx)) := ⟨by rw [HST.out, if_pos h0]⟩
   clear h0 HAP
   go_upto_region 7 with fail
   have HLE : Shut (∀ x, Later wc.drew x → x.cell? ⟨w1.heap.size, 0, none⟩ = some (.slice ka km kc) ∧ x.cell? ⟨w1.heap.size, 1, none⟩ = some (.int .i64 kx) ∧ x.cell? ⟨b, off + k * 5, none⟩ = some (.int .i64 kind) ∧ x.cell? ⟨b, off + k * 5 + 1, none⟩ = some (.string path) ∧ x.cell? ⟨b, off + k * 5 + 2, none⟩ = some (.string dest) ∧ x.cell? ⟨b, off + k * 5 + 3, none⟩ = some (.int .i64 num) ∧ x.cell? ⟨b, off + k * 5 + 4, none⟩ = some (.int .i64 who)) := ⟨fun x hx => by
    have D := hRT.out.below (Below.trans (Below.drew (Below.refl _ _)) hx)
    have hB := D.mb.bel
    exact ⟨((D.mb.at 0 rfl).1.2 0 _ rfl).1, ((D.mb.at 0 rfl).1.2 1 _ rfl).1, (hB.cell (p := ⟨b, off + k * 5, none⟩) lb).trans HCE.out.1, (hB.cell (p := ⟨b, off + k * 5 + 1, none⟩) lb).trans HCE.out.2.1, (hB.cell (p := ⟨b, off + k * 5 + 2, none⟩) lb).trans HCE.out.2.2.1, (hB.cell (p := ⟨b, off + k * 5 + 3, none⟩) lb).trans HCE.out.2.2.2.1, (hB.cell (p := ⟨b, off + k * 5 + 4, none⟩) lb).trans HCE.out.2.2.2.2⟩⟩
   have HBX : Shut (∀ x, Later wc.drew x → Below wr.heap.size wr x) := ⟨fun x hx => HC.out.2.1.trans ((Below.trans (Below.drew (Below.refl _ _)) hx : Below wc.heap.size wc x).mono HC.out.2.1.size)⟩
   refine wp_region_later (by kernel_rfl) ?_
   refine wpL_val (i := 0) (v := ?va0) rfl (by kernel_rfl) (by kernel_rfl) (by kernel_rfl) (fun _ _ _ h => h) (by rfl) ?hya0 ?resta0
   case hya0 => (intro x hx; obtain ⟨d0, d1, d2, d3, d4, d5, d6⟩ := HLE.out x hx; go_simp; try with_reducible rfl)
   try simp only [Act.put, qA, qB, qC]
   refine wpL_val (i := 1) (v := ?va1) rfl (by kernel_rfl) (by kernel_rfl) (by kernel_rfl) (fun _ _ _ h => h) (by rfl) ?hya1 ?resta1
   case hya1 => (intro x hx; obtain ⟨d0, d1, d2, d3, d4, d5, d6⟩ := HLE.out x hx; go_simp; try with_reducible rfl)
   try simp only [Act.put, qA, qB, qC]
   refine wpL_val (i := 2) (v := ?va2) rfl (by kernel_rfl) (by kernel_rfl) (by kernel_rfl) (fun _ _ _ h => h) (by rfl) ?hya2 ?resta2
   case hya2 => (intro x hx; obtain ⟨d0, d1, d2, d3, d4, d5, d6⟩ := HLE.out x hx; go_simp; try with_reducible rfl)
   try simp only [Act.put, qA, qB, qC]
   refine wpL_val (i := 3) (v := ?va3) rfl (by kernel_rfl) (by kernel_rfl) (by kernel_rfl) (fun _ _ _ h => h) (by rfl) ?hya3 ?resta3
   case hya3 => (intro x hx; obtain ⟨d0, d1, d2, d3, d4, d5, d6⟩ := HLE.out x hx; go_simp; try with_reducible rfl)
   try simp only [Act.put, qA, qB, qC]
   refine wpL_val (i := 4) (v := ?va4) rfl (by kernel_rfl) (by kernel_rfl) (by kernel_rfl) (fun _ _ _ h => h) (by rfl) ?hya4 ?resta4
   case hya4 => (intro x hx; obtain ⟨d0, d1, d2, d3, d4, d5, d6⟩ := HLE.out x hx; go_simp; try with_reducible rfl)
   try simp only [Act.put, qA, qB, qC]
   refine wpL_val (i := 5) (v := ?va5) rfl (by kernel_rfl) (by kernel_rfl) (by kernel_rfl) (fun _ _ _ h => h) (by rfl) ?hya5 ?resta5
   case hya5 => (intro x hx; obtain ⟨d0, d1, d2, d3, d4, d5, d6⟩ := HLE.out x hx; go_simp; try with_reducible rfl)
   try simp only [Act.put, qA, qB, qC]
   refine wpL_call (i := 6) (v := .int .i64 gx) (f := 18) (args := #[.agg #[.slice ka km kc, .int .i64 kx], ev ⟨kind, path, dest, num, who⟩, .int .i64 g]) rfl (by kernel_rfl) (by kernel_rfl) (by kernel_rfl) (fun _ _ _ h => h) (by rfl) ?hya6 (fun x hx => HGA.out x (HBX.out x hx)) ?resta6
   case hya6 => (intro x hx; obtain ⟨d0, d1, d2, d3, d4, d5, d6⟩ := HLE.out x hx; go_simp; try with_reducible rfl)
   try simp only [Act.put, qA, qB, qC]
   refine wpL_val (i := 7) (v := ?va7) rfl (by kernel_rfl) (by kernel_rfl) (by kernel_rfl) (fun _ _ _ h => h) (by rfl) ?hya7 ?resta7
   case hya7 => (intro x hx; obtain ⟨d0, d1, d2, d3, d4, d5, d6⟩ := HLE.out x hx; go_simp; try with_reducible rfl)
   try simp only [Act.put, qA, qB, qC]
   refine wpL_done (by kernel_rfl) ?_ _
   intro W5 hy
   have hb5 := (Below.trans (Below.drew (Below.refl _ _)) hy : Below wc.heap.size wc W5)
   have HW5 := Shut.mk (And.intro (hRT.out.below hb5) (And.intro (HC.out.1.grow hb5) (HC.out.2.1.trans (hb5.mono HC.out.2.1.size))))
   obtain ⟨lo8, hi8, h81, h82, h83⟩ := HC.out.2.2.2
   have HT8 := Shut.mk (h81.below hb5)
   have HS8 : Shut (hi8 ≤ W5.heap.size) := ⟨Nat.le_trans h83 hb5.size⟩
   clear h81 h83 hb5 hy HLE HBX
   obtain ⟨z0, zf0⟩ := (HW5.out.1.mb.at 0 rfl).1.2 0 _ rfl
   obtain ⟨z1, zf1⟩ := (HW5.out.1.mb.at 0 rfl).1.2 1 _ rfl
   have n0 := (HW5.out.2.1.2 0 _ rfl).1
   have n1 := (HW5.out.2.1.2 1 _ rfl).1
   have hnw : ¬ (nb = w1.heap.size) := by have := HC.out.2.2.1; omega
   have hnw2 : ¬ (w1.heap.size = nb) := by have := HC.out.2.2.1; omega
   go_wp2_with fail
   go_roundw
   case rel =>
    refine ⟨k + 1, gx, ra, rm, rcp, RT, rfl, by go_num, by omega, HS1, ⟨?_⟩⟩
    rw [← HRX.out]
    refine ⟨(HW5.out.1.mb.put 0 rfl 0 _ (by simp)).put 0 rfl 1 _ (by simp), ⟨lo8, hi8, (HT8.out.box w1.heap.size 0 _ (by omega)).box w1.heap.size 1 _ (by omega), ?_, .inr (by omega), ?_⟩, HFT.out⟩
    ·have := HL9.out
     have h5 := (HA.out.mb.at 1 rfl).1.1
     omega
    ·have := HS8.out
     simp
     omega
   case measure => simp [intOf]; omega
  ·have k1 : ¬ ((k : Int) < (ln : Int)) := by omega
   have hall : es.take k = es := List.take_of_length_le (by have := HLN.out; omega)
   rw [hall, ← HR.out] at HTK
   obtain ⟨z0, zf0⟩ := (HA.out.mb.at 0 rfl).1.2 0 _ rfl
   obtain ⟨z1, zf1⟩ := (HA.out.mb.at 0 rfl).1.2 1 _ rfl
   obtain ⟨q0, qf0⟩ := (HA.out.mb.at 1 rfl).1.2 0 _ rfl
   obtain ⟨q1, qf1⟩ := (HA.out.mb.at 1 rfl).1.2 1 _ rfl
   obtain ⟨kx, hkx⟩ : ∃ q, q = Tk.next := ⟨_, rfl⟩
   rw [← hkx] at HA z1
   have HFIN : Shut (FinT w ((wr.setCell ⟨w.heap.size + 1, 0, none⟩ (.slice ka km kc)).setCell ⟨w.heap.size + 1, 1, none⟩ (.int .i64 kx)) (w.heap.size + 1) (.slice ka km kc) kx Tk) := ⟨by
    obtain ⟨lo9, hi9, h1, h2, h3, h4⟩ := HA.out.ans
    have M2 := (HA.out.mb.put 1 rfl 0 (.slice ka km kc) (by simp)).put 1 rfl 1 (.int .i64 kx) (by simp)
    refine ⟨((M2.at 1 rfl).1.2 0 _ rfl).1, ((M2.at 1 rfl).1.2 1 _ rfl).1, ?_, M2.bel⟩
    have hs : ((wr.setCell ⟨w.heap.size + 1, 0, none⟩ (.slice ka km kc)).setCell ⟨w.heap.size + 1, 1, none⟩ (.int .i64 kx)).heap.size = wr.heap.size := by simp
    rw [hs]
    exact ((h1.box (w.heap.size + 1) 0 _ (by omega)).box (w.heap.size + 1) 1 _ (by omega)).wide (by omega) h4⟩
   clear hall hkx
   go_wp2_with fail
   refine body_shade (fun W => FinT w W (w.heap.size + 1) (.slice ka km kc) kx Tk) HFIN.out ?_
   rintro W8 ⟨r0, r1, hans, hbel⟩
   exact bodyPost_ret (v := .tuple #[.agg #[.slice ka km kc, .int .i64 kx], .int .i64 g]) (by simp [results, Tryz.results29, go_sem, r0, r1]) rfl ⟨_, by rw [HTK.out], by rw [HTK.out]; exact hans, hbel⟩
end Go.Proofs.YtakhagkhngmpaaaGreat
/- DrEdE: . -/
namespace Go.Proofs.YtakhagkhngmpaaaGreat
set_option maxRecDepth 100000
open Go.RowKit
attribute [local go_sem ↓] Go.wp_at_zero Go.wp_at_succ
theorem infoEditG : (Tryz.prog.info? 28).map (fun i => (i.zero, i.size, i.bytes)) = some (some (.agg #[.int .i64 0, .string ⟨#[]⟩, .string ⟨#[]⟩, .int .i64 0, .int .i64 0]), 5, 56) := by kernel_rfl
structure ES (w wx : World) (g B : Nat) (a : Option Addr) (len cap E : Nat) (v : Value) (es : List EM) (k : Nat) : Prop where
 cur : Cur wx g B a len cap
 gr : w.grownBy wx (some g)
 own : wx.ownsRow w.heap.size 28 5 v k (ecs es)
 ln : es.length = k
 pl : ∀ e ∈ es, EPl e
 box : ∃ X, WCells wx E (ecells X) ∧ EPl X
 hE : w.heap.size ≤ E
 ne : v.ownBlock ≠ some E
 hg : g < w.heap.size
theorem ES.turn {w wx wy : World} {g B : Nat} {a : Option Addr} {len cap E : Nat} {v : Value} {es : List EM} {k : Nat} (h : ES w wx g B a len cap E v es k) (hc : Cur wy g B a len cap) (hg : wx.grownBy wy (some g)) : ES w wy g B a len cap E v es k := by
 obtain ⟨X, hX, hp⟩ := h.box
 refine ⟨hc, gb_two h.gr hg, h.own.kept hg ?_, h.ln, h.pl, ⟨X, hX.apart hg (by have := h.hE; have := h.hg; omega), hp⟩, h.hE, h.ne, h.hg⟩
 cases e : v.ownBlock with
 | none => exact .inl rfl
 | some q => exact .inr fun e2 => by cases e2; have := (h.own.lt _ e).1; have := h.hg; omega
theorem ES.set {w wx : World} {g B : Nat} {a : Option Addr} {len cap E : Nat} {v : Value} {es : List EM} {k : Nat} (h : ES w wx g B a len cap E v es k) (Z : EM) (hZ : EPl Z) : ES w (put5 wx E Z) g B a len cap E v es k := by
 obtain ⟨X, hX, hp⟩ := h.box
 have hEg : E ≠ g := by have := h.hE; have := h.hg; omega
 have hBE : B ≤ E := by have := h.hE; have := h.hg; have := h.cur.1; omega
 have hk : ∀ (W : World) (i : Nat) (x : Value), W.ownsRow w.heap.size 28 5 v k (ecs es) → (W.setCell ⟨E, i, none⟩ x).ownsRow w.heap.size 28 5 v k (ecs es) := fun W i x ho => ho.kept (gb_set' W E i x) (.inr h.ne)
 refine ⟨((((h.cur.other ⟨E, 0, none⟩ _ hEg hBE).other ⟨E, 1, none⟩ _ hEg hBE).other ⟨E, 2, none⟩ _ hEg hBE).other ⟨E, 3, none⟩ _ hEg hBE).other ⟨E, 4, none⟩ _ hEg hBE, gb_fresh (gb_fresh (gb_fresh (gb_fresh (gb_fresh h.gr ⟨E, 0, none⟩ _ h.hE) ⟨E, 1, none⟩ _ h.hE) ⟨E, 2, none⟩ _ h.hE) ⟨E, 3, none⟩ _ h.hE) ⟨E, 4, none⟩ _ h.hE, hk _ _ _ (hk _ _ _ (hk _ _ _ (hk _ _ _ (hk _ _ _ h.own)))), h.ln, h.pl, ⟨Z, ?_, hZ⟩, h.hE, h.ne, h.hg⟩
 exact ((((hX.set 0 (.int .i64 Z.kind) (by simp [ecells])).set 1 (.string Z.path) (by simp [ecells])).set 2 (.string Z.dest) (by simp [ecells])).set 3 (.int .i64 Z.num) (by simp [ecells])).set 4 (.int .i64 Z.who) (by simp [ecells])
theorem ES.below {w wx wy : World} {g B : Nat} {a : Option Addr} {len cap E : Nat} {v : Value} {es : List EM} {k : Nat} (h : ES w wx g B a len cap E v es k) (hb : Below wx.heap.size wx wy) : ES w wy g B a len cap E v es k := h.turn (h.cur.below hb) (gb_below hb)
theorem ES.room {w wx : World} {g B : Nat} {a : Option Addr} {len cap E : Nat} {v : Value} {es : List EM} {k : Nat} (h : ES w wx g B a len cap E v es k) : ∃ X : EM, (wx.cell? ⟨E, 0, none⟩ = some (.int .i64 X.kind) ∧ wx.frozen? ⟨E, 0, none⟩ = false) ∧ (wx.cell? ⟨E, 1, none⟩ = some (.string X.path) ∧ wx.frozen? ⟨E, 1, none⟩ = false) ∧ (wx.cell? ⟨E, 2, none⟩ = some (.string X.dest) ∧ wx.frozen? ⟨E, 2, none⟩ = false) ∧ (wx.cell? ⟨E, 3, none⟩ = some (.int .i64 X.num) ∧ wx.frozen? ⟨E, 3, none⟩ = false) ∧ (wx.cell? ⟨E, 4, none⟩ = some (.int .i64 X.who) ∧ wx.frozen? ⟨E, 4, none⟩ = false) ∧ EPl X := by
 obtain ⟨X, hX, hp⟩ := h.box
 exact ⟨X, hX.2 0 _ rfl, hX.2 1 _ rfl, hX.2 2 _ rfl, hX.2 3 _ rfl, hX.2 4 _ rfl, hp⟩
theorem ES.last {w wx : World} {g B : Nat} {a : Option Addr} {len cap E gv cv : Nat} {es : List EM} {k : Nat} {X : EM} (h : ES w wx g B a len cap E (.slice (some ⟨gv, 0, none⟩) k cv) es k) (h0 : 0 < k) (hX : es[k - 1]? = some X) : wx.cell? ⟨gv, (k - 1) * 5, none⟩ = some (.int .i64 X.kind) ∧ wx.cell? ⟨gv, (k - 1) * 5 + 1, none⟩ = some (.string X.path) ∧ (X.path.size ≤ 16 ∧ noZ X.path = true) := by
 have hl := h.ln
 have hk : k - 1 < es.length := by omega
 have hXe : es[k - 1] = X := by rw [List.getElem?_eq_getElem hk] at hX; exact Option.some.inj hX
 subst hXe
 have hw := own_wcells h.own
 have hg : ∀ f v, (ecells es[k - 1])[f]? = some v → wx.cell? ⟨gv, (k - 1) * 5 + f, none⟩ = some v := fun f v hv => by
  have hf : f < 5 := by have := (List.getElem?_eq_some_iff.1 hv).1; rw [ecells_len] at this; exact this
  exact (hw.2 _ _ ((flat_get ecells_len es (k - 1) hk f hf).trans hv)).1
 exact ⟨hg 0 _ rfl, hg 1 _ rfl, (h.pl _ (List.getElem_mem hk)).1⟩
theorem Cur.grow {w w' : World} {g B len cap : Nat} {a : Option Addr} (h : Cur w g B a len cap) {row : Option Nat} (hg : w.grownBy w' row) (hr : ∀ q, row = some q → q ≠ g ∧ B ≤ q) : Cur w' g B a len cap := by
 obtain ⟨h1, h2, h3, h4, ⟨i, h5, h5'⟩, ⟨k, h6⟩, h7⟩ := h
 have hb : w'.heap[g]? = w.heap[g]? := hg.block g h2 fun e => (hr g e.symm).1 rfl
 refine ⟨h1, Nat.lt_of_lt_of_le h2 hg.size, ⟨h3.1, fun hp' => ?_⟩, (World.cell?_of_block (a := ⟨g, 0, none⟩) hb).trans h4, ⟨i, (World.cell?_of_block (a := ⟨g, 1, none⟩) hb).trans h5, h5'⟩, ⟨k, (World.cell?_of_block (a := ⟨g, 2, none⟩) hb).trans h6⟩, fun j hj => (World.frozen?_of_block (a := ⟨g, j, none⟩) hb).trans (h7 j hj)⟩
 obtain ⟨b, off, e, hbB, hx⟩ := h3.2 hp'
 have hbb : w'.heap[b]? = w.heap[b]? := hg.block b (by omega) fun e => by have := (hr b e.symm).2; omega
 exact ⟨b, off, e, hbB, fun j hj => (hx j hj).imp fun x hx => ⟨(World.cell?_of_block (a := ⟨b, off + j, none⟩) hbb).trans hx.1, hx.2⟩⟩
theorem gb_more {w0 w w' : World} {g : Nat} {row : Option Nat} (h : w0.grownBy w (some g)) (k : w.grownBy w' row) (hr : ∀ q, row = some q → w0.heap.size ≤ q) : w0.grownBy w' (some g) :=
 ⟨k.os.trans h.os, k.tape.trans h.tape, k.output.trans h.output, Nat.le_trans h.size k.size, fun i hi hn => (k.block i (Nat.lt_of_lt_of_le hi h.size) (fun e => by have := hr i e.symm; omega)).trans (h.block i hi hn)⟩
theorem ES.more {w wx wa w10 : World} {g B : Nat} {a : Option Addr} {len cap E : Nat} {v v' : Value} {es : List EM} {k : Nat} {X : EM} (h : ES w wx g B a len cap E v es k) (hp : EPl X) (ha : Below wx.heap.size wx wa) (hg : wa.grownBy w10 v.ownBlock) (ho : w10.ownsRow w.heap.size 28 5 v' (k + 1) (ecs es ++ ecells X)) :
  (es ++ [X]).length = k + 1 ∧ (∀ x ∈ es ++ [X], EPl x) ∧ w10.ownsRow w.heap.size 28 5 v' (k + 1) (ecs (es ++ [X])) ∧ Cur w10 g B a len cap ∧ w.grownBy w10 (some g) := by
 have hlt : ∀ q, v.ownBlock = some q → w.heap.size ≤ q := fun q e => (h.own.lt q e).1
 refine ⟨by rw [List.length_append, h.ln]; rfl, ?_, ?_, (h.cur.below ha).grow hg fun q e => ?_, gb_more (gb_two h.gr (gb_below ha)) hg hlt⟩
 ·intro x hx
  rcases List.mem_append.1 hx with hx | hx
  ·exact h.pl x hx
  ·rw [List.mem_singleton.1 hx]; exact hp
 ·have e : ecs (es ++ [X]) = ecs es ++ ecells X := by simp [ecs]
  rw [e]; exact ho
 ·have := hlt q e; have := h.hg; have := h.cur.1
  exact ⟨by omega, by omega⟩
def EsPost (m : Nat) (w : World) (g B : Nat) (a : Option Addr) (len cap : Nat) (e : Ending) (w' : World) : Prop :=
 ∃ (v : Value) (es : List EM), e = .returned v ∧ es.length ≤ m ∧ (∀ x ∈ es, EPl x) ∧ w'.ownsRow w.heap.size 28 5 v es.length (ecs es) ∧ Cur w' g B a len cap ∧ w.grownBy w' (some g)
set_option maxHeartbeats 4000000 in
theorem l11Edits_any (w : World) (g B : Nat) (a : Option Addr) (len cap : Nat) (m : Nat) (hm : m ≤ 1000) (hc : Cur w g B a len cap) :
  Calls Tryz.prog 82 #[.pointer (some ⟨g, 0, none⟩), .int .i64 (m : Nat)] w fun e w' => EsPost m w g B a len cap e w' := by
 obtain ⟨i0, hin, hz0, hz1, hz2⟩ := info_parts infoEditG
 have HC := Shut.mk hc
 have hgw := Shut.mk hc.2.1
 have HO := Shut.mk (World.ownsRow_made (e := 28) (size := 5) (base := w.heap.size) w #[] 0 (Nat.le_refl _) (by decide) rfl)
 clear hc
 go_enter Tryz.func82, Tryz.ntmps82
 go_wp2_with fail
 go_loopw [5, 6] (fun v i wr => ∃ (k : Nat) (es : List EM) (vv : Value), vv = v ∧ i = .int .i64 k ∧ k ≤ m ∧ Shut (es.length = k ∧ (∀ x ∈ es, EPl x) ∧ wr.ownsRow w.heap.size 28 5 vv k (ecs es) ∧ Cur wr g B a len cap ∧ w.grownBy wr (some g))) (fun _ i _ => m - (intOf i).toNat)
 case atStart => exact ⟨0, [], _, rfl, rfl, Nat.zero_le _, ⟨rfl, by simp, by simpa [ecs] using HO.out, HC.out.below ((Below.refl _ _).alloc (Nat.le_refl _) _), gb_below ((Below.refl _ _).alloc (Nat.le_refl _) _)⟩⟩
 case round =>
  clear HC HO
  obtain ⟨k, es, vv, rfl, rfl, hk, HW⟩ := hrel
  have k0 : (0 : Int) ≤ (k : Int) := by omega
  go_upto_if 13 with (go_at_call 56; refine (l01Below_any _ g B a len cap m (by omega) HW.out.2.2.2.1).mono ?_; rintro e w2 ⟨x, rfl, x0, x1, hc2, hg2⟩; have HC2 := Shut.mk (And.intro hc2 hg2); clear hc2 hg2)
  obtain ⟨y, rfl⟩ := Int.eq_ofNat_of_zero_le x0
  have HO2 : Shut (w2.ownsRow w.heap.size 28 5 vv k (ecs es)) := ⟨HW.out.2.2.1.kept HC2.out.2 (by
   cases e : vv.ownBlock with
   | none => exact .inl rfl
   | some q => exact .inr fun e2 => by cases e2; have := (HW.out.2.2.1.lt _ e).1; have := hgw.out; omega)⟩
  have HG2 := Shut.mk (gb_two HW.out.2.2.2.2 HC2.out.2)
  by_cases hlt : k < y
  case neg =>
   have k1 : ¬ ((k : Int) < (y : Int)) := by omega
   go_wp2_with fail
   go_ret
   exact ⟨vv, es, rfl, by rw [HW.out.1]; exact hk, HW.out.2.1, by rw [HW.out.1]; exact HO2.out, HC2.out.1, HG2.out⟩
  have k1 : (k : Int) < (y : Int) := by omega
  have hkm : k < m := by omega
  clear x0 x1
  go_upto_region 6 with (go_at_call 54; refine (l11Edit_any _ g B a len cap HC2.out.1).mono ?_; rintro e w3 ⟨⟨kind, path, dest, num, who⟩, rfl, hp3, hc3, hg3⟩; have HP3 := Shut.mk hp3; have HC3 := Shut.mk (And.intro hc3 hg3); clear hp3 hc3 hg3)
  have HES : Shut (ES w (w3.alloc (.cells #[.int .i64 kind, .string path, .string dest, .int .i64 num, .int .i64 who] 28)) g B a len cap w3.heap.size vv es k) := ⟨by
   have ho : w3.ownsRow w.heap.size 28 5 vv k (ecs es) := HO2.out.kept HC3.out.2 (by
    cases e : vv.ownBlock with
    | none => exact .inl rfl
    | some q => exact .inr fun e2 => by cases e2; have := (HO2.out.lt _ e).1; have := hgw.out; omega)
   have hb : Below w3.heap.size w3 (w3.alloc (.cells #[.int .i64 kind, .string path, .string dest, .int .i64 num, .int .i64 who] 28)) := (Below.refl _ _).alloc (Nat.le_refl _) _
   have hgg := gb_two HG2.out HC3.out.2
   exact ⟨HC3.out.1.below hb, gb_two hgg (gb_below hb), ho.alloc _, HW.out.1, HW.out.2.1, ⟨⟨kind, path, dest, num, who⟩, wcells_new w3 #[.int .i64 kind, .string path, .string dest, .int .i64 num, .int .i64 who] 28, HP3.out⟩, hgg.size, fun e => by have := (ho.lt _ e).2; omega, hgw.out⟩⟩
  refine wp_shade (fun W => ES w W g B a len cap w3.heap.size vv es k) HES.out ?_
  rintro W4 hW4
  replace HES := Shut.mk hW4
  obtain ⟨E, hEE⟩ : ∃ E, E = w3.heap.size := ⟨_, rfl⟩
  rw [← hEE] at HES ⊢
  clear hW4 HC3 HP3 HO2 HG2 HC2 HW hEE hlt
  go_cut [23] from 18 to 23 (fun u wx => ∃ b : Bool, u = .bool b ∧ Shut (ES w wx g B a len cap E vv es k))
  case first =>
   by_cases h3 : k < 3
   ·have b3 : (k : Int) < 3 := by omega
    go_wp2_with (go_at_call 55; refine (l01Once_any _ g B a len cap 2 (by omega) HES.out.cur).mono ?_; rintro e w5 ⟨bb, rfl, hc5, hg5⟩; replace HES := Shut.mk (HES.out.turn hc5 hg5); clear hc5 hg5)
    go_meet
    case rel => exact ⟨bb, rfl, HES⟩
   ·have b3 : ¬ ((k : Int) < 3) := by omega
    go_wp2_with fail
    go_meet
    case rel => exact ⟨false, rfl, HES⟩
  case rest =>
  obtain ⟨bb, rfl, HE2⟩ := hcut
  clear HES
  go_upto_if 23 with fail
  go_cut [7] from 23 to 27 (fun u wx => u = .pointer (some ⟨E, 0, none⟩) ∧ Shut (ES w wx g B a len cap E vv es k))
  case first =>
   cases bb with
   | false =>
    go_wp2_with fail
    go_meet
    case rel => exact ⟨rfl, HE2⟩
   | true =>
    obtain ⟨W5, hW5⟩ : ∃ W, W = wc := ⟨_, rfl⟩
    have hlit : (#[.string ⟨#[47, 97]⟩, .string ⟨#[47, 98]⟩] : Array Value) = (List.map Value.string [⟨#[47, 97]⟩, ⟨#[47, 98]⟩]).toArray := rfl
    have HL := Shut.mk (new_texts wc 9 (fun y => y.size ≤ 16 ∧ noZ y = true) [⟨#[47, 97]⟩, ⟨#[47, 98]⟩] (by decide))
    rw [← hlit] at HL
    clear hlit hW5
    go_wp2_with (go_at_call 57; refine (l01Pick_in (fun y => y.size ≤ 16 ∧ noZ y = true) _ g B a len cap wc.heap.size 2 (by decide) (by decide) (by have := HE2.out.cur.2.1; omega) HL.out (HE2.out.cur.below ((Below.refl _ _).alloc (Nat.le_refl _) _))).mono ?_; rintro e w6 ⟨yt, rfl, hyt, hc6, hg6⟩; replace HE2 := Shut.mk (HE2.out.turn hc6 (gb_two (gb_below ((Below.refl _ _).alloc (Nat.le_refl _) _)) hg6)); have HYT := Shut.mk hyt; clear hc6 hg6 hyt; obtain ⟨X, ⟨q0, f0⟩, ⟨q1, f1⟩, ⟨q2, f2⟩, ⟨q3, f3⟩, ⟨q4, f4⟩, -⟩ := HE2.out.room)
    go_meet
    case rel => exact ⟨rfl, ⟨HE2.out.set ⟨1, yt, ⟨#[]⟩, 0, 0⟩ ⟨HYT.out, pl_none⟩⟩⟩
  case rest =>
  obtain ⟨rfl, HE3⟩ := hcut
  have HES := HE3
  clear HE3 HE2
  go_upto_region 8 with fail
  go_cut [33] from 28 to 33 (fun u wx => ∃ b : Bool, u = .bool b ∧ Shut (ES w wx g B a len cap E vv es k))
  case first =>
   by_cases h3 : 2 < k
   ·have b3 : (2 : Int) < (k : Int) := by omega
    go_wp2_with (go_at_call 55; refine (l01Once_any _ g B a len cap 3 (by omega) HES.out.cur).mono ?_; rintro e w5 ⟨bb2, rfl, hc5, hg5⟩; replace HES := Shut.mk (HES.out.turn hc5 hg5); clear hc5 hg5)
    go_meet
    case rel => exact ⟨bb2, rfl, HES⟩
   ·have b3 : ¬ ((2 : Int) < (k : Int)) := by omega
    go_wp2_with fail
    go_meet
    case rel => exact ⟨false, rfl, HES⟩
  case rest =>
  obtain ⟨bb, rfl, HE2⟩ := hcut
  clear HES
  go_upto_if 33 with fail
  go_cut [7] from 33 to 37 (fun u wx => u = .pointer (some ⟨E, 0, none⟩) ∧ Shut (ES w wx g B a len cap E vv es k))
  case first =>
   cases bb with
   | false =>
    go_wp2_with fail
    go_meet
    case rel => exact ⟨rfl, HE2⟩
   | true =>
    obtain ⟨W5, hW5⟩ : ∃ W, W = wc := ⟨_, rfl⟩
    have hlit : (#[.string ⟨#[47, 99]⟩, .string ⟨#[47, 97, 47, 98]⟩, .string ⟨#[47, 97, 47, 99]⟩, .string ⟨#[47, 98, 47, 97]⟩] : Array Value) = (List.map Value.string [⟨#[47, 99]⟩, ⟨#[47, 97, 47, 98]⟩, ⟨#[47, 97, 47, 99]⟩, ⟨#[47, 98, 47, 97]⟩]).toArray := rfl
    have HL := Shut.mk (new_texts wc 9 (fun y => y.size ≤ 16 ∧ noZ y = true) [⟨#[47, 99]⟩, ⟨#[47, 97, 47, 98]⟩, ⟨#[47, 97, 47, 99]⟩, ⟨#[47, 98, 47, 97]⟩] (by decide))
    rw [← hlit] at HL
    clear hlit hW5
    go_wp2_with (go_at_call 57; refine (l01Pick_in (fun y => y.size ≤ 16 ∧ noZ y = true) _ g B a len cap wc.heap.size 4 (by decide) (by decide) (by have := HE2.out.cur.2.1; omega) HL.out (HE2.out.cur.below ((Below.refl _ _).alloc (Nat.le_refl _) _))).mono ?_; rintro e w6 ⟨yt, rfl, hyt, hc6, hg6⟩; replace HE2 := Shut.mk (HE2.out.turn hc6 (gb_two (gb_below ((Below.refl _ _).alloc (Nat.le_refl _) _)) hg6)); have HYT := Shut.mk hyt; clear hc6 hg6 hyt; obtain ⟨X, ⟨q0, f0⟩, ⟨q1, f1⟩, ⟨q2, f2⟩, ⟨q3, f3⟩, ⟨q4, f4⟩, -⟩ := HE2.out.room)
    go_meet
    case rel => exact ⟨rfl, ⟨HE2.out.set ⟨2, yt, ⟨#[]⟩, 0, 1⟩ ⟨HYT.out, pl_none⟩⟩⟩
  case rest =>
  obtain ⟨rfl, HE3⟩ := hcut
  have HES := HE3
  clear HE3 HE2
  go_upto_region 10 with fail
  have hform : vv = .slice none 0 0 ∧ k = 0 ∨ ∃ gv cv, vv = .slice (some ⟨gv, 0, none⟩) k cv := by
   rcases HES.out.own.2 with h | ⟨gv, cv, cur, e, _⟩
   ·exact .inl h
   ·exact .inr ⟨gv, cv, e⟩
  obtain ⟨va, vc, hva⟩ : ∃ va vc, vv = .slice va k vc := by
   rcases hform with ⟨e, e2⟩ | ⟨gv, cv, e⟩
   ·exact ⟨none, 0, by rw [e, e2]⟩
   ·exact ⟨_, _, e⟩
  subst hva
  have HVA : Shut (0 < k → ∃ gv, va = some ⟨gv, 0, none⟩) := ⟨fun hk0 => by
   rcases hform with ⟨_, e2⟩ | ⟨gv, cv, e⟩
   ·omega
   ·simp at e
    exact ⟨gv, e.1⟩⟩
  clear hform
  obtain ⟨X, hXX⟩ : ∃ X : EM, 0 < k → es[k - 1]? = some X := by
   by_cases h0 : 0 < k
   ·have hk1 : k - 1 < es.length := by have := HES.out.ln; omega
    exact ⟨es[k - 1], fun _ => List.getElem?_eq_getElem hk1⟩
   ·exact ⟨zeroE, fun h => absurd h h0⟩
  obtain ⟨lk, lp, ld, ln, lw⟩ := X
  have HX := Shut.mk hXX
  clear hXX
  go_cut [54] from 38 to 54 (fun u wx => ∃ b : Bool, u = .bool b ∧ (b = true → 0 < k) ∧ Shut (ES w wx g B a len cap E (.slice va k vc) es k))
  case first =>
   by_cases h0 : 0 < k
   ·have b0 : (0 : Int) < (k : Int) := by omega
    obtain ⟨gv, rfl⟩ := HVA.out h0
    go_wp2_with (go_at_call 55; refine (l01Once_any _ g B a len cap 3 (by omega) HES.out.cur).mono ?_; rintro e w5 ⟨bb2, rfl, hc5, hg5⟩; replace HES := Shut.mk (HES.out.turn hc5 hg5); clear hc5 hg5; obtain ⟨l0, l1, -⟩ := HES.out.last h0 (HX.out h0); dsimp only at l0 l1; cases bb2)
    all_goals go_meet
    all_goals exact ⟨_, rfl, fun _ => h0, HES⟩
   ·have b0 : ¬ ((0 : Int) < (k : Int)) := by omega
    go_wp2_with fail
    go_meet
    case rel => exact ⟨false, rfl, by simp, HES⟩
  case rest =>
  obtain ⟨bb, rfl, hbb, HE2⟩ := hcut
  clear HES
  go_upto_if 54 with fail
  go_cut [7] from 54 to 65 (fun u wx => u = .pointer (some ⟨E, 0, none⟩) ∧ Shut (ES w wx g B a len cap E (.slice va k vc) es k))
  case first =>
   cases bb with
   | false =>
    go_wp2_with fail
    go_meet
    case rel => exact ⟨rfl, HE2⟩
   | true =>
    have h0 := hbb rfl
    have b0 : (0 : Int) < (k : Int) := by omega
    obtain ⟨gv, rfl⟩ := HVA.out h0
    obtain ⟨l0, l1, hlp⟩ := HE2.out.last h0 (HX.out h0)
    dsimp only at l0 l1 hlp
    have HLP := Shut.mk hlp
    clear hlp
    obtain ⟨n, hn⟩ : ∃ n, n = k - 1 := ⟨_, rfl⟩
    rw [← hn] at l0 l1
    have hs2 : (k : Int) - 1 = (n : Int) := by omega
    have hs1 : IntKind.i64.wrap ((k : Int) - 1) = (n : Int) := by rw [IntKind.wrap_i64]; omega
    have n0 : (0 : Int) ≤ (n : Int) := by omega
    have n1 : (n : Int) < (k : Int) := by omega
    have HN := Shut.mk hn
    have hne : ¬ (gv = E) := fun e => HE2.out.ne (by rw [e]; rfl)
    have hne2 : ¬ (E = gv) := fun e => hne e.symm
    clear hn hs2 b0
    go_upto_region 11 with fail
    go_region_held3 (fun w' => w'.cell? ⟨gv, n * 5 + 1, none⟩ = some (.string lp)) (first | with_reducible assumption | go_keep | (simp [World.cell?_setCell_other, hne, l3])) ((go_at_call 56; refine (l01Below_any _ g B a len cap 60 (by omega) (HE2.out.cur.below (Below.drew (Below.refl _ _)))).mono ?_; rintro e w5 ⟨x, rfl, x0, x1, hc5, hg5⟩; replace HE2 := Shut.mk (HE2.out.turn hc5 (gb_two (gb_below (Below.drew (Below.refl _ _))) hg5)); clear hc5 hg5; have hx1 : IntKind.i64.wrap (1 + x) = 1 + x := (by rw [IntKind.wrap_i64]; omega); clear x0 x1; obtain ⟨l2, l3, -⟩ := HE2.out.last h0 (HX.out h0); dsimp only at l2 l3; rw [← HN.out] at l2 l3; obtain ⟨X, ⟨q0, f0⟩, ⟨q1, f1⟩, ⟨q2, f2⟩, ⟨q3, f3⟩, ⟨q4, f4⟩, -⟩ := HE2.out.room))
    all_goals go_wp2_with fail
    all_goals go_meet
    all_goals exact ⟨rfl, ⟨HE2.out.set ⟨7, lp, ⟨#[]⟩, _, 0⟩ ⟨HLP.out, pl_none⟩⟩⟩
  case rest =>
  obtain ⟨rfl, HE3⟩ := hcut
  have HES := HE3
  clear HE3 HE2 HX HVA hbb
  obtain ⟨⟨rk, rp, rd, rn, rw⟩, ⟨q0, -⟩, ⟨q1, -⟩, ⟨q2, -⟩, ⟨q3, -⟩, ⟨q4, -⟩, hpx⟩ := HES.out.room
  dsimp only at q0 q1 q2 q3 q4
  have HPX := Shut.mk hpx
  have ho := HES.out.own
  have hsw : w.heap.size ≤ wc.heap.size := HES.out.gr.size
  clear hpx
  go_wp2_with (at_builtin; refine wpList_append_own _ rfl _ _ 40 rfl w.heap.size 28 i0 _ 5 56 Tryz.underlying40 hin hz0 hz1 hz2 rfl (by decide) _ _ _ rfl (ho.alloc _) ⟨wc.heap.size, 0, none⟩ 1 1 [.int .i64 rk, .string rp, .string rd, .int .i64 rn, .int .i64 rw] rfl rfl (World.news_of_block (cs := #[.int .i64 rk, .string rp, .string rd, .int .i64 rn, .int .i64 rw]) (t := 28) (fr := (0, 0)) (heap_alloc_new wc _)) ?c2 ?c3 ?c4 ?c5 ?_)
  case c2 => simp [Value.oneCell']
  case c3 => unfold maxLen; omega
  case c4 => omega
  case c5 => first | omega | (simp; omega)
  intro v' w10 ho10 hgrow _
  have HM := Shut.mk (HES.out.more (X := ⟨rk, rp, rd, rn, rw⟩) HPX.out ((Below.refl _ _).alloc (Nat.le_refl _) _) hgrow ho10)
  clear ho10 hgrow ho q0 q1 q2 q3 q4
  go_wp2_with fail
  go_roundw
  case rel => exact ⟨k + 1, _, v', rfl, by go_num, by omega, HM⟩
  case measure => simp [intOf]; omega
theorem own_rrow {w : World} {B n sz : Nat} {t : TypeId} {a : Option Addr} {cap : Nat} {L : List Value} (h : w.ownsRow B t sz (.slice a n cap) n L) (hn : 0 < L.length → n ≠ 0) : RRow w a L 0 w.heap.size := by
 intro hp
 obtain ⟨g, c, cur, e, _, hl, _⟩ := own_blk h (hn hp)
 simp only [Value.slice.injEq] at e
 obtain ⟨rfl, -, rfl⟩ := e
 exact RRow.of_crow (own_wcells h).crow hp
attribute [local irreducible] newX
end Go.Proofs.YtakhagkhngmpaaaGreat
/- TlA: . -/
namespace Go.Proofs.YtakhagkhngmpaaaGreat
set_option maxRecDepth 100000
open Go.RowKit
structure TL (w0 W : World) (L : List (Nat × List Value)) (S H : List (Value × TM × Nat × Nat)) : Prop where
 mb : MB w0 W L
 ans : ∀ s ∈ S, TAns W s.1 s.2.1 s.2.2.1 s.2.2.2 ∧ w0.heap.size ≤ s.2.2.1 ∧ s.2.2.2 ≤ W.heap.size
 far : ∀ s ∈ S, ∀ p ∈ L, p.1 < s.2.2.1 ∨ s.2.2.2 ≤ p.1
 apart : S.Pairwise fun s t => s.2.2.2 ≤ t.2.2.1 ∨ t.2.2.2 ≤ s.2.2.1
 held : ∀ s ∈ H, THeld W s.1 1 s.2.1 s.2.2.1 s.2.2.2 ∧ s.2.2.2 ≤ W.heap.size
 hfar : ∀ s ∈ H, ∀ p ∈ L, p.1 < s.2.2.1 ∨ s.2.2.2 ≤ p.1
 hap : ∀ s ∈ H, ∀ t ∈ S, s.2.2.2 ≤ t.2.2.1 ∨ t.2.2.2 ≤ s.2.2.1
section
variable {w0 W W' : World} {L : List (Nat × List Value)} {S H : List (Value × TM × Nat × Nat)}
theorem TL.below (h : TL w0 W L S H) (hb : Below W.heap.size W W') : TL w0 W' L S H :=
 ⟨h.mb.below hb, fun s hs => ⟨(h.ans s hs).1.below hb, (h.ans s hs).2.1, Nat.le_trans (h.ans s hs).2.2 hb.size⟩, h.far, h.apart, fun s hs => ⟨(h.held s hs).1.below hb, Nat.le_trans (h.held s hs).2 hb.size⟩, h.hfar, h.hap⟩
theorem TL.bel (h : TL w0 W L S H) : Below w0.heap.size w0 W := h.mb.bel
theorem TL.of (h : MB w0 W L) : TL w0 W L [] [] := ⟨h, fun _ h => (by cases h), fun _ h => (by cases h), .nil, fun _ h => (by cases h), fun _ h => (by cases h), fun _ h => (by cases h)⟩
theorem TL.new (h : TL w0 W L S H) (cs : Array Value) (t : TypeId) : TL w0 (W.alloc (.cells cs t)) ((W.heap.size, cs.toList) :: L) S H := by
 have hb : Below W.heap.size W (W.alloc (.cells cs t)) := (Below.refl _ _).alloc (Nat.le_refl _) _
 refine ⟨h.mb.new cs t, (h.below hb).ans, fun s hs p hp => ?_, h.apart, (h.below hb).held, fun s hs p hp => ?_, h.hap⟩
 ·rcases List.mem_cons.1 hp with rfl | hp
  ·exact .inr (h.ans s hs).2.2
  ·exact h.far s hs p hp
 ·rcases List.mem_cons.1 hp with rfl | hp
  ·exact .inr (h.held s hs).2
  ·exact h.hfar s hs p hp
theorem TL.call {v : Value} {T : TM} (h : TL w0 W L S H) (ha : TAns W' v T W.heap.size W'.heap.size) (hb : Below W.heap.size W W') : ∃ lo hi, TL w0 W' L ((v, T, lo, hi) :: S) H := by
 refine ⟨W.heap.size, W'.heap.size, h.mb.below hb, fun s hs => ?_, fun s hs p hp => ?_, List.pairwise_cons.2 ⟨fun t ht => .inr (h.ans t ht).2.2, h.apart⟩, (h.below hb).held, h.hfar, fun s hs t ht => ?_⟩
 ·rcases List.mem_cons.1 hs with rfl | hs
  ·exact ⟨ha, h.mb.bel.size, Nat.le_refl _⟩
  ·exact (h.below hb).ans s hs
 ·rcases List.mem_cons.1 hs with rfl | hs
  ·exact .inl (h.mb.box p hp).1.1
  ·exact h.far s hs p hp
 ·rcases List.mem_cons.1 ht with rfl | ht
  ·exact .inl (h.held s hs).2
  ·exact h.hap s hs t ht
theorem TL.at (h : TL w0 W L S H) (i : Nat) {v : Value} {T : TM} {lo hi : Nat} (hs : S[i]? = some (v, T, lo, hi)) : TAns W v T lo hi := (h.ans _ (List.mem_of_getElem? hs)).1
theorem TL.setBox (h : TL w0 W L S H) (i : Nat) {b : Nat} {X : List Value} (hi : L[i]? = some (b, X)) (j : Nat) (v : Value) (hj : j < X.length) : TL w0 (W.setCell ⟨b, j, none⟩ v) (L.set i (b, X.set j v)) S H := by
 have hm : (b, X) ∈ L := List.mem_of_getElem? hi
 have ht : Turned W (W.setCell ⟨b, j, none⟩ v) b (b + 1) := Turned.of_grown (gb_set' W b j v) (Nat.le_refl _) (by omega)
 refine ⟨h.mb.put i hi j v hj, fun s hs => ?_, fun s hs p hp => ?_, h.apart, fun s hs => ?_, fun s hs p hp => ?_, h.hap⟩
 ·obtain ⟨h1, h2, h3⟩ := h.ans s hs
  have hf := h.far s hs _ hm
  dsimp only at hf
  exact ⟨h1.turned ht (by omega), h2, by simpa using h3⟩
 ·rcases List.mem_or_eq_of_mem_set hp with q | q
  ·exact h.far s hs p q
  ·rw [q]
   have := h.far s hs _ hm
   exact this
 ·obtain ⟨h1, h3⟩ := h.held s hs
  have hf := h.hfar s hs _ hm
  dsimp only at hf
  exact ⟨h1.turned ht (by omega), by simpa using h3⟩
 ·rcases List.mem_or_eq_of_mem_set hp with q | q
  ·exact h.hfar s hs p q
  ·rw [q]
   have := h.hfar s hs _ hm
   exact this
end
end Go.Proofs.YtakhagkhngmpaaaGreat
/- DrPr: . -/
namespace Go.Proofs.YtakhagkhngmpaaaGreat
set_option maxRecDepth 100000
open Go.RowKit
attribute [local go_sem ↓] Go.wp_at_zero Go.wp_at_succ
theorem see_node {W : World} {b off n cp lo hi : Nat} {nx : Int} {T : TM} (h : TSee W (.agg #[.slice (some ⟨b, off, none⟩) n cp, .int .i64 nx]) T lo hi) (hp : 0 < T.nodes.length) :
  n = T.nodes.length ∧ nx = T.next ∧ b < W.heap.size ∧ ∀ j (hj : j < T.nodes.length), ∃ r : NR, r.nd = T.nodes[j] ∧ NAt W b (off + j * 9) r := by
 obtain ⟨a, cap, rs, e, hr, hm⟩ := h
 have hl : rs.length = T.nodes.length := by rw [← hr, nds_len]
 simp at e
 obtain ⟨⟨rfl, rfl, rfl⟩, rfl⟩ := e
 obtain ⟨b', off', e', lb, hc⟩ := TR.nat hm (by omega)
 simp at e'
 obtain ⟨rfl, rfl⟩ := e'
 refine ⟨hl, rfl, lb, fun j hj => ⟨rs[j], ?_, hc j (by omega)⟩⟩
 have : (nds rs)[j]'(by rw [nds_len]; omega) = rs[j].nd := by simp [nds]
 rw [← this]
 congr 1
theorem tans_some {W : World} {u : Value} {T : TM} {lo hi : Nat} (h : TAns W u T lo hi) (hp : 0 < T.nodes.length) : ∃ b off n cp, u = .agg #[.slice (some ⟨b, off, none⟩) n cp, .int .i64 T.next] := by
 obtain ⟨a0, cp, rs, rfl, hr, hcp, hm⟩ := h.see_form
 have hl : rs.length = T.nodes.length := by rw [← hr, nds_len]
 obtain ⟨b, off, rfl, lb, hnat⟩ := hm.nat (by omega)
 exact ⟨b, off, _, cp, rfl⟩
theorem own_cap9 {w : World} {B n sz c : Nat} {t : TypeId} {a : Option Addr} {L : List Value} (h : w.ownsRow B t sz (.slice a n c) n L) : n ≤ c := by
 rcases h.2 with ⟨_, h0⟩ | ⟨g, cap, _, e, _, _, hc, _⟩
 ·omega
 ·simp at e
  omega
def EsCode (w : World) (e : Ending) (w' : World) : Prop := ∃ (va : Option Addr) (vc : Nat) (es : List EM), e = .returned (.slice va es.length vc) ∧ es.length ≤ 14 ∧ (∀ x ∈ es, EPl x) ∧ RRow w' va (ecs es) 0 w'.heap.size ∧ es.length ≤ vc ∧ Below w.heap.size w w'
theorem drawEdits_any (w : World) (a : Option Addr) (len cap : Nat) (hc : CodeAt w w.heap.size a len) : Calls Tryz.prog 26 #[.slice a len cap] w fun e w' => EsCode w e w' := by
 have HC : Hid (CodeAt w w.heap.size a len) := hc
 clear hc
 go_enter Tryz.func26, Tryz.ntmps26
 go_wp2_with (first
  | (go_at_call 52; refine (l01New_any _ a len cap HC.out).mono ?_; rintro e w1 ⟨g, rfl, hg, hcur, hb0⟩; have HG := Shut.mk hg; have HC1 := Shut.mk hcur; have HB1 := Shut.mk hb0; clear hg hcur hb0)
  | (go_at_call 82; refine (l11Edits_any _ g _ a len cap 14 (by omega) HC1.out).mono ?_; rintro e w2 ⟨v, es, rfl, hl, hp, ho, hc2, hg2⟩; obtain ⟨va, vc, rfl⟩ := own_slice ho; have HP := Shut.mk (And.intro hl hp); have HR := Shut.mk (own_rrow ho (fun h0 e0 => by rw [ecs_len, e0] at h0; omega)); have HV := Shut.mk (own_cap9 ho); have HB2 := Shut.mk (HB1.out.trans (below_gb hg2 (by have := HG.out; omega) HB1.out.size)); clear hl hp ho hc2 hg2))
 go_ret
 exact ⟨va, vc, es, rfl, HP.out.1, HP.out.2, HR.out, HV.out, HB2.out⟩
structure PD (w0 W : World) (g B : Nat) (a : Option Addr) (len cap : Nat) (L : List (Nat × List Value)) (S : List (Value × TM × Nat × Nat)) : Prop where
 tl : TL w0 W L S []
 cur : Cur W g B a len cap
 nb : ∀ p ∈ L, p.1 ≠ g
 ns : ∀ s ∈ S, g < s.2.2.1 ∨ s.2.2.2 ≤ g
 hg : w0.heap.size ≤ g
 hB : ∀ p ∈ L, B ≤ p.1 ∨ p.1 < B
section
variable {w0 W W' : World} {g B len cap : Nat} {a : Option Addr} {L : List (Nat × List Value)} {S : List (Value × TM × Nat × Nat)}
theorem PD.below (h : PD w0 W g B a len cap L S) (hb : Below W.heap.size W W') : PD w0 W' g B a len cap L S := ⟨h.tl.below hb, h.cur.below hb, h.nb, h.ns, h.hg, h.hB⟩
theorem PD.new (h : PD w0 W g B a len cap L S) (cs : Array Value) (t : TypeId) : PD w0 (W.alloc (.cells cs t)) g B a len cap ((W.heap.size, cs.toList) :: L) S :=
 ⟨h.tl.new cs t, h.cur.below ((Below.refl _ _).alloc (Nat.le_refl _) _), fun p hp => by
  rcases List.mem_cons.1 hp with rfl | hp
  ·have := h.cur.2.1; show W.heap.size ≠ g; omega
  ·exact h.nb p hp, h.ns, h.hg, fun p _ => by omega⟩
theorem PD.set (h : PD w0 W g B a len cap L S) (i : Nat) {b : Nat} {X : List Value} (hi : L[i]? = some (b, X)) (j : Nat) (v : Value) (hj : j < X.length) (hB : B ≤ b) : PD w0 (W.setCell ⟨b, j, none⟩ v) g B a len cap (L.set i (b, X.set j v)) S := by
 have hm : (b, X) ∈ L := List.mem_of_getElem? hi
 refine ⟨h.tl.setBox i hi j v hj, h.cur.other ⟨b, j, none⟩ v (h.nb _ hm) hB, fun p hp => ?_, h.ns, h.hg, fun p _ => by omega⟩
 rcases List.mem_or_eq_of_mem_set hp with q | q
 ·exact h.nb p q
 ·rw [q]; exact (h.nb _ hm : b ≠ g)
theorem PD.path {v : Value} {T : TM} {lo hi : Nat} (h : PD w0 W g B a len cap L ((v, T, lo, hi) :: S)) (hf : NFit T) (id : Int) : Calls Tryz.prog 32 #[v, .int .i64 id] W fun e W' => e = .returned (.string (pathX T id)) ∧ PD w0 W' g B a len cap L ((v, T, lo, hi) :: S) := by
 refine (specPathOf id (h.tl.at 0 rfl).see hf).mono ?_
 rintro e w5 ⟨rfl, hb⟩
 exact ⟨rfl, h.below hb⟩
end
section
variable {w W : World} {r1 r2 tb eb b off n cp lo hi : Nat} {nx kind num who : Int} {path dest : ByteArray} {T : TM}
end
set_option maxHeartbeats 4000000 in
theorem sameNode_same (r s : NR) (w : World) (lo hi lo' hi' : Nat) (hn : r.nd = s.nd) (ha : RRow w r.loc (pcs r.nd.pieces) lo hi) (hb : RRow w s.loc (pcs s.nd.pieces) lo' hi') (hl : r.nd.pieces.length ≤ 1048576) :
  Calls Tryz.prog 69 #[nv r, nv s] w fun e w' => e = .returned (.bool true) ∧ Below w.heap.size w w' := by
 obtain ⟨n, loc, cap⟩ := r
 obtain ⟨n', loc', cap'⟩ := s
 dsimp only at hn
 subst hn
 obtain ⟨id, parent, name, dir, schema, quota, len, pieces, writer⟩ := n
 dsimp only [nv] at *
 have HA := Shut.mk ha
 have HB := Shut.mk hb
 obtain ⟨np, hnp⟩ : ∃ n, n = pieces.length := ⟨_, rfl⟩
 have HNP := Shut.mk hnp
 rw [← hnp] at hl ⊢
 have hst := same_text name
 have hdd : (dir != dir) = false := by cases dir <;> rfl
 have hnn : ((np : Int) != (np : Int)) = false := by simp
 clear ha hb hnp
 go_enter Tryz.func69, Tryz.ntmps69
 go_upto_region 1 with fail
 obtain ⟨xb, hxb⟩ : ∃ b, b = w.heap.size := ⟨_, rfl⟩
 obtain ⟨yb, hyb⟩ : ∃ b, b = w.heap.size + 1 := ⟨_, rfl⟩
 refine wp_shade (fun W => MB w W [(yb, [.int .i64 id, .int .i64 parent, .string name, .bool dir, .int .i64 schema, .int .i64 quota, .int .i64 len, .slice loc' np cap', .int .i64 writer]), (xb, [.int .i64 id, .int .i64 parent, .string name, .bool dir, .int .i64 schema, .int .i64 quota, .int .i64 len, .slice loc np cap, .int .i64 writer])]) (by rw [hxb, hyb]; exact MB.two w #[.int .i64 id, .int .i64 parent, .string name, .bool dir, .int .i64 schema, .int .i64 quota, .int .i64 len, .slice loc np cap, .int .i64 writer] #[.int .i64 id, .int .i64 parent, .string name, .bool dir, .int .i64 schema, .int .i64 quota, .int .i64 len, .slice loc' np cap', .int .i64 writer] 47 47) ?_
 intro W1 hW1
 have HM := Shut.mk hW1
 rw [← hyb, ← hxb]
 clear hW1 hxb hyb
 have x0 := ((HM.out.at 1 rfl).1.2 0 _ rfl).1
 have y0 := ((HM.out.at 0 rfl).1.2 0 _ rfl).1
 have x1 := ((HM.out.at 1 rfl).1.2 1 _ rfl).1
 have y1 := ((HM.out.at 0 rfl).1.2 1 _ rfl).1
 have x2 := ((HM.out.at 1 rfl).1.2 2 _ rfl).1
 have y2 := ((HM.out.at 0 rfl).1.2 2 _ rfl).1
 have x3 := ((HM.out.at 1 rfl).1.2 3 _ rfl).1
 have y3 := ((HM.out.at 0 rfl).1.2 3 _ rfl).1
 have x4 := ((HM.out.at 1 rfl).1.2 4 _ rfl).1
 have y4 := ((HM.out.at 0 rfl).1.2 4 _ rfl).1
 have x5 := ((HM.out.at 1 rfl).1.2 5 _ rfl).1
 have y5 := ((HM.out.at 0 rfl).1.2 5 _ rfl).1
 have x6 := ((HM.out.at 1 rfl).1.2 6 _ rfl).1
 have y6 := ((HM.out.at 0 rfl).1.2 6 _ rfl).1
 have x7 := ((HM.out.at 1 rfl).1.2 7 _ rfl).1
 have y7 := ((HM.out.at 0 rfl).1.2 7 _ rfl).1
 have x8 := ((HM.out.at 1 rfl).1.2 8 _ rfl).1
 have y8 := ((HM.out.at 0 rfl).1.2 8 _ rfl).1
 go_wp2_with fail
 clear x0 y0 x1 y1 x2 y2 x3 y3 x4 y4 x5 y5 x6 y6 x7 y7 x8 y8
 go_loopw [5] (fun i wr => ∃ k : Nat, i = .int .i64 k ∧ k ≤ np ∧ Shut (MB w wr [(yb, [.int .i64 id, .int .i64 parent, .string name, .bool dir, .int .i64 schema, .int .i64 quota, .int .i64 len, .slice loc' np cap', .int .i64 writer]), (xb, [.int .i64 id, .int .i64 parent, .string name, .bool dir, .int .i64 schema, .int .i64 quota, .int .i64 len, .slice loc np cap, .int .i64 writer])])) (fun i _ => np - (intOf i).toNat)
 case atStart => exact ⟨0, rfl, Nat.zero_le _, HM⟩
 case round =>
  clear HM
  obtain ⟨k, rfl, hk, HM⟩ := hrel
  have x7 := ((HM.out.at 1 rfl).1.2 7 _ rfl).1
  have y7 := ((HM.out.at 0 rfl).1.2 7 _ rfl).1
  by_cases hlt : k < np
  ·have hkp : k < pieces.length := by have := HNP.out; omega
   obtain ⟨b1, o1, rfl, l1, hc1⟩ := pcs_at (HA.out.below HM.out.bel) (by omega)
   obtain ⟨b2, o2, rfl, l2, hc2⟩ := pcs_at (HB.out.below HM.out.bel) (by omega)
   obtain ⟨d0, d1⟩ := hc1 k hkp
   obtain ⟨e0, e1⟩ := hc2 k hkp
   generalize pieces[k] = f at *
   have k0 : (0 : Int) ≤ (k : Int) := by omega
   have k1 : (k : Int) < (np : Int) := by omega
   clear hc1 hc2
   go_wp2_with fail
   go_quiet (fail)
   go_wp2_with fail
   go_roundw
   case rel => exact ⟨k + 1, by go_num, by omega, ⟨HM.out.below ⟨rfl, rfl, rfl, Nat.le_refl _, fun _ _ => rfl⟩⟩⟩
   case measure => simp [intOf]; omega
  ·have hlt' : ¬ (k : Int) < (np : Int) := by omega
   go_wp2_with fail
   go_ret
   exact ⟨rfl, HM.out.bel⟩
set_option maxHeartbeats 4000000 in
theorem sameTree_val {w : World} {v u : Value} {T : TM} {lo hi lo' hi' : Nat} (h : TSee w v T lo hi) (k : TSee w u T lo' hi') (hf : NFit T) : Calls Tryz.prog 16 #[v, u] w fun e w' => e = .returned (.bool true) ∧ Below w.heap.size w w' := by
 obtain ⟨a, cap, rs, rfl, hr, hm⟩ := h
 obtain ⟨b, cap', ts, rfl, hr', hm'⟩ := k
 have hlr : rs.length = T.nodes.length := by rw [← hr, nds_len]
 have hlt : ts.length = T.nodes.length := by rw [← hr', nds_len]
 have hp : ∀ r ∈ rs, r.nd.pieces.length ≤ 1048576 := fun r hx => by
  have := nsum_mem (ns := T.nodes) (n := r.nd) (by rw [← hr]; exact List.mem_map.2 ⟨r, hx, rfl⟩)
  unfold NFit at hf
  omega
 have HA := Shut.mk (And.intro hm hp)
 have HB := Shut.mk (And.intro hm' (hr.trans hr'.symm))
 obtain ⟨n, hn⟩ : ∃ n, n = rs.length := ⟨_, rfl⟩
 obtain ⟨nx, hnx⟩ : ∃ nx, nx = T.next := ⟨_, rfl⟩
 have hl : n ≤ 1048576 := by unfold NFit at hf; omega
 have HN := Shut.mk (And.intro hn (show ts.length = n by omega))
 rw [show ts.length = n by omega, ← hn, ← hnx]
 have hnn : ((n : Int) != (n : Int)) = false := by simp
 have hxx : (nx != nx) = false := by simp
 clear hr hr' hm hm' hlr hlt hp hn hnx hf
 go_enter Tryz.func16, Tryz.ntmps16
 go_upto_region 1 with fail
 obtain ⟨xb, hxb⟩ : ∃ b, b = w.heap.size := ⟨_, rfl⟩
 obtain ⟨yb, hyb⟩ : ∃ b, b = w.heap.size + 1 := ⟨_, rfl⟩
 refine wp_shade (fun W => MB w W [(yb, [.slice b n cap', .int .i64 nx]), (xb, [.slice a n cap, .int .i64 nx])]) (by rw [hxb, hyb]; exact MB.two w #[.slice a n cap, .int .i64 nx] #[.slice b n cap', .int .i64 nx] 26 26) ?_
 intro W1 hW1
 have HM := Shut.mk hW1
 rw [← hyb, ← hxb]
 clear hW1 hxb hyb
 have x0 := ((HM.out.at 1 rfl).1.2 0 _ rfl).1
 have y0 := ((HM.out.at 0 rfl).1.2 0 _ rfl).1
 have x1 := ((HM.out.at 1 rfl).1.2 1 _ rfl).1
 have y1 := ((HM.out.at 0 rfl).1.2 1 _ rfl).1
 go_wp2_with fail
 clear x0 y0 x1 y1
 go_loopw [5] (fun i wr => ∃ k : Nat, i = .int .i64 k ∧ k ≤ n ∧ Shut (MB w wr [(yb, [.slice b n cap', .int .i64 nx]), (xb, [.slice a n cap, .int .i64 nx])])) (fun i _ => n - (intOf i).toNat)
 case atStart => exact ⟨0, rfl, Nat.zero_le _, HM⟩
 case round =>
  clear HM
  obtain ⟨k, rfl, hk, HM⟩ := hrel
  have x0 := ((HM.out.at 1 rfl).1.2 0 _ rfl).1
  by_cases hlt : k < n
  ·have hlr : k < rs.length := by have := HN.out.1; omega
   have hlt2 : k < ts.length := by have := HN.out; omega
   obtain ⟨b1, o1, rfl, l1, hc1⟩ := TR.nat (HA.out.1.below HM.out.bel) (by omega)
   obtain ⟨b2, o2, rfl, l2, hc2⟩ := TR.nat (HB.out.1.below HM.out.bel) (by omega)
   have q1 := hc1 k hlr
   have q2 := hc2 k hlt2
   have heq : rs[k].nd = ts[k].nd := by
    have h1 : (nds rs)[k]'(by rw [nds_len]; exact hlr) = rs[k].nd := by simp [nds]
    have h2 : (nds ts)[k]'(by rw [nds_len]; exact hlt2) = ts[k].nd := by simp [nds]
    rw [← h1, ← h2]
    simp only [HB.out.2]
   have HQ := Shut.mk (fun W (hW : Below wr.heap.size wr W) => sameNode_same rs[k] ts[k] W lo hi lo' hi' heq (((HA.out.1.below HM.out.bel).2 rs[k] (List.getElem_mem hlr)).below hW) (((HB.out.1.below HM.out.bel).2 ts[k] (List.getElem_mem hlt2)).below hW) (HA.out.2 rs[k] (List.getElem_mem hlr)))
   generalize rs[k] = r at *
   generalize ts[k] = s at *
   have k0 : (0 : Int) ≤ (k : Int) := by omega
   have k1 : (k : Int) < (n : Int) := by omega
   have HQ1 := Shut.mk (And.intro q1 q2)
   clear hc1 hc2 heq q1 q2
   go_upto_region 6 with fail
   clear x0
   have HMX : Shut (∀ x, Later wr.drew x → MB w x [(yb, [.slice (some ⟨b2, o2, none⟩) n cap', .int .i64 nx]), (xb, [.slice (some ⟨b1, o1, none⟩) n cap, .int .i64 nx])] ∧ Below wr.heap.size wr x) := ⟨fun x hx => ⟨HM.out.below (Below.trans (Below.drew (Below.refl _ _)) hx), Below.trans (Below.drew (Below.refl _ _)) hx⟩⟩
   have HLE : Shut (∀ x, Later wr.drew x → x.cell? ⟨xb, 0, none⟩ = some (.slice (some ⟨b1, o1, none⟩) n cap) ∧ x.cell? ⟨yb, 0, none⟩ = some (.slice (some ⟨b2, o2, none⟩) n cap') ∧ x.cell? ⟨b1, o1 + k * 9, none⟩ = some (.int .i64 r.nd.id) ∧ x.cell? ⟨b1, o1 + k * 9 + 1, none⟩ = some (.int .i64 r.nd.parent) ∧ x.cell? ⟨b1, o1 + k * 9 + 2, none⟩ = some (.string r.nd.name) ∧ x.cell? ⟨b1, o1 + k * 9 + 3, none⟩ = some (.bool r.nd.dir) ∧ x.cell? ⟨b1, o1 + k * 9 + 4, none⟩ = some (.int .i64 r.nd.schema) ∧ x.cell? ⟨b1, o1 + k * 9 + 5, none⟩ = some (.int .i64 r.nd.quota) ∧ x.cell? ⟨b1, o1 + k * 9 + 6, none⟩ = some (.int .i64 r.nd.len) ∧ x.cell? ⟨b1, o1 + k * 9 + 7, none⟩ = some (.slice r.loc r.nd.pieces.length r.cap) ∧ x.cell? ⟨b1, o1 + k * 9 + 8, none⟩ = some (.int .i64 r.nd.writer) ∧ x.cell? ⟨b2, o2 + k * 9, none⟩ = some (.int .i64 s.nd.id) ∧ x.cell? ⟨b2, o2 + k * 9 + 1, none⟩ = some (.int .i64 s.nd.parent) ∧ x.cell? ⟨b2, o2 + k * 9 + 2, none⟩ = some (.string s.nd.name) ∧ x.cell? ⟨b2, o2 + k * 9 + 3, none⟩ = some (.bool s.nd.dir) ∧ x.cell? ⟨b2, o2 + k * 9 + 4, none⟩ = some (.int .i64 s.nd.schema) ∧ x.cell? ⟨b2, o2 + k * 9 + 5, none⟩ = some (.int .i64 s.nd.quota) ∧ x.cell? ⟨b2, o2 + k * 9 + 6, none⟩ = some (.int .i64 s.nd.len) ∧ x.cell? ⟨b2, o2 + k * 9 + 7, none⟩ = some (.slice s.loc s.nd.pieces.length s.cap) ∧ x.cell? ⟨b2, o2 + k * 9 + 8, none⟩ = some (.int .i64 s.nd.writer)) := ⟨fun x hx => by
    obtain ⟨M, hbx⟩ := HMX.out x hx
    exact ⟨((M.at 1 rfl).1.2 0 _ rfl).1, ((M.at 0 rfl).1.2 0 _ rfl).1, (HQ1.out.1.below hbx l1).1, (HQ1.out.1.below hbx l1).2.1, (HQ1.out.1.below hbx l1).2.2.1, (HQ1.out.1.below hbx l1).2.2.2.1, (HQ1.out.1.below hbx l1).2.2.2.2.1, (HQ1.out.1.below hbx l1).2.2.2.2.2.1, (HQ1.out.1.below hbx l1).2.2.2.2.2.2.1, (HQ1.out.1.below hbx l1).2.2.2.2.2.2.2.1, (HQ1.out.1.below hbx l1).2.2.2.2.2.2.2.2, HQ1.out.2.below hbx l2⟩⟩
   refine wp_region_tail 12 (by kernel_rfl) ?_
   refine wpK_val (i := 0) (v := ?va0) rfl (by kernel_rfl) (by kernel_rfl) (by kernel_rfl) (by kernel_rfl) (fun _ _ _ h => h) (by rfl) ?hya0 ?resta0
   case hya0 => (intro x hx; obtain ⟨p0, p1, d0, d1, d2, d3, d4, d5, d6, d7, d8, e0, e1, e2, e3, e4, e5, e6, e7, e8⟩ := HLE.out x hx; go_simp; try with_reducible rfl)
   try simp only [Act.put, qA, qB, qC]
   refine wpK_val (i := 1) (v := ?va1) rfl (by kernel_rfl) (by kernel_rfl) (by kernel_rfl) (by kernel_rfl) (fun _ _ _ h => h) (by rfl) ?hya1 ?resta1
   case hya1 => (intro x hx; obtain ⟨p0, p1, d0, d1, d2, d3, d4, d5, d6, d7, d8, e0, e1, e2, e3, e4, e5, e6, e7, e8⟩ := HLE.out x hx; go_simp; try with_reducible rfl)
   try simp only [Act.put, qA, qB, qC]
   refine wpK_val (i := 2) (v := ?va2) rfl (by kernel_rfl) (by kernel_rfl) (by kernel_rfl) (by kernel_rfl) (fun _ _ _ h => h) (by rfl) ?hya2 ?resta2
   case hya2 => (intro x hx; obtain ⟨p0, p1, d0, d1, d2, d3, d4, d5, d6, d7, d8, e0, e1, e2, e3, e4, e5, e6, e7, e8⟩ := HLE.out x hx; go_simp; try with_reducible rfl)
   try simp only [Act.put, qA, qB, qC]
   refine wpK_val (i := 3) (v := ?va3) rfl (by kernel_rfl) (by kernel_rfl) (by kernel_rfl) (by kernel_rfl) (fun _ _ _ h => h) (by rfl) ?hya3 ?resta3
   case hya3 => (intro x hx; obtain ⟨p0, p1, d0, d1, d2, d3, d4, d5, d6, d7, d8, e0, e1, e2, e3, e4, e5, e6, e7, e8⟩ := HLE.out x hx; go_simp; try with_reducible rfl)
   try simp only [Act.put, qA, qB, qC]
   refine wpK_val (i := 4) (v := ?va4) rfl (by kernel_rfl) (by kernel_rfl) (by kernel_rfl) (by kernel_rfl) (fun _ _ _ h => h) (by rfl) ?hya4 ?resta4
   case hya4 => (intro x hx; obtain ⟨p0, p1, d0, d1, d2, d3, d4, d5, d6, d7, d8, e0, e1, e2, e3, e4, e5, e6, e7, e8⟩ := HLE.out x hx; go_simp; try with_reducible rfl)
   try simp only [Act.put, qA, qB, qC]
   refine wpK_val (i := 5) (v := ?va5) rfl (by kernel_rfl) (by kernel_rfl) (by kernel_rfl) (by kernel_rfl) (fun _ _ _ h => h) (by rfl) ?hya5 ?resta5
   case hya5 => (intro x hx; obtain ⟨p0, p1, d0, d1, d2, d3, d4, d5, d6, d7, d8, e0, e1, e2, e3, e4, e5, e6, e7, e8⟩ := HLE.out x hx; go_simp; try with_reducible rfl)
   try simp only [Act.put, qA, qB, qC]
   refine wpK_val (i := 6) (v := ?va6) rfl (by kernel_rfl) (by kernel_rfl) (by kernel_rfl) (by kernel_rfl) (fun _ _ _ h => h) (by rfl) ?hya6 ?resta6
   case hya6 => (intro x hx; obtain ⟨p0, p1, d0, d1, d2, d3, d4, d5, d6, d7, d8, e0, e1, e2, e3, e4, e5, e6, e7, e8⟩ := HLE.out x hx; go_simp; try with_reducible rfl)
   try simp only [Act.put, qA, qB, qC]
   refine wpK_val (i := 7) (v := ?va7) rfl (by kernel_rfl) (by kernel_rfl) (by kernel_rfl) (by kernel_rfl) (fun _ _ _ h => h) (by rfl) ?hya7 ?resta7
   case hya7 => (intro x hx; obtain ⟨p0, p1, d0, d1, d2, d3, d4, d5, d6, d7, d8, e0, e1, e2, e3, e4, e5, e6, e7, e8⟩ := HLE.out x hx; go_simp; try with_reducible rfl)
   try simp only [Act.put, qA, qB, qC]
   refine wpK_val (i := 8) (v := ?va8) rfl (by kernel_rfl) (by kernel_rfl) (by kernel_rfl) (by kernel_rfl) (fun _ _ _ h => h) (by rfl) ?hya8 ?resta8
   case hya8 => (intro x hx; obtain ⟨p0, p1, d0, d1, d2, d3, d4, d5, d6, d7, d8, e0, e1, e2, e3, e4, e5, e6, e7, e8⟩ := HLE.out x hx; go_simp; try with_reducible rfl)
   try simp only [Act.put, qA, qB, qC]
   refine wpK_val (i := 9) (v := ?va9) rfl (by kernel_rfl) (by kernel_rfl) (by kernel_rfl) (by kernel_rfl) (fun _ _ _ h => h) (by rfl) ?hya9 ?resta9
   case hya9 => (intro x hx; obtain ⟨p0, p1, d0, d1, d2, d3, d4, d5, d6, d7, d8, e0, e1, e2, e3, e4, e5, e6, e7, e8⟩ := HLE.out x hx; go_simp; try with_reducible rfl)
   try simp only [Act.put, qA, qB, qC]
   refine wpK_call (i := 10) (v := .bool true) (f := 69) (args := #[nv r, nv s]) rfl (by kernel_rfl) (by kernel_rfl) (by kernel_rfl) (by kernel_rfl) (fun _ _ _ h => h) (by rfl) (fun x hx => by go_simp; try with_reducible rfl) (fun x hx => HQ.out x (HMX.out x hx).2) ?_
   try simp only [Act.put, qA, qB, qC]
   refine wpK_val (i := 11) (v := ?vn) rfl (by kernel_rfl) (by kernel_rfl) (by kernel_rfl) (by kernel_rfl) (fun _ _ _ h => h) (by rfl) ?hyn ?restn
   case hyn => (intro x hx; go_simp; try with_reducible rfl)
   try simp only [Act.put, qA, qB, qC]
   refine wpK_done (by kernel_rfl) ?_ _
   intro x9 hx9
   have HM9 := Shut.mk (HMX.out x9 hx9).1
   clear hx9 HMX HLE HQ HQ1 HM
   go_wp2_with fail
   go_roundw
   case rel => exact ⟨k + 1, by go_num, by omega, HM9⟩
   case measure => simp [intOf]; omega
  ·have hlt' : ¬ (k : Int) < (n : Int) := by omega
   go_wp2_with fail
   go_ret
   exact ⟨rfl, HM.out.bel⟩
end Go.Proofs.YtakhagkhngmpaaaGreat
/- LwK: . -/
namespace Go.Proofs.YtakhagkhngmpaaaGreat
set_option maxRecDepth 100000
open Go.RowKit
theorem tans_len {W : World} {u : Value} {T : TM} {lo hi : Nat} (h : TAns W u T lo hi) : ∃ c cc, u = .agg #[.slice c T.nodes.length cc, .int .i64 T.next] := by
 obtain ⟨c, cc, ts, rfl, e, _⟩ := h
 exact ⟨c, cc, by rw [← e, nds_len]⟩
structure Rt (T : TM) : Prop where
 ok : treeOk T = true
 fit : NFit T
 int : NInt T.nodes
 nz : ∀ n ∈ T.nodes, n.id ≠ 0
 l1 : 1 ≤ T.nodes.length
 l14 : T.nodes.length ≤ 14
theorem Rt.of {T : TM} (h : treeOk T = true) : Rt T := ⟨h, tree_fit h, tree_int h, (TP.of h).nz, (tree_len h).1, (tree_len h).2.1⟩
end Go.Proofs.YtakhagkhngmpaaaGreat
