/- Texts of ours, laid one behind the other: ApJ, ApK, TlA, StR. -/
import Derived.Test.YtakhagkhngmpaaaGreatQaApI
import Derived.Test.YtakhagkhngmpaaaGreatQa1
import Derived.Test.YtakhagkhngmpaaaGreatQa3
import Derived.Test.YtakhagkhngmpaaaGreatQa2
import Derived.Test.YtakhagkhngmpaaaGreatQa4
import Derived.Test.YtakhagkhngmpaaaGreatQa7
import Derived.Deep.RegionHeld3
import Derived.Deep.CutRange
import Derived.Handy
/- ApJ: . -/
namespace Go.Proofs.YtakhagkhngmpaaaGreat
set_option maxRecDepth 100000
open Go.RowKit BigFrame
attribute [local go_sem ↓] Go.wp_at_zero Go.wp_at_succ
theorem apply_add {T : TM} {e : EM} {g : Int} (h7 : e.kind = 7) (h : (applyX T e g).2 = 0) : ∃ k, k < T.nodes.length ∧ atI T.nodes (findX T e.path) = (k : Int) ∧ (applyX T e g).1.nodes.length = T.nodes.length ∧ (ndAt (applyX T e g).1 k).pieces.length ≤ 40 ∧ (ndAt T k).pieces.length ≤ 40 ∧ 1 ≤ g ∧ g ≤ 99000 := by
 unfold applyX at h ⊢
 split at h
 ·cases h
 ·rename_i hm
  rw [if_neg hm]
  have hm' : mayX T e g = true := by simpa using hm
  unfold mayX at hm'
  simp only [Bool.and_eq_true] at hm'
  have hg := inI_iff.1 hm'.2
  rw [if_neg (by omega), if_neg (by omega), if_neg (by omega)] at h ⊢
  split at h
  ·cases h
  ·rename_i hid
   rw [if_neg hid]
   rw [if_neg (by omega), if_neg (by omega), if_neg (by omega)] at h ⊢
   obtain ⟨k, hk, hat, -⟩ := find_there hid
   have e1 : plc T (findX T e.path) = k := by unfold plc; rw [hat]; rfl
   rw [e1] at h ⊢
   have hp := node_parts hm'.1.1 k hk
   have hp40 : (ndAt T k).pieces.length ≤ 40 := by rw [nd_mem hk]; exact hp.2.1
   refine ⟨k, hk, hat, ?_⟩
   unfold writeX at h ⊢
   split at h
   ·cases h
   ·rename_i c1
    rw [if_neg c1]
    split at h
    ·cases h
    ·rename_i c2
     rw [if_neg c2]
     rw [if_neg (by omega), if_neg (by omega)] at h ⊢
     split at h
     ·cases h
     ·rename_i c3
      rw [if_neg c3]
      split at h
      ·cases h
      ·rename_i c4
       rw [if_neg c4]
       refine ⟨by simp [setN], ?_, hp40, hg.1, hg.2⟩
       unfold ndAt setN
       dsimp only
       rw [List.getD, List.getElem?_set_self hk]
       simp only [Option.getD_some, List.length_append, newP_len]
       unfold ndAt at c4
       omega
theorem TAns.see_form {w : World} {v : Value} {T : TM} {lo hi : Nat} (h : TAns w v T lo hi) : ∃ (a : Option Addr) (cap : Nat) (rs : List NR), v = .agg #[.slice a rs.length cap, .int .i64 T.next] ∧ nds rs = T.nodes ∧ rs.length ≤ cap ∧ TR w a rs lo hi := by
 obtain ⟨a, cap, rs, e, hr, hc, h1⟩ := h
 refine ⟨a, cap, rs, e, hr, hc, ?_⟩
 rcases h1 with rfl | ⟨g, rfl, hm⟩
 ·exact GR.nil _ _ _ _ _
 ·exact hm.gr
theorem MB.two (w : World) (c1 c2 : Array Value) (t1 t2 : TypeId) : MB w ((w.alloc (.cells c1 t1)).alloc (.cells c2 t2)) [(w.heap.size + 1, c2.toList), (w.heap.size, c1.toList)] := by
 have h := ((MB.nil w).new c1 t1).new c2 t2
 have e1 : (w.alloc (.cells c1 t1)).heap.size = w.heap.size + 1 := by simp
 rw [e1] at h
 exact h
set_option maxHeartbeats 4000000 in
theorem specGroupsAfter {w : World} {v : Value} {T : TM} {lo hi : Nat} (e : EM) (gr : Int) (h : TSee w v T lo hi) (hf : NFit T) (he : EFit e) : Calls Tryz.prog 18 #[v, ev e, .int .i64 gr] w fun r w' => r = .returned (.int .i64 (groupsX T e gr)) ∧ Below w.heap.size w w' := by
 have HAP := Shut.mk (fun (W : World) (hb : Below w.heap.size w W) => specApply e gr (h.below hb) hf he)
 have HFP := Shut.mk (fun (W : World) (hb : Below w.heap.size w W) => specFindPath e.path (h.below hb) hf he.1)
 have hl : T.nodes.length ≤ 1048576 := by unfold NFit at hf; omega
 have HAT := Shut.mk (fun (i : Int) (W : World) (hb : Below w.heap.size w W) => specAt i (h.below hb) hl)
 have hadd := @apply_add T e gr
 have hboot : (applyX T e gr).2 = 0 → e.kind = 10 → 1 ≤ gr ∧ gr ≤ 99000 := fun h0 h1 => by
  unfold applyX at h0
  split at h0
  ·cases h0
  ·rename_i hm
   have hm' : mayX T e gr = true := by simpa using hm
   unfold mayX at hm'
   simp only [Bool.and_eq_true] at hm'
   exact inI_iff.1 hm'.2
 have HX : Shut (groupsX T e gr = if (applyX T e gr).2 ≠ 0 then gr else if e.kind = 10 then gr + 20 else if e.kind ≠ 7 then gr else gr + (ndAt (applyX T e gr).1 (plc T (findX T e.path))).pieces.length - (ndAt T (plc T (findX T e.path))).pieces.length) := ⟨rfl⟩
 generalize groupsX T e gr = R at HX ⊢
 obtain ⟨RT, rc, hRR⟩ : ∃ RT rc, applyX T e gr = (RT, rc) := ⟨_, _, rfl⟩
 rw [hRR] at HAP HX hadd hboot
 clear hRR
 dsimp only at HX hadd hboot
 obtain ⟨a, cap, rs, rfl, hr, hm⟩ := h
 obtain ⟨nodes, nx⟩ := T
 dsimp only at *
 subst hr
 obtain ⟨n, hn⟩ : ∃ n, n = rs.length := ⟨_, rfl⟩
 rw [← hn] at HAP HFP HAT ⊢
 have HN := Shut.mk hn
 have HMR : Shut (TR w a rs lo hi) := ⟨hm⟩
 have HADD := Shut.mk hadd
 have HBOOT := Shut.mk hboot
 clear hn hm hf hl he hadd hboot
 obtain ⟨kind, path, dest, num, who⟩ := e
 dsimp only at *
 have HM0 := Shut.mk (MB.two w #[.slice a n cap, .int .i64 nx] #[.int .i64 kind, .string path, .string dest, .int .i64 num, .int .i64 who] 26 28)
 go_enter Tryz.func18, Tryz.ntmps18
 go_upto_region 1 with fail
 refine wp_shade (fun W => MB w W [(w.heap.size + 1, ecells ⟨kind, path, dest, num, who⟩), (w.heap.size, [.slice a n cap, .int .i64 nx])]) HM0.out ?_
 intro W0 hM
 have HM := Shut.mk hM
 clear hM HM0
 have x0 := ((HM.out.at 1 rfl).1.2 0 _ rfl).1
 have x1 := ((HM.out.at 1 rfl).1.2 1 _ rfl).1
 have y0 := ((HM.out.at 0 rfl).1.2 0 _ rfl).1
 have y1 := ((HM.out.at 0 rfl).1.2 1 _ rfl).1
 have y2 := ((HM.out.at 0 rfl).1.2 2 _ rfl).1
 have y3 := ((HM.out.at 0 rfl).1.2 3 _ rfl).1
 have y4 := ((HM.out.at 0 rfl).1.2 4 _ rfl).1
 dsimp only at y0 y1 y2 y3 y4
 go_upto_region 2 with (go_at_call 14; refine (HAP.out _ HM.out.bel).mono ?_; rintro e w2 ⟨vv, rfl, hans, hb2⟩; dsimp only at hans; obtain ⟨a5, c5, rs5, rfl, hr5, -, hq5⟩ := hans.see_form; have HR5 := Shut.mk (And.intro hr5 hq5); replace HM := Shut.mk (HM.out.below hb2); clear hans hr5 hq5 hb2 x0 x1 y0 y1 y2 y3 y4)
 obtain ⟨m5, hm5⟩ : ∃ m, m = rs5.length := ⟨_, rfl⟩
 obtain ⟨t5, ht5⟩ : ∃ m, m = RT.next := ⟨_, rfl⟩
 rw [← hm5, ← ht5]
 have HM5 := Shut.mk hm5
 clear hm5 ht5
 refine wp_shade (fun W => MB w W [(w2.heap.size, [.slice a5 m5 c5, .int .i64 t5]), (w.heap.size + 1, ecells ⟨kind, path, dest, num, who⟩), (w.heap.size, [.slice a n cap, .int .i64 nx])] ∧ Below w2.heap.size w2 W) ⟨HM.out.new _ _, (Below.refl _ _).alloc (Nat.le_refl _) _⟩ ?_
 rintro W1 ⟨hM1, hB1⟩
 replace HM := Shut.mk hM1
 have HB1 := Shut.mk hB1
 clear hM1 hB1
 have y0 := ((HM.out.at 1 rfl).1.2 0 _ rfl).1
 dsimp only at y0
 by_cases h0 : rc = 0
 case neg =>
  have b0 : (rc != 0) = true := by simp [h0]
  have HXX : Shut (R = gr) := ⟨by rw [HX.out, if_pos h0]⟩
  clear h0
  go_wp2_with fail
  go_ret
  exact ⟨by rw [HXX.out]; rfl, HM.out.bel⟩
 have b0 : (rc != 0) = false := by simp [h0]
 by_cases h10 : kind = 10
 ·have b10 : (kind == 10) = true := by simp [h10]
  have hg := HBOOT.out h0 h10
  have HXX : Shut (R = gr + 20) := ⟨by rw [HX.out, if_neg (by simp [h0]), if_pos h10]⟩
  obtain ⟨g1, g2⟩ := hg
  clear h10 h0
  go_wp2_with fail
  go_ret
  exact ⟨by rw [HXX.out]; rfl, HM.out.bel⟩
 have b10 : (kind == 10) = false := by simp [h10]
 by_cases h7 : kind = 7
 case neg =>
  have b7 : (kind != 7) = true := by simp [h7]
  have HXX : Shut (R = gr) := ⟨by rw [HX.out, if_neg (by simp [h0]), if_neg h10, if_pos h7]⟩
  clear h0 h7 h10
  go_wp2_with fail
  go_ret
  exact ⟨by rw [HXX.out]; rfl, HM.out.bel⟩
 have b7 : (kind != 7) = false := by simp [h7]
 obtain ⟨k, hk, hat, hlen, hp1, hp2, g1, g2⟩ := HADD.out h7 h0
 have hkr : k < rs.length := by rw [nds_len] at hk; exact hk
 have hk5 : k < rs5.length := by
  have := HR5.out.1
  rw [← nds_len rs5, this, hlen]
  exact hk
 have e1 : plc ⟨nds rs, nx⟩ (findX ⟨nds rs, nx⟩ path) = k := by unfold plc; dsimp only; rw [hat]; rfl
 have n1 : ndAt ⟨nds rs, nx⟩ k = rs[k].nd := by simp [ndAt, nds, List.getD, hkr]
 have n2 : ndAt RT k = rs5[k].nd := by
  unfold ndAt
  rw [← HR5.out.1]
  simp [nds, List.getD, hk5]
 have HX7 : Shut (R = gr + (rs5[k].nd.pieces.length : Nat) - (rs[k].nd.pieces.length : Nat)) := ⟨by rw [HX.out, if_neg (by simp [h0]), if_neg h10, if_neg (by simp [h7]), e1, n1, n2]⟩
 rw [n2] at hp1
 rw [n1] at hp2
 obtain ⟨b, off, rfl, lb, hc⟩ := TR.nat HMR.out (by omega)
 obtain ⟨b5, off5, rfl, lb5, hc5⟩ := TR.nat HR5.out.2 (by omega)
 have HC1 := Shut.mk (hc k hkr)
 have HC5 := Shut.mk (hc5 k hk5)
 obtain ⟨r, hr⟩ : ∃ r, r = rs[k] := ⟨_, rfl⟩
 obtain ⟨r5, hr5⟩ : ∃ r, r = rs5[k] := ⟨_, rfl⟩
 rw [← hr] at HX7 HC1 hp2
 rw [← hr5] at HX7 HC5 hp1
 obtain ⟨id, hid⟩ : ∃ q, q = findX ⟨nds rs, nx⟩ path := ⟨_, rfl⟩
 rw [← hid] at hat
 simp only [← hid] at HFP
 have HA2 : Shut (∀ (W : World) (hb : Below w.heap.size w W), Calls Tryz.prog 67 #[.agg #[.slice (some ⟨b, off, none⟩) n cap, .int .i64 nx], .int .i64 id] W fun e w' => e = .returned (.int .i64 (k : Nat)) ∧ Below W.heap.size W w') := ⟨fun W hb => by have := HAT.out id W hb; rw [hat] at this; exact this⟩
 have k0 : (0 : Int) ≤ (k : Int) := by omega
 have k1 : (k : Int) < (n : Int) := by have := HN.out; omega
 have k2 : (k : Int) < (m5 : Int) := by have := HM5.out; omega
 clear hr hr5 hid hat hlen hk e1 n1 n2 h0 h7 h10 hc hc5 HAT HX HADD HBOOT HAP
 obtain ⟨⟨id9, parent9, name9, dir9, schema9, quota9, len9, pieces9, writer9⟩, loc9, cp9⟩ := r
 obtain ⟨⟨id8, parent8, name8, dir8, schema8, quota8, len8, pieces8, writer8⟩, loc8, cp8⟩ := r5
 dsimp only at *
 obtain ⟨p9, hp9⟩ : ∃ q, q = pieces9.length := ⟨_, rfl⟩
 obtain ⟨p8, hp8⟩ : ∃ q, q = pieces8.length := ⟨_, rfl⟩
 rw [← hp9] at HX7 hp2
 rw [← hp8] at HX7 hp1
 have HP9 := Shut.mk hp9
 have HP8 := Shut.mk hp8
 clear hp9 hp8 hkr hk5
 go_upto_region 8 with fail
 have HLE : Shut (∀ x, Later W1.drew x → x.cell? ⟨w.heap.size, 0, none⟩ = some (.slice (some ⟨b, off, none⟩) n cap) ∧ x.cell? ⟨w.heap.size, 1, none⟩ = some (.int .i64 nx) ∧ x.cell? ⟨w.heap.size + 1, 1, none⟩ = some (.string path)) := ⟨fun x hx => by
  have M := HM.out.below (Below.trans (Below.drew (Below.refl _ _)) hx)
  exact ⟨((M.at 2 rfl).1.2 0 _ rfl).1, ((M.at 2 rfl).1.2 1 _ rfl).1, ((M.at 1 rfl).1.2 1 _ rfl).1⟩⟩
 have HBX : Shut (∀ x, Later W1.drew x → Below w.heap.size w x) := ⟨fun x hx => (HM.out.below (Below.trans (Below.drew (Below.refl _ _)) hx)).bel⟩
 refine wp_region_later (by kernel_rfl) ?_
 refine wpL_val (i := 0) (v := ?va0) rfl (by kernel_rfl) (by kernel_rfl) (by kernel_rfl) (fun _ _ _ h => h) (by rfl) ?hya0 ?resta0
 case hya0 => (intro x hx; obtain ⟨d0, d1, d2⟩ := HLE.out x hx; go_simp; try with_reducible rfl)
 try simp only [Act.put, qA, qB, qC]
 refine wpL_val (i := 1) (v := ?va1) rfl (by kernel_rfl) (by kernel_rfl) (by kernel_rfl) (fun _ _ _ h => h) (by rfl) ?hya1 ?resta1
 case hya1 => (intro x hx; obtain ⟨d0, d1, d2⟩ := HLE.out x hx; go_simp; try with_reducible rfl)
 try simp only [Act.put, qA, qB, qC]
 refine wpL_val (i := 2) (v := ?va2) rfl (by kernel_rfl) (by kernel_rfl) (by kernel_rfl) (fun _ _ _ h => h) (by rfl) ?hya2 ?resta2
 case hya2 => (intro x hx; obtain ⟨d0, d1, d2⟩ := HLE.out x hx; go_simp; try with_reducible rfl)
 try simp only [Act.put, qA, qB, qC]
 refine wpL_val (i := 3) (v := ?va3) rfl (by kernel_rfl) (by kernel_rfl) (by kernel_rfl) (fun _ _ _ h => h) (by rfl) ?hya3 ?resta3
 case hya3 => (intro x hx; obtain ⟨d0, d1, d2⟩ := HLE.out x hx; go_simp; try with_reducible rfl)
 try simp only [Act.put, qA, qB, qC]
 refine wpL_call (i := 4) (v := .int .i64 id) (f := 20) (args := #[.agg #[.slice (some ⟨b, off, none⟩) n cap, .int .i64 nx], .string path]) rfl (by kernel_rfl) (by kernel_rfl) (by kernel_rfl) (fun _ _ _ h => h) (by rfl) ?hya4 (fun x hx => HFP.out x (HBX.out x hx)) ?resta4
 case hya4 => (intro x hx; obtain ⟨d0, d1, d2⟩ := HLE.out x hx; go_simp; try with_reducible rfl)
 try simp only [Act.put, qA, qB, qC]
 refine wpL_call (i := 5) (v := .int .i64 (k : Nat)) (f := 67) (args := #[.agg #[.slice (some ⟨b, off, none⟩) n cap, .int .i64 nx], .int .i64 id]) rfl (by kernel_rfl) (by kernel_rfl) (by kernel_rfl) (fun _ _ _ h => h) (by rfl) ?hya5 (fun x hx => HA2.out x (HBX.out x hx)) ?resta5
 case hya5 => (intro x hx; obtain ⟨d0, d1, d2⟩ := HLE.out x hx; go_simp; try with_reducible rfl)
 try simp only [Act.put, qA, qB, qC]
 refine wpL_val (i := 6) (v := ?va6) rfl (by kernel_rfl) (by kernel_rfl) (by kernel_rfl) (fun _ _ _ h => h) (by rfl) ?hya6 ?resta6
 case hya6 => (intro x hx; obtain ⟨d0, d1, d2⟩ := HLE.out x hx; go_simp; try with_reducible rfl)
 try simp only [Act.put, qA, qB, qC]
 refine wpL_done (by kernel_rfl) ?_ _
 intro W3 hy
 have hb3 := (Below.trans (Below.drew (Below.refl _ _)) hy : Below W1.heap.size W1 W3)
 replace HM := Shut.mk (HM.out.below hb3)
 replace HB1 := Shut.mk (HB1.out.trans (hb3.mono HB1.out.size))
 clear hb3 hy HLE HBX y0
 go_upto_region 9 with fail
 have HLE : Shut (∀ x, Later W3.drew x → x.cell? ⟨w.heap.size, 0, none⟩ = some (.slice (some ⟨b, off, none⟩) n cap) ∧ x.cell? ⟨w2.heap.size, 0, none⟩ = some (.slice (some ⟨b5, off5, none⟩) m5 c5) ∧ x.cell? ⟨b, off + k * 9 + 7, none⟩ = some (.slice loc9 p9 cp9) ∧ x.cell? ⟨b5, off5 + k * 9 + 7, none⟩ = some (.slice loc8 p8 cp8)) := ⟨fun x hx => by
  have hb : Below W3.heap.size W3 x := Below.trans (Below.drew (Below.refl _ _)) hx
  have M := HM.out.below hb
  obtain ⟨-, -, -, -, -, -, -, c7, -⟩ := HC1.out.below M.bel lb
  obtain ⟨-, -, -, -, -, -, -, d7, -⟩ := HC5.out.below (HB1.out.trans (hb.mono HB1.out.size)) lb5
  dsimp only at c7 d7
  rw [← HP9.out] at c7
  rw [← HP8.out] at d7
  exact ⟨((M.at 2 rfl).1.2 0 _ rfl).1, ((M.at 0 rfl).1.2 0 _ rfl).1, c7, d7⟩⟩
 have hw1 : IntKind.i64.wrap (gr + (p8 : Int)) = gr + (p8 : Int) := IntWalk.i64_in _ ⟨by omega, by omega⟩
 have hw2 : IntKind.i64.wrap (gr + (p8 : Int) - (p9 : Int)) = gr + (p8 : Int) - (p9 : Int) := IntWalk.i64_in _ ⟨by omega, by omega⟩
 refine wp_region_later (by kernel_rfl) ?_
 refine wpL_val (i := 0) (v := ?vb0) rfl (by kernel_rfl) (by kernel_rfl) (by kernel_rfl) (fun _ _ _ h => h) (by rfl) ?hyb0 ?restb0
 case hyb0 => (intro x hx; obtain ⟨d0, d1, d2, d3⟩ := HLE.out x hx; go_simp; try with_reducible rfl)
 try simp only [Act.put, qA, qB, qC]
 refine wpL_val (i := 1) (v := ?vb1) rfl (by kernel_rfl) (by kernel_rfl) (by kernel_rfl) (fun _ _ _ h => h) (by rfl) ?hyb1 ?restb1
 case hyb1 => (intro x hx; obtain ⟨d0, d1, d2, d3⟩ := HLE.out x hx; go_simp; try with_reducible rfl)
 try simp only [Act.put, qA, qB, qC]
 refine wpL_val (i := 2) (v := ?vb2) rfl (by kernel_rfl) (by kernel_rfl) (by kernel_rfl) (fun _ _ _ h => h) (by rfl) ?hyb2 ?restb2
 case hyb2 => (intro x hx; obtain ⟨d0, d1, d2, d3⟩ := HLE.out x hx; go_simp; try with_reducible rfl)
 try simp only [Act.put, qA, qB, qC]
 refine wpL_val (i := 3) (v := ?vb3) rfl (by kernel_rfl) (by kernel_rfl) (by kernel_rfl) (fun _ _ _ h => h) (by rfl) ?hyb3 ?restb3
 case hyb3 => (intro x hx; obtain ⟨d0, d1, d2, d3⟩ := HLE.out x hx; go_simp; try with_reducible rfl)
 try simp only [Act.put, qA, qB, qC]
 refine wpL_val (i := 4) (v := ?vb4) rfl (by kernel_rfl) (by kernel_rfl) (by kernel_rfl) (fun _ _ _ h => h) (by rfl) ?hyb4 ?restb4
 case hyb4 => (intro x hx; obtain ⟨d0, d1, d2, d3⟩ := HLE.out x hx; go_simp; try with_reducible rfl)
 try simp only [Act.put, qA, qB, qC]
 refine wpL_val (i := 5) (v := ?vb5) rfl (by kernel_rfl) (by kernel_rfl) (by kernel_rfl) (fun _ _ _ h => h) (by rfl) ?hyb5 ?restb5
 case hyb5 => (intro x hx; obtain ⟨d0, d1, d2, d3⟩ := HLE.out x hx; go_simp; try with_reducible rfl)
 try simp only [Act.put, qA, qB, qC]
 refine wpL_val (i := 6) (v := ?vb6) rfl (by kernel_rfl) (by kernel_rfl) (by kernel_rfl) (fun _ _ _ h => h) (by rfl) ?hyb6 ?restb6
 case hyb6 => (intro x hx; obtain ⟨d0, d1, d2, d3⟩ := HLE.out x hx; go_simp; try with_reducible rfl)
 try simp only [Act.put, qA, qB, qC]
 refine wpL_val (i := 7) (v := ?vb7) rfl (by kernel_rfl) (by kernel_rfl) (by kernel_rfl) (fun _ _ _ h => h) (by rfl) ?hyb7 ?restb7
 case hyb7 => (intro x hx; obtain ⟨d0, d1, d2, d3⟩ := HLE.out x hx; go_simp; try with_reducible rfl)
 try simp only [Act.put, qA, qB, qC]
 refine wpL_val (i := 8) (v := ?vb8) rfl (by kernel_rfl) (by kernel_rfl) (by kernel_rfl) (fun _ _ _ h => h) (by rfl) ?hyb8 ?restb8
 case hyb8 => (intro x hx; obtain ⟨d0, d1, d2, d3⟩ := HLE.out x hx; go_simp; try with_reducible rfl)
 try simp only [Act.put, qA, qB, qC]
 refine wpL_val (i := 9) (v := ?vb9) rfl (by kernel_rfl) (by kernel_rfl) (by kernel_rfl) (fun _ _ _ h => h) (by rfl) ?hyb9 ?restb9
 case hyb9 => (intro x hx; obtain ⟨d0, d1, d2, d3⟩ := HLE.out x hx; go_simp; try with_reducible rfl)
 try simp only [Act.put, qA, qB, qC]
 refine wpL_val (i := 10) (v := ?vb10) rfl (by kernel_rfl) (by kernel_rfl) (by kernel_rfl) (fun _ _ _ h => h) (by rfl) ?hyb10 ?restb10
 case hyb10 => (intro x hx; obtain ⟨d0, d1, d2, d3⟩ := HLE.out x hx; go_simp; try with_reducible rfl)
 try simp only [Act.put, qA, qB, qC]
 refine wpL_val (i := 11) (v := ?vb11) rfl (by kernel_rfl) (by kernel_rfl) (by kernel_rfl) (fun _ _ _ h => h) (by rfl) ?hyb11 ?restb11
 case hyb11 => (intro x hx; obtain ⟨d0, d1, d2, d3⟩ := HLE.out x hx; go_simp; try with_reducible rfl)
 try simp only [Act.put, qA, qB, qC]
 refine wpL_val (i := 12) (v := ?vb12) rfl (by kernel_rfl) (by kernel_rfl) (by kernel_rfl) (fun _ _ _ h => h) (by rfl) ?hyb12 ?restb12
 case hyb12 => (intro x hx; obtain ⟨d0, d1, d2, d3⟩ := HLE.out x hx; go_simp; try with_reducible rfl)
 try simp only [Act.put, qA, qB, qC]
 refine wpL_val (i := 13) (v := ?vb13) rfl (by kernel_rfl) (by kernel_rfl) (by kernel_rfl) (fun _ _ _ h => h) (by rfl) ?hyb13 ?restb13
 case hyb13 => (intro x hx; obtain ⟨d0, d1, d2, d3⟩ := HLE.out x hx; go_simp; try with_reducible rfl)
 try simp only [Act.put, qA, qB, qC]
 refine wpL_val (i := 14) (v := ?vb14) rfl (by kernel_rfl) (by kernel_rfl) (by kernel_rfl) (fun _ _ _ h => h) (by rfl) ?hyb14 ?restb14
 case hyb14 => (intro x hx; obtain ⟨d0, d1, d2, d3⟩ := HLE.out x hx; go_simp; try with_reducible rfl)
 try simp only [Act.put, qA, qB, qC]
 refine wpL_val (i := 15) (v := ?vb15) rfl (by kernel_rfl) (by kernel_rfl) (by kernel_rfl) (fun _ _ _ h => h) (by rfl) ?hyb15 ?restb15
 case hyb15 => (intro x hx; obtain ⟨d0, d1, d2, d3⟩ := HLE.out x hx; go_simp; try with_reducible rfl)
 try simp only [Act.put, qA, qB, qC]
 refine wpL_val (i := 16) (v := ?vb16) rfl (by kernel_rfl) (by kernel_rfl) (by kernel_rfl) (fun _ _ _ h => h) (by rfl) ?hyb16 ?restb16
 case hyb16 => (intro x hx; obtain ⟨d0, d1, d2, d3⟩ := HLE.out x hx; go_simp; try with_reducible rfl)
 try simp only [Act.put, qA, qB, qC]
 refine wpL_val (i := 17) (v := ?vb17) rfl (by kernel_rfl) (by kernel_rfl) (by kernel_rfl) (fun _ _ _ h => h) (by rfl) ?hyb17 ?restb17
 case hyb17 => (intro x hx; obtain ⟨d0, d1, d2, d3⟩ := HLE.out x hx; go_simp; try with_reducible rfl)
 try simp only [Act.put, qA, qB, qC]
 refine wpL_done (by kernel_rfl) ?_ _
 intro W4 hy
 have hb4 := (Below.trans (Below.drew (Below.refl _ _)) hy : Below W3.heap.size W3 W4)
 replace HM := Shut.mk (HM.out.below hb4)
 clear hb4 hy HLE
 go_wp2_with fail
 go_ret
 exact ⟨by rw [HX7.out]; rfl, HM.out.bel⟩
end Go.Proofs.YtakhagkhngmpaaaGreat
/- ApK: . -/
namespace Go.Proofs.YtakhagkhngmpaaaGreat
set_option maxRecDepth 100000
open Go.RowKit BigFrame
attribute [local go_sem ↓] Go.wp_at_zero Go.wp_at_succ
def ecs (es : List EM) : List Value := es.flatMap ecells
theorem ecs_len (es : List EM) : (ecs es).length = es.length * 5 := flat_len ecells_len es
theorem ecs_at {w : World} {a : Option Addr} {es : List EM} {lo hi : Nat} (h : RRow w a (ecs es) lo hi) (hp : 0 < es.length) : ∃ b off, a = some ⟨b, off, none⟩ ∧ b < w.heap.size ∧ ∀ j (hj : j < es.length), w.cell? ⟨b, off + j * 5, none⟩ = some (.int .i64 es[j].kind) ∧ w.cell? ⟨b, off + j * 5 + 1, none⟩ = some (.string es[j].path) ∧ w.cell? ⟨b, off + j * 5 + 2, none⟩ = some (.string es[j].dest) ∧ w.cell? ⟨b, off + j * 5 + 3, none⟩ = some (.int .i64 es[j].num) ∧ w.cell? ⟨b, off + j * 5 + 4, none⟩ = some (.int .i64 es[j].who) := by
 obtain ⟨b, off, e, _, _, hb, hc⟩ := h (by rw [ecs_len]; omega)
 refine ⟨b, off, e, hb, fun j hj => ?_⟩
 have hg : ∀ i v, (ecells es[j])[i]? = some v → w.cell? ⟨b, off + j * 5 + i, none⟩ = some v := fun i v hv => by
  have hi : i < 5 := by have := (List.getElem?_eq_some_iff.1 hv).1; rw [ecells_len] at this; exact this
  have := hc (j * 5 + i) v ((flat_get ecells_len es j hj i hi).trans hv)
  rw [← Nat.add_assoc] at this
  exact this
 exact ⟨hg 0 _ rfl, hg 1 _ rfl, hg 2 _ rfl, hg 3 _ rfl, hg 4 _ rfl⟩
theorem nsum_filter (p : NM → Bool) (ns : List NM) : nsum (ns.filter p) ≤ nsum ns := by
 induction ns with
 | nil => simp [nsum]
 | cons n ns ih =>
  rw [List.filter_cons]
  split
  ·simp only [nsum]; omega
  ·simp only [nsum]; omega
theorem set_fit {T : TM} (h : treeOk T = true) {k : Nat} (x : NM) (hx : x.name.size + x.pieces.length ≤ 1000) : NFit (setN T k x) := by
 have h1 := tree_sum h
 have h2 := tree_len h
 have h3 := nsum_set T.nodes k x
 unfold NFit setN
 dsimp only
 rw [List.length_set]
 omega
theorem apply_fit {T : TM} (hf : NFit T) (e : EM) (g : Int) : NFit (applyX T e g).1 := by
 unfold applyX
 split
 ·exact hf
 ·rename_i hm
  have hm' : mayX T e g = true := by simpa using hm
  unfold mayX at hm'
  simp only [Bool.and_eq_true] at hm'
  have ht := hm'.1.1
  split
  ·exact hf
  ·split
   ·unfold addX
    repeat' split
    all_goals first | exact hf | exact add_fit ht _ _ rfl
   ·split
    ·unfold addX
     repeat' split
     all_goals first | exact hf | exact add_fit ht _ _ rfl
    ·split
     ·exact hf
     ·rename_i hid
      obtain ⟨k, hk, hat, -⟩ := find_there hid
      have e1 : plc T (findX T e.path) = k := by unfold plc; rw [hat]; rfl
      have hp := node_parts ht k hk
      rw [e1]
      split
      ·unfold moveX
       repeat' split
       all_goals first | exact hf | exact move_fit ht _ _ k hk hat
      ·split
       ·have h1 := tree_sum ht
        have h2 := tree_len ht
        unfold NFit dropT
        dsimp only
        have h3 := nsum_filter (fun n => !belowF T.nodes 15 n.id (findX T e.path)) T.nodes
        have h4 := List.length_filter_le (fun n : NM => !belowF T.nodes 15 n.id (findX T e.path)) T.nodes
        omega
       ·split
        ·unfold setX
         repeat' split
         all_goals first | exact hf | exact set_fit ht _ (by rw [nd_mem hk]; dsimp only; omega)
        ·unfold writeX
         repeat' split
         all_goals first | exact hf | (refine set_fit ht _ ?_; rw [nd_mem hk] at *; simp only [List.length_append, newP_len]; omega) | (refine set_fit ht _ ?_; rw [nd_mem hk]; dsimp only; omega)
theorem all_take (T : TM) (es : List EM) (g : Int) (k : Nat) (h : k < es.length) : allX T (es.take (k + 1)) g = stepX (allX T (es.take k) g) es[k] := by
 unfold allX
 rw [List.take_succ_eq_append_getElem h, List.foldl_append]
 rfl
structure AL (w W : World) (L : List (Nat × List Value)) (ob : Nat) (v : Value) (T : TM) : Prop where
 mb : MB w W L
 ans : ∃ lo hi, TAns W v T lo hi ∧ w.heap.size + 1 + 1 ≤ lo ∧ (hi ≤ ob ∨ ob < lo) ∧ hi ≤ W.heap.size
 fit : NFit T
theorem AL.below {w W W' : World} {L : List (Nat × List Value)} {ob : Nat} {v : Value} {T : TM} (h : AL w W L ob v T) (hb : Below W.heap.size W W') : AL w W' L ob v T := by
 obtain ⟨lo, hi, h1, h2, h3, h4⟩ := h.ans
 exact ⟨h.mb.below hb, ⟨lo, hi, h1.below hb, h2, h3, Nat.le_trans h4 hb.size⟩, h.fit⟩
set_option maxHeartbeats 4000000 in
theorem specApplyAll {w : World} {v : Value} {T : TM} {lo hi : Nat} (la : Option Addr) (lc : Nat) (es : List EM) (l1 l2 : Nat) (gr : Int) (h : TSee w v T lo hi) (hf : NFit T) (hE : RRow w la (ecs es) l1 l2) (he : ∀ e ∈ es, EFit e) (hel : es.length ≤ 1048576) : Calls Tryz.prog 29 #[v, .slice la es.length lc, .int .i64 gr] w fun r w' => ApPost (allX T es gr) w r w' := by
 have HCP := Shut.mk (fun (W : World) (hb : Below w.heap.size w W) => specCopy (h.below hb) hf)
 have HF := Shut.mk hf
 obtain ⟨R, hR⟩ : ∃ R, R = allX T es gr := ⟨_, rfl⟩
 rw [← hR]
 have HR := Shut.mk hR
 obtain ⟨a, cap, rs, rfl, hr, hm⟩ := h
 obtain ⟨nodes, nx⟩ := T
 obtain ⟨n, hn⟩ : ∃ n, n = rs.length := ⟨_, rfl⟩
 dsimp only at *
 rw [← hn] at HCP ⊢
 have HE := Shut.mk hE
 have HFE := Shut.mk he
 obtain ⟨ln, hln⟩ : ∃ n, n = es.length := ⟨_, rfl⟩
 rw [← hln] at hel ⊢
 have HLN := Shut.mk hln
 clear hn hm hr hf hE he hR hln
 have HM0 := Shut.mk (MB.two w #[.slice a n cap, .int .i64 nx] #[.slice none 0 0, .int .i64 0] 26 26)
 go_enter Tryz.func29, Tryz.ntmps29
 go_upto_region 1 with fail
 refine wp_shade (fun W => MB w W [(w.heap.size + 1, [.slice none 0 0, .int .i64 0]), (w.heap.size, [.slice a n cap, .int .i64 nx])]) HM0.out ?_
 intro W0 hM
 have HM := Shut.mk hM
 clear hM HM0
 have x0 := ((HM.out.at 1 rfl).1.2 0 _ rfl).1
 have x1 := ((HM.out.at 1 rfl).1.2 1 _ rfl).1
 have hw0 := Shut.mk (HM.out.at 0 rfl).1.1
 go_upto_region 2 with (go_at_call 62; refine (HCP.out _ HM.out.bel).mono ?_; rintro e w1 ⟨vv, rfl, hans, hb1⟩; have HANS := Shut.mk hans; obtain ⟨a5, c5, rs5, rfl, hr5, -, -⟩ := hans.see_form; replace HM := Shut.mk (HM.out.below hb1); clear hans hr5 hb1 x0 x1)
 have HAL : Shut (AL w (w1.alloc (.cells #[.slice a5 rs5.length c5, .int .i64 nx] 26)) [(w1.heap.size, [.slice a5 rs5.length c5, .int .i64 nx]), (w.heap.size + 1, [.slice none 0 0, .int .i64 0]), (w.heap.size, [.slice a n cap, .int .i64 nx])] w1.heap.size (.agg #[.slice a5 rs5.length c5, .int .i64 nx]) ⟨nodes, nx⟩) := ⟨HM.out.new _ _, ⟨_, _, HANS.out.below ((Below.refl _ _).alloc (Nat.le_refl _) _), hw0.out, .inl (Nat.le_refl _), by simp⟩, HF.out⟩
 obtain ⟨m5, hm5⟩ : ∃ m, m = rs5.length := ⟨_, rfl⟩
 rw [← hm5] at HAL ⊢
 refine wp_shade (fun W => AL w W [(w1.heap.size, [.slice a5 m5 c5, .int .i64 nx]), (w.heap.size + 1, [.slice none 0 0, .int .i64 0]), (w.heap.size, [.slice a n cap, .int .i64 nx])] w1.heap.size (.agg #[.slice a5 m5 c5, .int .i64 nx]) ⟨nodes, nx⟩) HAL.out ?_
 rintro W1 hA1
 replace HAL := Shut.mk hA1
 clear hA1 HM HANS hm5
 go_wp2_with fail
 go_loopw [2, 9] (fun gv iv wr => ∃ (k : Nat) (g : Int) (ka : Option Addr) (km kc : Nat) (Tk : TM), gv = .int .i64 g ∧ iv = .int .i64 k ∧ k ≤ ln ∧ Shut (allX ⟨nodes, nx⟩ (es.take k) gr = (Tk, g)) ∧ Shut (AL w wr [(w1.heap.size, [.slice ka km kc, .int .i64 Tk.next]), (w.heap.size + 1, [.slice none 0 0, .int .i64 0]), (w.heap.size, [.slice a n cap, .int .i64 nx])] w1.heap.size (.agg #[.slice ka km kc, .int .i64 Tk.next]) Tk)) (fun _ iv _ => ln - (intOf iv).toNat)
 case atStart => exact ⟨0, gr, _, _, _, ⟨nodes, nx⟩, rfl, rfl, Nat.zero_le _, ⟨by simp [allX]⟩, HAL⟩
 case round =>
  clear HAL
  obtain ⟨k, g, ka, km, kc, Tk, rfl, rfl, hk, HTK, HA⟩ := hrel
  have k0 : (0 : Int) ≤ (k : Int) := by omega
  by_cases hlt : k < ln
  ·have k1 : (k : Int) < (ln : Int) := by omega
   have hkl : k < es.length := by have := HLN.out; omega
   have hst := all_take ⟨nodes, nx⟩ es gr k hkl
   rw [HTK.out] at hst
   obtain ⟨b, off, hla, lb, hc⟩ := ecs_at HE.out (by omega)
   subst hla
   have hce := hc k hkl
   have HEF := Shut.mk (HFE.out _ (List.getElem_mem hkl))
   obtain ⟨e, hee⟩ : ∃ e, e = es[k] := ⟨_, rfl⟩
   rw [← hee] at hst hce HEF
   clear hee hc
   obtain ⟨kind, path, dest, num, who⟩ := e
   dsimp only at hce
   have HCE := Shut.mk hce
   clear hce
   obtain ⟨lo9, hi9, hans9, hlo9, hob9, hhi9⟩ := HA.out.ans
   have HAP := Shut.mk (fun (W : World) (hb : Below wr.heap.size wr W) => specApply ⟨kind, path, dest, num, who⟩ g (hans9.see.below hb) HA.out.fit HEF.out)
   have HGA := Shut.mk (fun (W : World) (hb : Below wr.heap.size wr W) => specGroupsAfter ⟨kind, path, dest, num, who⟩ g (hans9.see.below hb) HA.out.fit HEF.out)
   have HFT := Shut.mk (apply_fit HA.out.fit ⟨kind, path, dest, num, who⟩ g)
   have HST : Shut (allX ⟨nodes, nx⟩ (es.take (k + 1)) gr = if (applyX Tk ⟨kind, path, dest, num, who⟩ g).2 = 0 then ((applyX Tk ⟨kind, path, dest, num, who⟩ g).1, groupsX Tk ⟨kind, path, dest, num, who⟩ g) else (Tk, g)) := ⟨hst⟩
   obtain ⟨RT, rc, hRR⟩ : ∃ RT rc, applyX Tk ⟨kind, path, dest, num, who⟩ g = (RT, rc) := ⟨_, _, rfl⟩
   obtain ⟨gx, hgx⟩ : ∃ q, q = groupsX Tk ⟨kind, path, dest, num, who⟩ g := ⟨_, rfl⟩
   rw [hRR] at HAP HST HFT
   simp only [← hgx] at HGA HST
   dsimp only at HST HFT
   obtain ⟨kx, hkx⟩ : ∃ q, q = Tk.next := ⟨_, rfl⟩
   have HKX := Shut.mk hkx
   rw [← hkx] at HA HAP HGA
   have HL9 := Shut.mk (And.intro hlo9 (And.intro hob9 hhi9))
   clear hst hRR hgx hkx hans9 hlo9 hob9 hhi9 hkl
   go_upto_region 5 with fail
   go_cut [10, 11] from 20 to 29 (fun u10 u11 wx => ∃ (nb : Nat) (ra : Option Addr) (rm rcp : Nat), u10 = .pointer (some ⟨nb, 0, none⟩) ∧ u11 = .int .i64 rc ∧ Shut (WCells wx nb [.slice ra rm rcp, .int .i64 RT.next] ∧ Below wr.heap.size wr wx ∧ wr.heap.size ≤ nb ∧ ∃ lo8 hi8, TAns wx (.agg #[.slice ra rm rcp, .int .i64 RT.next]) RT lo8 hi8 ∧ wr.heap.size ≤ lo8 ∧ hi8 ≤ wx.heap.size))
   case first =>
    have z0 := ((HA.out.mb.at 0 rfl).1.2 0 _ rfl).1
    have z1 := ((HA.out.mb.at 0 rfl).1.2 1 _ rfl).1
    have lz := (HA.out.mb.at 0 rfl).1.1
    have hB := HA.out.mb.bel
    have c0 := (hB.cell (p := ⟨b, off + k * 5, none⟩) lb).trans HCE.out.1
    have c1 := (hB.cell (p := ⟨b, off + k * 5 + 1, none⟩) lb).trans HCE.out.2.1
    have c2 := (hB.cell (p := ⟨b, off + k * 5 + 2, none⟩) lb).trans HCE.out.2.2.1
    have c3 := (hB.cell (p := ⟨b, off + k * 5 + 3, none⟩) lb).trans HCE.out.2.2.2.1
    have c4 := (hB.cell (p := ⟨b, off + k * 5 + 4, none⟩) lb).trans HCE.out.2.2.2.2
    have lbr : b < wr.heap.size := Nat.lt_of_lt_of_le lb hB.size
    have ne1 : ¬ (wr.heap.size = w1.heap.size) := by omega
    have ne2 : ¬ (w1.heap.size = wr.heap.size) := by omega
    have ne3 : ¬ (wr.heap.size = b) := by omega
    have ne4 : ¬ (b = wr.heap.size) := by omega
    clear hB
    go_region_held3 (fun w' => w'.cell? ⟨w1.heap.size, 0, none⟩ = some (.slice ka km kc) ∧ w'.cell? ⟨w1.heap.size, 1, none⟩ = some (.int .i64 kx) ∧ w'.cell? ⟨b, off + k * 5, none⟩ = some (.int .i64 kind) ∧ w'.cell? ⟨b, off + k * 5 + 1, none⟩ = some (.string path) ∧ w'.cell? ⟨b, off + k * 5 + 2, none⟩ = some (.string dest) ∧ w'.cell? ⟨b, off + k * 5 + 3, none⟩ = some (.int .i64 num) ∧ w'.cell? ⟨b, off + k * 5 + 4, none⟩ = some (.int .i64 who)) (first | go_keep | (rw [hb2.cell (p := ⟨w1.heap.size, 0, none⟩) (by simp; omega), hb2.cell (p := ⟨w1.heap.size, 1, none⟩) (by simp; omega), hb2.cell (p := ⟨b, off + k * 5, none⟩) (by simp; omega), hb2.cell (p := ⟨b, off + k * 5 + 1, none⟩) (by simp; omega), hb2.cell (p := ⟨b, off + k * 5 + 2, none⟩) (by simp; omega), hb2.cell (p := ⟨b, off + k * 5 + 3, none⟩) (by simp; omega), hb2.cell (p := ⟨b, off + k * 5 + 4, none⟩) (by simp; omega)]; assumption)) ((go_at_call 14; refine (HAP.out _ (by first | exact Below.drew (Below.refl _ _) | exact ((Below.refl _ _).alloc (Nat.le_refl _) _).drew | exact Below.alloc (Below.drew (Below.refl _ _)) (Nat.le_refl _) _)).mono ?_; rintro e w2 ⟨vv, rfl, hans, hb2⟩; dsimp only at hans; have HANS := Shut.mk hans; obtain ⟨ra, rcp, rs5, rfl, hr5, -, -⟩ := hans.see_form; have hbw : Below wr.heap.size wr w2 := (by first | exact (Below.drew (Below.refl _ _)).trans hb2 | exact (((Below.refl _ _).alloc (Nat.le_refl _) _).drew).trans (hb2.mono (by simp)) | exact (Below.alloc (Below.drew (Below.refl _ _)) (Nat.le_refl _) _).trans (hb2.mono (by simp))); have f0 := (hbw.cell (p := ⟨w1.heap.size, 0, none⟩) lz).trans z0; have f1 := (hbw.cell (p := ⟨w1.heap.size, 1, none⟩) lz).trans z1; have f2 := (hbw.cell (p := ⟨b, off + k * 5, none⟩) lbr).trans c0; have f3 := (hbw.cell (p := ⟨b, off + k * 5 + 1, none⟩) lbr).trans c1; have f4 := (hbw.cell (p := ⟨b, off + k * 5 + 2, none⟩) lbr).trans c2; have f5 := (hbw.cell (p := ⟨b, off + k * 5 + 3, none⟩) lbr).trans c3; have f6 := (hbw.cell (p := ⟨b, off + k * 5 + 4, none⟩) lbr).trans c4; have HBW := Shut.mk hbw; have HB2 := Shut.mk hb2; (try (have hx : WCells w2 wr.heap.size [.slice none 0 0, .int .i64 0] := WCells.grow (w := wr.drew.alloc (.cells #[.slice none 0 0, .int .i64 0] 26)) (wcells_new wr.drew #[.slice none 0 0, .int .i64 0] 26) hb2; have HXX := Shut.mk hx; obtain ⟨p0, pf0⟩ := hx.2 0 _ rfl; obtain ⟨p1, pf1⟩ := hx.2 1 _ rfl; clear hx)); have lz2 : w1.heap.size < w2.heap.size := (by have q := hb2.size; simp at q; omega); have lb2 : b < w2.heap.size := (by have q := hb2.size; simp at q; omega); clear hans hr5))
    all_goals go_wp2_with fail
    all_goals go_meet
    all_goals
     first
     | exact ⟨w2.heap.size, ra, rs5.length, rcp, rfl, rfl, ⟨wcells_new w2 #[.slice ra rs5.length rcp, .int .i64 RT.next] 26, HBW.out.alloc HBW.out.size _, HBW.out.size, _, _, HANS.out.below ((Below.refl _ _).alloc (Nat.le_refl _) _), Nat.le_refl _, by simp⟩⟩
     | exact ⟨wr.heap.size, ra, rs5.length, rcp, rfl, rfl, ⟨(HXX.out.set 0 _ (by simp)).set 1 _ (by simp), (HBW.out.setCell (p := ⟨wr.heap.size, 0, none⟩) (Nat.le_refl _) _).setCell (p := ⟨wr.heap.size, 1, none⟩) (Nat.le_refl _) _, Nat.le_refl _, _, _, (HANS.out.box wr.heap.size 0 _ (by simp)).box wr.heap.size 1 _ (by simp), by simp, by simp⟩⟩
   case rest =>
   obtain ⟨nb, ra, rm, rcp, rfl, rfl, hC⟩ := hcut
   have HC := hC
   clear hC
   obtain ⟨rx, hrx⟩ : ∃ q, q = RT.next := ⟨_, rfl⟩
   rw [← hrx] at HC
   have HRX := Shut.mk hrx
   clear hrx
   have hwz := (HA.out.mb.at 0 rfl).1.1
   have hRT : Shut (AL w wc [(w1.heap.size, [.slice ka km kc, .int .i64 kx]), (w.heap.size + 1, [.slice none 0 0, .int .i64 0]), (w.heap.size, [.slice a n cap, .int .i64 nx])] w1.heap.size (.agg #[.slice ka km kc, .int .i64 kx]) Tk) := ⟨HA.out.below HC.out.2.1⟩
   by_cases h0 : rc = 0
   case neg =>
    have b0 : (rc == 0) = false := by simp [h0]
    have HS1 : Shut (allX ⟨nodes, nx⟩ (es.take (k + 1)) gr = (Tk, g)) := ⟨by rw [HST.out, if_neg h0]⟩
    clear h0
    go_wp2_with fail
    go_roundw
    case rel => exact ⟨k + 1, g, ka, km, kc, Tk, rfl, by go_num, by omega, HS1, by rw [← HKX.out]; exact hRT⟩
    case measure => simp [intOf]; omega
   have b0 : (rc == 0) = true := by simp [h0]
   have HS1 : Shut (allX ⟨nodes, nx⟩ (es.take (k + 1)) gr = (RT, gx)) := ⟨by rw [HST.out, if_pos h0]⟩
   clear h0 HAP
   go_upto_region 7 with fail
   have HLE : Shut (∀ x, Later wc.drew x → x.cell? ⟨w1.heap.size, 0, none⟩ = some (.slice ka km kc) ∧ x.cell? ⟨w1.heap.size, 1, none⟩ = some (.int .i64 kx) ∧ x.cell? ⟨b, off + k * 5, none⟩ = some (.int .i64 kind) ∧ x.cell? ⟨b, off + k * 5 + 1, none⟩ = some (.string path) ∧ x.cell? ⟨b, off + k * 5 + 2, none⟩ = some (.string dest) ∧ x.cell? ⟨b, off + k * 5 + 3, none⟩ = some (.int .i64 num) ∧ x.cell? ⟨b, off + k * 5 + 4, none⟩ = some (.int .i64 who)) := ⟨fun x hx => by
    have D := hRT.out.below (Below.trans (Below.drew (Below.refl _ _)) hx)
    have hB := D.mb.bel
    exact ⟨((D.mb.at 0 rfl).1.2 0 _ rfl).1, ((D.mb.at 0 rfl).1.2 1 _ rfl).1, (hB.cell (p := ⟨b, off + k * 5, none⟩) lb).trans HCE.out.1, (hB.cell (p := ⟨b, off + k * 5 + 1, none⟩) lb).trans HCE.out.2.1, (hB.cell (p := ⟨b, off + k * 5 + 2, none⟩) lb).trans HCE.out.2.2.1, (hB.cell (p := ⟨b, off + k * 5 + 3, none⟩) lb).trans HCE.out.2.2.2.1, (hB.cell (p := ⟨b, off + k * 5 + 4, none⟩) lb).trans HCE.out.2.2.2.2⟩⟩
   have HBX : Shut (∀ x, Later wc.drew x → Below wr.heap.size wr x) := ⟨fun x hx => HC.out.2.1.trans ((Below.trans (Below.drew (Below.refl _ _)) hx : Below wc.heap.size wc x).mono HC.out.2.1.size)⟩
   refine wp_region_later (by kernel_rfl) ?_
   refine wpL_val (i := 0) (v := ?va0) rfl (by kernel_rfl) (by kernel_rfl) (by kernel_rfl) (fun _ _ _ h => h) (by rfl) ?hya0 ?resta0
   case hya0 => (intro x hx; obtain ⟨d0, d1, d2, d3, d4, d5, d6⟩ := HLE.out x hx; go_simp; try with_reducible rfl)
   try simp only [Act.put, qA, qB, qC]
   refine wpL_val (i := 1) (v := ?va1) rfl (by kernel_rfl) (by kernel_rfl) (by kernel_rfl) (fun _ _ _ h => h) (by rfl) ?hya1 ?resta1
   case hya1 => (intro x hx; obtain ⟨d0, d1, d2, d3, d4, d5, d6⟩ := HLE.out x hx; go_simp; try with_reducible rfl)
   try simp only [Act.put, qA, qB, qC]
   refine wpL_val (i := 2) (v := ?va2) rfl (by kernel_rfl) (by kernel_rfl) (by kernel_rfl) (fun _ _ _ h => h) (by rfl) ?hya2 ?resta2
   case hya2 => (intro x hx; obtain ⟨d0, d1, d2, d3, d4, d5, d6⟩ := HLE.out x hx; go_simp; try with_reducible rfl)
   try simp only [Act.put, qA, qB, qC]
   refine wpL_val (i := 3) (v := ?va3) rfl (by kernel_rfl) (by kernel_rfl) (by kernel_rfl) (fun _ _ _ h => h) (by rfl) ?hya3 ?resta3
   case hya3 => (intro x hx; obtain ⟨d0, d1, d2, d3, d4, d5, d6⟩ := HLE.out x hx; go_simp; try with_reducible rfl)
   try simp only [Act.put, qA, qB, qC]
   refine wpL_val (i := 4) (v := ?va4) rfl (by kernel_rfl) (by kernel_rfl) (by kernel_rfl) (fun _ _ _ h => h) (by rfl) ?hya4 ?resta4
   case hya4 => (intro x hx; obtain ⟨d0, d1, d2, d3, d4, d5, d6⟩ := HLE.out x hx; go_simp; try with_reducible rfl)
   try simp only [Act.put, qA, qB, qC]
   refine wpL_val (i := 5) (v := ?va5) rfl (by kernel_rfl) (by kernel_rfl) (by kernel_rfl) (fun _ _ _ h => h) (by rfl) ?hya5 ?resta5
   case hya5 => (intro x hx; obtain ⟨d0, d1, d2, d3, d4, d5, d6⟩ := HLE.out x hx; go_simp; try with_reducible rfl)
   try simp only [Act.put, qA, qB, qC]
   refine wpL_call (i := 6) (v := .int .i64 gx) (f := 18) (args := #[.agg #[.slice ka km kc, .int .i64 kx], ev ⟨kind, path, dest, num, who⟩, .int .i64 g]) rfl (by kernel_rfl) (by kernel_rfl) (by kernel_rfl) (fun _ _ _ h => h) (by rfl) ?hya6 (fun x hx => HGA.out x (HBX.out x hx)) ?resta6
   case hya6 => (intro x hx; obtain ⟨d0, d1, d2, d3, d4, d5, d6⟩ := HLE.out x hx; go_simp; try with_reducible rfl)
   try simp only [Act.put, qA, qB, qC]
   refine wpL_val (i := 7) (v := ?va7) rfl (by kernel_rfl) (by kernel_rfl) (by kernel_rfl) (fun _ _ _ h => h) (by rfl) ?hya7 ?resta7
   case hya7 => (intro x hx; obtain ⟨d0, d1, d2, d3, d4, d5, d6⟩ := HLE.out x hx; go_simp; try with_reducible rfl)
   try simp only [Act.put, qA, qB, qC]
   refine wpL_done (by kernel_rfl) ?_ _
   intro W5 hy
   have hb5 := (Below.trans (Below.drew (Below.refl _ _)) hy : Below wc.heap.size wc W5)
   have HW5 := Shut.mk (And.intro (hRT.out.below hb5) (And.intro (HC.out.1.grow hb5) (HC.out.2.1.trans (hb5.mono HC.out.2.1.size))))
   obtain ⟨lo8, hi8, h81, h82, h83⟩ := HC.out.2.2.2
   have HT8 := Shut.mk (h81.below hb5)
   have HS8 : Shut (hi8 ≤ W5.heap.size) := ⟨Nat.le_trans h83 hb5.size⟩
   clear h81 h83 hb5 hy HLE HBX
   obtain ⟨z0, zf0⟩ := (HW5.out.1.mb.at 0 rfl).1.2 0 _ rfl
   obtain ⟨z1, zf1⟩ := (HW5.out.1.mb.at 0 rfl).1.2 1 _ rfl
   have n0 := (HW5.out.2.1.2 0 _ rfl).1
   have n1 := (HW5.out.2.1.2 1 _ rfl).1
   have hnw : ¬ (nb = w1.heap.size) := by have := HC.out.2.2.1; omega
   have hnw2 : ¬ (w1.heap.size = nb) := by have := HC.out.2.2.1; omega
   go_wp2_with fail
   go_roundw
   case rel =>
    refine ⟨k + 1, gx, ra, rm, rcp, RT, rfl, by go_num, by omega, HS1, ⟨?_⟩⟩
    rw [← HRX.out]
    refine ⟨(HW5.out.1.mb.put 0 rfl 0 _ (by simp)).put 0 rfl 1 _ (by simp), ⟨lo8, hi8, (HT8.out.box w1.heap.size 0 _ (by omega)).box w1.heap.size 1 _ (by omega), ?_, .inr (by omega), ?_⟩, HFT.out⟩
    ·have := HL9.out
     have h5 := (HA.out.mb.at 1 rfl).1.1
     omega
    ·have := HS8.out
     simp
     omega
   case measure => simp [intOf]; omega
  ·have k1 : ¬ ((k : Int) < (ln : Int)) := by omega
   have hall : es.take k = es := List.take_of_length_le (by have := HLN.out; omega)
   rw [hall, ← HR.out] at HTK
   obtain ⟨z0, zf0⟩ := (HA.out.mb.at 0 rfl).1.2 0 _ rfl
   obtain ⟨z1, zf1⟩ := (HA.out.mb.at 0 rfl).1.2 1 _ rfl
   obtain ⟨q0, qf0⟩ := (HA.out.mb.at 1 rfl).1.2 0 _ rfl
   obtain ⟨q1, qf1⟩ := (HA.out.mb.at 1 rfl).1.2 1 _ rfl
   obtain ⟨kx, hkx⟩ : ∃ q, q = Tk.next := ⟨_, rfl⟩
   rw [← hkx] at HA z1
   have HFIN : Shut (FinT w ((wr.setCell ⟨w.heap.size + 1, 0, none⟩ (.slice ka km kc)).setCell ⟨w.heap.size + 1, 1, none⟩ (.int .i64 kx)) (w.heap.size + 1) (.slice ka km kc) kx Tk) := ⟨by
    obtain ⟨lo9, hi9, h1, h2, h3, h4⟩ := HA.out.ans
    have M2 := (HA.out.mb.put 1 rfl 0 (.slice ka km kc) (by simp)).put 1 rfl 1 (.int .i64 kx) (by simp)
    refine ⟨((M2.at 1 rfl).1.2 0 _ rfl).1, ((M2.at 1 rfl).1.2 1 _ rfl).1, ?_, M2.bel⟩
    have hs : ((wr.setCell ⟨w.heap.size + 1, 0, none⟩ (.slice ka km kc)).setCell ⟨w.heap.size + 1, 1, none⟩ (.int .i64 kx)).heap.size = wr.heap.size := by simp
    rw [hs]
    exact ((h1.box (w.heap.size + 1) 0 _ (by omega)).box (w.heap.size + 1) 1 _ (by omega)).wide (by omega) h4⟩
   clear hall hkx
   go_wp2_with fail
   refine body_shade (fun W => FinT w W (w.heap.size + 1) (.slice ka km kc) kx Tk) HFIN.out ?_
   rintro W8 ⟨r0, r1, hans, hbel⟩
   exact bodyPost_ret (v := .tuple #[.agg #[.slice ka km kc, .int .i64 kx], .int .i64 g]) (by simp [results, Tryz.results29, go_sem, r0, r1]) rfl ⟨_, by rw [HTK.out], by rw [HTK.out]; exact hans, hbel⟩
end Go.Proofs.YtakhagkhngmpaaaGreat
/- TlA: . -/
namespace Go.Proofs.YtakhagkhngmpaaaGreat
set_option maxRecDepth 100000
open Go.RowKit
structure TL (w0 W : World) (L : List (Nat × List Value)) (S H : List (Value × TM × Nat × Nat)) : Prop where
 mb : MB w0 W L
 ans : ∀ s ∈ S, TAns W s.1 s.2.1 s.2.2.1 s.2.2.2 ∧ w0.heap.size ≤ s.2.2.1 ∧ s.2.2.2 ≤ W.heap.size
 far : ∀ s ∈ S, ∀ p ∈ L, p.1 < s.2.2.1 ∨ s.2.2.2 ≤ p.1
 apart : S.Pairwise fun s t => s.2.2.2 ≤ t.2.2.1 ∨ t.2.2.2 ≤ s.2.2.1
 held : ∀ s ∈ H, THeld W s.1 1 s.2.1 s.2.2.1 s.2.2.2 ∧ s.2.2.2 ≤ W.heap.size
 hfar : ∀ s ∈ H, ∀ p ∈ L, p.1 < s.2.2.1 ∨ s.2.2.2 ≤ p.1
 hap : ∀ s ∈ H, ∀ t ∈ S, s.2.2.2 ≤ t.2.2.1 ∨ t.2.2.2 ≤ s.2.2.1
section
variable {w0 W W' : World} {L : List (Nat × List Value)} {S H : List (Value × TM × Nat × Nat)}
theorem TL.below (h : TL w0 W L S H) (hb : Below W.heap.size W W') : TL w0 W' L S H :=
 ⟨h.mb.below hb, fun s hs => ⟨(h.ans s hs).1.below hb, (h.ans s hs).2.1, Nat.le_trans (h.ans s hs).2.2 hb.size⟩, h.far, h.apart, fun s hs => ⟨(h.held s hs).1.below hb, Nat.le_trans (h.held s hs).2 hb.size⟩, h.hfar, h.hap⟩
theorem TL.bel (h : TL w0 W L S H) : Below w0.heap.size w0 W := h.mb.bel
theorem TL.of (h : MB w0 W L) : TL w0 W L [] [] := ⟨h, fun _ h => (by cases h), fun _ h => (by cases h), .nil, fun _ h => (by cases h), fun _ h => (by cases h), fun _ h => (by cases h)⟩
theorem TL.new (h : TL w0 W L S H) (cs : Array Value) (t : TypeId) : TL w0 (W.alloc (.cells cs t)) ((W.heap.size, cs.toList) :: L) S H := by
 have hb : Below W.heap.size W (W.alloc (.cells cs t)) := (Below.refl _ _).alloc (Nat.le_refl _) _
 refine ⟨h.mb.new cs t, (h.below hb).ans, fun s hs p hp => ?_, h.apart, (h.below hb).held, fun s hs p hp => ?_, h.hap⟩
 ·rcases List.mem_cons.1 hp with rfl | hp
  ·exact .inr (h.ans s hs).2.2
  ·exact h.far s hs p hp
 ·rcases List.mem_cons.1 hp with rfl | hp
  ·exact .inr (h.held s hs).2
  ·exact h.hfar s hs p hp
theorem TL.call {v : Value} {T : TM} (h : TL w0 W L S H) (ha : TAns W' v T W.heap.size W'.heap.size) (hb : Below W.heap.size W W') : ∃ lo hi, TL w0 W' L ((v, T, lo, hi) :: S) H := by
 refine ⟨W.heap.size, W'.heap.size, h.mb.below hb, fun s hs => ?_, fun s hs p hp => ?_, List.pairwise_cons.2 ⟨fun t ht => .inr (h.ans t ht).2.2, h.apart⟩, (h.below hb).held, h.hfar, fun s hs t ht => ?_⟩
 ·rcases List.mem_cons.1 hs with rfl | hs
  ·exact ⟨ha, h.mb.bel.size, Nat.le_refl _⟩
  ·exact (h.below hb).ans s hs
 ·rcases List.mem_cons.1 hs with rfl | hs
  ·exact .inl (h.mb.box p hp).1.1
  ·exact h.far s hs p hp
 ·rcases List.mem_cons.1 ht with rfl | ht
  ·exact .inl (h.held s hs).2
  ·exact h.hap s hs t ht
theorem TL.at (h : TL w0 W L S H) (i : Nat) {v : Value} {T : TM} {lo hi : Nat} (hs : S[i]? = some (v, T, lo, hi)) : TAns W v T lo hi := (h.ans _ (List.mem_of_getElem? hs)).1
theorem TL.hat (h : TL w0 W L S H) (i : Nat) {v : Value} {T : TM} {lo hi : Nat} (hs : H[i]? = some (v, T, lo, hi)) : THeld W v 1 T lo hi := (h.held _ (List.mem_of_getElem? hs)).1
theorem TL.setBox (h : TL w0 W L S H) (i : Nat) {b : Nat} {X : List Value} (hi : L[i]? = some (b, X)) (j : Nat) (v : Value) (hj : j < X.length) : TL w0 (W.setCell ⟨b, j, none⟩ v) (L.set i (b, X.set j v)) S H := by
 have hm : (b, X) ∈ L := List.mem_of_getElem? hi
 have ht : Turned W (W.setCell ⟨b, j, none⟩ v) b (b + 1) := Turned.of_grown (gb_set' W b j v) (Nat.le_refl _) (by omega)
 refine ⟨h.mb.put i hi j v hj, fun s hs => ?_, fun s hs p hp => ?_, h.apart, fun s hs => ?_, fun s hs p hp => ?_, h.hap⟩
 ·obtain ⟨h1, h2, h3⟩ := h.ans s hs
  have hf := h.far s hs _ hm
  dsimp only at hf
  exact ⟨h1.turned ht (by omega), h2, by simpa using h3⟩
 ·rcases List.mem_or_eq_of_mem_set hp with q | q
  ·exact h.far s hs p q
  ·rw [q]
   have := h.far s hs _ hm
   exact this
 ·obtain ⟨h1, h3⟩ := h.held s hs
  have hf := h.hfar s hs _ hm
  dsimp only at hf
  exact ⟨h1.turned ht (by omega), by simpa using h3⟩
 ·rcases List.mem_or_eq_of_mem_set hp with q | q
  ·exact h.hfar s hs p q
  ·rw [q]
   have := h.hfar s hs _ hm
   exact this
theorem TL.mark {v : Value} {T : TM} {lo hi : Nat} (A B : List (Value × TM × Nat × Nat)) (h : TL w0 W L (A ++ (v, T, lo, hi) :: B) H) (hh : THeld W' v 1 T lo hi) (ht : Turned W W' lo hi) : TL w0 W' L (A ++ B) ((v, T, lo, hi) :: H) := by
 have hm : (v, T, lo, hi) ∈ A ++ (v, T, lo, hi) :: B := by simp
 have hlo := (h.ans _ hm).2
 dsimp only at hlo
 have hsub : (A ++ B).Sublist (A ++ (v, T, lo, hi) :: B) := (List.Sublist.refl A).append (List.sublist_cons_self _ _)
 have hap := List.pairwise_append.1 h.apart
 have hdis : ∀ s ∈ A ++ B, s.2.2.2 ≤ lo ∨ hi ≤ s.2.2.1 := fun s hs => by
  rcases List.mem_append.1 hs with q | q
  ·exact hap.2.2 s q _ (List.mem_cons_self ..)
  ·exact ((List.pairwise_cons.1 hap.2.1).1 s q).symm
 refine ⟨⟨fun p hp => ⟨(h.mb.box p hp).1.turned ht (h.far _ hm p hp), (h.mb.box p hp).2⟩, h.mb.dist, h.mb.bel.trans (ht.below hlo.1 h.mb.bel.size)⟩, fun s hs => ?_, fun s hs p hp => h.far s (hsub.subset hs) p hp, h.apart.sublist hsub, fun s hs => ?_, fun s hs p hp => ?_, fun s hs t hq => ?_⟩
 ·obtain ⟨h1, h2, h3⟩ := h.ans s (hsub.subset hs)
  exact ⟨h1.turned ht (hdis s hs), h2, Nat.le_trans h3 ht.size⟩
 ·rcases List.mem_cons.1 hs with rfl | hs
  ·exact ⟨hh, Nat.le_trans hlo.2 ht.size⟩
  ·exact ⟨(h.held s hs).1.turned ht (h.hap s hs _ hm), Nat.le_trans (h.held s hs).2 ht.size⟩
 ·rcases List.mem_cons.1 hs with rfl | hs
  ·exact h.far _ hm p hp
  ·exact h.hfar s hs p hp
 ·rcases List.mem_cons.1 hs with rfl | hs
  ·exact (hdis t hq).symm
  ·exact h.hap s hs t (hsub.subset hq)
end
theorem tans_is {W : World} {u : Value} {T : TM} {lo hi : Nat} (h : TAns W u T lo hi) : ∃ c m cc, u = .agg #[.slice c m cc, .int .i64 T.next] := by
 obtain ⟨c, cc, ts, rfl, _⟩ := h
 exact ⟨c, _, cc, rfl⟩
end Go.Proofs.YtakhagkhngmpaaaGreat
/- StR: . -/
namespace Go.Proofs.YtakhagkhngmpaaaGreat
set_option maxRecDepth 100000
open Go.RowKit
attribute [local go_sem ↓] Go.wp_at_zero Go.wp_at_succ
def recV (e : EM) : Value :=
 if e.kind = 1 then .iface 157 (.agg #[.string e.path, .string (parentB e.path).1, .string (parentB e.path).2.1])
 else if e.kind = 2 then .iface 159 (.agg #[.string e.path, .string (parentB e.path).1, .string (parentB e.path).2.1, .int .i64 e.who])
 else if e.kind = 3 then .iface 161 (.agg #[.string e.path, .string e.dest, .string (parentB e.dest).1, .string (parentB e.dest).2.1])
 else if e.kind = 4 then .iface 163 (.agg #[.string e.path])
 else if e.kind = 5 then .iface 165 (.agg #[.string e.path, .int .i64 e.num])
 else if e.kind = 6 then .iface 167 (.agg #[.string e.path, .int .i64 e.num])
 else if e.kind = 7 then .iface 169 (.agg #[.string e.path, .int .i64 e.num])
 else if e.kind = 8 then .iface 170 (.agg #[.string e.path])
 else if e.kind = 9 then .iface 172 (.agg #[.string e.path, .int .i64 e.who])
 else .iface 173 (.agg #[.string e.path])
theorem placeOf_any (p : ByteArray) (w : World) (hp : p.size ≤ 1048576) : Calls Tryz.prog 133 #[.string p] w fun e w' => e = .returned (.agg #[.string p, .string (parentB p).1, .string (parentB p).2.1]) ∧ Below w.heap.size w w' := by
 have HP := Shut.mk (fun W => implParentPath p W hp)
 unfold ParPost at HP
 generalize (parentB p).1 = up at HP ⊢
 generalize (parentB p).2.1 = nm at HP ⊢
 generalize (parentB p).2.2 = ok at HP
 go_enter Tryz.func133, Tryz.ntmps133
 go_upto_region 1 with fail
 obtain ⟨gb, hgb⟩ : ∃ gb, gb = w.heap.size := ⟨_, rfl⟩
 refine wp_shade (fun W => MB w W [(gb, [.string ⟨#[]⟩, .string ⟨#[]⟩, .string ⟨#[]⟩])]) (by rw [hgb]; exact (MB.nil w).new #[.string ⟨#[]⟩, .string ⟨#[]⟩, .string ⟨#[]⟩] 154) ?_
 intro W1 hW1
 have HM := Shut.mk hW1
 rw [← hgb]
 clear hW1 hgb hp
 go_upto_region 2 with (go_at_call 157; refine (HP.out _).mono ?_; rintro e w1 ⟨rfl, hb⟩; replace HM := Shut.mk (HM.out.below hb); clear hb)
 obtain ⟨f0, g0⟩ := (HM.out.at 0 rfl).1.2 0 _ rfl
 obtain ⟨f1, g1⟩ := (HM.out.at 0 rfl).1.2 1 _ rfl
 obtain ⟨f2, g2⟩ := (HM.out.at 0 rfl).1.2 2 _ rfl
 go_wp2_with fail
 refine body_shade (fun W => MB w W [(gb, [.string p, .string up, .string nm])]) (((HM.out.put 0 rfl 0 (.string p) (by simp)).put 0 rfl 1 (.string up) (by simp)).put 0 rfl 2 (.string nm) (by simp)) ?_
 intro W9 hM
 have z0 := ((hM.at 0 rfl).1.2 0 _ rfl).1
 have z1 := ((hM.at 0 rfl).1.2 1 _ rfl).1
 have z2 := ((hM.at 0 rfl).1.2 2 _ rfl).1
 exact bodyPost_ret (v := .agg #[.string p, .string up, .string nm]) (by simp [results, Tryz.results133, go_sem, z0, z1, z2]) rfl ⟨rfl, hM.bel⟩
theorem recordOf1 (path dest : ByteArray) (num who : Int) (w : World) (hp : path.size ≤ 1048576) : Calls Tryz.prog 103 #[.agg #[.int .i64 1, .string path, .string dest, .int .i64 num, .int .i64 who]] w fun r w' => r = .returned (.iface 157 (.agg #[.string path, .string (parentB path).1, .string (parentB path).2.1])) ∧ Below w.heap.size w w' := by
 have HP := Shut.mk (fun W => placeOf_any path W hp)
 generalize (parentB path).1 = up at HP ⊢
 generalize (parentB path).2.1 = nm at HP ⊢
 clear hp
 go_enter Tryz.func103, Tryz.ntmps103
 go_upto_region 1 with fail
 obtain ⟨eb, heb⟩ : ∃ eb, eb = w.heap.size := ⟨_, rfl⟩
 refine wp_shade (fun W => MB w W [(eb, [.int .i64 1, .string path, .string dest, .int .i64 num, .int .i64 who])]) (by rw [heb]; exact (MB.nil w).new #[.int .i64 1, .string path, .string dest, .int .i64 num, .int .i64 who] 28) ?_
 intro W1 hW1
 have HM := Shut.mk hW1
 have x1 := ((HM.out.at 0 rfl).1.2 1 _ rfl).1
 rw [← heb]
 clear hW1 heb
 go_upto_region 2 with fail
 obtain ⟨nb, hnb⟩ : ∃ nb, nb = W1.heap.size := ⟨_, rfl⟩
 refine wp_shade (fun W => MB w W [(nb, [.string path]), (eb, [.int .i64 1, .string path, .string dest, .int .i64 num, .int .i64 who])]) (by rw [hnb]; exact HM.out.new #[.string path] 152) ?_
 intro W2 hW2
 clear x1 HM
 have HM := Shut.mk hW2
 have x0 := ((HM.out.at 1 rfl).1.2 0 _ rfl).1
 have x1 := ((HM.out.at 1 rfl).1.2 1 _ rfl).1
 have x2 := ((HM.out.at 1 rfl).1.2 2 _ rfl).1
 have x3 := ((HM.out.at 1 rfl).1.2 3 _ rfl).1
 have x4 := ((HM.out.at 1 rfl).1.2 4 _ rfl).1
 have y0 := ((HM.out.at 0 rfl).1.2 0 _ rfl).1
 rw [← hnb]
 clear hW2 hnb
 go_wp2_with (go_at_call 133; refine (HP.out _).mono ?_; rintro e w1 ⟨rfl, hb⟩; replace HM := Shut.mk (HM.out.below hb); clear hb x0 x1 x2 x3 x4 y0)
 go_ret
 exact ⟨rfl, HM.out.bel⟩
theorem recordOf2 (path dest : ByteArray) (num who : Int) (w : World) (hp : path.size ≤ 1048576) : Calls Tryz.prog 103 #[.agg #[.int .i64 2, .string path, .string dest, .int .i64 num, .int .i64 who]] w fun r w' => r = .returned (.iface 159 (.agg #[.string path, .string (parentB path).1, .string (parentB path).2.1, .int .i64 who])) ∧ Below w.heap.size w w' := by
 have HP := Shut.mk (fun W => placeOf_any path W hp)
 generalize (parentB path).1 = up at HP ⊢
 generalize (parentB path).2.1 = nm at HP ⊢
 clear hp
 go_enter Tryz.func103, Tryz.ntmps103
 go_upto_region 1 with fail
 obtain ⟨eb, heb⟩ : ∃ eb, eb = w.heap.size := ⟨_, rfl⟩
 refine wp_shade (fun W => MB w W [(eb, [.int .i64 2, .string path, .string dest, .int .i64 num, .int .i64 who])]) (by rw [heb]; exact (MB.nil w).new #[.int .i64 2, .string path, .string dest, .int .i64 num, .int .i64 who] 28) ?_
 intro W1 hW1
 have HM := Shut.mk hW1
 have x1 := ((HM.out.at 0 rfl).1.2 1 _ rfl).1
 rw [← heb]
 clear hW1 heb
 go_upto_region 2 with fail
 obtain ⟨nb, hnb⟩ : ∃ nb, nb = W1.heap.size := ⟨_, rfl⟩
 refine wp_shade (fun W => MB w W [(nb, [.string path]), (eb, [.int .i64 2, .string path, .string dest, .int .i64 num, .int .i64 who])]) (by rw [hnb]; exact HM.out.new #[.string path] 152) ?_
 intro W2 hW2
 clear x1 HM
 have HM := Shut.mk hW2
 have x0 := ((HM.out.at 1 rfl).1.2 0 _ rfl).1
 have x1 := ((HM.out.at 1 rfl).1.2 1 _ rfl).1
 have x2 := ((HM.out.at 1 rfl).1.2 2 _ rfl).1
 have x3 := ((HM.out.at 1 rfl).1.2 3 _ rfl).1
 have x4 := ((HM.out.at 1 rfl).1.2 4 _ rfl).1
 have y0 := ((HM.out.at 0 rfl).1.2 0 _ rfl).1
 rw [← hnb]
 clear hW2 hnb
 go_upto_region 6 with fail
 have HLE : Shut (∀ x, Later W2.drew x → x.cell? ⟨eb, 1, none⟩ = some (.string path) ∧ x.cell? ⟨eb, 2, none⟩ = some (.string dest) ∧ x.cell? ⟨eb, 4, none⟩ = some (.int .i64 who) ∧ x.cell? ⟨nb, 0, none⟩ = some (.string path)) := ⟨fun x hx => by
  have M := HM.out.below (Below.trans (Below.drew (Below.refl _ _)) hx)
  exact ⟨((M.at 1 rfl).1.2 1 _ rfl).1, ((M.at 1 rfl).1.2 2 _ rfl).1, ((M.at 1 rfl).1.2 4 _ rfl).1, ((M.at 0 rfl).1.2 0 _ rfl).1⟩⟩
 refine wp_region_later (by kernel_rfl) ?_
 refine wpL_val (i := 0) (v := ?va0) rfl (by kernel_rfl) (by kernel_rfl) (by kernel_rfl) (fun _ _ _ h => h) (by rfl) ?hya0 ?resta0
 case hya0 => (intro x hx; obtain ⟨d0, d1, d2, d3⟩ := HLE.out x hx; go_simp; try with_reducible rfl)
 try simp only [Act.put, qA, qB, qC]
 refine wpL_val (i := 1) (v := ?va1) rfl (by kernel_rfl) (by kernel_rfl) (by kernel_rfl) (fun _ _ _ h => h) (by rfl) ?hya1 ?resta1
 case hya1 => (intro x hx; obtain ⟨d0, d1, d2, d3⟩ := HLE.out x hx; go_simp; try with_reducible rfl)
 try simp only [Act.put, qA, qB, qC]
 refine wpL_call (i := 2) (v := .agg #[.string path, .string up, .string nm]) (f := 133) (args := #[.string path]) rfl (by kernel_rfl) (by kernel_rfl) (by kernel_rfl) (fun _ _ _ h => h) (by rfl) ?hya2 (fun x _ => HP.out x) ?resta2
 case hya2 => (intro x hx; obtain ⟨d0, d1, d2, d3⟩ := HLE.out x hx; go_simp; try with_reducible rfl)
 try simp only [Act.put, qA, qB, qC]
 refine wpL_val (i := 3) (v := ?va3) rfl (by kernel_rfl) (by kernel_rfl) (by kernel_rfl) (fun _ _ _ h => h) (by rfl) ?hya3 ?resta3
 case hya3 => (intro x hx; obtain ⟨d0, d1, d2, d3⟩ := HLE.out x hx; go_simp; try with_reducible rfl)
 try simp only [Act.put, qA, qB, qC]
 refine wpL_val (i := 4) (v := ?va4) rfl (by kernel_rfl) (by kernel_rfl) (by kernel_rfl) (fun _ _ _ h => h) (by rfl) ?hya4 ?resta4
 case hya4 => (intro x hx; obtain ⟨d0, d1, d2, d3⟩ := HLE.out x hx; go_simp; try with_reducible rfl)
 try simp only [Act.put, qA, qB, qC]
 refine wpL_val (i := 5) (v := ?va5) rfl (by kernel_rfl) (by kernel_rfl) (by kernel_rfl) (fun _ _ _ h => h) (by rfl) ?hya5 ?resta5
 case hya5 => (intro x hx; obtain ⟨d0, d1, d2, d3⟩ := HLE.out x hx; go_simp; try with_reducible rfl)
 try simp only [Act.put, qA, qB, qC]
 refine wpL_val (i := 6) (v := ?va6) rfl (by kernel_rfl) (by kernel_rfl) (by kernel_rfl) (fun _ _ _ h => h) (by rfl) ?hya6 ?resta6
 case hya6 => (intro x hx; obtain ⟨d0, d1, d2, d3⟩ := HLE.out x hx; go_simp; try with_reducible rfl)
 try simp only [Act.put, qA, qB, qC]
 refine wpL_val (i := 7) (v := ?va7) rfl (by kernel_rfl) (by kernel_rfl) (by kernel_rfl) (fun _ _ _ h => h) (by rfl) ?hya7 ?resta7
 case hya7 => (intro x hx; obtain ⟨d0, d1, d2, d3⟩ := HLE.out x hx; go_simp; try with_reducible rfl)
 try simp only [Act.put, qA, qB, qC]
 refine wpL_done (by kernel_rfl) ?_ _
 intro w5 hy
 replace HM := Shut.mk (HM.out.below (Below.trans (Below.drew (Below.refl _ _)) hy))
 clear hy HLE x0 x1 x2 x3 x4 y0
 go_wp2_with fail
 go_ret
 exact ⟨rfl, HM.out.bel⟩
theorem recordOf3 (path dest : ByteArray) (num who : Int) (w : World) (hd : dest.size ≤ 1048576) : Calls Tryz.prog 103 #[.agg #[.int .i64 3, .string path, .string dest, .int .i64 num, .int .i64 who]] w fun r w' => r = .returned (.iface 161 (.agg #[.string path, .string dest, .string (parentB dest).1, .string (parentB dest).2.1])) ∧ Below w.heap.size w w' := by
 have HP := Shut.mk (fun W => placeOf_any dest W hd)
 generalize (parentB dest).1 = up at HP ⊢
 generalize (parentB dest).2.1 = nm at HP ⊢
 clear hd
 go_enter Tryz.func103, Tryz.ntmps103
 go_upto_region 1 with fail
 obtain ⟨eb, heb⟩ : ∃ eb, eb = w.heap.size := ⟨_, rfl⟩
 refine wp_shade (fun W => MB w W [(eb, [.int .i64 3, .string path, .string dest, .int .i64 num, .int .i64 who])]) (by rw [heb]; exact (MB.nil w).new #[.int .i64 3, .string path, .string dest, .int .i64 num, .int .i64 who] 28) ?_
 intro W1 hW1
 have HM := Shut.mk hW1
 have x1 := ((HM.out.at 0 rfl).1.2 1 _ rfl).1
 rw [← heb]
 clear hW1 heb
 go_upto_region 2 with fail
 obtain ⟨nb, hnb⟩ : ∃ nb, nb = W1.heap.size := ⟨_, rfl⟩
 refine wp_shade (fun W => MB w W [(nb, [.string path]), (eb, [.int .i64 3, .string path, .string dest, .int .i64 num, .int .i64 who])]) (by rw [hnb]; exact HM.out.new #[.string path] 152) ?_
 intro W2 hW2
 clear x1 HM
 have HM := Shut.mk hW2
 have x0 := ((HM.out.at 1 rfl).1.2 0 _ rfl).1
 have x1 := ((HM.out.at 1 rfl).1.2 1 _ rfl).1
 have x2 := ((HM.out.at 1 rfl).1.2 2 _ rfl).1
 have x3 := ((HM.out.at 1 rfl).1.2 3 _ rfl).1
 have x4 := ((HM.out.at 1 rfl).1.2 4 _ rfl).1
 have y0 := ((HM.out.at 0 rfl).1.2 0 _ rfl).1
 rw [← hnb]
 clear hW2 hnb
 go_upto_region 8 with fail
 have HLE : Shut (∀ x, Later W2.drew x → x.cell? ⟨eb, 1, none⟩ = some (.string path) ∧ x.cell? ⟨eb, 2, none⟩ = some (.string dest) ∧ x.cell? ⟨eb, 4, none⟩ = some (.int .i64 who) ∧ x.cell? ⟨nb, 0, none⟩ = some (.string path)) := ⟨fun x hx => by
  have M := HM.out.below (Below.trans (Below.drew (Below.refl _ _)) hx)
  exact ⟨((M.at 1 rfl).1.2 1 _ rfl).1, ((M.at 1 rfl).1.2 2 _ rfl).1, ((M.at 1 rfl).1.2 4 _ rfl).1, ((M.at 0 rfl).1.2 0 _ rfl).1⟩⟩
 refine wp_region_later (by kernel_rfl) ?_
 refine wpL_val (i := 0) (v := ?va0) rfl (by kernel_rfl) (by kernel_rfl) (by kernel_rfl) (fun _ _ _ h => h) (by rfl) ?hya0 ?resta0
 case hya0 => (intro x hx; obtain ⟨d0, d1, d2, d3⟩ := HLE.out x hx; go_simp; try with_reducible rfl)
 try simp only [Act.put, qA, qB, qC]
 refine wpL_val (i := 1) (v := ?va1) rfl (by kernel_rfl) (by kernel_rfl) (by kernel_rfl) (fun _ _ _ h => h) (by rfl) ?hya1 ?resta1
 case hya1 => (intro x hx; obtain ⟨d0, d1, d2, d3⟩ := HLE.out x hx; go_simp; try with_reducible rfl)
 try simp only [Act.put, qA, qB, qC]
 refine wpL_val (i := 2) (v := ?va2) rfl (by kernel_rfl) (by kernel_rfl) (by kernel_rfl) (fun _ _ _ h => h) (by rfl) ?hya2 ?resta2
 case hya2 => (intro x hx; obtain ⟨d0, d1, d2, d3⟩ := HLE.out x hx; go_simp; try with_reducible rfl)
 try simp only [Act.put, qA, qB, qC]
 refine wpL_call (i := 3) (v := .agg #[.string dest, .string up, .string nm]) (f := 133) (args := #[.string dest]) rfl (by kernel_rfl) (by kernel_rfl) (by kernel_rfl) (fun _ _ _ h => h) (by rfl) ?hya3 (fun x _ => HP.out x) ?resta3
 case hya3 => (intro x hx; obtain ⟨d0, d1, d2, d3⟩ := HLE.out x hx; go_simp; try with_reducible rfl)
 try simp only [Act.put, qA, qB, qC]
 refine wpL_val (i := 4) (v := ?va4) rfl (by kernel_rfl) (by kernel_rfl) (by kernel_rfl) (fun _ _ _ h => h) (by rfl) ?hya4 ?resta4
 case hya4 => (intro x hx; obtain ⟨d0, d1, d2, d3⟩ := HLE.out x hx; go_simp; try with_reducible rfl)
 try simp only [Act.put, qA, qB, qC]
 refine wpL_val (i := 5) (v := ?va5) rfl (by kernel_rfl) (by kernel_rfl) (by kernel_rfl) (fun _ _ _ h => h) (by rfl) ?hya5 ?resta5
 case hya5 => (intro x hx; obtain ⟨d0, d1, d2, d3⟩ := HLE.out x hx; go_simp; try with_reducible rfl)
 try simp only [Act.put, qA, qB, qC]
 refine wpL_val (i := 6) (v := ?va6) rfl (by kernel_rfl) (by kernel_rfl) (by kernel_rfl) (fun _ _ _ h => h) (by rfl) ?hya6 ?resta6
 case hya6 => (intro x hx; obtain ⟨d0, d1, d2, d3⟩ := HLE.out x hx; go_simp; try with_reducible rfl)
 try simp only [Act.put, qA, qB, qC]
 refine wpL_done (by kernel_rfl) ?_ _
 intro w5 hy
 replace HM := Shut.mk (HM.out.below (Below.trans (Below.drew (Below.refl _ _)) hy))
 clear hy HLE x0 x1 x2 x3 x4 y0
 go_wp2_with fail
 go_ret
 exact ⟨rfl, HM.out.bel⟩
theorem recordOf4 (path dest : ByteArray) (num who : Int) (w : World) : Calls Tryz.prog 103 #[.agg #[.int .i64 4, .string path, .string dest, .int .i64 num, .int .i64 who]] w fun r w' => r = .returned (.iface 163 (.agg #[.string path])) ∧ Below w.heap.size w w' := by
 go_enter Tryz.func103, Tryz.ntmps103
 go_upto_region 1 with fail
 obtain ⟨eb, heb⟩ : ∃ eb, eb = w.heap.size := ⟨_, rfl⟩
 refine wp_shade (fun W => MB w W [(eb, [.int .i64 4, .string path, .string dest, .int .i64 num, .int .i64 who])]) (by rw [heb]; exact (MB.nil w).new #[.int .i64 4, .string path, .string dest, .int .i64 num, .int .i64 who] 28) ?_
 intro W1 hW1
 have HM := Shut.mk hW1
 have x1 := ((HM.out.at 0 rfl).1.2 1 _ rfl).1
 rw [← heb]
 clear hW1 heb
 go_upto_region 2 with fail
 obtain ⟨nb, hnb⟩ : ∃ nb, nb = W1.heap.size := ⟨_, rfl⟩
 refine wp_shade (fun W => MB w W [(nb, [.string path]), (eb, [.int .i64 4, .string path, .string dest, .int .i64 num, .int .i64 who])]) (by rw [hnb]; exact HM.out.new #[.string path] 152) ?_
 intro W2 hW2
 clear x1 HM
 have HM := Shut.mk hW2
 have x0 := ((HM.out.at 1 rfl).1.2 0 _ rfl).1
 have x1 := ((HM.out.at 1 rfl).1.2 1 _ rfl).1
 have x2 := ((HM.out.at 1 rfl).1.2 2 _ rfl).1
 have x3 := ((HM.out.at 1 rfl).1.2 3 _ rfl).1
 have x4 := ((HM.out.at 1 rfl).1.2 4 _ rfl).1
 have y0 := ((HM.out.at 0 rfl).1.2 0 _ rfl).1
 rw [← hnb]
 clear hW2 hnb
 go_wp2_with fail
 go_ret
 exact ⟨rfl, HM.out.bel⟩
theorem recordOf5 (path dest : ByteArray) (num who : Int) (w : World) : Calls Tryz.prog 103 #[.agg #[.int .i64 5, .string path, .string dest, .int .i64 num, .int .i64 who]] w fun r w' => r = .returned (.iface 165 (.agg #[.string path, .int .i64 num])) ∧ Below w.heap.size w w' := by
 go_enter Tryz.func103, Tryz.ntmps103
 go_upto_region 1 with fail
 obtain ⟨eb, heb⟩ : ∃ eb, eb = w.heap.size := ⟨_, rfl⟩
 refine wp_shade (fun W => MB w W [(eb, [.int .i64 5, .string path, .string dest, .int .i64 num, .int .i64 who])]) (by rw [heb]; exact (MB.nil w).new #[.int .i64 5, .string path, .string dest, .int .i64 num, .int .i64 who] 28) ?_
 intro W1 hW1
 have HM := Shut.mk hW1
 have x1 := ((HM.out.at 0 rfl).1.2 1 _ rfl).1
 rw [← heb]
 clear hW1 heb
 go_upto_region 2 with fail
 obtain ⟨nb, hnb⟩ : ∃ nb, nb = W1.heap.size := ⟨_, rfl⟩
 refine wp_shade (fun W => MB w W [(nb, [.string path]), (eb, [.int .i64 5, .string path, .string dest, .int .i64 num, .int .i64 who])]) (by rw [hnb]; exact HM.out.new #[.string path] 152) ?_
 intro W2 hW2
 clear x1 HM
 have HM := Shut.mk hW2
 have x0 := ((HM.out.at 1 rfl).1.2 0 _ rfl).1
 have x1 := ((HM.out.at 1 rfl).1.2 1 _ rfl).1
 have x2 := ((HM.out.at 1 rfl).1.2 2 _ rfl).1
 have x3 := ((HM.out.at 1 rfl).1.2 3 _ rfl).1
 have x4 := ((HM.out.at 1 rfl).1.2 4 _ rfl).1
 have y0 := ((HM.out.at 0 rfl).1.2 0 _ rfl).1
 rw [← hnb]
 clear hW2 hnb
 go_wp2_with fail
 go_ret
 exact ⟨rfl, HM.out.bel⟩
theorem recordOf6 (path dest : ByteArray) (num who : Int) (w : World) : Calls Tryz.prog 103 #[.agg #[.int .i64 6, .string path, .string dest, .int .i64 num, .int .i64 who]] w fun r w' => r = .returned (.iface 167 (.agg #[.string path, .int .i64 num])) ∧ Below w.heap.size w w' := by
 go_enter Tryz.func103, Tryz.ntmps103
 go_upto_region 1 with fail
 obtain ⟨eb, heb⟩ : ∃ eb, eb = w.heap.size := ⟨_, rfl⟩
 refine wp_shade (fun W => MB w W [(eb, [.int .i64 6, .string path, .string dest, .int .i64 num, .int .i64 who])]) (by rw [heb]; exact (MB.nil w).new #[.int .i64 6, .string path, .string dest, .int .i64 num, .int .i64 who] 28) ?_
 intro W1 hW1
 have HM := Shut.mk hW1
 have x1 := ((HM.out.at 0 rfl).1.2 1 _ rfl).1
 rw [← heb]
 clear hW1 heb
 go_upto_region 2 with fail
 obtain ⟨nb, hnb⟩ : ∃ nb, nb = W1.heap.size := ⟨_, rfl⟩
 refine wp_shade (fun W => MB w W [(nb, [.string path]), (eb, [.int .i64 6, .string path, .string dest, .int .i64 num, .int .i64 who])]) (by rw [hnb]; exact HM.out.new #[.string path] 152) ?_
 intro W2 hW2
 clear x1 HM
 have HM := Shut.mk hW2
 have x0 := ((HM.out.at 1 rfl).1.2 0 _ rfl).1
 have x1 := ((HM.out.at 1 rfl).1.2 1 _ rfl).1
 have x2 := ((HM.out.at 1 rfl).1.2 2 _ rfl).1
 have x3 := ((HM.out.at 1 rfl).1.2 3 _ rfl).1
 have x4 := ((HM.out.at 1 rfl).1.2 4 _ rfl).1
 have y0 := ((HM.out.at 0 rfl).1.2 0 _ rfl).1
 rw [← hnb]
 clear hW2 hnb
 go_wp2_with fail
 go_ret
 exact ⟨rfl, HM.out.bel⟩
theorem recordOf7 (path dest : ByteArray) (num who : Int) (w : World) : Calls Tryz.prog 103 #[.agg #[.int .i64 7, .string path, .string dest, .int .i64 num, .int .i64 who]] w fun r w' => r = .returned (.iface 169 (.agg #[.string path, .int .i64 num])) ∧ Below w.heap.size w w' := by
 go_enter Tryz.func103, Tryz.ntmps103
 go_upto_region 1 with fail
 obtain ⟨eb, heb⟩ : ∃ eb, eb = w.heap.size := ⟨_, rfl⟩
 refine wp_shade (fun W => MB w W [(eb, [.int .i64 7, .string path, .string dest, .int .i64 num, .int .i64 who])]) (by rw [heb]; exact (MB.nil w).new #[.int .i64 7, .string path, .string dest, .int .i64 num, .int .i64 who] 28) ?_
 intro W1 hW1
 have HM := Shut.mk hW1
 have x1 := ((HM.out.at 0 rfl).1.2 1 _ rfl).1
 rw [← heb]
 clear hW1 heb
 go_upto_region 2 with fail
 obtain ⟨nb, hnb⟩ : ∃ nb, nb = W1.heap.size := ⟨_, rfl⟩
 refine wp_shade (fun W => MB w W [(nb, [.string path]), (eb, [.int .i64 7, .string path, .string dest, .int .i64 num, .int .i64 who])]) (by rw [hnb]; exact HM.out.new #[.string path] 152) ?_
 intro W2 hW2
 clear x1 HM
 have HM := Shut.mk hW2
 have x0 := ((HM.out.at 1 rfl).1.2 0 _ rfl).1
 have x1 := ((HM.out.at 1 rfl).1.2 1 _ rfl).1
 have x2 := ((HM.out.at 1 rfl).1.2 2 _ rfl).1
 have x3 := ((HM.out.at 1 rfl).1.2 3 _ rfl).1
 have x4 := ((HM.out.at 1 rfl).1.2 4 _ rfl).1
 have y0 := ((HM.out.at 0 rfl).1.2 0 _ rfl).1
 rw [← hnb]
 clear hW2 hnb
 go_wp2_with fail
 go_ret
 exact ⟨rfl, HM.out.bel⟩
theorem recordOf8 (path dest : ByteArray) (num who : Int) (w : World) : Calls Tryz.prog 103 #[.agg #[.int .i64 8, .string path, .string dest, .int .i64 num, .int .i64 who]] w fun r w' => r = .returned (.iface 170 (.agg #[.string path])) ∧ Below w.heap.size w w' := by
 go_enter Tryz.func103, Tryz.ntmps103
 go_upto_region 1 with fail
 obtain ⟨eb, heb⟩ : ∃ eb, eb = w.heap.size := ⟨_, rfl⟩
 refine wp_shade (fun W => MB w W [(eb, [.int .i64 8, .string path, .string dest, .int .i64 num, .int .i64 who])]) (by rw [heb]; exact (MB.nil w).new #[.int .i64 8, .string path, .string dest, .int .i64 num, .int .i64 who] 28) ?_
 intro W1 hW1
 have HM := Shut.mk hW1
 have x1 := ((HM.out.at 0 rfl).1.2 1 _ rfl).1
 rw [← heb]
 clear hW1 heb
 go_upto_region 2 with fail
 obtain ⟨nb, hnb⟩ : ∃ nb, nb = W1.heap.size := ⟨_, rfl⟩
 refine wp_shade (fun W => MB w W [(nb, [.string path]), (eb, [.int .i64 8, .string path, .string dest, .int .i64 num, .int .i64 who])]) (by rw [hnb]; exact HM.out.new #[.string path] 152) ?_
 intro W2 hW2
 clear x1 HM
 have HM := Shut.mk hW2
 have x0 := ((HM.out.at 1 rfl).1.2 0 _ rfl).1
 have x1 := ((HM.out.at 1 rfl).1.2 1 _ rfl).1
 have x2 := ((HM.out.at 1 rfl).1.2 2 _ rfl).1
 have x3 := ((HM.out.at 1 rfl).1.2 3 _ rfl).1
 have x4 := ((HM.out.at 1 rfl).1.2 4 _ rfl).1
 have y0 := ((HM.out.at 0 rfl).1.2 0 _ rfl).1
 rw [← hnb]
 clear hW2 hnb
 go_wp2_with fail
 go_ret
 exact ⟨rfl, HM.out.bel⟩
theorem recordOf9 (path dest : ByteArray) (num who : Int) (w : World) : Calls Tryz.prog 103 #[.agg #[.int .i64 9, .string path, .string dest, .int .i64 num, .int .i64 who]] w fun r w' => r = .returned (.iface 172 (.agg #[.string path, .int .i64 who])) ∧ Below w.heap.size w w' := by
 go_enter Tryz.func103, Tryz.ntmps103
 go_upto_region 1 with fail
 obtain ⟨eb, heb⟩ : ∃ eb, eb = w.heap.size := ⟨_, rfl⟩
 refine wp_shade (fun W => MB w W [(eb, [.int .i64 9, .string path, .string dest, .int .i64 num, .int .i64 who])]) (by rw [heb]; exact (MB.nil w).new #[.int .i64 9, .string path, .string dest, .int .i64 num, .int .i64 who] 28) ?_
 intro W1 hW1
 have HM := Shut.mk hW1
 have x1 := ((HM.out.at 0 rfl).1.2 1 _ rfl).1
 rw [← heb]
 clear hW1 heb
 go_upto_region 2 with fail
 obtain ⟨nb, hnb⟩ : ∃ nb, nb = W1.heap.size := ⟨_, rfl⟩
 refine wp_shade (fun W => MB w W [(nb, [.string path]), (eb, [.int .i64 9, .string path, .string dest, .int .i64 num, .int .i64 who])]) (by rw [hnb]; exact HM.out.new #[.string path] 152) ?_
 intro W2 hW2
 clear x1 HM
 have HM := Shut.mk hW2
 have x0 := ((HM.out.at 1 rfl).1.2 0 _ rfl).1
 have x1 := ((HM.out.at 1 rfl).1.2 1 _ rfl).1
 have x2 := ((HM.out.at 1 rfl).1.2 2 _ rfl).1
 have x3 := ((HM.out.at 1 rfl).1.2 3 _ rfl).1
 have x4 := ((HM.out.at 1 rfl).1.2 4 _ rfl).1
 have y0 := ((HM.out.at 0 rfl).1.2 0 _ rfl).1
 rw [← hnb]
 clear hW2 hnb
 go_wp2_with fail
 go_ret
 exact ⟨rfl, HM.out.bel⟩
theorem recordOf10 (path dest : ByteArray) (num who : Int) (w : World) : Calls Tryz.prog 103 #[.agg #[.int .i64 10, .string path, .string dest, .int .i64 num, .int .i64 who]] w fun r w' => r = .returned (.iface 173 (.agg #[.string path])) ∧ Below w.heap.size w w' := by
 go_enter Tryz.func103, Tryz.ntmps103
 go_upto_region 1 with fail
 obtain ⟨eb, heb⟩ : ∃ eb, eb = w.heap.size := ⟨_, rfl⟩
 refine wp_shade (fun W => MB w W [(eb, [.int .i64 10, .string path, .string dest, .int .i64 num, .int .i64 who])]) (by rw [heb]; exact (MB.nil w).new #[.int .i64 10, .string path, .string dest, .int .i64 num, .int .i64 who] 28) ?_
 intro W1 hW1
 have HM := Shut.mk hW1
 have x1 := ((HM.out.at 0 rfl).1.2 1 _ rfl).1
 rw [← heb]
 clear hW1 heb
 go_upto_region 2 with fail
 obtain ⟨nb, hnb⟩ : ∃ nb, nb = W1.heap.size := ⟨_, rfl⟩
 refine wp_shade (fun W => MB w W [(nb, [.string path]), (eb, [.int .i64 10, .string path, .string dest, .int .i64 num, .int .i64 who])]) (by rw [hnb]; exact HM.out.new #[.string path] 152) ?_
 intro W2 hW2
 clear x1 HM
 have HM := Shut.mk hW2
 have x0 := ((HM.out.at 1 rfl).1.2 0 _ rfl).1
 have x1 := ((HM.out.at 1 rfl).1.2 1 _ rfl).1
 have x2 := ((HM.out.at 1 rfl).1.2 2 _ rfl).1
 have x3 := ((HM.out.at 1 rfl).1.2 3 _ rfl).1
 have x4 := ((HM.out.at 1 rfl).1.2 4 _ rfl).1
 have y0 := ((HM.out.at 0 rfl).1.2 0 _ rfl).1
 rw [← hnb]
 clear hW2 hnb
 go_wp2_with fail
 go_ret
 exact ⟨rfl, HM.out.bel⟩
theorem recordOf_any (e : EM) (w : World) (hk : 1 ≤ e.kind ∧ e.kind ≤ 10) (he : EFit e) : Calls Tryz.prog 103 #[ev e] w fun r w' => r = .returned (recV e) ∧ Below w.heap.size w w' := by
 obtain ⟨kind, path, dest, num, who⟩ := e
 obtain ⟨h1, h2⟩ := he
 dsimp only at hk h1 h2
 have : kind = 1 ∨ kind = 2 ∨ kind = 3 ∨ kind = 4 ∨ kind = 5 ∨ kind = 6 ∨ kind = 7 ∨ kind = 8 ∨ kind = 9 ∨ kind = 10 := by omega
 rcases this with rfl | rfl | rfl | rfl | rfl | rfl | rfl | rfl | rfl | rfl
 ·exact recordOf1 path dest num who w h1
 ·exact recordOf2 path dest num who w h1
 ·exact recordOf3 path dest num who w h2
 ·exact recordOf4 path dest num who w
 ·exact recordOf5 path dest num who w
 ·exact recordOf6 path dest num who w
 ·exact recordOf7 path dest num who w
 ·exact recordOf8 path dest num who w
 ·exact recordOf9 path dest num who w
 ·exact recordOf10 path dest num who w
end Go.Proofs.YtakhagkhngmpaaaGreat
