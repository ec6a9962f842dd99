/- Texts of ours, laid one behind the other: LkM, CtA, LkO, LawTre, LawTrw, LkT, EdP, EdQ. -/
import Derived.Test.YtakhagkhngmpaaaGreatQq7
import Derived.Test.YtakhagkhngmpaaaGreatQqCpB
import Derived.Test.YtakhagkhngmpaaaGreatQq3
import Derived.Test.YtakhagkhngmpaaaGreatQq2
import Derived.Test.YtakhagkhngmpaaaGreatQq6
import Derived.Test.YtakhagkhngmpaaaGreatQq5
import Derived.Test.YtakhagkhngmpaaaGreatQq4
import Derived.Test.YtakhagkhngmpaaaGreatQq1
import Derived.Sort.OwnSorted
import Derived.Sort.KeysCollected
import Derived.Laws.IdiomRangeMap
/- LkM: . -/
namespace Go.Proofs.YtakhagkhngmpaaaGreat
set_option maxRecDepth 100000
open Go.RowKit Go.Maps BigFrame
attribute [local go_sem ↓] Go.wp_at_zero Go.wp_at_succ
theorem tree_quota {T : TM} (h : treeOk T = true) {i : Nat} (hi : i < T.nodes.length) : 0 ≤ T.nodes[i].quota ∧ T.nodes[i].quota ≤ 1000 ∧ (T.nodes[i].dir = false → T.nodes[i].quota = 0) := by
 have hn := treeOk_node h hi
 cases hd : T.nodes[i].dir with
 | true =>
  have := nodeOk_quota hn (by rw [getD_in hi]; exact hd)
  rw [getD_in hi] at this
  exact ⟨this.1, this.2, fun h => by cases h⟩
 | false =>
  unfold nodeOk at hn
  simp only [Bool.and_eq_true] at hn
  have h3 := hn.1.2
  rw [getD_in hi, if_neg (by rw [hd]; simp)] at h3
  unfold fileOk at h3
  simp only [Bool.and_eq_true, beq_iff_eq] at h3
  have : T.nodes[i].quota = 0 := h3.1.1.1.1.1.2
  exact ⟨by omega, by omega, fun _ => this⟩
set_option maxHeartbeats 2000000 in
theorem implRoomFor (w : World) (v : Value) (T : TM) (lo hi : Nat) (id m : Int) (h : TSee w v T lo hi) (hf : NFit T) (hI : NInt T.nodes) (hid : (Lit.int .i64 id).wf = true) : Calls Tryz.prog 161 #[v, .int .i64 id, .int .i64 m] w fun e w' => e = .returned (.bool (roomX T id m)) ∧ Below w.heap.size w w' := by
 have hsee := h
 obtain ⟨a, cap, rs, rfl, hr, hm⟩ := h
 obtain ⟨n, hn⟩ : ∃ n, n = rs.length := ⟨_, rfl⟩
 obtain ⟨nx, hnx⟩ : ∃ nx, nx = T.next := ⟨_, rfl⟩
 rw [← hn, ← hnx] at hsee ⊢
 have hat := fun W (hb : Below w.heap.size w W) => nodeAt_any W _ T lo hi id (hsee.below hb) hf hI hid
 have hub := fun (c : Int) W (hb : Below w.heap.size w W) => implUsedBelow W _ T lo hi c (hsee.below hb) hf hI
 have HAT := Shut.mk hat
 have HUB := Shut.mk hub
 obtain ⟨R, hR⟩ : ∃ R, R = roomX T id m := ⟨_, rfl⟩
 rw [← hR]
 have HR := Shut.mk hR
 clear hat hub hr hm hsee hn hnx hR hf hI hid
 go_enter Tryz.func161, Tryz.ntmps161
 go_wp2_with fail
 refine (HAT.out _ ((Below.refl _ _).alloc (Nat.le_refl _) _)).mono ?_
 rintro e w1 ⟨o, rfl, hb1, hcase⟩
 have HB := Shut.mk ((BX.new w a n cap nx 26).below hb1)
 clear hb1 HAT
 rcases hcase with ⟨ht, rfl⟩ | ⟨ht, G, rfl, hnd⟩
 ·have HE : Shut (R = false) := ⟨by rw [HR.out]; unfold roomX; rw [if_neg (by rw [ht]; decide)]⟩
  rw [ptr_none]
  clear ht
  go_wp2_with fail
  go_ret
  exact ⟨by rw [HE.out]; rfl, HB.out.bel⟩
 ·have HT := Shut.mk (tree_tall ht)
  have HQ := Shut.mk (fun i hi => tree_quota ht (i := i) hi)
  have HU := Shut.mk (fun c => usedX_le T c)
  have HND := Shut.mk hnd
  have HE : Shut (R = roomF T m 15 0 id) := ⟨by rw [HR.out]; unfold roomX; rw [if_pos ht]⟩
  clear hnd ht HR
  cases hf : fid T.nodes id with
  | none =>
   have HF : Shut (R = false) := ⟨by rw [HE.out]; exact roomF_none hf⟩
   rw [Option.map_none, ptr_none]
   clear hf
   go_wp2_with fail
   go_ret
   exact ⟨by rw [HF.out]; rfl, HB.out.bel⟩
  | some i0 =>
   obtain ⟨hi0, ei0⟩ := fid_lt hf
   obtain ⟨d0, hd0, hu0⟩ := HT.out.2 i0 hi0
   have HU0 := Shut.mk hu0
   rw [Option.map_some, ptr_some]
   have HI0 : Shut (roomF T m (d0 + 2 + (13 - d0)) 0 (T.nodes.getD i0 default).id = R) := ⟨by rw [HE.out, getD_in hi0, ei0, show d0 + 2 + (13 - d0) = 15 by omega]⟩
   clear hf ei0 hu0 HE
   go_wp2_with fail
   go_loopg [7] (d0 + 1) (fun q p wr => Shut (BX w wr a n cap nx ∧ Below w1.heap.size w1 wr) ∧ (Shut (p = .pointer none ∧ R = true) ∨ Shut (∃ (j d r st : Nat), p = .pointer (some ⟨G j, 0, none⟩) ∧ d + 1 ≤ q ∧ j < T.nodes.length ∧ Ups T.nodes j d ∧ roomF T m (d + 2 + r) st (T.nodes.getD j default).id = R)))
   case atStart => exact ⟨⟨HB.out, Below.refl _ _⟩, .inr ⟨i0, d0, 13 - d0, 0, rfl, Nat.le_refl _, hi0, HU0.out, HI0.out⟩⟩
   case round =>
    clear HI0 HB
    obtain ⟨HB, hrel⟩ := hrel
    rcases hrel with ⟨rfl, hR0⟩ | ⟨j, d, r, st, rfl, hdm, hj, hu, h1⟩
    ·have HE0 := Shut.mk hR0
     clear hR0
     go_wp2_with fail
     go_ret
     exact ⟨by rw [HE0.out]; rfl, HB.out.1.bel⟩
    ·have hnw := HND.out.below HB.out.2
     have c0 := (hnw.cells j hj).1
     have c5 := (hnw.cells j hj).2.2.2.2.2.1
     have lj := (hnw.cells j hj).2.2.2.2.2.2
     have hf := HT.out.1.fid hj
     have c9 := hnw.above j hj hf
     have hge := getD_in hj
     have hq := HQ.out j hj
     obtain ⟨x, hx⟩ : ∃ x, x = T.nodes[j] := ⟨_, rfl⟩
     rw [← hx] at c0 c5 c9 hge hf hq
     rw [hge, show d + 2 + r = (d + 1 + r) + 1 by omega, roomF_some (i := j) hf, hge] at h1
     have hus := HU.out x.id
     have x0 := (HB.out.1.box.2 0 _ rfl).1
     have x1 := (HB.out.1.box.2 1 _ rfl).1
     have lx := HB.out.1.box.1
     have hcu := fun X => calls_grow (w := wr) (fun W' (hb : Below wr.heap.size wr W') => HUB.out x.id W' (HB.out.1.bel.trans (hb.mono HB.out.1.bel.size))) X
     have HCU := Shut.mk hcu
     have HH := Shut.mk (And.intro h1 (And.intro hu (And.intro hge hq)))
     obtain ⟨o, ho⟩ : ∃ o, o = fid T.nodes x.parent := ⟨_, rfl⟩
     rw [← ho] at c9
     have HO := Shut.mk ho
     obtain ⟨us, hus'⟩ : ∃ us, us = usedX T x.id := ⟨_, rfl⟩
     rw [← hus'] at hus HCU HH
     clear ho h1 hu hge hf hx hcu hnw hus'
     have g0 : ∀ X : Grow wr, X.val.cell? ⟨w.heap.size, 0, none⟩ = some (.slice a n cap) := fun X => X.cell x0 lx
     have g1 : ∀ X : Grow wr, X.val.cell? ⟨w.heap.size, 1, none⟩ = some (.int .i64 nx) := fun X => X.cell x1 lx
     have g2 : ∀ X : Grow wr, X.val.cell? ⟨G j, 0, none⟩ = some (.int .i64 x.id) := fun X => X.cell c0 lj
     by_cases hq0 : x.quota = 0
     ·have HNX : Shut (roomF T m (d + 1 + r) (st + 1) x.parent = R) := ⟨by have := HH.out.1; rw [if_neg (fun hc => by omega)] at this; exact this⟩
      have hqb : (x.quota != 0) = false := by simp [hq0]
      clear hq hq0
      go_upto_region 7 with fail
      refine wp_region_grow (by kernel_rfl) (by kernel_rfl) ?_
      repeat (go_big_quiet_step (first | (go_at_call 22; exact HCU.out _)))
      refine wpQuiet_nil ?_
      rintro _ ⟨X, rfl⟩
      have u9 := X.cell c9 lj
      clear g0 g1 g2
      cases o with
      | none =>
       simp only [Option.map_none, ptr_none] at u9
       go_wp2_with fail
       go_roundg (gk - 1)
       case measure => omega
       case rel =>
        refine ⟨⟨HB.out.1.below X.bel, HB.out.2.trans (X.bel.mono HB.out.2.size)⟩, .inl ⟨⟨rfl, ?_⟩⟩⟩
        rw [← HNX.out, show d + 1 + r = (d + r) + 1 by omega, roomF_none HO.out.symm]
        simp
      | some k =>
       simp only [Option.map_some, ptr_some] at u9
       go_wp2_with fail
       go_roundg (gk - 1)
       case measure => omega
       case rel =>
        refine ⟨⟨HB.out.1.below X.bel, HB.out.2.trans (X.bel.mono HB.out.2.size)⟩, .inr ⟨?_⟩⟩
        obtain ⟨h1, hu, hge, hq⟩ := HH.out
        cases hu with
        | root =>
         have e0 := HT.out.1.2.2.2
         have h4 := HO.out
         rw [hge] at e0
         rw [e0, HT.out.1.zero] at h4
         cases h4
        | @step _ k' d' _ _ hk hu' =>
         rw [hge, ← HO.out] at hk
         cases hk
         obtain ⟨hkl, ek⟩ := fid_lt HO.out.symm
         refine ⟨k, d', r, st + 1, rfl, by omega, hkl, hu', ?_⟩
         rw [getD_in hkl, ek, ← HNX.out, show d' + 2 + r = d' + 1 + 1 + r by omega]
     ·have hqb : (x.quota != 0) = true := by simp [hq0]
      have q1 : 0 ≤ x.quota := hq.1
      have q2 : x.quota ≤ 1000 := hq.2.1
      have hdir : x.dir = true := by
       cases hd : x.dir with
       | true => rfl
       | false => exact absurd (hq.2.2 hd) hq0
      obtain ⟨u1, u2⟩ := hus
      by_cases hlt : x.quota - us < m
      ·have HF : Shut (R = false) := ⟨by have := HH.out.1; rw [if_pos ⟨hdir, by omega, hlt⟩] at this; exact this.symm⟩
       clear hdir hq hq0
       go_upto_region 7 with fail
       refine wp_region_grow (by kernel_rfl) (by kernel_rfl) ?_
       repeat (go_big_quiet_step (first | (go_at_call 22; exact HCU.out _)))
       refine wpQuiet_nil ?_
       rintro _ ⟨X, rfl⟩
       go_wp2_with fail
       go_ret
       exact ⟨by rw [HF.out]; rfl, (HB.out.1.below X.bel).bel⟩
      ·have HNX : Shut (roomF T m (d + 1 + r) (st + 1) x.parent = R) := ⟨by have := HH.out.1; rw [if_neg (fun hc => hlt hc.2.2)] at this; exact this⟩
       clear hdir hq hq0
       go_upto_region 7 with fail
       refine wp_region_grow (by kernel_rfl) (by kernel_rfl) ?_
       repeat (go_big_quiet_step (first | (go_at_call 22; exact HCU.out _)))
       refine wpQuiet_nil ?_
       rintro _ ⟨X, rfl⟩
       have u9 := X.cell c9 lj
       clear g0 g1 g2
       cases o with
       | none =>
        simp only [Option.map_none, ptr_none] at u9
        go_wp2_with fail
        go_roundg (gk - 1)
        case measure => omega
        case rel =>
         refine ⟨⟨HB.out.1.below X.bel, HB.out.2.trans (X.bel.mono HB.out.2.size)⟩, .inl ⟨⟨rfl, ?_⟩⟩⟩
         rw [← HNX.out, show d + 1 + r = (d + r) + 1 by omega, roomF_none HO.out.symm]
         simp
       | some k =>
        simp only [Option.map_some, ptr_some] at u9
        go_wp2_with fail
        go_roundg (gk - 1)
        case measure => omega
        case rel =>
         refine ⟨⟨HB.out.1.below X.bel, HB.out.2.trans (X.bel.mono HB.out.2.size)⟩, .inr ⟨?_⟩⟩
         obtain ⟨h1, hu, hge, hq⟩ := HH.out
         cases hu with
         | root =>
          have e0 := HT.out.1.2.2.2
          have h4 := HO.out
          rw [hge] at e0
          rw [e0, HT.out.1.zero] at h4
          cases h4
         | @step _ k' d' _ _ hk hu' =>
          rw [hge, ← HO.out] at hk
          cases hk
          obtain ⟨hkl, ek⟩ := fid_lt HO.out.symm
          refine ⟨k, d', r, st + 1, rfl, by omega, hkl, hu', ?_⟩
          rw [getD_in hkl, ek, ← HNX.out, show d' + 2 + r = d' + 1 + 1 + r by omega]
end Go.Proofs.YtakhagkhngmpaaaGreat
/- CtA: . -/
namespace Go.Proofs.YtakhagkhngmpaaaGreat
set_option maxRecDepth 100000
open Go.RowKit
attribute [local go_sem ↓] Go.wp_at_zero Go.wp_at_succ
theorem infoInodeG9 : (Tryz.prog.info? 47).map (fun i => (i.zero, i.size, i.bytes)) = some (some (.agg #[.int .i64 0, .int .i64 0, .string ⟨#[]⟩, .bool false, .int .i64 0, .int .i64 0, .int .i64 0, .slice none 0 0, .int .i64 0]), 9, 96) := by kernel_rfl
theorem eqNonePiece (n c : Nat) (W : World) : Sem.run Tryz.prog (binOp BinOp.eql 45 (.slice none n c) (.slice none 0 0)) W = .ok (.bool true) W := by kernel_rfl
theorem eqSomePiece (q : Addr) (n c : Nat) (W : World) : Sem.run Tryz.prog (binOp BinOp.eql 45 (.slice (some q) n c) (.slice none 0 0)) W = .ok (.bool false) W := by kernel_rfl
theorem eqNoneInode (n c : Nat) (W : World) : Sem.run Tryz.prog (binOp BinOp.eql 24 (.slice none n c) (.slice none 0 0)) W = .ok (.bool true) W := by kernel_rfl
theorem eqSomeInode (q : Addr) (n c : Nat) (W : World) : Sem.run Tryz.prog (binOp BinOp.eql 24 (.slice (some q) n c) (.slice none 0 0)) W = .ok (.bool false) W := by kernel_rfl
attribute [local go_sem] eqNonePiece eqSomePiece eqNoneInode eqSomeInode
def clonePPost (L : List Value) (n : Nat) (w : World) (e : Ending) (w' : World) : Prop := ∃ (a : Option Addr) (c : Nat), e = .returned (.slice a n c) ∧ w'.ownsRow w.heap.size 99 2 (.slice a n c) n L ∧ Below w.heap.size w w'
set_option maxHeartbeats 1000000 in
theorem cloneP_any {w : World} {a : Option Addr} {n cap : Nat} {ps : List PM} (h : CRow w a (pcs ps)) (hn : n = ps.length) (hl : n ≤ 1048576) : Calls Tryz.prog 110 #[.slice a n cap] w fun e w' => clonePPost (pcs ps) n w e w' := by
 have hv : ∀ u ∈ pcs ps, u.oneCell' = true := by
  intro u hu
  obtain ⟨y, _, hy⟩ := List.mem_flatMap.1 hu
  simp [pcells] at hy; rcases hy with rfl | rfl <;> rfl
 have hL : (pcs ps).length = n * 2 := by rw [pcs_len, hn]
 have HV := Shut.mk hv
 generalize pcs ps = L at h HV hL ⊢
 clear hn hv
 obtain ⟨j0, hjn, hy0, hy1, hy2⟩ := info_parts infoPieceG
 have HL := Shut.mk hL
 clear hL
 rcases Nat.eq_zero_or_pos n with h0 | hp
 ·have hL0 : L = [] := List.eq_nil_of_length_eq_zero (by rw [HL.out, h0, Nat.zero_mul])
  subst h0
  subst hL0
  clear h
  cases a with
  | none =>
   go_enter Tryz.func110, Tryz.ntmps110
   go_wp2_with fail
   go_ret
   exact ⟨none, 0, rfl, World.ownsRow_nil w w.heap.size 99 2, Below.refl _ _⟩
  | some q =>
   have hap : ∀ (W : World) (g : Addr), ∀ ty, (Builtin.append_ #[45, 45] ty #[.slice (some g) 0 0, .slice (some q) 0 cap]).run Tryz.prog W = .ok (.slice (some g) 0 0) W := fun W g ty =>
    run_append_nothing W _ _ _ _ j0 Tryz.underlying45 hjn (some g) 0 0 (Nat.le_refl _) _ (Src.ofSlice W Tryz.underlying45 q 0 cap [] (by simp) (by simp) (by simp))
   have HAP := Shut.mk hap
   clear hap
   go_enter Tryz.func110, Tryz.ntmps110
   go_wp2_with (at_builtin; refine wpList_append_nothing _ rfl _ _ 45 rfl _ _ rfl rfl (HAP.out _ _) ?_)
   go_ret
   exact ⟨some ⟨w.heap.size, 0, none⟩, 0, rfl, World.ownsRow_made (e := 99) (size := 2) (base := w.heap.size) w #[] 0 (Nat.le_refl _) (by decide) rfl, (Below.refl _ _).alloc (Nat.le_refl _) _⟩
 ·have hLp : 0 < L.length := by rw [HL.out]; omega
  obtain ⟨pb, poff, rfl, lpb, hpc⟩ := h hLp
  have HPC := Shut.mk hpc
  clear hpc h hLp
  go_enter Tryz.func110, Tryz.ntmps110
  have hmade := World.ownsRow_made (e := 99) (size := 2) (base := w.heap.size) w #[] 0 (Nat.le_refl _) (by decide) rfl
  go_wp2_with (at_builtin; refine wpList_append_own _ rfl _ _ 45 rfl w.heap.size 99 j0 _ 2 16 Tryz.underlying45 hjn hy0 hy1 hy2 rfl (by decide) _ 0 [] rfl hmade ⟨pb, poff, none⟩ n cap L rfl ?c0 ?c1 ?c2 ?c3 ?c4 ?c5 ?_)
  case c0 => first | exact HL.out | (rw [HL.out]; omega)
  case c1 =>
   intro i u hu
   have e : (⟨pb, poff, none⟩ : Addr).add i = ⟨pb, poff + i, none⟩ := by cases i <;> simp [Addr.add]
   rw [e, ← HPC.out i u hu]
   exact ((Below.refl w.heap.size w).alloc (Nat.le_refl _) _).cell (p := ⟨pb, poff + i, none⟩) lpb
  case c2 => exact HV.out
  case c3 => unfold maxLen; omega
  case c4 => omega
  case c5 => simp
  intro v' w10 ho10 hgrow _
  obtain ⟨a9, c9, rfl⟩ := own_slice ho10
  have HO := Shut.mk ho10
  have HB : Shut (Below w.heap.size w w10) := ⟨((Below.refl w.heap.size w).alloc (Nat.le_refl _) _).grown hgrow (by simp) (fun j hj => by cases hj; exact Nat.le_refl _)⟩
  clear ho10 hgrow hmade
  go_wp2_with fail
  go_ret
  exact ⟨a9, c9, rfl, HO.out, HB.out⟩
def cloneNPost (L : List Value) (n : Nat) (w : World) (e : Ending) (w' : World) : Prop := ∃ (a : Option Addr) (c : Nat), e = .returned (.slice a n c) ∧ w'.ownsRow w.heap.size 47 9 (.slice a n c) n L ∧ Below w.heap.size w w'
set_option maxHeartbeats 1000000 in
theorem cloneN_any {w : World} {a : Option Addr} {n cap : Nat} {rs : List NR} (h : CRow w a (ncs rs)) (hn : n = rs.length) (hl : n ≤ 1048576) : Calls Tryz.prog 108 #[.slice a n cap] w fun e w' => cloneNPost (ncs rs) n w e w' := by
 have hv : ∀ u ∈ ncs rs, u.oneCell' = true := by
  intro u hu
  obtain ⟨y, _, hy⟩ := List.mem_flatMap.1 hu
  simp [ncells] at hy; rcases hy with rfl | rfl | rfl | rfl | rfl | rfl | rfl | rfl | rfl <;> rfl
 have hL : (ncs rs).length = n * 9 := by rw [ncs_len, hn]
 have HV := Shut.mk hv
 generalize ncs rs = L at h HV hL ⊢
 clear hn hv
 obtain ⟨j0, hjn, hy0, hy1, hy2⟩ := info_parts infoInodeG9
 have HL := Shut.mk hL
 clear hL
 rcases Nat.eq_zero_or_pos n with h0 | hp
 ·have hL0 : L = [] := List.eq_nil_of_length_eq_zero (by rw [HL.out, h0, Nat.zero_mul])
  subst h0
  subst hL0
  clear h
  cases a with
  | none =>
   go_enter Tryz.func108, Tryz.ntmps108
   go_wp2_with fail
   go_ret
   exact ⟨none, 0, rfl, World.ownsRow_nil w w.heap.size 47 9, Below.refl _ _⟩
  | some q =>
   have hap : ∀ (W : World) (g : Addr), ∀ ty, (Builtin.append_ #[24, 24] ty #[.slice (some g) 0 0, .slice (some q) 0 cap]).run Tryz.prog W = .ok (.slice (some g) 0 0) W := fun W g ty =>
    run_append_nothing W _ _ _ _ j0 Tryz.underlying24 hjn (some g) 0 0 (Nat.le_refl _) _ (Src.ofSlice W Tryz.underlying24 q 0 cap [] (by simp) (by simp) (by simp))
   have HAP := Shut.mk hap
   clear hap
   go_enter Tryz.func108, Tryz.ntmps108
   go_wp2_with (at_builtin; refine wpList_append_nothing _ rfl _ _ 24 rfl _ _ rfl rfl (HAP.out _ _) ?_)
   go_ret
   exact ⟨some ⟨w.heap.size, 0, none⟩, 0, rfl, World.ownsRow_made (e := 47) (size := 9) (base := w.heap.size) w #[] 0 (Nat.le_refl _) (by decide) rfl, (Below.refl _ _).alloc (Nat.le_refl _) _⟩
 ·have hLp : 0 < L.length := by rw [HL.out]; omega
  obtain ⟨pb, poff, rfl, lpb, hpc⟩ := h hLp
  have HPC := Shut.mk hpc
  clear hpc h hLp
  go_enter Tryz.func108, Tryz.ntmps108
  have hmade := World.ownsRow_made (e := 47) (size := 9) (base := w.heap.size) w #[] 0 (Nat.le_refl _) (by decide) rfl
  go_wp2_with (at_builtin; refine wpList_append_own _ rfl _ _ 24 rfl w.heap.size 47 j0 _ 9 96 Tryz.underlying24 hjn hy0 hy1 hy2 rfl (by decide) _ 0 [] rfl hmade ⟨pb, poff, none⟩ n cap L rfl ?c0 ?c1 ?c2 ?c3 ?c4 ?c5 ?_)
  case c0 => first | exact HL.out | (rw [HL.out]; omega)
  case c1 =>
   intro i u hu
   have e : (⟨pb, poff, none⟩ : Addr).add i = ⟨pb, poff + i, none⟩ := by cases i <;> simp [Addr.add]
   rw [e, ← HPC.out i u hu]
   exact ((Below.refl w.heap.size w).alloc (Nat.le_refl _) _).cell (p := ⟨pb, poff + i, none⟩) lpb
  case c2 => exact HV.out
  case c3 => unfold maxLen; omega
  case c4 => omega
  case c5 => simp
  intro v' w10 ho10 hgrow _
  obtain ⟨a9, c9, rfl⟩ := own_slice ho10
  have HO := Shut.mk ho10
  have HB : Shut (Below w.heap.size w w10) := ⟨((Below.refl w.heap.size w).alloc (Nat.le_refl _) _).grown hgrow (by simp) (fun j hj => by cases hj; exact Nat.le_refl _)⟩
  clear ho10 hgrow hmade
  go_wp2_with fail
  go_ret
  exact ⟨a9, c9, rfl, HO.out, HB.out⟩
end Go.Proofs.YtakhagkhngmpaaaGreat
/- LkO: . -/
namespace Go.Proofs.YtakhagkhngmpaaaGreat
set_option maxRecDepth 100000
open Go.RowKit Go.Maps Go.Sort BigFrame
attribute [local go_sem ↓] Go.wp_at_zero Go.wp_at_succ
end Go.Proofs.YtakhagkhngmpaaaGreat
/- LawTre: . -/
namespace Go.Proofs.YtakhagkhngmpaaaGreat
set_option maxRecDepth 100000
open Go.RowKit
attribute [local go_sem ↓] Go.wp_at_zero Go.wp_at_succ
attribute [local irreducible] nodeOk treeOk atI findX pathX schemaAtX usedX roomX
structure BY (w W : World) (a : Option Addr) (n cap : Nat) (nx : Int) (g : Nat) (c : Option Addr) (m cc : Nat) (T : TM) : Prop where
 bx : BX w W a n cap nx
 kp : WCells W g [.slice c m cc, .int .i64 nx]
 cp : TSee W (.agg #[.slice c m cc, .int .i64 nx]) T w.heap.size g
theorem BY.below {w W W' : World} {a c : Option Addr} {n cap g m cc : Nat} {nx : Int} {T : TM} (h : BY w W a n cap nx g c m cc T) (hb : Below W.heap.size W W') : BY w W' a n cap nx g c m cc T := ⟨h.bx.below hb, h.kp.grow hb, h.cp.below hb⟩
end Go.Proofs.YtakhagkhngmpaaaGreat
/- LawTrw: . -/
namespace Go.Proofs.YtakhagkhngmpaaaGreat
set_option maxRecDepth 100000
open Go.RowKit
attribute [local go_sem ↓] Go.wp_at_zero Go.wp_at_succ
attribute [local irreducible] nodeOk treeOk atI belowX
end Go.Proofs.YtakhagkhngmpaaaGreat
/- LkT: . -/
namespace Go.Proofs.YtakhagkhngmpaaaGreat
set_option maxRecDepth 100000
open Go.RowKit Go.Maps Go.Sort BigFrame
attribute [local go_sem ↓] Go.wp_at_zero Go.wp_at_succ
theorem implClone (s : ByteArray) (w : World) (hs : s.size ≤ 281474976710656) : Calls Tryz.prog 109 #[.string s] w fun e w' => e = .returned (.string s) ∧ Below w.heap.size w w' := by
 have HC := Shut.mk (fun W => Tryz.stringslite_Clone s W hs)
 go_enter Tryz.func109, Tryz.ntmps109
 go_wp2_with fail
 refine (HC.out _).mono ?_
 rintro e w1 ⟨rfl, hb⟩
 go_wp2_with fail
 go_ret
 exact ⟨rfl, hb⟩
end Go.Proofs.YtakhagkhngmpaaaGreat
/- EdP: . -/
namespace Go.Proofs.YtakhagkhngmpaaaGreat
set_option maxRecDepth 100000
open Go.RowKit BigFrame
attribute [local go_sem ↓] Go.wp_at_zero Go.wp_at_succ
theorem implHasName (p : ByteArray) (w : World) (hs : p.size ≤ 1048576) : Calls Tryz.prog 126 #[.string p] w fun e w' => e = .returned (.bool (named p)) ∧ Below w.heap.size w w' := by
 have HC := Shut.mk (fun W => implParentPath p W hs)
 unfold ParPost at HC
 have e0 : named p = (parentB p).2.2 := rfl
 rw [e0]
 generalize (parentB p).2.2 = a at *
 generalize (parentB p).2.1 = b at *
 generalize (parentB p).1 = c at *
 clear hs e0
 go_enter Tryz.func126, Tryz.ntmps126
 go_wp2_with fail
 refine (HC.out _).mono ?_
 rintro e w1 ⟨rfl, hb⟩
 go_wp2_with fail
 go_ret
 exact ⟨rfl, hb⟩
def pathQ (e : EM) : Bool := if e.kind = 10 then e.path.toList == [47] else if e.kind = 5 ∨ e.kind = 6 then (e.path.toList == [47]) || named e.path else named e.path
def destQ (e : EM) : Bool := if e.kind = 3 then named e.dest else e.dest.toList == []
def numQ (e : EM) : Bool := if e.kind = 5 then inI e.num 1 3 else if e.kind = 6 then inI e.num 0 1000 else if e.kind = 7 then inI e.num 1 200 else e.num == 0
def whoQ (e : EM) : Bool := if e.kind = 2 ∨ e.kind = 9 then inI e.who 1 9 else e.who == 0
theorem not_named_nil {p : ByteArray} (h : (p.toList == []) = true) : named p = false := by
 rw [Go.ByteArray.toList_eq, beq_iff_eq] at h
 have hp : p = ⟨#[]⟩ := ByteArray.ext (Array.toList_inj.1 h)
 subst hp
 rfl
theorem edit_is (e : EM) : editOk e = (inI e.kind 1 10 && pathQ e && destQ e && numQ e && whoQ e) := by
 unfold editOk pathBad numsOk pathQ destQ numQ whoQ
 have hn := @not_named_nil e.dest
 generalize named e.dest = nd at *
 generalize named e.path = np at *
 generalize (e.path.toList == [47]) = rt at *
 have hne : (e.dest.toList != []) = !(e.dest.toList == []) := rfl
 rw [hne]
 generalize (e.dest.toList == []) = te at *
 generalize inI e.num 1 3 = a1 at *
 generalize inI e.num 0 1000 = a2 at *
 generalize inI e.num 1 200 = a3 at *
 generalize inI e.who 1 9 = a4 at *
 generalize (e.num == 0) = a5 at *
 generalize (e.who == 0) = a6 at *
 cases hk : inI e.kind 1 10 with
 | false => simp
 | true =>
  have hk' := inI_iff.1 hk
  have hc : e.kind = 1 ∨ e.kind = 2 ∨ e.kind = 3 ∨ e.kind = 4 ∨ e.kind = 5 ∨ e.kind = 6 ∨ e.kind = 7 ∨ e.kind = 8 ∨ e.kind = 9 ∨ e.kind = 10 := by omega
  rcases hc with h | h | h | h | h | h | h | h | h | h <;> rw [h] <;> simp <;> revert hn <;> cases nd <;> cases te <;> simp <;> cases np <;> cases rt <;> simp [Bool.and_comm]
set_option maxHeartbeats 1000000 in
theorem implPathQ (e : EM) (w : World) (hf : EFit e) : Calls Tryz.prog 87 #[ev e] w fun r w' => r = .returned (.bool (pathQ e)) ∧ Below w.heap.size w w' := by
 have HN := Shut.mk (fun W => implHasName e.path W hf.1)
 have HR : Shut (pathQ e = if e.kind = 10 then e.path.toList == [47] else if e.kind = 5 ∨ e.kind = 6 then (e.path.toList == [47]) || named e.path else named e.path) := ⟨rfl⟩
 generalize pathQ e = R at *
 generalize named e.path = np at *
 obtain ⟨kind, path, dest, num, who⟩ := e
 dsimp only at *
 clear hf
 go_enter Tryz.func87, Tryz.ntmps87
 go_wp2_with (go_at_call 126; refine (HN.out _).mono ?_; rintro r w1 ⟨rfl, hb1⟩)
 all_goals
  go_ret
  refine ⟨by rw [HR.out]; (try simp only [beq_iff_eq, beq_eq_false_iff_ne, ne_eq] at *); simp [*], ?_⟩
  first
   | exact (Below.refl _ _).alloc (Nat.le_refl _) _
   | exact ((Below.refl _ _).alloc (Nat.le_refl _) _).trans (hb1.mono (by simp))
set_option maxHeartbeats 1000000 in
theorem implDestQ (e : EM) (w : World) (hf : EFit e) : Calls Tryz.prog 88 #[ev e] w fun r w' => r = .returned (.bool (destQ e)) ∧ Below w.heap.size w w' := by
 have HN := Shut.mk (fun W => implHasName e.dest W hf.2)
 have HR : Shut (destQ e = if e.kind = 3 then named e.dest else e.dest.toList == []) := ⟨rfl⟩
 generalize destQ e = R at *
 generalize named e.dest = np at *
 obtain ⟨kind, path, dest, num, who⟩ := e
 dsimp only at *
 clear hf
 go_enter Tryz.func88, Tryz.ntmps88
 go_wp2_with (go_at_call 126; refine (HN.out _).mono ?_; rintro r w1 ⟨rfl, hb1⟩)
 all_goals
  go_ret
  refine ⟨by rw [HR.out]; (try simp only [beq_iff_eq, beq_eq_false_iff_ne, ne_eq] at *); simp [*], ?_⟩
  first
   | exact (Below.refl _ _).alloc (Nat.le_refl _) _
   | exact ((Below.refl _ _).alloc (Nat.le_refl _) _).trans (hb1.mono (by simp))
set_option maxHeartbeats 1000000 in
theorem implNumQ (e : EM) (w : World) : Calls Tryz.prog 89 #[ev e] w fun r w' => r = .returned (.bool (numQ e)) ∧ Below w.heap.size w w' := by
 have HR : Shut (numQ e = if e.kind = 5 then inI e.num 1 3 else if e.kind = 6 then (decide (0 ≤ e.num) && decide (e.num ≤ 1000)) else if e.kind = 7 then (decide (1 ≤ e.num) && decide (e.num ≤ 200)) else e.num == 0) := ⟨rfl⟩
 generalize numQ e = R at *
 obtain ⟨kind, path, dest, num, who⟩ := e
 dsimp only at *
 go_enter Tryz.func89, Tryz.ntmps89
 go_wp2_with (go_at_call 115; refine (implSchemaOk _ _).mono ?_; rintro r w1 ⟨rfl, rfl⟩)
 all_goals
  go_ret
  refine ⟨by rw [HR.out]; (try simp only [beq_iff_eq, beq_eq_false_iff_ne, ne_eq] at *); first | (simp [*]; done) | (simp [*]; omega), ?_⟩
  exact (Below.refl _ _).alloc (Nat.le_refl _) _
set_option maxHeartbeats 1000000 in
theorem implWhoQ (e : EM) (w : World) : Calls Tryz.prog 90 #[ev e] w fun r w' => r = .returned (.bool (whoQ e)) ∧ Below w.heap.size w w' := by
 have HR : Shut (whoQ e = if e.kind = 2 ∨ e.kind = 9 then (decide (1 ≤ e.who) && decide (e.who ≤ 9)) else e.who == 0) := ⟨rfl⟩
 generalize whoQ e = R at *
 obtain ⟨kind, path, dest, num, who⟩ := e
 dsimp only at *
 go_enter Tryz.func90, Tryz.ntmps90
 go_wp2_with fail
 all_goals
  go_ret
  refine ⟨by rw [HR.out]; (try simp only [beq_iff_eq, beq_eq_false_iff_ne, ne_eq] at *); first | (simp [*]; done) | (simp [*]; omega), ?_⟩
  exact (Below.refl _ _).alloc (Nat.le_refl _) _
theorem ec_new (w : World) (e : EM) (T : TypeId) : EC w w.heap.size e (w.alloc (.cells #[.int .i64 e.kind, .string e.path, .string e.dest, .int .i64 e.num, .int .i64 e.who] T)) := by
 have h := wcells_new w #[.int .i64 e.kind, .string e.path, .string e.dest, .int .i64 e.num, .int .i64 e.who] T
 exact ⟨(h.2 0 _ rfl).1, (h.2 1 _ rfl).1, (h.2 2 _ rfl).1, (h.2 3 _ rfl).1, (h.2 4 _ rfl).1, ⟨(Below.refl _ _).alloc (Nat.le_refl _) _⟩⟩
set_option maxHeartbeats 1000000 in
theorem implEditOk (e : EM) (w : World) (hf : EFit e) : Calls Tryz.prog 35 #[ev e] w fun r w' => r = .returned (.bool (editOk e)) ∧ Below w.heap.size w w' := by
 have H1 := Shut.mk (fun W => implPathQ e W hf)
 have H2 := Shut.mk (fun W => implDestQ e W hf)
 have H3 := Shut.mk (fun W => implNumQ e W)
 have H4 := Shut.mk (fun W => implWhoQ e W)
 have HR := Shut.mk (edit_is e)
 have HN := Shut.mk (ec_new w e 28)
 generalize editOk e = R at *
 generalize pathQ e = q1 at *
 generalize destQ e = q2 at *
 generalize numQ e = q3 at *
 generalize whoQ e = q4 at *
 unfold inI at HR
 obtain ⟨kind, path, dest, num, who⟩ := e
 dsimp only at *
 clear hf
 go_enter Tryz.func35, Tryz.ntmps35
 go_wp2_with (first
  | (go_at_call 87; refine (H1.out _).mono ?_; rintro r w1 ⟨rfl, hb1⟩; obtain ⟨c0, c1, c2, c3, c4, hB⟩ := HN.out.below hb1; clear hb1; dsimp only at c0 c1 c2 c3 c4)
  | (go_at_call 88; refine (H2.out _).mono ?_; rintro r w1 ⟨rfl, hb1⟩; obtain ⟨c0, c1, c2, c3, c4, hB⟩ := EC.below (e := ⟨kind, path, dest, num, who⟩) ⟨c0, c1, c2, c3, c4, hB⟩ hb1; clear hb1; dsimp only at c0 c1 c2 c3 c4)
  | (go_at_call 89; refine (H3.out _).mono ?_; rintro r w1 ⟨rfl, hb1⟩; obtain ⟨c0, c1, c2, c3, c4, hB⟩ := EC.below (e := ⟨kind, path, dest, num, who⟩) ⟨c0, c1, c2, c3, c4, hB⟩ hb1; clear hb1; dsimp only at c0 c1 c2 c3 c4)
  | (go_at_call 90; refine (H4.out _).mono ?_; rintro r w1 ⟨rfl, hb1⟩; obtain ⟨c0, c1, c2, c3, c4, hB⟩ := EC.below (e := ⟨kind, path, dest, num, who⟩) ⟨c0, c1, c2, c3, c4, hB⟩ hb1; clear hb1; dsimp only at c0 c1 c2 c3 c4))
 all_goals
  go_ret
  refine ⟨by rw [HR.out]; first | (simp [*]; done) | (simp [*]; omega), ?_⟩
  first
   | exact hB.out
   | exact (Below.refl _ _).alloc (Nat.le_refl _) _
end Go.Proofs.YtakhagkhngmpaaaGreat
