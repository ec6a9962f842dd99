/- Texts of ours, laid one behind the other: LkE, LkF, SchQ, LkG, LkH, LkI, LkJ, FpA, LkK, LkL. -/
import Derived.Test.YtakhagkhngmpaaaGreatQq4
import Derived.Test.YtakhagkhngmpaaaGreatQq6
import Derived.Test.YtakhagkhngmpaaaGreatQq2
import Derived.Test.YtakhagkhngmpaaaGreatQq3
import Derived.Test.YtakhagkhngmpaaaGreatQqStI
import Derived.Test.YtakhagkhngmpaaaGreatQq1
import Derived.Test.YtakhagkhngmpaaaGreatQq5
import Derived.Deep.LoopGhost
import Derived.BigQuiet
/- LkE: . -/
namespace Go.Proofs.YtakhagkhngmpaaaGreat
set_option maxRecDepth 100000
open Go.RowKit Go.Maps
attribute [local go_sem ↓] Go.wp_at_zero Go.wp_at_succ
structure Nd (w : World) (ns : List NM) (G : Nat → Nat) : Prop where
 cells : ∀ i (hi : i < ns.length), w.cell? ⟨G i, 0, none⟩ = some (.int .i64 ns[i].id) ∧ w.cell? ⟨G i, 1, none⟩ = some (.int .i64 ns[i].parent) ∧ w.cell? ⟨G i, 2, none⟩ = some (.string ns[i].name) ∧ w.cell? ⟨G i, 3, none⟩ = some (.bool ns[i].dir) ∧ w.cell? ⟨G i, 4, none⟩ = some (.int .i64 ns[i].schema) ∧ w.cell? ⟨G i, 5, none⟩ = some (.int .i64 ns[i].quota) ∧ G i < w.heap.size
 above : ∀ i (hi : i < ns.length), fid ns ns[i].id = some i → w.cell? ⟨G i, 9, none⟩ = some (ptrV ((fid ns ns[i].parent).map G))
theorem Lk.nd {w : World} {B b1 b2 : Nat} {rs : List NR} {G : Nat → Nat} {C : Int → Nat} (h : Lk w B b1 b2 rs G C (Ab (nds rs) fun _ => false)) : Nd w (nds rs) G := by
 refine ⟨fun i hi => ?_, fun i hi hf => ?_⟩
 ·have hi' : i < rs.length := by rwa [nds_len] at hi
  have hc := (h.cells i hi').1
  have e : (nds rs)[i] = rs[i].nd := by simp [nds]
  rw [e]
  exact ⟨(hc.2 0 _ rfl).1, (hc.2 1 _ rfl).1, (hc.2 2 _ rfl).1, (hc.2 3 _ rfl).1, (hc.2 4 _ rfl).1, (hc.2 5 _ rfl).1, hc.1⟩
 ·have hi' : i < rs.length := by rwa [nds_len] at hi
  have hc := ((h.cells i hi').1.2 9 _ rfl).1
  have : Ab (nds rs) (fun _ => false) i = fid (nds rs) (nds rs)[i].parent := by
   unfold Ab
   rw [getD_in hi, if_pos ⟨hf, rfl⟩]
  rw [this] at hc
  exact hc
theorem Nd.below {w w' : World} {ns : List NM} {G : Nat → Nat} (h : Nd w ns G) (hb : Below w.heap.size w w') : Nd w' ns G := by
 refine ⟨fun i hi => ?_, fun i hi hf => ?_⟩
 ·obtain ⟨c0, c1, c2, c3, c4, c5, hl⟩ := h.cells i hi
  exact ⟨(hb.cell hl).trans c0, (hb.cell hl).trans c1, (hb.cell hl).trans c2, (hb.cell hl).trans c3, (hb.cell hl).trans c4, (hb.cell hl).trans c5, Nat.lt_of_lt_of_le hl hb.size⟩
 ·exact (hb.cell (h.cells i hi).2.2.2.2.2.2).trans (h.above i hi hf)
theorem ptr_some (g : Nat) : ptrV (some g) = .pointer (some ⟨g, 0, none⟩) := rfl
theorem ptr_none : ptrV none = .pointer none := rfl
set_option maxHeartbeats 1000000 in
theorem reaches_any {w : World} {ns : List NM} {G : Nat → Nat} (h : Nd w ns G) (ha : Asc ns) {i : Nat} (hi : i < ns.length) :
  Calls Tryz.prog 120 #[.pointer (some ⟨G i, 0, none⟩)] w fun e w' => e = .returned (.bool (clm ns 4 i)) ∧ w' = w := by
 have HN := Shut.mk h
 have HA := Shut.mk ha
 clear h ha
 obtain ⟨R, hR⟩ : ∃ R, R = clm ns 4 i := ⟨_, rfl⟩
 rw [← hR]
 have HR := Shut.mk hR
 clear hR
 go_enter Tryz.func120, Tryz.ntmps120
 go_wp2_with fail
 go_loopw [0, 3] (fun p c wr => ∃ (k j : Nat), p = .pointer (some ⟨G j, 0, none⟩) ∧ c = .int .i64 k ∧ k ≤ 4 ∧ j < ns.length ∧ Shut (clm ns (4 - k) j = R) ∧ wr = w) (fun _ c _ => 4 - (intOf c).toNat)
 case atStart => exact ⟨0, i, rfl, rfl, by omega, hi, ⟨HR.out.symm⟩, rfl⟩
 case round =>
  obtain ⟨k, j, rfl, rfl, hk, hj, hc, rfl⟩ := hrel
  obtain ⟨c0, _, _, _, _, _, hl⟩ := HN.out.cells j hj
  have c9 := HN.out.above j hj (HA.out.fid hj)
  have hid := HA.out.id_one hj
  have hge := getD_in hj
  obtain ⟨x, hx⟩ : ∃ x, x = ns[j] := ⟨_, rfl⟩
  rw [← hx] at c0 c9 hge
  rw [hge] at hid
  have HGE := Shut.mk hge
  have HID := Shut.mk hid
  clear hx hge hid
  obtain ⟨o, ho⟩ : ∃ o, o = fid ns x.parent := ⟨_, rfl⟩
  rw [← ho] at c9
  have HO := Shut.mk ho
  clear ho
  by_cases h4 : k < 4
  ·have h4' : (k : Int) < 4 := by omega
   cases o with
   | none =>
    simp only [Option.map_none, ptr_none] at c9
    go_wp2_with fail
    go_ret
    refine ⟨?_, rfl⟩
    have := hc.out
    rw [clm_none (by rw [HGE.out, ← HO.out]), HGE.out] at this
    rw [← this]
    rfl
   | some m =>
    simp only [Option.map_some, ptr_some] at c9
    go_wp2_with fail
    go_roundw
    case rel =>
     have h5 := hc.out
     have e : 4 - k = (4 - (k + 1)) + 1 := by omega
     rw [e, clm_some (k := m) (by rw [HGE.out, ← HO.out])] at h5
     exact ⟨k + 1, m, rfl, by go_num, by omega, (fid_lt HO.out.symm).1, ⟨h5⟩, trivial⟩
    case measure => simp [intOf]; omega
  ·have h4' : ¬ (k : Int) < 4 := by omega
   go_wp2_with fail
   go_ret
   refine ⟨?_, rfl⟩
   have := hc.out
   obtain rfl : k = 4 := by omega
   have e4 : clm ns (4 - 4) j = ((ns.getD j default).id == 1) := rfl
   rw [e4, HGE.out] at this
   rw [← this]
   rfl
set_option maxHeartbeats 1000000 in
theorem isBelow_any {w : World} {ns : List NM} {G : Nat → Nat} (h : Nd w ns G) (ht : Tall ns) {i : Nat} (hi : i < ns.length) (top : Int) :
  Calls Tryz.prog 91 #[.pointer (some ⟨G i, 0, none⟩), .int .i64 top] w fun e w' => e = .returned (.bool (blw ns i top)) ∧ w' = w := by
 have HN := Shut.mk h
 have HA := Shut.mk ht.1
 obtain ⟨d0, hd0, hu0⟩ := ht.2 i hi
 have HU := Shut.mk hu0
 obtain ⟨R, hR⟩ : ∃ R, R = blw ns i top := ⟨_, rfl⟩
 rw [← hR]
 have HR := Shut.mk hR
 clear hR h ht hu0
 go_enter Tryz.func91, Tryz.ntmps91
 go_wp2_with fail
 go_loopg [0] (d0 + 1) (fun m p wr => (Shut (p = .pointer none ∧ R = false) ∨ Shut (∃ (j d r : Nat), p = .pointer (some ⟨G j, 0, none⟩) ∧ m = d + 1 ∧ j < ns.length ∧ Ups ns j d ∧ (top ≠ 0 → belowF ns (d + 2 + r) (ns.getD j default).id top = R) ∧ (top = 0 → R = false))) ∧ wr = w)
 case atStart =>
  refine ⟨.inr ⟨i, d0, 13 - d0, rfl, rfl, hi, HU.out, fun h0 => ?_, fun h0 => ?_⟩, rfl⟩
  ·rw [HR.out]
   unfold blw
   rw [show d0 + 2 + (13 - d0) = 15 by omega]
   simp [h0]
  ·rw [HR.out]
   unfold blw
   simp [h0]
 case round =>
  obtain ⟨hrel, rfl⟩ := hrel
  rcases hrel with ⟨rfl, rfl⟩ | ⟨j, d, r, rfl, rfl, hj, hu, h1, h2⟩
  ·go_wp2_with fail
   go_ret
   exact ⟨rfl, rfl⟩
  ·obtain ⟨c0, _, _, _, _, _, hl⟩ := HN.out.cells j hj
   have hf := HA.out.fid hj
   have c9 := HN.out.above j hj hf
   have hge := getD_in hj
   have hpos := HA.out.pos hj
   obtain ⟨x, hx⟩ : ∃ x, x = ns[j] := ⟨_, rfl⟩
   rw [← hx] at c0 c9 hge hpos hf
   rw [hge] at h1
   have HH := Shut.mk (And.intro h1 (And.intro h2 (And.intro hu (And.intro hge hf))))
   obtain ⟨o, ho⟩ : ∃ o, o = fid ns x.parent := ⟨_, rfl⟩
   rw [← ho] at c9
   have HO := Shut.mk ho
   clear ho h1 h2 hu hge hf hx
   by_cases ht : x.id = top
   ·have HT := Shut.mk hpos
    clear hpos
    subst ht
    go_wp2_with fail
    go_ret
    refine ⟨?_, rfl⟩
    have h1 := HH.out.1 (by have := HT.out; omega)
    rw [show d + 2 + r = (d + 1 + r) + 1 by omega, belowF_same rfl] at h1
    rw [← h1]
    rfl
   ·cases o with
    | none =>
     simp only [Option.map_none, ptr_none] at c9
     go_wp2_with fail
     go_roundg 0
     case measure => omega
     case rel =>
      obtain ⟨h1, h2, hu, hge, hf⟩ := HH.out
      refine ⟨.inl ⟨⟨rfl, ?_⟩⟩, rfl⟩
      by_cases h0 : top = 0
      ·exact h2 h0
      ·have h3 := h1 h0
       rw [show d + 2 + r = ((d + r) + 1) + 1 by omega, belowF_some ht hf, hge] at h3
       rw [← h3]
       cases hu with
       | root =>
        have e0 := HA.out.2.2.2
        rw [hge] at e0
        rw [e0]
        exact belowF_none (fun e => h0 e.symm) HA.out.zero
       | step _ _ hk _ =>
        rw [hge, ← HO.out] at hk
        cases hk
    | some k =>
     simp only [Option.map_some, ptr_some] at c9
     go_wp2_with fail
     go_roundg d
     case measure => omega
     case rel =>
      obtain ⟨h1, h2, hu, hge, hf⟩ := HH.out
      refine ⟨.inr ⟨?_⟩, rfl⟩
      cases hu with
      | root =>
       have e0 := HA.out.2.2.2
       have h4 := HO.out
       rw [hge] at e0
       rw [e0, HA.out.zero] at h4
       cases h4
      | @step _ k' d' _ _ hk hu' =>
       rw [hge, ← HO.out] at hk
       cases hk
       obtain ⟨hkl, ek⟩ := fid_lt HO.out.symm
       refine ⟨k, d', r, rfl, rfl, hkl, hu', fun h0 => ?_, h2⟩
       have h3 := h1 h0
       rw [show d' + 1 + 2 + r = (d' + 2 + r) + 1 by omega, belowF_some ht hf, hge, ← ek, ← getD_in hkl] at h3
       exact h3
end Go.Proofs.YtakhagkhngmpaaaGreat
/- LkF: . -/
namespace Go.Proofs.YtakhagkhngmpaaaGreat
set_option maxRecDepth 100000
open Go.RowKit Go.Maps BigFrame
attribute [local go_sem ↓] Go.wp_at_zero Go.wp_at_succ
set_option maxHeartbeats 2000000 in
theorem placeOk_any {w : World} {B b1 b2 : Nat} {rs : List NR} {G : Nat → Nat} {C : Int → Nat} (h : Lk w B b1 b2 rs G C (Ab (nds rs) fun _ => false)) (ha : Asc (nds rs)) (hI : NInt (nds rs)) (hS : ∀ n ∈ nds rs, n.name.size ≤ 1048576) {i : Nat} (hi : i < rs.length) :
  Calls Tryz.prog 74 #[.agg #[.map (some b1), .map (some b2)], nv rs[i]] w fun e w' => e = .returned (.bool (placeB (nds rs) i)) ∧ Below w.heap.size w w' := by
 have hi' : i < (nds rs).length := by rw [nds_len]; exact hi
 have he : (nds rs).getD i default = rs[i].nd := by rw [getD_in hi']; simp [nds]
 have hmem : rs[i].nd ∈ nds rs := List.mem_map.2 ⟨_, List.getElem_mem hi, rfl⟩
 have f1 := (hI _ hmem).1
 have f2 := (hI _ hmem).2
 have f3 := hS _ hmem
 have hfi := ha.fid hi'
 rw [← getD_in hi', he] at hfi
 obtain ⟨r, hr⟩ : ∃ r, r = rs[i] := ⟨_, rfl⟩
 rw [← hr] at he f1 f2 f3 hfi ⊢
 obtain ⟨R, hR⟩ : ∃ R, R = placeB (nds rs) i := ⟨_, rfl⟩
 rw [← hR]
 have HR := Shut.mk hR
 have HE := Shut.mk he
 have HL := Shut.mk h
 have HA := Shut.mk ha
 have HF := Shut.mk hfi
 clear hR he h ha hI hS hmem hr hfi
 go_enter Tryz.func74, Tryz.ntmps74
 go_upto_region 1 with fail
 refine wp_shade (fun W => Below w.heap.size w W ∧ WCells W w.heap.size [.map (some b1), .map (some b2)] ∧ WCells W (w.heap.size + 1) (ncells r)) ?_ ?_
 ·refine ⟨((Below.refl _ _).alloc (Nat.le_refl _) _).alloc (by simp) _, (wcells_new w #[.map (some b1), .map (some b2)] 89).alloc _, ?_⟩
  have := wcells_new (w.alloc (.cells #[.map (some b1), .map (some b2)] 89)) #[.int .i64 r.nd.id, .int .i64 r.nd.parent, .string r.nd.name, .bool r.nd.dir, .int .i64 r.nd.schema, .int .i64 r.nd.quota, .int .i64 r.nd.len, .slice r.loc r.nd.pieces.length r.cap, .int .i64 r.nd.writer] 47
  simpa [ncells] using this
 intro W hW
 obtain ⟨hb, hx, hn⟩ := hW
 have HB := Shut.mk hb
 have b0 := (hx.2 0 _ rfl).1
 have b1' := (hx.2 1 _ rfl).1
 have n0 := (hn.2 0 _ rfl).1
 have n1 := (hn.2 1 _ rfl).1
 have n2 := (hn.2 2 _ rfl).1
 have HX := Shut.mk hn
 have hL := HL.out.below hb
 have HLW := Shut.mk hL
 have hpar : Par (nds rs) r.nd.parent := ⟨_, List.getElem_mem hi', by rw [← getD_in hi', HE.out]⟩
 obtain ⟨k, hk⟩ : ∃ k, fnm (nds rs) r.nd.parent r.nd.name = some k := by
  cases hf : fnm (nds rs) r.nd.parent r.nd.name with
  | some k => exact ⟨k, rfl⟩
  | none => exact absurd (by rw [← getD_in hi', HE.out]) (fnm_none hf _ (List.getElem_mem hi') (by rw [← getD_in hi', HE.out]))
 obtain ⟨D1, o1, t1⟩ := hL.m1
 have k1 := look_ptr keyI Tryz.underlying86 zeroLp o1 (key_int f1) (t1 r.nd.id)
 rw [HF.out] at k1
 obtain ⟨D2, o2, t2⟩ := hL.m2
 have k2 := look_map keyI Tryz.underlying87 zeroLm o2 (key_int f2) ((t2 r.nd.parent).1 hpar)
 obtain ⟨d1, d2, d3, D3, o3, t3⟩ := hL.m3 r.nd.parent hpar
 have k3 := look_ptr keyS Tryz.underlying94 zeroLp o3 (key_str (by unfold maxLen; omega)) (t3 r.nd.name)
 rw [hk] at k3
 simp only [Option.map_some, ptr_some] at k1 k3
 have em : ∀ g, mapV (some g) = .map (some g) := fun _ => rfl
 rw [em] at k2
 have HK := Shut.mk hk
 have HP := Shut.mk hpar
 clear hb hx hn hL hpar hk o1 t1 o2 t2 o3 t3 em d1 d2 d3
 go_quiet (fail)
 go_upto_region 2 with fail
 refine wp_shade (fun W2 => Below W.heap.size W W2) (Below.mono (B := (W.drewN nq).heap.size) ⟨rfl, rfl, rfl, Nat.le_refl _, fun _ _ => rfl⟩ (Nat.le_refl _)) ?_
 intro V hV
 have HV := Shut.mk hV
 have hnd := (HLW.out.below hV).nd
 have HND := Shut.mk hnd
 have hn := HX.out.grow hV
 have hln := hn.1
 have hkl := (fnm_lt HK.out).1
 have ck0 := (hnd.cells k hkl).1
 have lk := (hnd.cells k hkl).2.2.2.2.2.2
 have ci9 := hnd.above i hi' (HA.out.fid hi')
 have li := (hnd.cells i hi').2.2.2.2.2.2
 have hei : (nds rs)[i] = r.nd := by rw [← getD_in hi', HE.out]
 rw [hei] at ci9
 have g0 : ∀ X : Grow V, X.val.cell? ⟨w.heap.size + 1, 0, none⟩ = some (.int .i64 r.nd.id) := fun X => X.cell (hn.2 0 _ rfl).1 hln
 have g2 : ∀ X : Grow V, X.val.cell? ⟨w.heap.size + 1, 2, none⟩ = some (.string r.nd.name) := fun X => X.cell (hn.2 2 _ rfl).1 hln
 have gk : ∀ X : Grow V, X.val.cell? ⟨G k, 0, none⟩ = some (.int .i64 (nds rs)[k].id) := fun X => X.cell ck0 lk
 have gi : ∀ X : Grow V, X.val.cell? ⟨G i, 9, none⟩ = some (ptrV ((fid (nds rs) r.nd.parent).map G)) := fun X => X.cell ci9 li
 have hnm := fun X => calls_grow (w := V) (fun W' (_ : Below V.heap.size V W') => implNameOk r.nd.name W' f3) X
 have hre := fun X => calls_same (w := V) (fun W' (hb' : Below V.heap.size V W') => reaches_any (HND.out.below hb') HA.out hi') X
 have hRR : R = (nameB r.nd.name && ((nds rs)[k].id == r.nd.id) && dirB (nds rs) r.nd.parent && clm (nds rs) 4 i) := by
  rw [HR.out]
  unfold placeB
  rw [firstB_some (k := k) (by rw [HE.out]; exact HK.out), HE.out, getD_in hkl]
 have HRR := Shut.mk hRR
 have HNM := Shut.mk hnm
 have HRE := Shut.mk hre
 obtain ⟨xid, hxid⟩ : ∃ x, x = (nds rs)[k].id := ⟨_, rfl⟩
 rw [← hxid] at gk HRR
 obtain ⟨o, ho⟩ : ∃ o, o = fid (nds rs) r.nd.parent := ⟨_, rfl⟩
 rw [← ho] at gi
 have HO := Shut.mk ho
 have HEND : Shut (∀ X : Grow V, Below w.heap.size w X.val) := ⟨fun X => HB.out.trans ((HV.out.trans (X.bel.mono HV.out.size)).mono HB.out.size)⟩
 have HDIR : Shut (∀ m, o = some m → ∀ X : Grow V, X.val.cell? ⟨G m, 3, none⟩ = some (.bool ((nds rs).getD m default).dir)) := ⟨fun m hm X => by
  rw [hm] at ho
  obtain ⟨hml, _⟩ := fid_lt ho.symm
  obtain ⟨_, _, _, cm3, _, _, lm⟩ := hnd.cells m hml
  rw [getD_in hml]
  exact X.cell cm3 lm⟩
 generalize clm (nds rs) 4 i = cl at HRR HRE
 clear hnm hre hRR hxid ho hnd hn hln ck0 ci9 hei hkl li lk k1 k2 k3 b0 b1' n0 n1 n2 hV
 cases hN : nameB r.nd.name with
 | false =>
  rw [hN] at HNM HRR
  refine wp_region_grow (by kernel_rfl) (by kernel_rfl) ?_
  repeat (go_big_quiet_step (first | (go_at_call 119; exact HNM.out _) | (go_at_call 120; exact HRE.out _)))
  refine wpQuiet_nil ?_
  rintro _ ⟨X, rfl⟩
  go_wp2_with fail
  go_ret
  refine ⟨?_, HEND.out X⟩
  rw [HRR.out]
  rfl
 | true =>
  rw [hN] at HNM HRR
  by_cases hx : xid = r.nd.id
  ·cases o with
   | none =>
    simp only [Option.map_none, ptr_none] at gi
    have he2 : (xid == r.nd.id) = true := by simp [hx]
    rw [dirB_none HO.out.symm] at HRR
    refine wp_region_grow (by kernel_rfl) (by kernel_rfl) ?_
    repeat (go_big_quiet_step (first | (go_at_call 119; exact HNM.out _) | (go_at_call 120; exact HRE.out _)))
    refine wpQuiet_nil ?_
    rintro _ ⟨X, rfl⟩
    go_wp2_with fail
    go_ret
    refine ⟨?_, HEND.out X⟩
    rw [HRR.out]
    simp
   | some m =>
    simp only [Option.map_some, ptr_some] at gi
    have gd := HDIR.out m rfl
    rw [dirB_some HO.out.symm] at HRR
    have he2 : (xid == r.nd.id) = true := by simp [hx]
    cases hd : ((nds rs).getD m default).dir with
    | false =>
     rw [hd] at gd
     refine wp_region_grow (by kernel_rfl) (by kernel_rfl) ?_
     repeat (go_big_quiet_step (first | (go_at_call 119; exact HNM.out _) | (go_at_call 120; exact HRE.out _)))
     refine wpQuiet_nil ?_
     rintro _ ⟨X, rfl⟩
     go_wp2_with fail
     go_ret
     refine ⟨?_, HEND.out X⟩
     rw [HRR.out]
     rw [hd]
     simp
    | true =>
     rw [hd] at gd
     refine wp_region_grow (by kernel_rfl) (by kernel_rfl) ?_
     repeat (go_big_quiet_step (first | (go_at_call 119; exact HNM.out _) | (go_at_call 120; exact HRE.out _)))
     refine wpQuiet_nil ?_
     rintro _ ⟨X, rfl⟩
     go_wp2_with fail
     go_ret
     refine ⟨?_, HEND.out X⟩
     rw [HRR.out]
     rw [hd, he2]
     simp
  ·have he2 : (xid == r.nd.id) = false := by simp [hx]
   refine wp_region_grow (by kernel_rfl) (by kernel_rfl) ?_
   repeat (go_big_quiet_step (first | (go_at_call 119; exact HNM.out _) | (go_at_call 120; exact HRE.out _)))
   refine wpQuiet_nil ?_
   rintro _ ⟨X, rfl⟩
   go_wp2_with fail
   go_ret
   refine ⟨?_, HEND.out X⟩
   rw [HRR.out]
   simp [hx]
end Go.Proofs.YtakhagkhngmpaaaGreat
/- SchQ: . -/
namespace Go.Proofs.YtakhagkhngmpaaaGreat
set_option maxRecDepth 100000
open Go.RowKit BigFrame
attribute [local go_sem ↓] Go.wp_at_zero Go.wp_at_succ
theorem sch_in (s : Int) : schOk s = inI s 1 3 := by
 cases h : schOk s with
 | true =>
  obtain rfl | rfl | rfl := sch_cases h <;> rfl
 | false =>
  obtain ⟨h1, h2, h3⟩ := sch_no h
  symm
  refine Bool.eq_false_iff.2 fun hc => ?_
  have := inI_iff.1 hc
  omega
theorem implSchemaOk (s : Int) (w : World) : Calls Tryz.prog 115 #[.int .i64 s] w fun e w' => e = .returned (.bool (inI s 1 3)) ∧ w' = w := by
 have HS := Shut.mk (fun W => implSch s W)
 unfold SchPost at HS
 rw [sch_in] at HS
 generalize inI s 1 3 = ok at *
 generalize schM s = m at *
 generalize schK s = k at *
 go_enter Tryz.func115, Tryz.ntmps115
 go_wp2_with fail
 refine (HS.out _).mono ?_
 rintro e w1 ⟨rfl, rfl⟩
 go_wp2_with fail
 go_ret
 exact ⟨rfl, rfl⟩
end Go.Proofs.YtakhagkhngmpaaaGreat
/- LkG: . -/
namespace Go.Proofs.YtakhagkhngmpaaaGreat
set_option maxRecDepth 100000
open Go.RowKit Go.Maps BigFrame
attribute [local go_sem ↓] Go.wp_at_zero Go.wp_at_succ
set_option maxHeartbeats 1000000 in
theorem implRootOk (id parent : Int) (name : ByteArray) (dir : Bool) (schema quota len writer : Int) (loc : Option Addr) (n cap : Nat) (w : World) : Calls Tryz.prog 71 #[.agg #[.int .i64 id, .int .i64 parent, .string name, .bool dir, .int .i64 schema, .int .i64 quota, .int .i64 len, .slice loc n cap, .int .i64 writer]] w fun e w' => e = .returned (.bool ((id == 1) && (parent == 0) && (name.toList == []) && dir && inI schema 1 3)) ∧ Below w.heap.size w w' := by
 obtain ⟨R, hR⟩ : ∃ R, R = ((id == 1) && (parent == 0) && (name.toList == []) && dir && inI schema 1 3) := ⟨_, rfl⟩
 have HR := Shut.mk hR
 rw [← hR]
 clear hR
 go_enter Tryz.func71, Tryz.ntmps71
 go_wp2_with (go_at_call 115; refine (implSchemaOk _ _).mono ?_; rintro e w1 ⟨rfl, rfl⟩)
 all_goals
  go_ret
  exact ⟨by rw [HR.out]; simp [*], (Below.refl _ _).alloc (Nat.le_refl _) _⟩
set_option maxHeartbeats 1000000 in
theorem implDirOk (id parent : Int) (name : ByteArray) (dir : Bool) (schema quota len writer : Int) (loc : Option Addr) (n cap : Nat) (w : World) : Calls Tryz.prog 117 #[.agg #[.int .i64 id, .int .i64 parent, .string name, .bool dir, .int .i64 schema, .int .i64 quota, .int .i64 len, .slice loc n cap, .int .i64 writer]] w fun e w' => e = .returned (.bool (((schema == 0) || inI schema 1 3) && decide (0 ≤ quota) && decide (quota ≤ 1000) && (len == 0) && ((n : Int) == 0) && (writer == 0))) ∧ Below w.heap.size w w' := by
 obtain ⟨R, hR⟩ : ∃ R, R = (((schema == 0) || inI schema 1 3) && decide (0 ≤ quota) && decide (quota ≤ 1000) && (len == 0) && ((n : Int) == 0) && (writer == 0)) := ⟨_, rfl⟩
 have HR := Shut.mk hR
 rw [← hR]
 clear hR
 go_enter Tryz.func117, Tryz.ntmps117
 go_wp2_with (go_at_call 115; refine (implSchemaOk _ _).mono ?_; rintro e w1 ⟨rfl, rfl⟩)
 all_goals
  go_ret
  exact ⟨by rw [HR.out]; first | (simp [*]; done) | (simp [*]; omega), (Below.refl _ _).alloc (Nat.le_refl _) _⟩
def fileQ (schema quota len writer : Int) (ps : List PM) : Bool := inI schema 1 3 && (quota == 0) && inI writer 0 9 && decide (ps.length ≤ 40) && ps.all (pieceOk schema) && (sumP ps == len) && decide (sumP ps ≤ 1000)
theorem fileQ_piece {schema quota len writer : Int} {ps : List PM} {k : Nat} (hk : k < ps.length) (h : pieceOk schema ps[k] = false) : fileQ schema quota len writer ps = false := by
 unfold fileQ
 have : ps.all (pieceOk schema) = false := Bool.eq_false_iff.2 fun hc => by rw [List.all_eq_true.1 hc _ (List.getElem_mem hk)] at h; cases h
 rw [this]
 simp
set_option maxHeartbeats 2000000 in
theorem implFileOk (id parent : Int) (name : ByteArray) (dir : Bool) (schema quota len writer : Int) (loc : Option Addr) (ps : List PM) (cap : Nat) (w : World) {lo hi : Nat} (hp : RRow w loc (pcs ps) lo hi) (hl : ps.length ≤ 1048576) :
  Calls Tryz.prog 118 #[.agg #[.int .i64 id, .int .i64 parent, .string name, .bool dir, .int .i64 schema, .int .i64 quota, .int .i64 len, .slice loc ps.length cap, .int .i64 writer]] w fun e w' => e = .returned (.bool (fileQ schema quota len writer ps)) ∧ Below w.heap.size w w' := by
 obtain ⟨R, hR⟩ : ∃ R, R = fileQ schema quota len writer ps := ⟨_, rfl⟩
 have HR := Shut.mk hR
 rw [← hR]
 obtain ⟨n, hn⟩ : ∃ n, n = ps.length := ⟨_, rfl⟩
 rw [← hn] at hl ⊢
 have HN := Shut.mk hn
 have HP := Shut.mk hp
 clear hR hn hp
 by_cases hh : inI schema 1 3 = true ∧ quota = 0 ∧ 0 ≤ writer ∧ writer ≤ 9 ∧ n ≤ 40
 ·obtain ⟨h1, rfl, h3, h4, h5⟩ := hh
  have h5' : ¬ (40 : Int) < (n : Int) := by omega
  go_enter Tryz.func118, Tryz.ntmps118
  go_upto_region 3 with (go_at_call 115; refine (implSchemaOk _ _).mono ?_; rintro e w1 ⟨rfl, rfl⟩)
  refine wp_shade (fun W => Below w.heap.size w W ∧ WCells W w.heap.size [.int .i64 id, .int .i64 parent, .string name, .bool dir, .int .i64 schema, .int .i64 0, .int .i64 len, .slice loc n cap, .int .i64 writer]) ⟨(Below.refl _ _).alloc (Nat.le_refl _) _, wcells_new w #[.int .i64 id, .int .i64 parent, .string name, .bool dir, .int .i64 schema, .int .i64 0, .int .i64 len, .slice loc n cap, .int .i64 writer] 47⟩ ?_
  intro W hW
  have HW := Shut.mk hW
  have c7 := (hW.2.2 7 _ rfl).1
  clear hW
  go_wp2_with fail
  go_loopw [3, 34] (fun sm i wr => ∃ (k : Nat), sm = .int .i64 (sumP (ps.take k)) ∧ i = .int .i64 k ∧ k ≤ n ∧ Shut (∀ j (hj : j < ps.length), j < k → pieceOk schema ps[j] = true) ∧ Shut (Below w.heap.size w wr ∧ WCells wr w.heap.size [.int .i64 id, .int .i64 parent, .string name, .bool dir, .int .i64 schema, .int .i64 0, .int .i64 len, .slice loc n cap, .int .i64 writer])) (fun _ i _ => n - (intOf i).toNat)
  case atStart => exact ⟨0, rfl, rfl, Nat.zero_le _, ⟨fun _ _ h => absurd h (Nat.not_lt_zero _)⟩, HW⟩
  case round =>
   clear HW c7
   obtain ⟨k, rfl, rfl, hk, hall, hW⟩ := hrel
   have hsum : 0 ≤ sumP (ps.take k) ∧ sumP (ps.take k) ≤ 32 * 40 := by
    have := sumP_ok (s := schema) (ps := ps.take k) (fun p hp => by
     obtain ⟨j, hj, rfl⟩ := List.mem_iff_getElem.1 hp
     simp only [List.getElem_take]
     simp only [List.length_take] at hj
     exact hall.out j (by omega) (by omega))
    have hlt : (ps.take k).length ≤ 40 := by simp; omega
    omega
   have c4 := (hW.out.2.2 4 _ rfl).1
   have c6 := (hW.out.2.2 6 _ rfl).1
   have lw := hW.out.2.1
   by_cases hlt : k < n
   ·have hkp : k < ps.length := by rw [← HN.out]; exact hlt
    obtain ⟨b, off, rfl, lb, hc⟩ := pcs_at HP.out (by omega)
    obtain ⟨p0, p1⟩ := hc k hkp
    rw [← hW.out.1.cell (p := ⟨b, off + k * 2, none⟩) lb] at p0
    rw [← hW.out.1.cell (p := ⟨b, off + k * 2 + 1, none⟩) lb] at p1
    have hst := sumP_take ps k hkp
    obtain ⟨q, hq⟩ : ∃ q, q = ps[k] := ⟨_, rfl⟩
    rw [← hq] at p0 p1 hst
    have HQ := Shut.mk hq
    have HST := Shut.mk hst
    have lb' : b < wr.heap.size := Nat.lt_of_lt_of_le lb hW.out.1.size
    have k0 : (0 : Int) ≤ (k : Int) := by omega
    have k1 : (k : Int) < (n : Int) := by omega
    have HSZ := Shut.mk (fun W => implSize schema W)
    have hgb := groupN_bounds schema
    obtain ⟨sm, hsm⟩ : ∃ sm, sm = sumP (ps.take k) := ⟨_, rfl⟩
    rw [← hsm] at hsum HST ⊢
    have HSM := Shut.mk hsm
    have hpk : pieceOk schema q = (decide (1 ≤ q.group) && decide (q.group ≤ 100000) && (decide (1 ≤ q.len) && decide (q.len ≤ (groupN schema : Nat)))) := rfl
    have HPK := Shut.mk hpk
    obtain ⟨gn, hgn⟩ : ∃ gn, gn = groupN schema := ⟨_, rfl⟩
    rw [← hgn] at HSZ HPK hgb
    obtain ⟨gr, ln⟩ := q
    have HBW : Shut (∀ W, Below wr.heap.size wr W → Below w.heap.size w W) := ⟨fun W hb => hW.out.1.trans (hb.mono hW.out.1.size)⟩
    clear hc hq hst hsm hpk hgn
    have HNO : Shut (pieceOk schema ⟨gr, ln⟩ = false → Ending.returned (.bool false) = .returned (.bool R)) := ⟨fun h => by rw [HR.out, fileQ_piece hkp (by rw [← HQ.out]; exact h)]⟩
    dsimp only at p0 p1 HST HPK
    have HQQ := HQ
    go_upto_region 7 with fail
    by_cases a1 : gr < 1
    ·go_quiet (first | (go_at_call 144; exact Calls.quiet_of_same (HSZ.out _)))
     go_wp2_with fail
     go_ret
     exact ⟨HNO.out (by rw [HPK.out]; simp; omega), HBW.out _ (((Below.refl _ _).alloc (Nat.le_refl _) _).trans (Below.mono (B := wr.heap.size) ⟨rfl, rfl, rfl, Nat.le_refl _, fun _ _ => rfl⟩ (Nat.le_refl _)))⟩
    ·by_cases a2 : 100000 < gr
     ·go_quiet (first | (go_at_call 144; exact Calls.quiet_of_same (HSZ.out _)))
      go_wp2_with fail
      go_ret
      exact ⟨HNO.out (by rw [HPK.out]; simp; omega), HBW.out _ (((Below.refl _ _).alloc (Nat.le_refl _) _).trans (Below.mono (B := wr.heap.size) ⟨rfl, rfl, rfl, Nat.le_refl _, fun _ _ => rfl⟩ (Nat.le_refl _)))⟩
     ·by_cases a3 : ln < 1
      ·go_quiet (first | (go_at_call 144; exact Calls.quiet_of_same (HSZ.out _)))
       go_wp2_with fail
       go_ret
       exact ⟨HNO.out (by rw [HPK.out]; simp; omega), HBW.out _ (((Below.refl _ _).alloc (Nat.le_refl _) _).trans (Below.mono (B := wr.heap.size) ⟨rfl, rfl, rfl, Nat.le_refl _, fun _ _ => rfl⟩ (Nat.le_refl _)))⟩
      ·by_cases a4 : (gn : Int) < ln
       ·go_quiet (first | (go_at_call 144; exact Calls.quiet_of_same (HSZ.out _)))
        go_wp2_with fail
        go_ret
        exact ⟨HNO.out (by rw [HPK.out]; simp; omega), HBW.out _ (((Below.refl _ _).alloc (Nat.le_refl _) _).trans (Below.mono (B := wr.heap.size) ⟨rfl, rfl, rfl, Nat.le_refl _, fun _ _ => rfl⟩ (Nat.le_refl _)))⟩
       ·go_quiet (first | (go_at_call 144; exact Calls.quiet_of_same (HSZ.out _)))
        go_wp2_with fail
        go_roundw
        case rel =>
         have hpo : pieceOk schema ⟨gr, ln⟩ = true := by rw [HPK.out]; simp; omega
         have hbn : Below wr.heap.size wr ((wr.alloc (.cells #[.int .i64 gr, .int .i64 ln] 99)).drewN nq) := ((Below.refl _ _).alloc (Nat.le_refl _) _).trans (Below.mono (B := wr.heap.size) ⟨rfl, rfl, rfl, Nat.le_refl _, fun _ _ => rfl⟩ (Nat.le_refl _))
         refine ⟨k + 1, ?_, by go_num, by omega, ⟨fun j hj hjk => ?_⟩, ⟨HBW.out _ hbn, hW.out.2.grow hbn⟩⟩
         ·rw [HST.out]
         ·rcases Nat.lt_succ_iff_lt_or_eq.1 hjk with h | h
          ·exact hall.out j hj h
          ·subst h
           rw [← HQ.out]
           exact hpo
        case measure => simp [intOf]; omega
   ·have hlt' : ¬ (k : Int) < (n : Int) := by omega
    obtain rfl : k = n := by omega
    have hts : sumP (ps.take k) = sumP ps := by rw [HN.out, List.take_length]
    have hallp : ps.all (pieceOk schema) = true := List.all_eq_true.2 fun p hp => by
     obtain ⟨j, hj, rfl⟩ := List.mem_iff_getElem.1 hp
     exact hall.out j hj (by rw [HN.out]; exact hj)
    have hRR : R = ((sumP ps == len) && decide (sumP ps ≤ 1000)) := by
     rw [HR.out]
     unfold fileQ
     rw [hallp, h1, show inI writer 0 9 = true from inI_iff.2 ⟨h3, h4⟩, decide_eq_true (by rw [← HN.out]; exact h5)]
     simp
    have HRR := Shut.mk hRR
    rw [hts] at hsum ⊢
    generalize sumP ps = sm at *
    clear hallp hRR hts
    go_wp2_with fail
    all_goals
     go_ret
     refine ⟨?_, hW.out.1⟩
     rw [HRR.out]
     first | (simp [*]; done) | (simp [*]; intros; omega)
 ·have HH := Shut.mk hh
  have hRF : R = false := by
   rw [HR.out]
   refine Bool.eq_false_iff.2 fun hc => hh ?_
   unfold fileQ at hc
   simp only [Bool.and_eq_true, beq_iff_eq, decide_eq_true_eq] at hc
   obtain ⟨⟨⟨⟨⟨⟨a1, a2⟩, a3⟩, a4⟩, _⟩, _⟩, _⟩ := hc
   exact ⟨a1, a2, (inI_iff.1 a3).1, (inI_iff.1 a3).2, by rw [HN.out]; exact a4⟩
  rw [hRF]
  clear hh hRF
  go_enter Tryz.func118, Tryz.ntmps118
  go_upto_region 3 with (go_at_call 115; refine (implSchemaOk _ _).mono ?_; rintro e w1 ⟨rfl, rfl⟩)
  all_goals first
   | (go_ret; exact ⟨rfl, (Below.refl _ _).alloc (Nat.le_refl _) _⟩)
   | exact absurd ⟨by assumption, by omega, by omega, by omega, by omega⟩ HH.out
theorem dirQ_is (n : NM) : (((n.schema == 0) || inI n.schema 1 3) && decide (0 ≤ n.quota) && decide (n.quota ≤ 1000) && (n.len == 0) && ((n.pieces.length : Int) == 0) && (n.writer == 0)) = dirOk n := by
 unfold dirOk
 have e1 : ((n.schema == 0) || inI n.schema 1 3) = inI n.schema 0 3 := by
  unfold inI
  rw [Bool.eq_iff_iff]
  simp
  omega
 have e2 : inI n.quota 0 1000 = (decide (0 ≤ n.quota) && decide (n.quota ≤ 1000)) := rfl
 have e3 : ((n.pieces.length : Int) == 0) = decide (n.pieces.length = 0) := by
  rw [Bool.eq_iff_iff]
  simp
 rw [e1, e2, e3]
 cases inI n.schema 0 3 <;> cases decide (0 ≤ n.quota) <;> cases decide (n.quota ≤ 1000) <;> rfl
theorem fileQ_is (n : NM) : fileQ n.schema n.quota n.len n.writer n.pieces = fileOk n := by
 unfold fileQ fileOk
 cases inI n.schema 1 3 <;> cases (n.quota == 0) <;> cases inI n.writer 0 9 <;> cases decide (n.pieces.length ≤ 40) <;> rfl
theorem rootQ_is (n : NM) : ((n.id == 1) && (n.parent == 0) && (n.name.toList == []) && n.dir && inI n.schema 1 3) = rootB n := by
 unfold rootB
 have : (n.name.toList == []) = decide (n.name = ⟨#[]⟩) := by
  rw [Bool.eq_iff_iff]
  simp only [beq_iff_eq, decide_eq_true_eq]
  constructor
  ·intro h
   rw [Go.ByteArray.toList_eq] at h
   exact ByteArray.ext (Array.toList_inj.1 h)
  ·intro h
   rw [h, Go.ByteArray.toList_eq]
 rw [this]
set_option maxHeartbeats 1000000 in
theorem implNodeOk_any (id parent : Int) (name : ByteArray) (dir : Bool) (schema quota len writer : Int) (loc : Option Addr) (ps : List PM) (cap : Nat) (w : World) {lo hi : Nat} (hp : RRow w loc (pcs ps) lo hi) (hl : ps.length ≤ 1048576) :
  Calls Tryz.prog 73 #[.agg #[.int .i64 id, .int .i64 parent, .string name, .bool dir, .int .i64 schema, .int .i64 quota, .int .i64 len, .slice loc ps.length cap, .int .i64 writer]] w fun e w' => e = .returned (.bool (if dir then dirOk ⟨id, parent, name, dir, schema, quota, len, ps, writer⟩ else fileOk ⟨id, parent, name, dir, schema, quota, len, ps, writer⟩)) ∧ Below w.heap.size w w' := by
 have h1 := fun W => implDirOk id parent name dir schema quota len writer loc ps.length cap W
 have h2 := fun W (hb : Below w.heap.size w W) => implFileOk id parent name dir schema quota len writer loc ps cap W (hp.below hb) hl
 rw [← dirQ_is, ← fileQ_is]
 dsimp only
 generalize fileQ schema quota len writer ps = f at *
 obtain ⟨n, hn⟩ : ∃ n, n = ps.length := ⟨_, rfl⟩
 rw [← hn] at h1 h2 ⊢
 generalize ((schema == 0 || inI schema 1 3) && decide (0 ≤ quota) && decide (quota ≤ 1000) && len == 0 && (n : Int) == 0 && writer == 0) = d at *
 have H1 := Shut.mk h1
 have H2 := Shut.mk h2
 clear h1 h2 hn hp hl
 cases dir with
 | true =>
  go_enter Tryz.func73, Tryz.ntmps73
  go_wp2_with fail
  refine (H1.out _).mono ?_
  rintro e w1 ⟨rfl, hb⟩
  go_wp2_with fail
  go_ret
  exact ⟨rfl, ((Below.refl _ _).alloc (Nat.le_refl _) _).trans (hb.mono (by simp))⟩
 | false =>
  go_enter Tryz.func73, Tryz.ntmps73
  go_wp2_with fail
  refine (H2.out _ ((Below.refl _ _).alloc (Nat.le_refl _) _)).mono ?_
  rintro e w1 ⟨rfl, hb⟩
  go_wp2_with fail
  go_ret
  exact ⟨rfl, ((Below.refl _ _).alloc (Nat.le_refl _) _).trans (hb.mono (by simp))⟩
theorem implNodeOk (r : NR) (w : World) {lo hi : Nat} (hp : RRow w r.loc (pcs r.nd.pieces) lo hi) (hl : r.nd.pieces.length ≤ 1048576) : Calls Tryz.prog 73 #[nv r] w fun e w' => e = .returned (.bool (kindB r.nd)) ∧ Below w.heap.size w w' :=
 implNodeOk_any r.nd.id r.nd.parent r.nd.name r.nd.dir r.nd.schema r.nd.quota r.nd.len r.nd.writer r.loc r.nd.pieces r.cap w hp hl
def IdsTo (T : TM) (k : Nat) : Prop := ∀ j, j < k → (T.nodes.getD j default).id < T.next ∧ (j = 0 ∨ (T.nodes.getD (j - 1) default).id < (T.nodes.getD j default).id)
theorem ids_yes {T : TM} (h : T.next ≤ 100000) (hk : IdsTo T T.nodes.length) : idsB T = true := by
 unfold idsB
 rw [decide_eq_true h]
 simp only [Bool.true_and]
 refine List.all_eq_true.2 fun i hi => ?_
 obtain ⟨h1, h2⟩ := hk i (by simpa using hi)
 rw [decide_eq_true h1]
 rcases h2 with e | e
 ·simp [e]
 ·rw [decide_eq_true e]; simp
theorem ids_no {T : TM} {k : Nat} (hk : k < T.nodes.length) (h : ¬ ((T.nodes.getD k default).id < T.next ∧ (k = 0 ∨ (T.nodes.getD (k - 1) default).id < (T.nodes.getD k default).id))) : idsB T = false := by
 refine Bool.eq_false_iff.2 fun hc => h ?_
 unfold idsB at hc
 simp only [Bool.and_eq_true, List.all_eq_true, List.mem_range, Bool.or_eq_true, decide_eq_true_eq] at hc
 exact hc.2 k hk
theorem ids_next {T : TM} (h : ¬ T.next ≤ 100000) : idsB T = false := by
 unfold idsB
 rw [decide_eq_false h]
 simp
set_option maxHeartbeats 2000000 in
theorem implIdsOk {w : World} {v : Value} {T : TM} {lo hi : Nat} (h : TSee w v T lo hi) (hf : NFit T) : Calls Tryz.prog 70 #[v] w fun e w' => e = .returned (.bool (idsB T)) ∧ Below w.heap.size w w' := by
 obtain ⟨a, cap, rs, rfl, hr, hm⟩ := h
 have hl : rs.length ≤ 1048576 := by unfold NFit at hf; rw [← hr, nds_len] at hf; omega
 obtain ⟨R, hR⟩ : ∃ R, R = idsB T := ⟨_, rfl⟩
 rw [← hR]
 have HR := Shut.mk hR
 have hlen : rs.length = T.nodes.length := by rw [← hr, nds_len]
 have hget : ∀ j (hj : j < rs.length), T.nodes.getD j default = rs[j].nd := fun j hj => by
  rw [← hr, getD_in (by rw [nds_len]; exact hj)]
  simp [nds]
 have HG := Shut.mk hget
 obtain ⟨n, hn⟩ : ∃ n, n = rs.length := ⟨_, rfl⟩
 rw [← hn] at hl hlen ⊢
 have HL := Shut.mk hlen
 have HN := Shut.mk hn
 have HM := Shut.mk hm
 obtain ⟨nx, hnx⟩ : ∃ nx, nx = T.next := ⟨_, rfl⟩
 rw [← hnx]
 have HX := Shut.mk hnx
 clear hR hr hm hf hlen hget hn hnx
 by_cases h1 : nx ≤ 100000
 ·go_enter Tryz.func70, Tryz.ntmps70
  go_upto_region 3 with fail
  refine wp_shade (fun W => BX w W a n cap nx) (BX.new w a n cap nx 26) ?_
  intro W hg
  have HW := Shut.mk hg
  have x0 := (hg.box.2 0 _ rfl).1
  clear hg
  go_wp2_with fail
  go_loopw [11] (fun i wr => ∃ (k : Nat), i = .int .i64 k ∧ k ≤ n ∧ Shut (IdsTo T k) ∧ Shut (BX w wr a n cap nx)) (fun i _ => n - (intOf i).toNat)
  case atStart => exact ⟨0, rfl, Nat.zero_le _, ⟨fun _ h => absurd h (Nat.not_lt_zero _)⟩, HW⟩
  case round =>
   clear HW x0
   obtain ⟨k, rfl, hk, hto, hW⟩ := hrel
   have x0 := (hW.out.box.2 0 _ rfl).1
   have x1 := (hW.out.box.2 1 _ rfl).1
   have lw := hW.out.box.1
   by_cases hlt : k < n
   ·have hkr : k < rs.length := by rw [← HN.out]; exact hlt
    obtain ⟨b, off, rfl, lb, hc⟩ := TR.nat HM.out (by omega)
    have hnk := (hc k hkr).below hW.out.bel lb
    have hge := HG.out k hkr
    obtain ⟨r, hr⟩ : ∃ r, r = rs[k] := ⟨_, rfl⟩
    rw [← hr] at hnk hge
    have HGE := Shut.mk hge
    obtain ⟨c0, c1, c2, c3, c4, c5, c6, c7, c8⟩ := hnk
    have lb' : b < wr.heap.size := Nat.lt_of_lt_of_le lb hW.out.bel.size
    have k0 : (0 : Int) ≤ (k : Int) := by omega
    have k1 : (k : Int) < (n : Int) := by omega
    have HBN : Shut (∀ q, BX w ((wr.alloc (.cells #[.int .i64 r.nd.id, .int .i64 r.nd.parent, .string r.nd.name, .bool r.nd.dir, .int .i64 r.nd.schema, .int .i64 r.nd.quota, .int .i64 r.nd.len, .slice r.loc r.nd.pieces.length r.cap, .int .i64 r.nd.writer] 47)).drewN q) (some ⟨b, off, none⟩) n cap nx) := ⟨fun q => hW.out.below (((Below.refl _ _).alloc (Nat.le_refl _) _).trans (Below.mono (B := wr.heap.size) ⟨rfl, rfl, rfl, Nat.le_refl _, fun _ _ => rfl⟩ (Nat.le_refl _)))⟩
    have hpr : ∀ (hkp : 0 < k), wr.cell? ⟨b, off + (k - 1) * 9, none⟩ = some (.int .i64 (T.nodes.getD (k - 1) default).id) := fun hkp => by
     rw [HG.out (k - 1) (by omega)]
     exact ((hc (k - 1) (by omega)).below hW.out.bel lb).1
    have HPR := Shut.mk hpr
    clear hc hr hge hpr
    obtain ⟨pid, hpid⟩ : ∃ p, p = (T.nodes.getD (k - 1) default).id := ⟨_, rfl⟩
    rw [← hpid] at HPR
    have HPI := Shut.mk hpid
    clear hpid
    obtain ⟨id, hid⟩ : ∃ p, p = r.nd.id := ⟨_, rfl⟩
    rw [← hid] at c0 HBN
    have HID := Shut.mk hid
    clear hid
    by_cases a1 : nx ≤ id
    ·have HF : Shut (R = false) := ⟨by rw [HR.out]; exact ids_no (by rw [← HL.out]; exact hlt) (fun hc => by rw [HGE.out, ← HID.out, ← HX.out] at hc; omega)⟩
     go_upto_region 6 with fail
     go_quiet (fail)
     go_wp2_with fail
     go_ret
     exact ⟨by rw [HF.out]; rfl, (HBN.out _).bel⟩
    ·by_cases a2 : 0 < k
     ·have cp := HPR.out a2
      have hk1 : (k : Int) - 1 = ((k - 1 : Nat) : Int) := by omega
      have hk2 : (0 : Int) ≤ ((k - 1 : Nat) : Int) := by omega
      have hk3 : ((k - 1 : Nat) : Int) < (n : Int) := by omega
      have hkp : (0 : Int) < (k : Int) := by omega
      by_cases a3 : id ≤ pid
      ·have HF : Shut (R = false) := ⟨by rw [HR.out]; exact ids_no (by rw [← HL.out]; exact hlt) (fun hc => by rw [HGE.out, ← HID.out, ← HPI.out] at hc; omega)⟩
       go_upto_region 6 with fail
       go_quiet (fail)
       go_wp2_with fail
       go_ret
       exact ⟨by rw [HF.out]; rfl, (HBN.out _).bel⟩
      ·go_upto_region 6 with fail
       go_quiet (fail)
       go_wp2_with fail
       go_roundw
       case rel =>
        refine ⟨k + 1, by go_num, by omega, ⟨fun j hj => ?_⟩, ⟨HBN.out _⟩⟩
        rcases Nat.lt_succ_iff_lt_or_eq.1 hj with h | h
        ·exact hto.out j h
        ·subst h
         rw [HGE.out, ← HID.out, ← HPI.out, ← HX.out]
         exact ⟨by omega, .inr (by omega)⟩
       case measure => simp [intOf]; omega
     ·have hkn : decide ((0 : Int) < (k : Int)) = false := by simp; omega
      have hkn' : ¬ (0 : Int) < (k : Int) := by omega
      go_upto_region 6 with fail
      go_quiet (fail)
      go_wp2_with fail
      go_roundw
      case rel =>
       refine ⟨k + 1, by go_num, by omega, ⟨fun j hj => ?_⟩, ⟨HBN.out _⟩⟩
       rcases Nat.lt_succ_iff_lt_or_eq.1 hj with h | h
       ·exact hto.out j h
       ·subst h
        rw [HGE.out, ← HID.out, ← HX.out]
        exact ⟨by omega, .inl (by omega)⟩
      case measure => simp [intOf]; omega
   ·have hlt' : ¬ (k : Int) < (n : Int) := by omega
    obtain rfl : k = n := by omega
    have HT : Shut (R = true) := ⟨by rw [HR.out]; exact ids_yes (by rw [← HX.out]; exact h1) (by rw [← HL.out]; exact hto.out)⟩
    go_wp2_with fail
    go_ret
    exact ⟨by rw [HT.out]; rfl, hW.out.bel⟩
 ·have HF : Shut (R = false) := ⟨by rw [HR.out]; exact ids_next (by rw [← HX.out]; exact h1)⟩
  go_enter Tryz.func70, Tryz.ntmps70
  go_wp2_with fail
  go_ret
  exact ⟨by rw [HF.out]; rfl, (Below.refl _ _).alloc (Nat.le_refl _) _⟩
def NodesTo (T : TM) (k : Nat) : Prop := ∀ j, j < k → kindB (T.nodes.getD j default) = true ∧ (j = 0 ∨ placeB T.nodes j = true)
theorem prog_yes {T : TM} (h1 : inI (T.nodes.length : Int) 1 14 = true) (h2 : idsB T = true) (h3 : rootB (T.nodes.getD 0 default) = true) (h4 : NodesTo T T.nodes.length) : treeOk T = true := by
 rw [← prog_tree]
 unfold progB
 rw [h1, h2, h3]
 simp only [Bool.true_and]
 refine List.all_eq_true.2 fun i hi => ?_
 obtain ⟨q1, q2⟩ := h4 i (by simpa using hi)
 rw [q1]
 rcases q2 with e | e
 ·simp [e]
 ·rw [e]; simp
theorem prog_no {T : TM} {k : Nat} (hk : k < T.nodes.length) (h : ¬ (kindB (T.nodes.getD k default) = true ∧ (k = 0 ∨ placeB T.nodes k = true))) : treeOk T = false := by
 rw [← prog_tree]
 refine Bool.eq_false_iff.2 fun hc => h ?_
 unfold progB at hc
 simp only [Bool.and_eq_true, List.all_eq_true, List.mem_range, Bool.or_eq_true, decide_eq_true_eq] at hc
 exact hc.2 k hk
theorem prog_ids {T : TM} (h : idsB T = false) : treeOk T = false := by
 rw [← prog_tree]
 unfold progB
 rw [h]
 simp
theorem prog_root {T : TM} (h : rootB (T.nodes.getD 0 default) = false) : treeOk T = false := by
 rw [← prog_tree]
 unfold progB
 rw [h]
 simp
structure BL (w W : World) (a : Option Addr) (n cap : Nat) (nx : Int) (L b1 b2 : Nat) (rs : List NR) (G : Nat → Nat) (C : Int → Nat) : Prop where
 bx : BX w W a n cap nx
 vr : WCells W L [.map (some b1), .map (some b2)]
 lk : Lk W w.heap.size b1 b2 rs G C (Ab (nds rs) fun _ => false)
theorem BL.below {w W W' : World} {a : Option Addr} {n cap L b1 b2 : Nat} {nx : Int} {rs : List NR} {G : Nat → Nat} {C : Int → Nat} (h : BL w W a n cap nx L b1 b2 rs G C) (hb : Below W.heap.size W W') : BL w W' a n cap nx L b1 b2 rs G C := ⟨h.bx.below hb, h.vr.grow hb, h.lk.below hb⟩
theorem Lk.base {w : World} {B B' b1 b2 : Nat} {rs : List NR} {G : Nat → Nat} {C : Int → Nat} {A : Nat → Option Nat} (h : Lk w B b1 b2 rs G C A) (hB : B' ≤ B) : Lk w B' b1 b2 rs G C A := by
 obtain ⟨m1, m2, m3, inj, cells, one, lo⟩ := h
 refine ⟨m1, m2, fun p hp => ?_, inj, fun i hi => ⟨(cells i hi).1, Nat.le_trans hB (cells i hi).2⟩, one, by omega⟩
 obtain ⟨q1, q2⟩ := m3 p hp
 exact ⟨by omega, q2⟩
set_option maxHeartbeats 4000000 in
theorem implTreeOk (w : World) (v : Value) (T : TM) (lo hi : Nat) (h : TSee w v T lo hi) (hf : NFit T) (hI : NInt T.nodes) : Calls Tryz.prog 17 #[v] w fun e w' => e = .returned (.bool (treeOk T)) ∧ Below w.heap.size w w' := by
 have hsee := h
 obtain ⟨a, cap, rs, rfl, hr, hm⟩ := h
 have hlen : rs.length = T.nodes.length := by rw [← hr, nds_len]
 have hl : rs.length ≤ 1048576 := by unfold NFit at hf; omega
 have hget : ∀ j (hj : j < rs.length), T.nodes.getD j default = rs[j].nd := fun j hj => by
  rw [← hr, getD_in (by rw [nds_len]; exact hj)]
  simp [nds]
 have hsz : ∀ x ∈ nds rs, x.name.size ≤ 1048576 ∧ x.pieces.length ≤ 1048576 := fun x hx => by
  rw [hr] at hx
  have := nsum_mem hx
  unfold NFit at hf
  omega
 obtain ⟨R, hR⟩ : ∃ R, R = treeOk T := ⟨_, rfl⟩
 rw [← hR]
 obtain ⟨n, hn⟩ : ∃ n, n = rs.length := ⟨_, rfl⟩
 obtain ⟨nx, hnx⟩ : ∃ nx, nx = T.next := ⟨_, rfl⟩
 rw [← hn] at hl hlen hsee ⊢
 rw [← hnx] at hsee ⊢
 have hids := fun W (hb : Below w.heap.size w W) => implIdsOk (hsee.below hb) hf
 have HR := Shut.mk hR
 have HG := Shut.mk hget
 have HL := Shut.mk hlen
 have HN := Shut.mk hn
 have HM := Shut.mk hm
 have HE := Shut.mk hr
 have HI := Shut.mk hI
 have HS := Shut.mk hsz
 have HID := Shut.mk hids
 clear hR hget hlen hm hr hI hsz hids hsee hnx hf hn
 by_cases h1 : n < 1
 ·have HF : Shut (R = false) := ⟨by rw [HR.out]; exact treeOk_len (Bool.eq_false_iff.2 fun hc => by have := inI_iff.1 hc; have := HL.out; omega)⟩
  have h1' : (n : Int) < 1 := by omega
  go_enter Tryz.func17, Tryz.ntmps17
  go_wp2_with fail
  go_ret
  exact ⟨by rw [HF.out]; rfl, (Below.refl _ _).alloc (Nat.le_refl _) _⟩
 have h1' : ¬ (n : Int) < 1 := by omega
 by_cases h2 : 14 < n
 ·have HF : Shut (R = false) := ⟨by rw [HR.out]; exact treeOk_len (Bool.eq_false_iff.2 fun hc => by have := inI_iff.1 hc; have := HL.out; omega)⟩
  have h2' : (14 : Int) < (n : Int) := by omega
  go_enter Tryz.func17, Tryz.ntmps17
  go_wp2_with fail
  go_ret
  exact ⟨by rw [HF.out]; rfl, (Below.refl _ _).alloc (Nat.le_refl _) _⟩
 have h2' : ¬ (14 : Int) < (n : Int) := by omega
 cases hid : idsB T with
 | false =>
  rw [hid] at HID
  have HF : Shut (R = false) := ⟨by rw [HR.out]; exact prog_ids hid⟩
  go_enter Tryz.func17, Tryz.ntmps17
  go_wp2_with (go_at_call 70; refine (HID.out _ ((Below.refl _ _).alloc (Nat.le_refl _) _)).mono ?_; rintro e w1 ⟨rfl, hb1⟩)
  go_ret
  exact ⟨by rw [HF.out]; rfl, ((Below.refl _ _).alloc (Nat.le_refl _) _).trans (hb1.mono (by simp))⟩
 | true =>
  rw [hid] at HID
  obtain ⟨b, off, ha, lb, hc⟩ := TR.nat HM.out (by have := HN.out; omega)
  have hn0 : 0 < rs.length := by have := HN.out; omega
  have hc0 := hc 0 hn0
  rw [Nat.zero_mul, Nat.add_zero] at hc0
  have hg0 := HG.out 0 hn0
  obtain ⟨r0, hr0⟩ : ∃ r, r = rs[0] := ⟨_, rfl⟩
  rw [← hr0] at hc0 hg0
  have hroot := fun W => implRootOk r0.nd.id r0.nd.parent r0.nd.name r0.nd.dir r0.nd.schema r0.nd.quota r0.nd.len r0.nd.writer r0.loc r0.nd.pieces.length r0.cap W
  have hrb : rootB r0.nd = rootB (T.nodes.getD 0 default) := by rw [hg0]
  simp only [rootQ_is, hrb] at hroot
  have HRT := Shut.mk hroot
  have HC0 := Shut.mk hc0
  have HID2 := Shut.mk hid
  rw [ha] at HM HID ⊢
  clear hc hc0 hg0 hr0 hroot hid hrb
  cases hrt : rootB (T.nodes.getD 0 default) with
  | false =>
   rw [hrt] at HRT
   have HF : Shut (R = false) := ⟨by rw [HR.out]; exact prog_root hrt⟩
   clear hrt
   go_enter Tryz.func17, Tryz.ntmps17
   go_wp2_with (first
    | (go_at_call 70; refine (HID.out _ ((Below.refl _ _).alloc (Nat.le_refl _) _)).mono ?_; rintro e w1 ⟨rfl, hb1⟩; have hbb : Below w.heap.size w w1 := ((Below.refl _ _).alloc (Nat.le_refl _) _).trans (hb1.mono (by simp)); obtain ⟨c0, c1, c2, c3, c4, c5, c6, c7, c8⟩ := HC0.out.below hbb lb; have x0 : w1.cell? ⟨w.heap.size, 0, none⟩ = some (.slice (some ⟨b, off, none⟩) n cap) := (hb1.cell (by simp)).trans (by simp); have HBB := Shut.mk hbb)
    | (go_at_call 71; refine (HRT.out _).mono ?_; rintro e w2 ⟨rfl, hb2⟩))
   go_ret
   exact ⟨by rw [HF.out]; rfl, HBB.out.trans (hb2.mono HBB.out.size)⟩
  | true =>
   rw [hrt] at HRT
   have HRT2 := Shut.mk hrt
   clear hrt
   go_enter Tryz.func17, Tryz.ntmps17
   go_wp2_with (first
    | (go_at_call 70; refine (HID.out _ ((Below.refl _ _).alloc (Nat.le_refl _) _)).mono ?_; rintro e w1 ⟨rfl, hb1⟩; have hbb : Below w.heap.size w w1 := ((Below.refl _ _).alloc (Nat.le_refl _) _).trans (hb1.mono (by simp)); obtain ⟨c0, c1, c2, c3, c4, c5, c6, c7, c8⟩ := HC0.out.below hbb lb; have x0 : w1.cell? ⟨w.heap.size, 0, none⟩ = some (.slice (some ⟨b, off, none⟩) n cap) := (hb1.cell (by simp)).trans (by simp); have HBX : Shut (BX w w1 (some ⟨b, off, none⟩) n cap nx) := ⟨(BX.new w (some ⟨b, off, none⟩) n cap nx 26).below hb1⟩)
    | (go_at_call 71; refine (HRT.out _).mono ?_; rintro e w2 ⟨rfl, hb2⟩; replace HBX := Shut.mk (HBX.out.below hb2); have y0 := (HBX.out.box.2 0 _ rfl).1))
   have hlk : Calls Tryz.prog 72 #[.slice (some ⟨b, off, none⟩) n cap] w2 fun e w' => ∃ b1 b2 G C, e = .returned (.agg #[.map (some b1), .map (some b2)]) ∧ Lk w' w2.heap.size b1 b2 rs G C (Ab (nds rs) fun _ => false) ∧ Below w2.heap.size w2 w' := by
    rw [HN.out]
    exact linkNodes_any (HM.out.below HBX.out.bel) (by rw [← HN.out]; exact hl) (by rw [HE.out]; exact HI.out) (fun x hx => by have := (HS.out x hx).1; unfold maxLen; omega)
   clear c0 c1 c2 c3 c4 c5 c6 c7 c8 x0 hb1 hb2 hbb HC0
   refine hlk.mono ?_
   rintro e w3 ⟨b1, b2, G, C, rfl, hLk, hb3⟩
   have hbx3 := HBX.out.below hb3
   have HB3 := Shut.mk hbx3
   have HL3 := Shut.mk (hLk.base HBX.out.bel.size)
   clear hlk y0 hb3 hbx3 hLk HBX
   have y0 := (HB3.out.box.2 0 _ rfl).1
   have ly := HB3.out.box.1
   go_upto_region 4 with fail
   refine wp_shade (fun W => BL w W (some ⟨b, off, none⟩) n cap nx w3.heap.size b1 b2 rs G C) ?_ ?_
   ·have hb : Below w3.heap.size w3 (w3.alloc (.cells #[.map (some b1), .map (some b2)] 89)) := (Below.refl _ _).alloc (Nat.le_refl _) _
    exact ⟨HB3.out.below hb, wcells_new w3 #[.map (some b1), .map (some b2)] 89, HL3.out.below hb⟩
   intro W hW
   have HW := Shut.mk hW
   clear hW y0
   have y0 := (HW.out.bx.box.2 0 _ rfl).1
   obtain ⟨L, hL⟩ : ∃ L, L = w3.heap.size := ⟨_, rfl⟩
   rw [← hL] at HW ⊢
   have HASC : Shut (Asc (nds rs)) := ⟨by rw [HE.out]; exact ids_asc HID2.out HRT2.out (by rw [← HL.out]; omega)⟩
   clear HB3 HL3 hL ly HID HRT
   go_wp2_with fail
   go_loopw [35] (fun i wr => ∃ (k : Nat), i = .int .i64 k ∧ k ≤ n ∧ Shut (NodesTo T k) ∧ Shut (BL w wr (some ⟨b, off, none⟩) n cap nx L b1 b2 rs G C)) (fun i _ => n - (intOf i).toNat)
   case atStart => exact ⟨0, rfl, Nat.zero_le _, ⟨fun _ h => absurd h (Nat.not_lt_zero _)⟩, HW⟩
   case round =>
    clear HW y0
    obtain ⟨k, rfl, hk, hto, hW⟩ := hrel
    have v0 := (hW.out.vr.2 0 _ rfl).1
    have v1 := (hW.out.vr.2 1 _ rfl).1
    have lv := hW.out.vr.1
    by_cases hlt : k < n
    ·have hkr : k < rs.length := by rw [← HN.out]; exact hlt
     obtain ⟨b', off', hab, _, hc⟩ := TR.nat HM.out (by omega)
     have e1 : b' = b ∧ off' = off := by simpa using hab.symm
     obtain ⟨rfl, rfl⟩ := e1
     have hnk := (hc k hkr).below hW.out.bx.bel lb
     have hge := HG.out k hkr
     have hmem : rs[k].nd ∈ nds rs := List.mem_map.2 ⟨_, List.getElem_mem hkr, rfl⟩
     have hno : ∀ W', Below w.heap.size w W' → Calls Tryz.prog 73 #[nv rs[k]] W' fun e w' => e = .returned (.bool (kindB (T.nodes.getD k default))) ∧ Below W'.heap.size W' w' := fun W' hb => by
      rw [hge]
      exact implNodeOk rs[k] W' ((HM.out.2 _ (List.getElem_mem hkr)).below hb) (HS.out _ hmem).2
     have hpo : ∀ W', BL w W' (some ⟨b', off', none⟩) n cap nx L b1 b2 rs G C → Calls Tryz.prog 74 #[.agg #[.map (some b1), .map (some b2)], nv rs[k]] W' fun e w' => e = .returned (.bool (placeB T.nodes k)) ∧ Below W'.heap.size W' w' := fun W' hb => by
      have := placeOk_any hb.lk HASC.out (by rw [HE.out]; exact HI.out) (fun x hx => (HS.out x hx).1) hkr
      rw [HE.out] at this
      exact this
     obtain ⟨r, hr⟩ : ∃ r, r = rs[k] := ⟨_, rfl⟩
     rw [← hr] at hnk hno hpo
     obtain ⟨⟨id, parent, name, dir, schema, quota, len, pieces, writer⟩, loc, cp⟩ := r
     dsimp only [nv] at hno hpo
     obtain ⟨c0, c1, c2, c3, c4, c5, c6, c7, c8⟩ := hnk
     dsimp only at c0 c1 c2 c3 c4 c5 c6 c7 c8
     generalize pieces.length = pn at *
     have HNO := Shut.mk hno
     have HPO := Shut.mk hpo
     have lb' : b' < wr.heap.size := Nat.lt_of_lt_of_le lb hW.out.bx.bel.size
     have k0 : (0 : Int) ≤ (k : Int) := by omega
     have k1 : (k : Int) < (n : Int) := by omega
     have HKL : Shut (k < T.nodes.length) := ⟨by rw [← HL.out]; exact hlt⟩
     clear hc hr hge hmem hno hpo hab
     have HBA : Shut (Below wr.heap.size wr (wr.alloc (.cells #[.int .i64 id, .int .i64 parent, .string name, .bool dir, .int .i64 schema, .int .i64 quota, .int .i64 len, .slice loc pn cp, .int .i64 writer] 47))) := ⟨(Below.refl _ _).alloc (Nat.le_refl _) _⟩
     have HNA : Shut (WCells (wr.alloc (.cells #[.int .i64 id, .int .i64 parent, .string name, .bool dir, .int .i64 schema, .int .i64 quota, .int .i64 len, .slice loc pn cp, .int .i64 writer] 47)) wr.heap.size [.int .i64 id, .int .i64 parent, .string name, .bool dir, .int .i64 schema, .int .i64 quota, .int .i64 len, .slice loc pn cp, .int .i64 writer]) := ⟨wcells_new wr #[.int .i64 id, .int .i64 parent, .string name, .bool dir, .int .i64 schema, .int .i64 quota, .int .i64 len, .slice loc pn cp, .int .i64 writer] 47⟩
     cases hkd : kindB (T.nodes.getD k default) with
     | false =>
      rw [hkd] at HNO
      have HF : Shut (R = false) := ⟨by rw [HR.out]; exact prog_no HKL.out (fun hc => by rw [hkd] at hc; cases hc.1)⟩
      clear hkd
      go_wp2_with (go_at_call 73; refine (HNO.out _ (hW.out.bx.bel.trans (((Below.refl _ _).alloc (Nat.le_refl _) _).mono hW.out.bx.bel.size))).mono ?_; rintro e w4 ⟨rfl, hb4⟩; have hW4 := (hW.out.below HBA.out).below hb4; have HW4 := Shut.mk hW4; have u0 := (hW4.vr.2 0 _ rfl).1; have u1 := (hW4.vr.2 1 _ rfl).1; have hnd := HNA.out.grow hb4; have d0 := (hnd.2 0 _ rfl).1; have d1 := (hnd.2 1 _ rfl).1; have d2 := (hnd.2 2 _ rfl).1; have d3 := (hnd.2 3 _ rfl).1; have d4 := (hnd.2 4 _ rfl).1; have d5 := (hnd.2 5 _ rfl).1; have d6 := (hnd.2 6 _ rfl).1; have d7 := (hnd.2 7 _ rfl).1; have d8 := (hnd.2 8 _ rfl).1; clear hW4 hnd hb4)
      go_ret
      exact ⟨by rw [HF.out]; rfl, HW4.out.bx.bel⟩
     | true =>
      rw [hkd] at HNO
      have HKD := Shut.mk hkd
      clear hkd
      by_cases hk0 : 0 < k
      ·have hkp : (0 : Int) < (k : Int) := by omega
       cases hpl : placeB T.nodes k with
       | false =>
        rw [hpl] at HPO
        have HF : Shut (R = false) := ⟨by rw [HR.out]; exact prog_no HKL.out (fun hc => by rw [hpl] at hc; rcases hc.2 with h | h; omega; cases h)⟩
        clear hpl
        go_wp2_with (first | (go_at_call 73; refine (HNO.out _ (hW.out.bx.bel.trans (((Below.refl _ _).alloc (Nat.le_refl _) _).mono hW.out.bx.bel.size))).mono ?_; rintro e w4 ⟨rfl, hb4⟩; have hW4 := (hW.out.below HBA.out).below hb4; have HW4 := Shut.mk hW4; have u0 := (hW4.vr.2 0 _ rfl).1; have u1 := (hW4.vr.2 1 _ rfl).1; have hnd := HNA.out.grow hb4; have d0 := (hnd.2 0 _ rfl).1; have d1 := (hnd.2 1 _ rfl).1; have d2 := (hnd.2 2 _ rfl).1; have d3 := (hnd.2 3 _ rfl).1; have d4 := (hnd.2 4 _ rfl).1; have d5 := (hnd.2 5 _ rfl).1; have d6 := (hnd.2 6 _ rfl).1; have d7 := (hnd.2 7 _ rfl).1; have d8 := (hnd.2 8 _ rfl).1; clear hW4 hnd hb4) | (go_at_call 74; refine (HPO.out _ HW4.out).mono ?_; rintro e w5 ⟨rfl, hb5⟩))
        go_ret
        exact ⟨by rw [HF.out]; rfl, (HW4.out.below hb5).bx.bel⟩
       | true =>
        rw [hpl] at HPO
        have HPL := Shut.mk hpl
        clear hpl
        go_wp2_with (first | (go_at_call 73; refine (HNO.out _ (hW.out.bx.bel.trans (((Below.refl _ _).alloc (Nat.le_refl _) _).mono hW.out.bx.bel.size))).mono ?_; rintro e w4 ⟨rfl, hb4⟩; have hW4 := (hW.out.below HBA.out).below hb4; have HW4 := Shut.mk hW4; have u0 := (hW4.vr.2 0 _ rfl).1; have u1 := (hW4.vr.2 1 _ rfl).1; have hnd := HNA.out.grow hb4; have d0 := (hnd.2 0 _ rfl).1; have d1 := (hnd.2 1 _ rfl).1; have d2 := (hnd.2 2 _ rfl).1; have d3 := (hnd.2 3 _ rfl).1; have d4 := (hnd.2 4 _ rfl).1; have d5 := (hnd.2 5 _ rfl).1; have d6 := (hnd.2 6 _ rfl).1; have d7 := (hnd.2 7 _ rfl).1; have d8 := (hnd.2 8 _ rfl).1; clear hW4 hnd hb4) | (go_at_call 74; refine (HPO.out _ HW4.out).mono ?_; rintro e w5 ⟨rfl, hb5⟩))
        go_roundw
        case rel =>
         refine ⟨k + 1, by go_num, by omega, ⟨fun j hj => ?_⟩, ⟨HW4.out.below hb5⟩⟩
         rcases Nat.lt_succ_iff_lt_or_eq.1 hj with h | h
         ·exact hto.out j h
         ·subst h
          exact ⟨HKD.out, .inr HPL.out⟩
        case measure => simp [intOf]; omega
      ·have hkn : decide ((0 : Int) < (k : Int)) = false := by simp; omega
       have hkn' : ¬ (0 : Int) < (k : Int) := by omega
       go_wp2_with (go_at_call 73; refine (HNO.out _ (hW.out.bx.bel.trans (((Below.refl _ _).alloc (Nat.le_refl _) _).mono hW.out.bx.bel.size))).mono ?_; rintro e w4 ⟨rfl, hb4⟩; have hW4 := (hW.out.below HBA.out).below hb4; have HW4 := Shut.mk hW4; have u0 := (hW4.vr.2 0 _ rfl).1; have u1 := (hW4.vr.2 1 _ rfl).1; have hnd := HNA.out.grow hb4; have d0 := (hnd.2 0 _ rfl).1; have d1 := (hnd.2 1 _ rfl).1; have d2 := (hnd.2 2 _ rfl).1; have d3 := (hnd.2 3 _ rfl).1; have d4 := (hnd.2 4 _ rfl).1; have d5 := (hnd.2 5 _ rfl).1; have d6 := (hnd.2 6 _ rfl).1; have d7 := (hnd.2 7 _ rfl).1; have d8 := (hnd.2 8 _ rfl).1; clear hW4 hnd hb4)
       go_roundw
       case rel =>
        refine ⟨k + 1, by go_num, by omega, ⟨fun j hj => ?_⟩, HW4⟩
        rcases Nat.lt_succ_iff_lt_or_eq.1 hj with h | h
        ·exact hto.out j h
        ·subst h
         exact ⟨HKD.out, .inl (by omega)⟩
       case measure => simp [intOf]; omega
    ·have hlt' : ¬ (k : Int) < (n : Int) := by omega
     obtain rfl : k = n := by omega
     have HT : Shut (R = true) := ⟨by rw [HR.out]; exact prog_yes (inI_iff.2 (by have := HL.out; omega)) HID2.out HRT2.out (by rw [← HL.out]; exact hto.out)⟩
     go_wp2_with fail
     go_ret
     exact ⟨by rw [HT.out]; rfl, hW.out.bx.bel⟩
theorem field_id (p q : Option Nat) (W : World) : (Instr.field 89 (.agg #[.map p, .map q]) 0).run Tryz.prog W = .ok (.map p) W := by kernel_rfl
def AtPost (T : TM) (id : Int) (w : World) (e : Ending) (w' : World) : Prop := ∃ o, e = .returned (ptrV o) ∧ Below w.heap.size w w' ∧ ((treeOk T = false ∧ o = none) ∨ (treeOk T = true ∧ ∃ G, o = (fid T.nodes id).map G ∧ Nd w' T.nodes G))
theorem fit_name {T : TM} (hf : NFit T) : ∀ x ∈ T.nodes, x.name.size ≤ 1048576 ∧ x.pieces.length ≤ 1048576 := fun x hx => by
 have := nsum_mem hx
 unfold NFit at hf
 omega
set_option maxHeartbeats 1000000 in
theorem nodeAt_any (w : World) (v : Value) (T : TM) (lo hi : Nat) (id : Int) (h : TSee w v T lo hi) (hf : NFit T) (hI : NInt T.nodes) (hid : (Lit.int .i64 id).wf = true) : Calls Tryz.prog 92 #[v, .int .i64 id] w fun e w' => AtPost T id w e w' := by
 have hsee := h
 obtain ⟨a, cap, rs, rfl, hr, hm⟩ := h
 have hl : rs.length ≤ 1048576 := by unfold NFit at hf; rw [← hr, nds_len] at hf; omega
 obtain ⟨n, hn⟩ : ∃ n, n = rs.length := ⟨_, rfl⟩
 obtain ⟨nx, hnx⟩ : ∃ nx, nx = T.next := ⟨_, rfl⟩
 rw [← hn, ← hnx] at hsee ⊢
 have hok := fun W (hb : Below w.heap.size w W) => implTreeOk W _ T lo hi (hsee.below hb) hf hI
 have hlk := fun W (hb : Below w.heap.size w W) => linkNodes_any (cap := cap) (hm.below hb) hl (by rw [hr]; exact hI) (fun x hx => by rw [hr] at hx; have := (fit_name hf x hx).1; unfold maxLen; omega)
 rw [← hn] at hlk
 have HOK := Shut.mk hok
 have HLK := Shut.mk hlk
 have HR := Shut.mk hr
 clear hok hlk hr hm hsee hn hnx
 cases ht : treeOk T with
 | false =>
  rw [ht] at HOK
  have HT := Shut.mk ht
  clear ht
  go_enter Tryz.func92, Tryz.ntmps92
  go_wp2_with (go_at_call 17; refine (HOK.out _ ((Below.refl _ _).alloc (Nat.le_refl _) _)).mono ?_; rintro e w1 ⟨rfl, hb1⟩)
  go_ret
  exact ⟨none, rfl, ((Below.refl _ _).alloc (Nat.le_refl _) _).trans (hb1.mono (by simp)), .inl ⟨HT.out, rfl⟩⟩
 | true =>
  rw [ht] at HOK
  have HT := Shut.mk ht
  clear ht
  go_enter Tryz.func92, Tryz.ntmps92
  go_wp2_with (go_at_call 17; refine (HOK.out _ ((Below.refl _ _).alloc (Nat.le_refl _) _)).mono ?_; rintro e w1 ⟨rfl, hb1⟩; have hbx := (BX.new w a n cap nx 26).below hb1; have HBX := Shut.mk hbx; have x0 := (hbx.box.2 0 _ rfl).1; clear hb1 hbx)
  refine (HLK.out _ HBX.out.bel).mono ?_
  rintro e w2 ⟨b1, b2, G, C, rfl, hL, hb2⟩
  obtain ⟨D1, o1, t1⟩ := hL.m1
  have k1 := look_ptr keyI Tryz.underlying86 zeroLp o1 (key_int hid) (t1 id) 0
  rw [World.drewN_zero] at k1
  have HL := Shut.mk hL
  have HB := Shut.mk (HBX.out.bel.trans (hb2.mono HBX.out.bel.size))
  clear hL hb2 o1 t1 x0
  have k0 := field_id (some b1) (some b2)
  go_wp2_with fail
  go_ret
  refine ⟨(fid (nds rs) id).map G, rfl, HB.out, .inr ⟨HT.out, G, by rw [HR.out], ?_⟩⟩
  rw [← HR.out]
  exact HL.out.nd
set_option maxHeartbeats 1000000 in
theorem implSchemaAt (w : World) (v : Value) (T : TM) (lo hi : Nat) (id : Int) (h : TSee w v T lo hi) (hf : NFit T) (hI : NInt T.nodes) (hid : (Lit.int .i64 id).wf = true) : Calls Tryz.prog 39 #[v, .int .i64 id] w fun e w' => e = .returned (.int .i64 (schemaAtX T id)) ∧ Below w.heap.size w w' := by
 have hsee := h
 obtain ⟨a, cap, rs, rfl, hr, hm⟩ := h
 obtain ⟨n, hn⟩ : ∃ n, n = rs.length := ⟨_, rfl⟩
 obtain ⟨nx, hnx⟩ : ∃ nx, nx = T.next := ⟨_, rfl⟩
 rw [← hn, ← hnx] at hsee ⊢
 have hat := fun W (hb : Below w.heap.size w W) => nodeAt_any W _ T lo hi id (hsee.below hb) hf hI hid
 have HAT := Shut.mk hat
 obtain ⟨R, hR⟩ : ∃ R, R = schemaAtX T id := ⟨_, rfl⟩
 rw [← hR]
 have HR := Shut.mk hR
 clear hat hr hm hsee hn hnx hR hf hI hid
 go_enter Tryz.func39, Tryz.ntmps39
 go_wp2_with fail
 refine (HAT.out _ ((Below.refl _ _).alloc (Nat.le_refl _) _)).mono ?_
 rintro e w1 ⟨o, rfl, hb1, hcase⟩
 have HB := Shut.mk (((Below.refl w.heap.size w).alloc (Nat.le_refl _) (.cells #[.slice a n cap, .int .i64 nx] 26)).trans (hb1.mono (by simp)))
 clear hb1 HAT
 rcases hcase with ⟨ht, rfl⟩ | ⟨ht, G, rfl, hnd⟩
 ·have HE : Shut (R = 0) := ⟨by rw [HR.out]; unfold schemaAtX; rw [if_neg (by rw [ht]; decide)]⟩
  rw [ptr_none]
  clear ht
  go_wp2_with fail
  go_loopg [5] 0 (fun _ p wr => p = .pointer none ∧ wr = w1)
  case atStart => exact ⟨rfl, rfl⟩
  case round =>
   obtain ⟨rfl, rfl⟩ := hrel
   go_wp2_with fail
   go_ret
   exact ⟨by rw [HE.out]; rfl, HB.out⟩
 ·have HT := Shut.mk (tree_tall ht)
  have HND := Shut.mk hnd
  have HE : Shut (R = schemaF T.nodes 15 id) := ⟨by rw [HR.out]; unfold schemaAtX; rw [if_pos ht]⟩
  clear hnd ht
  obtain ⟨N, hN⟩ : ∃ N, ∀ j d, Ups T.nodes j d → j < T.nodes.length → d + 1 ≤ N := ⟨5, fun j d hu hj => by obtain ⟨d', hd, hu'⟩ := HT.out.2 j hj; rw [hu.det hu']; omega⟩
  have HNN := Shut.mk hN
  clear hN
  go_wp2_with fail
  go_loopg [5] N (fun m p wr => wr = w1 ∧ (Shut (p = .pointer none ∧ R = 0) ∨ Shut (∃ (j d r : Nat), p = .pointer (some ⟨G j, 0, none⟩) ∧ d + 1 ≤ m ∧ j < T.nodes.length ∧ Ups T.nodes j d ∧ schemaF T.nodes (d + 2 + r) (T.nodes.getD j default).id = R)))
  case atStart =>
   refine ⟨rfl, ?_⟩
   cases hf : fid T.nodes id with
   | none => exact .inl ⟨⟨rfl, by rw [HE.out]; exact schemaF_none hf⟩⟩
   | some j =>
    obtain ⟨hj, ej⟩ := fid_lt hf
    obtain ⟨d, hd, hu⟩ := HT.out.2 j hj
    refine .inr ⟨⟨j, d, 13 - d, rfl, HNN.out j d hu hj, hj, hu, ?_⟩⟩
    rw [HE.out, getD_in hj, ej, show d + 2 + (13 - d) = 15 by omega]
  case round =>
   obtain ⟨rfl, hrel⟩ := hrel
   rcases hrel with ⟨rfl, hR0⟩ | ⟨j, d, r, rfl, hdm, hj, hu, h1⟩
   ·have HE0 := Shut.mk hR0
    clear hR0
    go_wp2_with fail
    go_ret
    exact ⟨by rw [HE0.out]; rfl, HB.out⟩
   ·have c4 := (HND.out.cells j hj).2.2.2.2.1
    have hf := HT.out.1.fid hj
    have c9 := HND.out.above j hj hf
    have hge := getD_in hj
    obtain ⟨x, hx⟩ : ∃ x, x = T.nodes[j] := ⟨_, rfl⟩
    rw [← hx] at c4 c9 hge hf
    rw [hge, show d + 2 + r = (d + 1 + r) + 1 by omega, schemaF_some (i := j) hf, hge] at h1
    have HH := Shut.mk (And.intro h1 (And.intro hu hge))
    obtain ⟨o, ho⟩ : ∃ o, o = fid T.nodes x.parent := ⟨_, rfl⟩
    rw [← ho] at c9
    have HO := Shut.mk ho
    clear ho h1 hu hge hf hx
    by_cases hs : x.schema = 0
    ·cases o with
     | none =>
      simp only [Option.map_none, ptr_none] at c9
      go_wp2_with fail
      go_roundg (gk - 1)
      case measure => omega
      case rel =>
       refine ⟨rfl, .inl ⟨⟨rfl, ?_⟩⟩⟩
       obtain ⟨h1, hu, hge⟩ := HH.out
       rw [if_neg (by simp [hs])] at h1
       rw [← h1, show d + 1 + r = (d + r) + 1 by omega]
       exact schemaF_none HO.out.symm
     | some k =>
      simp only [Option.map_some, ptr_some] at c9
      go_wp2_with fail
      go_roundg (gk - 1)
      case measure => omega
      case rel =>
       refine ⟨rfl, .inr ⟨?_⟩⟩
       obtain ⟨h1, hu, hge⟩ := HH.out
       rw [if_neg (by simp [hs])] at h1
       cases hu with
       | root =>
        have e0 := HT.out.1.2.2.2
        have h4 := HO.out
        rw [hge] at e0
        rw [e0, HT.out.1.zero] at h4
        cases h4
       | @step _ k' d' _ _ hk hu' =>
        rw [hge, ← HO.out] at hk
        cases hk
        obtain ⟨hkl, ek⟩ := fid_lt HO.out.symm
        refine ⟨k, d', r, rfl, by omega, hkl, hu', ?_⟩
        rw [← ek, ← getD_in hkl] at h1
        rw [← h1, show d' + 2 + r = d' + 1 + 1 + r by omega]
    ·have hs' : (x.schema != 0) = true := by simp [hs]
     go_wp2_with fail
     go_ret
     refine ⟨?_, HB.out⟩
     obtain ⟨h1, hu, hge⟩ := HH.out
     rw [if_pos hs] at h1
     rw [← h1]
     rfl
theorem kid_keep9 (c : Int) (nm : ByteArray) : ∀ (ns : List NM) (z : Int), z ≠ 0 → ns.foldl (kidS c nm) z = z
 | [], z, _ => rfl
 | n :: ns, z, hz => by
  rw [List.foldl_cons]
  have : kidS c nm z n = z := by unfold kidS; rw [if_neg (by intro q; exact hz q.2.2)]
  rw [this]
  exact kid_keep9 c nm ns z hz
theorem kid_fnm (c : Int) (nm : ByteArray) : ∀ (ns : List NM), (∀ n ∈ ns, n.id ≠ 0) → kidF ns c nm = match fnm ns c nm with
  | none => 0
  | some k => (ns.getD k default).id
 | [], _ => rfl
 | n :: ns, h => by
  have ih := kid_fnm c nm ns (fun m hm => h m (by simp [hm]))
  unfold kidF fnm at ih ⊢
  rw [List.foldl_cons, List.findIdx?_cons]
  by_cases e : n.parent = c ∧ n.name = nm
  ·have e1 : kidS c nm 0 n = n.id := by unfold kidS; rw [if_pos ⟨e.1, e.2, rfl⟩]
   rw [e1, kid_keep9 c nm ns n.id (h n (by simp)), if_pos (by simp [e.1, e.2])]
   rfl
  ·have e1 : kidS c nm 0 n = 0 := by unfold kidS; rw [if_neg (by intro q; exact e ⟨q.1, q.2.1⟩)]
   rw [e1, ih, if_neg (by simpa using e)]
   cases ns.findIdx? (fun n => n.parent == c && decide (n.name = nm)) <;> rfl
def fo (ns : List NM) (o : Option Nat) (L : List ByteArray) : Int := match o with
 | none => 0
 | some j => findF ns L (ns.getD j default).id
theorem fo_step {ns : List NM} (hz : ∀ n ∈ ns, n.id ≠ 0) {j k : Nat} {L : List ByteArray} (hk : k < L.length) : fo ns (some j) (L.drop k) = fo ns (fnm ns (ns.getD j default).id (L.getD k ⟨#[]⟩)) (L.drop (k + 1)) := by
 show findF ns (L.drop k) (ns.getD j default).id = _
 rw [findF_step ns L k _ hk, kid_fnm _ _ ns hz]
 cases e : fnm ns (ns.getD j default).id (L.getD k ⟨#[]⟩) with
 | none => rfl
 | some q =>
  obtain ⟨hq, -, -⟩ := fnm_lt e
  have : (ns.getD q default).id ≠ 0 := by rw [getD_in hq]; exact hz _ (List.getElem_mem hq)
  simp only
  rw [if_neg this]
  rfl
theorem fo_first {T : TM} {p : ByteArray} {L : List ByteArray} (h : splitB p = (L, true)) : findX T p = fo T.nodes (fid T.nodes 1) L := by
 unfold findX
 rw [h, at_fid]
 cases e : fid T.nodes 1 with
 | none => simp [fo]
 | some j =>
  obtain ⟨hj, ej⟩ := fid_lt e
  simp only [fo]
  rw [if_pos ⟨trivial, by omega⟩, getD_in hj, ej]
theorem look_nil (s : ByteArray) (W : World) : (Instr.lookup 94 (.map none) (.string s) false).run Tryz.prog W = .ok (.pointer none) W := by kernel_rfl
theorem em_some (g : Nat) : mapV (some g) = .map (some g) := rfl
theorem em_none : mapV none = .map none := rfl
attribute [local irreducible] fo findX
set_option maxHeartbeats 2000000 in
theorem implFindPath (w : World) (v : Value) (T : TM) (lo hi : Nat) (p : ByteArray) (h : TSee w v T lo hi) (hf : NFit T) (hI : NInt T.nodes) (hz : ∀ n ∈ T.nodes, n.id ≠ 0) (hp : p.size ≤ 1048576) : Calls Tryz.prog 19 #[v, .string p] w fun e w' => e = .returned (.int .i64 (findX T p)) ∧ Below w.heap.size w w' := by
 have hsee := h
 obtain ⟨a, cap, rs, rfl, hr, hm⟩ := h
 have hl : rs.length ≤ 1048576 := by unfold NFit at hf; rw [← hr, nds_len] at hf; omega
 obtain ⟨n, hn⟩ : ∃ n, n = rs.length := ⟨_, rfl⟩
 obtain ⟨nx, hnx⟩ : ∃ nx, nx = T.next := ⟨_, rfl⟩
 rw [← hn, ← hnx] at hsee ⊢
 have hlk := fun W (hb : Below w.heap.size w W) => linkNodes_any (cap := cap) (hm.below hb) hl (by rw [hr]; exact hI) (fun x hx => by rw [hr] at hx; have := (fit_name hf x hx).1; unfold maxLen; omega)
 rw [← hn] at hlk
 have HLK := Shut.mk hlk
 have HR := Shut.mk hr
 have HF := Shut.mk hf
 have HI := Shut.mk hI
 have HZ := Shut.mk hz
 have HSP := Shut.mk (fun W => implSplitPath p W hp)
 obtain ⟨X, hX⟩ : ∃ X, X = findX T p := ⟨_, rfl⟩
 rw [← hX]
 have HX := Shut.mk hX
 have HNM := Shut.mk (splitB_names p)
 obtain ⟨L, ok, hre⟩ : ∃ L ok, splitB p = (L, ok) := ⟨_, _, rfl⟩
 have HRE := Shut.mk hre
 rw [hre] at HSP HNM
 unfold QPost at HSP
 clear hlk hr hm hsee hn hnx hX hre hf hI hz hp
 cases ok with
 | false =>
  have HE : Shut (X = 0) := ⟨by rw [HX.out]; unfold findX; rw [HRE.out]; simp⟩
  go_enter Tryz.func19, Tryz.ntmps19
  go_wp2_with (go_at_call 75; refine (HSP.out _).mono ?_; rintro e w1 ⟨sv, rfl, ho, hb1⟩; have HB1 := Shut.mk hb1; clear ho hb1)
  go_ret
  exact ⟨by rw [HE.out]; rfl, ((Below.refl _ _).alloc (Nat.le_refl _) _).trans (HB1.out.mono (by simp))⟩
 | true =>
  have HE : Shut (X = fo T.nodes (fid T.nodes 1) L) := ⟨by rw [HX.out]; exact fo_first HRE.out⟩
  clear HX HRE
  go_enter Tryz.func19, Tryz.ntmps19
  go_upto_region 4 with (go_at_call 75; refine (HSP.out _).mono ?_; rintro e w1 ⟨sv, rfl, ho, hb1⟩; have HO := Shut.mk (OwnAt.oans ho); have hbx := (BX.new w a n cap nx 26).below hb1; have HBX := Shut.mk hbx; have x0 := (hbx.box.2 0 _ rfl).1; clear ho hb1 hbx)
  obtain ⟨sa, sc, rfl, _, hcs⟩ := HO.out
  have HCS := Shut.mk hcs
  obtain ⟨m, hm⟩ : ∃ m, m = L.length := ⟨_, rfl⟩
  have HML := Shut.mk hm
  have hm4 : m ≤ 4 := by have := HNM.out.2; omega
  rw [← hm]
  clear hm hcs HO
  go_wp2_with fail
  refine (HLK.out _ HBX.out.bel).mono ?_
  rintro e w2 ⟨b1, b2, G, C, rfl, hL, hb2⟩
  have HCS2 : Shut (L = [] ∨ ∃ g off, sa = some ⟨g, off, none⟩ ∧ g < w2.heap.size ∧ OCells w2 g off L) := ⟨HCS.out.imp id (fun ⟨g, off, e1, _, e2, e3⟩ => ⟨g, off, e1, Nat.lt_of_lt_of_le e2 hb2.size, e3.below hb2 e2⟩)⟩
  have HB := Shut.mk (HBX.out.bel.trans (hb2.mono HBX.out.bel.size))
  have HL2 := Shut.mk hL
  clear hL hb2 x0 HCS
  go_upto_region 5 with fail
  obtain ⟨lb, hlb⟩ : ∃ lb, lb = w2.heap.size := ⟨_, rfl⟩
  refine wp_shade (fun W => Below w2.heap.size w2 W ∧ WCells W lb [.map (some b1), .map (some b2)]) ⟨(Below.refl _ _).alloc (Nat.le_refl _) _, by rw [hlb]; exact wcells_new w2 #[.map (some b1), .map (some b2)] 89⟩ ?_
  intro V hV
  rw [← hlb]
  clear hlb
  obtain ⟨hbV, hxV⟩ := hV
  have hLV := HL2.out.below hbV
  obtain ⟨D1, o1, t1⟩ := hLV.m1
  have k1 := look_ptr keyI Tryz.underlying86 zeroLp o1 (key_int (x := 1) (by decide)) (t1 1) 0
  rw [World.drewN_zero, HR.out] at k1
  have x0 := (hxV.2 0 _ rfl).1
  have HCS3 : Shut (L = [] ∨ ∃ g off, sa = some ⟨g, off, none⟩ ∧ g < V.heap.size ∧ OCells V g off L) := ⟨HCS2.out.imp id (fun ⟨g, off, e1, e2, e3⟩ => ⟨g, off, e1, Nat.lt_of_lt_of_le e2 hbV.size, e3.below hbV e2⟩)⟩
  have HBV := Shut.mk (HB.out.trans (hbV.mono HB.out.size))
  have HLV := Shut.mk hLV
  have HXV := Shut.mk hxV
  clear hbV hxV hLV o1 t1 HB HL2 HCS2
  go_wp2_with fail
  go_loopw [8, 26] (fun pv iv wr => ∃ (k : Nat) (o : Option Nat), pv = ptrV (o.map G) ∧ iv = .int .i64 k ∧ k ≤ m ∧ Shut ((∀ j, o = some j → j < T.nodes.length) ∧ X = fo T.nodes o (L.drop k)) ∧ Shut (Below V.heap.size V wr)) (fun _ iv _ => m - (intOf iv).toNat)
  case atStart => exact ⟨0, fid T.nodes 1, rfl, rfl, Nat.zero_le _, ⟨fun j hj => (fid_lt hj).1, by rw [List.drop_zero]; exact HE.out⟩, ⟨Below.refl _ _⟩⟩
  case round =>
   clear x0 k1
   obtain ⟨k, o, rfl, rfl, hk, HK, HW⟩ := hrel
   by_cases hlt : k < m
   case pos =>
    have hkL : k < L.length := by have := HML.out; omega
    have k0 : (0 : Int) ≤ (k : Int) := by omega
    have k1 : (k : Int) < (m : Int) := by omega
    obtain ⟨g, off, rfl, lg, hoc⟩ := HCS3.out.resolve_left (fun e => by rw [e] at hkL; simp at hkL)
    have c0 := (hoc.below HW.out lg).2 k hkL
    have hns : (L.getD k ⟨#[]⟩).size ≤ 8 := by
     have := HNM.out.1 L[k] (List.getElem_mem hkL)
     have e : L.getD k ⟨#[]⟩ = L[k] := by simp [List.getD, hkL]
     rw [e]
     exact ((nameB_iff _).1 this).2.2
    have HCS4 := Shut.mk hoc
    cases o with
    | none =>
     rw [Option.map_none, ptr_none]
     have HE0 : Shut (X = 0) := ⟨by rw [HK.out.2]; unfold fo; rfl⟩
     go_wp2_with fail
     go_ret
     exact ⟨by rw [HE0.out]; rfl, HBV.out.trans (HW.out.mono HBV.out.size)⟩
    | some j =>
     rw [Option.map_some, ptr_some]
     have hj := HK.out.1 j rfl
     have hLw := HLV.out.below HW.out
     have hst := fo_step HZ.out (j := j) hkL
     rw [← HK.out.2] at hst
     obtain ⟨s, hs⟩ : ∃ s, s = L.getD k ⟨#[]⟩ := ⟨_, rfl⟩
     rw [← hs] at c0 hns hst
     have hnd := hLw.nd
     rw [HR.out] at hnd
     have d0 := (hnd.cells j hj).1
     have hge := getD_in hj
     obtain ⟨x, hx⟩ : ∃ x, x = T.nodes[j] := ⟨_, rfl⟩
     have hxI := HI.out T.nodes[j] (List.getElem_mem hj)
     rw [← hx] at d0 hge hxI
     rw [hge] at hst
     have y1 := ((HXV.out.grow HW.out).2 1 _ rfl).1
     obtain ⟨D2, o2, t2⟩ := hLw.m2
     rw [HR.out] at t2
     have HST := Shut.mk hst
     by_cases hpar : Par T.nodes x.id
     ·have k2 := look_map keyI Tryz.underlying87 zeroLm o2 (key_int hxI.1) ((t2 x.id).1 hpar)
      obtain ⟨d1, d2, d3, D3, o3, t3⟩ := hLw.m3 x.id (by rw [HR.out]; exact hpar)
      have k3 := look_ptr keyS Tryz.underlying94 zeroLp o3 (key_str (s := s) (by unfold maxLen; omega)) (t3 s)
      rw [HR.out] at k3
      rw [em_some] at k2
      obtain ⟨o', ho'⟩ : ∃ o', o' = fnm T.nodes x.id s := ⟨_, rfl⟩
      rw [← ho'] at k3
      have HN : Shut ((∀ q, o' = some q → q < T.nodes.length) ∧ X = fo T.nodes o' (L.drop (k + 1))) := ⟨fun q hq => by rw [ho'] at hq; exact (fnm_lt hq).1, by rw [ho']; exact HST.out⟩
      clear hnd hge hx hxI o2 t2 o3 t3 d1 d2 d3 hpar hst hLw hj hs ho' hoc
      go_wp2_with fail
      go_quiet (fail)
      have HBQ : Shut (Below V.heap.size V (wr.drewN nq)) := ⟨HW.out.trans ((Below.mono (B := (wr.drewN nq).heap.size) ⟨rfl, rfl, rfl, Nat.le_refl _, fun _ _ => rfl⟩ (Nat.le_refl _) : Below wr.heap.size wr (wr.drewN nq)).mono HW.out.size)⟩
      go_wp2_with fail
      go_roundw
      case rel => exact ⟨k + 1, o', rfl, by go_num, by omega, HN, HBQ⟩
      case measure => simp [intOf]; omega
     ·have k2 := look_map keyI Tryz.underlying87 zeroLm o2 (key_int hxI.1) ((t2 x.id).2 hpar)
      rw [em_none] at k2
      have k3 := look_nil s
      have hfn : fnm T.nodes x.id s = none := by
       cases e : fnm T.nodes x.id s with
       | none => rfl
       | some q => exact absurd (par_fnm e) hpar
      have HN : Shut ((∀ q, (none : Option Nat) = some q → q < T.nodes.length) ∧ X = fo T.nodes none (L.drop (k + 1))) := ⟨fun q hq => (by cases hq), by rw [← hfn]; exact HST.out⟩
      clear hnd hge hx hxI o2 t2 hpar hst hLw hj hs hfn hoc
      go_wp2_with fail
      go_quiet (fail)
      have HBQ : Shut (Below V.heap.size V (wr.drewN nq)) := ⟨HW.out.trans ((Below.mono (B := (wr.drewN nq).heap.size) ⟨rfl, rfl, rfl, Nat.le_refl _, fun _ _ => rfl⟩ (Nat.le_refl _) : Below wr.heap.size wr (wr.drewN nq)).mono HW.out.size)⟩
      go_wp2_with fail
      go_roundw
      case rel => exact ⟨k + 1, none, rfl, by go_num, by omega, HN, HBQ⟩
      case measure => simp [intOf]; omega
   case neg =>
    have k1 : ¬ (k : Int) < (m : Int) := by omega
    have hdr : L.drop k = [] := List.drop_of_length_le (by have := HML.out; omega)
    cases o with
    | none =>
     rw [Option.map_none, ptr_none]
     have HE0 : Shut (X = 0) := ⟨by rw [HK.out.2]; unfold fo; rfl⟩
     go_wp2_with fail
     go_ret
     exact ⟨by rw [HE0.out]; rfl, HBV.out.trans (HW.out.mono HBV.out.size)⟩
    | some j =>
     rw [Option.map_some, ptr_some]
     have hj := HK.out.1 j rfl
     have hnd := (HLV.out.below HW.out).nd
     rw [HR.out] at hnd
     have d0 := (hnd.cells j hj).1
     obtain ⟨x, hx⟩ : ∃ x, x = T.nodes[j] := ⟨_, rfl⟩
     have HE0 : Shut (X = x.id) := ⟨by rw [HK.out.2, hdr, hx]; unfold fo; simp only [findF]; rw [getD_in hj]⟩
     rw [← hx] at d0
     clear hnd hx hdr hj
     go_wp2_with fail
     go_ret
     exact ⟨by rw [HE0.out]; rfl, HBV.out.trans (HW.out.mono HBV.out.size)⟩
end Go.Proofs.YtakhagkhngmpaaaGreat
/- LkK: . -/
namespace Go.Proofs.YtakhagkhngmpaaaGreat
set_option maxRecDepth 100000
open Go.RowKit Go.Maps BigFrame
attribute [local go_sem ↓] Go.wp_at_zero Go.wp_at_succ
def blwL (all ns : List NM) (top : Int) : List Int := (ns.filter fun n => decide (top ≠ 0) && belowF all 15 n.id top).map NM.id
theorem blwL_take (all ns : List NM) (top : Int) (k : Nat) (h : k < ns.length) : blwL all (ns.take (k + 1)) top = blwL all (ns.take k) top ++ if (decide (top ≠ 0) && belowF all 15 ns[k].id top) = true then [ns[k].id] else [] := by
 rw [List.take_succ_eq_append_getElem h]
 unfold blwL
 rw [List.filter_append, List.map_append]
 congr 1
 simp only [List.filter_cons, List.filter_nil]
 split <;> simp
theorem blwL_is {T : TM} (h : treeOk T = true) (id : Int) : blwL T.nodes T.nodes id = belowX T id := by
 have ht := tree_tall h
 unfold belowX blwL
 cases hf : fid T.nodes id with
 | none =>
  rw [if_neg (by rw [at_fid, hf]; simp)]
  rw [List.map_eq_nil_iff, List.filter_eq_nil_iff]
  intro n hn hc
  obtain ⟨i, hi, rfl⟩ := List.mem_iff_getElem.1 hn
  obtain ⟨d, _, hu⟩ := ht.2 i hi
  simp only [Bool.and_eq_true, decide_eq_true_eq] at hc
  have := belowF_no ht.1 hf hc.1 hu 15
  rw [getD_in hi, hc.2] at this
  cases this
 | some i =>
  rw [if_pos ⟨h, by rw [at_fid, hf]; simp⟩]
  obtain ⟨hi, e⟩ := fid_lt hf
  have h0 : id ≠ 0 := by have := ht.1.pos hi; omega
  unfold belowL
  congr 2
  funext n
  simp [h0]
set_option maxHeartbeats 2000000 in
theorem implBelowOf (w : World) (v : Value) (T : TM) (lo hi : Nat) (id : Int) (h : TSee w v T lo hi) (hf : NFit T) (hI : NInt T.nodes) : Calls Tryz.prog 37 #[v, .int .i64 id] w fun e w' => IPost (belowX T id) w e w' := by
 have hsee := h
 obtain ⟨a, cap, rs, rfl, hr, hm⟩ := h
 have hlen : rs.length = T.nodes.length := by rw [← hr, nds_len]
 have hl : rs.length ≤ 1048576 := by unfold NFit at hf; omega
 have hget : ∀ j (hj : j < rs.length), ∃ hj' : j < T.nodes.length, T.nodes[j] = rs[j].nd := fun j hj => by
  refine ⟨by rw [← hr, nds_len]; exact hj, ?_⟩
  rw [List.getElem_of_eq hr.symm]
  simp [nds]
 obtain ⟨n, hn⟩ : ∃ n, n = rs.length := ⟨_, rfl⟩
 obtain ⟨nx, hnx⟩ : ∃ nx, nx = T.next := ⟨_, rfl⟩
 rw [← hn, ← hnx] at hsee ⊢
 have hok := fun W (hb : Below w.heap.size w W) => implTreeOk W _ T lo hi (hsee.below hb) hf hI
 have hlk := fun W (hb : Below w.heap.size w W) => linkNodes_any (cap := cap) (hm.below hb) hl (by rw [hr]; exact hI) (fun x hx => by rw [hr] at hx; have := (fit_name hf x hx).1; unfold maxLen; omega)
 rw [← hn] at hlk hl hlen
 obtain ⟨R, hR⟩ : ∃ R, R = belowX T id := ⟨_, rfl⟩
 rw [← hR]
 have HOK := Shut.mk hok
 have HLK := Shut.mk hlk
 have HE := Shut.mk hr
 have HM := Shut.mk hm
 have HN := Shut.mk hn
 have HL := Shut.mk hlen
 have HG := Shut.mk hget
 have HR := Shut.mk hR
 have HI := Shut.mk hI
 clear hok hlk hr hm hsee hn hnx hlen hget hR hI hf
 cases ht : treeOk T with
 | false =>
  rw [ht] at HOK
  have HF : Shut (R = []) := ⟨by rw [HR.out]; unfold belowX; rw [if_neg (by rw [ht]; simp)]⟩
  clear ht
  go_enter Tryz.func37, Tryz.ntmps37
  go_wp2_with (go_at_call 17; refine (HOK.out _ ((Below.refl _ _).alloc (Nat.le_refl _) _)).mono ?_; rintro e w1 ⟨rfl, hb1⟩)
  go_ret
  exact ⟨_, rfl, by rw [HF.out]; exact IAns.empty _ _ _ _ _, ((Below.refl _ _).alloc (Nat.le_refl _) _).trans (hb1.mono (by simp))⟩
 | true =>
  rw [ht] at HOK
  have HT := Shut.mk (tree_tall ht)
  have HRR : Shut (R = blwL T.nodes T.nodes id) := ⟨by rw [HR.out, blwL_is ht]⟩
  have h14 : n ≤ 14 := by have := treeOk_14 ht; have := HL.out; omega
  obtain ⟨t0, ht0, hty0, hty1, hty2⟩ := info_parts infoIntG
  clear ht
  go_enter Tryz.func37, Tryz.ntmps37
  go_wp2_with (go_at_call 17; refine (HOK.out _ ((Below.refl _ _).alloc (Nat.le_refl _) _)).mono ?_; rintro e w1 ⟨rfl, hb1⟩; have hbx := (BX.new w a n cap nx 26).below hb1; have HBX := Shut.mk hbx; have x0 := (hbx.box.2 0 _ rfl).1; clear hb1 hbx)
  refine (HLK.out _ HBX.out.bel).mono ?_
  rintro e w2 ⟨b1, b2, G, C, rfl, hL, hb2⟩
  have HB2 := Shut.mk (HBX.out.below hb2)
  have HL2 := Shut.mk (hL.base HBX.out.bel.size)
  clear hL hb2 x0 HBX
  have x0 := (HB2.out.box.2 0 _ rfl).1
  have lx := HB2.out.box.1
  go_upto_region 5 with fail
  refine wp_shade (fun W => BL w W a n cap nx w2.heap.size b1 b2 rs G C) ?_ ?_
  ·have hb : Below w2.heap.size w2 (w2.alloc (.cells #[.map (some b1), .map (some b2)] 89)) := (Below.refl _ _).alloc (Nat.le_refl _) _
   exact ⟨HB2.out.below hb, wcells_new w2 #[.map (some b1), .map (some b2)] 89, HL2.out.below hb⟩
  intro V hV
  have HV := Shut.mk hV
  clear hV x0
  have x0 := (HV.out.bx.box.2 0 _ rfl).1
  obtain ⟨L, hL⟩ : ∃ L, L = w2.heap.size := ⟨_, rfl⟩
  rw [← hL] at HV ⊢
  clear HB2 HL2 hL lx HLK HOK
  go_wp2_with fail
  go_loopw [6, 18] (fun ov iv wr => ∃ (k l : Nat) (vv : Value), vv = ov ∧ iv = .int .i64 k ∧ k ≤ n ∧ l ≤ k ∧ Shut (l = (blwL T.nodes (T.nodes.take k) id).length) ∧ Shut (Below V.heap.size V wr ∧ wr.ownsRow V.heap.size 3 1 vv l (ics (blwL T.nodes (T.nodes.take k) id)))) (fun _ iv _ => n - (intOf iv).toNat)
  case atStart => exact ⟨0, 0, _, rfl, rfl, Nat.zero_le _, Nat.le_refl _, ⟨by simp [blwL]⟩, ⟨Below.refl _ _, by simpa [blwL, ics] using World.ownsRow_nil V V.heap.size 3 1⟩⟩
  case round =>
   clear x0
   obtain ⟨k, l, ov, rfl, rfl, hk, hlk, HK, HW⟩ := hrel
   have hW := HV.out.below HW.out.1
   have v0 := (hW.vr.2 0 _ rfl).1
   by_cases hlt : k < n
   ·have hkr : k < rs.length := by rw [← HN.out]; exact hlt
    obtain ⟨b, off, rfl, lb, hc⟩ := TR.nat HM.out (by omega)
    have hnk := (hc k hkr).below hW.bx.bel lb
    obtain ⟨hkT, hge⟩ := HG.out k hkr
    have hst := blwL_take T.nodes T.nodes id k hkT
    obtain ⟨D1, o1, t1⟩ := hW.lk.m1
    have hfi := HT.out.1.fid hkT
    have hmem : T.nodes[k] ∈ T.nodes := List.getElem_mem hkT
    have f1 := (HI.out _ hmem).1
    have htk := t1 T.nodes[k].id
    rw [HE.out, hfi] at htk
    have hnd := hW.lk.nd
    rw [HE.out] at hnd
    have hbe : blw T.nodes k id = (decide (id ≠ 0) && belowF T.nodes 15 rs[k].nd.id id) := by unfold blw; rw [getD_in hkT, hge]
    have hib := fun W' (hb : Below wr.heap.size wr W') => isBelow_any (hnd.below hb) HT.out hkT id
    rw [hge] at hst f1 htk
    rw [hbe] at hib
    obtain ⟨r, hr⟩ : ∃ r, r = rs[k] := ⟨_, rfl⟩
    rw [← hr] at hnk hst f1 htk hib
    have k1 := look_ptr keyI Tryz.underlying86 zeroLp (o1.alloc (.cells #[.int .i64 r.nd.id, .int .i64 r.nd.parent, .string r.nd.name, .bool r.nd.dir, .int .i64 r.nd.schema, .int .i64 r.nd.quota, .int .i64 r.nd.len, .slice r.loc r.nd.pieces.length r.cap, .int .i64 r.nd.writer] 47)) (key_int f1) htk 0
    rw [World.drewN_zero] at k1
    simp only [Option.map_some, ptr_some] at k1
    have hba : Below wr.heap.size wr (wr.alloc (.cells #[.int .i64 r.nd.id, .int .i64 r.nd.parent, .string r.nd.name, .bool r.nd.dir, .int .i64 r.nd.schema, .int .i64 r.nd.quota, .int .i64 r.nd.len, .slice r.loc r.nd.pieces.length r.cap, .int .i64 r.nd.writer] 47)) := (Below.refl _ _).alloc (Nat.le_refl _) _
    have HIB := Shut.mk (hib _ hba)
    have HBA := Shut.mk hba
    have HST := Shut.mk hst
    have lv := hW.vr.1
    have lb' : b < wr.heap.size := Nat.lt_of_lt_of_le lb hW.bx.bel.size
    have k0 : (0 : Int) ≤ (k : Int) := by omega
    have k2 : (k : Int) < (n : Int) := by omega
    have hsv : V.heap.size ≤ wr.heap.size := HW.out.1.size
    have HOW := Shut.mk (HW.out.2.alloc (.cells #[.int .i64 r.nd.id, .int .i64 r.nd.parent, .string r.nd.name, .bool r.nd.dir, .int .i64 r.nd.schema, .int .i64 r.nd.quota, .int .i64 r.nd.len, .slice r.loc r.nd.pieces.length r.cap, .int .i64 r.nd.writer] 47))
    obtain ⟨c0, c1, c2, c3, c4, c5, c6, c7, c8⟩ := hnk
    obtain ⟨bb, hbb⟩ : ∃ bb, bb = (decide (id ≠ 0) && belowF T.nodes 15 r.nd.id id) := ⟨_, rfl⟩
    rw [← hbb] at HIB HST
    clear hc hr hst hfi hmem f1 htk hnd hbe hib hba o1 t1 hW hge hbb
    cases bb with
    | false =>
     have HS' : Shut (blwL T.nodes (T.nodes.take (k + 1)) id = blwL T.nodes (T.nodes.take k) id) := ⟨by rw [HST.out]; simp⟩
     go_wp2_with (go_at_call 91; refine HIB.out.mono ?_; rintro e w9 ⟨rfl, rfl⟩)
     go_roundw
     case rel => exact ⟨k + 1, l, ov, rfl, by go_num, by omega, by omega, ⟨by rw [HS'.out]; exact HK.out⟩, ⟨HW.out.1.trans (HBA.out.mono hsv), by rw [HS'.out]; exact HOW.out⟩⟩
     case measure => simp [intOf]; omega
    | true =>
     have HS' : Shut (blwL T.nodes (T.nodes.take (k + 1)) id = blwL T.nodes (T.nodes.take k) id ++ [r.nd.id]) := ⟨by rw [HST.out]; simp⟩
     go_upto_region 9 with (go_at_call 91; refine HIB.out.mono ?_; rintro e w9 ⟨rfl, rfl⟩)
     refine wp_shade (fun W => Below wr.heap.size wr W ∧ W.cell? ⟨wr.heap.size, 0, none⟩ = some (.int .i64 r.nd.id)) ⟨HBA.out, by simp⟩ ?_
     intro W9 hW9
     obtain ⟨hb9, d0⟩ := hW9
     have ho9 := HW.out.2.kept (row := none) ⟨hb9.os, hb9.tape, hb9.output, hb9.size, fun k hk _ => hb9.block k hk⟩ (Classical.em _)
     have hs9 : V.heap.size ≤ W9.heap.size := Nat.le_trans hsv hb9.size
     have HB9 := Shut.mk hb9
     clear hb9 HBA HOW c0 c1 c2 c3 c4 c5 c6 c7 c8 k1 v0
     go_wp2_with (at_builtin; refine wpList_append_own _ rfl _ _ 37 rfl V.heap.size 3 t0 (.int .i64 0) 1 8 Tryz.underlying37 ht0 hty0 hty1 hty2 rfl (by decide) _ _ _ rfl (ho9.alloc _) ⟨W9.heap.size, 0, none⟩ 1 1 [.int .i64 r.nd.id] rfl rfl (cell_one_new _ _ _) ?c2 ?c3 ?c4 ?c5 ?_)
     case c2 => first | rfl | (intro u hu; simp at hu; subst hu; rfl)
     case c3 => unfold maxLen; omega
     case c4 => omega
     case c5 => first | omega | (simp; omega)
     intro v' w10 ho10 hgrow _
     rw [ics_snoc9, ← HS'.out] at ho10
     have HGZ : Shut (Below V.heap.size V w10 ∧ w10.ownsRow V.heap.size 3 1 v' (l + 1) (ics (blwL T.nodes (T.nodes.take (k + 1)) id))) := ⟨((HW.out.1.trans (HB9.out.mono hsv)).alloc hs9 _).grown hgrow (by simp; omega) (fun j hj => (ho9.lt j hj).1), ho10⟩
     clear hgrow ho10 ho9
     go_wp2_with fail
     go_roundw
     case rel => exact ⟨k + 1, l + 1, v', rfl, by go_num, by omega, by omega, ⟨by rw [HS'.out, List.length_append, List.length_singleton, ← HK.out]⟩, HGZ⟩
     case measure => simp [intOf]; omega
   ·have k1 : ¬ (k : Int) < (n : Int) := by omega
    have hall : T.nodes.take k = T.nodes := List.take_of_length_le (by have := HL.out; omega)
    have ho := HW.out.2
    have hlen := HK.out
    rw [hall, ← HRR.out] at ho hlen
    have HO := Shut.mk ho
    have HBV : Shut (Below w.heap.size w wr) := ⟨hW.bx.bel⟩
    have hsz : w.heap.size ≤ V.heap.size := HV.out.bx.bel.size
    clear ho hall hW
    go_wp2_with fail
    go_ret
    exact ⟨_, rfl, own_ians hlen.symm (own_wider9 HO.out hsz), HBV.out⟩
def usedP : List NM → List Int → Int
 | [], _ => 0
 | n :: r, L => (if L.contains n.id then n.len else 0) + usedP r L
theorem usedP_append (a b : List NM) (L : List Int) : usedP (a ++ b) L = usedP a L + usedP b L := by
 induction a with
 | nil => simp [usedP]
 | cons n a ih => simp only [List.cons_append, usedP, ih]; omega
theorem usedP_take (ns : List NM) (L : List Int) (k : Nat) (h : k < ns.length) : usedP (ns.take (k + 1)) L = usedP (ns.take k) L + if L.contains ns[k].id then ns[k].len else 0 := by
 rw [List.take_succ_eq_append_getElem h, usedP_append]
 simp [usedP]
theorem usedP_nil (ns : List NM) : usedP ns [] = 0 := by
 induction ns with
 | nil => rfl
 | cons n r ih => simp [usedP, ih]
theorem Asc.mem_at {ns : List NM} (h : Asc ns) {n : NM} (hn : n ∈ ns) : ns.getD (atI ns n.id).toNat default = n := by
 obtain ⟨i, hi, rfl⟩ := List.mem_iff_getElem.1 hn
 rw [at_fid, h.fid hi]
 simp [hi]
theorem Asc.mem_eq {ns : List NM} (h : Asc ns) {m n : NM} (hm : m ∈ ns) (hn : n ∈ ns) (e : m.id = n.id) : m = n := by
 rw [← h.mem_at hm, ← h.mem_at hn, e]
theorem usedP_is (T : TM) (id : Int) : usedP T.nodes (belowX T id) = usedX T id := by
 unfold usedX
 cases ht : treeOk T with
 | false =>
  have : belowX T id = [] := by unfold belowX; rw [if_neg (by rw [ht]; simp)]
  rw [this, usedP_nil]
  rfl
 | true =>
  have ha := (tree_tall ht).1
  rw [← blwL_is ht]
  unfold blwL
  generalize hq : (fun n : NM => decide (id ≠ 0) && belowF T.nodes 15 n.id id) = q
  have hc : ∀ n ∈ T.nodes, ((T.nodes.filter q).map NM.id).contains n.id = q n := fun n hn => by
   rw [Bool.eq_iff_iff]
   simp only [List.contains_iff_mem, List.mem_map, List.mem_filter]
   constructor
   ·rintro ⟨m, ⟨hm, hqm⟩, e⟩
    rw [← ha.mem_eq hm hn e]
    exact hqm
   ·exact fun hqn => ⟨n, ⟨hn, hqn⟩, rfl⟩
  have key : ∀ M : List NM, (∀ n ∈ M, n ∈ T.nodes) → usedP M ((T.nodes.filter q).map NM.id) = usedL T.nodes ((M.filter q).map NM.id) := by
   intro M
   induction M with
   | nil => intro _; rfl
   | cons n r ih =>
    intro hM
    have hn := hM n (by simp)
    have ih' := ih fun m hm => hM m (by simp [hm])
    unfold usedP
    rw [hc n hn, ih']
    cases hqn : q n with
    | true =>
     rw [List.filter_cons_of_pos hqn, List.map_cons]
     conv => rhs; unfold usedL
     rw [ha.mem_at hn]
     simp
    | false =>
     rw [List.filter_cons_of_neg (by simp [hqn])]
     simp
  exact key T.nodes fun n hn => hn
theorem usedP_le (T : TM) (id : Int) (k : Nat) : 0 ≤ usedP (T.nodes.take k) (belowX T id) ∧ usedP (T.nodes.take k) (belowX T id) ≤ 14000 := by
 cases ht : treeOk T with
 | false =>
  have : belowX T id = [] := by unfold belowX; rw [if_neg (by rw [ht]; simp)]
  rw [this, usedP_nil]
  omega
 | true =>
  have hall : ∀ M : List NM, (∀ n ∈ M, 0 ≤ n.len ∧ n.len ≤ 1000) → 0 ≤ usedP M (belowX T id) ∧ usedP M (belowX T id) ≤ 1000 * M.length := by
   intro M
   induction M with
   | nil => intro _; simp [usedP]
   | cons n r ih =>
    intro hM
    have h1 := hM n (by simp)
    have h2 := ih fun m hm => hM m (by simp [hm])
    simp only [usedP, List.length_cons]
    push_cast
    split <;> omega
  have h3 := hall (T.nodes.take k) fun n hn => by
   obtain ⟨i, hi, rfl⟩ := List.mem_iff_getElem.1 (List.mem_of_mem_take hn)
   have := nodeOk_len (treeOk_node ht hi)
   rw [getD_in hi] at this
   exact this
  have h4 := treeOk_14 ht
  have h5 : (T.nodes.take k).length ≤ 14 := by simp; omega
  omega
set_option maxHeartbeats 1000000 in
theorem implIndex {w : World} {a : Option Addr} {xs : List Int} (cap : Nat) (x : Int) (hr : CRow w a (ics xs)) (hl : xs.length ≤ 1048576) : Calls Tryz.prog 123 #[.slice a xs.length cap, .int .i64 x] w fun e w' => (∃ i : Int, e = .returned (.int .i64 i) ∧ Shut (decide (0 ≤ i) = xs.contains x)) ∧ w' = w := by
 obtain ⟨n, hn⟩ : ∃ n, n = xs.length := ⟨_, rfl⟩
 rw [← hn] at hl ⊢
 have HN := Shut.mk hn
 have HR := Shut.mk hr
 clear hn hr
 go_enter Tryz.func123, Tryz.ntmps123
 go_wp2_with fail
 go_loopw [8] (fun i wr => ∃ k : Nat, i = .int .i64 k ∧ k ≤ n ∧ Shut (∀ j (hj : j < xs.length), j < k → xs[j] ≠ x) ∧ wr = w) (fun i _ => n - (intOf i).toNat)
 case atStart => exact ⟨0, rfl, Nat.zero_le _, ⟨fun _ _ h => absurd h (Nat.not_lt_zero _)⟩, rfl⟩
 case round =>
  obtain ⟨k, rfl, hk, hno, rfl⟩ := hrel
  by_cases hlt : k < n
  ·have hkx : k < xs.length := by rw [← HN.out]; exact hlt
   obtain ⟨b, off, rfl, lb, hc⟩ := HR.out (by simp [ics]; omega)
   have e0 := hc k (.int .i64 xs[k]) (by simp [ics, hkx])
   have k0 : (0 : Int) ≤ (k : Int) := by omega
   have k1 : (k : Int) < (n : Int) := by omega
   obtain ⟨y, hy⟩ : ∃ y, y = xs[k] := ⟨_, rfl⟩
   rw [← hy] at e0
   have HY := Shut.mk hy
   clear hc hy
   by_cases hxy : x = y
   ·have hxy' : (x == y) = true := by simp [hxy]
    have HC : Shut (xs.contains x = true) := ⟨by rw [hxy, HY.out]; simp⟩
    clear hxy
    go_wp2_with fail
    go_ret
    exact ⟨⟨k, rfl, ⟨by rw [HC.out]; simp⟩⟩, rfl⟩
   ·go_wp2_with fail
    go_roundw
    case rel =>
     refine ⟨k + 1, by go_num, by omega, ⟨fun j hj hjk => ?_⟩, trivial⟩
     rcases Nat.lt_succ_iff_lt_or_eq.1 hjk with h | h
     ·exact hno.out j hj h
     ·subst h
      rw [← HY.out]
      exact fun e => hxy e.symm
    case measure => simp [intOf]; omega
  ·have hlt' : ¬ (k : Int) < (n : Int) := by omega
   have HC : Shut (xs.contains x = false) := ⟨by
    refine Bool.eq_false_iff.2 fun hc => ?_
    simp only [List.contains_iff_mem] at hc
    obtain ⟨j, hj, e⟩ := List.mem_iff_getElem.1 hc
    exact hno.out j hj (by have := HN.out; omega) e⟩
   go_wp2_with fail
   go_ret
   exact ⟨⟨-1, rfl, ⟨by have := HC.out; simp at this; simp [this]⟩⟩, rfl⟩
theorem implContains {w : World} {a : Option Addr} {xs : List Int} (cap : Nat) (x : Int) (hr : CRow w a (ics xs)) (hl : xs.length ≤ 1048576) : Calls Tryz.prog 78 #[.slice a xs.length cap, .int .i64 x] w fun e w' => e = .returned (.bool (xs.contains x)) ∧ w' = w := by
 have HC := Shut.mk (implIndex cap x hr hl)
 generalize xs.contains x = c at *
 generalize xs.length = n at *
 clear hr
 go_enter Tryz.func78, Tryz.ntmps78
 go_wp2_with fail
 refine HC.out.mono ?_
 rintro e w1 ⟨⟨i, rfl, HI⟩, rfl⟩
 go_wp2_with fail
 go_ret
 exact ⟨by rw [← HI.out]; rfl, rfl⟩
set_option maxHeartbeats 1000000 in
theorem implUsedBelow (w : World) (v : Value) (T : TM) (lo hi : Nat) (id : Int) (h : TSee w v T lo hi) (hf : NFit T) (hI : NInt T.nodes) : Calls Tryz.prog 22 #[v, .int .i64 id] w fun e w' => e = .returned (.int .i64 (usedX T id)) ∧ Below w.heap.size w w' := by
 have hsee := h
 obtain ⟨a, cap, rs, rfl, hr, hm⟩ := h
 have hlen : rs.length = T.nodes.length := by rw [← hr, nds_len]
 have hl : rs.length ≤ 1048576 := by unfold NFit at hf; omega
 have hget : ∀ j (hj : j < rs.length), ∃ hj' : j < T.nodes.length, T.nodes[j] = rs[j].nd := fun j hj => by
  refine ⟨by rw [← hr, nds_len]; exact hj, ?_⟩
  rw [List.getElem_of_eq hr.symm]
  simp [nds]
 obtain ⟨n, hn⟩ : ∃ n, n = rs.length := ⟨_, rfl⟩
 obtain ⟨nx, hnx⟩ : ∃ nx, nx = T.next := ⟨_, rfl⟩
 rw [← hn, ← hnx] at hsee ⊢
 have hbo := fun W (hb : Below w.heap.size w W) => implBelowOf W _ T lo hi id (hsee.below hb) hf hI
 rw [← hn] at hl hlen
 rw [← usedP_is]
 have hle := usedP_le T id
 have hbl : (belowX T id).length ≤ 1048576 := by have := belowX_len T id; omega
 generalize belowX T id = X at *
 obtain ⟨R, hR⟩ : ∃ R, R = usedP T.nodes X := ⟨_, rfl⟩
 rw [← hR]
 unfold IPost at hbo
 have HBO := Shut.mk hbo
 have HM := Shut.mk hm
 have HN := Shut.mk hn
 have HL := Shut.mk hlen
 have HG := Shut.mk hget
 have HR := Shut.mk hR
 have HLE := Shut.mk hle
 clear hbo hr hm hsee hn hnx hlen hget hR hI hf hle
 go_enter Tryz.func22, Tryz.ntmps22
 go_wp2_with fail
 refine (HBO.out _ ((Below.refl _ _).alloc (Nat.le_refl _) _)).mono ?_
 rintro e w1 ⟨u, rfl, hA, hb1⟩
 obtain ⟨ua, ucap, rfl, hcr⟩ := hA.crow
 have hbx := (BX.new w a n cap nx 26).below hb1
 have HBX := Shut.mk hbx
 have x0 := (hbx.box.2 0 _ rfl).1
 have hco := fun W (hb : Below w1.heap.size w1 W) (x : Int) => implContains ucap x (CRow.stays hcr hb) hbl
 obtain ⟨xn, hxn⟩ : ∃ xn, xn = X.length := ⟨_, rfl⟩
 rw [← hxn] at hco ⊢
 have HCO := Shut.mk hco
 clear hA hb1 hcr hbx HBO hco hxn
 go_wp2_with fail
 go_loopw [6, 15] (fun sv iv wr => ∃ k : Nat, sv = .int .i64 (usedP (T.nodes.take k) X) ∧ iv = .int .i64 k ∧ k ≤ n ∧ Shut (Below w1.heap.size w1 wr)) (fun _ iv _ => n - (intOf iv).toNat)
 case atStart => exact ⟨0, by simp [usedP], rfl, Nat.zero_le _, ⟨Below.refl _ _⟩⟩
 case round =>
  clear x0
  obtain ⟨k, rfl, rfl, hk, HW⟩ := hrel
  have hlek := HLE.out k
  by_cases hlt : k < n
  ·have hkr : k < rs.length := by rw [← HN.out]; exact hlt
   have hW := HBX.out.below HW.out
   obtain ⟨b, off, rfl, lb, hc⟩ := TR.nat HM.out (by omega)
   have hnk := (hc k hkr).below hW.bel lb
   obtain ⟨hkT, hge⟩ := HG.out k hkr
   have hst := usedP_take T.nodes X k hkT
   have hle1 := HLE.out (k + 1)
   rw [hst] at hle1
   rw [hge] at hst hle1
   obtain ⟨r, hr⟩ : ∃ r, r = rs[k] := ⟨_, rfl⟩
   rw [← hr] at hnk hst hle1
   obtain ⟨sm, hsm⟩ : ∃ sm, sm = usedP (T.nodes.take k) X := ⟨_, rfl⟩
   rw [← hsm] at hlek hst hle1 ⊢
   have HST := Shut.mk hst
   have lb' : b < wr.heap.size := Nat.lt_of_lt_of_le lb hW.bel.size
   have k0 : (0 : Int) ≤ (k : Int) := by omega
   have k1 : (k : Int) < (n : Int) := by omega
   have hba : Below w1.heap.size w1 (wr.alloc (.cells #[.int .i64 r.nd.id, .int .i64 r.nd.parent, .string r.nd.name, .bool r.nd.dir, .int .i64 r.nd.schema, .int .i64 r.nd.quota, .int .i64 r.nd.len, .slice r.loc r.nd.pieces.length r.cap, .int .i64 r.nd.writer] 47)) := HW.out.alloc HW.out.size _
   have hcc := HCO.out _ hba r.nd.id
   have HBA := Shut.mk hba
   obtain ⟨c0, c1, c2, c3, c4, c5, c6, c7, c8⟩ := hnk
   clear hc hr hst hW hba hsm hge
   cases hct : X.contains r.nd.id with
   | true =>
    rw [hct] at hcc HST hle1
    have HCC := Shut.mk hcc
    have HS' : Shut (usedP (T.nodes.take (k + 1)) X = sm + r.nd.len) := ⟨by rw [HST.out]; simp⟩
    have hle2 : 0 ≤ sm + r.nd.len ∧ sm + r.nd.len ≤ 14000 := by simpa using hle1
    clear hct hcc hle1
    go_wp2_with (go_at_call 78; refine HCC.out.mono ?_; rintro e w9 ⟨rfl, rfl⟩)
    go_roundw
    case rel => exact ⟨k + 1, by rw [HS'.out], by go_num, by omega, HBA⟩
    case measure => simp [intOf]; omega
   | false =>
    rw [hct] at hcc HST
    have HCC := Shut.mk hcc
    have HS' : Shut (usedP (T.nodes.take (k + 1)) X = sm) := ⟨by rw [HST.out]; simp⟩
    clear hct hcc hle1
    go_wp2_with (go_at_call 78; refine HCC.out.mono ?_; rintro e w9 ⟨rfl, rfl⟩)
    go_roundw
    case rel => exact ⟨k + 1, by rw [HS'.out], by go_num, by omega, HBA⟩
    case measure => simp [intOf]; omega
  ·have k1 : ¬ (k : Int) < (n : Int) := by omega
   have hall : T.nodes.take k = T.nodes := List.take_of_length_le (by have := HL.out; omega)
   have HE : Shut (usedP (T.nodes.take k) X = R) := ⟨by rw [hall, HR.out]⟩
   have HB : Shut (Below w.heap.size w wr) := ⟨(HBX.out.below HW.out).bel⟩
   clear hall
   go_wp2_with fail
   go_ret
   exact ⟨by rw [← HE.out]; rfl, HB.out⟩
end Go.Proofs.YtakhagkhngmpaaaGreat
