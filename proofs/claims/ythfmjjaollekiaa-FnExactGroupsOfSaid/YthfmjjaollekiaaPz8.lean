/- Texts of ours, laid one behind the other: LkE, LkF, LkR, LkG, LkH, LkI, LkJ, LkK, LkL, GrpI. -/
import Derived.Test.YthfmjjaollekiaaPz5
import Derived.Test.YthfmjjaollekiaaPz7
import Derived.Test.YthfmjjaollekiaaPz4
import Derived.Test.YthfmjjaollekiaaPz6
import Derived.Deep.LoopGhost
import Derived.BigQuiet
import Derived.Test.YthfmjjaollekiaaShelf
import Derived.Sort.OwnSortedInts
/- LkE: On the way up from a node: does it reach the root, is it below another one? -/
namespace Go.Proofs.Ythfmjjaollekiaa
set_option maxRecDepth 100000
open Go.RowKit Go.Maps
attribute [local go_sem ↓] Go.wp_at_zero Go.wp_at_succ

/-- Nodes behind pointers, each with the one above it. -/
structure Nd (w : World) (ns : List NM) (G : Nat → Nat) : Prop where
  cells : ∀ i (hi : i < ns.length), w.cell? ⟨G i, 0, none⟩ = some (.int .i64 ns[i].id) ∧ w.cell? ⟨G i, 1, none⟩ = some (.int .i64 ns[i].parent) ∧ w.cell? ⟨G i, 2, none⟩ = some (.string ns[i].name) ∧ w.cell? ⟨G i, 3, none⟩ = some (.bool ns[i].dir) ∧ w.cell? ⟨G i, 4, none⟩ = some (.int .i64 ns[i].schema) ∧ w.cell? ⟨G i, 5, none⟩ = some (.int .i64 ns[i].quota) ∧ G i < w.heap.size
  above : ∀ i (hi : i < ns.length), fid ns ns[i].id = some i → w.cell? ⟨G i, 9, none⟩ = some (ptrV ((fid ns ns[i].parent).map G))
theorem Lk.nd {w : World} {B b1 b2 : Nat} {rs : List NR} {G : Nat → Nat} {C : Int → Nat} (h : Lk w B b1 b2 rs G C (Ab (nds rs) fun _ => false)) : Nd w (nds rs) G := by
  refine ⟨fun i hi => ?_, fun i hi hf => ?_⟩
  · have hi' : i < rs.length := by rwa [nds_len] at hi
    have hc := (h.cells i hi').1
    have e : (nds rs)[i] = rs[i].nd := by simp [nds]
    rw [e]
    exact ⟨(hc.2 0 _ rfl).1, (hc.2 1 _ rfl).1, (hc.2 2 _ rfl).1, (hc.2 3 _ rfl).1, (hc.2 4 _ rfl).1, (hc.2 5 _ rfl).1, hc.1⟩
  · have hi' : i < rs.length := by rwa [nds_len] at hi
    have hc := ((h.cells i hi').1.2 9 _ rfl).1
    have : Ab (nds rs) (fun _ => false) i = fid (nds rs) (nds rs)[i].parent := by
      unfold Ab
      rw [getD_in hi, if_pos ⟨hf, rfl⟩]
    rw [this] at hc
    exact hc
theorem Nd.below {w w' : World} {ns : List NM} {G : Nat → Nat} (h : Nd w ns G) (hb : Below w.heap.size w w') : Nd w' ns G := by
  refine ⟨fun i hi => ?_, fun i hi hf => ?_⟩
  · obtain ⟨c0, c1, c2, c3, c4, c5, hl⟩ := h.cells i hi
    exact ⟨(hb.cell hl).trans c0, (hb.cell hl).trans c1, (hb.cell hl).trans c2, (hb.cell hl).trans c3, (hb.cell hl).trans c4, (hb.cell hl).trans c5, Nat.lt_of_lt_of_le hl hb.size⟩
  · exact (hb.cell (h.cells i hi).2.2.2.2.2.2).trans (h.above i hi hf)
theorem ptr_some (g : Nat) : ptrV (some g) = .pointer (some ⟨g, 0, none⟩) := rfl
theorem ptr_none : ptrV none = .pointer none := rfl
set_option maxHeartbeats 1000000 in
set_option maxRecDepth 100000 in
theorem reaches_any {w : World} {ns : List NM} {G : Nat → Nat} (h : Nd w ns G) (ha : Asc ns) {i : Nat} (hi : i < ns.length) :
    Calls Try.prog 96 #[.pointer (some ⟨G i, 0, none⟩)] w fun e w' => e = .returned (.bool (clm ns 4 i)) ∧ w' = w := by
  have HN := Shut.mk h
  have HA := Shut.mk ha
  clear h ha
  obtain ⟨R, hR⟩ : ∃ R, R = clm ns 4 i := ⟨_, rfl⟩
  rw [← hR]
  have HR := Shut.mk hR
  clear hR
  go_enter Try.func96, Try.ntmps96
  go_wp2_with fail
  go_loopw [0, 3] (fun p c wr => ∃ (k j : Nat), p = .pointer (some ⟨G j, 0, none⟩) ∧ c = .int .i64 k ∧ k ≤ 4 ∧ j < ns.length ∧ Shut (clm ns (4 - k) j = R) ∧ wr = w) (fun _ c _ => 4 - (intOf c).toNat)
  case atStart => exact ⟨0, i, rfl, rfl, by omega, hi, ⟨HR.out.symm⟩, rfl⟩
  case round =>
    obtain ⟨k, j, rfl, rfl, hk, hj, hc, rfl⟩ := hrel
    obtain ⟨c0, _, _, _, _, _, hl⟩ := HN.out.cells j hj
    have c9 := HN.out.above j hj (HA.out.fid hj)
    have hid := HA.out.id_one hj
    have hge := getD_in hj
    obtain ⟨x, hx⟩ : ∃ x, x = ns[j] := ⟨_, rfl⟩
    rw [← hx] at c0 c9 hge
    rw [hge] at hid
    have HGE := Shut.mk hge
    have HID := Shut.mk hid
    clear hx hge hid
    obtain ⟨o, ho⟩ : ∃ o, o = fid ns x.parent := ⟨_, rfl⟩
    rw [← ho] at c9
    have HO := Shut.mk ho
    clear ho
    by_cases h4 : k < 4
    · have h4' : (k : Int) < 4 := by omega
      cases o with
      | none =>
        simp only [Option.map_none, ptr_none] at c9
        go_wp2_with fail
        go_ret
        refine ⟨?_, rfl⟩
        have := hc.out
        rw [clm_none (by rw [HGE.out, ← HO.out]), HGE.out] at this
        rw [← this]
        rfl
      | some m =>
        simp only [Option.map_some, ptr_some] at c9
        go_wp2_with fail
        go_roundw
        case rel =>
          have h5 := hc.out
          have e : 4 - k = (4 - (k + 1)) + 1 := by omega
          rw [e, clm_some (k := m) (by rw [HGE.out, ← HO.out])] at h5
          exact ⟨k + 1, m, rfl, by go_num, by omega, (fid_lt HO.out.symm).1, ⟨h5⟩, trivial⟩
        case measure => simp [intOf]; omega
    · have h4' : ¬ (k : Int) < 4 := by omega
      go_wp2_with fail
      go_ret
      refine ⟨?_, rfl⟩
      have := hc.out
      obtain rfl : k = 4 := by omega
      have e4 : clm ns (4 - 4) j = ((ns.getD j default).id == 1) := rfl
      rw [e4, HGE.out] at this
      rw [← this]
      rfl
set_option maxHeartbeats 1000000 in
set_option maxRecDepth 100000 in
theorem isBelow_any {w : World} {ns : List NM} {G : Nat → Nat} (h : Nd w ns G) (ht : Tall ns) {i : Nat} (hi : i < ns.length) (top : Int) :
    Calls Try.prog 44 #[.pointer (some ⟨G i, 0, none⟩), .int .i64 top] w fun e w' => e = .returned (.bool (blw ns i top)) ∧ w' = w := by
  have HN := Shut.mk h
  have HA := Shut.mk ht.1
  obtain ⟨d0, hd0, hu0⟩ := ht.2 i hi
  have HU := Shut.mk hu0
  obtain ⟨R, hR⟩ : ∃ R, R = blw ns i top := ⟨_, rfl⟩
  rw [← hR]
  have HR := Shut.mk hR
  clear hR h ht hu0
  go_enter Try.func44, Try.ntmps44
  go_wp2_with fail
  go_loopg [0] (d0 + 1) (fun m p wr => (Shut (p = .pointer none ∧ R = false) ∨ Shut (∃ (j d r : Nat), p = .pointer (some ⟨G j, 0, none⟩) ∧ m = d + 1 ∧ j < ns.length ∧ Ups ns j d ∧ (top ≠ 0 → belowF ns (d + 2 + r) (ns.getD j default).id top = R) ∧ (top = 0 → R = false))) ∧ wr = w)
  case atStart =>
    refine ⟨.inr ⟨i, d0, 13 - d0, rfl, rfl, hi, HU.out, fun h0 => ?_, fun h0 => ?_⟩, rfl⟩
    · rw [HR.out]
      unfold blw
      rw [show d0 + 2 + (13 - d0) = 15 by omega]
      simp [h0]
    · rw [HR.out]
      unfold blw
      simp [h0]
  case round =>
    obtain ⟨hrel, rfl⟩ := hrel
    rcases hrel with ⟨rfl, rfl⟩ | ⟨j, d, r, rfl, rfl, hj, hu, h1, h2⟩
    · go_wp2_with fail
      go_ret
      exact ⟨rfl, rfl⟩
    · obtain ⟨c0, _, _, _, _, _, hl⟩ := HN.out.cells j hj
      have hf := HA.out.fid hj
      have c9 := HN.out.above j hj hf
      have hge := getD_in hj
      have hpos := HA.out.pos hj
      obtain ⟨x, hx⟩ : ∃ x, x = ns[j] := ⟨_, rfl⟩
      rw [← hx] at c0 c9 hge hpos hf
      rw [hge] at h1
      have HH := Shut.mk (And.intro h1 (And.intro h2 (And.intro hu (And.intro hge hf))))
      obtain ⟨o, ho⟩ : ∃ o, o = fid ns x.parent := ⟨_, rfl⟩
      rw [← ho] at c9
      have HO := Shut.mk ho
      clear ho h1 h2 hu hge hf hx
      by_cases ht : x.id = top
      · have HT := Shut.mk hpos
        clear hpos
        subst ht
        go_wp2_with fail
        go_ret
        refine ⟨?_, rfl⟩
        have h1 := HH.out.1 (by have := HT.out; omega)
        rw [show d + 2 + r = (d + 1 + r) + 1 by omega, belowF_same rfl] at h1
        rw [← h1]
        rfl
      · cases o with
        | none =>
          simp only [Option.map_none, ptr_none] at c9
          go_wp2_with fail
          go_roundg 0
          case measure => omega
          case rel =>
            obtain ⟨h1, h2, hu, hge, hf⟩ := HH.out
            refine ⟨.inl ⟨⟨rfl, ?_⟩⟩, rfl⟩
            by_cases h0 : top = 0
            · exact h2 h0
            · have h3 := h1 h0
              rw [show d + 2 + r = ((d + r) + 1) + 1 by omega, belowF_some ht hf, hge] at h3
              rw [← h3]
              cases hu with
              | root =>
                have e0 := HA.out.2.2.2
                rw [hge] at e0
                rw [e0]
                exact belowF_none (fun e => h0 e.symm) HA.out.zero
              | step _ _ hk _ =>
                rw [hge, ← HO.out] at hk
                cases hk
        | some k =>
          simp only [Option.map_some, ptr_some] at c9
          go_wp2_with fail
          go_roundg d
          case measure => omega
          case rel =>
            obtain ⟨h1, h2, hu, hge, hf⟩ := HH.out
            refine ⟨.inr ⟨?_⟩, rfl⟩
            cases hu with
            | root =>
              have e0 := HA.out.2.2.2
              have h4 := HO.out
              rw [hge] at e0
              rw [e0, HA.out.zero] at h4
              cases h4
            | @step _ k' d' _ _ hk hu' =>
              rw [hge, ← HO.out] at hk
              cases hk
              obtain ⟨hkl, ek⟩ := fid_lt HO.out.symm
              refine ⟨k, d', r, rfl, rfl, hkl, hu', fun h0 => ?_, h2⟩
              have h3 := h1 h0
              rw [show d' + 1 + 2 + r = (d' + 2 + r) + 1 by omega, belowF_some ht hf, hge, ← ek, ← getD_in hkl] at h3
              exact h3
end Go.Proofs.Ythfmjjaollekiaa
/- LkF: Does a node stand where it may? -/
namespace Go.Proofs.Ythfmjjaollekiaa
set_option maxRecDepth 100000
open Go.RowKit Go.Maps BigFrame
attribute [local go_sem ↓] Go.wp_at_zero Go.wp_at_succ

set_option maxHeartbeats 2000000 in
set_option maxRecDepth 100000 in
theorem placeOk_any {w : World} {B b1 b2 : Nat} {rs : List NR} {G : Nat → Nat} {C : Int → Nat} (h : Lk w B b1 b2 rs G C (Ab (nds rs) fun _ => false)) (ha : Asc (nds rs)) (hI : NInt (nds rs)) (hS : ∀ n ∈ nds rs, n.name.size ≤ 1048576) {i : Nat} (hi : i < rs.length) :
    Calls Try.prog 65 #[.agg #[.map (some b1), .map (some b2)], nv rs[i]] w fun e w' => e = .returned (.bool (placeB (nds rs) i)) ∧ Below w.heap.size w w' := by
  have hi' : i < (nds rs).length := by rw [nds_len]; exact hi
  have he : (nds rs).getD i default = rs[i].nd := by rw [getD_in hi']; simp [nds]
  have hmem : rs[i].nd ∈ nds rs := List.mem_map.2 ⟨_, List.getElem_mem hi, rfl⟩
  have f1 := (hI _ hmem).1
  have f2 := (hI _ hmem).2
  have f3 := hS _ hmem
  have hfi := ha.fid hi'
  rw [← getD_in hi', he] at hfi
  obtain ⟨r, hr⟩ : ∃ r, r = rs[i] := ⟨_, rfl⟩
  rw [← hr] at he f1 f2 f3 hfi ⊢
  obtain ⟨R, hR⟩ : ∃ R, R = placeB (nds rs) i := ⟨_, rfl⟩
  rw [← hR]
  have HR := Shut.mk hR
  have HE := Shut.mk he
  have HL := Shut.mk h
  have HA := Shut.mk ha
  have HF := Shut.mk hfi
  clear hR he h ha hI hS hmem hr hfi
  go_enter Try.func65, Try.ntmps65
  go_upto_region 1 with fail
  refine wp_shade (fun W => Below w.heap.size w W ∧ WCells W w.heap.size [.map (some b1), .map (some b2)] ∧ WCells W (w.heap.size + 1) (ncells r)) ?_ ?_
  · refine ⟨((Below.refl _ _).alloc (Nat.le_refl _) _).alloc (by simp) _, (wcells_new w #[.map (some b1), .map (some b2)] 75).alloc _, ?_⟩
    have := wcells_new (w.alloc (.cells #[.map (some b1), .map (some b2)] 75)) #[.int .i64 r.nd.id, .int .i64 r.nd.parent, .string r.nd.name, .bool r.nd.dir, .int .i64 r.nd.schema, .int .i64 r.nd.quota, .int .i64 r.nd.len, .slice r.loc r.nd.pieces.length r.cap, .int .i64 r.nd.writer] 30
    simpa [ncells] using this
  intro W hW
  obtain ⟨hb, hx, hn⟩ := hW
  have HB := Shut.mk hb
  have b0 := (hx.2 0 _ rfl).1
  have b1' := (hx.2 1 _ rfl).1
  have n0 := (hn.2 0 _ rfl).1
  have n1 := (hn.2 1 _ rfl).1
  have n2 := (hn.2 2 _ rfl).1
  have HX := Shut.mk hn
  have hL := HL.out.below hb
  have HLW := Shut.mk hL
  have hpar : Par (nds rs) r.nd.parent := ⟨_, List.getElem_mem hi', by rw [← getD_in hi', HE.out]⟩
  obtain ⟨k, hk⟩ : ∃ k, fnm (nds rs) r.nd.parent r.nd.name = some k := by
    cases hf : fnm (nds rs) r.nd.parent r.nd.name with
    | some k => exact ⟨k, rfl⟩
    | none => exact absurd (by rw [← getD_in hi', HE.out]) (fnm_none hf _ (List.getElem_mem hi') (by rw [← getD_in hi', HE.out]))
  obtain ⟨D1, o1, t1⟩ := hL.m1
  have k1 := look_ptr keyI Try.underlying72 zeroLp o1 (key_int f1) (t1 r.nd.id)
  rw [HF.out] at k1
  obtain ⟨D2, o2, t2⟩ := hL.m2
  have k2 := look_map keyI Try.underlying73 zeroLm o2 (key_int f2) ((t2 r.nd.parent).1 hpar)
  obtain ⟨d1, d2, d3, D3, o3, t3⟩ := hL.m3 r.nd.parent hpar
  have k3 := look_ptr keyS Try.underlying126 zeroLp o3 (key_str (by unfold maxLen; omega)) (t3 r.nd.name)
  rw [hk] at k3
  simp only [Option.map_some, ptr_some] at k1 k3
  have em : ∀ g, mapV (some g) = .map (some g) := fun _ => rfl
  rw [em] at k2
  have HK := Shut.mk hk
  have HP := Shut.mk hpar
  clear hb hx hn hL hpar hk o1 t1 o2 t2 o3 t3 em d1 d2 d3
  go_quiet (fail)
  go_upto_region 2 with fail
  refine wp_shade (fun W2 => Below W.heap.size W W2) (Below.mono (B := (W.drewN nq).heap.size) ⟨rfl, rfl, rfl, Nat.le_refl _, fun _ _ => rfl⟩ (Nat.le_refl _)) ?_
  intro V hV
  have HV := Shut.mk hV
  have hnd := (HLW.out.below hV).nd
  have HND := Shut.mk hnd
  have hn := HX.out.grow hV
  have hln := hn.1
  have hkl := (fnm_lt HK.out).1
  have ck0 := (hnd.cells k hkl).1
  have lk := (hnd.cells k hkl).2.2.2.2.2.2
  have ci9 := hnd.above i hi' (HA.out.fid hi')
  have li := (hnd.cells i hi').2.2.2.2.2.2
  have hei : (nds rs)[i] = r.nd := by rw [← getD_in hi', HE.out]
  rw [hei] at ci9
  have g0 : ∀ X : Grow V, X.val.cell? ⟨w.heap.size + 1, 0, none⟩ = some (.int .i64 r.nd.id) := fun X => X.cell (hn.2 0 _ rfl).1 hln
  have g2 : ∀ X : Grow V, X.val.cell? ⟨w.heap.size + 1, 2, none⟩ = some (.string r.nd.name) := fun X => X.cell (hn.2 2 _ rfl).1 hln
  have gk : ∀ X : Grow V, X.val.cell? ⟨G k, 0, none⟩ = some (.int .i64 (nds rs)[k].id) := fun X => X.cell ck0 lk
  have gi : ∀ X : Grow V, X.val.cell? ⟨G i, 9, none⟩ = some (ptrV ((fid (nds rs) r.nd.parent).map G)) := fun X => X.cell ci9 li
  have hnm := fun X => calls_grow (w := V) (fun W' (_ : Below V.heap.size V W') => implNameOk r.nd.name W' f3) X
  have hre := fun X => calls_same (w := V) (fun W' (hb' : Below V.heap.size V W') => reaches_any (HND.out.below hb') HA.out hi') X
  have hRR : R = (nameB r.nd.name && ((nds rs)[k].id == r.nd.id) && dirB (nds rs) r.nd.parent && clm (nds rs) 4 i) := by
    rw [HR.out]
    unfold placeB
    rw [firstB_some (k := k) (by rw [HE.out]; exact HK.out), HE.out, getD_in hkl]
  have HRR := Shut.mk hRR
  have HNM := Shut.mk hnm
  have HRE := Shut.mk hre
  obtain ⟨xid, hxid⟩ : ∃ x, x = (nds rs)[k].id := ⟨_, rfl⟩
  rw [← hxid] at gk HRR
  obtain ⟨o, ho⟩ : ∃ o, o = fid (nds rs) r.nd.parent := ⟨_, rfl⟩
  rw [← ho] at gi
  have HO := Shut.mk ho
  have HEND : Shut (∀ X : Grow V, Below w.heap.size w X.val) := ⟨fun X => HB.out.trans ((HV.out.trans (X.bel.mono HV.out.size)).mono HB.out.size)⟩
  have HDIR : Shut (∀ m, o = some m → ∀ X : Grow V, X.val.cell? ⟨G m, 3, none⟩ = some (.bool ((nds rs).getD m default).dir)) := ⟨fun m hm X => by
    rw [hm] at ho
    obtain ⟨hml, _⟩ := fid_lt ho.symm
    obtain ⟨_, _, _, cm3, _, _, lm⟩ := hnd.cells m hml
    rw [getD_in hml]
    exact X.cell cm3 lm⟩
  generalize clm (nds rs) 4 i = cl at HRR HRE
  clear hnm hre hRR hxid ho hnd hn hln ck0 ci9 hei hkl li lk k1 k2 k3 b0 b1' n0 n1 n2 hV
  cases hN : nameB r.nd.name with
  | false =>
    rw [hN] at HNM HRR
    refine wp_region_grow (by kernel_rfl) (by kernel_rfl) ?_
    repeat (go_big_quiet_step (first | (go_at_call 95; exact HNM.out _) | (go_at_call 96; exact HRE.out _)))
    refine wpQuiet_nil ?_
    rintro _ ⟨X, rfl⟩
    go_wp2_with fail
    go_ret
    refine ⟨?_, HEND.out X⟩
    rw [HRR.out]
    rfl
  | true =>
    rw [hN] at HNM HRR
    by_cases hx : xid = r.nd.id
    · cases o with
      | none =>
        simp only [Option.map_none, ptr_none] at gi
        have he2 : (xid == r.nd.id) = true := by simp [hx]
        rw [dirB_none HO.out.symm] at HRR
        refine wp_region_grow (by kernel_rfl) (by kernel_rfl) ?_
        repeat (go_big_quiet_step (first | (go_at_call 95; exact HNM.out _) | (go_at_call 96; exact HRE.out _)))
        refine wpQuiet_nil ?_
        rintro _ ⟨X, rfl⟩
        go_wp2_with fail
        go_ret
        refine ⟨?_, HEND.out X⟩
        rw [HRR.out]
        simp
      | some m =>
        simp only [Option.map_some, ptr_some] at gi
        have gd := HDIR.out m rfl
        rw [dirB_some HO.out.symm] at HRR
        have he2 : (xid == r.nd.id) = true := by simp [hx]
        cases hd : ((nds rs).getD m default).dir with
        | false =>
          rw [hd] at gd
          refine wp_region_grow (by kernel_rfl) (by kernel_rfl) ?_
          repeat (go_big_quiet_step (first | (go_at_call 95; exact HNM.out _) | (go_at_call 96; exact HRE.out _)))
          refine wpQuiet_nil ?_
          rintro _ ⟨X, rfl⟩
          go_wp2_with fail
          go_ret
          refine ⟨?_, HEND.out X⟩
          rw [HRR.out]
          rw [hd]
          simp
        | true =>
          rw [hd] at gd
          refine wp_region_grow (by kernel_rfl) (by kernel_rfl) ?_
          repeat (go_big_quiet_step (first | (go_at_call 95; exact HNM.out _) | (go_at_call 96; exact HRE.out _)))
          refine wpQuiet_nil ?_
          rintro _ ⟨X, rfl⟩
          go_wp2_with fail
          go_ret
          refine ⟨?_, HEND.out X⟩
          rw [HRR.out]
          rw [hd, he2]
          simp
    · have he2 : (xid == r.nd.id) = false := by simp [hx]
      refine wp_region_grow (by kernel_rfl) (by kernel_rfl) ?_
      repeat (go_big_quiet_step (first | (go_at_call 95; exact HNM.out _) | (go_at_call 96; exact HRE.out _)))
      refine wpQuiet_nil ?_
      rintro _ ⟨X, rfl⟩
      go_wp2_with fail
      go_ret
      refine ⟨?_, HEND.out X⟩
      rw [HRR.out]
      simp [hx]
end Go.Proofs.Ythfmjjaollekiaa
/- LkR: Right trees, plain: what the program asks of a tree is what the document asks. -/
namespace Go.Proofs.Ythfmjjaollekiaa
set_option maxRecDepth 100000

/-- Ids ascend, and lie below Next. -/
def idsB (T : TM) : Bool := decide (T.next ≤ 100000) && (List.range T.nodes.length).all fun i => decide ((T.nodes.getD i default).id < T.next) && (decide (i = 0) || decide ((T.nodes.getD (i - 1) default).id < (T.nodes.getD i default).id))
/-- The root. -/
def rootB (n : NM) : Bool := (n.id == 1) && (n.parent == 0) && decide (n.name = ⟨#[]⟩) && n.dir && inI n.schema 1 3
def kindB (n : NM) : Bool := if n.dir then dirOk n else fileOk n
theorem fnm_self {ns : List NM} {i : Nat} (hi : i < ns.length) : ∃ k, fnm ns ns[i].parent ns[i].name = some k ∧ k ≤ i := by
  cases hf : fnm ns ns[i].parent ns[i].name with
  | none => exact absurd rfl (fnm_none hf _ (List.getElem_mem hi) rfl)
  | some k =>
    refine ⟨k, rfl, Nat.le_of_not_lt fun hlt => ?_⟩
    exact fnm_first hf i hlt hi rfl rfl
theorem place_eq {ns : List NM} (h : Asc ns) {i : Nat} (hi : i < ns.length) (h0 : i ≠ 0) : placeB ns i = (nameB (ns.getD i default).name && decide (0 ≤ atI ns (ns.getD i default).parent) && (ns.getD (atI ns (ns.getD i default).parent).toNat default).dir &&
    (List.range i).all (fun j => ! (((ns.getD j default).parent == (ns.getD i default).parent) && decide ((ns.getD j default).name = (ns.getD i default).name))) && climbs ns 4 (ns.getD i default).id) := by
  unfold placeB
  rw [clm_climbs h hi h0]
  have e1 : firstB ns i = (List.range i).all (fun j => ! (((ns.getD j default).parent == (ns.getD i default).parent) && decide ((ns.getD j default).name = (ns.getD i default).name))) := by
    obtain ⟨k, hk, hki⟩ := fnm_self hi
    rw [firstB_some (k := k) (by rw [getD_in hi]; exact hk), getD_in hi]
    obtain ⟨hkl, kp, kn⟩ := fnm_lt hk
    rw [getD_in hkl]
    by_cases e : k = i
    · subst e
      simp only [beq_self_eq_true]
      refine (List.all_eq_true.2 fun j hj => ?_).symm
      have hj' : j < k := by simpa using hj
      have := fnm_first hk j hj' (by omega)
      rw [getD_in (by omega : j < ns.length)]
      by_cases hp : ns[j].parent = ns[k].parent
      · simp [hp, this hp]
      · simp [hp]
    · have hlt := h.lt i hi k (by omega)
      rw [getD_in hkl] at hlt
      have hne : (ns[k].id == ns[i].id) = false := by simp; omega
      rw [hne]
      symm
      refine Bool.eq_false_iff.2 fun hall => ?_
      have := List.all_eq_true.1 hall k (by simp; omega)
      rw [getD_in hkl] at this
      simp [kp, kn] at this
  have e2 : dirB ns (ns.getD i default).parent = (decide (0 ≤ atI ns (ns.getD i default).parent) && (ns.getD (atI ns (ns.getD i default).parent).toNat default).dir) := by
    rw [at_fid]
    cases hf : fid ns (ns.getD i default).parent with
    | none => rw [dirB_none hf]; simp
    | some k => rw [dirB_some hf]; simp
  rw [e1, e2]
  cases nameB (ns.getD i default).name <;> cases decide (0 ≤ atI ns (ns.getD i default).parent) <;> cases (ns.getD (atI ns (ns.getD i default).parent).toNat default).dir <;> cases climbs ns 4 (ns.getD i default).id <;> simp
theorem ids_asc {T : TM} (h : idsB T = true) (hr : rootB (T.nodes.getD 0 default) = true) (hl : 0 < T.nodes.length) : Asc T.nodes := by
  unfold idsB at h
  simp only [Bool.and_eq_true, decide_eq_true_eq, List.all_eq_true, List.mem_range, Bool.or_eq_true] at h
  unfold rootB at hr
  simp only [Bool.and_eq_true, beq_iff_eq, decide_eq_true_eq] at hr
  refine ⟨fun i hi h0 => ?_, hl, hr.1.1.1.1, hr.1.1.1.2⟩
  rcases (h.2 i hi).2 with e | e
  · omega
  · rw [getD_in hi] at e; exact e
/-- What the program asks. -/
def progB (T : TM) : Bool := inI (T.nodes.length : Int) 1 14 && idsB T && rootB (T.nodes.getD 0 default) && (List.range T.nodes.length).all fun i => kindB (T.nodes.getD i default) && (decide (i = 0) || placeB T.nodes i)
theorem prog_tree (T : TM) : progB T = treeOk T := by
  rw [Bool.eq_iff_iff]
  constructor
  · intro h
    unfold progB at h
    simp only [Bool.and_eq_true, List.all_eq_true, List.mem_range, Bool.or_eq_true, decide_eq_true_eq] at h
    obtain ⟨⟨⟨h1, h2⟩, h3⟩, h4⟩ := h
    have hl := inI_iff.1 h1
    have ha := ids_asc h2 h3 (by omega)
    have h2' := h2
    unfold idsB at h2'
    simp only [Bool.and_eq_true, decide_eq_true_eq, List.all_eq_true, List.mem_range, Bool.or_eq_true] at h2'
    refine treeOk_yes h1 h2'.1 fun i hi => ?_
    obtain ⟨k1, k2⟩ := h4 i hi
    unfold nodeOk
    rw [decide_eq_true (h2'.2 i hi).1]
    by_cases e : i = 0
    · subst e
      have h3' := h3
      unfold rootB at h3'
      simp only [Bool.and_eq_true, beq_iff_eq, decide_eq_true_eq] at h3'
      have hs := inI_iff.1 h3'.2
      unfold kindB at k1
      rw [if_pos h3'.1.2] at k1
      unfold firstOk
      rw [if_pos rfl, if_pos h3'.1.2, k1, h3'.1.1.1.1, h3'.1.1.1.2, h3'.1.1.2, h3'.1.2]
      have : ((T.nodes.getD 0 default).schema != 0) = true := by rw [bne_iff_ne]; omega
      rw [this]
      rfl
    · rw [if_neg e]
      have h5 := (h2'.2 i hi).2.resolve_left e
      rw [decide_eq_true h5]
      unfold kindB at k1
      rw [k1, ← place_eq ha hi e]
      simp [k2.resolve_left e]
  · intro h
    have h14 := treeOk_14 h
    obtain ⟨hl, he, _⟩ := treeOk_first h
    have hn : ∀ i, i < T.nodes.length → nodeOk T i = true := fun i hi => treeOk_node h hi
    have hnx : T.next ≤ 100000 := by
      unfold treeOk at h
      simp only [Bool.and_eq_true, decide_eq_true_eq] at h
      exact h.1.2
    have h0 := hn 0 hl
    unfold nodeOk at h0
    rw [if_pos rfl] at h0
    simp only [Bool.and_eq_true, decide_eq_true_eq] at h0
    obtain ⟨⟨⟨_, hf⟩, hk0⟩, _⟩ := h0
    unfold firstOk at hf
    simp only [Bool.and_eq_true, beq_iff_eq, decide_eq_true_eq, bne_iff_ne] at hf
    have hr : rootB (T.nodes.getD 0 default) = true := by
      unfold rootB
      rw [hf.1.1.1.1, hf.1.1.1.2, hf.1.1.2, hf.1.2]
      rw [if_pos hf.1.2] at hk0
      unfold dirOk at hk0
      simp only [Bool.and_eq_true] at hk0
      have := inI_iff.1 hk0.1.1.1.1
      have : inI (T.nodes.getD 0 default).schema 1 3 = true := inI_iff.2 ⟨by omega, by omega⟩
      rw [this]
      rfl
    have hids : idsB T = true := by
      unfold idsB
      rw [decide_eq_true hnx]
      simp only [Bool.true_and]
      refine List.all_eq_true.2 fun i hi => ?_
      have hi' : i < T.nodes.length := by simpa using hi
      have h1 := hn i hi'
      unfold nodeOk at h1
      simp only [Bool.and_eq_true] at h1
      rw [h1.1.1.1]
      by_cases e : i = 0
      · simp [e]
      · have h2 := h1.1.1.2
        rw [if_neg e] at h2
        rw [h2]
        simp
    have ha := ids_asc hids hr hl
    unfold progB
    rw [hids, hr, inI_iff.2 ⟨by omega, by omega⟩]
    simp only [Bool.true_and]
    refine List.all_eq_true.2 fun i hi => ?_
    have hi' : i < T.nodes.length := by simpa using hi
    have h1 := hn i hi'
    unfold nodeOk at h1
    simp only [Bool.and_eq_true, Bool.or_eq_true] at h1
    unfold kindB
    rw [h1.1.2]
    by_cases e : i = 0
    · simp [e]
    · have h2 := h1.2.resolve_left (by simp [e])
      rw [place_eq ha hi' e]
      simp only [Bool.true_and, Bool.or_eq_true]
      right
      simp only [Bool.and_eq_true]
      exact h2
theorem tree_tall {T : TM} (h : treeOk T = true) : Tall T.nodes := by
  rw [← prog_tree] at h
  unfold progB at h
  simp only [Bool.and_eq_true, List.all_eq_true, List.mem_range, Bool.or_eq_true, decide_eq_true_eq] at h
  obtain ⟨⟨⟨h1, h2⟩, h3⟩, h4⟩ := h
  have hl := inI_iff.1 h1
  have ha := ids_asc h2 h3 (by omega)
  refine ⟨ha, fun i hi => ?_⟩
  by_cases e : i = 0
  · subst e; exact ⟨0, by omega, .root⟩
  · have := (h4 i hi).2.resolve_left e
    unfold placeB at this
    simp only [Bool.and_eq_true] at this
    exact clm_ups ha 4 i hi this.2
end Go.Proofs.Ythfmjjaollekiaa
/- LkG: The program's own tests of a node: schemas, the root, directories, files. -/
namespace Go.Proofs.Ythfmjjaollekiaa
set_option maxRecDepth 100000
open Go.RowKit Go.Maps BigFrame
attribute [local go_sem ↓] Go.wp_at_zero Go.wp_at_succ

set_option maxRecDepth 100000 in
set_option maxHeartbeats 1000000 in
theorem implRootOk (id parent : Int) (name : ByteArray) (dir : Bool) (schema quota len writer : Int) (loc : Option Addr) (n cap : Nat) (w : World) : Calls Try.prog 63 #[.agg #[.int .i64 id, .int .i64 parent, .string name, .bool dir, .int .i64 schema, .int .i64 quota, .int .i64 len, .slice loc n cap, .int .i64 writer]] w fun e w' => e = .returned (.bool ((id == 1) && (parent == 0) && (name.toList == []) && dir && inI schema 1 3)) ∧ Below w.heap.size w w' := by
  obtain ⟨R, hR⟩ : ∃ R, R = ((id == 1) && (parent == 0) && (name.toList == []) && dir && inI schema 1 3) := ⟨_, rfl⟩
  have HR := Shut.mk hR
  rw [← hR]
  clear hR
  go_enter Try.func63, Try.ntmps63
  go_wp2_with (go_at_call 92; refine (implSchemaOk _ _).mono ?_; rintro e w1 ⟨rfl, rfl⟩)
  all_goals
    go_ret
    exact ⟨by rw [HR.out]; simp [*], (Below.refl _ _).alloc (Nat.le_refl _) _⟩
set_option maxRecDepth 100000 in
set_option maxHeartbeats 1000000 in
theorem implDirOk (id parent : Int) (name : ByteArray) (dir : Bool) (schema quota len writer : Int) (loc : Option Addr) (n cap : Nat) (w : World) : Calls Try.prog 93 #[.agg #[.int .i64 id, .int .i64 parent, .string name, .bool dir, .int .i64 schema, .int .i64 quota, .int .i64 len, .slice loc n cap, .int .i64 writer]] w fun e w' => e = .returned (.bool (((schema == 0) || inI schema 1 3) && decide (0 ≤ quota) && decide (quota ≤ 1000) && (len == 0) && ((n : Int) == 0) && (writer == 0))) ∧ Below w.heap.size w w' := by
  obtain ⟨R, hR⟩ : ∃ R, R = (((schema == 0) || inI schema 1 3) && decide (0 ≤ quota) && decide (quota ≤ 1000) && (len == 0) && ((n : Int) == 0) && (writer == 0)) := ⟨_, rfl⟩
  have HR := Shut.mk hR
  rw [← hR]
  clear hR
  go_enter Try.func93, Try.ntmps93
  go_wp2_with (go_at_call 92; refine (implSchemaOk _ _).mono ?_; rintro e w1 ⟨rfl, rfl⟩)
  all_goals
    go_ret
    exact ⟨by rw [HR.out]; first | (simp [*]; done) | (simp [*]; omega), (Below.refl _ _).alloc (Nat.le_refl _) _⟩
/-- What the program asks of a file. -/
def fileQ (schema quota len writer : Int) (ps : List PM) : Bool := inI schema 1 3 && (quota == 0) && inI writer 0 9 && decide (ps.length ≤ 40) && ps.all (pieceOk schema) && (sumP ps == len) && decide (sumP ps ≤ 1000)
theorem fileQ_piece {schema quota len writer : Int} {ps : List PM} {k : Nat} (hk : k < ps.length) (h : pieceOk schema ps[k] = false) : fileQ schema quota len writer ps = false := by
  unfold fileQ
  have : ps.all (pieceOk schema) = false := Bool.eq_false_iff.2 fun hc => by rw [List.all_eq_true.1 hc _ (List.getElem_mem hk)] at h; cases h
  rw [this]
  simp
set_option maxRecDepth 100000 in
set_option maxHeartbeats 2000000 in
theorem implFileOk (id parent : Int) (name : ByteArray) (dir : Bool) (schema quota len writer : Int) (loc : Option Addr) (ps : List PM) (cap : Nat) (w : World) {lo hi : Nat} (hp : RRow w loc (pcs ps) lo hi) (hl : ps.length ≤ 1048576) :
    Calls Try.prog 94 #[.agg #[.int .i64 id, .int .i64 parent, .string name, .bool dir, .int .i64 schema, .int .i64 quota, .int .i64 len, .slice loc ps.length cap, .int .i64 writer]] w fun e w' => e = .returned (.bool (fileQ schema quota len writer ps)) ∧ Below w.heap.size w w' := by
  obtain ⟨R, hR⟩ : ∃ R, R = fileQ schema quota len writer ps := ⟨_, rfl⟩
  have HR := Shut.mk hR
  rw [← hR]
  obtain ⟨n, hn⟩ : ∃ n, n = ps.length := ⟨_, rfl⟩
  rw [← hn] at hl ⊢
  have HN := Shut.mk hn
  have HP := Shut.mk hp
  clear hR hn hp
  by_cases hh : inI schema 1 3 = true ∧ quota = 0 ∧ 0 ≤ writer ∧ writer ≤ 9 ∧ n ≤ 40
  · obtain ⟨h1, rfl, h3, h4, h5⟩ := hh
    have h5' : ¬ (40 : Int) < (n : Int) := by omega
    go_enter Try.func94, Try.ntmps94
    go_upto_region 3 with (go_at_call 92; refine (implSchemaOk _ _).mono ?_; rintro e w1 ⟨rfl, rfl⟩)
    refine wp_shade (fun W => Below w.heap.size w W ∧ WCells W w.heap.size [.int .i64 id, .int .i64 parent, .string name, .bool dir, .int .i64 schema, .int .i64 0, .int .i64 len, .slice loc n cap, .int .i64 writer]) ⟨(Below.refl _ _).alloc (Nat.le_refl _) _, wcells_new w #[.int .i64 id, .int .i64 parent, .string name, .bool dir, .int .i64 schema, .int .i64 0, .int .i64 len, .slice loc n cap, .int .i64 writer] 30⟩ ?_
    intro W hW
    have HW := Shut.mk hW
    have c7 := (hW.2.2 7 _ rfl).1
    clear hW
    go_wp2_with fail
    go_loopw [3, 34] (fun sm i wr => ∃ (k : Nat), sm = .int .i64 (sumP (ps.take k)) ∧ i = .int .i64 k ∧ k ≤ n ∧ Shut (∀ j (hj : j < ps.length), j < k → pieceOk schema ps[j] = true) ∧ Shut (Below w.heap.size w wr ∧ WCells wr w.heap.size [.int .i64 id, .int .i64 parent, .string name, .bool dir, .int .i64 schema, .int .i64 0, .int .i64 len, .slice loc n cap, .int .i64 writer])) (fun _ i _ => n - (intOf i).toNat)
    case atStart => exact ⟨0, rfl, rfl, Nat.zero_le _, ⟨fun _ _ h => absurd h (Nat.not_lt_zero _)⟩, HW⟩
    case round =>
      clear HW c7
      obtain ⟨k, rfl, rfl, hk, hall, hW⟩ := hrel
      have hsum : 0 ≤ sumP (ps.take k) ∧ sumP (ps.take k) ≤ 32 * 40 := by
        have := sumP_ok (s := schema) (ps := ps.take k) (fun p hp => by
          obtain ⟨j, hj, rfl⟩ := List.mem_iff_getElem.1 hp
          simp only [List.getElem_take]
          simp only [List.length_take] at hj
          exact hall.out j (by omega) (by omega))
        have hlt : (ps.take k).length ≤ 40 := by simp; omega
        omega
      have c4 := (hW.out.2.2 4 _ rfl).1
      have c6 := (hW.out.2.2 6 _ rfl).1
      have lw := hW.out.2.1
      by_cases hlt : k < n
      · have hkp : k < ps.length := by rw [← HN.out]; exact hlt
        obtain ⟨b, off, rfl, lb, hc⟩ := pcs_at HP.out (by omega)
        obtain ⟨p0, p1⟩ := hc k hkp
        rw [← hW.out.1.cell (p := ⟨b, off + k * 2, none⟩) lb] at p0
        rw [← hW.out.1.cell (p := ⟨b, off + k * 2 + 1, none⟩) lb] at p1
        have hst := sumP_take ps k hkp
        obtain ⟨q, hq⟩ : ∃ q, q = ps[k] := ⟨_, rfl⟩
        rw [← hq] at p0 p1 hst
        have HQ := Shut.mk hq
        have HST := Shut.mk hst
        have lb' : b < wr.heap.size := Nat.lt_of_lt_of_le lb hW.out.1.size
        have k0 : (0 : Int) ≤ (k : Int) := by omega
        have k1 : (k : Int) < (n : Int) := by omega
        have HSZ := Shut.mk (fun W => implSize schema W)
        have hgb := groupN_bounds schema
        obtain ⟨sm, hsm⟩ : ∃ sm, sm = sumP (ps.take k) := ⟨_, rfl⟩
        rw [← hsm] at hsum HST ⊢
        have HSM := Shut.mk hsm
        have hpk : pieceOk schema q = (decide (1 ≤ q.group) && decide (q.group ≤ 100000) && (decide (1 ≤ q.len) && decide (q.len ≤ (groupN schema : Nat)))) := rfl
        have HPK := Shut.mk hpk
        obtain ⟨gn, hgn⟩ : ∃ gn, gn = groupN schema := ⟨_, rfl⟩
        rw [← hgn] at HSZ HPK hgb
        obtain ⟨gr, ln⟩ := q
        have HBW : Shut (∀ W, Below wr.heap.size wr W → Below w.heap.size w W) := ⟨fun W hb => hW.out.1.trans (hb.mono hW.out.1.size)⟩
        clear hc hq hst hsm hpk hgn
        have HNO : Shut (pieceOk schema ⟨gr, ln⟩ = false → Ending.returned (.bool false) = .returned (.bool R)) := ⟨fun h => by rw [HR.out, fileQ_piece hkp (by rw [← HQ.out]; exact h)]⟩
        dsimp only at p0 p1 HST HPK
        have HQQ := HQ
        go_upto_region 7 with fail
        by_cases a1 : gr < 1
        · go_quiet (first | (go_at_call 112; exact Calls.quiet_of_same (HSZ.out _)))
          go_wp2_with fail
          go_ret
          exact ⟨HNO.out (by rw [HPK.out]; simp; omega), HBW.out _ (((Below.refl _ _).alloc (Nat.le_refl _) _).trans (Below.mono (B := wr.heap.size) ⟨rfl, rfl, rfl, Nat.le_refl _, fun _ _ => rfl⟩ (Nat.le_refl _)))⟩
        · by_cases a2 : 100000 < gr
          · go_quiet (first | (go_at_call 112; exact Calls.quiet_of_same (HSZ.out _)))
            go_wp2_with fail
            go_ret
            exact ⟨HNO.out (by rw [HPK.out]; simp; omega), HBW.out _ (((Below.refl _ _).alloc (Nat.le_refl _) _).trans (Below.mono (B := wr.heap.size) ⟨rfl, rfl, rfl, Nat.le_refl _, fun _ _ => rfl⟩ (Nat.le_refl _)))⟩
          · by_cases a3 : ln < 1
            · go_quiet (first | (go_at_call 112; exact Calls.quiet_of_same (HSZ.out _)))
              go_wp2_with fail
              go_ret
              exact ⟨HNO.out (by rw [HPK.out]; simp; omega), HBW.out _ (((Below.refl _ _).alloc (Nat.le_refl _) _).trans (Below.mono (B := wr.heap.size) ⟨rfl, rfl, rfl, Nat.le_refl _, fun _ _ => rfl⟩ (Nat.le_refl _)))⟩
            · by_cases a4 : (gn : Int) < ln
              · go_quiet (first | (go_at_call 112; exact Calls.quiet_of_same (HSZ.out _)))
                go_wp2_with fail
                go_ret
                exact ⟨HNO.out (by rw [HPK.out]; simp; omega), HBW.out _ (((Below.refl _ _).alloc (Nat.le_refl _) _).trans (Below.mono (B := wr.heap.size) ⟨rfl, rfl, rfl, Nat.le_refl _, fun _ _ => rfl⟩ (Nat.le_refl _)))⟩
              · go_quiet (first | (go_at_call 112; exact Calls.quiet_of_same (HSZ.out _)))
                go_wp2_with fail
                go_roundw
                case rel =>
                  have hpo : pieceOk schema ⟨gr, ln⟩ = true := by rw [HPK.out]; simp; omega
                  have hbn : Below wr.heap.size wr ((wr.alloc (.cells #[.int .i64 gr, .int .i64 ln] 59)).drewN nq) := ((Below.refl _ _).alloc (Nat.le_refl _) _).trans (Below.mono (B := wr.heap.size) ⟨rfl, rfl, rfl, Nat.le_refl _, fun _ _ => rfl⟩ (Nat.le_refl _))
                  refine ⟨k + 1, ?_, by go_num, by omega, ⟨fun j hj hjk => ?_⟩, ⟨HBW.out _ hbn, hW.out.2.grow hbn⟩⟩
                  · rw [HST.out]
                  · rcases Nat.lt_succ_iff_lt_or_eq.1 hjk with h | h
                    · exact hall.out j hj h
                    · subst h
                      rw [← HQ.out]
                      exact hpo
                case measure => simp [intOf]; omega
      · have hlt' : ¬ (k : Int) < (n : Int) := by omega
        obtain rfl : k = n := by omega
        have hts : sumP (ps.take k) = sumP ps := by rw [HN.out, List.take_length]
        have hallp : ps.all (pieceOk schema) = true := List.all_eq_true.2 fun p hp => by
          obtain ⟨j, hj, rfl⟩ := List.mem_iff_getElem.1 hp
          exact hall.out j hj (by rw [HN.out]; exact hj)
        have hRR : R = ((sumP ps == len) && decide (sumP ps ≤ 1000)) := by
          rw [HR.out]
          unfold fileQ
          rw [hallp, h1, show inI writer 0 9 = true from inI_iff.2 ⟨h3, h4⟩, decide_eq_true (by rw [← HN.out]; exact h5)]
          simp
        have HRR := Shut.mk hRR
        rw [hts] at hsum ⊢
        generalize sumP ps = sm at *
        clear hallp hRR hts
        go_wp2_with fail
        all_goals
          go_ret
          refine ⟨?_, hW.out.1⟩
          rw [HRR.out]
          first | (simp [*]; done) | (simp [*]; intros; omega)
  · have HH := Shut.mk hh
    have hRF : R = false := by
      rw [HR.out]
      refine Bool.eq_false_iff.2 fun hc => hh ?_
      unfold fileQ at hc
      simp only [Bool.and_eq_true, beq_iff_eq, decide_eq_true_eq] at hc
      obtain ⟨⟨⟨⟨⟨⟨a1, a2⟩, a3⟩, a4⟩, _⟩, _⟩, _⟩ := hc
      exact ⟨a1, a2, (inI_iff.1 a3).1, (inI_iff.1 a3).2, by rw [HN.out]; exact a4⟩
    rw [hRF]
    clear hh hRF
    go_enter Try.func94, Try.ntmps94
    go_upto_region 3 with (go_at_call 92; refine (implSchemaOk _ _).mono ?_; rintro e w1 ⟨rfl, rfl⟩)
    all_goals first
      | (go_ret; exact ⟨rfl, (Below.refl _ _).alloc (Nat.le_refl _) _⟩)
      | exact absurd ⟨by assumption, by omega, by omega, by omega, by omega⟩ HH.out
end Go.Proofs.Ythfmjjaollekiaa
/- LkH: The program's own tests of a node, and of the Ids of a tree. -/
namespace Go.Proofs.Ythfmjjaollekiaa
set_option maxRecDepth 100000
open Go.RowKit Go.Maps BigFrame
attribute [local go_sem ↓] Go.wp_at_zero Go.wp_at_succ

theorem dirQ_is (n : NM) : (((n.schema == 0) || inI n.schema 1 3) && decide (0 ≤ n.quota) && decide (n.quota ≤ 1000) && (n.len == 0) && ((n.pieces.length : Int) == 0) && (n.writer == 0)) = dirOk n := by
  unfold dirOk
  have e1 : ((n.schema == 0) || inI n.schema 1 3) = inI n.schema 0 3 := by
    unfold inI
    rw [Bool.eq_iff_iff]
    simp
    omega
  have e2 : inI n.quota 0 1000 = (decide (0 ≤ n.quota) && decide (n.quota ≤ 1000)) := rfl
  have e3 : ((n.pieces.length : Int) == 0) = decide (n.pieces.length = 0) := by
    rw [Bool.eq_iff_iff]
    simp
  rw [e1, e2, e3]
  cases inI n.schema 0 3 <;> cases decide (0 ≤ n.quota) <;> cases decide (n.quota ≤ 1000) <;> rfl
theorem fileQ_is (n : NM) : fileQ n.schema n.quota n.len n.writer n.pieces = fileOk n := by
  unfold fileQ fileOk
  cases inI n.schema 1 3 <;> cases (n.quota == 0) <;> cases inI n.writer 0 9 <;> cases decide (n.pieces.length ≤ 40) <;> rfl
theorem rootQ_is (n : NM) : ((n.id == 1) && (n.parent == 0) && (n.name.toList == []) && n.dir && inI n.schema 1 3) = rootB n := by
  unfold rootB
  have : (n.name.toList == []) = decide (n.name = ⟨#[]⟩) := by
    rw [Bool.eq_iff_iff]
    simp only [beq_iff_eq, decide_eq_true_eq]
    constructor
    · intro h
      rw [Go.ByteArray.toList_eq] at h
      exact ByteArray.ext (Array.toList_inj.1 h)
    · intro h
      rw [h, Go.ByteArray.toList_eq]
  rw [this]
set_option maxRecDepth 100000 in
set_option maxHeartbeats 1000000 in
theorem implNodeOk_any (id parent : Int) (name : ByteArray) (dir : Bool) (schema quota len writer : Int) (loc : Option Addr) (ps : List PM) (cap : Nat) (w : World) {lo hi : Nat} (hp : RRow w loc (pcs ps) lo hi) (hl : ps.length ≤ 1048576) :
    Calls Try.prog 64 #[.agg #[.int .i64 id, .int .i64 parent, .string name, .bool dir, .int .i64 schema, .int .i64 quota, .int .i64 len, .slice loc ps.length cap, .int .i64 writer]] w fun e w' => e = .returned (.bool (if dir then dirOk ⟨id, parent, name, dir, schema, quota, len, ps, writer⟩ else fileOk ⟨id, parent, name, dir, schema, quota, len, ps, writer⟩)) ∧ Below w.heap.size w w' := by
  have h1 := fun W => implDirOk id parent name dir schema quota len writer loc ps.length cap W
  have h2 := fun W (hb : Below w.heap.size w W) => implFileOk id parent name dir schema quota len writer loc ps cap W (hp.below hb) hl
  rw [← dirQ_is, ← fileQ_is]
  dsimp only
  generalize fileQ schema quota len writer ps = f at *
  obtain ⟨n, hn⟩ : ∃ n, n = ps.length := ⟨_, rfl⟩
  rw [← hn] at h1 h2 ⊢
  generalize ((schema == 0 || inI schema 1 3) && decide (0 ≤ quota) && decide (quota ≤ 1000) && len == 0 && (n : Int) == 0 && writer == 0) = d at *
  have H1 := Shut.mk h1
  have H2 := Shut.mk h2
  clear h1 h2 hn hp hl
  cases dir with
  | true =>
    go_enter Try.func64, Try.ntmps64
    go_wp2_with fail
    refine (H1.out _).mono ?_
    rintro e w1 ⟨rfl, hb⟩
    go_wp2_with fail
    go_ret
    exact ⟨rfl, ((Below.refl _ _).alloc (Nat.le_refl _) _).trans (hb.mono (by simp))⟩
  | false =>
    go_enter Try.func64, Try.ntmps64
    go_wp2_with fail
    refine (H2.out _ ((Below.refl _ _).alloc (Nat.le_refl _) _)).mono ?_
    rintro e w1 ⟨rfl, hb⟩
    go_wp2_with fail
    go_ret
    exact ⟨rfl, ((Below.refl _ _).alloc (Nat.le_refl _) _).trans (hb.mono (by simp))⟩
theorem implNodeOk (r : NR) (w : World) {lo hi : Nat} (hp : RRow w r.loc (pcs r.nd.pieces) lo hi) (hl : r.nd.pieces.length ≤ 1048576) : Calls Try.prog 64 #[nv r] w fun e w' => e = .returned (.bool (kindB r.nd)) ∧ Below w.heap.size w w' :=
  implNodeOk_any r.nd.id r.nd.parent r.nd.name r.nd.dir r.nd.schema r.nd.quota r.nd.len r.nd.writer r.loc r.nd.pieces r.cap w hp hl
/-- Up to here Ids are as they should be. -/
def IdsTo (T : TM) (k : Nat) : Prop := ∀ j, j < k → (T.nodes.getD j default).id < T.next ∧ (j = 0 ∨ (T.nodes.getD (j - 1) default).id < (T.nodes.getD j default).id)
theorem ids_yes {T : TM} (h : T.next ≤ 100000) (hk : IdsTo T T.nodes.length) : idsB T = true := by
  unfold idsB
  rw [decide_eq_true h]
  simp only [Bool.true_and]
  refine List.all_eq_true.2 fun i hi => ?_
  obtain ⟨h1, h2⟩ := hk i (by simpa using hi)
  rw [decide_eq_true h1]
  rcases h2 with e | e
  · simp [e]
  · rw [decide_eq_true e]; simp
theorem ids_no {T : TM} {k : Nat} (hk : k < T.nodes.length) (h : ¬ ((T.nodes.getD k default).id < T.next ∧ (k = 0 ∨ (T.nodes.getD (k - 1) default).id < (T.nodes.getD k default).id))) : idsB T = false := by
  refine Bool.eq_false_iff.2 fun hc => h ?_
  unfold idsB at hc
  simp only [Bool.and_eq_true, List.all_eq_true, List.mem_range, Bool.or_eq_true, decide_eq_true_eq] at hc
  exact hc.2 k hk
theorem ids_next {T : TM} (h : ¬ T.next ≤ 100000) : idsB T = false := by
  unfold idsB
  rw [decide_eq_false h]
  simp
set_option maxRecDepth 100000 in
set_option maxHeartbeats 2000000 in
theorem implIdsOk {w : World} {v : Value} {T : TM} {lo hi : Nat} (h : TSee w v T lo hi) (hf : NFit T) : Calls Try.prog 62 #[v] w fun e w' => e = .returned (.bool (idsB T)) ∧ Below w.heap.size w w' := by
  obtain ⟨a, cap, rs, rfl, hr, hm⟩ := h
  have hl : rs.length ≤ 1048576 := by unfold NFit at hf; rw [← hr, nds_len] at hf; omega
  obtain ⟨R, hR⟩ : ∃ R, R = idsB T := ⟨_, rfl⟩
  rw [← hR]
  have HR := Shut.mk hR
  have hlen : rs.length = T.nodes.length := by rw [← hr, nds_len]
  have hget : ∀ j (hj : j < rs.length), T.nodes.getD j default = rs[j].nd := fun j hj => by
    rw [← hr, getD_in (by rw [nds_len]; exact hj)]
    simp [nds]
  have HG := Shut.mk hget
  obtain ⟨n, hn⟩ : ∃ n, n = rs.length := ⟨_, rfl⟩
  rw [← hn] at hl hlen ⊢
  have HL := Shut.mk hlen
  have HN := Shut.mk hn
  have HM := Shut.mk hm
  obtain ⟨nx, hnx⟩ : ∃ nx, nx = T.next := ⟨_, rfl⟩
  rw [← hnx]
  have HX := Shut.mk hnx
  clear hR hr hm hf hlen hget hn hnx
  by_cases h1 : nx ≤ 100000
  · go_enter Try.func62, Try.ntmps62
    go_upto_region 3 with fail
    refine wp_shade (fun W => BX w W a n cap nx) (BX.new w a n cap nx 26) ?_
    intro W hg
    have HW := Shut.mk hg
    have x0 := (hg.box.2 0 _ rfl).1
    clear hg
    go_wp2_with fail
    go_loopw [11] (fun i wr => ∃ (k : Nat), i = .int .i64 k ∧ k ≤ n ∧ Shut (IdsTo T k) ∧ Shut (BX w wr a n cap nx)) (fun i _ => n - (intOf i).toNat)
    case atStart => exact ⟨0, rfl, Nat.zero_le _, ⟨fun _ h => absurd h (Nat.not_lt_zero _)⟩, HW⟩
    case round =>
      clear HW x0
      obtain ⟨k, rfl, hk, hto, hW⟩ := hrel
      have x0 := (hW.out.box.2 0 _ rfl).1
      have x1 := (hW.out.box.2 1 _ rfl).1
      have lw := hW.out.box.1
      by_cases hlt : k < n
      · have hkr : k < rs.length := by rw [← HN.out]; exact hlt
        obtain ⟨b, off, rfl, lb, hc⟩ := TR.nat HM.out (by omega)
        have hnk := (hc k hkr).below hW.out.bel lb
        have hge := HG.out k hkr
        obtain ⟨r, hr⟩ : ∃ r, r = rs[k] := ⟨_, rfl⟩
        rw [← hr] at hnk hge
        have HGE := Shut.mk hge
        obtain ⟨c0, c1, c2, c3, c4, c5, c6, c7, c8⟩ := hnk
        have lb' : b < wr.heap.size := Nat.lt_of_lt_of_le lb hW.out.bel.size
        have k0 : (0 : Int) ≤ (k : Int) := by omega
        have k1 : (k : Int) < (n : Int) := by omega
        have HBN : Shut (∀ q, BX w ((wr.alloc (.cells #[.int .i64 r.nd.id, .int .i64 r.nd.parent, .string r.nd.name, .bool r.nd.dir, .int .i64 r.nd.schema, .int .i64 r.nd.quota, .int .i64 r.nd.len, .slice r.loc r.nd.pieces.length r.cap, .int .i64 r.nd.writer] 30)).drewN q) (some ⟨b, off, none⟩) n cap nx) := ⟨fun q => hW.out.below (((Below.refl _ _).alloc (Nat.le_refl _) _).trans (Below.mono (B := wr.heap.size) ⟨rfl, rfl, rfl, Nat.le_refl _, fun _ _ => rfl⟩ (Nat.le_refl _)))⟩
        have hpr : ∀ (hkp : 0 < k), wr.cell? ⟨b, off + (k - 1) * 9, none⟩ = some (.int .i64 (T.nodes.getD (k - 1) default).id) := fun hkp => by
          rw [HG.out (k - 1) (by omega)]
          exact ((hc (k - 1) (by omega)).below hW.out.bel lb).1
        have HPR := Shut.mk hpr
        clear hc hr hge hpr
        obtain ⟨pid, hpid⟩ : ∃ p, p = (T.nodes.getD (k - 1) default).id := ⟨_, rfl⟩
        rw [← hpid] at HPR
        have HPI := Shut.mk hpid
        clear hpid
        obtain ⟨id, hid⟩ : ∃ p, p = r.nd.id := ⟨_, rfl⟩
        rw [← hid] at c0 HBN
        have HID := Shut.mk hid
        clear hid
        by_cases a1 : nx ≤ id
        · have HF : Shut (R = false) := ⟨by rw [HR.out]; exact ids_no (by rw [← HL.out]; exact hlt) (fun hc => by rw [HGE.out, ← HID.out, ← HX.out] at hc; omega)⟩
          go_upto_region 6 with fail
          go_quiet (fail)
          go_wp2_with fail
          go_ret
          exact ⟨by rw [HF.out]; rfl, (HBN.out _).bel⟩
        · by_cases a2 : 0 < k
          · have cp := HPR.out a2
            have hk1 : (k : Int) - 1 = ((k - 1 : Nat) : Int) := by omega
            have hk2 : (0 : Int) ≤ ((k - 1 : Nat) : Int) := by omega
            have hk3 : ((k - 1 : Nat) : Int) < (n : Int) := by omega
            have hkp : (0 : Int) < (k : Int) := by omega
            by_cases a3 : id ≤ pid
            · have HF : Shut (R = false) := ⟨by rw [HR.out]; exact ids_no (by rw [← HL.out]; exact hlt) (fun hc => by rw [HGE.out, ← HID.out, ← HPI.out] at hc; omega)⟩
              go_upto_region 6 with fail
              go_quiet (fail)
              go_wp2_with fail
              go_ret
              exact ⟨by rw [HF.out]; rfl, (HBN.out _).bel⟩
            · go_upto_region 6 with fail
              go_quiet (fail)
              go_wp2_with fail
              go_roundw
              case rel =>
                refine ⟨k + 1, by go_num, by omega, ⟨fun j hj => ?_⟩, ⟨HBN.out _⟩⟩
                rcases Nat.lt_succ_iff_lt_or_eq.1 hj with h | h
                · exact hto.out j h
                · subst h
                  rw [HGE.out, ← HID.out, ← HPI.out, ← HX.out]
                  exact ⟨by omega, .inr (by omega)⟩
              case measure => simp [intOf]; omega
          · have hkn : decide ((0 : Int) < (k : Int)) = false := by simp; omega
            have hkn' : ¬ (0 : Int) < (k : Int) := by omega
            go_upto_region 6 with fail
            go_quiet (fail)
            go_wp2_with fail
            go_roundw
            case rel =>
              refine ⟨k + 1, by go_num, by omega, ⟨fun j hj => ?_⟩, ⟨HBN.out _⟩⟩
              rcases Nat.lt_succ_iff_lt_or_eq.1 hj with h | h
              · exact hto.out j h
              · subst h
                rw [HGE.out, ← HID.out, ← HX.out]
                exact ⟨by omega, .inl (by omega)⟩
            case measure => simp [intOf]; omega
      · have hlt' : ¬ (k : Int) < (n : Int) := by omega
        obtain rfl : k = n := by omega
        have HT : Shut (R = true) := ⟨by rw [HR.out]; exact ids_yes (by rw [← HX.out]; exact h1) (by rw [← HL.out]; exact hto.out)⟩
        go_wp2_with fail
        go_ret
        exact ⟨by rw [HT.out]; rfl, hW.out.bel⟩
  · have HF : Shut (R = false) := ⟨by rw [HR.out]; exact ids_next (by rw [← HX.out]; exact h1)⟩
    go_enter Try.func62, Try.ntmps62
    go_wp2_with fail
    go_ret
    exact ⟨by rw [HF.out]; rfl, (Below.refl _ _).alloc (Nat.le_refl _) _⟩
end Go.Proofs.Ythfmjjaollekiaa
/- LkI: The program's own TreeOk, and nodeAt. -/
namespace Go.Proofs.Ythfmjjaollekiaa
set_option maxRecDepth 100000
open Go.RowKit Go.Maps BigFrame
attribute [local go_sem ↓] Go.wp_at_zero Go.wp_at_succ

/-- Up to here nodes are as they should be. -/
def NodesTo (T : TM) (k : Nat) : Prop := ∀ j, j < k → kindB (T.nodes.getD j default) = true ∧ (j = 0 ∨ placeB T.nodes j = true)
theorem prog_yes {T : TM} (h1 : inI (T.nodes.length : Int) 1 14 = true) (h2 : idsB T = true) (h3 : rootB (T.nodes.getD 0 default) = true) (h4 : NodesTo T T.nodes.length) : treeOk T = true := by
  rw [← prog_tree]
  unfold progB
  rw [h1, h2, h3]
  simp only [Bool.true_and]
  refine List.all_eq_true.2 fun i hi => ?_
  obtain ⟨q1, q2⟩ := h4 i (by simpa using hi)
  rw [q1]
  rcases q2 with e | e
  · simp [e]
  · rw [e]; simp
theorem prog_no {T : TM} {k : Nat} (hk : k < T.nodes.length) (h : ¬ (kindB (T.nodes.getD k default) = true ∧ (k = 0 ∨ placeB T.nodes k = true))) : treeOk T = false := by
  rw [← prog_tree]
  refine Bool.eq_false_iff.2 fun hc => h ?_
  unfold progB at hc
  simp only [Bool.and_eq_true, List.all_eq_true, List.mem_range, Bool.or_eq_true, decide_eq_true_eq] at hc
  exact hc.2 k hk
theorem prog_ids {T : TM} (h : idsB T = false) : treeOk T = false := by
  rw [← prog_tree]
  unfold progB
  rw [h]
  simp
theorem prog_root {T : TM} (h : rootB (T.nodes.getD 0 default) = false) : treeOk T = false := by
  rw [← prog_tree]
  unfold progB
  rw [h]
  simp
/-- A tree in its box, and its links. -/
structure BL (w W : World) (a : Option Addr) (n cap : Nat) (nx : Int) (L b1 b2 : Nat) (rs : List NR) (G : Nat → Nat) (C : Int → Nat) : Prop where
  bx : BX w W a n cap nx
  vr : WCells W L [.map (some b1), .map (some b2)]
  lk : Lk W w.heap.size b1 b2 rs G C (Ab (nds rs) fun _ => false)
theorem BL.below {w W W' : World} {a : Option Addr} {n cap L b1 b2 : Nat} {nx : Int} {rs : List NR} {G : Nat → Nat} {C : Int → Nat} (h : BL w W a n cap nx L b1 b2 rs G C) (hb : Below W.heap.size W W') : BL w W' a n cap nx L b1 b2 rs G C := ⟨h.bx.below hb, h.vr.grow hb, h.lk.below hb⟩
theorem Lk.base {w : World} {B B' b1 b2 : Nat} {rs : List NR} {G : Nat → Nat} {C : Int → Nat} {A : Nat → Option Nat} (h : Lk w B b1 b2 rs G C A) (hB : B' ≤ B) : Lk w B' b1 b2 rs G C A := by
  obtain ⟨m1, m2, m3, inj, cells, one, lo⟩ := h
  refine ⟨m1, m2, fun p hp => ?_, inj, fun i hi => ⟨(cells i hi).1, Nat.le_trans hB (cells i hi).2⟩, one, by omega⟩
  obtain ⟨q1, q2⟩ := m3 p hp
  exact ⟨by omega, q2⟩
set_option maxRecDepth 100000 in
set_option maxHeartbeats 4000000 in
theorem implTreeOk (w : World) (v : Value) (T : TM) (lo hi : Nat) (h : TSee w v T lo hi) (hf : NFit T) (hI : NInt T.nodes) : Calls Try.prog 42 #[v] w fun e w' => e = .returned (.bool (treeOk T)) ∧ Below w.heap.size w w' := by
  have hsee := h
  obtain ⟨a, cap, rs, rfl, hr, hm⟩ := h
  have hlen : rs.length = T.nodes.length := by rw [← hr, nds_len]
  have hl : rs.length ≤ 1048576 := by unfold NFit at hf; omega
  have hget : ∀ j (hj : j < rs.length), T.nodes.getD j default = rs[j].nd := fun j hj => by
    rw [← hr, getD_in (by rw [nds_len]; exact hj)]
    simp [nds]
  have hsz : ∀ x ∈ nds rs, x.name.size ≤ 1048576 ∧ x.pieces.length ≤ 1048576 := fun x hx => by
    rw [hr] at hx
    have := nsum_mem hx
    unfold NFit at hf
    omega
  obtain ⟨R, hR⟩ : ∃ R, R = treeOk T := ⟨_, rfl⟩
  rw [← hR]
  obtain ⟨n, hn⟩ : ∃ n, n = rs.length := ⟨_, rfl⟩
  obtain ⟨nx, hnx⟩ : ∃ nx, nx = T.next := ⟨_, rfl⟩
  rw [← hn] at hl hlen hsee ⊢
  rw [← hnx] at hsee ⊢
  have hids := fun W (hb : Below w.heap.size w W) => implIdsOk (hsee.below hb) hf
  have HR := Shut.mk hR
  have HG := Shut.mk hget
  have HL := Shut.mk hlen
  have HN := Shut.mk hn
  have HM := Shut.mk hm
  have HE := Shut.mk hr
  have HI := Shut.mk hI
  have HS := Shut.mk hsz
  have HID := Shut.mk hids
  clear hR hget hlen hm hr hI hsz hids hsee hnx hf hn
  by_cases h1 : n < 1
  · have HF : Shut (R = false) := ⟨by rw [HR.out]; exact treeOk_len (Bool.eq_false_iff.2 fun hc => by have := inI_iff.1 hc; have := HL.out; omega)⟩
    have h1' : (n : Int) < 1 := by omega
    go_enter Try.func42, Try.ntmps42
    go_wp2_with fail
    go_ret
    exact ⟨by rw [HF.out]; rfl, (Below.refl _ _).alloc (Nat.le_refl _) _⟩
  have h1' : ¬ (n : Int) < 1 := by omega
  by_cases h2 : 14 < n
  · have HF : Shut (R = false) := ⟨by rw [HR.out]; exact treeOk_len (Bool.eq_false_iff.2 fun hc => by have := inI_iff.1 hc; have := HL.out; omega)⟩
    have h2' : (14 : Int) < (n : Int) := by omega
    go_enter Try.func42, Try.ntmps42
    go_wp2_with fail
    go_ret
    exact ⟨by rw [HF.out]; rfl, (Below.refl _ _).alloc (Nat.le_refl _) _⟩
  have h2' : ¬ (14 : Int) < (n : Int) := by omega
  cases hid : idsB T with
  | false =>
    rw [hid] at HID
    have HF : Shut (R = false) := ⟨by rw [HR.out]; exact prog_ids hid⟩
    go_enter Try.func42, Try.ntmps42
    go_wp2_with (go_at_call 62; refine (HID.out _ ((Below.refl _ _).alloc (Nat.le_refl _) _)).mono ?_; rintro e w1 ⟨rfl, hb1⟩)
    go_ret
    exact ⟨by rw [HF.out]; rfl, ((Below.refl _ _).alloc (Nat.le_refl _) _).trans (hb1.mono (by simp))⟩
  | true =>
    rw [hid] at HID
    obtain ⟨b, off, ha, lb, hc⟩ := TR.nat HM.out (by have := HN.out; omega)
    have hn0 : 0 < rs.length := by have := HN.out; omega
    have hc0 := hc 0 hn0
    rw [Nat.zero_mul, Nat.add_zero] at hc0
    have hg0 := HG.out 0 hn0
    obtain ⟨r0, hr0⟩ : ∃ r, r = rs[0] := ⟨_, rfl⟩
    rw [← hr0] at hc0 hg0
    have hroot := fun W => implRootOk r0.nd.id r0.nd.parent r0.nd.name r0.nd.dir r0.nd.schema r0.nd.quota r0.nd.len r0.nd.writer r0.loc r0.nd.pieces.length r0.cap W
    have hrb : rootB r0.nd = rootB (T.nodes.getD 0 default) := by rw [hg0]
    simp only [rootQ_is, hrb] at hroot
    have HRT := Shut.mk hroot
    have HC0 := Shut.mk hc0
    have HID2 := Shut.mk hid
    rw [ha] at HM HID ⊢
    clear hc hc0 hg0 hr0 hroot hid hrb
    cases hrt : rootB (T.nodes.getD 0 default) with
    | false =>
      rw [hrt] at HRT
      have HF : Shut (R = false) := ⟨by rw [HR.out]; exact prog_root hrt⟩
      clear hrt
      go_enter Try.func42, Try.ntmps42
      go_wp2_with (first
        | (go_at_call 62; refine (HID.out _ ((Below.refl _ _).alloc (Nat.le_refl _) _)).mono ?_; rintro e w1 ⟨rfl, hb1⟩; have hbb : Below w.heap.size w w1 := ((Below.refl _ _).alloc (Nat.le_refl _) _).trans (hb1.mono (by simp)); obtain ⟨c0, c1, c2, c3, c4, c5, c6, c7, c8⟩ := HC0.out.below hbb lb; have x0 : w1.cell? ⟨w.heap.size, 0, none⟩ = some (.slice (some ⟨b, off, none⟩) n cap) := (hb1.cell (by simp)).trans (by simp); have HBB := Shut.mk hbb)
        | (go_at_call 63; refine (HRT.out _).mono ?_; rintro e w2 ⟨rfl, hb2⟩))
      go_ret
      exact ⟨by rw [HF.out]; rfl, HBB.out.trans (hb2.mono HBB.out.size)⟩
    | true =>
      rw [hrt] at HRT
      have HRT2 := Shut.mk hrt
      clear hrt
      go_enter Try.func42, Try.ntmps42
      go_wp2_with (first
        | (go_at_call 62; refine (HID.out _ ((Below.refl _ _).alloc (Nat.le_refl _) _)).mono ?_; rintro e w1 ⟨rfl, hb1⟩; have hbb : Below w.heap.size w w1 := ((Below.refl _ _).alloc (Nat.le_refl _) _).trans (hb1.mono (by simp)); obtain ⟨c0, c1, c2, c3, c4, c5, c6, c7, c8⟩ := HC0.out.below hbb lb; have x0 : w1.cell? ⟨w.heap.size, 0, none⟩ = some (.slice (some ⟨b, off, none⟩) n cap) := (hb1.cell (by simp)).trans (by simp); have HBX : Shut (BX w w1 (some ⟨b, off, none⟩) n cap nx) := ⟨(BX.new w (some ⟨b, off, none⟩) n cap nx 26).below hb1⟩)
        | (go_at_call 63; refine (HRT.out _).mono ?_; rintro e w2 ⟨rfl, hb2⟩; replace HBX := Shut.mk (HBX.out.below hb2); have y0 := (HBX.out.box.2 0 _ rfl).1))
      have hlk : Calls Try.prog 43 #[.slice (some ⟨b, off, none⟩) n cap] w2 fun e w' => ∃ b1 b2 G C, e = .returned (.agg #[.map (some b1), .map (some b2)]) ∧ Lk w' w2.heap.size b1 b2 rs G C (Ab (nds rs) fun _ => false) ∧ Below w2.heap.size w2 w' := by
        rw [HN.out]
        exact linkNodes_any (HM.out.below HBX.out.bel) (by rw [← HN.out]; exact hl) (by rw [HE.out]; exact HI.out) (fun x hx => by have := (HS.out x hx).1; unfold maxLen; omega)
      clear c0 c1 c2 c3 c4 c5 c6 c7 c8 x0 hb1 hb2 hbb HC0
      refine hlk.mono ?_
      rintro e w3 ⟨b1, b2, G, C, rfl, hLk, hb3⟩
      have hbx3 := HBX.out.below hb3
      have HB3 := Shut.mk hbx3
      have HL3 := Shut.mk (hLk.base HBX.out.bel.size)
      clear hlk y0 hb3 hbx3 hLk HBX
      have y0 := (HB3.out.box.2 0 _ rfl).1
      have ly := HB3.out.box.1
      go_upto_region 4 with fail
      refine wp_shade (fun W => BL w W (some ⟨b, off, none⟩) n cap nx w3.heap.size b1 b2 rs G C) ?_ ?_
      · have hb : Below w3.heap.size w3 (w3.alloc (.cells #[.map (some b1), .map (some b2)] 75)) := (Below.refl _ _).alloc (Nat.le_refl _) _
        exact ⟨HB3.out.below hb, wcells_new w3 #[.map (some b1), .map (some b2)] 75, HL3.out.below hb⟩
      intro W hW
      have HW := Shut.mk hW
      clear hW y0
      have y0 := (HW.out.bx.box.2 0 _ rfl).1
      obtain ⟨L, hL⟩ : ∃ L, L = w3.heap.size := ⟨_, rfl⟩
      rw [← hL] at HW ⊢
      have HASC : Shut (Asc (nds rs)) := ⟨by rw [HE.out]; exact ids_asc HID2.out HRT2.out (by rw [← HL.out]; omega)⟩
      clear HB3 HL3 hL ly HID HRT
      go_wp2_with fail
      go_loopw [35] (fun i wr => ∃ (k : Nat), i = .int .i64 k ∧ k ≤ n ∧ Shut (NodesTo T k) ∧ Shut (BL w wr (some ⟨b, off, none⟩) n cap nx L b1 b2 rs G C)) (fun i _ => n - (intOf i).toNat)
      case atStart => exact ⟨0, rfl, Nat.zero_le _, ⟨fun _ h => absurd h (Nat.not_lt_zero _)⟩, HW⟩
      case round =>
        clear HW y0
        obtain ⟨k, rfl, hk, hto, hW⟩ := hrel
        have v0 := (hW.out.vr.2 0 _ rfl).1
        have v1 := (hW.out.vr.2 1 _ rfl).1
        have lv := hW.out.vr.1
        by_cases hlt : k < n
        · have hkr : k < rs.length := by rw [← HN.out]; exact hlt
          obtain ⟨b', off', hab, _, hc⟩ := TR.nat HM.out (by omega)
          have e1 : b' = b ∧ off' = off := by simpa using hab.symm
          obtain ⟨rfl, rfl⟩ := e1
          have hnk := (hc k hkr).below hW.out.bx.bel lb
          have hge := HG.out k hkr
          have hmem : rs[k].nd ∈ nds rs := List.mem_map.2 ⟨_, List.getElem_mem hkr, rfl⟩
          have hno : ∀ W', Below w.heap.size w W' → Calls Try.prog 64 #[nv rs[k]] W' fun e w' => e = .returned (.bool (kindB (T.nodes.getD k default))) ∧ Below W'.heap.size W' w' := fun W' hb => by
            rw [hge]
            exact implNodeOk rs[k] W' ((HM.out.2 _ (List.getElem_mem hkr)).below hb) (HS.out _ hmem).2
          have hpo : ∀ W', BL w W' (some ⟨b', off', none⟩) n cap nx L b1 b2 rs G C → Calls Try.prog 65 #[.agg #[.map (some b1), .map (some b2)], nv rs[k]] W' fun e w' => e = .returned (.bool (placeB T.nodes k)) ∧ Below W'.heap.size W' w' := fun W' hb => by
            have := placeOk_any hb.lk HASC.out (by rw [HE.out]; exact HI.out) (fun x hx => (HS.out x hx).1) hkr
            rw [HE.out] at this
            exact this
          obtain ⟨r, hr⟩ : ∃ r, r = rs[k] := ⟨_, rfl⟩
          rw [← hr] at hnk hno hpo
          obtain ⟨⟨id, parent, name, dir, schema, quota, len, pieces, writer⟩, loc, cp⟩ := r
          dsimp only [nv] at hno hpo
          obtain ⟨c0, c1, c2, c3, c4, c5, c6, c7, c8⟩ := hnk
          dsimp only at c0 c1 c2 c3 c4 c5 c6 c7 c8
          generalize pieces.length = pn at *
          have HNO := Shut.mk hno
          have HPO := Shut.mk hpo
          have lb' : b' < wr.heap.size := Nat.lt_of_lt_of_le lb hW.out.bx.bel.size
          have k0 : (0 : Int) ≤ (k : Int) := by omega
          have k1 : (k : Int) < (n : Int) := by omega
          have HKL : Shut (k < T.nodes.length) := ⟨by rw [← HL.out]; exact hlt⟩
          clear hc hr hge hmem hno hpo hab
          have HBA : Shut (Below wr.heap.size wr (wr.alloc (.cells #[.int .i64 id, .int .i64 parent, .string name, .bool dir, .int .i64 schema, .int .i64 quota, .int .i64 len, .slice loc pn cp, .int .i64 writer] 30))) := ⟨(Below.refl _ _).alloc (Nat.le_refl _) _⟩
          have HNA : Shut (WCells (wr.alloc (.cells #[.int .i64 id, .int .i64 parent, .string name, .bool dir, .int .i64 schema, .int .i64 quota, .int .i64 len, .slice loc pn cp, .int .i64 writer] 30)) wr.heap.size [.int .i64 id, .int .i64 parent, .string name, .bool dir, .int .i64 schema, .int .i64 quota, .int .i64 len, .slice loc pn cp, .int .i64 writer]) := ⟨wcells_new wr #[.int .i64 id, .int .i64 parent, .string name, .bool dir, .int .i64 schema, .int .i64 quota, .int .i64 len, .slice loc pn cp, .int .i64 writer] 30⟩
          cases hkd : kindB (T.nodes.getD k default) with
          | false =>
            rw [hkd] at HNO
            have HF : Shut (R = false) := ⟨by rw [HR.out]; exact prog_no HKL.out (fun hc => by rw [hkd] at hc; cases hc.1)⟩
            clear hkd
            go_wp2_with (go_at_call 64; refine (HNO.out _ (hW.out.bx.bel.trans (((Below.refl _ _).alloc (Nat.le_refl _) _).mono hW.out.bx.bel.size))).mono ?_; rintro e w4 ⟨rfl, hb4⟩; have hW4 := (hW.out.below HBA.out).below hb4; have HW4 := Shut.mk hW4; have u0 := (hW4.vr.2 0 _ rfl).1; have u1 := (hW4.vr.2 1 _ rfl).1; have hnd := HNA.out.grow hb4; have d0 := (hnd.2 0 _ rfl).1; have d1 := (hnd.2 1 _ rfl).1; have d2 := (hnd.2 2 _ rfl).1; have d3 := (hnd.2 3 _ rfl).1; have d4 := (hnd.2 4 _ rfl).1; have d5 := (hnd.2 5 _ rfl).1; have d6 := (hnd.2 6 _ rfl).1; have d7 := (hnd.2 7 _ rfl).1; have d8 := (hnd.2 8 _ rfl).1; clear hW4 hnd hb4)
            go_ret
            exact ⟨by rw [HF.out]; rfl, HW4.out.bx.bel⟩
          | true =>
            rw [hkd] at HNO
            have HKD := Shut.mk hkd
            clear hkd
            by_cases hk0 : 0 < k
            · have hkp : (0 : Int) < (k : Int) := by omega
              cases hpl : placeB T.nodes k with
              | false =>
                rw [hpl] at HPO
                have HF : Shut (R = false) := ⟨by rw [HR.out]; exact prog_no HKL.out (fun hc => by rw [hpl] at hc; rcases hc.2 with h | h; omega; cases h)⟩
                clear hpl
                go_wp2_with (first | (go_at_call 64; refine (HNO.out _ (hW.out.bx.bel.trans (((Below.refl _ _).alloc (Nat.le_refl _) _).mono hW.out.bx.bel.size))).mono ?_; rintro e w4 ⟨rfl, hb4⟩; have hW4 := (hW.out.below HBA.out).below hb4; have HW4 := Shut.mk hW4; have u0 := (hW4.vr.2 0 _ rfl).1; have u1 := (hW4.vr.2 1 _ rfl).1; have hnd := HNA.out.grow hb4; have d0 := (hnd.2 0 _ rfl).1; have d1 := (hnd.2 1 _ rfl).1; have d2 := (hnd.2 2 _ rfl).1; have d3 := (hnd.2 3 _ rfl).1; have d4 := (hnd.2 4 _ rfl).1; have d5 := (hnd.2 5 _ rfl).1; have d6 := (hnd.2 6 _ rfl).1; have d7 := (hnd.2 7 _ rfl).1; have d8 := (hnd.2 8 _ rfl).1; clear hW4 hnd hb4) | (go_at_call 65; refine (HPO.out _ HW4.out).mono ?_; rintro e w5 ⟨rfl, hb5⟩))
                go_ret
                exact ⟨by rw [HF.out]; rfl, (HW4.out.below hb5).bx.bel⟩
              | true =>
                rw [hpl] at HPO
                have HPL := Shut.mk hpl
                clear hpl
                go_wp2_with (first | (go_at_call 64; refine (HNO.out _ (hW.out.bx.bel.trans (((Below.refl _ _).alloc (Nat.le_refl _) _).mono hW.out.bx.bel.size))).mono ?_; rintro e w4 ⟨rfl, hb4⟩; have hW4 := (hW.out.below HBA.out).below hb4; have HW4 := Shut.mk hW4; have u0 := (hW4.vr.2 0 _ rfl).1; have u1 := (hW4.vr.2 1 _ rfl).1; have hnd := HNA.out.grow hb4; have d0 := (hnd.2 0 _ rfl).1; have d1 := (hnd.2 1 _ rfl).1; have d2 := (hnd.2 2 _ rfl).1; have d3 := (hnd.2 3 _ rfl).1; have d4 := (hnd.2 4 _ rfl).1; have d5 := (hnd.2 5 _ rfl).1; have d6 := (hnd.2 6 _ rfl).1; have d7 := (hnd.2 7 _ rfl).1; have d8 := (hnd.2 8 _ rfl).1; clear hW4 hnd hb4) | (go_at_call 65; refine (HPO.out _ HW4.out).mono ?_; rintro e w5 ⟨rfl, hb5⟩))
                go_roundw
                case rel =>
                  refine ⟨k + 1, by go_num, by omega, ⟨fun j hj => ?_⟩, ⟨HW4.out.below hb5⟩⟩
                  rcases Nat.lt_succ_iff_lt_or_eq.1 hj with h | h
                  · exact hto.out j h
                  · subst h
                    exact ⟨HKD.out, .inr HPL.out⟩
                case measure => simp [intOf]; omega
            · have hkn : decide ((0 : Int) < (k : Int)) = false := by simp; omega
              have hkn' : ¬ (0 : Int) < (k : Int) := by omega
              go_wp2_with (go_at_call 64; refine (HNO.out _ (hW.out.bx.bel.trans (((Below.refl _ _).alloc (Nat.le_refl _) _).mono hW.out.bx.bel.size))).mono ?_; rintro e w4 ⟨rfl, hb4⟩; have hW4 := (hW.out.below HBA.out).below hb4; have HW4 := Shut.mk hW4; have u0 := (hW4.vr.2 0 _ rfl).1; have u1 := (hW4.vr.2 1 _ rfl).1; have hnd := HNA.out.grow hb4; have d0 := (hnd.2 0 _ rfl).1; have d1 := (hnd.2 1 _ rfl).1; have d2 := (hnd.2 2 _ rfl).1; have d3 := (hnd.2 3 _ rfl).1; have d4 := (hnd.2 4 _ rfl).1; have d5 := (hnd.2 5 _ rfl).1; have d6 := (hnd.2 6 _ rfl).1; have d7 := (hnd.2 7 _ rfl).1; have d8 := (hnd.2 8 _ rfl).1; clear hW4 hnd hb4)
              go_roundw
              case rel =>
                refine ⟨k + 1, by go_num, by omega, ⟨fun j hj => ?_⟩, HW4⟩
                rcases Nat.lt_succ_iff_lt_or_eq.1 hj with h | h
                · exact hto.out j h
                · subst h
                  exact ⟨HKD.out, .inl (by omega)⟩
              case measure => simp [intOf]; omega
        · have hlt' : ¬ (k : Int) < (n : Int) := by omega
          obtain rfl : k = n := by omega
          have HT : Shut (R = true) := ⟨by rw [HR.out]; exact prog_yes (inI_iff.2 (by have := HL.out; omega)) HID2.out HRT2.out (by rw [← HL.out]; exact hto.out)⟩
          go_wp2_with fail
          go_ret
          exact ⟨by rw [HT.out]; rfl, hW.out.bx.bel⟩
end Go.Proofs.Ythfmjjaollekiaa
/- LkJ: The program's own nodeAt and SchemaAt. -/
namespace Go.Proofs.Ythfmjjaollekiaa
set_option maxRecDepth 100000
open Go.RowKit Go.Maps BigFrame
attribute [local go_sem ↓] Go.wp_at_zero Go.wp_at_succ

theorem field_id (p q : Option Nat) (W : World) : (Instr.field 75 (.agg #[.map p, .map q]) 0).run Try.prog W = .ok (.map p) W := by kernel_rfl
theorem field_nm (p q : Option Nat) (W : World) : (Instr.field 75 (.agg #[.map p, .map q]) 1).run Try.prog W = .ok (.map q) W := by kernel_rfl
/-- What nodeAt answers: a pointer to the node, with all above it; nil where there is none, or the tree is not right. -/
def AtPost (T : TM) (id : Int) (w : World) (e : Ending) (w' : World) : Prop := ∃ o, e = .returned (ptrV o) ∧ Below w.heap.size w w' ∧ ((treeOk T = false ∧ o = none) ∨ (treeOk T = true ∧ ∃ G, o = (fid T.nodes id).map G ∧ Nd w' T.nodes G))
theorem fit_name {T : TM} (hf : NFit T) : ∀ x ∈ T.nodes, x.name.size ≤ 1048576 ∧ x.pieces.length ≤ 1048576 := fun x hx => by
  have := nsum_mem hx
  unfold NFit at hf
  omega
set_option maxRecDepth 100000 in
set_option maxHeartbeats 1000000 in
theorem nodeAt_any (w : World) (v : Value) (T : TM) (lo hi : Nat) (id : Int) (h : TSee w v T lo hi) (hf : NFit T) (hI : NInt T.nodes) (hid : (Lit.int .i64 id).wf = true) : Calls Try.prog 25 #[v, .int .i64 id] w fun e w' => AtPost T id w e w' := by
  have hsee := h
  obtain ⟨a, cap, rs, rfl, hr, hm⟩ := h
  have hl : rs.length ≤ 1048576 := by unfold NFit at hf; rw [← hr, nds_len] at hf; omega
  obtain ⟨n, hn⟩ : ∃ n, n = rs.length := ⟨_, rfl⟩
  obtain ⟨nx, hnx⟩ : ∃ nx, nx = T.next := ⟨_, rfl⟩
  rw [← hn, ← hnx] at hsee ⊢
  have hok := fun W (hb : Below w.heap.size w W) => implTreeOk W _ T lo hi (hsee.below hb) hf hI
  have hlk := fun W (hb : Below w.heap.size w W) => linkNodes_any (cap := cap) (hm.below hb) hl (by rw [hr]; exact hI) (fun x hx => by rw [hr] at hx; have := (fit_name hf x hx).1; unfold maxLen; omega)
  rw [← hn] at hlk
  have HOK := Shut.mk hok
  have HLK := Shut.mk hlk
  have HR := Shut.mk hr
  clear hok hlk hr hm hsee hn hnx
  cases ht : treeOk T with
  | false =>
    rw [ht] at HOK
    have HT := Shut.mk ht
    clear ht
    go_enter Try.func25, Try.ntmps25
    go_wp2_with (go_at_call 42; refine (HOK.out _ ((Below.refl _ _).alloc (Nat.le_refl _) _)).mono ?_; rintro e w1 ⟨rfl, hb1⟩)
    go_ret
    exact ⟨none, rfl, ((Below.refl _ _).alloc (Nat.le_refl _) _).trans (hb1.mono (by simp)), .inl ⟨HT.out, rfl⟩⟩
  | true =>
    rw [ht] at HOK
    have HT := Shut.mk ht
    clear ht
    go_enter Try.func25, Try.ntmps25
    go_wp2_with (go_at_call 42; refine (HOK.out _ ((Below.refl _ _).alloc (Nat.le_refl _) _)).mono ?_; rintro e w1 ⟨rfl, hb1⟩; have hbx := (BX.new w a n cap nx 26).below hb1; have HBX := Shut.mk hbx; have x0 := (hbx.box.2 0 _ rfl).1; clear hb1 hbx)
    refine (HLK.out _ HBX.out.bel).mono ?_
    rintro e w2 ⟨b1, b2, G, C, rfl, hL, hb2⟩
    obtain ⟨D1, o1, t1⟩ := hL.m1
    have k1 := look_ptr keyI Try.underlying72 zeroLp o1 (key_int hid) (t1 id) 0
    rw [World.drewN_zero] at k1
    have HL := Shut.mk hL
    have HB := Shut.mk (HBX.out.bel.trans (hb2.mono HBX.out.bel.size))
    clear hL hb2 o1 t1 x0
    have k0 := field_id (some b1) (some b2)
    go_wp2_with fail
    go_ret
    refine ⟨(fid (nds rs) id).map G, rfl, HB.out, .inr ⟨HT.out, G, by rw [HR.out], ?_⟩⟩
    rw [← HR.out]
    exact HL.out.nd
set_option maxRecDepth 100000 in
set_option maxHeartbeats 1000000 in
theorem implSchemaAt (w : World) (v : Value) (T : TM) (lo hi : Nat) (id : Int) (h : TSee w v T lo hi) (hf : NFit T) (hI : NInt T.nodes) (hid : (Lit.int .i64 id).wf = true) : Calls Try.prog 8 #[v, .int .i64 id] w fun e w' => e = .returned (.int .i64 (schemaAtX T id)) ∧ Below w.heap.size w w' := by
  have hsee := h
  obtain ⟨a, cap, rs, rfl, hr, hm⟩ := h
  obtain ⟨n, hn⟩ : ∃ n, n = rs.length := ⟨_, rfl⟩
  obtain ⟨nx, hnx⟩ : ∃ nx, nx = T.next := ⟨_, rfl⟩
  rw [← hn, ← hnx] at hsee ⊢
  have hat := fun W (hb : Below w.heap.size w W) => nodeAt_any W _ T lo hi id (hsee.below hb) hf hI hid
  have HAT := Shut.mk hat
  obtain ⟨R, hR⟩ : ∃ R, R = schemaAtX T id := ⟨_, rfl⟩
  rw [← hR]
  have HR := Shut.mk hR
  clear hat hr hm hsee hn hnx hR hf hI hid
  go_enter Try.func8, Try.ntmps8
  go_wp2_with fail
  refine (HAT.out _ ((Below.refl _ _).alloc (Nat.le_refl _) _)).mono ?_
  rintro e w1 ⟨o, rfl, hb1, hcase⟩
  have HB := Shut.mk (((Below.refl w.heap.size w).alloc (Nat.le_refl _) (.cells #[.slice a n cap, .int .i64 nx] 26)).trans (hb1.mono (by simp)))
  clear hb1 HAT
  rcases hcase with ⟨ht, rfl⟩ | ⟨ht, G, rfl, hnd⟩
  · have HE : Shut (R = 0) := ⟨by rw [HR.out]; unfold schemaAtX; rw [if_neg (by rw [ht]; decide)]⟩
    rw [ptr_none]
    clear ht
    go_wp2_with fail
    go_loopg [5] 0 (fun _ p wr => p = .pointer none ∧ wr = w1)
    case atStart => exact ⟨rfl, rfl⟩
    case round =>
      obtain ⟨rfl, rfl⟩ := hrel
      go_wp2_with fail
      go_ret
      exact ⟨by rw [HE.out]; rfl, HB.out⟩
  · have HT := Shut.mk (tree_tall ht)
    have HND := Shut.mk hnd
    have HE : Shut (R = schemaF T.nodes 15 id) := ⟨by rw [HR.out]; unfold schemaAtX; rw [if_pos ht]⟩
    clear hnd ht
    obtain ⟨N, hN⟩ : ∃ N, ∀ j d, Ups T.nodes j d → j < T.nodes.length → d + 1 ≤ N := ⟨5, fun j d hu hj => by obtain ⟨d', hd, hu'⟩ := HT.out.2 j hj; rw [hu.det hu']; omega⟩
    have HNN := Shut.mk hN
    clear hN
    go_wp2_with fail
    go_loopg [5] N (fun m p wr => wr = w1 ∧ (Shut (p = .pointer none ∧ R = 0) ∨ Shut (∃ (j d r : Nat), p = .pointer (some ⟨G j, 0, none⟩) ∧ d + 1 ≤ m ∧ j < T.nodes.length ∧ Ups T.nodes j d ∧ schemaF T.nodes (d + 2 + r) (T.nodes.getD j default).id = R)))
    case atStart =>
      refine ⟨rfl, ?_⟩
      cases hf : fid T.nodes id with
      | none => exact .inl ⟨⟨rfl, by rw [HE.out]; exact schemaF_none hf⟩⟩
      | some j =>
        obtain ⟨hj, ej⟩ := fid_lt hf
        obtain ⟨d, hd, hu⟩ := HT.out.2 j hj
        refine .inr ⟨⟨j, d, 13 - d, rfl, HNN.out j d hu hj, hj, hu, ?_⟩⟩
        rw [HE.out, getD_in hj, ej, show d + 2 + (13 - d) = 15 by omega]
    case round =>
      obtain ⟨rfl, hrel⟩ := hrel
      rcases hrel with ⟨rfl, hR0⟩ | ⟨j, d, r, rfl, hdm, hj, hu, h1⟩
      · have HE0 := Shut.mk hR0
        clear hR0
        go_wp2_with fail
        go_ret
        exact ⟨by rw [HE0.out]; rfl, HB.out⟩
      · have c4 := (HND.out.cells j hj).2.2.2.2.1
        have hf := HT.out.1.fid hj
        have c9 := HND.out.above j hj hf
        have hge := getD_in hj
        obtain ⟨x, hx⟩ : ∃ x, x = T.nodes[j] := ⟨_, rfl⟩
        rw [← hx] at c4 c9 hge hf
        rw [hge, show d + 2 + r = (d + 1 + r) + 1 by omega, schemaF_some (i := j) hf, hge] at h1
        have HH := Shut.mk (And.intro h1 (And.intro hu hge))
        obtain ⟨o, ho⟩ : ∃ o, o = fid T.nodes x.parent := ⟨_, rfl⟩
        rw [← ho] at c9
        have HO := Shut.mk ho
        clear ho h1 hu hge hf hx
        by_cases hs : x.schema = 0
        · cases o with
          | none =>
            simp only [Option.map_none, ptr_none] at c9
            go_wp2_with fail
            go_roundg (gk - 1)
            case measure => omega
            case rel =>
              refine ⟨rfl, .inl ⟨⟨rfl, ?_⟩⟩⟩
              obtain ⟨h1, hu, hge⟩ := HH.out
              rw [if_neg (by simp [hs])] at h1
              rw [← h1, show d + 1 + r = (d + r) + 1 by omega]
              exact schemaF_none HO.out.symm
          | some k =>
            simp only [Option.map_some, ptr_some] at c9
            go_wp2_with fail
            go_roundg (gk - 1)
            case measure => omega
            case rel =>
              refine ⟨rfl, .inr ⟨?_⟩⟩
              obtain ⟨h1, hu, hge⟩ := HH.out
              rw [if_neg (by simp [hs])] at h1
              cases hu with
              | root =>
                have e0 := HT.out.1.2.2.2
                have h4 := HO.out
                rw [hge] at e0
                rw [e0, HT.out.1.zero] at h4
                cases h4
              | @step _ k' d' _ _ hk hu' =>
                rw [hge, ← HO.out] at hk
                cases hk
                obtain ⟨hkl, ek⟩ := fid_lt HO.out.symm
                refine ⟨k, d', r, rfl, by omega, hkl, hu', ?_⟩
                rw [← ek, ← getD_in hkl] at h1
                rw [← h1, show d' + 2 + r = d' + 1 + 1 + r by omega]
        · have hs' : (x.schema != 0) = true := by simp [hs]
          go_wp2_with fail
          go_ret
          refine ⟨?_, HB.out⟩
          obtain ⟨h1, hu, hge⟩ := HH.out
          rw [if_pos hs] at h1
          rw [← h1]
          rfl
end Go.Proofs.Ythfmjjaollekiaa
/- LkK: The program's own BelowOf. -/
namespace Go.Proofs.Ythfmjjaollekiaa
set_option maxRecDepth 100000
open Go.RowKit Go.Maps BigFrame
attribute [local go_sem ↓] Go.wp_at_zero Go.wp_at_succ

/-- Those of a row of nodes that are below an Id, or have it. -/
def blwL (all ns : List NM) (top : Int) : List Int := (ns.filter fun n => decide (top ≠ 0) && belowF all 15 n.id top).map NM.id
theorem blwL_take (all ns : List NM) (top : Int) (k : Nat) (h : k < ns.length) : blwL all (ns.take (k + 1)) top = blwL all (ns.take k) top ++ if (decide (top ≠ 0) && belowF all 15 ns[k].id top) = true then [ns[k].id] else [] := by
  rw [List.take_succ_eq_append_getElem h]
  unfold blwL
  rw [List.filter_append, List.map_append]
  congr 1
  simp only [List.filter_cons, List.filter_nil]
  split <;> simp
theorem blwL_len (all ns : List NM) (top : Int) : (blwL all ns top).length ≤ ns.length := by
  unfold blwL
  rw [List.length_map]
  exact List.length_filter_le _ _
theorem blwL_is {T : TM} (h : treeOk T = true) (id : Int) : blwL T.nodes T.nodes id = belowX T id := by
  have ht := tree_tall h
  unfold belowX blwL
  cases hf : fid T.nodes id with
  | none =>
    rw [if_neg (by rw [at_fid, hf]; simp)]
    rw [List.map_eq_nil_iff, List.filter_eq_nil_iff]
    intro n hn hc
    obtain ⟨i, hi, rfl⟩ := List.mem_iff_getElem.1 hn
    obtain ⟨d, _, hu⟩ := ht.2 i hi
    simp only [Bool.and_eq_true, decide_eq_true_eq] at hc
    have := belowF_no ht.1 hf hc.1 hu 15
    rw [getD_in hi, hc.2] at this
    cases this
  | some i =>
    rw [if_pos ⟨h, by rw [at_fid, hf]; simp⟩]
    obtain ⟨hi, e⟩ := fid_lt hf
    have h0 : id ≠ 0 := by have := ht.1.pos hi; omega
    unfold belowL
    congr 2
    funext n
    simp [h0]
set_option maxRecDepth 100000 in
set_option maxHeartbeats 2000000 in
theorem implBelowOf (w : World) (v : Value) (T : TM) (lo hi : Nat) (id : Int) (h : TSee w v T lo hi) (hf : NFit T) (hI : NInt T.nodes) : Calls Try.prog 23 #[v, .int .i64 id] w fun e w' => IPost (belowX T id) w e w' := by
  have hsee := h
  obtain ⟨a, cap, rs, rfl, hr, hm⟩ := h
  have hlen : rs.length = T.nodes.length := by rw [← hr, nds_len]
  have hl : rs.length ≤ 1048576 := by unfold NFit at hf; omega
  have hget : ∀ j (hj : j < rs.length), ∃ hj' : j < T.nodes.length, T.nodes[j] = rs[j].nd := fun j hj => by
    refine ⟨by rw [← hr, nds_len]; exact hj, ?_⟩
    rw [List.getElem_of_eq hr.symm]
    simp [nds]
  obtain ⟨n, hn⟩ : ∃ n, n = rs.length := ⟨_, rfl⟩
  obtain ⟨nx, hnx⟩ : ∃ nx, nx = T.next := ⟨_, rfl⟩
  rw [← hn, ← hnx] at hsee ⊢
  have hok := fun W (hb : Below w.heap.size w W) => implTreeOk W _ T lo hi (hsee.below hb) hf hI
  have hlk := fun W (hb : Below w.heap.size w W) => linkNodes_any (cap := cap) (hm.below hb) hl (by rw [hr]; exact hI) (fun x hx => by rw [hr] at hx; have := (fit_name hf x hx).1; unfold maxLen; omega)
  rw [← hn] at hlk hl hlen
  obtain ⟨R, hR⟩ : ∃ R, R = belowX T id := ⟨_, rfl⟩
  rw [← hR]
  have HOK := Shut.mk hok
  have HLK := Shut.mk hlk
  have HE := Shut.mk hr
  have HM := Shut.mk hm
  have HN := Shut.mk hn
  have HL := Shut.mk hlen
  have HG := Shut.mk hget
  have HR := Shut.mk hR
  have HI := Shut.mk hI
  clear hok hlk hr hm hsee hn hnx hlen hget hR hI hf
  cases ht : treeOk T with
  | false =>
    rw [ht] at HOK
    have HF : Shut (R = []) := ⟨by rw [HR.out]; unfold belowX; rw [if_neg (by rw [ht]; simp)]⟩
    clear ht
    go_enter Try.func23, Try.ntmps23
    go_wp2_with (go_at_call 42; refine (HOK.out _ ((Below.refl _ _).alloc (Nat.le_refl _) _)).mono ?_; rintro e w1 ⟨rfl, hb1⟩)
    go_ret
    exact ⟨_, rfl, by rw [HF.out]; exact IAns.empty _ _ _ _ _, ((Below.refl _ _).alloc (Nat.le_refl _) _).trans (hb1.mono (by simp))⟩
  | true =>
    rw [ht] at HOK
    have HT := Shut.mk (tree_tall ht)
    have HRR : Shut (R = blwL T.nodes T.nodes id) := ⟨by rw [HR.out, blwL_is ht]⟩
    have h14 : n ≤ 14 := by have := treeOk_14 ht; have := HL.out; omega
    obtain ⟨t0, ht0, hty0, hty1, hty2⟩ := info_parts infoIntG
    clear ht
    go_enter Try.func23, Try.ntmps23
    go_wp2_with (go_at_call 42; refine (HOK.out _ ((Below.refl _ _).alloc (Nat.le_refl _) _)).mono ?_; rintro e w1 ⟨rfl, hb1⟩; have hbx := (BX.new w a n cap nx 26).below hb1; have HBX := Shut.mk hbx; have x0 := (hbx.box.2 0 _ rfl).1; clear hb1 hbx)
    refine (HLK.out _ HBX.out.bel).mono ?_
    rintro e w2 ⟨b1, b2, G, C, rfl, hL, hb2⟩
    have HB2 := Shut.mk (HBX.out.below hb2)
    have HL2 := Shut.mk (hL.base HBX.out.bel.size)
    clear hL hb2 x0 HBX
    have x0 := (HB2.out.box.2 0 _ rfl).1
    have lx := HB2.out.box.1
    go_upto_region 5 with fail
    refine wp_shade (fun W => BL w W a n cap nx w2.heap.size b1 b2 rs G C) ?_ ?_
    · have hb : Below w2.heap.size w2 (w2.alloc (.cells #[.map (some b1), .map (some b2)] 75)) := (Below.refl _ _).alloc (Nat.le_refl _) _
      exact ⟨HB2.out.below hb, wcells_new w2 #[.map (some b1), .map (some b2)] 75, HL2.out.below hb⟩
    intro V hV
    have HV := Shut.mk hV
    clear hV x0
    have x0 := (HV.out.bx.box.2 0 _ rfl).1
    obtain ⟨L, hL⟩ : ∃ L, L = w2.heap.size := ⟨_, rfl⟩
    rw [← hL] at HV ⊢
    clear HB2 HL2 hL lx HLK HOK
    go_wp2_with fail
    go_loopw [6, 18] (fun ov iv wr => ∃ (k l : Nat) (vv : Value), vv = ov ∧ iv = .int .i64 k ∧ k ≤ n ∧ l ≤ k ∧ Shut (l = (blwL T.nodes (T.nodes.take k) id).length) ∧ Shut (Below V.heap.size V wr ∧ wr.ownsRow V.heap.size 3 1 vv l (ics (blwL T.nodes (T.nodes.take k) id)))) (fun _ iv _ => n - (intOf iv).toNat)
    case atStart => exact ⟨0, 0, _, rfl, rfl, Nat.zero_le _, Nat.le_refl _, ⟨by simp [blwL]⟩, ⟨Below.refl _ _, by simpa [blwL, ics] using World.ownsRow_nil V V.heap.size 3 1⟩⟩
    case round =>
      clear x0
      obtain ⟨k, l, ov, rfl, rfl, hk, hlk, HK, HW⟩ := hrel
      have hW := HV.out.below HW.out.1
      have v0 := (hW.vr.2 0 _ rfl).1
      by_cases hlt : k < n
      · have hkr : k < rs.length := by rw [← HN.out]; exact hlt
        obtain ⟨b, off, rfl, lb, hc⟩ := TR.nat HM.out (by omega)
        have hnk := (hc k hkr).below hW.bx.bel lb
        obtain ⟨hkT, hge⟩ := HG.out k hkr
        have hst := blwL_take T.nodes T.nodes id k hkT
        obtain ⟨D1, o1, t1⟩ := hW.lk.m1
        have hfi := HT.out.1.fid hkT
        have hmem : T.nodes[k] ∈ T.nodes := List.getElem_mem hkT
        have f1 := (HI.out _ hmem).1
        have htk := t1 T.nodes[k].id
        rw [HE.out, hfi] at htk
        have hnd := hW.lk.nd
        rw [HE.out] at hnd
        have hbe : blw T.nodes k id = (decide (id ≠ 0) && belowF T.nodes 15 rs[k].nd.id id) := by unfold blw; rw [getD_in hkT, hge]
        have hib := fun W' (hb : Below wr.heap.size wr W') => isBelow_any (hnd.below hb) HT.out hkT id
        rw [hge] at hst f1 htk
        rw [hbe] at hib
        obtain ⟨r, hr⟩ : ∃ r, r = rs[k] := ⟨_, rfl⟩
        rw [← hr] at hnk hst f1 htk hib
        have k1 := look_ptr keyI Try.underlying72 zeroLp (o1.alloc (.cells #[.int .i64 r.nd.id, .int .i64 r.nd.parent, .string r.nd.name, .bool r.nd.dir, .int .i64 r.nd.schema, .int .i64 r.nd.quota, .int .i64 r.nd.len, .slice r.loc r.nd.pieces.length r.cap, .int .i64 r.nd.writer] 30)) (key_int f1) htk 0
        rw [World.drewN_zero] at k1
        simp only [Option.map_some, ptr_some] at k1
        have hba : Below wr.heap.size wr (wr.alloc (.cells #[.int .i64 r.nd.id, .int .i64 r.nd.parent, .string r.nd.name, .bool r.nd.dir, .int .i64 r.nd.schema, .int .i64 r.nd.quota, .int .i64 r.nd.len, .slice r.loc r.nd.pieces.length r.cap, .int .i64 r.nd.writer] 30)) := (Below.refl _ _).alloc (Nat.le_refl _) _
        have HIB := Shut.mk (hib _ hba)
        have HBA := Shut.mk hba
        have HST := Shut.mk hst
        have lv := hW.vr.1
        have lb' : b < wr.heap.size := Nat.lt_of_lt_of_le lb hW.bx.bel.size
        have k0 : (0 : Int) ≤ (k : Int) := by omega
        have k2 : (k : Int) < (n : Int) := by omega
        have hsv : V.heap.size ≤ wr.heap.size := HW.out.1.size
        have HOW := Shut.mk (HW.out.2.alloc (.cells #[.int .i64 r.nd.id, .int .i64 r.nd.parent, .string r.nd.name, .bool r.nd.dir, .int .i64 r.nd.schema, .int .i64 r.nd.quota, .int .i64 r.nd.len, .slice r.loc r.nd.pieces.length r.cap, .int .i64 r.nd.writer] 30))
        obtain ⟨c0, c1, c2, c3, c4, c5, c6, c7, c8⟩ := hnk
        obtain ⟨bb, hbb⟩ : ∃ bb, bb = (decide (id ≠ 0) && belowF T.nodes 15 r.nd.id id) := ⟨_, rfl⟩
        rw [← hbb] at HIB HST
        clear hc hr hst hfi hmem f1 htk hnd hbe hib hba o1 t1 hW hge hbb
        cases bb with
        | false =>
          have HS' : Shut (blwL T.nodes (T.nodes.take (k + 1)) id = blwL T.nodes (T.nodes.take k) id) := ⟨by rw [HST.out]; simp⟩
          go_wp2_with (go_at_call 44; refine HIB.out.mono ?_; rintro e w9 ⟨rfl, rfl⟩)
          go_roundw
          case rel => exact ⟨k + 1, l, ov, rfl, by go_num, by omega, by omega, ⟨by rw [HS'.out]; exact HK.out⟩, ⟨HW.out.1.trans (HBA.out.mono hsv), by rw [HS'.out]; exact HOW.out⟩⟩
          case measure => simp [intOf]; omega
        | true =>
          have HS' : Shut (blwL T.nodes (T.nodes.take (k + 1)) id = blwL T.nodes (T.nodes.take k) id ++ [r.nd.id]) := ⟨by rw [HST.out]; simp⟩
          go_upto_region 9 with (go_at_call 44; refine HIB.out.mono ?_; rintro e w9 ⟨rfl, rfl⟩)
          refine wp_shade (fun W => Below wr.heap.size wr W ∧ W.cell? ⟨wr.heap.size, 0, none⟩ = some (.int .i64 r.nd.id)) ⟨HBA.out, by simp⟩ ?_
          intro W9 hW9
          obtain ⟨hb9, d0⟩ := hW9
          have ho9 := HW.out.2.kept (row := none) ⟨hb9.os, hb9.tape, hb9.output, hb9.size, fun k hk _ => hb9.block k hk⟩ (Classical.em _)
          have hs9 : V.heap.size ≤ W9.heap.size := Nat.le_trans hsv hb9.size
          have HB9 := Shut.mk hb9
          clear hb9 HBA HOW c0 c1 c2 c3 c4 c5 c6 c7 c8 k1 v0
          go_wp2_with (at_builtin; refine wpList_append_own _ rfl _ _ 32 rfl V.heap.size 3 t0 (.int .i64 0) 1 8 Try.underlying32 ht0 hty0 hty1 hty2 rfl (by decide) _ _ _ rfl (ho9.alloc _) ⟨W9.heap.size, 0, none⟩ 1 1 [.int .i64 r.nd.id] rfl rfl (cell_one_new _ _ _) ?c2 ?c3 ?c4 ?c5 ?_)
          case c2 => first | rfl | (intro u hu; simp at hu; subst hu; rfl)
          case c3 => unfold maxLen; omega
          case c4 => omega
          case c5 => first | omega | (simp; omega)
          intro v' w10 ho10 hgrow _
          rw [ics_snoc9, ← HS'.out] at ho10
          have HGZ : Shut (Below V.heap.size V w10 ∧ w10.ownsRow V.heap.size 3 1 v' (l + 1) (ics (blwL T.nodes (T.nodes.take (k + 1)) id))) := ⟨((HW.out.1.trans (HB9.out.mono hsv)).alloc hs9 _).grown hgrow (by simp; omega) (fun j hj => (ho9.lt j hj).1), ho10⟩
          clear hgrow ho10 ho9
          go_wp2_with fail
          go_roundw
          case rel => exact ⟨k + 1, l + 1, v', rfl, by go_num, by omega, by omega, ⟨by rw [HS'.out, List.length_append, List.length_singleton, ← HK.out]⟩, HGZ⟩
          case measure => simp [intOf]; omega
      · have k1 : ¬ (k : Int) < (n : Int) := by omega
        have hall : T.nodes.take k = T.nodes := List.take_of_length_le (by have := HL.out; omega)
        have ho := HW.out.2
        have hlen := HK.out
        rw [hall, ← HRR.out] at ho hlen
        have HO := Shut.mk ho
        have HBV : Shut (Below w.heap.size w wr) := ⟨hW.bx.bel⟩
        have hsz : w.heap.size ≤ V.heap.size := HV.out.bx.bel.size
        clear ho hall hW
        go_wp2_with fail
        go_ret
        exact ⟨_, rfl, own_ians hlen.symm (own_wider9 HO.out hsz), HBV.out⟩
end Go.Proofs.Ythfmjjaollekiaa
/- LkL: The program's own UsedBelow. -/
namespace Go.Proofs.Ythfmjjaollekiaa
set_option maxRecDepth 100000
open Go.RowKit Go.Maps BigFrame
attribute [local go_sem ↓] Go.wp_at_zero Go.wp_at_succ

/-- How much nodes have whose Ids are told. -/
def usedP : List NM → List Int → Int
  | [], _ => 0
  | n :: r, L => (if L.contains n.id then n.len else 0) + usedP r L
theorem usedP_append (a b : List NM) (L : List Int) : usedP (a ++ b) L = usedP a L + usedP b L := by
  induction a with
  | nil => simp [usedP]
  | cons n a ih => simp only [List.cons_append, usedP, ih]; omega
theorem usedP_take (ns : List NM) (L : List Int) (k : Nat) (h : k < ns.length) : usedP (ns.take (k + 1)) L = usedP (ns.take k) L + if L.contains ns[k].id then ns[k].len else 0 := by
  rw [List.take_succ_eq_append_getElem h, usedP_append]
  simp [usedP]
theorem usedP_nil (ns : List NM) : usedP ns [] = 0 := by
  induction ns with
  | nil => rfl
  | cons n r ih => simp [usedP, ih]
theorem Asc.mem_at {ns : List NM} (h : Asc ns) {n : NM} (hn : n ∈ ns) : ns.getD (atI ns n.id).toNat default = n := by
  obtain ⟨i, hi, rfl⟩ := List.mem_iff_getElem.1 hn
  rw [at_fid, h.fid hi]
  simp [hi]
theorem Asc.mem_eq {ns : List NM} (h : Asc ns) {m n : NM} (hm : m ∈ ns) (hn : n ∈ ns) (e : m.id = n.id) : m = n := by
  rw [← h.mem_at hm, ← h.mem_at hn, e]
theorem usedP_is (T : TM) (id : Int) : usedP T.nodes (belowX T id) = usedX T id := by
  unfold usedX
  cases ht : treeOk T with
  | false =>
    have : belowX T id = [] := by unfold belowX; rw [if_neg (by rw [ht]; simp)]
    rw [this, usedP_nil]
    rfl
  | true =>
    have ha := (tree_tall ht).1
    rw [← blwL_is ht]
    unfold blwL
    generalize hq : (fun n : NM => decide (id ≠ 0) && belowF T.nodes 15 n.id id) = q
    have hc : ∀ n ∈ T.nodes, ((T.nodes.filter q).map NM.id).contains n.id = q n := fun n hn => by
      rw [Bool.eq_iff_iff]
      simp only [List.contains_iff_mem, List.mem_map, List.mem_filter]
      constructor
      · rintro ⟨m, ⟨hm, hqm⟩, e⟩
        rw [← ha.mem_eq hm hn e]
        exact hqm
      · exact fun hqn => ⟨n, ⟨hn, hqn⟩, rfl⟩
    have key : ∀ M : List NM, (∀ n ∈ M, n ∈ T.nodes) → usedP M ((T.nodes.filter q).map NM.id) = usedL T.nodes ((M.filter q).map NM.id) := by
      intro M
      induction M with
      | nil => intro _; rfl
      | cons n r ih =>
        intro hM
        have hn := hM n (by simp)
        have ih' := ih fun m hm => hM m (by simp [hm])
        unfold usedP
        rw [hc n hn, ih']
        cases hqn : q n with
        | true =>
          rw [List.filter_cons_of_pos hqn, List.map_cons]
          conv => rhs; unfold usedL
          rw [ha.mem_at hn]
          simp
        | false =>
          rw [List.filter_cons_of_neg (by simp [hqn])]
          simp
    exact key T.nodes fun n hn => hn
theorem usedP_le (T : TM) (id : Int) (k : Nat) : 0 ≤ usedP (T.nodes.take k) (belowX T id) ∧ usedP (T.nodes.take k) (belowX T id) ≤ 14000 := by
  cases ht : treeOk T with
  | false =>
    have : belowX T id = [] := by unfold belowX; rw [if_neg (by rw [ht]; simp)]
    rw [this, usedP_nil]
    omega
  | true =>
    have hall : ∀ M : List NM, (∀ n ∈ M, 0 ≤ n.len ∧ n.len ≤ 1000) → 0 ≤ usedP M (belowX T id) ∧ usedP M (belowX T id) ≤ 1000 * M.length := by
      intro M
      induction M with
      | nil => intro _; simp [usedP]
      | cons n r ih =>
        intro hM
        have h1 := hM n (by simp)
        have h2 := ih fun m hm => hM m (by simp [hm])
        simp only [usedP, List.length_cons]
        push_cast
        split <;> omega
    have h3 := hall (T.nodes.take k) fun n hn => by
      obtain ⟨i, hi, rfl⟩ := List.mem_iff_getElem.1 (List.mem_of_mem_take hn)
      have := nodeOk_len (treeOk_node ht hi)
      rw [getD_in hi] at this
      exact this
    have h4 := treeOk_14 ht
    have h5 : (T.nodes.take k).length ≤ 14 := by simp; omega
    omega
set_option maxRecDepth 100000 in
set_option maxHeartbeats 1000000 in
theorem implIndex {w : World} {a : Option Addr} {xs : List Int} (cap : Nat) (x : Int) (hr : CRow w a (ics xs)) (hl : xs.length ≤ 1048576) : Calls Try.prog 45 #[.slice a xs.length cap, .int .i64 x] w fun e w' => (∃ i : Int, e = .returned (.int .i64 i) ∧ Shut (decide (0 ≤ i) = xs.contains x)) ∧ w' = w := by
  obtain ⟨n, hn⟩ : ∃ n, n = xs.length := ⟨_, rfl⟩
  rw [← hn] at hl ⊢
  have HN := Shut.mk hn
  have HR := Shut.mk hr
  clear hn hr
  go_enter Try.func45, Try.ntmps45
  go_wp2_with fail
  go_loopw [8] (fun i wr => ∃ k : Nat, i = .int .i64 k ∧ k ≤ n ∧ Shut (∀ j (hj : j < xs.length), j < k → xs[j] ≠ x) ∧ wr = w) (fun i _ => n - (intOf i).toNat)
  case atStart => exact ⟨0, rfl, Nat.zero_le _, ⟨fun _ _ h => absurd h (Nat.not_lt_zero _)⟩, rfl⟩
  case round =>
    obtain ⟨k, rfl, hk, hno, rfl⟩ := hrel
    by_cases hlt : k < n
    · have hkx : k < xs.length := by rw [← HN.out]; exact hlt
      obtain ⟨b, off, rfl, lb, hc⟩ := HR.out (by simp [ics]; omega)
      have e0 := hc k (.int .i64 xs[k]) (by simp [ics, hkx])
      have k0 : (0 : Int) ≤ (k : Int) := by omega
      have k1 : (k : Int) < (n : Int) := by omega
      obtain ⟨y, hy⟩ : ∃ y, y = xs[k] := ⟨_, rfl⟩
      rw [← hy] at e0
      have HY := Shut.mk hy
      clear hc hy
      by_cases hxy : x = y
      · have hxy' : (x == y) = true := by simp [hxy]
        have HC : Shut (xs.contains x = true) := ⟨by rw [hxy, HY.out]; simp⟩
        clear hxy
        go_wp2_with fail
        go_ret
        exact ⟨⟨k, rfl, ⟨by rw [HC.out]; simp⟩⟩, rfl⟩
      · go_wp2_with fail
        go_roundw
        case rel =>
          refine ⟨k + 1, by go_num, by omega, ⟨fun j hj hjk => ?_⟩, trivial⟩
          rcases Nat.lt_succ_iff_lt_or_eq.1 hjk with h | h
          · exact hno.out j hj h
          · subst h
            rw [← HY.out]
            exact fun e => hxy e.symm
        case measure => simp [intOf]; omega
    · have hlt' : ¬ (k : Int) < (n : Int) := by omega
      have HC : Shut (xs.contains x = false) := ⟨by
        refine Bool.eq_false_iff.2 fun hc => ?_
        simp only [List.contains_iff_mem] at hc
        obtain ⟨j, hj, e⟩ := List.mem_iff_getElem.1 hc
        exact hno.out j hj (by have := HN.out; omega) e⟩
      go_wp2_with fail
      go_ret
      exact ⟨⟨-1, rfl, ⟨by have := HC.out; simp at this; simp [this]⟩⟩, rfl⟩
set_option maxRecDepth 100000 in
theorem implContains {w : World} {a : Option Addr} {xs : List Int} (cap : Nat) (x : Int) (hr : CRow w a (ics xs)) (hl : xs.length ≤ 1048576) : Calls Try.prog 24 #[.slice a xs.length cap, .int .i64 x] w fun e w' => e = .returned (.bool (xs.contains x)) ∧ w' = w := by
  have HC := Shut.mk (implIndex cap x hr hl)
  generalize xs.contains x = c at *
  generalize xs.length = n at *
  clear hr
  go_enter Try.func24, Try.ntmps24
  go_wp2_with fail
  refine HC.out.mono ?_
  rintro e w1 ⟨⟨i, rfl, HI⟩, rfl⟩
  go_wp2_with fail
  go_ret
  exact ⟨by rw [← HI.out]; rfl, rfl⟩
set_option maxRecDepth 100000 in
set_option maxHeartbeats 1000000 in
theorem implUsedBelow (w : World) (v : Value) (T : TM) (lo hi : Nat) (id : Int) (h : TSee w v T lo hi) (hf : NFit T) (hI : NInt T.nodes) : Calls Try.prog 7 #[v, .int .i64 id] w fun e w' => e = .returned (.int .i64 (usedX T id)) ∧ Below w.heap.size w w' := by
  have hsee := h
  obtain ⟨a, cap, rs, rfl, hr, hm⟩ := h
  have hlen : rs.length = T.nodes.length := by rw [← hr, nds_len]
  have hl : rs.length ≤ 1048576 := by unfold NFit at hf; omega
  have hget : ∀ j (hj : j < rs.length), ∃ hj' : j < T.nodes.length, T.nodes[j] = rs[j].nd := fun j hj => by
    refine ⟨by rw [← hr, nds_len]; exact hj, ?_⟩
    rw [List.getElem_of_eq hr.symm]
    simp [nds]
  obtain ⟨n, hn⟩ : ∃ n, n = rs.length := ⟨_, rfl⟩
  obtain ⟨nx, hnx⟩ : ∃ nx, nx = T.next := ⟨_, rfl⟩
  rw [← hn, ← hnx] at hsee ⊢
  have hbo := fun W (hb : Below w.heap.size w W) => implBelowOf W _ T lo hi id (hsee.below hb) hf hI
  rw [← hn] at hl hlen
  rw [← usedP_is]
  have hle := usedP_le T id
  have hbl : (belowX T id).length ≤ 1048576 := by have := belowX_len T id; omega
  generalize belowX T id = X at *
  obtain ⟨R, hR⟩ : ∃ R, R = usedP T.nodes X := ⟨_, rfl⟩
  rw [← hR]
  unfold IPost at hbo
  have HBO := Shut.mk hbo
  have HM := Shut.mk hm
  have HN := Shut.mk hn
  have HL := Shut.mk hlen
  have HG := Shut.mk hget
  have HR := Shut.mk hR
  have HLE := Shut.mk hle
  clear hbo hr hm hsee hn hnx hlen hget hR hI hf hle
  go_enter Try.func7, Try.ntmps7
  go_wp2_with fail
  refine (HBO.out _ ((Below.refl _ _).alloc (Nat.le_refl _) _)).mono ?_
  rintro e w1 ⟨u, rfl, hA, hb1⟩
  obtain ⟨ua, ucap, rfl, hcr⟩ := hA.crow
  have hbx := (BX.new w a n cap nx 26).below hb1
  have HBX := Shut.mk hbx
  have x0 := (hbx.box.2 0 _ rfl).1
  have hco := fun W (hb : Below w1.heap.size w1 W) (x : Int) => implContains ucap x (CRow.stays hcr hb) hbl
  obtain ⟨xn, hxn⟩ : ∃ xn, xn = X.length := ⟨_, rfl⟩
  rw [← hxn] at hco ⊢
  have HCO := Shut.mk hco
  clear hA hb1 hcr hbx HBO hco hxn
  go_wp2_with fail
  go_loopw [6, 15] (fun sv iv wr => ∃ k : Nat, sv = .int .i64 (usedP (T.nodes.take k) X) ∧ iv = .int .i64 k ∧ k ≤ n ∧ Shut (Below w1.heap.size w1 wr)) (fun _ iv _ => n - (intOf iv).toNat)
  case atStart => exact ⟨0, by simp [usedP], rfl, Nat.zero_le _, ⟨Below.refl _ _⟩⟩
  case round =>
    clear x0
    obtain ⟨k, rfl, rfl, hk, HW⟩ := hrel
    have hlek := HLE.out k
    by_cases hlt : k < n
    · have hkr : k < rs.length := by rw [← HN.out]; exact hlt
      have hW := HBX.out.below HW.out
      obtain ⟨b, off, rfl, lb, hc⟩ := TR.nat HM.out (by omega)
      have hnk := (hc k hkr).below hW.bel lb
      obtain ⟨hkT, hge⟩ := HG.out k hkr
      have hst := usedP_take T.nodes X k hkT
      have hle1 := HLE.out (k + 1)
      rw [hst] at hle1
      rw [hge] at hst hle1
      obtain ⟨r, hr⟩ : ∃ r, r = rs[k] := ⟨_, rfl⟩
      rw [← hr] at hnk hst hle1
      obtain ⟨sm, hsm⟩ : ∃ sm, sm = usedP (T.nodes.take k) X := ⟨_, rfl⟩
      rw [← hsm] at hlek hst hle1 ⊢
      have HST := Shut.mk hst
      have lb' : b < wr.heap.size := Nat.lt_of_lt_of_le lb hW.bel.size
      have k0 : (0 : Int) ≤ (k : Int) := by omega
      have k1 : (k : Int) < (n : Int) := by omega
      have hba : Below w1.heap.size w1 (wr.alloc (.cells #[.int .i64 r.nd.id, .int .i64 r.nd.parent, .string r.nd.name, .bool r.nd.dir, .int .i64 r.nd.schema, .int .i64 r.nd.quota, .int .i64 r.nd.len, .slice r.loc r.nd.pieces.length r.cap, .int .i64 r.nd.writer] 30)) := HW.out.alloc HW.out.size _
      have hcc := HCO.out _ hba r.nd.id
      have HBA := Shut.mk hba
      obtain ⟨c0, c1, c2, c3, c4, c5, c6, c7, c8⟩ := hnk
      clear hc hr hst hW hba hsm hge
      cases hct : X.contains r.nd.id with
      | true =>
        rw [hct] at hcc HST hle1
        have HCC := Shut.mk hcc
        have HS' : Shut (usedP (T.nodes.take (k + 1)) X = sm + r.nd.len) := ⟨by rw [HST.out]; simp⟩
        have hle2 : 0 ≤ sm + r.nd.len ∧ sm + r.nd.len ≤ 14000 := by simpa using hle1
        clear hct hcc hle1
        go_wp2_with (go_at_call 24; refine HCC.out.mono ?_; rintro e w9 ⟨rfl, rfl⟩)
        go_roundw
        case rel => exact ⟨k + 1, by rw [HS'.out], by go_num, by omega, HBA⟩
        case measure => simp [intOf]; omega
      | false =>
        rw [hct] at hcc HST
        have HCC := Shut.mk hcc
        have HS' : Shut (usedP (T.nodes.take (k + 1)) X = sm) := ⟨by rw [HST.out]; simp⟩
        clear hct hcc hle1
        go_wp2_with (go_at_call 24; refine HCC.out.mono ?_; rintro e w9 ⟨rfl, rfl⟩)
        go_roundw
        case rel => exact ⟨k + 1, by rw [HS'.out], by go_num, by omega, HBA⟩
        case measure => simp [intOf]; omega
    · have k1 : ¬ (k : Int) < (n : Int) := by omega
      have hall : T.nodes.take k = T.nodes := List.take_of_length_le (by have := HL.out; omega)
      have HE : Shut (usedP (T.nodes.take k) X = R) := ⟨by rw [hall, HR.out]⟩
      have HB : Shut (Below w.heap.size w wr) := ⟨(HBX.out.below HW.out).bel⟩
      clear hall
      go_wp2_with fail
      go_ret
      exact ⟨by rw [← HE.out]; rfl, HB.out⟩
end Go.Proofs.Ythfmjjaollekiaa
/- GrpI: The program's own GroupsOf. -/
namespace Go.Proofs.Ythfmjjaollekiaa
set_option maxRecDepth 100000
open Go.RowKit Go.Maps Go.Sort BigFrame
attribute [local go_sem ↓] Go.wp_at_zero Go.wp_at_succ

/-- A row of numbers of its own is sorted. -/
theorem sortI_any {w : World} {B : Nat} {v : Value} {zs : List Int} (h : w.ownsRow B 3 1 v zs.length (ics zs)) (hl : zs.length ≤ 1048576) :
    Calls Try.prog 35 #[v] w fun e w' => e = .returned (.tuple #[]) ∧ w'.ownsRow B 3 1 v zs.length (ics (zs.mergeSort fun x y => decide (x ≤ y))) ∧ Below B w w' := by
  rcases h.2 with ⟨rfl, h0⟩ | ⟨g, cap, cur, rfl, hbase, hb, h1, h2, h3, h4⟩
  · have hL : zs = [] := List.eq_nil_of_length_eq_zero h0
    subst hL
    refine (Try.slices_Sort_int_none none 0 w).mono ?_
    rintro e w' ⟨rfl, rfl⟩
    exact ⟨rfl, by simpa using h, Below.refl _ _⟩
  · have hH : Holds (Value.int .i64) w g 0 zs.toArray := holds_of_blockI hb (by simpa [ics] using h4)
    have hgl : g < w.heap.size := (Array.getElem?_eq_some_iff.1 hb).1
    refine (Try.slices_Sort_int g 0 cap zs w hH hgl (by omega)).mono ?_
    rintro e w' ⟨rfl, q, os, rfl⟩
    have hrow := ownsRow_sortedI (n := q) (os := os) (ts := zs.mergeSort fun x y => decide (x ≤ y)) (by simp) hbase hb h1 h2 h3
    have hgb := grownBy_sortedI (w := w) (g := g) (n := q) (os := os) (zs.mergeSort fun x y => decide (x ≤ y)).toArray
    exact ⟨rfl, hrow, (Below.refl _ _).grown hgb (by omega) (fun j hj => by cases hj; exact hbase)⟩
theorem compact_len (zs : List Int) : (Lib.compact zs).length ≤ zs.length := by
  unfold Lib.compact Lib.compactUpTo
  rw [List.length_map]
  exact Nat.le_trans (List.length_filter_le _ _) (by simp)
/-- A row of numbers of its own, each once. -/
theorem compactI_any {w : World} {B : Nat} {v : Value} {zs : List Int} (h : w.ownsRow B 3 1 v zs.length (ics zs)) (hl : zs.length ≤ 1048576) :
    Calls Try.prog 36 #[v] w fun e w' => ∃ v', e = .returned v' ∧ IAns w' v' (Lib.compact zs) B w'.heap.size ∧ Below B w w' := by
  rcases h.2 with ⟨rfl, h0⟩ | ⟨g, cap, cur, rfl, hbase, hb, h1, h2, h3, h4⟩
  · have hL : zs = [] := List.eq_nil_of_length_eq_zero h0
    subst hL
    refine (Try.slices_Compact_int_empty none 0 w).mono ?_
    rintro e w' ⟨rfl, rfl⟩
    exact ⟨_, rfl, IAns.empty _ _ _ _ _, Below.refl _ _⟩
  · have hH : Holds (Value.int .i64) w g 0 zs.toArray := holds_of_blockI hb (by simpa [ics] using h4)
    have hgl : g < w.heap.size := (Array.getElem?_eq_some_iff.1 hb).1
    refine (Try.slices_Compact_int g 0 cap zs w hH (by omega) h1).mono ?_
    rintro e w' ⟨rfl, q, rfl⟩
    obtain ⟨ts, hts⟩ : ∃ ts, ts = Lib.compact zs ++ List.replicate (zs.length - (Lib.compact zs).length) (0 : Int) := ⟨_, rfl⟩
    have hcl := compact_len zs
    have htl : ts.length = zs.length := by rw [hts, List.length_append, List.length_replicate]; omega
    rw [← hts]
    have hrow := ownsRow_sortedI (n := q) (os := #[]) (ts := ts) htl hbase hb h1 h2 h3
    have hgb := grownBy_sortedI (w := w) (g := g) (n := q) (os := #[]) ts.toArray
    rw [grow_empty] at hrow hgb
    have hwc : WCells _ g (ics ts) := own_wcells hrow
    refine ⟨_, rfl, ⟨some ⟨g, 0, none⟩, cap, rfl, by omega, .inr ⟨g, rfl, hbase, hwc.1, hwc.1, fun i u hu => hwc.2 i u ?_⟩⟩, (Below.refl _ _).grown hgb (by omega) (fun j hj => by cases hj; exact hbase)⟩
    rw [hts]
    have hi : i < (ics (Lib.compact zs)).length := (List.getElem?_eq_some_iff.1 hu).1
    have e : ics (Lib.compact zs ++ List.replicate (zs.length - (Lib.compact zs).length) 0) = ics (Lib.compact zs) ++ ics (List.replicate (zs.length - (Lib.compact zs).length) 0) := by simp [ics]
    rw [e, List.getElem?_append_left hi]
    exact hu
theorem allG_take (ns : List NM) (X : List Int) (k : Nat) (h : k < ns.length) : allG (ns.take (k + 1)) X = allG (ns.take k) X ++ if X.contains ns[k].id = true then ns[k].pieces.map PM.group else [] := by
  unfold allG
  rw [List.take_succ_eq_append_getElem h, List.filter_append, List.flatMap_append]
  congr 1
  by_cases q : X.contains ns[k].id = true
  · rw [List.filter_cons, if_pos q, if_pos q]; simp
  · rw [List.filter_cons, if_neg q, if_neg q]; simp
theorem pm_take (ps : List PM) (k : Nat) (h : k < ps.length) : (ps.take (k + 1)).map PM.group = (ps.take k).map PM.group ++ [ps[k].group] := by
  rw [List.take_succ_eq_append_getElem h, List.map_append]
  rfl
theorem tree_plc {T : TM} (h : treeOk T = true) : ∀ n ∈ T.nodes, ndAt T (plc T n.id) = n := fun n hn => by
  have := tree_tall h
  obtain ⟨i, hi, rfl⟩ := List.getElem_of_mem hn
  have hf := this.1.fid hi
  have : atI T.nodes T.nodes[i].id = (i : Int) := by rw [at_fid, hf]
  rw [at_plc this, nd_mem hi]
theorem grp_end {T : TM} (id : Int) : Lib.compact ((allG T.nodes (belowX T id)).mergeSort fun x y => decide (x ≤ y)) = grpX T id := by
  by_cases h : treeOk T = true
  · exact grp_prog (tree_plc h) id
  · have e : belowX T id = [] := by unfold belowX; rw [if_neg (fun q => h q.1)]
    have e2 : allG T.nodes [] = [] := by unfold allG; rw [List.filter_eq_nil_iff.2 (by simp)]; rfl
    unfold grpX
    rw [e, e2]
    simp [grpL, Lib.compact, Lib.compactUpTo]
theorem allG_len {T : TM} (id : Int) : ∀ k, (allG (T.nodes.take k) (belowX T id)).length ≤ 40 * k := by
  intro k
  induction k with
  | zero => simp [allG]
  | succ k ih =>
    by_cases hk : k < T.nodes.length
    · rw [allG_take _ _ _ hk, List.length_append]
      split
      · rename_i q
        have hm : T.nodes[k].id ∈ belowX T id := by simpa using q
        have := (node_parts (belowX_mem hm).1 k hk).2.1
        rw [List.length_map]
        omega
      · simp; omega
    · rw [List.take_of_length_le (by omega)] at ih ⊢
      omega
attribute [local irreducible] treeOk belowX allG grpX
set_option maxRecDepth 100000 in
set_option maxHeartbeats 4000000 in
theorem implGroupsOf (w : World) (v : Value) (T : TM) (lo hi : Nat) (id : Int) (h : TSee w v T lo hi) (hf : NFit T) (hI : NInt T.nodes) : Calls Try.prog 15 #[v, .int .i64 id] w fun e w' => IPost (grpX T id) w e w' := by
  obtain ⟨t0, ht0, hty0, hty1, hty2⟩ := info_parts infoIntG
  have h' := h
  obtain ⟨a, cap, rs, rfl, hr, hm⟩ := h
  obtain ⟨n, hn⟩ : ∃ n, n = rs.length := ⟨_, rfl⟩
  obtain ⟨nx, hnx⟩ : ∃ nx, nx = T.next := ⟨_, rfl⟩
  rw [← hn, ← hnx] at h' ⊢
  have HBO := Shut.mk (fun W (hW : Below w.heap.size w W) => implBelowOf W _ T lo hi id (h'.below hW) hf hI)
  have HGE := Shut.mk (grp_end (T := T) id)
  have HGL := Shut.mk (allG_len (T := T) id)
  have hbl := belowX_len T id
  have hnl : n ≤ 1048576 := by unfold NFit at hf; rw [← hr, nds_len] at hf; omega
  have HPC := Shut.mk (fit_name hf)
  have HP40 : Shut (∀ j (hj : j < T.nodes.length), (belowX T id).contains T.nodes[j].id = true → T.nodes[j].pieces.length ≤ 40 ∧ T.nodes.length ≤ 14) := ⟨fun j hj q => by
    have hm : T.nodes[j].id ∈ belowX T id := by simpa using q
    exact ⟨(node_parts (belowX_mem hm).1 j hj).2.1, (tree_len (belowX_mem hm).1).2.1⟩⟩
  obtain ⟨R, hR⟩ : ∃ R, R = grpX T id := ⟨_, rfl⟩
  rw [← hR] at HGE ⊢
  obtain ⟨B, hB⟩ : ∃ B, B = belowX T id := ⟨_, rfl⟩
  rw [← hB] at HBO HGE HGL HP40 hbl
  unfold IPost at HBO
  have HLEN : Shut (n = T.nodes.length) := ⟨by rw [hn, ← hr, nds_len]⟩
  have HNODE : Shut (∀ j (hj : j < rs.length) (h2 : j < T.nodes.length), T.nodes[j] = rs[j].nd) := ⟨fun j hj hj2 => by
    have : (nds rs)[j]'(by rw [nds_len]; exact hj) = rs[j].nd := by simp [nds]
    rw [← this]
    congr 1
    exact hr.symm⟩
  have HTR := Shut.mk hm
  have HN := Shut.mk hn
  clear hm hr hn hnx h' hR hB hf hI
  go_enter Try.func15, Try.ntmps15
  go_upto_region 1 with fail
  obtain ⟨tb, htb⟩ : ∃ tb, tb = w.heap.size := ⟨_, rfl⟩
  refine wp_shade (fun W => MB w W [(tb, [.slice a n cap, .int .i64 nx])]) (by rw [htb]; exact (MB.nil w).new #[.slice a n cap, .int .i64 nx] 26) ?_
  intro W1 hW1
  have HM := Shut.mk hW1
  rw [← htb]
  have x0 := ((HM.out.at 0 rfl).1.2 0 _ rfl).1
  have x1 := ((HM.out.at 0 rfl).1.2 1 _ rfl).1
  clear hW1 htb
  go_upto_region 2 with (go_at_call 23; refine (HBO.out _ HM.out.bel).mono ?_; rintro e w2 ⟨bv, rfl, hba, hb2⟩; replace HM := Shut.mk (HM.out.below hb2); have HBV := Shut.mk hba; clear hb2 hba x0 x1)
  obtain ⟨ba9, bc, rfl, hcr⟩ := HBV.out.crow
  have HCR : Shut (∀ W, Below w2.heap.size w2 W → CRow W ba9 (ics B)) := ⟨fun W hb => hcr.stays hb⟩
  obtain ⟨bm, hbm⟩ : ∃ bm, bm = B.length := ⟨_, rfl⟩
  have HBM := Shut.mk hbm
  rw [← hbm] at hbl ⊢
  have HMW : Shut (Below w.heap.size w w2) := ⟨HM.out.bel⟩
  have x0 := ((HM.out.at 0 rfl).1.2 0 _ rfl).1
  clear hcr HBV hbm
  go_wp2_with fail
  go_loopw [6, 17] (fun ov iv wr => ∃ (k m : Nat) (vv : Value), vv = ov ∧ iv = .int .i64 k ∧ k ≤ n ∧ m ≤ 600 ∧ Shut (IRow w2 wr vv m (allG (T.nodes.take k) B))) (fun _ iv _ => n - (intOf iv).toNat)
  case atStart => exact ⟨0, 0, _, rfl, rfl, Nat.zero_le _, Nat.zero_le _, ⟨by rw [List.take_zero]; unfold allG; rfl, Below.refl _ _, by rw [List.take_zero]; unfold allG; exact World.ownsRow_nil w2 w2.heap.size 3 1⟩⟩
  case round =>
    clear x0
    obtain ⟨k, m, ov, rfl, rfl, hk, hm, HG⟩ := hrel
    obtain ⟨wo, rfl⟩ : ∃ wo, wo = wr := ⟨_, rfl⟩
    by_cases hlt : k < n
    case neg =>
      have k1 : ¬ (k : Int) < (n : Int) := by omega
      have hall : T.nodes.take k = T.nodes := List.take_of_length_le (by have := HLEN.out; omega)
      rw [hall] at HG
      obtain ⟨Z, hZ⟩ : ∃ Z, Z = allG T.nodes B := ⟨_, rfl⟩
      rw [← hZ] at HG HGE
      have ho := HG.out.2.2
      have hml := HG.out.1
      rw [hml] at ho
      have HSO := Shut.mk (sortI_any ho (by omega))
      have HBG := Shut.mk HG.out.2.1
      have HZL : Shut (Z.length ≤ 600) := ⟨by omega⟩
      clear hall hZ ho hml HG
      go_wp2_with (go_at_call 35; refine HSO.out.mono ?_; rintro e w5 ⟨rfl, ho5, hb5⟩; have HO5 := Shut.mk ho5; have HB5 : Shut (Below w2.heap.size w2 w5) := ⟨HBG.out.trans hb5⟩; clear ho5 hb5)
      have hls : (Z.mergeSort fun x y => decide (x ≤ y)).length = Z.length := by simp
      have HCO := Shut.mk (compactI_any (zs := Z.mergeSort fun x y => decide (x ≤ y)) (by rw [hls]; exact HO5.out) (by have := HZL.out; omega))
      clear hls
      go_wp2_with (go_at_call 36; refine HCO.out.mono ?_; rintro e w6 ⟨v6, rfl, hi6, hb6⟩; have HI6 := Shut.mk hi6; have HB6 : Shut (Below w2.heap.size w2 w6) := ⟨HB5.out.trans hb6⟩; clear hi6 hb6)
      go_ret
      refine ⟨v6, rfl, ?_, HMW.out.trans (HB6.out.mono HMW.out.size)⟩
      have h9 := HI6.out
      rw [HGE.out] at h9
      obtain ⟨a9, c9, e9, q1, q2⟩ := h9
      exact ⟨a9, c9, e9, q1, q2.imp (fun e => e) (fun ⟨g, e1, e2, e3, e4⟩ => ⟨g, e1, Nat.le_trans HMW.out.size e2, e3, e4⟩)⟩
    case pos =>
    have hkr : k < rs.length := by have := HN.out; omega
    have hkT : k < T.nodes.length := by have := HLEN.out; omega
    have k0 : (0 : Int) ≤ (k : Int) := by omega
    have k1 : (k : Int) < (n : Int) := by omega
    obtain ⟨b, off, rfl, lb, hnat⟩ := HTR.out.nat (by omega)
    have hBw : Below w.heap.size w wo := HMW.out.trans (HG.out.2.1.mono HMW.out.size)
    have hnk := (hnat k hkr).below hBw lb
    have hst := allG_take T.nodes B k hkT
    have hp40 := HP40.out k hkT
    have hpsz := (HPC.out T.nodes[k] (List.getElem_mem hkT)).2
    rw [HNODE.out k hkr hkT] at hst hp40 hpsz
    have HPR := Shut.mk (HTR.out.2 _ (List.getElem_mem hkr))
    have hgl := HGL.out k
    rw [← HG.out.1] at hgl
    obtain ⟨r, hrk⟩ : ∃ r, r = rs[k] := ⟨_, rfl⟩
    rw [← hrk] at hnk hst hp40 hpsz HPR
    obtain ⟨c0, c1, c2, c3, c4, c5, c6, c7, c8⟩ := hnk
    have lbo : b < wo.heap.size := Nat.lt_of_lt_of_le lb hBw.size
    have HST := Shut.mk hst
    have HBW := Shut.mk hBw
    have HP4 := Shut.mk hp40
    clear hrk hst hnat hBw hp40
    go_upto_region 6 with fail
    obtain ⟨xb, hxb⟩ : ∃ xb, xb = wo.heap.size := ⟨_, rfl⟩
    refine wp_shade (fun W => Below wo.heap.size wo W ∧ WCells W xb (ncells r)) ⟨(Below.refl _ _).alloc (Nat.le_refl _) _, by rw [hxb]; exact wcells_new wo #[.int .i64 r.nd.id, .int .i64 r.nd.parent, .string r.nd.name, .bool r.nd.dir, .int .i64 r.nd.schema, .int .i64 r.nd.quota, .int .i64 r.nd.len, .slice r.loc r.nd.pieces.length r.cap, .int .i64 r.nd.writer] 30⟩ ?_
    rintro W3 ⟨hb3, hx3⟩
    rw [← hxb]
    have HG3 := Shut.mk (HG.out.below hb3)
    have HX3 := Shut.mk hx3
    have HB3 : Shut (Below w.heap.size w W3) := ⟨HBW.out.trans (hb3.mono HBW.out.size)⟩
    have y0 := (hx3.2 0 _ rfl).1
    have HCO := Shut.mk (implContains bc r.nd.id (HCR.out W3 HG3.out.2.1) (by have := HBM.out; omega))
    rw [← HBM.out] at HCO
    clear hb3 hx3 hxb HG HBW c0 c1 c2 c3 c4 c5 c6 c7 c8
    cases hco : B.contains r.nd.id with
    | false =>
      rw [hco] at HCO HST
      have HS' : Shut (allG (T.nodes.take (k + 1)) B = allG (T.nodes.take k) B) := ⟨by rw [HST.out]; simp⟩
      clear hco
      go_wp2_with (go_at_call 24; refine HCO.out.mono ?_; rintro e w4 ⟨rfl, hw4⟩; obtain rfl : W3 = w4 := hw4.symm; clear hw4)
      go_roundw
      case rel => exact ⟨k + 1, m, ov, rfl, by go_num, by omega, by omega, ⟨by rw [HS'.out]; exact HG3.out⟩⟩
      case measure => simp [intOf]; omega
    | true =>
      rw [hco] at HCO HST
      obtain ⟨hpl40, hn14⟩ := HP4.out hco
      have hn14' : n ≤ 14 := by have := HLEN.out; omega
      have y7 := (HX3.out.2 7 _ rfl).1
      obtain ⟨pl, hpl⟩ : ∃ pl, pl = r.nd.pieces.length := ⟨_, rfl⟩
      have HPL := Shut.mk hpl
      rw [← hpl] at y7 hpl40
      clear hco hpl
      go_wp2_with (go_at_call 24; refine HCO.out.mono ?_; rintro e w4 ⟨rfl, hw4⟩; obtain rfl : W3 = w4 := hw4.symm; clear hw4)
      go_loopw [6, 29] (fun ov iv wr => ∃ (j m' : Nat) (vv : Value), vv = ov ∧ iv = .int .i64 j ∧ j ≤ pl ∧ m' ≤ 40 * k + j ∧ Shut (IRow w2 wr vv m' (allG (T.nodes.take k) B ++ (r.nd.pieces.take j).map PM.group))) (fun _ iv _ => pl - (intOf iv).toNat)
      case atStart => exact ⟨0, m, ov, rfl, rfl, Nat.zero_le _, by omega, ⟨by rw [List.take_zero, List.map_nil, List.append_nil]; exact HG3.out⟩⟩
      case round =>
        obtain ⟨j, m', ov', rfl, rfl, hj, hm', HG'⟩ := hrel
        obtain ⟨wi, rfl⟩ : ∃ wi, wi = wr := ⟨_, rfl⟩
        by_cases hjl : j < pl
        case pos =>
          have hjp : j < r.nd.pieces.length := by have := HPL.out; omega
          have j0 : (0 : Int) ≤ (j : Int) := by omega
          have j1 : (j : Int) < (pl : Int) := by omega
          have hB5 : Below w.heap.size w wi := HMW.out.trans (HG'.out.2.1.mono HMW.out.size)
          obtain ⟨pb, poff, hloc, lpb, hpc⟩ := pcs_at (HPR.out.below hB5) (by omega)
          obtain ⟨z0, z1⟩ := hpc j hjp
          have hst := pm_take r.nd.pieces j hjp
          obtain ⟨q, hq⟩ : ∃ q, q = r.nd.pieces[j] := ⟨_, rfl⟩
          rw [← hq] at z0 z1 hst
          have HS' : Shut (allG (T.nodes.take k) B ++ (r.nd.pieces.take (j + 1)).map PM.group = (allG (T.nodes.take k) B ++ (r.nd.pieces.take j).map PM.group) ++ [q.group]) := ⟨by rw [hst, List.append_assoc]⟩
          obtain ⟨Z, hZ⟩ : ∃ Z, Z = allG (T.nodes.take k) B ++ (r.nd.pieces.take j).map PM.group := ⟨_, rfl⟩
          rw [← hZ] at HG' HS'
          rw [hloc]
          obtain ⟨⟨qg, ql⟩, rfl⟩ : ∃ q', q' = q := ⟨q, rfl⟩
          dsimp only at z0 z1 HS'
          clear hpc hq hst hB5 hZ hloc
          go_upto_region 10 with fail
          obtain ⟨qb, hqb⟩ : ∃ qb, qb = wi.heap.size := ⟨_, rfl⟩
          refine wp_shade (fun W => Below wi.heap.size wi W ∧ WCells W qb [.int .i64 qg, .int .i64 ql]) ⟨(Below.refl _ _).alloc (Nat.le_refl _) _, by rw [hqb]; exact wcells_new wi #[.int .i64 qg, .int .i64 ql] 59⟩ ?_
          rintro W6 ⟨hb6, hq6⟩
          rw [← hqb]
          have HG6 := Shut.mk (HG'.out.below hb6)
          have u0 := (hq6.2 0 _ rfl).1
          have ho := HG6.out.2.2
          have hsz : w2.heap.size ≤ W6.heap.size := HG6.out.2.1.size
          clear hb6 hq6 hqb HG' z0 z1
          go_wp2_with (at_builtin; refine wpList_append_own _ rfl _ _ 32 rfl w2.heap.size 3 t0 (.int .i64 0) 1 8 Try.underlying32 ht0 hty0 hty1 hty2 rfl (by decide) _ _ _ rfl (ho.alloc _) ⟨W6.heap.size, 0, none⟩ 1 1 [.int .i64 qg] rfl rfl (cell_one_new _ _ _) ?c2 ?c3 ?c4 ?c5 ?_)
          case c2 => first | rfl | (intro u hu; simp at hu; subst hu; rfl)
          case c3 => unfold maxLen; omega
          case c4 => omega
          case c5 => first | omega | (simp; omega)
          intro v' w10 ho10 hgrow _
          have HG2 := Shut.mk (HG6.out.snoc ho10 hgrow)
          rw [← HS'.out] at HG2
          clear ho ho10 hgrow
          go_wp2_with fail
          go_roundw
          case rel => exact ⟨j + 1, m' + 1, v', rfl, by go_num, by omega, by omega, HG2⟩
          case measure => simp [intOf]; omega
        case neg =>
          have j1 : ¬ (j : Int) < (pl : Int) := by omega
          have hall : r.nd.pieces.take j = r.nd.pieces := List.take_of_length_le (by have := HPL.out; omega)
          rw [hall] at HG'
          have HS' : Shut (allG (T.nodes.take (k + 1)) B = allG (T.nodes.take k) B ++ r.nd.pieces.map PM.group) := ⟨by rw [HST.out]; simp⟩
          clear hall
          go_wp2_with fail
          go_roundw
          case rel => exact ⟨k + 1, m', ov', rfl, by go_num, by omega, by omega, ⟨by rw [HS'.out]; exact HG'.out⟩⟩
          case measure => simp [intOf]; omega
end Go.Proofs.Ythfmjjaollekiaa
