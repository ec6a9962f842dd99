/- Texts of ours, laid one behind the other: LkK, LkL, LkM, ApA. -/
import Derived.Test.YthfmjjaollekiaaPu7
import Derived.Test.YthfmjjaollekiaaPu6
import Derived.Test.YthfmjjaollekiaaPuCpB
import Derived.Test.YthfmjjaollekiaaPu4
import Derived.Maps.AppendAt
/- LkK: The program's own BelowOf. -/
namespace Go.Proofs.Ythfmjjaollekiaa
set_option maxRecDepth 100000
open Go.RowKit Go.Maps BigFrame
attribute [local go_sem ↓] Go.wp_at_zero Go.wp_at_succ

/-- Those of a row of nodes that are below an Id, or have it. -/
def blwL (all ns : List NM) (top : Int) : List Int := (ns.filter fun n => decide (top ≠ 0) && belowF all 15 n.id top).map NM.id
theorem blwL_take (all ns : List NM) (top : Int) (k : Nat) (h : k < ns.length) : blwL all (ns.take (k + 1)) top = blwL all (ns.take k) top ++ if (decide (top ≠ 0) && belowF all 15 ns[k].id top) = true then [ns[k].id] else [] := by
  rw [List.take_succ_eq_append_getElem h]
  unfold blwL
  rw [List.filter_append, List.map_append]
  congr 1
  simp only [List.filter_cons, List.filter_nil]
  split <;> simp
theorem blwL_len (all ns : List NM) (top : Int) : (blwL all ns top).length ≤ ns.length := by
  unfold blwL
  rw [List.length_map]
  exact List.length_filter_le _ _
theorem blwL_is {T : TM} (h : treeOk T = true) (id : Int) : blwL T.nodes T.nodes id = belowX T id := by
  have ht := tree_tall h
  unfold belowX blwL
  cases hf : fid T.nodes id with
  | none =>
    rw [if_neg (by rw [at_fid, hf]; simp)]
    rw [List.map_eq_nil_iff, List.filter_eq_nil_iff]
    intro n hn hc
    obtain ⟨i, hi, rfl⟩ := List.mem_iff_getElem.1 hn
    obtain ⟨d, _, hu⟩ := ht.2 i hi
    simp only [Bool.and_eq_true, decide_eq_true_eq] at hc
    have := belowF_no ht.1 hf hc.1 hu 15
    rw [getD_in hi, hc.2] at this
    cases this
  | some i =>
    rw [if_pos ⟨h, by rw [at_fid, hf]; simp⟩]
    obtain ⟨hi, e⟩ := fid_lt hf
    have h0 : id ≠ 0 := by have := ht.1.pos hi; omega
    unfold belowL
    congr 2
    funext n
    simp [h0]
set_option maxRecDepth 100000 in
set_option maxHeartbeats 2000000 in
theorem implBelowOf (w : World) (v : Value) (T : TM) (lo hi : Nat) (id : Int) (h : TSee w v T lo hi) (hf : NFit T) (hI : NInt T.nodes) : Calls Try.prog 23 #[v, .int .i64 id] w fun e w' => IPost (belowX T id) w e w' := by
  have hsee := h
  obtain ⟨a, cap, rs, rfl, hr, hm⟩ := h
  have hlen : rs.length = T.nodes.length := by rw [← hr, nds_len]
  have hl : rs.length ≤ 1048576 := by unfold NFit at hf; omega
  have hget : ∀ j (hj : j < rs.length), ∃ hj' : j < T.nodes.length, T.nodes[j] = rs[j].nd := fun j hj => by
    refine ⟨by rw [← hr, nds_len]; exact hj, ?_⟩
    rw [List.getElem_of_eq hr.symm]
    simp [nds]
  obtain ⟨n, hn⟩ : ∃ n, n = rs.length := ⟨_, rfl⟩
  obtain ⟨nx, hnx⟩ : ∃ nx, nx = T.next := ⟨_, rfl⟩
  rw [← hn, ← hnx] at hsee ⊢
  have hok := fun W (hb : Below w.heap.size w W) => implTreeOk W _ T lo hi (hsee.below hb) hf hI
  have hlk := fun W (hb : Below w.heap.size w W) => linkNodes_any (cap := cap) (hm.below hb) hl (by rw [hr]; exact hI) (fun x hx => by rw [hr] at hx; have := (fit_name hf x hx).1; unfold maxLen; omega)
  rw [← hn] at hlk hl hlen
  obtain ⟨R, hR⟩ : ∃ R, R = belowX T id := ⟨_, rfl⟩
  rw [← hR]
  have HOK := Shut.mk hok
  have HLK := Shut.mk hlk
  have HE := Shut.mk hr
  have HM := Shut.mk hm
  have HN := Shut.mk hn
  have HL := Shut.mk hlen
  have HG := Shut.mk hget
  have HR := Shut.mk hR
  have HI := Shut.mk hI
  clear hok hlk hr hm hsee hn hnx hlen hget hR hI hf
  cases ht : treeOk T with
  | false =>
    rw [ht] at HOK
    have HF : Shut (R = []) := ⟨by rw [HR.out]; unfold belowX; rw [if_neg (by rw [ht]; simp)]⟩
    clear ht
    go_enter Try.func23, Try.ntmps23
    go_wp2_with (go_at_call 42; refine (HOK.out _ ((Below.refl _ _).alloc (Nat.le_refl _) _)).mono ?_; rintro e w1 ⟨rfl, hb1⟩)
    go_ret
    exact ⟨_, rfl, by rw [HF.out]; exact IAns.empty _ _ _ _ _, ((Below.refl _ _).alloc (Nat.le_refl _) _).trans (hb1.mono (by simp))⟩
  | true =>
    rw [ht] at HOK
    have HT := Shut.mk (tree_tall ht)
    have HRR : Shut (R = blwL T.nodes T.nodes id) := ⟨by rw [HR.out, blwL_is ht]⟩
    have h14 : n ≤ 14 := by have := treeOk_14 ht; have := HL.out; omega
    obtain ⟨t0, ht0, hty0, hty1, hty2⟩ := info_parts infoIntG
    clear ht
    go_enter Try.func23, Try.ntmps23
    go_wp2_with (go_at_call 42; refine (HOK.out _ ((Below.refl _ _).alloc (Nat.le_refl _) _)).mono ?_; rintro e w1 ⟨rfl, hb1⟩; have hbx := (BX.new w a n cap nx 26).below hb1; have HBX := Shut.mk hbx; have x0 := (hbx.box.2 0 _ rfl).1; clear hb1 hbx)
    refine (HLK.out _ HBX.out.bel).mono ?_
    rintro e w2 ⟨b1, b2, G, C, rfl, hL, hb2⟩
    have HB2 := Shut.mk (HBX.out.below hb2)
    have HL2 := Shut.mk (hL.base HBX.out.bel.size)
    clear hL hb2 x0 HBX
    have x0 := (HB2.out.box.2 0 _ rfl).1
    have lx := HB2.out.box.1
    go_upto_region 5 with fail
    refine wp_shade (fun W => BL w W a n cap nx w2.heap.size b1 b2 rs G C) ?_ ?_
    · have hb : Below w2.heap.size w2 (w2.alloc (.cells #[.map (some b1), .map (some b2)] 75)) := (Below.refl _ _).alloc (Nat.le_refl _) _
      exact ⟨HB2.out.below hb, wcells_new w2 #[.map (some b1), .map (some b2)] 75, HL2.out.below hb⟩
    intro V hV
    have HV := Shut.mk hV
    clear hV x0
    have x0 := (HV.out.bx.box.2 0 _ rfl).1
    obtain ⟨L, hL⟩ : ∃ L, L = w2.heap.size := ⟨_, rfl⟩
    rw [← hL] at HV ⊢
    clear HB2 HL2 hL lx HLK HOK
    go_wp2_with fail
    go_loopw [6, 18] (fun ov iv wr => ∃ (k l : Nat) (vv : Value), vv = ov ∧ iv = .int .i64 k ∧ k ≤ n ∧ l ≤ k ∧ Shut (l = (blwL T.nodes (T.nodes.take k) id).length) ∧ Shut (Below V.heap.size V wr ∧ wr.ownsRow V.heap.size 3 1 vv l (ics (blwL T.nodes (T.nodes.take k) id)))) (fun _ iv _ => n - (intOf iv).toNat)
    case atStart => exact ⟨0, 0, _, rfl, rfl, Nat.zero_le _, Nat.le_refl _, ⟨by simp [blwL]⟩, ⟨Below.refl _ _, by simpa [blwL, ics] using World.ownsRow_nil V V.heap.size 3 1⟩⟩
    case round =>
      clear x0
      obtain ⟨k, l, ov, rfl, rfl, hk, hlk, HK, HW⟩ := hrel
      have hW := HV.out.below HW.out.1
      have v0 := (hW.vr.2 0 _ rfl).1
      by_cases hlt : k < n
      · have hkr : k < rs.length := by rw [← HN.out]; exact hlt
        obtain ⟨b, off, rfl, lb, hc⟩ := TR.nat HM.out (by omega)
        have hnk := (hc k hkr).below hW.bx.bel lb
        obtain ⟨hkT, hge⟩ := HG.out k hkr
        have hst := blwL_take T.nodes T.nodes id k hkT
        obtain ⟨D1, o1, t1⟩ := hW.lk.m1
        have hfi := HT.out.1.fid hkT
        have hmem : T.nodes[k] ∈ T.nodes := List.getElem_mem hkT
        have f1 := (HI.out _ hmem).1
        have htk := t1 T.nodes[k].id
        rw [HE.out, hfi] at htk
        have hnd := hW.lk.nd
        rw [HE.out] at hnd
        have hbe : blw T.nodes k id = (decide (id ≠ 0) && belowF T.nodes 15 rs[k].nd.id id) := by unfold blw; rw [getD_in hkT, hge]
        have hib := fun W' (hb : Below wr.heap.size wr W') => isBelow_any (hnd.below hb) HT.out hkT id
        rw [hge] at hst f1 htk
        rw [hbe] at hib
        obtain ⟨r, hr⟩ : ∃ r, r = rs[k] := ⟨_, rfl⟩
        rw [← hr] at hnk hst f1 htk hib
        have k1 := look_ptr keyI Try.underlying72 zeroLp (o1.alloc (.cells #[.int .i64 r.nd.id, .int .i64 r.nd.parent, .string r.nd.name, .bool r.nd.dir, .int .i64 r.nd.schema, .int .i64 r.nd.quota, .int .i64 r.nd.len, .slice r.loc r.nd.pieces.length r.cap, .int .i64 r.nd.writer] 30)) (key_int f1) htk 0
        rw [World.drewN_zero] at k1
        simp only [Option.map_some, ptr_some] at k1
        have hba : Below wr.heap.size wr (wr.alloc (.cells #[.int .i64 r.nd.id, .int .i64 r.nd.parent, .string r.nd.name, .bool r.nd.dir, .int .i64 r.nd.schema, .int .i64 r.nd.quota, .int .i64 r.nd.len, .slice r.loc r.nd.pieces.length r.cap, .int .i64 r.nd.writer] 30)) := (Below.refl _ _).alloc (Nat.le_refl _) _
        have HIB := Shut.mk (hib _ hba)
        have HBA := Shut.mk hba
        have HST := Shut.mk hst
        have lv := hW.vr.1
        have lb' : b < wr.heap.size := Nat.lt_of_lt_of_le lb hW.bx.bel.size
        have k0 : (0 : Int) ≤ (k : Int) := by omega
        have k2 : (k : Int) < (n : Int) := by omega
        have hsv : V.heap.size ≤ wr.heap.size := HW.out.1.size
        have HOW := Shut.mk (HW.out.2.alloc (.cells #[.int .i64 r.nd.id, .int .i64 r.nd.parent, .string r.nd.name, .bool r.nd.dir, .int .i64 r.nd.schema, .int .i64 r.nd.quota, .int .i64 r.nd.len, .slice r.loc r.nd.pieces.length r.cap, .int .i64 r.nd.writer] 30))
        obtain ⟨c0, c1, c2, c3, c4, c5, c6, c7, c8⟩ := hnk
        obtain ⟨bb, hbb⟩ : ∃ bb, bb = (decide (id ≠ 0) && belowF T.nodes 15 r.nd.id id) := ⟨_, rfl⟩
        rw [← hbb] at HIB HST
        clear hc hr hst hfi hmem f1 htk hnd hbe hib hba o1 t1 hW hge hbb
        cases bb with
        | false =>
          have HS' : Shut (blwL T.nodes (T.nodes.take (k + 1)) id = blwL T.nodes (T.nodes.take k) id) := ⟨by rw [HST.out]; simp⟩
          go_wp2_with (go_at_call 44; refine HIB.out.mono ?_; rintro e w9 ⟨rfl, rfl⟩)
          go_roundw
          case rel => exact ⟨k + 1, l, ov, rfl, by go_num, by omega, by omega, ⟨by rw [HS'.out]; exact HK.out⟩, ⟨HW.out.1.trans (HBA.out.mono hsv), by rw [HS'.out]; exact HOW.out⟩⟩
          case measure => simp [intOf]; omega
        | true =>
          have HS' : Shut (blwL T.nodes (T.nodes.take (k + 1)) id = blwL T.nodes (T.nodes.take k) id ++ [r.nd.id]) := ⟨by rw [HST.out]; simp⟩
          go_upto_region 9 with (go_at_call 44; refine HIB.out.mono ?_; rintro e w9 ⟨rfl, rfl⟩)
          refine wp_shade (fun W => Below wr.heap.size wr W ∧ W.cell? ⟨wr.heap.size, 0, none⟩ = some (.int .i64 r.nd.id)) ⟨HBA.out, by simp⟩ ?_
          intro W9 hW9
          obtain ⟨hb9, d0⟩ := hW9
          have ho9 := HW.out.2.kept (row := none) ⟨hb9.os, hb9.tape, hb9.output, hb9.size, fun k hk _ => hb9.block k hk⟩ (Classical.em _)
          have hs9 : V.heap.size ≤ W9.heap.size := Nat.le_trans hsv hb9.size
          have HB9 := Shut.mk hb9
          clear hb9 HBA HOW c0 c1 c2 c3 c4 c5 c6 c7 c8 k1 v0
          go_wp2_with (at_builtin; refine wpList_append_own _ rfl _ _ 32 rfl V.heap.size 3 t0 (.int .i64 0) 1 8 Try.underlying32 ht0 hty0 hty1 hty2 rfl (by decide) _ _ _ rfl (ho9.alloc _) ⟨W9.heap.size, 0, none⟩ 1 1 [.int .i64 r.nd.id] rfl rfl (cell_one_new _ _ _) ?c2 ?c3 ?c4 ?c5 ?_)
          case c2 => first | rfl | (intro u hu; simp at hu; subst hu; rfl)
          case c3 => unfold maxLen; omega
          case c4 => omega
          case c5 => first | omega | (simp; omega)
          intro v' w10 ho10 hgrow _
          rw [ics_snoc9, ← HS'.out] at ho10
          have HGZ : Shut (Below V.heap.size V w10 ∧ w10.ownsRow V.heap.size 3 1 v' (l + 1) (ics (blwL T.nodes (T.nodes.take (k + 1)) id))) := ⟨((HW.out.1.trans (HB9.out.mono hsv)).alloc hs9 _).grown hgrow (by simp; omega) (fun j hj => (ho9.lt j hj).1), ho10⟩
          clear hgrow ho10 ho9
          go_wp2_with fail
          go_roundw
          case rel => exact ⟨k + 1, l + 1, v', rfl, by go_num, by omega, by omega, ⟨by rw [HS'.out, List.length_append, List.length_singleton, ← HK.out]⟩, HGZ⟩
          case measure => simp [intOf]; omega
      · have k1 : ¬ (k : Int) < (n : Int) := by omega
        have hall : T.nodes.take k = T.nodes := List.take_of_length_le (by have := HL.out; omega)
        have ho := HW.out.2
        have hlen := HK.out
        rw [hall, ← HRR.out] at ho hlen
        have HO := Shut.mk ho
        have HBV : Shut (Below w.heap.size w wr) := ⟨hW.bx.bel⟩
        have hsz : w.heap.size ≤ V.heap.size := HV.out.bx.bel.size
        clear ho hall hW
        go_wp2_with fail
        go_ret
        exact ⟨_, rfl, own_ians hlen.symm (own_wider9 HO.out hsz), HBV.out⟩
end Go.Proofs.Ythfmjjaollekiaa
/- LkL: The program's own UsedBelow. -/
namespace Go.Proofs.Ythfmjjaollekiaa
open Go.RowKit Go.Maps BigFrame
attribute [local go_sem ↓] Go.wp_at_zero Go.wp_at_succ

/-- How much nodes have whose Ids are told. -/
def usedP : List NM → List Int → Int
  | [], _ => 0
  | n :: r, L => (if L.contains n.id then n.len else 0) + usedP r L
theorem usedP_append (a b : List NM) (L : List Int) : usedP (a ++ b) L = usedP a L + usedP b L := by
  induction a with
  | nil => simp [usedP]
  | cons n a ih => simp only [List.cons_append, usedP, ih]; omega
theorem usedP_take (ns : List NM) (L : List Int) (k : Nat) (h : k < ns.length) : usedP (ns.take (k + 1)) L = usedP (ns.take k) L + if L.contains ns[k].id then ns[k].len else 0 := by
  rw [List.take_succ_eq_append_getElem h, usedP_append]
  simp [usedP]
theorem usedP_nil (ns : List NM) : usedP ns [] = 0 := by
  induction ns with
  | nil => rfl
  | cons n r ih => simp [usedP, ih]
theorem Asc.mem_at {ns : List NM} (h : Asc ns) {n : NM} (hn : n ∈ ns) : ns.getD (atI ns n.id).toNat default = n := by
  obtain ⟨i, hi, rfl⟩ := List.mem_iff_getElem.1 hn
  rw [at_fid, h.fid hi]
  simp [hi]
theorem Asc.mem_eq {ns : List NM} (h : Asc ns) {m n : NM} (hm : m ∈ ns) (hn : n ∈ ns) (e : m.id = n.id) : m = n := by
  rw [← h.mem_at hm, ← h.mem_at hn, e]
theorem usedP_is (T : TM) (id : Int) : usedP T.nodes (belowX T id) = usedX T id := by
  unfold usedX
  cases ht : treeOk T with
  | false =>
    have : belowX T id = [] := by unfold belowX; rw [if_neg (by rw [ht]; simp)]
    rw [this, usedP_nil]
    rfl
  | true =>
    have ha := (tree_tall ht).1
    rw [← blwL_is ht]
    unfold blwL
    generalize hq : (fun n : NM => decide (id ≠ 0) && belowF T.nodes 15 n.id id) = q
    have hc : ∀ n ∈ T.nodes, ((T.nodes.filter q).map NM.id).contains n.id = q n := fun n hn => by
      rw [Bool.eq_iff_iff]
      simp only [List.contains_iff_mem, List.mem_map, List.mem_filter]
      constructor
      · rintro ⟨m, ⟨hm, hqm⟩, e⟩
        rw [← ha.mem_eq hm hn e]
        exact hqm
      · exact fun hqn => ⟨n, ⟨hn, hqn⟩, rfl⟩
    have key : ∀ M : List NM, (∀ n ∈ M, n ∈ T.nodes) → usedP M ((T.nodes.filter q).map NM.id) = usedL T.nodes ((M.filter q).map NM.id) := by
      intro M
      induction M with
      | nil => intro _; rfl
      | cons n r ih =>
        intro hM
        have hn := hM n (by simp)
        have ih' := ih fun m hm => hM m (by simp [hm])
        unfold usedP
        rw [hc n hn, ih']
        cases hqn : q n with
        | true =>
          rw [List.filter_cons_of_pos hqn, List.map_cons]
          conv => rhs; unfold usedL
          rw [ha.mem_at hn]
          simp
        | false =>
          rw [List.filter_cons_of_neg (by simp [hqn])]
          simp
    exact key T.nodes fun n hn => hn
theorem usedP_le (T : TM) (id : Int) (k : Nat) : 0 ≤ usedP (T.nodes.take k) (belowX T id) ∧ usedP (T.nodes.take k) (belowX T id) ≤ 14000 := by
  cases ht : treeOk T with
  | false =>
    have : belowX T id = [] := by unfold belowX; rw [if_neg (by rw [ht]; simp)]
    rw [this, usedP_nil]
    omega
  | true =>
    have hall : ∀ M : List NM, (∀ n ∈ M, 0 ≤ n.len ∧ n.len ≤ 1000) → 0 ≤ usedP M (belowX T id) ∧ usedP M (belowX T id) ≤ 1000 * M.length := by
      intro M
      induction M with
      | nil => intro _; simp [usedP]
      | cons n r ih =>
        intro hM
        have h1 := hM n (by simp)
        have h2 := ih fun m hm => hM m (by simp [hm])
        simp only [usedP, List.length_cons]
        push_cast
        split <;> omega
    have h3 := hall (T.nodes.take k) fun n hn => by
      obtain ⟨i, hi, rfl⟩ := List.mem_iff_getElem.1 (List.mem_of_mem_take hn)
      have := nodeOk_len (treeOk_node ht hi)
      rw [getD_in hi] at this
      exact this
    have h4 := treeOk_14 ht
    have h5 : (T.nodes.take k).length ≤ 14 := by simp; omega
    omega
set_option maxRecDepth 100000 in
set_option maxHeartbeats 1000000 in
theorem implIndex {w : World} {a : Option Addr} {xs : List Int} (cap : Nat) (x : Int) (hr : CRow w a (ics xs)) (hl : xs.length ≤ 1048576) : Calls Try.prog 45 #[.slice a xs.length cap, .int .i64 x] w fun e w' => (∃ i : Int, e = .returned (.int .i64 i) ∧ Shut (decide (0 ≤ i) = xs.contains x)) ∧ w' = w := by
  obtain ⟨n, hn⟩ : ∃ n, n = xs.length := ⟨_, rfl⟩
  rw [← hn] at hl ⊢
  have HN := Shut.mk hn
  have HR := Shut.mk hr
  clear hn hr
  go_enter Try.func45, Try.ntmps45
  go_wp2_with fail
  go_loopw [8] (fun i wr => ∃ k : Nat, i = .int .i64 k ∧ k ≤ n ∧ Shut (∀ j (hj : j < xs.length), j < k → xs[j] ≠ x) ∧ wr = w) (fun i _ => n - (intOf i).toNat)
  case atStart => exact ⟨0, rfl, Nat.zero_le _, ⟨fun _ _ h => absurd h (Nat.not_lt_zero _)⟩, rfl⟩
  case round =>
    obtain ⟨k, rfl, hk, hno, rfl⟩ := hrel
    by_cases hlt : k < n
    · have hkx : k < xs.length := by rw [← HN.out]; exact hlt
      obtain ⟨b, off, rfl, lb, hc⟩ := HR.out (by simp [ics]; omega)
      have e0 := hc k (.int .i64 xs[k]) (by simp [ics, hkx])
      have k0 : (0 : Int) ≤ (k : Int) := by omega
      have k1 : (k : Int) < (n : Int) := by omega
      obtain ⟨y, hy⟩ : ∃ y, y = xs[k] := ⟨_, rfl⟩
      rw [← hy] at e0
      have HY := Shut.mk hy
      clear hc hy
      by_cases hxy : x = y
      · have hxy' : (x == y) = true := by simp [hxy]
        have HC : Shut (xs.contains x = true) := ⟨by rw [hxy, HY.out]; simp⟩
        clear hxy
        go_wp2_with fail
        go_ret
        exact ⟨⟨k, rfl, ⟨by rw [HC.out]; simp⟩⟩, rfl⟩
      · go_wp2_with fail
        go_roundw
        case rel =>
          refine ⟨k + 1, by go_num, by omega, ⟨fun j hj hjk => ?_⟩, trivial⟩
          rcases Nat.lt_succ_iff_lt_or_eq.1 hjk with h | h
          · exact hno.out j hj h
          · subst h
            rw [← HY.out]
            exact fun e => hxy e.symm
        case measure => simp [intOf]; omega
    · have hlt' : ¬ (k : Int) < (n : Int) := by omega
      have HC : Shut (xs.contains x = false) := ⟨by
        refine Bool.eq_false_iff.2 fun hc => ?_
        simp only [List.contains_iff_mem] at hc
        obtain ⟨j, hj, e⟩ := List.mem_iff_getElem.1 hc
        exact hno.out j hj (by have := HN.out; omega) e⟩
      go_wp2_with fail
      go_ret
      exact ⟨⟨-1, rfl, ⟨by have := HC.out; simp at this; simp [this]⟩⟩, rfl⟩
set_option maxRecDepth 100000 in
theorem implContains {w : World} {a : Option Addr} {xs : List Int} (cap : Nat) (x : Int) (hr : CRow w a (ics xs)) (hl : xs.length ≤ 1048576) : Calls Try.prog 24 #[.slice a xs.length cap, .int .i64 x] w fun e w' => e = .returned (.bool (xs.contains x)) ∧ w' = w := by
  have HC := Shut.mk (implIndex cap x hr hl)
  generalize xs.contains x = c at *
  generalize xs.length = n at *
  clear hr
  go_enter Try.func24, Try.ntmps24
  go_wp2_with fail
  refine HC.out.mono ?_
  rintro e w1 ⟨⟨i, rfl, HI⟩, rfl⟩
  go_wp2_with fail
  go_ret
  exact ⟨by rw [← HI.out]; rfl, rfl⟩
set_option maxRecDepth 100000 in
set_option maxHeartbeats 1000000 in
theorem implUsedBelow (w : World) (v : Value) (T : TM) (lo hi : Nat) (id : Int) (h : TSee w v T lo hi) (hf : NFit T) (hI : NInt T.nodes) : Calls Try.prog 7 #[v, .int .i64 id] w fun e w' => e = .returned (.int .i64 (usedX T id)) ∧ Below w.heap.size w w' := by
  have hsee := h
  obtain ⟨a, cap, rs, rfl, hr, hm⟩ := h
  have hlen : rs.length = T.nodes.length := by rw [← hr, nds_len]
  have hl : rs.length ≤ 1048576 := by unfold NFit at hf; omega
  have hget : ∀ j (hj : j < rs.length), ∃ hj' : j < T.nodes.length, T.nodes[j] = rs[j].nd := fun j hj => by
    refine ⟨by rw [← hr, nds_len]; exact hj, ?_⟩
    rw [List.getElem_of_eq hr.symm]
    simp [nds]
  obtain ⟨n, hn⟩ : ∃ n, n = rs.length := ⟨_, rfl⟩
  obtain ⟨nx, hnx⟩ : ∃ nx, nx = T.next := ⟨_, rfl⟩
  rw [← hn, ← hnx] at hsee ⊢
  have hbo := fun W (hb : Below w.heap.size w W) => implBelowOf W _ T lo hi id (hsee.below hb) hf hI
  rw [← hn] at hl hlen
  rw [← usedP_is]
  have hle := usedP_le T id
  have hbl : (belowX T id).length ≤ 1048576 := by have := belowX_len T id; omega
  generalize belowX T id = X at *
  obtain ⟨R, hR⟩ : ∃ R, R = usedP T.nodes X := ⟨_, rfl⟩
  rw [← hR]
  unfold IPost at hbo
  have HBO := Shut.mk hbo
  have HM := Shut.mk hm
  have HN := Shut.mk hn
  have HL := Shut.mk hlen
  have HG := Shut.mk hget
  have HR := Shut.mk hR
  have HLE := Shut.mk hle
  clear hbo hr hm hsee hn hnx hlen hget hR hI hf hle
  go_enter Try.func7, Try.ntmps7
  go_wp2_with fail
  refine (HBO.out _ ((Below.refl _ _).alloc (Nat.le_refl _) _)).mono ?_
  rintro e w1 ⟨u, rfl, hA, hb1⟩
  obtain ⟨ua, ucap, rfl, hcr⟩ := hA.crow
  have hbx := (BX.new w a n cap nx 26).below hb1
  have HBX := Shut.mk hbx
  have x0 := (hbx.box.2 0 _ rfl).1
  have hco := fun W (hb : Below w1.heap.size w1 W) (x : Int) => implContains ucap x (CRow.stays hcr hb) hbl
  obtain ⟨xn, hxn⟩ : ∃ xn, xn = X.length := ⟨_, rfl⟩
  rw [← hxn] at hco ⊢
  have HCO := Shut.mk hco
  clear hA hb1 hcr hbx HBO hco hxn
  go_wp2_with fail
  go_loopw [6, 15] (fun sv iv wr => ∃ k : Nat, sv = .int .i64 (usedP (T.nodes.take k) X) ∧ iv = .int .i64 k ∧ k ≤ n ∧ Shut (Below w1.heap.size w1 wr)) (fun _ iv _ => n - (intOf iv).toNat)
  case atStart => exact ⟨0, by simp [usedP], rfl, Nat.zero_le _, ⟨Below.refl _ _⟩⟩
  case round =>
    clear x0
    obtain ⟨k, rfl, rfl, hk, HW⟩ := hrel
    have hlek := HLE.out k
    by_cases hlt : k < n
    · have hkr : k < rs.length := by rw [← HN.out]; exact hlt
      have hW := HBX.out.below HW.out
      obtain ⟨b, off, rfl, lb, hc⟩ := TR.nat HM.out (by omega)
      have hnk := (hc k hkr).below hW.bel lb
      obtain ⟨hkT, hge⟩ := HG.out k hkr
      have hst := usedP_take T.nodes X k hkT
      have hle1 := HLE.out (k + 1)
      rw [hst] at hle1
      rw [hge] at hst hle1
      obtain ⟨r, hr⟩ : ∃ r, r = rs[k] := ⟨_, rfl⟩
      rw [← hr] at hnk hst hle1
      obtain ⟨sm, hsm⟩ : ∃ sm, sm = usedP (T.nodes.take k) X := ⟨_, rfl⟩
      rw [← hsm] at hlek hst hle1 ⊢
      have HST := Shut.mk hst
      have lb' : b < wr.heap.size := Nat.lt_of_lt_of_le lb hW.bel.size
      have k0 : (0 : Int) ≤ (k : Int) := by omega
      have k1 : (k : Int) < (n : Int) := by omega
      have hba : Below w1.heap.size w1 (wr.alloc (.cells #[.int .i64 r.nd.id, .int .i64 r.nd.parent, .string r.nd.name, .bool r.nd.dir, .int .i64 r.nd.schema, .int .i64 r.nd.quota, .int .i64 r.nd.len, .slice r.loc r.nd.pieces.length r.cap, .int .i64 r.nd.writer] 30)) := HW.out.alloc HW.out.size _
      have hcc := HCO.out _ hba r.nd.id
      have HBA := Shut.mk hba
      obtain ⟨c0, c1, c2, c3, c4, c5, c6, c7, c8⟩ := hnk
      clear hc hr hst hW hba hsm hge
      cases hct : X.contains r.nd.id with
      | true =>
        rw [hct] at hcc HST hle1
        have HCC := Shut.mk hcc
        have HS' : Shut (usedP (T.nodes.take (k + 1)) X = sm + r.nd.len) := ⟨by rw [HST.out]; simp⟩
        have hle2 : 0 ≤ sm + r.nd.len ∧ sm + r.nd.len ≤ 14000 := by simpa using hle1
        clear hct hcc hle1
        go_wp2_with (go_at_call 24; refine HCC.out.mono ?_; rintro e w9 ⟨rfl, rfl⟩)
        go_roundw
        case rel => exact ⟨k + 1, by rw [HS'.out], by go_num, by omega, HBA⟩
        case measure => simp [intOf]; omega
      | false =>
        rw [hct] at hcc HST
        have HCC := Shut.mk hcc
        have HS' : Shut (usedP (T.nodes.take (k + 1)) X = sm) := ⟨by rw [HST.out]; simp⟩
        clear hct hcc hle1
        go_wp2_with (go_at_call 24; refine HCC.out.mono ?_; rintro e w9 ⟨rfl, rfl⟩)
        go_roundw
        case rel => exact ⟨k + 1, by rw [HS'.out], by go_num, by omega, HBA⟩
        case measure => simp [intOf]; omega
    · have k1 : ¬ (k : Int) < (n : Int) := by omega
      have hall : T.nodes.take k = T.nodes := List.take_of_length_le (by have := HL.out; omega)
      have HE : Shut (usedP (T.nodes.take k) X = R) := ⟨by rw [hall, HR.out]⟩
      have HB : Shut (Below w.heap.size w wr) := ⟨(HBX.out.below HW.out).bel⟩
      clear hall
      go_wp2_with fail
      go_ret
      exact ⟨by rw [← HE.out]; rfl, HB.out⟩
end Go.Proofs.Ythfmjjaollekiaa
/- LkM: The program's own RoomFor. -/
namespace Go.Proofs.Ythfmjjaollekiaa
open Go.RowKit Go.Maps BigFrame
attribute [local go_sem ↓] Go.wp_at_zero Go.wp_at_succ

/-- Quotas of a right tree: of a file there is none. -/
theorem tree_quota {T : TM} (h : treeOk T = true) {i : Nat} (hi : i < T.nodes.length) : 0 ≤ T.nodes[i].quota ∧ T.nodes[i].quota ≤ 1000 ∧ (T.nodes[i].dir = false → T.nodes[i].quota = 0) := by
  have hn := treeOk_node h hi
  cases hd : T.nodes[i].dir with
  | true =>
    have := nodeOk_quota hn (by rw [getD_in hi]; exact hd)
    rw [getD_in hi] at this
    exact ⟨this.1, this.2, fun h => by cases h⟩
  | false =>
    unfold nodeOk at hn
    simp only [Bool.and_eq_true] at hn
    have h3 := hn.1.2
    rw [getD_in hi, if_neg (by rw [hd]; simp)] at h3
    unfold fileOk at h3
    simp only [Bool.and_eq_true, beq_iff_eq] at h3
    have : T.nodes[i].quota = 0 := h3.1.1.1.1.1.2
    exact ⟨by omega, by omega, fun _ => this⟩
set_option maxRecDepth 100000 in
set_option maxHeartbeats 2000000 in
theorem implRoomFor (w : World) (v : Value) (T : TM) (lo hi : Nat) (id m : Int) (h : TSee w v T lo hi) (hf : NFit T) (hI : NInt T.nodes) (hid : (Lit.int .i64 id).wf = true) : Calls Try.prog 10 #[v, .int .i64 id, .int .i64 m] w fun e w' => e = .returned (.bool (roomX T id m)) ∧ Below w.heap.size w w' := by
  have hsee := h
  obtain ⟨a, cap, rs, rfl, hr, hm⟩ := h
  obtain ⟨n, hn⟩ : ∃ n, n = rs.length := ⟨_, rfl⟩
  obtain ⟨nx, hnx⟩ : ∃ nx, nx = T.next := ⟨_, rfl⟩
  rw [← hn, ← hnx] at hsee ⊢
  have hat := fun W (hb : Below w.heap.size w W) => nodeAt_any W _ T lo hi id (hsee.below hb) hf hI hid
  have hub := fun (c : Int) W (hb : Below w.heap.size w W) => implUsedBelow W _ T lo hi c (hsee.below hb) hf hI
  have HAT := Shut.mk hat
  have HUB := Shut.mk hub
  obtain ⟨R, hR⟩ : ∃ R, R = roomX T id m := ⟨_, rfl⟩
  rw [← hR]
  have HR := Shut.mk hR
  clear hat hub hr hm hsee hn hnx hR hf hI hid
  go_enter Try.func10, Try.ntmps10
  go_wp2_with fail
  refine (HAT.out _ ((Below.refl _ _).alloc (Nat.le_refl _) _)).mono ?_
  rintro e w1 ⟨o, rfl, hb1, hcase⟩
  have HB := Shut.mk ((BX.new w a n cap nx 26).below hb1)
  clear hb1 HAT
  rcases hcase with ⟨ht, rfl⟩ | ⟨ht, G, rfl, hnd⟩
  · have HE : Shut (R = false) := ⟨by rw [HR.out]; unfold roomX; rw [if_neg (by rw [ht]; decide)]⟩
    rw [ptr_none]
    clear ht
    go_wp2_with fail
    go_ret
    exact ⟨by rw [HE.out]; rfl, HB.out.bel⟩
  · have HT := Shut.mk (tree_tall ht)
    have HQ := Shut.mk (fun i hi => tree_quota ht (i := i) hi)
    have HU := Shut.mk (fun c => usedX_le T c)
    have HND := Shut.mk hnd
    have HE : Shut (R = roomF T m 15 0 id) := ⟨by rw [HR.out]; unfold roomX; rw [if_pos ht]⟩
    clear hnd ht HR
    cases hf : fid T.nodes id with
    | none =>
      have HF : Shut (R = false) := ⟨by rw [HE.out]; exact roomF_none hf⟩
      rw [Option.map_none, ptr_none]
      clear hf
      go_wp2_with fail
      go_ret
      exact ⟨by rw [HF.out]; rfl, HB.out.bel⟩
    | some i0 =>
      obtain ⟨hi0, ei0⟩ := fid_lt hf
      obtain ⟨d0, hd0, hu0⟩ := HT.out.2 i0 hi0
      have HU0 := Shut.mk hu0
      rw [Option.map_some, ptr_some]
      have HI0 : Shut (roomF T m (d0 + 2 + (13 - d0)) 0 (T.nodes.getD i0 default).id = R) := ⟨by rw [HE.out, getD_in hi0, ei0, show d0 + 2 + (13 - d0) = 15 by omega]⟩
      clear hf ei0 hu0 HE
      go_wp2_with fail
      go_loopg [7] (d0 + 1) (fun q p wr => Shut (BX w wr a n cap nx ∧ Below w1.heap.size w1 wr) ∧ (Shut (p = .pointer none ∧ R = true) ∨ Shut (∃ (j d r st : Nat), p = .pointer (some ⟨G j, 0, none⟩) ∧ d + 1 ≤ q ∧ j < T.nodes.length ∧ Ups T.nodes j d ∧ roomF T m (d + 2 + r) st (T.nodes.getD j default).id = R)))
      case atStart => exact ⟨⟨HB.out, Below.refl _ _⟩, .inr ⟨i0, d0, 13 - d0, 0, rfl, Nat.le_refl _, hi0, HU0.out, HI0.out⟩⟩
      case round =>
        clear HI0 HB
        obtain ⟨HB, hrel⟩ := hrel
        rcases hrel with ⟨rfl, hR0⟩ | ⟨j, d, r, st, rfl, hdm, hj, hu, h1⟩
        · have HE0 := Shut.mk hR0
          clear hR0
          go_wp2_with fail
          go_ret
          exact ⟨by rw [HE0.out]; rfl, HB.out.1.bel⟩
        · have hnw := HND.out.below HB.out.2
          have c0 := (hnw.cells j hj).1
          have c5 := (hnw.cells j hj).2.2.2.2.2.1
          have lj := (hnw.cells j hj).2.2.2.2.2.2
          have hf := HT.out.1.fid hj
          have c9 := hnw.above j hj hf
          have hge := getD_in hj
          have hq := HQ.out j hj
          obtain ⟨x, hx⟩ : ∃ x, x = T.nodes[j] := ⟨_, rfl⟩
          rw [← hx] at c0 c5 c9 hge hf hq
          rw [hge, show d + 2 + r = (d + 1 + r) + 1 by omega, roomF_some (i := j) hf, hge] at h1
          have hus := HU.out x.id
          have x0 := (HB.out.1.box.2 0 _ rfl).1
          have x1 := (HB.out.1.box.2 1 _ rfl).1
          have lx := HB.out.1.box.1
          have hcu := fun X => calls_grow (w := wr) (fun W' (hb : Below wr.heap.size wr W') => HUB.out x.id W' (HB.out.1.bel.trans (hb.mono HB.out.1.bel.size))) X
          have HCU := Shut.mk hcu
          have HH := Shut.mk (And.intro h1 (And.intro hu (And.intro hge hq)))
          obtain ⟨o, ho⟩ : ∃ o, o = fid T.nodes x.parent := ⟨_, rfl⟩
          rw [← ho] at c9
          have HO := Shut.mk ho
          obtain ⟨us, hus'⟩ : ∃ us, us = usedX T x.id := ⟨_, rfl⟩
          rw [← hus'] at hus HCU HH
          clear ho h1 hu hge hf hx hcu hnw hus'
          have g0 : ∀ X : Grow wr, X.val.cell? ⟨w.heap.size, 0, none⟩ = some (.slice a n cap) := fun X => X.cell x0 lx
          have g1 : ∀ X : Grow wr, X.val.cell? ⟨w.heap.size, 1, none⟩ = some (.int .i64 nx) := fun X => X.cell x1 lx
          have g2 : ∀ X : Grow wr, X.val.cell? ⟨G j, 0, none⟩ = some (.int .i64 x.id) := fun X => X.cell c0 lj
          by_cases hq0 : x.quota = 0
          · have HNX : Shut (roomF T m (d + 1 + r) (st + 1) x.parent = R) := ⟨by have := HH.out.1; rw [if_neg (fun hc => by omega)] at this; exact this⟩
            have hqb : (x.quota != 0) = false := by simp [hq0]
            clear hq hq0
            go_upto_region 7 with fail
            refine wp_region_grow (by kernel_rfl) (by kernel_rfl) ?_
            repeat (go_big_quiet_step (first | (go_at_call 7; exact HCU.out _)))
            refine wpQuiet_nil ?_
            rintro _ ⟨X, rfl⟩
            have u9 := X.cell c9 lj
            clear g0 g1 g2
            cases o with
            | none =>
              simp only [Option.map_none, ptr_none] at u9
              go_wp2_with fail
              go_roundg (gk - 1)
              case measure => omega
              case rel =>
                refine ⟨⟨HB.out.1.below X.bel, HB.out.2.trans (X.bel.mono HB.out.2.size)⟩, .inl ⟨⟨rfl, ?_⟩⟩⟩
                rw [← HNX.out, show d + 1 + r = (d + r) + 1 by omega, roomF_none HO.out.symm]
                simp
            | some k =>
              simp only [Option.map_some, ptr_some] at u9
              go_wp2_with fail
              go_roundg (gk - 1)
              case measure => omega
              case rel =>
                refine ⟨⟨HB.out.1.below X.bel, HB.out.2.trans (X.bel.mono HB.out.2.size)⟩, .inr ⟨?_⟩⟩
                obtain ⟨h1, hu, hge, hq⟩ := HH.out
                cases hu with
                | root =>
                  have e0 := HT.out.1.2.2.2
                  have h4 := HO.out
                  rw [hge] at e0
                  rw [e0, HT.out.1.zero] at h4
                  cases h4
                | @step _ k' d' _ _ hk hu' =>
                  rw [hge, ← HO.out] at hk
                  cases hk
                  obtain ⟨hkl, ek⟩ := fid_lt HO.out.symm
                  refine ⟨k, d', r, st + 1, rfl, by omega, hkl, hu', ?_⟩
                  rw [getD_in hkl, ek, ← HNX.out, show d' + 2 + r = d' + 1 + 1 + r by omega]
          · have hqb : (x.quota != 0) = true := by simp [hq0]
            have q1 : 0 ≤ x.quota := hq.1
            have q2 : x.quota ≤ 1000 := hq.2.1
            have hdir : x.dir = true := by
              cases hd : x.dir with
              | true => rfl
              | false => exact absurd (hq.2.2 hd) hq0
            obtain ⟨u1, u2⟩ := hus
            by_cases hlt : x.quota - us < m
            · have HF : Shut (R = false) := ⟨by have := HH.out.1; rw [if_pos ⟨hdir, by omega, hlt⟩] at this; exact this.symm⟩
              clear hdir hq hq0
              go_upto_region 7 with fail
              refine wp_region_grow (by kernel_rfl) (by kernel_rfl) ?_
              repeat (go_big_quiet_step (first | (go_at_call 7; exact HCU.out _)))
              refine wpQuiet_nil ?_
              rintro _ ⟨X, rfl⟩
              go_wp2_with fail
              go_ret
              exact ⟨by rw [HF.out]; rfl, (HB.out.1.below X.bel).bel⟩
            · have HNX : Shut (roomF T m (d + 1 + r) (st + 1) x.parent = R) := ⟨by have := HH.out.1; rw [if_neg (fun hc => hlt hc.2.2)] at this; exact this⟩
              clear hdir hq hq0
              go_upto_region 7 with fail
              refine wp_region_grow (by kernel_rfl) (by kernel_rfl) ?_
              repeat (go_big_quiet_step (first | (go_at_call 7; exact HCU.out _)))
              refine wpQuiet_nil ?_
              rintro _ ⟨X, rfl⟩
              have u9 := X.cell c9 lj
              clear g0 g1 g2
              cases o with
              | none =>
                simp only [Option.map_none, ptr_none] at u9
                go_wp2_with fail
                go_roundg (gk - 1)
                case measure => omega
                case rel =>
                  refine ⟨⟨HB.out.1.below X.bel, HB.out.2.trans (X.bel.mono HB.out.2.size)⟩, .inl ⟨⟨rfl, ?_⟩⟩⟩
                  rw [← HNX.out, show d + 1 + r = (d + r) + 1 by omega, roomF_none HO.out.symm]
                  simp
              | some k =>
                simp only [Option.map_some, ptr_some] at u9
                go_wp2_with fail
                go_roundg (gk - 1)
                case measure => omega
                case rel =>
                  refine ⟨⟨HB.out.1.below X.bel, HB.out.2.trans (X.bel.mono HB.out.2.size)⟩, .inr ⟨?_⟩⟩
                  obtain ⟨h1, hu, hge, hq⟩ := HH.out
                  cases hu with
                  | root =>
                    have e0 := HT.out.1.2.2.2
                    have h4 := HO.out
                    rw [hge] at e0
                    rw [e0, HT.out.1.zero] at h4
                    cases h4
                  | @step _ k' d' _ _ hk hu' =>
                    rw [hge, ← HO.out] at hk
                    cases hk
                    obtain ⟨hkl, ek⟩ := fid_lt HO.out.symm
                    refine ⟨k, d', r, st + 1, rfl, by omega, hkl, hu', ?_⟩
                    rw [getD_in hkl, ek, ← HNX.out, show d' + 2 + r = d' + 1 + 1 + r by omega]
end Go.Proofs.Ythfmjjaollekiaa
/- ApA: Boxes in memory; a node that is laid anew in a row of the call's own; what an answer of a tree and a number is. -/
namespace Go.Proofs.Ythfmjjaollekiaa
open Go.RowKit

/-- Boxes of one's own, each in its block. -/
structure MB (w0 w : World) (L : List (Nat × List Value)) : Prop where
  box : ∀ p ∈ L, WCells w p.1 p.2 ∧ w0.heap.size ≤ p.1
  dist : L.Pairwise fun p q => p.1 ≠ q.1
  bel : Below w0.heap.size w0 w
theorem MB.nil (w : World) : MB w w [] := ⟨by simp, List.Pairwise.nil, Below.refl _ _⟩
theorem MB.below {w0 w w' : World} {L : List (Nat × List Value)} (h : MB w0 w L) (hb : Below w.heap.size w w') : MB w0 w' L :=
  ⟨fun p hp => ⟨(h.box p hp).1.grow hb, (h.box p hp).2⟩, h.dist, h.bel.trans (hb.mono h.bel.size)⟩
theorem MB.new {w0 w : World} {L : List (Nat × List Value)} (h : MB w0 w L) (cs : Array Value) (t : TypeId) : MB w0 (w.alloc (.cells cs t)) ((w.heap.size, cs.toList) :: L) := by
  have hb : Below w.heap.size w (w.alloc (.cells cs t)) := (Below.refl _ _).alloc (Nat.le_refl _) _
  refine ⟨fun p hp => ?_, List.pairwise_cons.2 ⟨fun q hq => ?_, h.dist⟩, (h.below hb).bel⟩
  · rcases List.mem_cons.1 hp with rfl | hp
    · exact ⟨wcells_new w cs t, h.bel.size⟩
    · exact (h.below hb).box p hp
  · have := (h.box q hq).1.1
    show w.heap.size ≠ q.1
    omega
theorem MB.at {w0 w : World} {L : List (Nat × List Value)} (h : MB w0 w L) (i : Nat) {g : Nat} {X : List Value} (hi : L[i]? = some (g, X)) : WCells w g X ∧ w0.heap.size ≤ g := h.box _ (List.mem_of_getElem? hi)
theorem MB.put {w0 w : World} {L : List (Nat × List Value)} (h : MB w0 w L) (i : Nat) {g : Nat} {X : List Value} (hi : L[i]? = some (g, X)) (j : Nat) (v : Value) (hj : j < X.length) : MB w0 (w.setCell ⟨g, j, none⟩ v) (L.set i (g, X.set j v)) := by
  obtain ⟨hl, he⟩ := List.getElem?_eq_some_iff.1 hi
  have hd := List.pairwise_iff_getElem.1 h.dist
  have hk := h.at i hi
  refine ⟨fun p hp => ?_, List.pairwise_iff_getElem.2 fun a b ha hb hab => ?_, h.bel.setCell (p := ⟨g, j, none⟩) hk.2 _⟩
  · obtain ⟨k, hk', rfl⟩ := List.mem_iff_getElem.1 hp
    rw [List.length_set] at hk'
    rw [List.getElem_set]
    split
    · exact ⟨hk.1.set j v hj, hk.2⟩
    · rename_i hne
      refine ⟨(h.box _ (List.getElem_mem hk')).1.other _ _ ?_, (h.box _ (List.getElem_mem hk')).2⟩
      show L[k].1 ≠ g
      have e : L[i].1 = g := by rw [he]
      rcases Nat.lt_or_gt_of_ne hne with q | q
      · have := hd i k hl hk' q; omega
      · have := hd k i hk' hl q; omega
  · rw [List.length_set] at ha hb
    have := hd a b ha hb hab
    have e : L[i].1 = g := by rw [he]
    rw [List.getElem_set, List.getElem_set]
    split
    · rename_i h1
      subst h1
      split
      · omega
      · show g ≠ L[b].1; omega
    · split
      · rename_i h2
        subst h2
        show L[a].1 ≠ g
        omega
      · exact this
/-- A block that is none of the boxes is turned. -/
theorem MB.far {w0 w w' : World} {L : List (Nat × List Value)} {q : Option Nat} (h : MB w0 w L) (hg : w.grownBy w' q) (hq : ∀ p ∈ L, q ≠ some p.1) (h0 : ∀ k, q = some k → w0.heap.size ≤ k) : MB w0 w' L :=
  ⟨fun p hp => ⟨wc_by (h.box p hp).1 hg (hq p hp), (h.box p hp).2⟩, h.dist, h.bel.grown hg h.bel.size h0⟩
theorem ncs_set (rs : List NR) (k : Nat) (hk : k < rs.length) (f : Nat) (hf : f < 9) (x : Value) (r : NR) (hc : ncells r = (ncells rs[k]).set f x) : (ncs rs).set (k * 9 + f) x = ncs (rs.set k r) := by
  apply List.ext_getElem?
  intro i
  rw [List.getElem?_set]
  have hlen := ncs_len rs
  have hlen2 : (ncs (rs.set k r)).length = rs.length * 9 := by rw [ncs_len, List.length_set]
  by_cases hi : i < rs.length * 9
  · have e1 : i / 9 < rs.length := by omega
    have e2 : i % 9 < 9 := by omega
    have e3 : i = i / 9 * 9 + i % 9 := by omega
    have a1 : (ncs rs)[i]? = (ncells rs[i / 9])[i % 9]? := by
      rw [show (ncs rs)[i]? = (ncs rs)[i / 9 * 9 + i % 9]? by rw [← e3]]
      exact flat_get ncells_len rs (i / 9) e1 (i % 9) e2
    have a2 : (ncs (rs.set k r))[i]? = (ncells ((rs.set k r)[i / 9]'(by rw [List.length_set]; exact e1)))[i % 9]? := by
      rw [show (ncs (rs.set k r))[i]? = (ncs (rs.set k r))[i / 9 * 9 + i % 9]? by rw [← e3]]
      exact flat_get ncells_len (rs.set k r) (i / 9) (by rw [List.length_set]; exact e1) (i % 9) e2
    rw [a2, List.getElem_set]
    by_cases hik : k * 9 + f = i
    · have b1 : k = i / 9 := by omega
      have b2 : f = i % 9 := by omega
      rw [if_pos hik, if_pos b1, hc, ← b2, List.getElem?_set_self (by rw [ncells_len]; exact hf), if_pos (by rw [hlen]; omega)]
    · rw [if_neg hik, a1]
      by_cases b1 : k = i / 9
      · rw [if_pos b1, hc, List.getElem?_set_ne (by omega)]
        congr 2
        exact (getElem_congr_idx b1).symm
      · rw [if_neg b1]
  · rw [if_neg (by omega), List.getElem?_eq_none (by omega), List.getElem?_eq_none (by omega)]
theorem own_zero {w : World} {B n c sz : Nat} {t : TypeId} {q : Addr} {L : List Value} (h : w.ownsRow B t sz (.slice (some q) n c) n L) : q = ⟨q.block, 0, none⟩ := by
  rcases h.2 with ⟨e, _⟩ | ⟨g, cap, cur, e, _⟩
  · cases e
  · simp at e
    rw [e.1]
/-- A piece more at a node: its row has grown, and its slice is laid anew. -/
theorem NB.grow {w w5 : World} {B n cap g k gg cap1 : Nat} {rs : List NR} {r : NR} {o : Obj} {new : PM} (h : NB w B (.slice (some ⟨g, 0, none⟩) n cap) rs) (hn : rs.length = n) (hk : rs[k]? = some r) (hgrow : ((w.alloc o).drew).grownBy w5 (Value.slice r.loc r.nd.pieces.length r.cap).ownBlock)
    (ho : w5.ownsRow B 59 2 (.slice (some ⟨gg, 0, none⟩) (r.nd.pieces.length + 1) cap1) (r.nd.pieces.length + 1) (pcs r.nd.pieces ++ pcells new)) (hat : (Value.slice r.loc r.nd.pieces.length r.cap).ownBlock = some gg ∨ gg = w.heap.size + 1) :
    NB (w5.setCell ⟨g, k * 9 + 7, none⟩ (.slice (some ⟨gg, 0, none⟩) (r.nd.pieces.length + 1) cap1)) B (.slice (some ⟨g, 0, none⟩) n cap) (rs.set k ⟨{ r.nd with pieces := r.nd.pieces ++ [new] }, some ⟨gg, 0, none⟩, cap1⟩) := by
  subst hn
  obtain ⟨hk', er⟩ := List.getElem?_eq_some_iff.1 hk
  subst er
  have hba : Below w.heap.size w (w.alloc o).drew := ((Below.refl _ _).alloc (Nat.le_refl _) _).drew
  have hN := h.below hba
  have hlt : ∀ s ∈ rs, ∀ q, s.loc = some q → q.block < w.heap.size := fun s hs q e => ((h.rows s hs).lt q.block (by rw [e]; rfl)).2
  obtain ⟨cg, hcg⟩ := own_blk' hN.own (show (Value.slice (some ⟨g, 0, none⟩) rs.length cap).ownBlock = some g from rfl)
  have hgo : (Value.slice rs[k].loc rs[k].nd.pieces.length rs[k].cap).ownBlock ≠ some g := fun e => by
    obtain ⟨c1, h1⟩ := own_blk' (hN.rows _ (List.getElem_mem hk')) e
    rw [hcg] at h1
    simp at h1
  have hown5 := hN.own.kept hgrow (.inr (by intro e; exact hgo e.symm))
  have hggg : gg ≠ g := by
    have hgl := (h.own.lt g rfl).2
    rcases hat with e | e
    · intro e2; rw [e2] at e; exact hgo e
    · omega
  have hst := (hown5.stored (k * 9 + 7) (.slice (some ⟨gg, 0, none⟩) (rs[k].nd.pieces.length + 1) cap1)).1
  have ha := List.pairwise_iff_getElem.1 h.apart
  have hap : ∀ j (hj : j < rs.length), j ≠ k → rs[j].loc ≠ none → rs[k].loc ≠ none → rs[j].loc ≠ rs[k].loc := fun j hj hjk h1 h2 => by
    rcases Nat.lt_or_gt_of_ne hjk with q | q
    · exact ha j k hj hk' q h1 h2
    · exact fun e => ha k j hk' hj q h2 h1 e.symm
  refine ⟨?_, fun s hs => ?_, ?_⟩
  · rw [List.length_set, ← ncs_set rs k hk' 7 (by omega) (.slice (some ⟨gg, 0, none⟩) (rs[k].nd.pieces.length + 1) cap1) _ (by simp [ncells])]
    exact hst
  · obtain ⟨j, hj, rfl⟩ := List.mem_iff_getElem.1 hs
    rw [List.length_set] at hj
    rw [List.getElem_set]
    split
    · have e : pcs (rs[k].nd.pieces ++ [new]) = pcs rs[k].nd.pieces ++ pcells new := by simp [pcs]
      show World.ownsRow _ _ _ _ (.slice (some ⟨gg, 0, none⟩) (rs[k].nd.pieces ++ [new]).length cap1) (rs[k].nd.pieces ++ [new]).length (pcs (rs[k].nd.pieces ++ [new]))
      rw [e, List.length_append, List.length_singleton]
      exact ho.kept (gb_set' _ _ _ _) (.inr (by simp [Value.ownBlock]; exact hggg))
    · rename_i hjk
      have h1 : w5.ownsRow B 59 2 (.slice rs[j].loc rs[j].nd.pieces.length rs[j].cap) rs[j].nd.pieces.length (pcs rs[j].nd.pieces) := by
        refine (hN.rows _ (List.getElem_mem hj)).kept hgrow ?_
        cases e : rs[j].loc with
        | none => exact .inl rfl
        | some q =>
          refine .inr fun e2 => ?_
          cases e3 : rs[k].loc with
          | none => rw [e3] at e2; cases e2
          | some q' =>
            have hne := hap j hj (fun e => hjk e.symm) (by rw [e]; simp) (by rw [e3]; simp)
            rw [e, e3] at hne
            rw [e3] at e2
            have z1 := own_zero (by have := h.rows _ (List.getElem_mem hj); rw [e] at this; exact this)
            have z2 := own_zero (by have := h.rows _ (List.getElem_mem hk'); rw [e3] at this; exact this)
            simp [Value.ownBlock] at e2
            exact hne (by rw [z1, z2, e2])
      refine h1.kept (gb_set' _ _ _ _) ?_
      cases e : rs[j].loc with
      | none => exact .inl rfl
      | some q =>
        refine .inr fun e2 => ?_
        obtain ⟨c1, h2⟩ := own_blk' (hN.rows _ (List.getElem_mem hj)) (by rw [e]; exact e2)
        rw [hcg] at h2
        simp at h2
  · have hnew : ∀ j (hj : j < rs.length), j ≠ k → rs[j].loc ≠ some ⟨gg, 0, none⟩ := fun j hj hjk e => by
      rcases hat with q | q
      · cases e3 : rs[k].loc with
        | none => rw [e3] at q; cases q
        | some q' =>
          rw [e3] at q
          have z2 := own_zero (by have := h.rows _ (List.getElem_mem hk'); rw [e3] at this; exact this)
          simp [Value.ownBlock] at q
          exact hap j hj hjk (by rw [e]; simp) (by rw [e3]; simp) (by rw [e, e3, z2, q])
      · have := hlt _ (List.getElem_mem hj) _ e
        simp at this
        omega
    refine List.pairwise_iff_getElem.2 fun a b ha' hb' hab => ?_
    rw [List.length_set] at ha' hb'
    rw [List.getElem_set, List.getElem_set]
    split
    · rename_i h1
      rw [if_neg (by omega)]
      intro _ _ e
      exact hnew b hb' (by omega) e.symm
    · split
      · rename_i h1 h2
        intro _ _ e
        exact hnew a ha' (by omega) e
      · exact ha a b ha' hb' hab
/-- A node is laid anew: one cell of it, its pieces as they were. -/
theorem NB.put {w : World} {B g cap : Nat} {rs : List NR} (h : NB w B (.slice (some ⟨g, 0, none⟩) rs.length cap) rs) (k : Nat) (hk : k < rs.length) (f : Nat) (hf : f < 9) (x : Value) (r : NR) (hc : ncells r = (ncells rs[k]).set f x) (hl : r.loc = rs[k].loc) (hcp : r.cap = rs[k].cap) (hp : r.nd.pieces = rs[k].nd.pieces) :
    NB (w.setCell ⟨g, k * 9 + f, none⟩ x) B (.slice (some ⟨g, 0, none⟩) rs.length cap) (rs.set k r) := by
  have hgb := gb_set' w g (k * 9 + f) x
  have hst := (h.own.stored (k * 9 + f) x).1
  have hcs := ncs_set rs k hk f hf x r hc
  refine ⟨?_, fun s hs => ?_, ?_⟩
  · rw [← hcs, List.length_set]
    exact hst
  · have hs' : ∃ s' ∈ rs, s.loc = s'.loc ∧ s.cap = s'.cap ∧ s.nd.pieces = s'.nd.pieces := by
      rcases List.mem_or_eq_of_mem_set hs with q | q
      · exact ⟨s, q, rfl, rfl, rfl⟩
      · subst q; exact ⟨rs[k], List.getElem_mem hk, hl, hcp, hp⟩
    obtain ⟨s', hm, e1, e2, e3⟩ := hs'
    rw [e1, e2, e3]
    refine (h.rows s' hm).kept hgb ?_
    cases e : (Value.slice s'.loc s'.nd.pieces.length s'.cap).ownBlock with
    | none => exact .inl rfl
    | some q =>
      refine .inr fun e2 => ?_
      obtain ⟨c1, h1⟩ := own_blk' (h.rows s' hm) e
      obtain ⟨c2, h2⟩ := own_blk' h.own (show (Value.slice (some ⟨g, 0, none⟩) rs.length cap).ownBlock = some g from rfl)
      cases e2
      rw [h1] at h2
      simp at h2
  · have ha := List.pairwise_iff_getElem.1 h.apart
    refine List.pairwise_iff_getElem.2 fun a b ha' hb' hab => ?_
    rw [List.length_set] at ha' hb'
    have := ha a b ha' hb' hab
    rw [List.getElem_set, List.getElem_set]
    split
    · rename_i h1
      subst h1
      rw [if_neg (by omega), hl]
      exact this
    · split
      · rename_i h2
        subst h2
        rw [hl]
        exact this
      · exact this
theorem NB.cellK {w : World} {B n cap g : Nat} {rs : List NR} {k : Nat} {r : NR} (h : NB w B (.slice (some ⟨g, 0, none⟩) n cap) rs) (hn : rs.length = n) (hk : rs[k]? = some r) (f : Nat) (v : Value) (hv : (ncells r)[f]? = some v) : w.cell? ⟨g, k * 9 + f, none⟩ = some v ∧ w.frozen? ⟨g, k * 9 + f, none⟩ = false := by
  subst hn
  obtain ⟨hk', e⟩ := List.getElem?_eq_some_iff.1 hk
  have hw := own_wcells h.own
  have hf : f < 9 := by have := (List.getElem?_eq_some_iff.1 hv).1; rw [ncells_len] at this; exact this
  exact hw.2 _ _ ((flat_get ncells_len rs k hk' f hf).trans (by rw [e]; exact hv))
theorem NB.putK {w : World} {B n cap g : Nat} {rs : List NR} {k : Nat} {r : NR} (h : NB w B (.slice (some ⟨g, 0, none⟩) n cap) rs) (hn : rs.length = n) (hk : rs[k]? = some r) (f : Nat) (hf : f < 9) (x : Value) (r' : NR) (hc : ncells r' = (ncells r).set f x) (hl : r'.loc = r.loc) (hcp : r'.cap = r.cap) (hp : r'.nd.pieces = r.nd.pieces) :
    NB (w.setCell ⟨g, k * 9 + f, none⟩ x) B (.slice (some ⟨g, 0, none⟩) n cap) (rs.set k r') := by
  subst hn
  obtain ⟨hk', e⟩ := List.getElem?_eq_some_iff.1 hk
  subst e
  exact h.put k hk' f hf x r' hc hl hcp hp
/-- The node of a copy at a place. -/
theorem copy_at {rs rs2 : List NR} {k : Nat} {r : NR} (h : nds rs2 = nds rs) (hk : rs[k]? = some r) : ∃ loc cp, rs2[k]? = some ⟨r.nd, loc, cp⟩ := by
  have h1 : (nds rs2)[k]? = (nds rs)[k]? := by rw [h]
  simp only [nds, List.getElem?_map, hk, Option.map_some] at h1
  cases h2 : rs2[k]? with
  | none => rw [h2] at h1; cases h1
  | some s =>
    rw [h2] at h1
    simp only [Option.map_some, Option.some.injEq] at h1
    exact ⟨s.loc, s.cap, by rw [← h1]⟩
theorem NB.lts {w : World} {B : Nat} {v : Value} {rs : List NR} (h : NB w B v rs) : ∀ r ∈ rs, ∀ q, r.loc = some q → q.block < w.heap.size := fun r hr q e => by
  have := (h.rows r hr).lt q.block (by rw [e]; rfl)
  exact this.2
theorem NB.setAway {w : World} {B : Nat} {v : Value} {rs : List NR} (h : NB w B v rs) (g i : Nat) (x : Value) (hv : v.ownBlock ≠ some g) (hr : ∀ r ∈ rs, ∀ q, r.loc = some q → q.block ≠ g) : NB (w.setCell ⟨g, i, none⟩ x) B v rs := by
  refine ⟨h.own.kept (gb_set' w g i x) (.inr hv), fun r hr' => (h.rows r hr').kept (gb_set' w g i x) (.inr fun e => ?_), h.apart⟩
  cases hl : r.loc with
  | none => rw [hl] at e; cases e
  | some q =>
    rw [hl] at e
    simp [Value.ownBlock] at e
    exact hr r hr' q hl e
/-- What grows lies beyond. -/
theorem NB.beyond {w w' : World} {B C : Nat} {v : Value} {rs : List NR} {q : Option Nat} (h : NB w B v rs) (hg : w.grownBy w' q) (hq : ∀ k, q = some k → C ≤ k) (hv : ∀ k, v.ownBlock = some k → k < C) (hr : ∀ r ∈ rs, ∀ a, r.loc = some a → a.block < C) : NB w' B v rs := by
  refine ⟨h.own.kept hg ?_, fun r hr' => (h.rows r hr').kept hg ?_, h.apart⟩
  · cases e : v.ownBlock with
    | none => exact .inl rfl
    | some k => exact .inr fun e2 => by have := hq k e2.symm; have := hv k e; omega
  · cases e : (Value.slice r.loc r.nd.pieces.length r.cap).ownBlock with
    | none => exact .inl rfl
    | some k =>
      refine .inr fun e2 => ?_
      have h1 := hq k e2.symm
      cases hl : r.loc with
      | none => rw [hl] at e; cases e
      | some a =>
        rw [hl] at e
        simp [Value.ownBlock] at e
        have := hr r hr' a hl
        omega
/-- What an answer of a tree and a number is. -/
def ApPost (R : TM × Int) (w : World) (e : Ending) (w' : World) : Prop := ∃ v, e = .returned (.tuple #[v, .int .i64 R.2]) ∧ TAns w' v R.1 w.heap.size w'.heap.size ∧ Below w.heap.size w w'
end Go.Proofs.Ythfmjjaollekiaa
