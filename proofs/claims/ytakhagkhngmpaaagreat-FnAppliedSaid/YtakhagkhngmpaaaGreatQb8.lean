/- Texts of ours, laid one behind the other: LkL, LkM, CtA, LkO, LawTre, LawTrw, LkT, EdP, EdQ, GrpS, GrpI. -/
import Derived.Test.YtakhagkhngmpaaaGreatQb7
import Derived.Test.YtakhagkhngmpaaaGreatQb5
import Derived.Test.YtakhagkhngmpaaaGreatQbCpB
import Derived.Test.YtakhagkhngmpaaaGreatQb3
import Derived.Test.YtakhagkhngmpaaaGreatQb2
import Derived.Test.YtakhagkhngmpaaaGreatQb6
import Derived.Test.YtakhagkhngmpaaaGreatQb4
import Derived.Test.YtakhagkhngmpaaaGreatQb1
import Derived.Sort.OwnSorted
import Derived.Sort.KeysCollected
import Derived.Laws.IdiomRangeMap
import Derived.Test.YtakhagkhngmpaaaGreatQbShf
import Derived.Sort.OwnSortedInts
/- LkL: . -/
namespace Go.Proofs.YtakhagkhngmpaaaGreat
set_option maxRecDepth 100000
open Go.RowKit Go.Maps BigFrame
attribute [local go_sem ↓] Go.wp_at_zero Go.wp_at_succ
def usedP : List NM → List Int → Int
 | [], _ => 0
 | n :: r, L => (if L.contains n.id then n.len else 0) + usedP r L
theorem usedP_append (a b : List NM) (L : List Int) : usedP (a ++ b) L = usedP a L + usedP b L := by
 induction a with
 | nil => simp [usedP]
 | cons n a ih => simp only [List.cons_append, usedP, ih]; omega
theorem usedP_take (ns : List NM) (L : List Int) (k : Nat) (h : k < ns.length) : usedP (ns.take (k + 1)) L = usedP (ns.take k) L + if L.contains ns[k].id then ns[k].len else 0 := by
 rw [List.take_succ_eq_append_getElem h, usedP_append]
 simp [usedP]
theorem usedP_nil (ns : List NM) : usedP ns [] = 0 := by
 induction ns with
 | nil => rfl
 | cons n r ih => simp [usedP, ih]
theorem Asc.mem_at {ns : List NM} (h : Asc ns) {n : NM} (hn : n ∈ ns) : ns.getD (atI ns n.id).toNat default = n := by
 obtain ⟨i, hi, rfl⟩ := List.mem_iff_getElem.1 hn
 rw [at_fid, h.fid hi]
 simp [hi]
theorem Asc.mem_eq {ns : List NM} (h : Asc ns) {m n : NM} (hm : m ∈ ns) (hn : n ∈ ns) (e : m.id = n.id) : m = n := by
 rw [← h.mem_at hm, ← h.mem_at hn, e]
theorem usedP_is (T : TM) (id : Int) : usedP T.nodes (belowX T id) = usedX T id := by
 unfold usedX
 cases ht : treeOk T with
 | false =>
  have : belowX T id = [] := by unfold belowX; rw [if_neg (by rw [ht]; simp)]
  rw [this, usedP_nil]
  rfl
 | true =>
  have ha := (tree_tall ht).1
  rw [← blwL_is ht]
  unfold blwL
  generalize hq : (fun n : NM => decide (id ≠ 0) && belowF T.nodes 15 n.id id) = q
  have hc : ∀ n ∈ T.nodes, ((T.nodes.filter q).map NM.id).contains n.id = q n := fun n hn => by
   rw [Bool.eq_iff_iff]
   simp only [List.contains_iff_mem, List.mem_map, List.mem_filter]
   constructor
   ·rintro ⟨m, ⟨hm, hqm⟩, e⟩
    rw [← ha.mem_eq hm hn e]
    exact hqm
   ·exact fun hqn => ⟨n, ⟨hn, hqn⟩, rfl⟩
  have key : ∀ M : List NM, (∀ n ∈ M, n ∈ T.nodes) → usedP M ((T.nodes.filter q).map NM.id) = usedL T.nodes ((M.filter q).map NM.id) := by
   intro M
   induction M with
   | nil => intro _; rfl
   | cons n r ih =>
    intro hM
    have hn := hM n (by simp)
    have ih' := ih fun m hm => hM m (by simp [hm])
    unfold usedP
    rw [hc n hn, ih']
    cases hqn : q n with
    | true =>
     rw [List.filter_cons_of_pos hqn, List.map_cons]
     conv => rhs; unfold usedL
     rw [ha.mem_at hn]
     simp
    | false =>
     rw [List.filter_cons_of_neg (by simp [hqn])]
     simp
  exact key T.nodes fun n hn => hn
theorem usedP_le (T : TM) (id : Int) (k : Nat) : 0 ≤ usedP (T.nodes.take k) (belowX T id) ∧ usedP (T.nodes.take k) (belowX T id) ≤ 14000 := by
 cases ht : treeOk T with
 | false =>
  have : belowX T id = [] := by unfold belowX; rw [if_neg (by rw [ht]; simp)]
  rw [this, usedP_nil]
  omega
 | true =>
  have hall : ∀ M : List NM, (∀ n ∈ M, 0 ≤ n.len ∧ n.len ≤ 1000) → 0 ≤ usedP M (belowX T id) ∧ usedP M (belowX T id) ≤ 1000 * M.length := by
   intro M
   induction M with
   | nil => intro _; simp [usedP]
   | cons n r ih =>
    intro hM
    have h1 := hM n (by simp)
    have h2 := ih fun m hm => hM m (by simp [hm])
    simp only [usedP, List.length_cons]
    push_cast
    split <;> omega
  have h3 := hall (T.nodes.take k) fun n hn => by
   obtain ⟨i, hi, rfl⟩ := List.mem_iff_getElem.1 (List.mem_of_mem_take hn)
   have := nodeOk_len (treeOk_node ht hi)
   rw [getD_in hi] at this
   exact this
  have h4 := treeOk_14 ht
  have h5 : (T.nodes.take k).length ≤ 14 := by simp; omega
  omega
set_option maxHeartbeats 1000000 in
theorem implIndex {w : World} {a : Option Addr} {xs : List Int} (cap : Nat) (x : Int) (hr : CRow w a (ics xs)) (hl : xs.length ≤ 1048576) : Calls Tryz.prog 123 #[.slice a xs.length cap, .int .i64 x] w fun e w' => (∃ i : Int, e = .returned (.int .i64 i) ∧ Shut (decide (0 ≤ i) = xs.contains x)) ∧ w' = w := by
 obtain ⟨n, hn⟩ : ∃ n, n = xs.length := ⟨_, rfl⟩
 rw [← hn] at hl ⊢
 have HN := Shut.mk hn
 have HR := Shut.mk hr
 clear hn hr
 go_enter Tryz.func123, Tryz.ntmps123
 go_wp2_with fail
 go_loopw [8] (fun i wr => ∃ k : Nat, i = .int .i64 k ∧ k ≤ n ∧ Shut (∀ j (hj : j < xs.length), j < k → xs[j] ≠ x) ∧ wr = w) (fun i _ => n - (intOf i).toNat)
 case atStart => exact ⟨0, rfl, Nat.zero_le _, ⟨fun _ _ h => absurd h (Nat.not_lt_zero _)⟩, rfl⟩
 case round =>
  obtain ⟨k, rfl, hk, hno, rfl⟩ := hrel
  by_cases hlt : k < n
  ·have hkx : k < xs.length := by rw [← HN.out]; exact hlt
   obtain ⟨b, off, rfl, lb, hc⟩ := HR.out (by simp [ics]; omega)
   have e0 := hc k (.int .i64 xs[k]) (by simp [ics, hkx])
   have k0 : (0 : Int) ≤ (k : Int) := by omega
   have k1 : (k : Int) < (n : Int) := by omega
   obtain ⟨y, hy⟩ : ∃ y, y = xs[k] := ⟨_, rfl⟩
   rw [← hy] at e0
   have HY := Shut.mk hy
   clear hc hy
   by_cases hxy : x = y
   ·have hxy' : (x == y) = true := by simp [hxy]
    have HC : Shut (xs.contains x = true) := ⟨by rw [hxy, HY.out]; simp⟩
    clear hxy
    go_wp2_with fail
    go_ret
    exact ⟨⟨k, rfl, ⟨by rw [HC.out]; simp⟩⟩, rfl⟩
   ·go_wp2_with fail
    go_roundw
    case rel =>
     refine ⟨k + 1, by go_num, by omega, ⟨fun j hj hjk => ?_⟩, trivial⟩
     rcases Nat.lt_succ_iff_lt_or_eq.1 hjk with h | h
     ·exact hno.out j hj h
     ·subst h
      rw [← HY.out]
      exact fun e => hxy e.symm
    case measure => simp [intOf]; omega
  ·have hlt' : ¬ (k : Int) < (n : Int) := by omega
   have HC : Shut (xs.contains x = false) := ⟨by
    refine Bool.eq_false_iff.2 fun hc => ?_
    simp only [List.contains_iff_mem] at hc
    obtain ⟨j, hj, e⟩ := List.mem_iff_getElem.1 hc
    exact hno.out j hj (by have := HN.out; omega) e⟩
   go_wp2_with fail
   go_ret
   exact ⟨⟨-1, rfl, ⟨by have := HC.out; simp at this; simp [this]⟩⟩, rfl⟩
theorem implContains {w : World} {a : Option Addr} {xs : List Int} (cap : Nat) (x : Int) (hr : CRow w a (ics xs)) (hl : xs.length ≤ 1048576) : Calls Tryz.prog 78 #[.slice a xs.length cap, .int .i64 x] w fun e w' => e = .returned (.bool (xs.contains x)) ∧ w' = w := by
 have HC := Shut.mk (implIndex cap x hr hl)
 generalize xs.contains x = c at *
 generalize xs.length = n at *
 clear hr
 go_enter Tryz.func78, Tryz.ntmps78
 go_wp2_with fail
 refine HC.out.mono ?_
 rintro e w1 ⟨⟨i, rfl, HI⟩, rfl⟩
 go_wp2_with fail
 go_ret
 exact ⟨by rw [← HI.out]; rfl, rfl⟩
set_option maxHeartbeats 1000000 in
theorem implUsedBelow (w : World) (v : Value) (T : TM) (lo hi : Nat) (id : Int) (h : TSee w v T lo hi) (hf : NFit T) (hI : NInt T.nodes) : Calls Tryz.prog 22 #[v, .int .i64 id] w fun e w' => e = .returned (.int .i64 (usedX T id)) ∧ Below w.heap.size w w' := by
 have hsee := h
 obtain ⟨a, cap, rs, rfl, hr, hm⟩ := h
 have hlen : rs.length = T.nodes.length := by rw [← hr, nds_len]
 have hl : rs.length ≤ 1048576 := by unfold NFit at hf; omega
 have hget : ∀ j (hj : j < rs.length), ∃ hj' : j < T.nodes.length, T.nodes[j] = rs[j].nd := fun j hj => by
  refine ⟨by rw [← hr, nds_len]; exact hj, ?_⟩
  rw [List.getElem_of_eq hr.symm]
  simp [nds]
 obtain ⟨n, hn⟩ : ∃ n, n = rs.length := ⟨_, rfl⟩
 obtain ⟨nx, hnx⟩ : ∃ nx, nx = T.next := ⟨_, rfl⟩
 rw [← hn, ← hnx] at hsee ⊢
 have hbo := fun W (hb : Below w.heap.size w W) => implBelowOf W _ T lo hi id (hsee.below hb) hf hI
 rw [← hn] at hl hlen
 rw [← usedP_is]
 have hle := usedP_le T id
 have hbl : (belowX T id).length ≤ 1048576 := by have := belowX_len T id; omega
 generalize belowX T id = X at *
 obtain ⟨R, hR⟩ : ∃ R, R = usedP T.nodes X := ⟨_, rfl⟩
 rw [← hR]
 unfold IPost at hbo
 have HBO := Shut.mk hbo
 have HM := Shut.mk hm
 have HN := Shut.mk hn
 have HL := Shut.mk hlen
 have HG := Shut.mk hget
 have HR := Shut.mk hR
 have HLE := Shut.mk hle
 clear hbo hr hm hsee hn hnx hlen hget hR hI hf hle
 go_enter Tryz.func22, Tryz.ntmps22
 go_wp2_with fail
 refine (HBO.out _ ((Below.refl _ _).alloc (Nat.le_refl _) _)).mono ?_
 rintro e w1 ⟨u, rfl, hA, hb1⟩
 obtain ⟨ua, ucap, rfl, hcr⟩ := hA.crow
 have hbx := (BX.new w a n cap nx 26).below hb1
 have HBX := Shut.mk hbx
 have x0 := (hbx.box.2 0 _ rfl).1
 have hco := fun W (hb : Below w1.heap.size w1 W) (x : Int) => implContains ucap x (CRow.stays hcr hb) hbl
 obtain ⟨xn, hxn⟩ : ∃ xn, xn = X.length := ⟨_, rfl⟩
 rw [← hxn] at hco ⊢
 have HCO := Shut.mk hco
 clear hA hb1 hcr hbx HBO hco hxn
 go_wp2_with fail
 go_loopw [6, 15] (fun sv iv wr => ∃ k : Nat, sv = .int .i64 (usedP (T.nodes.take k) X) ∧ iv = .int .i64 k ∧ k ≤ n ∧ Shut (Below w1.heap.size w1 wr)) (fun _ iv _ => n - (intOf iv).toNat)
 case atStart => exact ⟨0, by simp [usedP], rfl, Nat.zero_le _, ⟨Below.refl _ _⟩⟩
 case round =>
  clear x0
  obtain ⟨k, rfl, rfl, hk, HW⟩ := hrel
  have hlek := HLE.out k
  by_cases hlt : k < n
  ·have hkr : k < rs.length := by rw [← HN.out]; exact hlt
   have hW := HBX.out.below HW.out
   obtain ⟨b, off, rfl, lb, hc⟩ := TR.nat HM.out (by omega)
   have hnk := (hc k hkr).below hW.bel lb
   obtain ⟨hkT, hge⟩ := HG.out k hkr
   have hst := usedP_take T.nodes X k hkT
   have hle1 := HLE.out (k + 1)
   rw [hst] at hle1
   rw [hge] at hst hle1
   obtain ⟨r, hr⟩ : ∃ r, r = rs[k] := ⟨_, rfl⟩
   rw [← hr] at hnk hst hle1
   obtain ⟨sm, hsm⟩ : ∃ sm, sm = usedP (T.nodes.take k) X := ⟨_, rfl⟩
   rw [← hsm] at hlek hst hle1 ⊢
   have HST := Shut.mk hst
   have lb' : b < wr.heap.size := Nat.lt_of_lt_of_le lb hW.bel.size
   have k0 : (0 : Int) ≤ (k : Int) := by omega
   have k1 : (k : Int) < (n : Int) := by omega
   have hba : Below w1.heap.size w1 (wr.alloc (.cells #[.int .i64 r.nd.id, .int .i64 r.nd.parent, .string r.nd.name, .bool r.nd.dir, .int .i64 r.nd.schema, .int .i64 r.nd.quota, .int .i64 r.nd.len, .slice r.loc r.nd.pieces.length r.cap, .int .i64 r.nd.writer] 47)) := HW.out.alloc HW.out.size _
   have hcc := HCO.out _ hba r.nd.id
   have HBA := Shut.mk hba
   obtain ⟨c0, c1, c2, c3, c4, c5, c6, c7, c8⟩ := hnk
   clear hc hr hst hW hba hsm hge
   cases hct : X.contains r.nd.id with
   | true =>
    rw [hct] at hcc HST hle1
    have HCC := Shut.mk hcc
    have HS' : Shut (usedP (T.nodes.take (k + 1)) X = sm + r.nd.len) := ⟨by rw [HST.out]; simp⟩
    have hle2 : 0 ≤ sm + r.nd.len ∧ sm + r.nd.len ≤ 14000 := by simpa using hle1
    clear hct hcc hle1
    go_wp2_with (go_at_call 78; refine HCC.out.mono ?_; rintro e w9 ⟨rfl, rfl⟩)
    go_roundw
    case rel => exact ⟨k + 1, by rw [HS'.out], by go_num, by omega, HBA⟩
    case measure => simp [intOf]; omega
   | false =>
    rw [hct] at hcc HST
    have HCC := Shut.mk hcc
    have HS' : Shut (usedP (T.nodes.take (k + 1)) X = sm) := ⟨by rw [HST.out]; simp⟩
    clear hct hcc hle1
    go_wp2_with (go_at_call 78; refine HCC.out.mono ?_; rintro e w9 ⟨rfl, rfl⟩)
    go_roundw
    case rel => exact ⟨k + 1, by rw [HS'.out], by go_num, by omega, HBA⟩
    case measure => simp [intOf]; omega
  ·have k1 : ¬ (k : Int) < (n : Int) := by omega
   have hall : T.nodes.take k = T.nodes := List.take_of_length_le (by have := HL.out; omega)
   have HE : Shut (usedP (T.nodes.take k) X = R) := ⟨by rw [hall, HR.out]⟩
   have HB : Shut (Below w.heap.size w wr) := ⟨(HBX.out.below HW.out).bel⟩
   clear hall
   go_wp2_with fail
   go_ret
   exact ⟨by rw [← HE.out]; rfl, HB.out⟩
theorem tree_quota {T : TM} (h : treeOk T = true) {i : Nat} (hi : i < T.nodes.length) : 0 ≤ T.nodes[i].quota ∧ T.nodes[i].quota ≤ 1000 ∧ (T.nodes[i].dir = false → T.nodes[i].quota = 0) := by
 have hn := treeOk_node h hi
 cases hd : T.nodes[i].dir with
 | true =>
  have := nodeOk_quota hn (by rw [getD_in hi]; exact hd)
  rw [getD_in hi] at this
  exact ⟨this.1, this.2, fun h => by cases h⟩
 | false =>
  unfold nodeOk at hn
  simp only [Bool.and_eq_true] at hn
  have h3 := hn.1.2
  rw [getD_in hi, if_neg (by rw [hd]; simp)] at h3
  unfold fileOk at h3
  simp only [Bool.and_eq_true, beq_iff_eq] at h3
  have : T.nodes[i].quota = 0 := h3.1.1.1.1.1.2
  exact ⟨by omega, by omega, fun _ => this⟩
set_option maxHeartbeats 2000000 in
theorem implRoomFor (w : World) (v : Value) (T : TM) (lo hi : Nat) (id m : Int) (h : TSee w v T lo hi) (hf : NFit T) (hI : NInt T.nodes) (hid : (Lit.int .i64 id).wf = true) : Calls Tryz.prog 161 #[v, .int .i64 id, .int .i64 m] w fun e w' => e = .returned (.bool (roomX T id m)) ∧ Below w.heap.size w w' := by
 have hsee := h
 obtain ⟨a, cap, rs, rfl, hr, hm⟩ := h
 obtain ⟨n, hn⟩ : ∃ n, n = rs.length := ⟨_, rfl⟩
 obtain ⟨nx, hnx⟩ : ∃ nx, nx = T.next := ⟨_, rfl⟩
 rw [← hn, ← hnx] at hsee ⊢
 have hat := fun W (hb : Below w.heap.size w W) => nodeAt_any W _ T lo hi id (hsee.below hb) hf hI hid
 have hub := fun (c : Int) W (hb : Below w.heap.size w W) => implUsedBelow W _ T lo hi c (hsee.below hb) hf hI
 have HAT := Shut.mk hat
 have HUB := Shut.mk hub
 obtain ⟨R, hR⟩ : ∃ R, R = roomX T id m := ⟨_, rfl⟩
 rw [← hR]
 have HR := Shut.mk hR
 clear hat hub hr hm hsee hn hnx hR hf hI hid
 go_enter Tryz.func161, Tryz.ntmps161
 go_wp2_with fail
 refine (HAT.out _ ((Below.refl _ _).alloc (Nat.le_refl _) _)).mono ?_
 rintro e w1 ⟨o, rfl, hb1, hcase⟩
 have HB := Shut.mk ((BX.new w a n cap nx 26).below hb1)
 clear hb1 HAT
 rcases hcase with ⟨ht, rfl⟩ | ⟨ht, G, rfl, hnd⟩
 ·have HE : Shut (R = false) := ⟨by rw [HR.out]; unfold roomX; rw [if_neg (by rw [ht]; decide)]⟩
  rw [ptr_none]
  clear ht
  go_wp2_with fail
  go_ret
  exact ⟨by rw [HE.out]; rfl, HB.out.bel⟩
 ·have HT := Shut.mk (tree_tall ht)
  have HQ := Shut.mk (fun i hi => tree_quota ht (i := i) hi)
  have HU := Shut.mk (fun c => usedX_le T c)
  have HND := Shut.mk hnd
  have HE : Shut (R = roomF T m 15 0 id) := ⟨by rw [HR.out]; unfold roomX; rw [if_pos ht]⟩
  clear hnd ht HR
  cases hf : fid T.nodes id with
  | none =>
   have HF : Shut (R = false) := ⟨by rw [HE.out]; exact roomF_none hf⟩
   rw [Option.map_none, ptr_none]
   clear hf
   go_wp2_with fail
   go_ret
   exact ⟨by rw [HF.out]; rfl, HB.out.bel⟩
  | some i0 =>
   obtain ⟨hi0, ei0⟩ := fid_lt hf
   obtain ⟨d0, hd0, hu0⟩ := HT.out.2 i0 hi0
   have HU0 := Shut.mk hu0
   rw [Option.map_some, ptr_some]
   have HI0 : Shut (roomF T m (d0 + 2 + (13 - d0)) 0 (T.nodes.getD i0 default).id = R) := ⟨by rw [HE.out, getD_in hi0, ei0, show d0 + 2 + (13 - d0) = 15 by omega]⟩
   clear hf ei0 hu0 HE
   go_wp2_with fail
   go_loopg [7] (d0 + 1) (fun q p wr => Shut (BX w wr a n cap nx ∧ Below w1.heap.size w1 wr) ∧ (Shut (p = .pointer none ∧ R = true) ∨ Shut (∃ (j d r st : Nat), p = .pointer (some ⟨G j, 0, none⟩) ∧ d + 1 ≤ q ∧ j < T.nodes.length ∧ Ups T.nodes j d ∧ roomF T m (d + 2 + r) st (T.nodes.getD j default).id = R)))
   case atStart => exact ⟨⟨HB.out, Below.refl _ _⟩, .inr ⟨i0, d0, 13 - d0, 0, rfl, Nat.le_refl _, hi0, HU0.out, HI0.out⟩⟩
   case round =>
    clear HI0 HB
    obtain ⟨HB, hrel⟩ := hrel
    rcases hrel with ⟨rfl, hR0⟩ | ⟨j, d, r, st, rfl, hdm, hj, hu, h1⟩
    ·have HE0 := Shut.mk hR0
     clear hR0
     go_wp2_with fail
     go_ret
     exact ⟨by rw [HE0.out]; rfl, HB.out.1.bel⟩
    ·have hnw := HND.out.below HB.out.2
     have c0 := (hnw.cells j hj).1
     have c5 := (hnw.cells j hj).2.2.2.2.2.1
     have lj := (hnw.cells j hj).2.2.2.2.2.2
     have hf := HT.out.1.fid hj
     have c9 := hnw.above j hj hf
     have hge := getD_in hj
     have hq := HQ.out j hj
     obtain ⟨x, hx⟩ : ∃ x, x = T.nodes[j] := ⟨_, rfl⟩
     rw [← hx] at c0 c5 c9 hge hf hq
     rw [hge, show d + 2 + r = (d + 1 + r) + 1 by omega, roomF_some (i := j) hf, hge] at h1
     have hus := HU.out x.id
     have x0 := (HB.out.1.box.2 0 _ rfl).1
     have x1 := (HB.out.1.box.2 1 _ rfl).1
     have lx := HB.out.1.box.1
     have hcu := fun X => calls_grow (w := wr) (fun W' (hb : Below wr.heap.size wr W') => HUB.out x.id W' (HB.out.1.bel.trans (hb.mono HB.out.1.bel.size))) X
     have HCU := Shut.mk hcu
     have HH := Shut.mk (And.intro h1 (And.intro hu (And.intro hge hq)))
     obtain ⟨o, ho⟩ : ∃ o, o = fid T.nodes x.parent := ⟨_, rfl⟩
     rw [← ho] at c9
     have HO := Shut.mk ho
     obtain ⟨us, hus'⟩ : ∃ us, us = usedX T x.id := ⟨_, rfl⟩
     rw [← hus'] at hus HCU HH
     clear ho h1 hu hge hf hx hcu hnw hus'
     have g0 : ∀ X : Grow wr, X.val.cell? ⟨w.heap.size, 0, none⟩ = some (.slice a n cap) := fun X => X.cell x0 lx
     have g1 : ∀ X : Grow wr, X.val.cell? ⟨w.heap.size, 1, none⟩ = some (.int .i64 nx) := fun X => X.cell x1 lx
     have g2 : ∀ X : Grow wr, X.val.cell? ⟨G j, 0, none⟩ = some (.int .i64 x.id) := fun X => X.cell c0 lj
     by_cases hq0 : x.quota = 0
     ·have HNX : Shut (roomF T m (d + 1 + r) (st + 1) x.parent = R) := ⟨by have := HH.out.1; rw [if_neg (fun hc => by omega)] at this; exact this⟩
      have hqb : (x.quota != 0) = false := by simp [hq0]
      clear hq hq0
      go_upto_region 7 with fail
      refine wp_region_grow (by kernel_rfl) (by kernel_rfl) ?_
      repeat (go_big_quiet_step (first | (go_at_call 22; exact HCU.out _)))
      refine wpQuiet_nil ?_
      rintro _ ⟨X, rfl⟩
      have u9 := X.cell c9 lj
      clear g0 g1 g2
      cases o with
      | none =>
       simp only [Option.map_none, ptr_none] at u9
       go_wp2_with fail
       go_roundg (gk - 1)
       case measure => omega
       case rel =>
        refine ⟨⟨HB.out.1.below X.bel, HB.out.2.trans (X.bel.mono HB.out.2.size)⟩, .inl ⟨⟨rfl, ?_⟩⟩⟩
        rw [← HNX.out, show d + 1 + r = (d + r) + 1 by omega, roomF_none HO.out.symm]
        simp
      | some k =>
       simp only [Option.map_some, ptr_some] at u9
       go_wp2_with fail
       go_roundg (gk - 1)
       case measure => omega
       case rel =>
        refine ⟨⟨HB.out.1.below X.bel, HB.out.2.trans (X.bel.mono HB.out.2.size)⟩, .inr ⟨?_⟩⟩
        obtain ⟨h1, hu, hge, hq⟩ := HH.out
        cases hu with
        | root =>
         have e0 := HT.out.1.2.2.2
         have h4 := HO.out
         rw [hge] at e0
         rw [e0, HT.out.1.zero] at h4
         cases h4
        | @step _ k' d' _ _ hk hu' =>
         rw [hge, ← HO.out] at hk
         cases hk
         obtain ⟨hkl, ek⟩ := fid_lt HO.out.symm
         refine ⟨k, d', r, st + 1, rfl, by omega, hkl, hu', ?_⟩
         rw [getD_in hkl, ek, ← HNX.out, show d' + 2 + r = d' + 1 + 1 + r by omega]
     ·have hqb : (x.quota != 0) = true := by simp [hq0]
      have q1 : 0 ≤ x.quota := hq.1
      have q2 : x.quota ≤ 1000 := hq.2.1
      have hdir : x.dir = true := by
       cases hd : x.dir with
       | true => rfl
       | false => exact absurd (hq.2.2 hd) hq0
      obtain ⟨u1, u2⟩ := hus
      by_cases hlt : x.quota - us < m
      ·have HF : Shut (R = false) := ⟨by have := HH.out.1; rw [if_pos ⟨hdir, by omega, hlt⟩] at this; exact this.symm⟩
       clear hdir hq hq0
       go_upto_region 7 with fail
       refine wp_region_grow (by kernel_rfl) (by kernel_rfl) ?_
       repeat (go_big_quiet_step (first | (go_at_call 22; exact HCU.out _)))
       refine wpQuiet_nil ?_
       rintro _ ⟨X, rfl⟩
       go_wp2_with fail
       go_ret
       exact ⟨by rw [HF.out]; rfl, (HB.out.1.below X.bel).bel⟩
      ·have HNX : Shut (roomF T m (d + 1 + r) (st + 1) x.parent = R) := ⟨by have := HH.out.1; rw [if_neg (fun hc => hlt hc.2.2)] at this; exact this⟩
       clear hdir hq hq0
       go_upto_region 7 with fail
       refine wp_region_grow (by kernel_rfl) (by kernel_rfl) ?_
       repeat (go_big_quiet_step (first | (go_at_call 22; exact HCU.out _)))
       refine wpQuiet_nil ?_
       rintro _ ⟨X, rfl⟩
       have u9 := X.cell c9 lj
       clear g0 g1 g2
       cases o with
       | none =>
        simp only [Option.map_none, ptr_none] at u9
        go_wp2_with fail
        go_roundg (gk - 1)
        case measure => omega
        case rel =>
         refine ⟨⟨HB.out.1.below X.bel, HB.out.2.trans (X.bel.mono HB.out.2.size)⟩, .inl ⟨⟨rfl, ?_⟩⟩⟩
         rw [← HNX.out, show d + 1 + r = (d + r) + 1 by omega, roomF_none HO.out.symm]
         simp
       | some k =>
        simp only [Option.map_some, ptr_some] at u9
        go_wp2_with fail
        go_roundg (gk - 1)
        case measure => omega
        case rel =>
         refine ⟨⟨HB.out.1.below X.bel, HB.out.2.trans (X.bel.mono HB.out.2.size)⟩, .inr ⟨?_⟩⟩
         obtain ⟨h1, hu, hge, hq⟩ := HH.out
         cases hu with
         | root =>
          have e0 := HT.out.1.2.2.2
          have h4 := HO.out
          rw [hge] at e0
          rw [e0, HT.out.1.zero] at h4
          cases h4
         | @step _ k' d' _ _ hk hu' =>
          rw [hge, ← HO.out] at hk
          cases hk
          obtain ⟨hkl, ek⟩ := fid_lt HO.out.symm
          refine ⟨k, d', r, st + 1, rfl, by omega, hkl, hu', ?_⟩
          rw [getD_in hkl, ek, ← HNX.out, show d' + 2 + r = d' + 1 + 1 + r by omega]
end Go.Proofs.YtakhagkhngmpaaaGreat
/- CtA: . -/
namespace Go.Proofs.YtakhagkhngmpaaaGreat
set_option maxRecDepth 100000
open Go.RowKit
attribute [local go_sem ↓] Go.wp_at_zero Go.wp_at_succ
theorem infoInodeG9 : (Tryz.prog.info? 47).map (fun i => (i.zero, i.size, i.bytes)) = some (some (.agg #[.int .i64 0, .int .i64 0, .string ⟨#[]⟩, .bool false, .int .i64 0, .int .i64 0, .int .i64 0, .slice none 0 0, .int .i64 0]), 9, 96) := by kernel_rfl
theorem eqNonePiece (n c : Nat) (W : World) : Sem.run Tryz.prog (binOp BinOp.eql 45 (.slice none n c) (.slice none 0 0)) W = .ok (.bool true) W := by kernel_rfl
theorem eqSomePiece (q : Addr) (n c : Nat) (W : World) : Sem.run Tryz.prog (binOp BinOp.eql 45 (.slice (some q) n c) (.slice none 0 0)) W = .ok (.bool false) W := by kernel_rfl
theorem eqNoneInode (n c : Nat) (W : World) : Sem.run Tryz.prog (binOp BinOp.eql 24 (.slice none n c) (.slice none 0 0)) W = .ok (.bool true) W := by kernel_rfl
theorem eqSomeInode (q : Addr) (n c : Nat) (W : World) : Sem.run Tryz.prog (binOp BinOp.eql 24 (.slice (some q) n c) (.slice none 0 0)) W = .ok (.bool false) W := by kernel_rfl
attribute [local go_sem] eqNonePiece eqSomePiece eqNoneInode eqSomeInode
def clonePPost (L : List Value) (n : Nat) (w : World) (e : Ending) (w' : World) : Prop := ∃ (a : Option Addr) (c : Nat), e = .returned (.slice a n c) ∧ w'.ownsRow w.heap.size 99 2 (.slice a n c) n L ∧ Below w.heap.size w w'
set_option maxHeartbeats 1000000 in
theorem cloneP_any {w : World} {a : Option Addr} {n cap : Nat} {ps : List PM} (h : CRow w a (pcs ps)) (hn : n = ps.length) (hl : n ≤ 1048576) : Calls Tryz.prog 110 #[.slice a n cap] w fun e w' => clonePPost (pcs ps) n w e w' := by
 have hv : ∀ u ∈ pcs ps, u.oneCell' = true := by
  intro u hu
  obtain ⟨y, _, hy⟩ := List.mem_flatMap.1 hu
  simp [pcells] at hy; rcases hy with rfl | rfl <;> rfl
 have hL : (pcs ps).length = n * 2 := by rw [pcs_len, hn]
 have HV := Shut.mk hv
 generalize pcs ps = L at h HV hL ⊢
 clear hn hv
 obtain ⟨j0, hjn, hy0, hy1, hy2⟩ := info_parts infoPieceG
 have HL := Shut.mk hL
 clear hL
 rcases Nat.eq_zero_or_pos n with h0 | hp
 ·have hL0 : L = [] := List.eq_nil_of_length_eq_zero (by rw [HL.out, h0, Nat.zero_mul])
  subst h0
  subst hL0
  clear h
  cases a with
  | none =>
   go_enter Tryz.func110, Tryz.ntmps110
   go_wp2_with fail
   go_ret
   exact ⟨none, 0, rfl, World.ownsRow_nil w w.heap.size 99 2, Below.refl _ _⟩
  | some q =>
   have hap : ∀ (W : World) (g : Addr), ∀ ty, (Builtin.append_ #[45, 45] ty #[.slice (some g) 0 0, .slice (some q) 0 cap]).run Tryz.prog W = .ok (.slice (some g) 0 0) W := fun W g ty =>
    run_append_nothing W _ _ _ _ j0 Tryz.underlying45 hjn (some g) 0 0 (Nat.le_refl _) _ (Src.ofSlice W Tryz.underlying45 q 0 cap [] (by simp) (by simp) (by simp))
   have HAP := Shut.mk hap
   clear hap
   go_enter Tryz.func110, Tryz.ntmps110
   go_wp2_with (at_builtin; refine wpList_append_nothing _ rfl _ _ 45 rfl _ _ rfl rfl (HAP.out _ _) ?_)
   go_ret
   exact ⟨some ⟨w.heap.size, 0, none⟩, 0, rfl, World.ownsRow_made (e := 99) (size := 2) (base := w.heap.size) w #[] 0 (Nat.le_refl _) (by decide) rfl, (Below.refl _ _).alloc (Nat.le_refl _) _⟩
 ·have hLp : 0 < L.length := by rw [HL.out]; omega
  obtain ⟨pb, poff, rfl, lpb, hpc⟩ := h hLp
  have HPC := Shut.mk hpc
  clear hpc h hLp
  go_enter Tryz.func110, Tryz.ntmps110
  have hmade := World.ownsRow_made (e := 99) (size := 2) (base := w.heap.size) w #[] 0 (Nat.le_refl _) (by decide) rfl
  go_wp2_with (at_builtin; refine wpList_append_own _ rfl _ _ 45 rfl w.heap.size 99 j0 _ 2 16 Tryz.underlying45 hjn hy0 hy1 hy2 rfl (by decide) _ 0 [] rfl hmade ⟨pb, poff, none⟩ n cap L rfl ?c0 ?c1 ?c2 ?c3 ?c4 ?c5 ?_)
  case c0 => first | exact HL.out | (rw [HL.out]; omega)
  case c1 =>
   intro i u hu
   have e : (⟨pb, poff, none⟩ : Addr).add i = ⟨pb, poff + i, none⟩ := by cases i <;> simp [Addr.add]
   rw [e, ← HPC.out i u hu]
   exact ((Below.refl w.heap.size w).alloc (Nat.le_refl _) _).cell (p := ⟨pb, poff + i, none⟩) lpb
  case c2 => exact HV.out
  case c3 => unfold maxLen; omega
  case c4 => omega
  case c5 => simp
  intro v' w10 ho10 hgrow _
  obtain ⟨a9, c9, rfl⟩ := own_slice ho10
  have HO := Shut.mk ho10
  have HB : Shut (Below w.heap.size w w10) := ⟨((Below.refl w.heap.size w).alloc (Nat.le_refl _) _).grown hgrow (by simp) (fun j hj => by cases hj; exact Nat.le_refl _)⟩
  clear ho10 hgrow hmade
  go_wp2_with fail
  go_ret
  exact ⟨a9, c9, rfl, HO.out, HB.out⟩
def cloneNPost (L : List Value) (n : Nat) (w : World) (e : Ending) (w' : World) : Prop := ∃ (a : Option Addr) (c : Nat), e = .returned (.slice a n c) ∧ w'.ownsRow w.heap.size 47 9 (.slice a n c) n L ∧ Below w.heap.size w w'
set_option maxHeartbeats 1000000 in
theorem cloneN_any {w : World} {a : Option Addr} {n cap : Nat} {rs : List NR} (h : CRow w a (ncs rs)) (hn : n = rs.length) (hl : n ≤ 1048576) : Calls Tryz.prog 108 #[.slice a n cap] w fun e w' => cloneNPost (ncs rs) n w e w' := by
 have hv : ∀ u ∈ ncs rs, u.oneCell' = true := by
  intro u hu
  obtain ⟨y, _, hy⟩ := List.mem_flatMap.1 hu
  simp [ncells] at hy; rcases hy with rfl | rfl | rfl | rfl | rfl | rfl | rfl | rfl | rfl <;> rfl
 have hL : (ncs rs).length = n * 9 := by rw [ncs_len, hn]
 have HV := Shut.mk hv
 generalize ncs rs = L at h HV hL ⊢
 clear hn hv
 obtain ⟨j0, hjn, hy0, hy1, hy2⟩ := info_parts infoInodeG9
 have HL := Shut.mk hL
 clear hL
 rcases Nat.eq_zero_or_pos n with h0 | hp
 ·have hL0 : L = [] := List.eq_nil_of_length_eq_zero (by rw [HL.out, h0, Nat.zero_mul])
  subst h0
  subst hL0
  clear h
  cases a with
  | none =>
   go_enter Tryz.func108, Tryz.ntmps108
   go_wp2_with fail
   go_ret
   exact ⟨none, 0, rfl, World.ownsRow_nil w w.heap.size 47 9, Below.refl _ _⟩
  | some q =>
   have hap : ∀ (W : World) (g : Addr), ∀ ty, (Builtin.append_ #[24, 24] ty #[.slice (some g) 0 0, .slice (some q) 0 cap]).run Tryz.prog W = .ok (.slice (some g) 0 0) W := fun W g ty =>
    run_append_nothing W _ _ _ _ j0 Tryz.underlying24 hjn (some g) 0 0 (Nat.le_refl _) _ (Src.ofSlice W Tryz.underlying24 q 0 cap [] (by simp) (by simp) (by simp))
   have HAP := Shut.mk hap
   clear hap
   go_enter Tryz.func108, Tryz.ntmps108
   go_wp2_with (at_builtin; refine wpList_append_nothing _ rfl _ _ 24 rfl _ _ rfl rfl (HAP.out _ _) ?_)
   go_ret
   exact ⟨some ⟨w.heap.size, 0, none⟩, 0, rfl, World.ownsRow_made (e := 47) (size := 9) (base := w.heap.size) w #[] 0 (Nat.le_refl _) (by decide) rfl, (Below.refl _ _).alloc (Nat.le_refl _) _⟩
 ·have hLp : 0 < L.length := by rw [HL.out]; omega
  obtain ⟨pb, poff, rfl, lpb, hpc⟩ := h hLp
  have HPC := Shut.mk hpc
  clear hpc h hLp
  go_enter Tryz.func108, Tryz.ntmps108
  have hmade := World.ownsRow_made (e := 47) (size := 9) (base := w.heap.size) w #[] 0 (Nat.le_refl _) (by decide) rfl
  go_wp2_with (at_builtin; refine wpList_append_own _ rfl _ _ 24 rfl w.heap.size 47 j0 _ 9 96 Tryz.underlying24 hjn hy0 hy1 hy2 rfl (by decide) _ 0 [] rfl hmade ⟨pb, poff, none⟩ n cap L rfl ?c0 ?c1 ?c2 ?c3 ?c4 ?c5 ?_)
  case c0 => first | exact HL.out | (rw [HL.out]; omega)
  case c1 =>
   intro i u hu
   have e : (⟨pb, poff, none⟩ : Addr).add i = ⟨pb, poff + i, none⟩ := by cases i <;> simp [Addr.add]
   rw [e, ← HPC.out i u hu]
   exact ((Below.refl w.heap.size w).alloc (Nat.le_refl _) _).cell (p := ⟨pb, poff + i, none⟩) lpb
  case c2 => exact HV.out
  case c3 => unfold maxLen; omega
  case c4 => omega
  case c5 => simp
  intro v' w10 ho10 hgrow _
  obtain ⟨a9, c9, rfl⟩ := own_slice ho10
  have HO := Shut.mk ho10
  have HB : Shut (Below w.heap.size w w10) := ⟨((Below.refl w.heap.size w).alloc (Nat.le_refl _) _).grown hgrow (by simp) (fun j hj => by cases hj; exact Nat.le_refl _)⟩
  clear ho10 hgrow hmade
  go_wp2_with fail
  go_ret
  exact ⟨a9, c9, rfl, HO.out, HB.out⟩
end Go.Proofs.YtakhagkhngmpaaaGreat
/- LkO: . -/
namespace Go.Proofs.YtakhagkhngmpaaaGreat
set_option maxRecDepth 100000
open Go.RowKit Go.Maps Go.Sort BigFrame
attribute [local go_sem ↓] Go.wp_at_zero Go.wp_at_succ
end Go.Proofs.YtakhagkhngmpaaaGreat
/- LawTre: . -/
namespace Go.Proofs.YtakhagkhngmpaaaGreat
set_option maxRecDepth 100000
open Go.RowKit
attribute [local go_sem ↓] Go.wp_at_zero Go.wp_at_succ
attribute [local irreducible] nodeOk treeOk atI findX pathX schemaAtX usedX roomX
structure BY (w W : World) (a : Option Addr) (n cap : Nat) (nx : Int) (g : Nat) (c : Option Addr) (m cc : Nat) (T : TM) : Prop where
 bx : BX w W a n cap nx
 kp : WCells W g [.slice c m cc, .int .i64 nx]
 cp : TSee W (.agg #[.slice c m cc, .int .i64 nx]) T w.heap.size g
theorem BY.below {w W W' : World} {a c : Option Addr} {n cap g m cc : Nat} {nx : Int} {T : TM} (h : BY w W a n cap nx g c m cc T) (hb : Below W.heap.size W W') : BY w W' a n cap nx g c m cc T := ⟨h.bx.below hb, h.kp.grow hb, h.cp.below hb⟩
end Go.Proofs.YtakhagkhngmpaaaGreat
/- LawTrw: . -/
namespace Go.Proofs.YtakhagkhngmpaaaGreat
set_option maxRecDepth 100000
open Go.RowKit
attribute [local go_sem ↓] Go.wp_at_zero Go.wp_at_succ
attribute [local irreducible] nodeOk treeOk atI belowX
end Go.Proofs.YtakhagkhngmpaaaGreat
/- LkT: . -/
namespace Go.Proofs.YtakhagkhngmpaaaGreat
set_option maxRecDepth 100000
open Go.RowKit Go.Maps Go.Sort BigFrame
attribute [local go_sem ↓] Go.wp_at_zero Go.wp_at_succ
theorem implClone (s : ByteArray) (w : World) (hs : s.size ≤ 281474976710656) : Calls Tryz.prog 109 #[.string s] w fun e w' => e = .returned (.string s) ∧ Below w.heap.size w w' := by
 have HC := Shut.mk (fun W => Tryz.stringslite_Clone s W hs)
 go_enter Tryz.func109, Tryz.ntmps109
 go_wp2_with fail
 refine (HC.out _).mono ?_
 rintro e w1 ⟨rfl, hb⟩
 go_wp2_with fail
 go_ret
 exact ⟨rfl, hb⟩
end Go.Proofs.YtakhagkhngmpaaaGreat
/- EdP: . -/
namespace Go.Proofs.YtakhagkhngmpaaaGreat
set_option maxRecDepth 100000
open Go.RowKit BigFrame
attribute [local go_sem ↓] Go.wp_at_zero Go.wp_at_succ
theorem implHasName (p : ByteArray) (w : World) (hs : p.size ≤ 1048576) : Calls Tryz.prog 126 #[.string p] w fun e w' => e = .returned (.bool (named p)) ∧ Below w.heap.size w w' := by
 have HC := Shut.mk (fun W => implParentPath p W hs)
 unfold ParPost at HC
 have e0 : named p = (parentB p).2.2 := rfl
 rw [e0]
 generalize (parentB p).2.2 = a at *
 generalize (parentB p).2.1 = b at *
 generalize (parentB p).1 = c at *
 clear hs e0
 go_enter Tryz.func126, Tryz.ntmps126
 go_wp2_with fail
 refine (HC.out _).mono ?_
 rintro e w1 ⟨rfl, hb⟩
 go_wp2_with fail
 go_ret
 exact ⟨rfl, hb⟩
def pathQ (e : EM) : Bool := if e.kind = 10 then e.path.toList == [47] else if e.kind = 5 ∨ e.kind = 6 then (e.path.toList == [47]) || named e.path else named e.path
def destQ (e : EM) : Bool := if e.kind = 3 then named e.dest else e.dest.toList == []
def numQ (e : EM) : Bool := if e.kind = 5 then inI e.num 1 3 else if e.kind = 6 then inI e.num 0 1000 else if e.kind = 7 then inI e.num 1 200 else e.num == 0
def whoQ (e : EM) : Bool := if e.kind = 2 ∨ e.kind = 9 then inI e.who 1 9 else e.who == 0
theorem not_named_nil {p : ByteArray} (h : (p.toList == []) = true) : named p = false := by
 rw [Go.ByteArray.toList_eq, beq_iff_eq] at h
 have hp : p = ⟨#[]⟩ := ByteArray.ext (Array.toList_inj.1 h)
 subst hp
 rfl
theorem edit_is (e : EM) : editOk e = (inI e.kind 1 10 && pathQ e && destQ e && numQ e && whoQ e) := by
 unfold editOk pathBad numsOk pathQ destQ numQ whoQ
 have hn := @not_named_nil e.dest
 generalize named e.dest = nd at *
 generalize named e.path = np at *
 generalize (e.path.toList == [47]) = rt at *
 have hne : (e.dest.toList != []) = !(e.dest.toList == []) := rfl
 rw [hne]
 generalize (e.dest.toList == []) = te at *
 generalize inI e.num 1 3 = a1 at *
 generalize inI e.num 0 1000 = a2 at *
 generalize inI e.num 1 200 = a3 at *
 generalize inI e.who 1 9 = a4 at *
 generalize (e.num == 0) = a5 at *
 generalize (e.who == 0) = a6 at *
 cases hk : inI e.kind 1 10 with
 | false => simp
 | true =>
  have hk' := inI_iff.1 hk
  have hc : e.kind = 1 ∨ e.kind = 2 ∨ e.kind = 3 ∨ e.kind = 4 ∨ e.kind = 5 ∨ e.kind = 6 ∨ e.kind = 7 ∨ e.kind = 8 ∨ e.kind = 9 ∨ e.kind = 10 := by omega
  rcases hc with h | h | h | h | h | h | h | h | h | h <;> rw [h] <;> simp <;> revert hn <;> cases nd <;> cases te <;> simp <;> cases np <;> cases rt <;> simp [Bool.and_comm]
set_option maxHeartbeats 1000000 in
theorem implPathQ (e : EM) (w : World) (hf : EFit e) : Calls Tryz.prog 87 #[ev e] w fun r w' => r = .returned (.bool (pathQ e)) ∧ Below w.heap.size w w' := by
 have HN := Shut.mk (fun W => implHasName e.path W hf.1)
 have HR : Shut (pathQ e = if e.kind = 10 then e.path.toList == [47] else if e.kind = 5 ∨ e.kind = 6 then (e.path.toList == [47]) || named e.path else named e.path) := ⟨rfl⟩
 generalize pathQ e = R at *
 generalize named e.path = np at *
 obtain ⟨kind, path, dest, num, who⟩ := e
 dsimp only at *
 clear hf
 go_enter Tryz.func87, Tryz.ntmps87
 go_wp2_with (go_at_call 126; refine (HN.out _).mono ?_; rintro r w1 ⟨rfl, hb1⟩)
 all_goals
  go_ret
  refine ⟨by rw [HR.out]; (try simp only [beq_iff_eq, beq_eq_false_iff_ne, ne_eq] at *); simp [*], ?_⟩
  first
   | exact (Below.refl _ _).alloc (Nat.le_refl _) _
   | exact ((Below.refl _ _).alloc (Nat.le_refl _) _).trans (hb1.mono (by simp))
set_option maxHeartbeats 1000000 in
theorem implDestQ (e : EM) (w : World) (hf : EFit e) : Calls Tryz.prog 88 #[ev e] w fun r w' => r = .returned (.bool (destQ e)) ∧ Below w.heap.size w w' := by
 have HN := Shut.mk (fun W => implHasName e.dest W hf.2)
 have HR : Shut (destQ e = if e.kind = 3 then named e.dest else e.dest.toList == []) := ⟨rfl⟩
 generalize destQ e = R at *
 generalize named e.dest = np at *
 obtain ⟨kind, path, dest, num, who⟩ := e
 dsimp only at *
 clear hf
 go_enter Tryz.func88, Tryz.ntmps88
 go_wp2_with (go_at_call 126; refine (HN.out _).mono ?_; rintro r w1 ⟨rfl, hb1⟩)
 all_goals
  go_ret
  refine ⟨by rw [HR.out]; (try simp only [beq_iff_eq, beq_eq_false_iff_ne, ne_eq] at *); simp [*], ?_⟩
  first
   | exact (Below.refl _ _).alloc (Nat.le_refl _) _
   | exact ((Below.refl _ _).alloc (Nat.le_refl _) _).trans (hb1.mono (by simp))
set_option maxHeartbeats 1000000 in
theorem implNumQ (e : EM) (w : World) : Calls Tryz.prog 89 #[ev e] w fun r w' => r = .returned (.bool (numQ e)) ∧ Below w.heap.size w w' := by
 have HR : Shut (numQ e = if e.kind = 5 then inI e.num 1 3 else if e.kind = 6 then (decide (0 ≤ e.num) && decide (e.num ≤ 1000)) else if e.kind = 7 then (decide (1 ≤ e.num) && decide (e.num ≤ 200)) else e.num == 0) := ⟨rfl⟩
 generalize numQ e = R at *
 obtain ⟨kind, path, dest, num, who⟩ := e
 dsimp only at *
 go_enter Tryz.func89, Tryz.ntmps89
 go_wp2_with (go_at_call 115; refine (implSchemaOk _ _).mono ?_; rintro r w1 ⟨rfl, rfl⟩)
 all_goals
  go_ret
  refine ⟨by rw [HR.out]; (try simp only [beq_iff_eq, beq_eq_false_iff_ne, ne_eq] at *); first | (simp [*]; done) | (simp [*]; omega), ?_⟩
  exact (Below.refl _ _).alloc (Nat.le_refl _) _
set_option maxHeartbeats 1000000 in
theorem implWhoQ (e : EM) (w : World) : Calls Tryz.prog 90 #[ev e] w fun r w' => r = .returned (.bool (whoQ e)) ∧ Below w.heap.size w w' := by
 have HR : Shut (whoQ e = if e.kind = 2 ∨ e.kind = 9 then (decide (1 ≤ e.who) && decide (e.who ≤ 9)) else e.who == 0) := ⟨rfl⟩
 generalize whoQ e = R at *
 obtain ⟨kind, path, dest, num, who⟩ := e
 dsimp only at *
 go_enter Tryz.func90, Tryz.ntmps90
 go_wp2_with fail
 all_goals
  go_ret
  refine ⟨by rw [HR.out]; (try simp only [beq_iff_eq, beq_eq_false_iff_ne, ne_eq] at *); first | (simp [*]; done) | (simp [*]; omega), ?_⟩
  exact (Below.refl _ _).alloc (Nat.le_refl _) _
theorem ec_new (w : World) (e : EM) (T : TypeId) : EC w w.heap.size e (w.alloc (.cells #[.int .i64 e.kind, .string e.path, .string e.dest, .int .i64 e.num, .int .i64 e.who] T)) := by
 have h := wcells_new w #[.int .i64 e.kind, .string e.path, .string e.dest, .int .i64 e.num, .int .i64 e.who] T
 exact ⟨(h.2 0 _ rfl).1, (h.2 1 _ rfl).1, (h.2 2 _ rfl).1, (h.2 3 _ rfl).1, (h.2 4 _ rfl).1, ⟨(Below.refl _ _).alloc (Nat.le_refl _) _⟩⟩
set_option maxHeartbeats 1000000 in
theorem implEditOk (e : EM) (w : World) (hf : EFit e) : Calls Tryz.prog 35 #[ev e] w fun r w' => r = .returned (.bool (editOk e)) ∧ Below w.heap.size w w' := by
 have H1 := Shut.mk (fun W => implPathQ e W hf)
 have H2 := Shut.mk (fun W => implDestQ e W hf)
 have H3 := Shut.mk (fun W => implNumQ e W)
 have H4 := Shut.mk (fun W => implWhoQ e W)
 have HR := Shut.mk (edit_is e)
 have HN := Shut.mk (ec_new w e 28)
 generalize editOk e = R at *
 generalize pathQ e = q1 at *
 generalize destQ e = q2 at *
 generalize numQ e = q3 at *
 generalize whoQ e = q4 at *
 unfold inI at HR
 obtain ⟨kind, path, dest, num, who⟩ := e
 dsimp only at *
 clear hf
 go_enter Tryz.func35, Tryz.ntmps35
 go_wp2_with (first
  | (go_at_call 87; refine (H1.out _).mono ?_; rintro r w1 ⟨rfl, hb1⟩; obtain ⟨c0, c1, c2, c3, c4, hB⟩ := HN.out.below hb1; clear hb1; dsimp only at c0 c1 c2 c3 c4)
  | (go_at_call 88; refine (H2.out _).mono ?_; rintro r w1 ⟨rfl, hb1⟩; obtain ⟨c0, c1, c2, c3, c4, hB⟩ := EC.below (e := ⟨kind, path, dest, num, who⟩) ⟨c0, c1, c2, c3, c4, hB⟩ hb1; clear hb1; dsimp only at c0 c1 c2 c3 c4)
  | (go_at_call 89; refine (H3.out _).mono ?_; rintro r w1 ⟨rfl, hb1⟩; obtain ⟨c0, c1, c2, c3, c4, hB⟩ := EC.below (e := ⟨kind, path, dest, num, who⟩) ⟨c0, c1, c2, c3, c4, hB⟩ hb1; clear hb1; dsimp only at c0 c1 c2 c3 c4)
  | (go_at_call 90; refine (H4.out _).mono ?_; rintro r w1 ⟨rfl, hb1⟩; obtain ⟨c0, c1, c2, c3, c4, hB⟩ := EC.below (e := ⟨kind, path, dest, num, who⟩) ⟨c0, c1, c2, c3, c4, hB⟩ hb1; clear hb1; dsimp only at c0 c1 c2 c3 c4))
 all_goals
  go_ret
  refine ⟨by rw [HR.out]; first | (simp [*]; done) | (simp [*]; omega), ?_⟩
  first
   | exact hB.out
   | exact (Below.refl _ _).alloc (Nat.le_refl _) _
end Go.Proofs.YtakhagkhngmpaaaGreat
/- GrpS: . -/
namespace Go.Proofs.YtakhagkhngmpaaaGreat
set_option maxRecDepth 100000
open Go.RowKit
attribute [local go_sem ↓] Go.wp_at_zero Go.wp_at_succ
theorem filI_take (p : Int → Bool) (l : List Int) (k : Nat) (h : k < l.length) : (l.take (k + 1)).filter p = (l.take k).filter p ++ if p l[k] = true then [l[k]] else [] := by
 rw [List.take_succ_eq_append_getElem h, List.filter_append]
 congr 1
 by_cases q : p l[k] = true
 ·simp [q]
 ·simp [q]
def IRow (V W : World) (v : Value) (m : Nat) (L : List Int) : Prop := m = L.length ∧ Below V.heap.size V W ∧ W.ownsRow V.heap.size 3 1 v m (ics L)
theorem IRow.below {V W W' : World} {v : Value} {m : Nat} {L : List Int} (h : IRow V W v m L) (hb : Below W.heap.size W W') : IRow V W' v m L := ⟨h.1, h.2.1.trans (hb.mono h.2.1.size), h.2.2.kept (row := none) ⟨hb.os, hb.tape, hb.output, hb.size, fun k hk _ => hb.block k hk⟩ (Classical.em _)⟩
theorem IRow.snoc {V W W' : World} {v v' : Value} {m : Nat} {L : List Int} {x : Int} {o : Obj} (h : IRow V W v m L) (ho : W'.ownsRow V.heap.size 3 1 v' (m + 1) (ics L ++ [.int .i64 x])) (hg : (W.alloc o).grownBy W' v.ownBlock) : IRow V W' v' (m + 1) (L ++ [x]) := by
 refine ⟨by rw [List.length_append, List.length_singleton, h.1], (h.2.1.alloc h.2.1.size _).grown hg (by have := h.2.1.size; simp; omega) (fun j hj => (h.2.2.lt j hj).1), ?_⟩
 rw [← ics_snoc9]
 exact ho
theorem IRow.fin {V W : World} {v : Value} {m : Nat} {L : List Int} (h : IRow V W v m L) : IPost L V (.returned v) W := ⟨v, rfl, own_ians h.1.symm h.2.2, h.2.1⟩
set_option maxHeartbeats 2000000 in
theorem specInsert {w : World} {a : Option Addr} {l : List Int} (cap : Nat) (x : Int) (hr : CRow w a (ics l)) (hl : l.length ≤ 1048576) : Calls Tryz.prog 81 #[.slice a l.length cap, .int .i64 x] w fun e w' => IPost (insG l x) w e w' := by
 obtain ⟨t0, ht0, hty0, hty1, hty2⟩ := info_parts infoIntG
 obtain ⟨n, hn⟩ : ∃ n, n = l.length := ⟨_, rfl⟩
 rw [← hn] at hl ⊢
 have HN := Shut.mk hn
 have HR := Shut.mk hr
 have HCR : Shut (∀ W, Below w.heap.size w W → CRow W a (ics l)) := ⟨fun W hb => hr.stays hb⟩
 clear hn hr
 go_enter Tryz.func81, Tryz.ntmps81
 go_wp2_with fail
 go_loopw [5, 6] (fun ov iv wr => ∃ (k m : Nat) (vv : Value), vv = ov ∧ iv = .int .i64 k ∧ k ≤ n ∧ m ≤ k ∧ Shut (IRow w wr vv m ((l.take k).filter fun y => decide (y < x)))) (fun _ iv _ => n - (intOf iv).toNat)
 case atStart => exact ⟨0, 0, _, rfl, rfl, Nat.zero_le _, Nat.le_refl _, ⟨by simp, (Below.refl _ _).alloc (Nat.le_refl _) _, by simpa [ics] using World.ownsRow_made w #[] 0 (Nat.le_refl _) (by decide) rfl⟩⟩
 case round =>
  obtain ⟨k, m, ov, rfl, rfl, hk, hmk, HG⟩ := hrel
  obtain ⟨wo, rfl⟩ : ∃ wo, wo = wr := ⟨_, rfl⟩
  by_cases hlt : k < n
  case pos =>
   have hkl : k < l.length := by have := HN.out; omega
   have k0 : (0 : Int) ≤ (k : Int) := by omega
   have k1 : (k : Int) < (n : Int) := by omega
   obtain ⟨b, off, rfl, lb, hc⟩ := HCR.out wo HG.out.2.1 (by simp [ics]; omega)
   have e0 := hc k (.int .i64 l[k]) (by simp [ics, hkl])
   have hst := filI_take (fun y => decide (y < x)) l k hkl
   obtain ⟨y, hy⟩ : ∃ y, y = l[k] := ⟨_, rfl⟩
   rw [← hy] at e0 hst
   have HY := Shut.mk hy
   have HST := Shut.mk hst
   clear hy hst
   by_cases hxy : y < x
   ·have HS' : Shut ((l.take (k + 1)).filter (fun y => decide (y < x)) = (l.take k).filter (fun y => decide (y < x)) ++ [y]) := ⟨by rw [HST.out, if_pos (by simpa using hxy)]⟩
    have ho := HG.out.2.2
    have hsz : w.heap.size ≤ wo.heap.size := HG.out.2.1.size
    clear hc
    go_wp2_with (at_builtin; refine wpList_append_own _ rfl _ _ 37 rfl w.heap.size 3 t0 (.int .i64 0) 1 8 Tryz.underlying37 ht0 hty0 hty1 hty2 rfl (by decide) _ _ _ rfl (ho.alloc _) ⟨wo.heap.size, 0, none⟩ 1 1 [.int .i64 y] rfl rfl (cell_one_new _ _ _) ?c2 ?c3 ?c4 ?c5 ?_)
    case c2 => first | rfl | (intro u hu; simp at hu; subst hu; rfl)
    case c3 => unfold maxLen; omega
    case c4 => omega
    case c5 => first | omega | (simp; omega)
    intro v' w10 ho10 hgrow _
    have HG2 := Shut.mk (HG.out.snoc ho10 hgrow)
    rw [← HS'.out] at HG2
    clear ho ho10 hgrow
    go_wp2_with fail
    go_roundw
    case rel => exact ⟨k + 1, m + 1, v', rfl, by go_num, by omega, by omega, HG2⟩
    case measure => simp [intOf]; omega
   ·have HS' : Shut ((l.take (k + 1)).filter (fun y => decide (y < x)) = (l.take k).filter (fun y => decide (y < x))) := ⟨by rw [HST.out, if_neg (by simpa using hxy), List.append_nil]⟩
    clear hc
    go_wp2_with fail
    go_roundw
    case rel => exact ⟨k + 1, m, ov, rfl, by go_num, by omega, by omega, ⟨by rw [HS'.out]; exact HG.out⟩⟩
    case measure => simp [intOf]; omega
  case neg =>
  have k1 : ¬ (k : Int) < (n : Int) := by omega
  have hall : l.take k = l := List.take_of_length_le (by have := HN.out; omega)
  rw [hall] at HG
  have hsz : w.heap.size ≤ wo.heap.size := HG.out.2.1.size
  have ho := HG.out.2.2
  clear hall
  go_wp2_with (at_builtin; refine wpList_append_own _ rfl _ _ 37 rfl w.heap.size 3 t0 (.int .i64 0) 1 8 Tryz.underlying37 ht0 hty0 hty1 hty2 rfl (by decide) _ _ _ rfl (ho.alloc _) ⟨wo.heap.size, 0, none⟩ 1 1 [.int .i64 x] rfl rfl (cell_one_new _ _ _) ?c2 ?c3 ?c4 ?c5 ?_)
  case c2 => first | rfl | (intro u hu; simp at hu; subst hu; rfl)
  case c3 => unfold maxLen; omega
  case c4 => omega
  case c5 => first | omega | (simp; omega)
  intro v' w10 ho10 hgrow _
  have HG2 := Shut.mk (HG.out.snoc ho10 hgrow)
  obtain ⟨P, hP⟩ : ∃ P, P = l.filter (fun y => decide (y < x)) ++ [x] := ⟨_, rfl⟩
  have HP := Shut.mk hP
  rw [← hP] at HG2
  clear ho ho10 hgrow HG hP
  go_wp2_with fail
  go_loopw [5, 7] (fun ov iv wr => ∃ (k m : Nat) (vv : Value), vv = ov ∧ iv = .int .i64 k ∧ k ≤ n ∧ m ≤ n + 1 + k ∧ Shut (IRow w wr vv m (P ++ (l.take k).filter fun y => decide (x < y)))) (fun _ iv _ => n - (intOf iv).toNat)
  case atStart => exact ⟨0, m + 1, _, rfl, rfl, Nat.zero_le _, by omega, ⟨by simpa using HG2.out⟩⟩
  case round =>
   clear HG2
   obtain ⟨k, m, ov, rfl, rfl, hk, hmk, HG⟩ := hrel
   obtain ⟨wo, rfl⟩ : ∃ wo, wo = wr := ⟨_, rfl⟩
   by_cases hlt : k < n
   case pos =>
    have hkl : k < l.length := by have := HN.out; omega
    have k0 : (0 : Int) ≤ (k : Int) := by omega
    have k1 : (k : Int) < (n : Int) := by omega
    obtain ⟨b, off, rfl, lb, hc⟩ := HCR.out wo HG.out.2.1 (by simp [ics]; omega)
    have e0 := hc k (.int .i64 l[k]) (by simp [ics, hkl])
    have hst := filI_take (fun y => decide (x < y)) l k hkl
    obtain ⟨y, hy⟩ : ∃ y, y = l[k] := ⟨_, rfl⟩
    rw [← hy] at e0 hst
    have HST := Shut.mk hst
    clear hy hst
    by_cases hxy : x < y
    ·have HS' : Shut (P ++ (l.take (k + 1)).filter (fun y => decide (x < y)) = (P ++ (l.take k).filter (fun y => decide (x < y))) ++ [y]) := ⟨by rw [HST.out, if_pos (by simpa using hxy), ← List.append_assoc]⟩
     have ho := HG.out.2.2
     have hsz : w.heap.size ≤ wo.heap.size := HG.out.2.1.size
     clear hc
     go_wp2_with (at_builtin; refine wpList_append_own _ rfl _ _ 37 rfl w.heap.size 3 t0 (.int .i64 0) 1 8 Tryz.underlying37 ht0 hty0 hty1 hty2 rfl (by decide) _ _ _ rfl (ho.alloc _) ⟨wo.heap.size, 0, none⟩ 1 1 [.int .i64 y] rfl rfl (cell_one_new _ _ _) ?c2 ?c3 ?c4 ?c5 ?_)
     case c2 => first | rfl | (intro u hu; simp at hu; subst hu; rfl)
     case c3 => unfold maxLen; omega
     case c4 => omega
     case c5 => first | omega | (simp; omega)
     intro v' w10 ho10 hgrow _
     have HG2 := Shut.mk (HG.out.snoc ho10 hgrow)
     rw [← HS'.out] at HG2
     clear ho ho10 hgrow
     go_wp2_with fail
     go_roundw
     case rel => exact ⟨k + 1, m + 1, v', rfl, by go_num, by omega, by omega, HG2⟩
     case measure => simp [intOf]; omega
    ·have HS' : Shut ((l.take (k + 1)).filter (fun y => decide (x < y)) = (l.take k).filter (fun y => decide (x < y))) := ⟨by rw [HST.out, if_neg (by simpa using hxy), List.append_nil]⟩
     clear hc
     go_wp2_with fail
     go_roundw
     case rel => exact ⟨k + 1, m, ov, rfl, by go_num, by omega, by omega, ⟨by rw [HS'.out]; exact HG.out⟩⟩
     case measure => simp [intOf]; omega
   case neg =>
    have k1 : ¬ (k : Int) < (n : Int) := by omega
    have hall : l.take k = l := List.take_of_length_le (by have := HN.out; omega)
    rw [hall, HP.out] at HG
    clear hall
    go_wp2_with fail
    go_ret
    exact HG.out.fin
def put9 (y : World) (g : Nat) (r : NR) : World := (((((((((y.setCell ⟨g, 0, none⟩ (.int .i64 r.nd.id)).setCell ⟨g, 1, none⟩ (.int .i64 r.nd.parent)).setCell ⟨g, 2, none⟩ (.string r.nd.name)).setCell ⟨g, 3, none⟩ (.bool r.nd.dir)).setCell ⟨g, 4, none⟩ (.int .i64 r.nd.schema)).setCell ⟨g, 5, none⟩ (.int .i64 r.nd.quota)).setCell ⟨g, 6, none⟩ (.int .i64 r.nd.len)).setCell ⟨g, 7, none⟩ (.slice r.loc r.nd.pieces.length r.cap)).setCell ⟨g, 8, none⟩ (.int .i64 r.nd.writer))
theorem put9_cells {y : World} {g : Nat} {L : List Value} (h : WCells y g L) (hl : L.length = 9) (r : NR) : WCells (put9 y g r) g (ncells r) := by
 have h9 := ((((((((h.set 0 (.int .i64 r.nd.id) (by omega)).set 1 (.int .i64 r.nd.parent) (by simp; omega)).set 2 (.string r.nd.name) (by simp; omega)).set 3 (.bool r.nd.dir) (by simp; omega)).set 4 (.int .i64 r.nd.schema) (by simp; omega)).set 5 (.int .i64 r.nd.quota) (by simp; omega)).set 6 (.int .i64 r.nd.len) (by simp; omega)).set 7 (.slice r.loc r.nd.pieces.length r.cap) (by simp; omega)).set 8 (.int .i64 r.nd.writer) (by simp; omega)
 match L, hl with
 | [a0, a1, a2, a3, a4, a5, a6, a7, a8], _ => exact h9
theorem put9_grown (y : World) (g : Nat) (r : NR) : y.grownBy (put9 y g r) (some g) := by
 have st := fun (w : World) i v => gb_set' w g i v
 exact gb_two' (gb_two' (gb_two' (gb_two' (gb_two' (gb_two' (gb_two' (gb_two' (st _ 0 _) (st _ 1 _)) (st _ 2 _)) (st _ 3 _)) (st _ 4 _)) (st _ 5 _)) (st _ 6 _)) (st _ 7 _)) (st _ 8 _)
theorem IAns.wide {w : World} {v : Value} {xs : List Int} {lo hi hi' : Nat} (h : IAns w v xs lo hi) (hh : hi ≤ hi') : IAns w v xs lo hi' := by
 obtain ⟨a, c, e, q, r⟩ := h
 exact ⟨a, c, e, q, r.imp (fun e => e) (fun ⟨g, e1, e2, e3, e4⟩ => ⟨g, e1, e2, Nat.lt_of_lt_of_le e3 hh, e4⟩)⟩
theorem at_plc {T : TM} {i : Int} {k : Nat} (h : atI T.nodes i = (k : Int)) : plc T i = k := by unfold plc; rw [h]; rfl
set_option maxHeartbeats 4000000 in
theorem specGroupsOf {w : World} {v : Value} {T : TM} {lo hi : Nat} (id : Int) (h : TSee w v T lo hi) (hf : NFit T) : Calls Tryz.prog 25 #[v, .int .i64 id] w fun e w' => IPost (grpX T id) w e w' := by
 have hl : T.nodes.length ≤ 1048576 := by unfold NFit at hf; omega
 have h' := h
 obtain ⟨a, cap, rs, rfl, hr, hm⟩ := h
 obtain ⟨n, hn⟩ : ∃ n, n = rs.length := ⟨_, rfl⟩
 obtain ⟨nx, hnx⟩ : ∃ nx, nx = T.next := ⟨_, rfl⟩
 rw [← hn, ← hnx] at h' ⊢
 have HAT := Shut.mk (fun W (hW : Below w.heap.size w W) (c : Int) => specAt c (h'.below hW) hl)
 have HBO := Shut.mk (fun W (hW : Below w.heap.size w W) => specBelowOf id (h'.below hW) hf)
 have HBA := Shut.mk (fun i (hi : i ∈ belowX T id) => belowX_at hi)
 have HBT := Shut.mk (fun i (hi : i ∈ belowX T id) => (belowX_mem hi).1)
 have HGX := Shut.mk (show grpX T id = grpL T [] (belowX T id) from rfl)
 have hbl := belowX_len T id
 obtain ⟨R, hR⟩ : ∃ R, R = grpX T id := ⟨_, rfl⟩
 rw [← hR] at HGX ⊢
 have hRl : R.length ≤ 560 := by rw [hR]; exact grpX_len T id
 obtain ⟨B, hB⟩ : ∃ B, B = belowX T id := ⟨_, rfl⟩
 rw [← hB] at HBO HBA HBT HGX hbl
 unfold IPost at HBO
 have HLEN : Shut (n = T.nodes.length) := ⟨by rw [hn, ← hr, nds_len]⟩
 have HNODE : Shut (∀ j (hj : j < rs.length), ndAt T j = rs[j].nd) := ⟨fun j hj => by
  have hj2 : j < T.nodes.length := by rw [← hr, nds_len]; exact hj
  rw [nd_mem hj2]
  have : (nds rs)[j]'(by rw [nds_len]; exact hj) = rs[j].nd := by simp [nds]
  rw [← this]
  congr 1
  exact hr.symm⟩
 have HTR := Shut.mk hm
 have HN := Shut.mk hn
 clear hm hr hn hnx h' hR hB hl hf
 go_enter Tryz.func25, Tryz.ntmps25
 go_upto_region 1 with fail
 obtain ⟨tb, htb⟩ : ∃ tb, tb = w.heap.size := ⟨_, rfl⟩
 refine wp_shade (fun W => MB w W [(tb, [.slice a n cap, .int .i64 nx])]) (by rw [htb]; exact (MB.nil w).new #[.slice a n cap, .int .i64 nx] 26) ?_
 intro W1 hW1
 have HM := Shut.mk hW1
 rw [← htb]
 have x0 := ((HM.out.at 0 rfl).1.2 0 _ rfl).1
 have x1 := ((HM.out.at 0 rfl).1.2 1 _ rfl).1
 clear hW1 htb
 go_upto_region 3 with (go_at_call 21; refine (HBO.out _ HM.out.bel).mono ?_; rintro e w2 ⟨bv, rfl, hba, hb2⟩; replace HM := Shut.mk (HM.out.below hb2); have HBV := Shut.mk hba; clear hb2 hba x0 x1)
 obtain ⟨ba9, bc, rfl, hcr⟩ := HBV.out.crow
 have HCR : Shut (∀ W, Below w2.heap.size w2 W → CRow W ba9 (ics B)) := ⟨fun W hb => hcr.stays hb⟩
 obtain ⟨bm, hbm⟩ : ∃ bm, bm = B.length := ⟨_, rfl⟩
 have HBM := Shut.mk hbm
 rw [← hbm] at hbl ⊢
 have HMW : Shut (Below w.heap.size w w2) := ⟨HM.out.bel⟩
 refine wp_shade (fun W => MB w W [(tb, [.slice a n cap, .int .i64 nx])] ∧ IPost [] w2 (.returned (.slice (some ⟨w2.heap.size, 0, none⟩) 0 0)) W) ⟨HM.out.below ((Below.refl _ _).alloc (Nat.le_refl _) _), ⟨_, rfl, own_ians (n := 0) rfl (by simpa [ics] using World.ownsRow_made w2 #[] 0 (Nat.le_refl _) (by decide) rfl), (Below.refl _ _).alloc (Nat.le_refl _) _⟩⟩ ?_
 rintro W3 ⟨hM3, hI3⟩
 replace HM := Shut.mk hM3
 have HI3 := Shut.mk hI3
 clear hM3 hI3 hcr HBV hbm
 go_wp2_with fail
 go_loopw [6, 7] (fun ov iv wr => ∃ (k m : Nat) (a' : Option Addr) (c' : Nat) (L : List Int), ov = .slice a' m c' ∧ iv = .int .i64 k ∧ k ≤ bm ∧ m ≤ 40 * k ∧ Shut (m = L.length ∧ L = grpL T [] (B.take k) ∧ IAns wr (.slice a' m c') L w2.heap.size wr.heap.size) ∧ Shut (Below w2.heap.size w2 wr) ∧ Shut (MB w wr [(tb, [.slice a n cap, .int .i64 nx])])) (fun _ iv _ => bm - (intOf iv).toNat)
 case atStart =>
  obtain ⟨v3, e3, h3, hb3⟩ := HI3.out
  cases e3
  exact ⟨0, 0, _, 0, [], rfl, rfl, Nat.zero_le _, Nat.zero_le _, ⟨rfl, by rw [List.take_zero]; rfl, h3⟩, ⟨hb3⟩, HM⟩
 case round =>
  clear HM HI3
  obtain ⟨k, m, oa, oc, L, rfl, rfl, hk, hm560, HL, HW, HM⟩ := hrel
  obtain ⟨wo, rfl⟩ : ∃ wo, wo = wr := ⟨_, rfl⟩
  have x0 := ((HM.out.at 0 rfl).1.2 0 _ rfl).1
  have x1 := ((HM.out.at 0 rfl).1.2 1 _ rfl).1
  by_cases hlt : k < bm
  case neg =>
   have k1 : ¬ (k : Int) < (bm : Int) := by omega
   have hall : B.take k = B := List.take_of_length_le (by have := HBM.out; omega)
   have HLR : Shut (L = R) := ⟨by rw [HL.out.2.1, hall, HGX.out]⟩
   clear hall
   go_wp2_with fail
   go_ret
   refine ⟨_, rfl, ?_, HM.out.bel⟩
   have h9 := HL.out.2.2
   rw [HLR.out] at h9
   obtain ⟨a9, c9, e9, q1, q2⟩ := h9
   exact ⟨a9, c9, e9, q1, q2.imp (fun e => e) (fun ⟨g, e1, e2, e3, e4⟩ => ⟨g, e1, Nat.le_trans HMW.out.size e2, e3, e4⟩)⟩
  case pos =>
  have hkB : k < B.length := by have := HBM.out; omega
  have k0 : (0 : Int) ≤ (k : Int) := by omega
  have k1 : (k : Int) < (bm : Int) := by omega
  have hmem : B[k] ∈ B := List.getElem_mem hkB
  obtain ⟨q, hq, hat, -⟩ := HBA.out _ hmem
  have hok := HBT.out _ hmem
  have hqr : q < rs.length := by have := HLEN.out; have := HN.out; omega
  have hpc := (node_parts hok q hq).2.1
  have hst := grpL_take T [] B k hkB
  rw [at_plc hat, ← HL.out.2.1, HNODE.out q hqr] at hst
  rw [← nd_mem hq, HNODE.out q hqr] at hpc
  have HA2 := Shut.mk (fun W hW => HAT.out W hW B[k])
  rw [hat] at HA2
  obtain ⟨bx, boff, rfl, lbx, hbc⟩ := HCR.out wo HW.out (by simp [ics]; omega)
  have hnpos : 0 < rs.length := by omega
  obtain ⟨b, off, rfl, lb, hnat⟩ := HTR.out.nat hnpos
  obtain ⟨r, hrq⟩ : ∃ r, r = rs[q] := ⟨_, rfl⟩
  have HNQ : Shut (∀ W, Below w.heap.size w W → NAt W b (off + q * 9) r) := ⟨fun W hW => by rw [hrq]; exact (hnat q hqr).below hW lb⟩
  rw [← hrq] at hst hpc
  obtain ⟨i, hi⟩ : ∃ i, i = B[k] := ⟨_, rfl⟩
  rw [← hi] at HA2
  have HBI : Shut (∀ W, Below wo.heap.size wo W → W.cell? ⟨bx, boff + k, none⟩ = some (.int .i64 i)) := ⟨fun W hW => by
   rw [hW.cell (p := ⟨bx, boff + k, none⟩) lbx, hi]
   exact hbc k (.int .i64 B[k]) (by simp [ics, hkB])⟩
  have q0 : (0 : Int) ≤ (q : Int) := by omega
  have q1 : (q : Int) < (n : Int) := by have := HN.out; omega
  have HST := Shut.mk hst
  have HRQ := Shut.mk hrq
  clear hmem hat hst hrq hi hnat hbc hok x0 x1
  go_upto_region 6 with fail
  have HLE : Shut (∀ x, Later wo.drew x → x.cell? ⟨tb, 0, none⟩ = some (.slice (some ⟨b, off, none⟩) n cap) ∧ x.cell? ⟨tb, 1, none⟩ = some (.int .i64 nx) ∧ x.cell? ⟨bx, boff + k, none⟩ = some (.int .i64 i) ∧ NAt x b (off + q * 9) r) := ⟨fun x hx => by
   have hb : Below wo.heap.size wo x := Below.trans (Below.drew (Below.refl _ _)) hx
   have M := HM.out.below hb
   exact ⟨((M.at 0 rfl).1.2 0 _ rfl).1, ((M.at 0 rfl).1.2 1 _ rfl).1, HBI.out x hb, HNQ.out x M.bel⟩⟩
  have HBX : Shut (∀ x, Later wo.drew x → Below w.heap.size w x) := ⟨fun x hx => (HM.out.below (Below.trans (Below.drew (Below.refl _ _)) hx)).bel⟩
  refine wp_region_tail 11 (by kernel_rfl) ?_
  refine wpK_val (i := 0) (v := ?va0) rfl (by kernel_rfl) (by kernel_rfl) (by kernel_rfl) (by kernel_rfl) (fun _ _ _ h => h) (by rfl) ?hya0 ?resta0
  case hya0 => (intro x hx; obtain ⟨d0, d1, d2, e0, e1, e2, e3, e4, e5, e6, e7, e8⟩ := HLE.out x hx; go_simp; try with_reducible rfl)
  try simp only [Act.put, qA, qB, qC]
  refine wpK_val (i := 1) (v := ?va1) rfl (by kernel_rfl) (by kernel_rfl) (by kernel_rfl) (by kernel_rfl) (fun _ _ _ h => h) (by rfl) ?hya1 ?resta1
  case hya1 => (intro x hx; obtain ⟨d0, d1, d2, e0, e1, e2, e3, e4, e5, e6, e7, e8⟩ := HLE.out x hx; go_simp; try with_reducible rfl)
  try simp only [Act.put, qA, qB, qC]
  refine wpK_val (i := 2) (v := ?va2) rfl (by kernel_rfl) (by kernel_rfl) (by kernel_rfl) (by kernel_rfl) (fun _ _ _ h => h) (by rfl) ?hya2 ?resta2
  case hya2 => (intro x hx; obtain ⟨d0, d1, d2, e0, e1, e2, e3, e4, e5, e6, e7, e8⟩ := HLE.out x hx; go_simp; try with_reducible rfl)
  try simp only [Act.put, qA, qB, qC]
  refine wpK_val (i := 3) (v := ?va3) rfl (by kernel_rfl) (by kernel_rfl) (by kernel_rfl) (by kernel_rfl) (fun _ _ _ h => h) (by rfl) ?hya3 ?resta3
  case hya3 => (intro x hx; obtain ⟨d0, d1, d2, e0, e1, e2, e3, e4, e5, e6, e7, e8⟩ := HLE.out x hx; go_simp; try with_reducible rfl)
  try simp only [Act.put, qA, qB, qC]
  refine wpK_val (i := 4) (v := ?va4) rfl (by kernel_rfl) (by kernel_rfl) (by kernel_rfl) (by kernel_rfl) (fun _ _ _ h => h) (by rfl) ?hya4 ?resta4
  case hya4 => (intro x hx; obtain ⟨d0, d1, d2, e0, e1, e2, e3, e4, e5, e6, e7, e8⟩ := HLE.out x hx; go_simp; try with_reducible rfl)
  try simp only [Act.put, qA, qB, qC]
  refine wpK_val (i := 5) (v := ?va5) rfl (by kernel_rfl) (by kernel_rfl) (by kernel_rfl) (by kernel_rfl) (fun _ _ _ h => h) (by rfl) ?hya5 ?resta5
  case hya5 => (intro x hx; obtain ⟨d0, d1, d2, e0, e1, e2, e3, e4, e5, e6, e7, e8⟩ := HLE.out x hx; go_simp; try with_reducible rfl)
  try simp only [Act.put, qA, qB, qC]
  refine wpK_val (i := 6) (v := ?va6) rfl (by kernel_rfl) (by kernel_rfl) (by kernel_rfl) (by kernel_rfl) (fun _ _ _ h => h) (by rfl) ?hya6 ?resta6
  case hya6 => (intro x hx; obtain ⟨d0, d1, d2, e0, e1, e2, e3, e4, e5, e6, e7, e8⟩ := HLE.out x hx; go_simp; try with_reducible rfl)
  try simp only [Act.put, qA, qB, qC]
  refine wpK_call (i := 7) (v := .int .i64 (q : Nat)) (f := 67) (args := #[.agg #[.slice (some ⟨b, off, none⟩) n cap, .int .i64 nx], .int .i64 i]) rfl (by kernel_rfl) (by kernel_rfl) (by kernel_rfl) (by kernel_rfl) (fun _ _ _ h => h) (by rfl) ?hya7 (fun x hx => HA2.out x (HBX.out x hx)) ?resta7
  case hya7 => (intro x hx; obtain ⟨d0, d1, d2, e0, e1, e2, e3, e4, e5, e6, e7, e8⟩ := HLE.out x hx; go_simp; try with_reducible rfl)
  try simp only [Act.put, qA, qB, qC]
  refine wpK_val (i := 8) (v := ?va8) rfl (by kernel_rfl) (by kernel_rfl) (by kernel_rfl) (by kernel_rfl) (fun _ _ _ h => h) (by rfl) ?hya8 ?resta8
  case hya8 => (intro x hx; obtain ⟨d0, d1, d2, e0, e1, e2, e3, e4, e5, e6, e7, e8⟩ := HLE.out x hx; go_simp; try with_reducible rfl)
  try simp only [Act.put, qA, qB, qC]
  refine wpK_val (i := 9) (v := ?va9) rfl (by kernel_rfl) (by kernel_rfl) (by kernel_rfl) (by kernel_rfl) (fun _ _ _ h => h) (by rfl) ?hya9 ?resta9
  case hya9 => (intro x hx; obtain ⟨d0, d1, d2, e0, e1, e2, e3, e4, e5, e6, e7, e8⟩ := HLE.out x hx; go_simp; try with_reducible rfl)
  try simp only [Act.put, qA, qB, qC]
  refine wpK_one (i := 10) (by kernel_rfl) rfl (by rfl) (fun x hx => ⟨.pointer (some ⟨x.heap.size, 0, none⟩), x.alloc (.cells #[.int .i64 0, .int .i64 0, .string ⟨#[]⟩, .bool false, .int .i64 0, .int .i64 0, .int .i64 0, .slice none 0 0, .int .i64 0] 47), ?hal, (Below.refl _ _).alloc (Nat.le_refl _) _, ?_⟩)
  case hal => kernel_rfl
  try simp only [Act.put, qA, qB, qC]
  refine wpK_tail (by kernel_rfl) ?_
  intro y hy
  have hwz := (wcells_new x #[.int .i64 0, .int .i64 0, .string ⟨#[]⟩, .bool false, .int .i64 0, .int .i64 0, .int .i64 0, .slice none 0 0, .int .i64 0] 47).grow hy
  refine wpA_store (y := put9 y x.heap.size r) (i := 11) (by kernel_rfl) rfl (by rfl) ?hst (by kernel_rfl) ?_
  case hst =>
   obtain ⟨f0, g0⟩ := hwz.2 0 _ rfl
   obtain ⟨f1, g1⟩ := hwz.2 1 _ rfl
   obtain ⟨f2, g2⟩ := hwz.2 2 _ rfl
   obtain ⟨f3, g3⟩ := hwz.2 3 _ rfl
   obtain ⟨f4, g4⟩ := hwz.2 4 _ rfl
   obtain ⟨f5, g5⟩ := hwz.2 5 _ rfl
   obtain ⟨f6, g6⟩ := hwz.2 6 _ rfl
   obtain ⟨f7, g7⟩ := hwz.2 7 _ rfl
   obtain ⟨f8, g8⟩ := hwz.2 8 _ rfl
   go_simp
   try rfl
  have hb9 : Below wo.heap.size wo (put9 y x.heap.size r) := by
   have h1 : Below wo.heap.size wo x := Below.trans (Below.drew (Below.refl _ _)) hx
   have h2 : Below wo.heap.size wo y := h1.trans ((Below.trans ((Below.refl x.heap.size x).alloc (Nat.le_refl _) _) (Below.mono hy (by simp)) : Below x.heap.size x y).mono h1.size)
   exact h2.grown (put9_grown y x.heap.size r) h2.size (fun j e => by cases e; exact h1.size)
  have HX := Shut.mk (put9_cells hwz rfl r)
  obtain ⟨xb, hxb⟩ : ∃ xb, xb = x.heap.size := ⟨_, rfl⟩
  have hxl : wo.heap.size ≤ x.heap.size := (Below.trans (Below.drew (Below.refl _ _)) hx : Below wo.heap.size wo x).size
  generalize put9 y x.heap.size r = W5 at hb9 HX ⊢
  rw [← hxb] at HX hxl ⊢
  replace HM := Shut.mk (HM.out.below hb9)
  have HWV := Shut.mk (HW.out.trans (hb9.mono HW.out.size))
  have HLV : Shut (m = L.length ∧ L = grpL T [] (B.take k) ∧ IAns W5 (.slice oa m oc) L w2.heap.size wo.heap.size) := ⟨HL.out.1, HL.out.2.1, HL.out.2.2.below hb9⟩
  have hwo : wo.heap.size ≤ W5.heap.size := hb9.size
  clear hx hy hwz hb9 hxb HLE HBX HW HL HBI
  simp only [Act.put]
  have HPR : Shut (RRow w r.loc (pcs r.nd.pieces) lo hi) := ⟨by rw [HRQ.out]; exact HTR.out.2 _ (List.getElem_mem hqr)⟩
  obtain ⟨pl, hpl⟩ : ∃ pl, pl = r.nd.pieces.length := ⟨_, rfl⟩
  have HPL := Shut.mk hpl
  have hpl40 : pl ≤ 40 := by omega
  unfold ncells at HX
  rw [← hpl] at HX ⊢
  clear hpl hpc
  go_wp2_with fail
  go_loopw [6, 9] (fun ov iv wr => ∃ (j m' : Nat) (a' : Option Addr) (c' : Nat) (L' : List Int), ov = .slice a' m' c' ∧ iv = .int .i64 j ∧ j ≤ pl ∧ m' ≤ 40 * k + j ∧ Shut (m' = L'.length ∧ L' = grpP L (r.nd.pieces.take j) ∧ IAns wr (.slice a' m' c') L' w2.heap.size wr.heap.size) ∧ Shut (Below W5.heap.size W5 wr)) (fun _ iv _ => pl - (intOf iv).toNat)
  case atStart => exact ⟨0, m, oa, oc, L, rfl, rfl, Nat.zero_le _, by omega, ⟨HLV.out.1, by rw [List.take_zero]; rfl, HLV.out.2.2.wide hwo⟩, ⟨Below.refl _ _⟩⟩
  case round =>
   obtain ⟨j, m', a', c', L', rfl, rfl, hj, hm', HL', HW'⟩ := hrel
   obtain ⟨wi, rfl⟩ : ∃ wi, wi = wr := ⟨_, rfl⟩
   have y7 := ((HX.out.grow HW'.out).2 7 _ rfl).1
   have hB5 : Shut (Below w.heap.size w wi) := ⟨HM.out.bel.trans (HW'.out.mono HM.out.bel.size)⟩
   by_cases hjl : j < pl
   case pos =>
    have hjp : j < r.nd.pieces.length := by have := HPL.out; omega
    have j0 : (0 : Int) ≤ (j : Int) := by omega
    have j1 : (j : Int) < (pl : Int) := by omega
    obtain ⟨pb, poff, hloc, lpb, hpc⟩ := pcs_at (HPR.out.below hB5.out) (by omega)
    have z0 := (hpc j hjp).1
    have hst := grpP_take L r.nd.pieces j hjp
    rw [← HL'.out.2.1] at hst
    obtain ⟨g, hg⟩ : ∃ g, g = r.nd.pieces[j].group := ⟨_, rfl⟩
    rw [← hg] at z0 hst
    obtain ⟨aa, cc, e9, hcr⟩ := HL'.out.2.2.crow
    have HIN := Shut.mk (specInsert cc g hcr (by have := HL'.out.1; omega))
    rw [← HL'.out.1] at HIN e9
    simp only [Value.slice.injEq, true_and] at e9
    obtain ⟨rfl, rfl⟩ := e9
    unfold IPost at HIN
    have HST := Shut.mk hst
    have hil := insG_len L' g
    rw [← HL'.out.1] at hil
    rw [hloc] at y7
    clear hpc hg hst hcr hloc
    go_wp2_with (go_at_call 81; refine HIN.out.mono ?_; rintro e w7 ⟨v7, rfl, h7, hb7⟩; obtain ⟨a7, c7, rfl, hc7, hr7⟩ := h7; have HI7 : Shut (IAns w7 (.slice a7 (insG L' g).length c7) (insG L' g) wi.heap.size w7.heap.size) := ⟨a7, c7, rfl, hc7, hr7⟩; have HB7 := Shut.mk hb7; clear hb7 hr7 hc7)
    obtain ⟨m7, hm7⟩ : ∃ m7, m7 = (insG L' g).length := ⟨_, rfl⟩
    rw [← hm7] at HI7 hil ⊢
    have HM7 := Shut.mk hm7
    clear hm7
    go_wp2_with fail
    go_roundw
    case rel =>
     refine ⟨j + 1, m7, a7, c7, insG L' g, rfl, by go_num, by omega, by omega, ⟨HM7.out, HST.out.symm, ?_⟩, ⟨HW'.out.trans (HB7.out.mono HW'.out.size)⟩⟩
     obtain ⟨q1, q2, q3, q4, q5⟩ := HI7.out
     exact ⟨q1, q2, q3, q4, q5.imp (fun e => e) (fun ⟨gg, e1, e2, e3, e4⟩ => ⟨gg, e1, Nat.le_trans (Nat.le_trans HWV.out.size HW'.out.size) e2, e3, e4⟩)⟩
    case measure => simp [intOf]; omega
   case neg =>
    have j1 : ¬ (j : Int) < (pl : Int) := by omega
    have hall : r.nd.pieces.take j = r.nd.pieces := List.take_of_length_le (by have := HPL.out; omega)
    have HL9 : Shut (L' = grpL T [] (B.take (k + 1))) := ⟨by rw [HST.out, HL'.out.2.1, hall]⟩
    clear hall
    go_wp2_with fail
    go_roundw
    case rel => exact ⟨k + 1, m', a', c', L', rfl, by go_num, by omega, by omega, ⟨HL'.out.1, HL9.out, HL'.out.2.2⟩, ⟨HWV.out.trans (HW'.out.mono HWV.out.size)⟩, ⟨HM.out.below HW'.out⟩⟩
    case measure => simp [intOf]; omega
end Go.Proofs.YtakhagkhngmpaaaGreat
/- GrpI: . -/
namespace Go.Proofs.YtakhagkhngmpaaaGreat
set_option maxRecDepth 100000
open Go.RowKit Go.Maps Go.Sort BigFrame
attribute [local go_sem ↓] Go.wp_at_zero Go.wp_at_succ
theorem sortI_any {w : World} {B : Nat} {v : Value} {zs : List Int} (h : w.ownsRow B 3 1 v zs.length (ics zs)) (hl : zs.length ≤ 1048576) :
  Calls Tryz.prog 79 #[v] w fun e w' => e = .returned (.tuple #[]) ∧ w'.ownsRow B 3 1 v zs.length (ics (zs.mergeSort fun x y => decide (x ≤ y))) ∧ Below B w w' := by
 rcases h.2 with ⟨rfl, h0⟩ | ⟨g, cap, cur, rfl, hbase, hb, h1, h2, h3, h4⟩
 ·have hL : zs = [] := List.eq_nil_of_length_eq_zero h0
  subst hL
  refine (Tryz.slices_Sort_int_none none 0 w).mono ?_
  rintro e w' ⟨rfl, rfl⟩
  exact ⟨rfl, by simpa using h, Below.refl _ _⟩
 ·have hH : Holds (Value.int .i64) w g 0 zs.toArray := holds_of_blockI hb (by simpa [ics] using h4)
  have hgl : g < w.heap.size := (Array.getElem?_eq_some_iff.1 hb).1
  refine (Tryz.slices_Sort_int g 0 cap zs w hH hgl (by omega)).mono ?_
  rintro e w' ⟨rfl, q, os, rfl⟩
  have hrow := ownsRow_sortedI (n := q) (os := os) (ts := zs.mergeSort fun x y => decide (x ≤ y)) (by simp) hbase hb h1 h2 h3
  have hgb := grownBy_sortedI (w := w) (g := g) (n := q) (os := os) (zs.mergeSort fun x y => decide (x ≤ y)).toArray
  exact ⟨rfl, hrow, (Below.refl _ _).grown hgb (by omega) (fun j hj => by cases hj; exact hbase)⟩
theorem compact_len (zs : List Int) : (Lib.compact zs).length ≤ zs.length := by
 unfold Lib.compact Lib.compactUpTo
 rw [List.length_map]
 exact Nat.le_trans (List.length_filter_le _ _) (by simp)
theorem compactI_any {w : World} {B : Nat} {v : Value} {zs : List Int} (h : w.ownsRow B 3 1 v zs.length (ics zs)) (hl : zs.length ≤ 1048576) :
  Calls Tryz.prog 80 #[v] w fun e w' => ∃ v', e = .returned v' ∧ IAns w' v' (Lib.compact zs) B w'.heap.size ∧ Below B w w' := by
 rcases h.2 with ⟨rfl, h0⟩ | ⟨g, cap, cur, rfl, hbase, hb, h1, h2, h3, h4⟩
 ·have hL : zs = [] := List.eq_nil_of_length_eq_zero h0
  subst hL
  refine (Tryz.slices_Compact_int_empty none 0 w).mono ?_
  rintro e w' ⟨rfl, rfl⟩
  exact ⟨_, rfl, IAns.empty _ _ _ _ _, Below.refl _ _⟩
 ·have hH : Holds (Value.int .i64) w g 0 zs.toArray := holds_of_blockI hb (by simpa [ics] using h4)
  have hgl : g < w.heap.size := (Array.getElem?_eq_some_iff.1 hb).1
  refine (Tryz.slices_Compact_int g 0 cap zs w hH (by omega) h1).mono ?_
  rintro e w' ⟨rfl, q, rfl⟩
  obtain ⟨ts, hts⟩ : ∃ ts, ts = Lib.compact zs ++ List.replicate (zs.length - (Lib.compact zs).length) (0 : Int) := ⟨_, rfl⟩
  have hcl := compact_len zs
  have htl : ts.length = zs.length := by rw [hts, List.length_append, List.length_replicate]; omega
  rw [← hts]
  have hrow := ownsRow_sortedI (n := q) (os := #[]) (ts := ts) htl hbase hb h1 h2 h3
  have hgb := grownBy_sortedI (w := w) (g := g) (n := q) (os := #[]) ts.toArray
  rw [grow_empty] at hrow hgb
  have hwc : WCells _ g (ics ts) := own_wcells hrow
  refine ⟨_, rfl, ⟨some ⟨g, 0, none⟩, cap, rfl, by omega, .inr ⟨g, rfl, hbase, hwc.1, hwc.1, fun i u hu => hwc.2 i u ?_⟩⟩, (Below.refl _ _).grown hgb (by omega) (fun j hj => by cases hj; exact hbase)⟩
  rw [hts]
  have hi : i < (ics (Lib.compact zs)).length := (List.getElem?_eq_some_iff.1 hu).1
  have e : ics (Lib.compact zs ++ List.replicate (zs.length - (Lib.compact zs).length) 0) = ics (Lib.compact zs) ++ ics (List.replicate (zs.length - (Lib.compact zs).length) 0) := by simp [ics]
  rw [e, List.getElem?_append_left hi]
  exact hu
theorem allG_take (ns : List NM) (X : List Int) (k : Nat) (h : k < ns.length) : allG (ns.take (k + 1)) X = allG (ns.take k) X ++ if X.contains ns[k].id = true then ns[k].pieces.map PM.group else [] := by
 unfold allG
 rw [List.take_succ_eq_append_getElem h, List.filter_append, List.flatMap_append]
 congr 1
 by_cases q : X.contains ns[k].id = true
 ·rw [List.filter_cons, if_pos q, if_pos q]; simp
 ·rw [List.filter_cons, if_neg q, if_neg q]; simp
theorem pm_take (ps : List PM) (k : Nat) (h : k < ps.length) : (ps.take (k + 1)).map PM.group = (ps.take k).map PM.group ++ [ps[k].group] := by
 rw [List.take_succ_eq_append_getElem h, List.map_append]
 rfl
theorem tree_plc {T : TM} (h : treeOk T = true) : ∀ n ∈ T.nodes, ndAt T (plc T n.id) = n := fun n hn => by
 have := tree_tall h
 obtain ⟨i, hi, rfl⟩ := List.getElem_of_mem hn
 have hf := this.1.fid hi
 have : atI T.nodes T.nodes[i].id = (i : Int) := by rw [at_fid, hf]
 rw [at_plc this, nd_mem hi]
theorem grp_end {T : TM} (id : Int) : Lib.compact ((allG T.nodes (belowX T id)).mergeSort fun x y => decide (x ≤ y)) = grpX T id := by
 by_cases h : treeOk T = true
 ·exact grp_prog (tree_plc h) id
 ·have e : belowX T id = [] := by unfold belowX; rw [if_neg (fun q => h q.1)]
  have e2 : allG T.nodes [] = [] := by unfold allG; rw [List.filter_eq_nil_iff.2 (by simp)]; rfl
  unfold grpX
  rw [e, e2]
  simp [grpL, Lib.compact, Lib.compactUpTo]
theorem allG_len {T : TM} (id : Int) : ∀ k, (allG (T.nodes.take k) (belowX T id)).length ≤ 40 * k := by
 intro k
 induction k with
 | zero => simp [allG]
 | succ k ih =>
  by_cases hk : k < T.nodes.length
  ·rw [allG_take _ _ _ hk, List.length_append]
   split
   ·rename_i q
    have hm : T.nodes[k].id ∈ belowX T id := by simpa using q
    have := (node_parts (belowX_mem hm).1 k hk).2.1
    rw [List.length_map]
    omega
   ·simp; omega
  ·rw [List.take_of_length_le (by omega)] at ih ⊢
   omega
attribute [local irreducible] treeOk belowX allG grpX
set_option maxHeartbeats 4000000 in
theorem implGroupsOf (w : World) (v : Value) (T : TM) (lo hi : Nat) (id : Int) (h : TSee w v T lo hi) (hf : NFit T) (hI : NInt T.nodes) : Calls Tryz.prog 24 #[v, .int .i64 id] w fun e w' => IPost (grpX T id) w e w' := by
 obtain ⟨t0, ht0, hty0, hty1, hty2⟩ := info_parts infoIntG
 have h' := h
 obtain ⟨a, cap, rs, rfl, hr, hm⟩ := h
 obtain ⟨n, hn⟩ : ∃ n, n = rs.length := ⟨_, rfl⟩
 obtain ⟨nx, hnx⟩ : ∃ nx, nx = T.next := ⟨_, rfl⟩
 rw [← hn, ← hnx] at h' ⊢
 have HBO := Shut.mk (fun W (hW : Below w.heap.size w W) => implBelowOf W _ T lo hi id (h'.below hW) hf hI)
 have HGE := Shut.mk (grp_end (T := T) id)
 have HGL := Shut.mk (allG_len (T := T) id)
 have hbl := belowX_len T id
 have hnl : n ≤ 1048576 := by unfold NFit at hf; rw [← hr, nds_len] at hf; omega
 have HPC := Shut.mk (fit_name hf)
 have HP40 : Shut (∀ j (hj : j < T.nodes.length), (belowX T id).contains T.nodes[j].id = true → T.nodes[j].pieces.length ≤ 40 ∧ T.nodes.length ≤ 14) := ⟨fun j hj q => by
  have hm : T.nodes[j].id ∈ belowX T id := by simpa using q
  exact ⟨(node_parts (belowX_mem hm).1 j hj).2.1, (tree_len (belowX_mem hm).1).2.1⟩⟩
 obtain ⟨R, hR⟩ : ∃ R, R = grpX T id := ⟨_, rfl⟩
 rw [← hR] at HGE ⊢
 obtain ⟨B, hB⟩ : ∃ B, B = belowX T id := ⟨_, rfl⟩
 rw [← hB] at HBO HGE HGL HP40 hbl
 unfold IPost at HBO
 have HLEN : Shut (n = T.nodes.length) := ⟨by rw [hn, ← hr, nds_len]⟩
 have HNODE : Shut (∀ j (hj : j < rs.length) (h2 : j < T.nodes.length), T.nodes[j] = rs[j].nd) := ⟨fun j hj hj2 => by
  have : (nds rs)[j]'(by rw [nds_len]; exact hj) = rs[j].nd := by simp [nds]
  rw [← this]
  congr 1
  exact hr.symm⟩
 have HTR := Shut.mk hm
 have HN := Shut.mk hn
 clear hm hr hn hnx h' hR hB hf hI
 go_enter Tryz.func24, Tryz.ntmps24
 go_upto_region 1 with fail
 obtain ⟨tb, htb⟩ : ∃ tb, tb = w.heap.size := ⟨_, rfl⟩
 refine wp_shade (fun W => MB w W [(tb, [.slice a n cap, .int .i64 nx])]) (by rw [htb]; exact (MB.nil w).new #[.slice a n cap, .int .i64 nx] 26) ?_
 intro W1 hW1
 have HM := Shut.mk hW1
 rw [← htb]
 have x0 := ((HM.out.at 0 rfl).1.2 0 _ rfl).1
 have x1 := ((HM.out.at 0 rfl).1.2 1 _ rfl).1
 clear hW1 htb
 go_upto_region 2 with (go_at_call 37; refine (HBO.out _ HM.out.bel).mono ?_; rintro e w2 ⟨bv, rfl, hba, hb2⟩; replace HM := Shut.mk (HM.out.below hb2); have HBV := Shut.mk hba; clear hb2 hba x0 x1)
 obtain ⟨ba9, bc, rfl, hcr⟩ := HBV.out.crow
 have HCR : Shut (∀ W, Below w2.heap.size w2 W → CRow W ba9 (ics B)) := ⟨fun W hb => hcr.stays hb⟩
 obtain ⟨bm, hbm⟩ : ∃ bm, bm = B.length := ⟨_, rfl⟩
 have HBM := Shut.mk hbm
 rw [← hbm] at hbl ⊢
 have HMW : Shut (Below w.heap.size w w2) := ⟨HM.out.bel⟩
 have x0 := ((HM.out.at 0 rfl).1.2 0 _ rfl).1
 clear hcr HBV hbm
 go_wp2_with fail
 go_loopw [6, 17] (fun ov iv wr => ∃ (k m : Nat) (vv : Value), vv = ov ∧ iv = .int .i64 k ∧ k ≤ n ∧ m ≤ 600 ∧ Shut (IRow w2 wr vv m (allG (T.nodes.take k) B))) (fun _ iv _ => n - (intOf iv).toNat)
 case atStart => exact ⟨0, 0, _, rfl, rfl, Nat.zero_le _, Nat.zero_le _, ⟨by rw [List.take_zero]; unfold allG; rfl, Below.refl _ _, by rw [List.take_zero]; unfold allG; exact World.ownsRow_nil w2 w2.heap.size 3 1⟩⟩
 case round =>
  clear x0
  obtain ⟨k, m, ov, rfl, rfl, hk, hm, HG⟩ := hrel
  obtain ⟨wo, rfl⟩ : ∃ wo, wo = wr := ⟨_, rfl⟩
  by_cases hlt : k < n
  case neg =>
   have k1 : ¬ (k : Int) < (n : Int) := by omega
   have hall : T.nodes.take k = T.nodes := List.take_of_length_le (by have := HLEN.out; omega)
   rw [hall] at HG
   obtain ⟨Z, hZ⟩ : ∃ Z, Z = allG T.nodes B := ⟨_, rfl⟩
   rw [← hZ] at HG HGE
   have ho := HG.out.2.2
   have hml := HG.out.1
   rw [hml] at ho
   have HSO := Shut.mk (sortI_any ho (by omega))
   have HBG := Shut.mk HG.out.2.1
   have HZL : Shut (Z.length ≤ 600) := ⟨by omega⟩
   clear hall hZ ho hml HG
   go_wp2_with (go_at_call 79; refine HSO.out.mono ?_; rintro e w5 ⟨rfl, ho5, hb5⟩; have HO5 := Shut.mk ho5; have HB5 : Shut (Below w2.heap.size w2 w5) := ⟨HBG.out.trans hb5⟩; clear ho5 hb5)
   have hls : (Z.mergeSort fun x y => decide (x ≤ y)).length = Z.length := by simp
   have HCO := Shut.mk (compactI_any (zs := Z.mergeSort fun x y => decide (x ≤ y)) (by rw [hls]; exact HO5.out) (by have := HZL.out; omega))
   clear hls
   go_wp2_with (go_at_call 80; refine HCO.out.mono ?_; rintro e w6 ⟨v6, rfl, hi6, hb6⟩; have HI6 := Shut.mk hi6; have HB6 : Shut (Below w2.heap.size w2 w6) := ⟨HB5.out.trans hb6⟩; clear hi6 hb6)
   go_ret
   refine ⟨v6, rfl, ?_, HMW.out.trans (HB6.out.mono HMW.out.size)⟩
   have h9 := HI6.out
   rw [HGE.out] at h9
   obtain ⟨a9, c9, e9, q1, q2⟩ := h9
   exact ⟨a9, c9, e9, q1, q2.imp (fun e => e) (fun ⟨g, e1, e2, e3, e4⟩ => ⟨g, e1, Nat.le_trans HMW.out.size e2, e3, e4⟩)⟩
  case pos =>
  have hkr : k < rs.length := by have := HN.out; omega
  have hkT : k < T.nodes.length := by have := HLEN.out; omega
  have k0 : (0 : Int) ≤ (k : Int) := by omega
  have k1 : (k : Int) < (n : Int) := by omega
  obtain ⟨b, off, rfl, lb, hnat⟩ := HTR.out.nat (by omega)
  have hBw : Below w.heap.size w wo := HMW.out.trans (HG.out.2.1.mono HMW.out.size)
  have hnk := (hnat k hkr).below hBw lb
  have hst := allG_take T.nodes B k hkT
  have hp40 := HP40.out k hkT
  have hpsz := (HPC.out T.nodes[k] (List.getElem_mem hkT)).2
  rw [HNODE.out k hkr hkT] at hst hp40 hpsz
  have HPR := Shut.mk (HTR.out.2 _ (List.getElem_mem hkr))
  have hgl := HGL.out k
  rw [← HG.out.1] at hgl
  obtain ⟨r, hrk⟩ : ∃ r, r = rs[k] := ⟨_, rfl⟩
  rw [← hrk] at hnk hst hp40 hpsz HPR
  obtain ⟨c0, c1, c2, c3, c4, c5, c6, c7, c8⟩ := hnk
  have lbo : b < wo.heap.size := Nat.lt_of_lt_of_le lb hBw.size
  have HST := Shut.mk hst
  have HBW := Shut.mk hBw
  have HP4 := Shut.mk hp40
  clear hrk hst hnat hBw hp40
  go_upto_region 6 with fail
  obtain ⟨xb, hxb⟩ : ∃ xb, xb = wo.heap.size := ⟨_, rfl⟩
  refine wp_shade (fun W => Below wo.heap.size wo W ∧ WCells W xb (ncells r)) ⟨(Below.refl _ _).alloc (Nat.le_refl _) _, by rw [hxb]; exact wcells_new wo #[.int .i64 r.nd.id, .int .i64 r.nd.parent, .string r.nd.name, .bool r.nd.dir, .int .i64 r.nd.schema, .int .i64 r.nd.quota, .int .i64 r.nd.len, .slice r.loc r.nd.pieces.length r.cap, .int .i64 r.nd.writer] 47⟩ ?_
  rintro W3 ⟨hb3, hx3⟩
  rw [← hxb]
  have HG3 := Shut.mk (HG.out.below hb3)
  have HX3 := Shut.mk hx3
  have HB3 : Shut (Below w.heap.size w W3) := ⟨HBW.out.trans (hb3.mono HBW.out.size)⟩
  have y0 := (hx3.2 0 _ rfl).1
  have HCO := Shut.mk (implContains bc r.nd.id (HCR.out W3 HG3.out.2.1) (by have := HBM.out; omega))
  rw [← HBM.out] at HCO
  clear hb3 hx3 hxb HG HBW c0 c1 c2 c3 c4 c5 c6 c7 c8
  cases hco : B.contains r.nd.id with
  | false =>
   rw [hco] at HCO HST
   have HS' : Shut (allG (T.nodes.take (k + 1)) B = allG (T.nodes.take k) B) := ⟨by rw [HST.out]; simp⟩
   clear hco
   go_wp2_with (go_at_call 78; refine HCO.out.mono ?_; rintro e w4 ⟨rfl, hw4⟩; obtain rfl : W3 = w4 := hw4.symm; clear hw4)
   go_roundw
   case rel => exact ⟨k + 1, m, ov, rfl, by go_num, by omega, by omega, ⟨by rw [HS'.out]; exact HG3.out⟩⟩
   case measure => simp [intOf]; omega
  | true =>
   rw [hco] at HCO HST
   obtain ⟨hpl40, hn14⟩ := HP4.out hco
   have hn14' : n ≤ 14 := by have := HLEN.out; omega
   have y7 := (HX3.out.2 7 _ rfl).1
   obtain ⟨pl, hpl⟩ : ∃ pl, pl = r.nd.pieces.length := ⟨_, rfl⟩
   have HPL := Shut.mk hpl
   rw [← hpl] at y7 hpl40
   clear hco hpl
   go_wp2_with (go_at_call 78; refine HCO.out.mono ?_; rintro e w4 ⟨rfl, hw4⟩; obtain rfl : W3 = w4 := hw4.symm; clear hw4)
   go_loopw [6, 29] (fun ov iv wr => ∃ (j m' : Nat) (vv : Value), vv = ov ∧ iv = .int .i64 j ∧ j ≤ pl ∧ m' ≤ 40 * k + j ∧ Shut (IRow w2 wr vv m' (allG (T.nodes.take k) B ++ (r.nd.pieces.take j).map PM.group))) (fun _ iv _ => pl - (intOf iv).toNat)
   case atStart => exact ⟨0, m, ov, rfl, rfl, Nat.zero_le _, by omega, ⟨by rw [List.take_zero, List.map_nil, List.append_nil]; exact HG3.out⟩⟩
   case round =>
    obtain ⟨j, m', ov', rfl, rfl, hj, hm', HG'⟩ := hrel
    obtain ⟨wi, rfl⟩ : ∃ wi, wi = wr := ⟨_, rfl⟩
    by_cases hjl : j < pl
    case pos =>
     have hjp : j < r.nd.pieces.length := by have := HPL.out; omega
     have j0 : (0 : Int) ≤ (j : Int) := by omega
     have j1 : (j : Int) < (pl : Int) := by omega
     have hB5 : Below w.heap.size w wi := HMW.out.trans (HG'.out.2.1.mono HMW.out.size)
     obtain ⟨pb, poff, hloc, lpb, hpc⟩ := pcs_at (HPR.out.below hB5) (by omega)
     obtain ⟨z0, z1⟩ := hpc j hjp
     have hst := pm_take r.nd.pieces j hjp
     obtain ⟨q, hq⟩ : ∃ q, q = r.nd.pieces[j] := ⟨_, rfl⟩
     rw [← hq] at z0 z1 hst
     have HS' : Shut (allG (T.nodes.take k) B ++ (r.nd.pieces.take (j + 1)).map PM.group = (allG (T.nodes.take k) B ++ (r.nd.pieces.take j).map PM.group) ++ [q.group]) := ⟨by rw [hst, List.append_assoc]⟩
     obtain ⟨Z, hZ⟩ : ∃ Z, Z = allG (T.nodes.take k) B ++ (r.nd.pieces.take j).map PM.group := ⟨_, rfl⟩
     rw [← hZ] at HG' HS'
     rw [hloc]
     obtain ⟨⟨qg, ql⟩, rfl⟩ : ∃ q', q' = q := ⟨q, rfl⟩
     dsimp only at z0 z1 HS'
     clear hpc hq hst hB5 hZ hloc
     go_upto_region 10 with fail
     obtain ⟨qb, hqb⟩ : ∃ qb, qb = wi.heap.size := ⟨_, rfl⟩
     refine wp_shade (fun W => Below wi.heap.size wi W ∧ WCells W qb [.int .i64 qg, .int .i64 ql]) ⟨(Below.refl _ _).alloc (Nat.le_refl _) _, by rw [hqb]; exact wcells_new wi #[.int .i64 qg, .int .i64 ql] 99⟩ ?_
     rintro W6 ⟨hb6, hq6⟩
     rw [← hqb]
     have HG6 := Shut.mk (HG'.out.below hb6)
     have u0 := (hq6.2 0 _ rfl).1
     have ho := HG6.out.2.2
     have hsz : w2.heap.size ≤ W6.heap.size := HG6.out.2.1.size
     clear hb6 hq6 hqb HG' z0 z1
     go_wp2_with (at_builtin; refine wpList_append_own _ rfl _ _ 37 rfl w2.heap.size 3 t0 (.int .i64 0) 1 8 Tryz.underlying37 ht0 hty0 hty1 hty2 rfl (by decide) _ _ _ rfl (ho.alloc _) ⟨W6.heap.size, 0, none⟩ 1 1 [.int .i64 qg] rfl rfl (cell_one_new _ _ _) ?c2 ?c3 ?c4 ?c5 ?_)
     case c2 => first | rfl | (intro u hu; simp at hu; subst hu; rfl)
     case c3 => unfold maxLen; omega
     case c4 => omega
     case c5 => first | omega | (simp; omega)
     intro v' w10 ho10 hgrow _
     have HG2 := Shut.mk (HG6.out.snoc ho10 hgrow)
     rw [← HS'.out] at HG2
     clear ho ho10 hgrow
     go_wp2_with fail
     go_roundw
     case rel => exact ⟨j + 1, m' + 1, v', rfl, by go_num, by omega, by omega, HG2⟩
     case measure => simp [intOf]; omega
    case neg =>
     have j1 : ¬ (j : Int) < (pl : Int) := by omega
     have hall : r.nd.pieces.take j = r.nd.pieces := List.take_of_length_le (by have := HPL.out; omega)
     rw [hall] at HG'
     have HS' : Shut (allG (T.nodes.take (k + 1)) B = allG (T.nodes.take k) B ++ r.nd.pieces.map PM.group) := ⟨by rw [HST.out]; simp⟩
     clear hall
     go_wp2_with fail
     go_roundw
     case rel => exact ⟨k + 1, m', ov', rfl, by go_num, by omega, by omega, ⟨by rw [HS'.out]; exact HG'.out⟩⟩
     case measure => simp [intOf]; omega
end Go.Proofs.YtakhagkhngmpaaaGreat
