/- Texts of ours, laid one behind the other: LkH, LkI, LkJ, FpA, WayZ, LkK, LkO, LawTre. -/
import Derived.Test.YthfmjjaollekiaaGreatPf8
import Derived.Test.YthfmjjaollekiaaGreatPf3
import Derived.Test.YthfmjjaollekiaaGreatPf7
import Derived.Test.YthfmjjaollekiaaGreatPf4
import Derived.Test.YthfmjjaollekiaaGreatPf5
import Derived.Test.YthfmjjaollekiaaGreatPf2
import Derived.Test.YthfmjjaollekiaaGreatPf6
import Derived.Sort.OwnSorted
/- LkH: The program's own tests of a node, and of the Ids of a tree. -/
namespace Go.Proofs.YthfmjjaollekiaaGreat
set_option maxRecDepth 100000
open Go.RowKit Go.Maps BigFrame
attribute [local go_sem ↓] Go.wp_at_zero Go.wp_at_succ

theorem dirQ_is (n : NM) : (((n.schema == 0) || inI n.schema 1 3) && decide (0 ≤ n.quota) && decide (n.quota ≤ 1000) && (n.len == 0) && ((n.pieces.length : Int) == 0) && (n.writer == 0)) = dirOk n := by
  unfold dirOk
  have e1 : ((n.schema == 0) || inI n.schema 1 3) = inI n.schema 0 3 := by
    unfold inI
    rw [Bool.eq_iff_iff]
    simp
    omega
  have e2 : inI n.quota 0 1000 = (decide (0 ≤ n.quota) && decide (n.quota ≤ 1000)) := rfl
  have e3 : ((n.pieces.length : Int) == 0) = decide (n.pieces.length = 0) := by
    rw [Bool.eq_iff_iff]
    simp
  rw [e1, e2, e3]
  cases inI n.schema 0 3 <;> cases decide (0 ≤ n.quota) <;> cases decide (n.quota ≤ 1000) <;> rfl
theorem fileQ_is (n : NM) : fileQ n.schema n.quota n.len n.writer n.pieces = fileOk n := by
  unfold fileQ fileOk
  cases inI n.schema 1 3 <;> cases (n.quota == 0) <;> cases inI n.writer 0 9 <;> cases decide (n.pieces.length ≤ 40) <;> rfl
theorem rootQ_is (n : NM) : ((n.id == 1) && (n.parent == 0) && (n.name.toList == []) && n.dir && inI n.schema 1 3) = rootB n := by
  unfold rootB
  have : (n.name.toList == []) = decide (n.name = ⟨#[]⟩) := by
    rw [Bool.eq_iff_iff]
    simp only [beq_iff_eq, decide_eq_true_eq]
    constructor
    · intro h
      rw [Go.ByteArray.toList_eq] at h
      exact ByteArray.ext (Array.toList_inj.1 h)
    · intro h
      rw [h, Go.ByteArray.toList_eq]
  rw [this]
set_option maxRecDepth 100000 in
set_option maxHeartbeats 1000000 in
theorem implNodeOk_any (id parent : Int) (name : ByteArray) (dir : Bool) (schema quota len writer : Int) (loc : Option Addr) (ps : List PM) (cap : Nat) (w : World) {lo hi : Nat} (hp : RRow w loc (pcs ps) lo hi) (hl : ps.length ≤ 1048576) :
    Calls Tryz.prog 62 #[.agg #[.int .i64 id, .int .i64 parent, .string name, .bool dir, .int .i64 schema, .int .i64 quota, .int .i64 len, .slice loc ps.length cap, .int .i64 writer]] w fun e w' => e = .returned (.bool (if dir then dirOk ⟨id, parent, name, dir, schema, quota, len, ps, writer⟩ else fileOk ⟨id, parent, name, dir, schema, quota, len, ps, writer⟩)) ∧ Below w.heap.size w w' := by
  have h1 := fun W => implDirOk id parent name dir schema quota len writer loc ps.length cap W
  have h2 := fun W (hb : Below w.heap.size w W) => implFileOk id parent name dir schema quota len writer loc ps cap W (hp.below hb) hl
  rw [← dirQ_is, ← fileQ_is]
  dsimp only
  generalize fileQ schema quota len writer ps = f at *
  obtain ⟨n, hn⟩ : ∃ n, n = ps.length := ⟨_, rfl⟩
  rw [← hn] at h1 h2 ⊢
  generalize ((schema == 0 || inI schema 1 3) && decide (0 ≤ quota) && decide (quota ≤ 1000) && len == 0 && (n : Int) == 0 && writer == 0) = d at *
  have H1 := Shut.mk h1
  have H2 := Shut.mk h2
  clear h1 h2 hn hp hl
  cases dir with
  | true =>
    go_enter Tryz.func62, Tryz.ntmps62
    go_wp2_with fail
    refine (H1.out _).mono ?_
    rintro e w1 ⟨rfl, hb⟩
    go_wp2_with fail
    go_ret
    exact ⟨rfl, ((Below.refl _ _).alloc (Nat.le_refl _) _).trans (hb.mono (by simp))⟩
  | false =>
    go_enter Tryz.func62, Tryz.ntmps62
    go_wp2_with fail
    refine (H2.out _ ((Below.refl _ _).alloc (Nat.le_refl _) _)).mono ?_
    rintro e w1 ⟨rfl, hb⟩
    go_wp2_with fail
    go_ret
    exact ⟨rfl, ((Below.refl _ _).alloc (Nat.le_refl _) _).trans (hb.mono (by simp))⟩
theorem implNodeOk (r : NR) (w : World) {lo hi : Nat} (hp : RRow w r.loc (pcs r.nd.pieces) lo hi) (hl : r.nd.pieces.length ≤ 1048576) : Calls Tryz.prog 62 #[nv r] w fun e w' => e = .returned (.bool (kindB r.nd)) ∧ Below w.heap.size w w' :=
  implNodeOk_any r.nd.id r.nd.parent r.nd.name r.nd.dir r.nd.schema r.nd.quota r.nd.len r.nd.writer r.loc r.nd.pieces r.cap w hp hl
/-- Up to here Ids are as they should be. -/
def IdsTo (T : TM) (k : Nat) : Prop := ∀ j, j < k → (T.nodes.getD j default).id < T.next ∧ (j = 0 ∨ (T.nodes.getD (j - 1) default).id < (T.nodes.getD j default).id)
theorem ids_yes {T : TM} (h : T.next ≤ 100000) (hk : IdsTo T T.nodes.length) : idsB T = true := by
  unfold idsB
  rw [decide_eq_true h]
  simp only [Bool.true_and]
  refine List.all_eq_true.2 fun i hi => ?_
  obtain ⟨h1, h2⟩ := hk i (by simpa using hi)
  rw [decide_eq_true h1]
  rcases h2 with e | e
  · simp [e]
  · rw [decide_eq_true e]; simp
theorem ids_no {T : TM} {k : Nat} (hk : k < T.nodes.length) (h : ¬ ((T.nodes.getD k default).id < T.next ∧ (k = 0 ∨ (T.nodes.getD (k - 1) default).id < (T.nodes.getD k default).id))) : idsB T = false := by
  refine Bool.eq_false_iff.2 fun hc => h ?_
  unfold idsB at hc
  simp only [Bool.and_eq_true, List.all_eq_true, List.mem_range, Bool.or_eq_true, decide_eq_true_eq] at hc
  exact hc.2 k hk
theorem ids_next {T : TM} (h : ¬ T.next ≤ 100000) : idsB T = false := by
  unfold idsB
  rw [decide_eq_false h]
  simp
set_option maxRecDepth 100000 in
set_option maxHeartbeats 2000000 in
theorem implIdsOk {w : World} {v : Value} {T : TM} {lo hi : Nat} (h : TSee w v T lo hi) (hf : NFit T) : Calls Tryz.prog 59 #[v] w fun e w' => e = .returned (.bool (idsB T)) ∧ Below w.heap.size w w' := by
  obtain ⟨a, cap, rs, rfl, hr, hm⟩ := h
  have hl : rs.length ≤ 1048576 := by unfold NFit at hf; rw [← hr, nds_len] at hf; omega
  obtain ⟨R, hR⟩ : ∃ R, R = idsB T := ⟨_, rfl⟩
  rw [← hR]
  have HR := Shut.mk hR
  have hlen : rs.length = T.nodes.length := by rw [← hr, nds_len]
  have hget : ∀ j (hj : j < rs.length), T.nodes.getD j default = rs[j].nd := fun j hj => by
    rw [← hr, getD_in (by rw [nds_len]; exact hj)]
    simp [nds]
  have HG := Shut.mk hget
  obtain ⟨n, hn⟩ : ∃ n, n = rs.length := ⟨_, rfl⟩
  rw [← hn] at hl hlen ⊢
  have HL := Shut.mk hlen
  have HN := Shut.mk hn
  have HM := Shut.mk hm
  obtain ⟨nx, hnx⟩ : ∃ nx, nx = T.next := ⟨_, rfl⟩
  rw [← hnx]
  have HX := Shut.mk hnx
  clear hR hr hm hf hlen hget hn hnx
  by_cases h1 : nx ≤ 100000
  · go_enter Tryz.func59, Tryz.ntmps59
    go_upto_region 3 with fail
    refine wp_shade (fun W => BX w W a n cap nx) (BX.new w a n cap nx 26) ?_
    intro W hg
    have HW := Shut.mk hg
    have x0 := (hg.box.2 0 _ rfl).1
    clear hg
    go_wp2_with fail
    go_loopw [11] (fun i wr => ∃ (k : Nat), i = .int .i64 k ∧ k ≤ n ∧ Shut (IdsTo T k) ∧ Shut (BX w wr a n cap nx)) (fun i _ => n - (intOf i).toNat)
    case atStart => exact ⟨0, rfl, Nat.zero_le _, ⟨fun _ h => absurd h (Nat.not_lt_zero _)⟩, HW⟩
    case round =>
      clear HW x0
      obtain ⟨k, rfl, hk, hto, hW⟩ := hrel
      have x0 := (hW.out.box.2 0 _ rfl).1
      have x1 := (hW.out.box.2 1 _ rfl).1
      have lw := hW.out.box.1
      by_cases hlt : k < n
      · have hkr : k < rs.length := by rw [← HN.out]; exact hlt
        obtain ⟨b, off, rfl, lb, hc⟩ := TR.nat HM.out (by omega)
        have hnk := (hc k hkr).below hW.out.bel lb
        have hge := HG.out k hkr
        obtain ⟨r, hr⟩ : ∃ r, r = rs[k] := ⟨_, rfl⟩
        rw [← hr] at hnk hge
        have HGE := Shut.mk hge
        obtain ⟨c0, c1, c2, c3, c4, c5, c6, c7, c8⟩ := hnk
        have lb' : b < wr.heap.size := Nat.lt_of_lt_of_le lb hW.out.bel.size
        have k0 : (0 : Int) ≤ (k : Int) := by omega
        have k1 : (k : Int) < (n : Int) := by omega
        have HBN : Shut (∀ q, BX w ((wr.alloc (.cells #[.int .i64 r.nd.id, .int .i64 r.nd.parent, .string r.nd.name, .bool r.nd.dir, .int .i64 r.nd.schema, .int .i64 r.nd.quota, .int .i64 r.nd.len, .slice r.loc r.nd.pieces.length r.cap, .int .i64 r.nd.writer] 31)).drewN q) (some ⟨b, off, none⟩) n cap nx) := ⟨fun q => hW.out.below (((Below.refl _ _).alloc (Nat.le_refl _) _).trans (Below.mono (B := wr.heap.size) ⟨rfl, rfl, rfl, Nat.le_refl _, fun _ _ => rfl⟩ (Nat.le_refl _)))⟩
        have hpr : ∀ (hkp : 0 < k), wr.cell? ⟨b, off + (k - 1) * 9, none⟩ = some (.int .i64 (T.nodes.getD (k - 1) default).id) := fun hkp => by
          rw [HG.out (k - 1) (by omega)]
          exact ((hc (k - 1) (by omega)).below hW.out.bel lb).1
        have HPR := Shut.mk hpr
        clear hc hr hge hpr
        obtain ⟨pid, hpid⟩ : ∃ p, p = (T.nodes.getD (k - 1) default).id := ⟨_, rfl⟩
        rw [← hpid] at HPR
        have HPI := Shut.mk hpid
        clear hpid
        obtain ⟨id, hid⟩ : ∃ p, p = r.nd.id := ⟨_, rfl⟩
        rw [← hid] at c0 HBN
        have HID := Shut.mk hid
        clear hid
        by_cases a1 : nx ≤ id
        · have HF : Shut (R = false) := ⟨by rw [HR.out]; exact ids_no (by rw [← HL.out]; exact hlt) (fun hc => by rw [HGE.out, ← HID.out, ← HX.out] at hc; omega)⟩
          go_upto_region 6 with fail
          go_quiet (fail)
          go_wp2_with fail
          go_ret
          exact ⟨by rw [HF.out]; rfl, (HBN.out _).bel⟩
        · by_cases a2 : 0 < k
          · have cp := HPR.out a2
            have hk1 : (k : Int) - 1 = ((k - 1 : Nat) : Int) := by omega
            have hk2 : (0 : Int) ≤ ((k - 1 : Nat) : Int) := by omega
            have hk3 : ((k - 1 : Nat) : Int) < (n : Int) := by omega
            have hkp : (0 : Int) < (k : Int) := by omega
            by_cases a3 : id ≤ pid
            · have HF : Shut (R = false) := ⟨by rw [HR.out]; exact ids_no (by rw [← HL.out]; exact hlt) (fun hc => by rw [HGE.out, ← HID.out, ← HPI.out] at hc; omega)⟩
              go_upto_region 6 with fail
              go_quiet (fail)
              go_wp2_with fail
              go_ret
              exact ⟨by rw [HF.out]; rfl, (HBN.out _).bel⟩
            · go_upto_region 6 with fail
              go_quiet (fail)
              go_wp2_with fail
              go_roundw
              case rel =>
                refine ⟨k + 1, by go_num, by omega, ⟨fun j hj => ?_⟩, ⟨HBN.out _⟩⟩
                rcases Nat.lt_succ_iff_lt_or_eq.1 hj with h | h
                · exact hto.out j h
                · subst h
                  rw [HGE.out, ← HID.out, ← HPI.out, ← HX.out]
                  exact ⟨by omega, .inr (by omega)⟩
              case measure => simp [intOf]; omega
          · have hkn : decide ((0 : Int) < (k : Int)) = false := by simp; omega
            have hkn' : ¬ (0 : Int) < (k : Int) := by omega
            go_upto_region 6 with fail
            go_quiet (fail)
            go_wp2_with fail
            go_roundw
            case rel =>
              refine ⟨k + 1, by go_num, by omega, ⟨fun j hj => ?_⟩, ⟨HBN.out _⟩⟩
              rcases Nat.lt_succ_iff_lt_or_eq.1 hj with h | h
              · exact hto.out j h
              · subst h
                rw [HGE.out, ← HID.out, ← HX.out]
                exact ⟨by omega, .inl (by omega)⟩
            case measure => simp [intOf]; omega
      · have hlt' : ¬ (k : Int) < (n : Int) := by omega
        obtain rfl : k = n := by omega
        have HT : Shut (R = true) := ⟨by rw [HR.out]; exact ids_yes (by rw [← HX.out]; exact h1) (by rw [← HL.out]; exact hto.out)⟩
        go_wp2_with fail
        go_ret
        exact ⟨by rw [HT.out]; rfl, hW.out.bel⟩
  · have HF : Shut (R = false) := ⟨by rw [HR.out]; exact ids_next (by rw [← HX.out]; exact h1)⟩
    go_enter Tryz.func59, Tryz.ntmps59
    go_wp2_with fail
    go_ret
    exact ⟨by rw [HF.out]; rfl, (Below.refl _ _).alloc (Nat.le_refl _) _⟩
end Go.Proofs.YthfmjjaollekiaaGreat
/- LkI: The program's own TreeOk, and nodeAt. -/
namespace Go.Proofs.YthfmjjaollekiaaGreat
set_option maxRecDepth 100000
open Go.RowKit Go.Maps BigFrame
attribute [local go_sem ↓] Go.wp_at_zero Go.wp_at_succ

/-- Up to here nodes are as they should be. -/
def NodesTo (T : TM) (k : Nat) : Prop := ∀ j, j < k → kindB (T.nodes.getD j default) = true ∧ (j = 0 ∨ placeB T.nodes j = true)
theorem prog_yes {T : TM} (h1 : inI (T.nodes.length : Int) 1 14 = true) (h2 : idsB T = true) (h3 : rootB (T.nodes.getD 0 default) = true) (h4 : NodesTo T T.nodes.length) : treeOk T = true := by
  rw [← prog_tree]
  unfold progB
  rw [h1, h2, h3]
  simp only [Bool.true_and]
  refine List.all_eq_true.2 fun i hi => ?_
  obtain ⟨q1, q2⟩ := h4 i (by simpa using hi)
  rw [q1]
  rcases q2 with e | e
  · simp [e]
  · rw [e]; simp
theorem prog_no {T : TM} {k : Nat} (hk : k < T.nodes.length) (h : ¬ (kindB (T.nodes.getD k default) = true ∧ (k = 0 ∨ placeB T.nodes k = true))) : treeOk T = false := by
  rw [← prog_tree]
  refine Bool.eq_false_iff.2 fun hc => h ?_
  unfold progB at hc
  simp only [Bool.and_eq_true, List.all_eq_true, List.mem_range, Bool.or_eq_true, decide_eq_true_eq] at hc
  exact hc.2 k hk
theorem prog_ids {T : TM} (h : idsB T = false) : treeOk T = false := by
  rw [← prog_tree]
  unfold progB
  rw [h]
  simp
theorem prog_root {T : TM} (h : rootB (T.nodes.getD 0 default) = false) : treeOk T = false := by
  rw [← prog_tree]
  unfold progB
  rw [h]
  simp
/-- A tree in its box, and its links. -/
structure BL (w W : World) (a : Option Addr) (n cap : Nat) (nx : Int) (L b1 b2 : Nat) (rs : List NR) (G : Nat → Nat) (C : Int → Nat) : Prop where
  bx : BX w W a n cap nx
  vr : WCells W L [.map (some b1), .map (some b2)]
  lk : Lk W w.heap.size b1 b2 rs G C (Ab (nds rs) fun _ => false)
theorem BL.below {w W W' : World} {a : Option Addr} {n cap L b1 b2 : Nat} {nx : Int} {rs : List NR} {G : Nat → Nat} {C : Int → Nat} (h : BL w W a n cap nx L b1 b2 rs G C) (hb : Below W.heap.size W W') : BL w W' a n cap nx L b1 b2 rs G C := ⟨h.bx.below hb, h.vr.grow hb, h.lk.below hb⟩
theorem Lk.base {w : World} {B B' b1 b2 : Nat} {rs : List NR} {G : Nat → Nat} {C : Int → Nat} {A : Nat → Option Nat} (h : Lk w B b1 b2 rs G C A) (hB : B' ≤ B) : Lk w B' b1 b2 rs G C A := by
  obtain ⟨m1, m2, m3, inj, cells, one, lo⟩ := h
  refine ⟨m1, m2, fun p hp => ?_, inj, fun i hi => ⟨(cells i hi).1, Nat.le_trans hB (cells i hi).2⟩, one, by omega⟩
  obtain ⟨q1, q2⟩ := m3 p hp
  exact ⟨by omega, q2⟩
set_option maxRecDepth 100000 in
set_option maxHeartbeats 4000000 in
theorem implTreeOk (w : World) (v : Value) (T : TM) (lo hi : Nat) (h : TSee w v T lo hi) (hf : NFit T) (hI : NInt T.nodes) : Calls Tryz.prog 14 #[v] w fun e w' => e = .returned (.bool (treeOk T)) ∧ Below w.heap.size w w' := by
  have hsee := h
  obtain ⟨a, cap, rs, rfl, hr, hm⟩ := h
  have hlen : rs.length = T.nodes.length := by rw [← hr, nds_len]
  have hl : rs.length ≤ 1048576 := by unfold NFit at hf; omega
  have hget : ∀ j (hj : j < rs.length), T.nodes.getD j default = rs[j].nd := fun j hj => by
    rw [← hr, getD_in (by rw [nds_len]; exact hj)]
    simp [nds]
  have hsz : ∀ x ∈ nds rs, x.name.size ≤ 1048576 ∧ x.pieces.length ≤ 1048576 := fun x hx => by
    rw [hr] at hx
    have := nsum_mem hx
    unfold NFit at hf
    omega
  obtain ⟨R, hR⟩ : ∃ R, R = treeOk T := ⟨_, rfl⟩
  rw [← hR]
  obtain ⟨n, hn⟩ : ∃ n, n = rs.length := ⟨_, rfl⟩
  obtain ⟨nx, hnx⟩ : ∃ nx, nx = T.next := ⟨_, rfl⟩
  rw [← hn] at hl hlen hsee ⊢
  rw [← hnx] at hsee ⊢
  have hids := fun W (hb : Below w.heap.size w W) => implIdsOk (hsee.below hb) hf
  have HR := Shut.mk hR
  have HG := Shut.mk hget
  have HL := Shut.mk hlen
  have HN := Shut.mk hn
  have HM := Shut.mk hm
  have HE := Shut.mk hr
  have HI := Shut.mk hI
  have HS := Shut.mk hsz
  have HID := Shut.mk hids
  clear hR hget hlen hm hr hI hsz hids hsee hnx hf hn
  by_cases h1 : n < 1
  · have HF : Shut (R = false) := ⟨by rw [HR.out]; exact treeOk_len (Bool.eq_false_iff.2 fun hc => by have := inI_iff.1 hc; have := HL.out; omega)⟩
    have h1' : (n : Int) < 1 := by omega
    go_enter Tryz.func14, Tryz.ntmps14
    go_wp2_with fail
    go_ret
    exact ⟨by rw [HF.out]; rfl, (Below.refl _ _).alloc (Nat.le_refl _) _⟩
  have h1' : ¬ (n : Int) < 1 := by omega
  by_cases h2 : 14 < n
  · have HF : Shut (R = false) := ⟨by rw [HR.out]; exact treeOk_len (Bool.eq_false_iff.2 fun hc => by have := inI_iff.1 hc; have := HL.out; omega)⟩
    have h2' : (14 : Int) < (n : Int) := by omega
    go_enter Tryz.func14, Tryz.ntmps14
    go_wp2_with fail
    go_ret
    exact ⟨by rw [HF.out]; rfl, (Below.refl _ _).alloc (Nat.le_refl _) _⟩
  have h2' : ¬ (14 : Int) < (n : Int) := by omega
  cases hid : idsB T with
  | false =>
    rw [hid] at HID
    have HF : Shut (R = false) := ⟨by rw [HR.out]; exact prog_ids hid⟩
    go_enter Tryz.func14, Tryz.ntmps14
    go_wp2_with (go_at_call 59; refine (HID.out _ ((Below.refl _ _).alloc (Nat.le_refl _) _)).mono ?_; rintro e w1 ⟨rfl, hb1⟩)
    go_ret
    exact ⟨by rw [HF.out]; rfl, ((Below.refl _ _).alloc (Nat.le_refl _) _).trans (hb1.mono (by simp))⟩
  | true =>
    rw [hid] at HID
    obtain ⟨b, off, ha, lb, hc⟩ := TR.nat HM.out (by have := HN.out; omega)
    have hn0 : 0 < rs.length := by have := HN.out; omega
    have hc0 := hc 0 hn0
    rw [Nat.zero_mul, Nat.add_zero] at hc0
    have hg0 := HG.out 0 hn0
    obtain ⟨r0, hr0⟩ : ∃ r, r = rs[0] := ⟨_, rfl⟩
    rw [← hr0] at hc0 hg0
    have hroot := fun W => implRootOk r0.nd.id r0.nd.parent r0.nd.name r0.nd.dir r0.nd.schema r0.nd.quota r0.nd.len r0.nd.writer r0.loc r0.nd.pieces.length r0.cap W
    have hrb : rootB r0.nd = rootB (T.nodes.getD 0 default) := by rw [hg0]
    simp only [rootQ_is, hrb] at hroot
    have HRT := Shut.mk hroot
    have HC0 := Shut.mk hc0
    have HID2 := Shut.mk hid
    rw [ha] at HM HID ⊢
    clear hc hc0 hg0 hr0 hroot hid hrb
    cases hrt : rootB (T.nodes.getD 0 default) with
    | false =>
      rw [hrt] at HRT
      have HF : Shut (R = false) := ⟨by rw [HR.out]; exact prog_root hrt⟩
      clear hrt
      go_enter Tryz.func14, Tryz.ntmps14
      go_wp2_with (first
        | (go_at_call 59; refine (HID.out _ ((Below.refl _ _).alloc (Nat.le_refl _) _)).mono ?_; rintro e w1 ⟨rfl, hb1⟩; have hbb : Below w.heap.size w w1 := ((Below.refl _ _).alloc (Nat.le_refl _) _).trans (hb1.mono (by simp)); obtain ⟨c0, c1, c2, c3, c4, c5, c6, c7, c8⟩ := HC0.out.below hbb lb; have x0 : w1.cell? ⟨w.heap.size, 0, none⟩ = some (.slice (some ⟨b, off, none⟩) n cap) := (hb1.cell (by simp)).trans (by simp); have HBB := Shut.mk hbb)
        | (go_at_call 60; refine (HRT.out _).mono ?_; rintro e w2 ⟨rfl, hb2⟩))
      go_ret
      exact ⟨by rw [HF.out]; rfl, HBB.out.trans (hb2.mono HBB.out.size)⟩
    | true =>
      rw [hrt] at HRT
      have HRT2 := Shut.mk hrt
      clear hrt
      go_enter Tryz.func14, Tryz.ntmps14
      go_wp2_with (first
        | (go_at_call 59; refine (HID.out _ ((Below.refl _ _).alloc (Nat.le_refl _) _)).mono ?_; rintro e w1 ⟨rfl, hb1⟩; have hbb : Below w.heap.size w w1 := ((Below.refl _ _).alloc (Nat.le_refl _) _).trans (hb1.mono (by simp)); obtain ⟨c0, c1, c2, c3, c4, c5, c6, c7, c8⟩ := HC0.out.below hbb lb; have x0 : w1.cell? ⟨w.heap.size, 0, none⟩ = some (.slice (some ⟨b, off, none⟩) n cap) := (hb1.cell (by simp)).trans (by simp); have HBX : Shut (BX w w1 (some ⟨b, off, none⟩) n cap nx) := ⟨(BX.new w (some ⟨b, off, none⟩) n cap nx 26).below hb1⟩)
        | (go_at_call 60; refine (HRT.out _).mono ?_; rintro e w2 ⟨rfl, hb2⟩; replace HBX := Shut.mk (HBX.out.below hb2); have y0 := (HBX.out.box.2 0 _ rfl).1))
      have hlk : Calls Tryz.prog 61 #[.slice (some ⟨b, off, none⟩) n cap] w2 fun e w' => ∃ b1 b2 G C, e = .returned (.agg #[.map (some b1), .map (some b2)]) ∧ Lk w' w2.heap.size b1 b2 rs G C (Ab (nds rs) fun _ => false) ∧ Below w2.heap.size w2 w' := by
        rw [HN.out]
        exact linkNodes_any (HM.out.below HBX.out.bel) (by rw [← HN.out]; exact hl) (by rw [HE.out]; exact HI.out) (fun x hx => by have := (HS.out x hx).1; unfold maxLen; omega)
      clear c0 c1 c2 c3 c4 c5 c6 c7 c8 x0 hb1 hb2 hbb HC0
      refine hlk.mono ?_
      rintro e w3 ⟨b1, b2, G, C, rfl, hLk, hb3⟩
      have hbx3 := HBX.out.below hb3
      have HB3 := Shut.mk hbx3
      have HL3 := Shut.mk (hLk.base HBX.out.bel.size)
      clear hlk y0 hb3 hbx3 hLk HBX
      have y0 := (HB3.out.box.2 0 _ rfl).1
      have ly := HB3.out.box.1
      go_upto_region 4 with fail
      refine wp_shade (fun W => BL w W (some ⟨b, off, none⟩) n cap nx w3.heap.size b1 b2 rs G C) ?_ ?_
      · have hb : Below w3.heap.size w3 (w3.alloc (.cells #[.map (some b1), .map (some b2)] 80)) := (Below.refl _ _).alloc (Nat.le_refl _) _
        exact ⟨HB3.out.below hb, wcells_new w3 #[.map (some b1), .map (some b2)] 80, HL3.out.below hb⟩
      intro W hW
      have HW := Shut.mk hW
      clear hW y0
      have y0 := (HW.out.bx.box.2 0 _ rfl).1
      obtain ⟨L, hL⟩ : ∃ L, L = w3.heap.size := ⟨_, rfl⟩
      rw [← hL] at HW ⊢
      have HASC : Shut (Asc (nds rs)) := ⟨by rw [HE.out]; exact ids_asc HID2.out HRT2.out (by rw [← HL.out]; omega)⟩
      clear HB3 HL3 hL ly HID HRT
      go_wp2_with fail
      go_loopw [35] (fun i wr => ∃ (k : Nat), i = .int .i64 k ∧ k ≤ n ∧ Shut (NodesTo T k) ∧ Shut (BL w wr (some ⟨b, off, none⟩) n cap nx L b1 b2 rs G C)) (fun i _ => n - (intOf i).toNat)
      case atStart => exact ⟨0, rfl, Nat.zero_le _, ⟨fun _ h => absurd h (Nat.not_lt_zero _)⟩, HW⟩
      case round =>
        clear HW y0
        obtain ⟨k, rfl, hk, hto, hW⟩ := hrel
        have v0 := (hW.out.vr.2 0 _ rfl).1
        have v1 := (hW.out.vr.2 1 _ rfl).1
        have lv := hW.out.vr.1
        by_cases hlt : k < n
        · have hkr : k < rs.length := by rw [← HN.out]; exact hlt
          obtain ⟨b', off', hab, _, hc⟩ := TR.nat HM.out (by omega)
          have e1 : b' = b ∧ off' = off := by simpa using hab.symm
          obtain ⟨rfl, rfl⟩ := e1
          have hnk := (hc k hkr).below hW.out.bx.bel lb
          have hge := HG.out k hkr
          have hmem : rs[k].nd ∈ nds rs := List.mem_map.2 ⟨_, List.getElem_mem hkr, rfl⟩
          have hno : ∀ W', Below w.heap.size w W' → Calls Tryz.prog 62 #[nv rs[k]] W' fun e w' => e = .returned (.bool (kindB (T.nodes.getD k default))) ∧ Below W'.heap.size W' w' := fun W' hb => by
            rw [hge]
            exact implNodeOk rs[k] W' ((HM.out.2 _ (List.getElem_mem hkr)).below hb) (HS.out _ hmem).2
          have hpo : ∀ W', BL w W' (some ⟨b', off', none⟩) n cap nx L b1 b2 rs G C → Calls Tryz.prog 63 #[.agg #[.map (some b1), .map (some b2)], nv rs[k]] W' fun e w' => e = .returned (.bool (placeB T.nodes k)) ∧ Below W'.heap.size W' w' := fun W' hb => by
            have := placeOk_any hb.lk HASC.out (by rw [HE.out]; exact HI.out) (fun x hx => (HS.out x hx).1) hkr
            rw [HE.out] at this
            exact this
          obtain ⟨r, hr⟩ : ∃ r, r = rs[k] := ⟨_, rfl⟩
          rw [← hr] at hnk hno hpo
          obtain ⟨⟨id, parent, name, dir, schema, quota, len, pieces, writer⟩, loc, cp⟩ := r
          dsimp only [nv] at hno hpo
          obtain ⟨c0, c1, c2, c3, c4, c5, c6, c7, c8⟩ := hnk
          dsimp only at c0 c1 c2 c3 c4 c5 c6 c7 c8
          generalize pieces.length = pn at *
          have HNO := Shut.mk hno
          have HPO := Shut.mk hpo
          have lb' : b' < wr.heap.size := Nat.lt_of_lt_of_le lb hW.out.bx.bel.size
          have k0 : (0 : Int) ≤ (k : Int) := by omega
          have k1 : (k : Int) < (n : Int) := by omega
          have HKL : Shut (k < T.nodes.length) := ⟨by rw [← HL.out]; exact hlt⟩
          clear hc hr hge hmem hno hpo hab
          have HBA : Shut (Below wr.heap.size wr (wr.alloc (.cells #[.int .i64 id, .int .i64 parent, .string name, .bool dir, .int .i64 schema, .int .i64 quota, .int .i64 len, .slice loc pn cp, .int .i64 writer] 31))) := ⟨(Below.refl _ _).alloc (Nat.le_refl _) _⟩
          have HNA : Shut (WCells (wr.alloc (.cells #[.int .i64 id, .int .i64 parent, .string name, .bool dir, .int .i64 schema, .int .i64 quota, .int .i64 len, .slice loc pn cp, .int .i64 writer] 31)) wr.heap.size [.int .i64 id, .int .i64 parent, .string name, .bool dir, .int .i64 schema, .int .i64 quota, .int .i64 len, .slice loc pn cp, .int .i64 writer]) := ⟨wcells_new wr #[.int .i64 id, .int .i64 parent, .string name, .bool dir, .int .i64 schema, .int .i64 quota, .int .i64 len, .slice loc pn cp, .int .i64 writer] 31⟩
          cases hkd : kindB (T.nodes.getD k default) with
          | false =>
            rw [hkd] at HNO
            have HF : Shut (R = false) := ⟨by rw [HR.out]; exact prog_no HKL.out (fun hc => by rw [hkd] at hc; cases hc.1)⟩
            clear hkd
            go_wp2_with (go_at_call 62; refine (HNO.out _ (hW.out.bx.bel.trans (((Below.refl _ _).alloc (Nat.le_refl _) _).mono hW.out.bx.bel.size))).mono ?_; rintro e w4 ⟨rfl, hb4⟩; have hW4 := (hW.out.below HBA.out).below hb4; have HW4 := Shut.mk hW4; have u0 := (hW4.vr.2 0 _ rfl).1; have u1 := (hW4.vr.2 1 _ rfl).1; have hnd := HNA.out.grow hb4; have d0 := (hnd.2 0 _ rfl).1; have d1 := (hnd.2 1 _ rfl).1; have d2 := (hnd.2 2 _ rfl).1; have d3 := (hnd.2 3 _ rfl).1; have d4 := (hnd.2 4 _ rfl).1; have d5 := (hnd.2 5 _ rfl).1; have d6 := (hnd.2 6 _ rfl).1; have d7 := (hnd.2 7 _ rfl).1; have d8 := (hnd.2 8 _ rfl).1; clear hW4 hnd hb4)
            go_ret
            exact ⟨by rw [HF.out]; rfl, HW4.out.bx.bel⟩
          | true =>
            rw [hkd] at HNO
            have HKD := Shut.mk hkd
            clear hkd
            by_cases hk0 : 0 < k
            · have hkp : (0 : Int) < (k : Int) := by omega
              cases hpl : placeB T.nodes k with
              | false =>
                rw [hpl] at HPO
                have HF : Shut (R = false) := ⟨by rw [HR.out]; exact prog_no HKL.out (fun hc => by rw [hpl] at hc; rcases hc.2 with h | h; omega; cases h)⟩
                clear hpl
                go_wp2_with (first | (go_at_call 62; refine (HNO.out _ (hW.out.bx.bel.trans (((Below.refl _ _).alloc (Nat.le_refl _) _).mono hW.out.bx.bel.size))).mono ?_; rintro e w4 ⟨rfl, hb4⟩; have hW4 := (hW.out.below HBA.out).below hb4; have HW4 := Shut.mk hW4; have u0 := (hW4.vr.2 0 _ rfl).1; have u1 := (hW4.vr.2 1 _ rfl).1; have hnd := HNA.out.grow hb4; have d0 := (hnd.2 0 _ rfl).1; have d1 := (hnd.2 1 _ rfl).1; have d2 := (hnd.2 2 _ rfl).1; have d3 := (hnd.2 3 _ rfl).1; have d4 := (hnd.2 4 _ rfl).1; have d5 := (hnd.2 5 _ rfl).1; have d6 := (hnd.2 6 _ rfl).1; have d7 := (hnd.2 7 _ rfl).1; have d8 := (hnd.2 8 _ rfl).1; clear hW4 hnd hb4) | (go_at_call 63; refine (HPO.out _ HW4.out).mono ?_; rintro e w5 ⟨rfl, hb5⟩))
                go_ret
                exact ⟨by rw [HF.out]; rfl, (HW4.out.below hb5).bx.bel⟩
              | true =>
                rw [hpl] at HPO
                have HPL := Shut.mk hpl
                clear hpl
                go_wp2_with (first | (go_at_call 62; refine (HNO.out _ (hW.out.bx.bel.trans (((Below.refl _ _).alloc (Nat.le_refl _) _).mono hW.out.bx.bel.size))).mono ?_; rintro e w4 ⟨rfl, hb4⟩; have hW4 := (hW.out.below HBA.out).below hb4; have HW4 := Shut.mk hW4; have u0 := (hW4.vr.2 0 _ rfl).1; have u1 := (hW4.vr.2 1 _ rfl).1; have hnd := HNA.out.grow hb4; have d0 := (hnd.2 0 _ rfl).1; have d1 := (hnd.2 1 _ rfl).1; have d2 := (hnd.2 2 _ rfl).1; have d3 := (hnd.2 3 _ rfl).1; have d4 := (hnd.2 4 _ rfl).1; have d5 := (hnd.2 5 _ rfl).1; have d6 := (hnd.2 6 _ rfl).1; have d7 := (hnd.2 7 _ rfl).1; have d8 := (hnd.2 8 _ rfl).1; clear hW4 hnd hb4) | (go_at_call 63; refine (HPO.out _ HW4.out).mono ?_; rintro e w5 ⟨rfl, hb5⟩))
                go_roundw
                case rel =>
                  refine ⟨k + 1, by go_num, by omega, ⟨fun j hj => ?_⟩, ⟨HW4.out.below hb5⟩⟩
                  rcases Nat.lt_succ_iff_lt_or_eq.1 hj with h | h
                  · exact hto.out j h
                  · subst h
                    exact ⟨HKD.out, .inr HPL.out⟩
                case measure => simp [intOf]; omega
            · have hkn : decide ((0 : Int) < (k : Int)) = false := by simp; omega
              have hkn' : ¬ (0 : Int) < (k : Int) := by omega
              go_wp2_with (go_at_call 62; refine (HNO.out _ (hW.out.bx.bel.trans (((Below.refl _ _).alloc (Nat.le_refl _) _).mono hW.out.bx.bel.size))).mono ?_; rintro e w4 ⟨rfl, hb4⟩; have hW4 := (hW.out.below HBA.out).below hb4; have HW4 := Shut.mk hW4; have u0 := (hW4.vr.2 0 _ rfl).1; have u1 := (hW4.vr.2 1 _ rfl).1; have hnd := HNA.out.grow hb4; have d0 := (hnd.2 0 _ rfl).1; have d1 := (hnd.2 1 _ rfl).1; have d2 := (hnd.2 2 _ rfl).1; have d3 := (hnd.2 3 _ rfl).1; have d4 := (hnd.2 4 _ rfl).1; have d5 := (hnd.2 5 _ rfl).1; have d6 := (hnd.2 6 _ rfl).1; have d7 := (hnd.2 7 _ rfl).1; have d8 := (hnd.2 8 _ rfl).1; clear hW4 hnd hb4)
              go_roundw
              case rel =>
                refine ⟨k + 1, by go_num, by omega, ⟨fun j hj => ?_⟩, HW4⟩
                rcases Nat.lt_succ_iff_lt_or_eq.1 hj with h | h
                · exact hto.out j h
                · subst h
                  exact ⟨HKD.out, .inl (by omega)⟩
              case measure => simp [intOf]; omega
        · have hlt' : ¬ (k : Int) < (n : Int) := by omega
          obtain rfl : k = n := by omega
          have HT : Shut (R = true) := ⟨by rw [HR.out]; exact prog_yes (inI_iff.2 (by have := HL.out; omega)) HID2.out HRT2.out (by rw [← HL.out]; exact hto.out)⟩
          go_wp2_with fail
          go_ret
          exact ⟨by rw [HT.out]; rfl, hW.out.bx.bel⟩
end Go.Proofs.YthfmjjaollekiaaGreat
/- LkJ: The program's own nodeAt and SchemaAt. -/
namespace Go.Proofs.YthfmjjaollekiaaGreat
set_option maxRecDepth 100000
open Go.RowKit Go.Maps BigFrame
attribute [local go_sem ↓] Go.wp_at_zero Go.wp_at_succ

theorem field_id (p q : Option Nat) (W : World) : (Instr.field 80 (.agg #[.map p, .map q]) 0).run Tryz.prog W = .ok (.map p) W := by kernel_rfl
theorem field_nm (p q : Option Nat) (W : World) : (Instr.field 80 (.agg #[.map p, .map q]) 1).run Tryz.prog W = .ok (.map q) W := by kernel_rfl
/-- What nodeAt answers: a pointer to the node, with all above it; nil where there is none, or the tree is not right. -/
def AtPost (T : TM) (id : Int) (w : World) (e : Ending) (w' : World) : Prop := ∃ o, e = .returned (ptrV o) ∧ Below w.heap.size w w' ∧ ((treeOk T = false ∧ o = none) ∨ (treeOk T = true ∧ ∃ G, o = (fid T.nodes id).map G ∧ Nd w' T.nodes G))
theorem fit_name {T : TM} (hf : NFit T) : ∀ x ∈ T.nodes, x.name.size ≤ 1048576 ∧ x.pieces.length ≤ 1048576 := fun x hx => by
  have := nsum_mem hx
  unfold NFit at hf
  omega
set_option maxRecDepth 100000 in
set_option maxHeartbeats 1000000 in
theorem nodeAt_any (w : World) (v : Value) (T : TM) (lo hi : Nat) (id : Int) (h : TSee w v T lo hi) (hf : NFit T) (hI : NInt T.nodes) (hid : (Lit.int .i64 id).wf = true) : Calls Tryz.prog 64 #[v, .int .i64 id] w fun e w' => AtPost T id w e w' := by
  have hsee := h
  obtain ⟨a, cap, rs, rfl, hr, hm⟩ := h
  have hl : rs.length ≤ 1048576 := by unfold NFit at hf; rw [← hr, nds_len] at hf; omega
  obtain ⟨n, hn⟩ : ∃ n, n = rs.length := ⟨_, rfl⟩
  obtain ⟨nx, hnx⟩ : ∃ nx, nx = T.next := ⟨_, rfl⟩
  rw [← hn, ← hnx] at hsee ⊢
  have hok := fun W (hb : Below w.heap.size w W) => implTreeOk W _ T lo hi (hsee.below hb) hf hI
  have hlk := fun W (hb : Below w.heap.size w W) => linkNodes_any (cap := cap) (hm.below hb) hl (by rw [hr]; exact hI) (fun x hx => by rw [hr] at hx; have := (fit_name hf x hx).1; unfold maxLen; omega)
  rw [← hn] at hlk
  have HOK := Shut.mk hok
  have HLK := Shut.mk hlk
  have HR := Shut.mk hr
  clear hok hlk hr hm hsee hn hnx
  cases ht : treeOk T with
  | false =>
    rw [ht] at HOK
    have HT := Shut.mk ht
    clear ht
    go_enter Tryz.func64, Tryz.ntmps64
    go_wp2_with (go_at_call 14; refine (HOK.out _ ((Below.refl _ _).alloc (Nat.le_refl _) _)).mono ?_; rintro e w1 ⟨rfl, hb1⟩)
    go_ret
    exact ⟨none, rfl, ((Below.refl _ _).alloc (Nat.le_refl _) _).trans (hb1.mono (by simp)), .inl ⟨HT.out, rfl⟩⟩
  | true =>
    rw [ht] at HOK
    have HT := Shut.mk ht
    clear ht
    go_enter Tryz.func64, Tryz.ntmps64
    go_wp2_with (go_at_call 14; refine (HOK.out _ ((Below.refl _ _).alloc (Nat.le_refl _) _)).mono ?_; rintro e w1 ⟨rfl, hb1⟩; have hbx := (BX.new w a n cap nx 26).below hb1; have HBX := Shut.mk hbx; have x0 := (hbx.box.2 0 _ rfl).1; clear hb1 hbx)
    refine (HLK.out _ HBX.out.bel).mono ?_
    rintro e w2 ⟨b1, b2, G, C, rfl, hL, hb2⟩
    obtain ⟨D1, o1, t1⟩ := hL.m1
    have k1 := look_ptr keyI Tryz.underlying77 zeroLp o1 (key_int hid) (t1 id) 0
    rw [World.drewN_zero] at k1
    have HL := Shut.mk hL
    have HB := Shut.mk (HBX.out.bel.trans (hb2.mono HBX.out.bel.size))
    clear hL hb2 o1 t1 x0
    have k0 := field_id (some b1) (some b2)
    go_wp2_with fail
    go_ret
    refine ⟨(fid (nds rs) id).map G, rfl, HB.out, .inr ⟨HT.out, G, by rw [HR.out], ?_⟩⟩
    rw [← HR.out]
    exact HL.out.nd
set_option maxRecDepth 100000 in
set_option maxHeartbeats 1000000 in
theorem implSchemaAt (w : World) (v : Value) (T : TM) (lo hi : Nat) (id : Int) (h : TSee w v T lo hi) (hf : NFit T) (hI : NInt T.nodes) (hid : (Lit.int .i64 id).wf = true) : Calls Tryz.prog 44 #[v, .int .i64 id] w fun e w' => e = .returned (.int .i64 (schemaAtX T id)) ∧ Below w.heap.size w w' := by
  have hsee := h
  obtain ⟨a, cap, rs, rfl, hr, hm⟩ := h
  obtain ⟨n, hn⟩ : ∃ n, n = rs.length := ⟨_, rfl⟩
  obtain ⟨nx, hnx⟩ : ∃ nx, nx = T.next := ⟨_, rfl⟩
  rw [← hn, ← hnx] at hsee ⊢
  have hat := fun W (hb : Below w.heap.size w W) => nodeAt_any W _ T lo hi id (hsee.below hb) hf hI hid
  have HAT := Shut.mk hat
  obtain ⟨R, hR⟩ : ∃ R, R = schemaAtX T id := ⟨_, rfl⟩
  rw [← hR]
  have HR := Shut.mk hR
  clear hat hr hm hsee hn hnx hR hf hI hid
  go_enter Tryz.func44, Tryz.ntmps44
  go_wp2_with fail
  refine (HAT.out _ ((Below.refl _ _).alloc (Nat.le_refl _) _)).mono ?_
  rintro e w1 ⟨o, rfl, hb1, hcase⟩
  have HB := Shut.mk (((Below.refl w.heap.size w).alloc (Nat.le_refl _) (.cells #[.slice a n cap, .int .i64 nx] 26)).trans (hb1.mono (by simp)))
  clear hb1 HAT
  rcases hcase with ⟨ht, rfl⟩ | ⟨ht, G, rfl, hnd⟩
  · have HE : Shut (R = 0) := ⟨by rw [HR.out]; unfold schemaAtX; rw [if_neg (by rw [ht]; decide)]⟩
    rw [ptr_none]
    clear ht
    go_wp2_with fail
    go_loopg [5] 0 (fun _ p wr => p = .pointer none ∧ wr = w1)
    case atStart => exact ⟨rfl, rfl⟩
    case round =>
      obtain ⟨rfl, rfl⟩ := hrel
      go_wp2_with fail
      go_ret
      exact ⟨by rw [HE.out]; rfl, HB.out⟩
  · have HT := Shut.mk (tree_tall ht)
    have HND := Shut.mk hnd
    have HE : Shut (R = schemaF T.nodes 15 id) := ⟨by rw [HR.out]; unfold schemaAtX; rw [if_pos ht]⟩
    clear hnd ht
    obtain ⟨N, hN⟩ : ∃ N, ∀ j d, Ups T.nodes j d → j < T.nodes.length → d + 1 ≤ N := ⟨5, fun j d hu hj => by obtain ⟨d', hd, hu'⟩ := HT.out.2 j hj; rw [hu.det hu']; omega⟩
    have HNN := Shut.mk hN
    clear hN
    go_wp2_with fail
    go_loopg [5] N (fun m p wr => wr = w1 ∧ (Shut (p = .pointer none ∧ R = 0) ∨ Shut (∃ (j d r : Nat), p = .pointer (some ⟨G j, 0, none⟩) ∧ d + 1 ≤ m ∧ j < T.nodes.length ∧ Ups T.nodes j d ∧ schemaF T.nodes (d + 2 + r) (T.nodes.getD j default).id = R)))
    case atStart =>
      refine ⟨rfl, ?_⟩
      cases hf : fid T.nodes id with
      | none => exact .inl ⟨⟨rfl, by rw [HE.out]; exact schemaF_none hf⟩⟩
      | some j =>
        obtain ⟨hj, ej⟩ := fid_lt hf
        obtain ⟨d, hd, hu⟩ := HT.out.2 j hj
        refine .inr ⟨⟨j, d, 13 - d, rfl, HNN.out j d hu hj, hj, hu, ?_⟩⟩
        rw [HE.out, getD_in hj, ej, show d + 2 + (13 - d) = 15 by omega]
    case round =>
      obtain ⟨rfl, hrel⟩ := hrel
      rcases hrel with ⟨rfl, hR0⟩ | ⟨j, d, r, rfl, hdm, hj, hu, h1⟩
      · have HE0 := Shut.mk hR0
        clear hR0
        go_wp2_with fail
        go_ret
        exact ⟨by rw [HE0.out]; rfl, HB.out⟩
      · have c4 := (HND.out.cells j hj).2.2.2.2.1
        have hf := HT.out.1.fid hj
        have c9 := HND.out.above j hj hf
        have hge := getD_in hj
        obtain ⟨x, hx⟩ : ∃ x, x = T.nodes[j] := ⟨_, rfl⟩
        rw [← hx] at c4 c9 hge hf
        rw [hge, show d + 2 + r = (d + 1 + r) + 1 by omega, schemaF_some (i := j) hf, hge] at h1
        have HH := Shut.mk (And.intro h1 (And.intro hu hge))
        obtain ⟨o, ho⟩ : ∃ o, o = fid T.nodes x.parent := ⟨_, rfl⟩
        rw [← ho] at c9
        have HO := Shut.mk ho
        clear ho h1 hu hge hf hx
        by_cases hs : x.schema = 0
        · cases o with
          | none =>
            simp only [Option.map_none, ptr_none] at c9
            go_wp2_with fail
            go_roundg (gk - 1)
            case measure => omega
            case rel =>
              refine ⟨rfl, .inl ⟨⟨rfl, ?_⟩⟩⟩
              obtain ⟨h1, hu, hge⟩ := HH.out
              rw [if_neg (by simp [hs])] at h1
              rw [← h1, show d + 1 + r = (d + r) + 1 by omega]
              exact schemaF_none HO.out.symm
          | some k =>
            simp only [Option.map_some, ptr_some] at c9
            go_wp2_with fail
            go_roundg (gk - 1)
            case measure => omega
            case rel =>
              refine ⟨rfl, .inr ⟨?_⟩⟩
              obtain ⟨h1, hu, hge⟩ := HH.out
              rw [if_neg (by simp [hs])] at h1
              cases hu with
              | root =>
                have e0 := HT.out.1.2.2.2
                have h4 := HO.out
                rw [hge] at e0
                rw [e0, HT.out.1.zero] at h4
                cases h4
              | @step _ k' d' _ _ hk hu' =>
                rw [hge, ← HO.out] at hk
                cases hk
                obtain ⟨hkl, ek⟩ := fid_lt HO.out.symm
                refine ⟨k, d', r, rfl, by omega, hkl, hu', ?_⟩
                rw [← ek, ← getD_in hkl] at h1
                rw [← h1, show d' + 2 + r = d' + 1 + 1 + r by omega]
        · have hs' : (x.schema != 0) = true := by simp [hs]
          go_wp2_with fail
          go_ret
          refine ⟨?_, HB.out⟩
          obtain ⟨h1, hu, hge⟩ := HH.out
          rw [if_pos hs] at h1
          rw [← h1]
          rfl
end Go.Proofs.YthfmjjaollekiaaGreat
/- FpA: The program's own FindPath, at trees in which no Id is 0. -/
namespace Go.Proofs.YthfmjjaollekiaaGreat
set_option maxRecDepth 100000
open Go.RowKit Go.Maps BigFrame
attribute [local go_sem ↓] Go.wp_at_zero Go.wp_at_succ

theorem kid_keep9 (c : Int) (nm : ByteArray) : ∀ (ns : List NM) (z : Int), z ≠ 0 → ns.foldl (kidS c nm) z = z
  | [], z, _ => rfl
  | n :: ns, z, hz => by
    rw [List.foldl_cons]
    have : kidS c nm z n = z := by unfold kidS; rw [if_neg (by intro q; exact hz q.2.2)]
    rw [this]
    exact kid_keep9 c nm ns z hz
/-- Whom a name finds below another node is the first one that has it. -/
theorem kid_fnm (c : Int) (nm : ByteArray) : ∀ (ns : List NM), (∀ n ∈ ns, n.id ≠ 0) → kidF ns c nm = match fnm ns c nm with
    | none => 0
    | some k => (ns.getD k default).id
  | [], _ => rfl
  | n :: ns, h => by
    have ih := kid_fnm c nm ns (fun m hm => h m (by simp [hm]))
    unfold kidF fnm at ih ⊢
    rw [List.foldl_cons, List.findIdx?_cons]
    by_cases e : n.parent = c ∧ n.name = nm
    · have e1 : kidS c nm 0 n = n.id := by unfold kidS; rw [if_pos ⟨e.1, e.2, rfl⟩]
      rw [e1, kid_keep9 c nm ns n.id (h n (by simp)), if_pos (by simp [e.1, e.2])]
      rfl
    · have e1 : kidS c nm 0 n = 0 := by unfold kidS; rw [if_neg (by intro q; exact e ⟨q.1, q.2.1⟩)]
      rw [e1, ih, if_neg (by simpa using e)]
      cases ns.findIdx? (fun n => n.parent == c && decide (n.name = nm)) <;> rfl
/-- Down the names from a node, or from none. -/
def fo (ns : List NM) (o : Option Nat) (L : List ByteArray) : Int := match o with
  | none => 0
  | some j => findF ns L (ns.getD j default).id
theorem fo_step {ns : List NM} (hz : ∀ n ∈ ns, n.id ≠ 0) {j k : Nat} {L : List ByteArray} (hk : k < L.length) : fo ns (some j) (L.drop k) = fo ns (fnm ns (ns.getD j default).id (L.getD k ⟨#[]⟩)) (L.drop (k + 1)) := by
  show findF ns (L.drop k) (ns.getD j default).id = _
  rw [findF_step ns L k _ hk, kid_fnm _ _ ns hz]
  cases e : fnm ns (ns.getD j default).id (L.getD k ⟨#[]⟩) with
  | none => rfl
  | some q =>
    obtain ⟨hq, -, -⟩ := fnm_lt e
    have : (ns.getD q default).id ≠ 0 := by rw [getD_in hq]; exact hz _ (List.getElem_mem hq)
    simp only
    rw [if_neg this]
    rfl
theorem fo_first {T : TM} {p : ByteArray} {L : List ByteArray} (h : splitB p = (L, true)) : findX T p = fo T.nodes (fid T.nodes 1) L := by
  unfold findX
  rw [h, at_fid]
  cases e : fid T.nodes 1 with
  | none => simp [fo]
  | some j =>
    obtain ⟨hj, ej⟩ := fid_lt e
    simp only [fo]
    rw [if_pos ⟨trivial, by omega⟩, getD_in hj, ej]
theorem look_nil (s : ByteArray) (W : World) : (Instr.lookup 90 (.map none) (.string s) false).run Tryz.prog W = .ok (.pointer none) W := by kernel_rfl
theorem em_some (g : Nat) : mapV (some g) = .map (some g) := rfl
theorem em_none : mapV none = .map none := rfl
attribute [local irreducible] fo findX
set_option maxRecDepth 100000 in
set_option maxHeartbeats 2000000 in
theorem implFindPath (w : World) (v : Value) (T : TM) (lo hi : Nat) (p : ByteArray) (h : TSee w v T lo hi) (hf : NFit T) (hI : NInt T.nodes) (hz : ∀ n ∈ T.nodes, n.id ≠ 0) (hp : p.size ≤ 1048576) : Calls Tryz.prog 16 #[v, .string p] w fun e w' => e = .returned (.int .i64 (findX T p)) ∧ Below w.heap.size w w' := by
  have hsee := h
  obtain ⟨a, cap, rs, rfl, hr, hm⟩ := h
  have hl : rs.length ≤ 1048576 := by unfold NFit at hf; rw [← hr, nds_len] at hf; omega
  obtain ⟨n, hn⟩ : ∃ n, n = rs.length := ⟨_, rfl⟩
  obtain ⟨nx, hnx⟩ : ∃ nx, nx = T.next := ⟨_, rfl⟩
  rw [← hn, ← hnx] at hsee ⊢
  have hlk := fun W (hb : Below w.heap.size w W) => linkNodes_any (cap := cap) (hm.below hb) hl (by rw [hr]; exact hI) (fun x hx => by rw [hr] at hx; have := (fit_name hf x hx).1; unfold maxLen; omega)
  rw [← hn] at hlk
  have HLK := Shut.mk hlk
  have HR := Shut.mk hr
  have HF := Shut.mk hf
  have HI := Shut.mk hI
  have HZ := Shut.mk hz
  have HSP := Shut.mk (fun W => implSplitPath p W hp)
  obtain ⟨X, hX⟩ : ∃ X, X = findX T p := ⟨_, rfl⟩
  rw [← hX]
  have HX := Shut.mk hX
  have HNM := Shut.mk (splitB_names p)
  obtain ⟨L, ok, hre⟩ : ∃ L ok, splitB p = (L, ok) := ⟨_, _, rfl⟩
  have HRE := Shut.mk hre
  rw [hre] at HSP HNM
  unfold QPost at HSP
  clear hlk hr hm hsee hn hnx hX hre hf hI hz hp
  cases ok with
  | false =>
    have HE : Shut (X = 0) := ⟨by rw [HX.out]; unfold findX; rw [HRE.out]; simp⟩
    go_enter Tryz.func16, Tryz.ntmps16
    go_wp2_with (go_at_call 67; refine (HSP.out _).mono ?_; rintro e w1 ⟨sv, rfl, ho, hb1⟩; have HB1 := Shut.mk hb1; clear ho hb1)
    go_ret
    exact ⟨by rw [HE.out]; rfl, ((Below.refl _ _).alloc (Nat.le_refl _) _).trans (HB1.out.mono (by simp))⟩
  | true =>
    have HE : Shut (X = fo T.nodes (fid T.nodes 1) L) := ⟨by rw [HX.out]; exact fo_first HRE.out⟩
    clear HX HRE
    go_enter Tryz.func16, Tryz.ntmps16
    go_upto_region 4 with (go_at_call 67; refine (HSP.out _).mono ?_; rintro e w1 ⟨sv, rfl, ho, hb1⟩; have HO := Shut.mk (OwnAt.oans ho); have hbx := (BX.new w a n cap nx 26).below hb1; have HBX := Shut.mk hbx; have x0 := (hbx.box.2 0 _ rfl).1; clear ho hb1 hbx)
    obtain ⟨sa, sc, rfl, _, hcs⟩ := HO.out
    have HCS := Shut.mk hcs
    obtain ⟨m, hm⟩ : ∃ m, m = L.length := ⟨_, rfl⟩
    have HML := Shut.mk hm
    have hm4 : m ≤ 4 := by have := HNM.out.2; omega
    rw [← hm]
    clear hm hcs HO
    go_wp2_with fail
    refine (HLK.out _ HBX.out.bel).mono ?_
    rintro e w2 ⟨b1, b2, G, C, rfl, hL, hb2⟩
    have HCS2 : Shut (L = [] ∨ ∃ g off, sa = some ⟨g, off, none⟩ ∧ g < w2.heap.size ∧ OCells w2 g off L) := ⟨HCS.out.imp id (fun ⟨g, off, e1, _, e2, e3⟩ => ⟨g, off, e1, Nat.lt_of_lt_of_le e2 hb2.size, e3.below hb2 e2⟩)⟩
    have HB := Shut.mk (HBX.out.bel.trans (hb2.mono HBX.out.bel.size))
    have HL2 := Shut.mk hL
    clear hL hb2 x0 HCS
    go_upto_region 5 with fail
    obtain ⟨lb, hlb⟩ : ∃ lb, lb = w2.heap.size := ⟨_, rfl⟩
    refine wp_shade (fun W => Below w2.heap.size w2 W ∧ WCells W lb [.map (some b1), .map (some b2)]) ⟨(Below.refl _ _).alloc (Nat.le_refl _) _, by rw [hlb]; exact wcells_new w2 #[.map (some b1), .map (some b2)] 80⟩ ?_
    intro V hV
    rw [← hlb]
    clear hlb
    obtain ⟨hbV, hxV⟩ := hV
    have hLV := HL2.out.below hbV
    obtain ⟨D1, o1, t1⟩ := hLV.m1
    have k1 := look_ptr keyI Tryz.underlying77 zeroLp o1 (key_int (x := 1) (by decide)) (t1 1) 0
    rw [World.drewN_zero, HR.out] at k1
    have x0 := (hxV.2 0 _ rfl).1
    have HCS3 : Shut (L = [] ∨ ∃ g off, sa = some ⟨g, off, none⟩ ∧ g < V.heap.size ∧ OCells V g off L) := ⟨HCS2.out.imp id (fun ⟨g, off, e1, e2, e3⟩ => ⟨g, off, e1, Nat.lt_of_lt_of_le e2 hbV.size, e3.below hbV e2⟩)⟩
    have HBV := Shut.mk (HB.out.trans (hbV.mono HB.out.size))
    have HLV := Shut.mk hLV
    have HXV := Shut.mk hxV
    clear hbV hxV hLV o1 t1 HB HL2 HCS2
    go_wp2_with fail
    go_loopw [8, 26] (fun pv iv wr => ∃ (k : Nat) (o : Option Nat), pv = ptrV (o.map G) ∧ iv = .int .i64 k ∧ k ≤ m ∧ Shut ((∀ j, o = some j → j < T.nodes.length) ∧ X = fo T.nodes o (L.drop k)) ∧ Shut (Below V.heap.size V wr)) (fun _ iv _ => m - (intOf iv).toNat)
    case atStart => exact ⟨0, fid T.nodes 1, rfl, rfl, Nat.zero_le _, ⟨fun j hj => (fid_lt hj).1, by rw [List.drop_zero]; exact HE.out⟩, ⟨Below.refl _ _⟩⟩
    case round =>
      clear x0 k1
      obtain ⟨k, o, rfl, rfl, hk, HK, HW⟩ := hrel
      by_cases hlt : k < m
      case pos =>
        have hkL : k < L.length := by have := HML.out; omega
        have k0 : (0 : Int) ≤ (k : Int) := by omega
        have k1 : (k : Int) < (m : Int) := by omega
        obtain ⟨g, off, rfl, lg, hoc⟩ := HCS3.out.resolve_left (fun e => by rw [e] at hkL; simp at hkL)
        have c0 := (hoc.below HW.out lg).2 k hkL
        have hns : (L.getD k ⟨#[]⟩).size ≤ 8 := by
          have := HNM.out.1 L[k] (List.getElem_mem hkL)
          have e : L.getD k ⟨#[]⟩ = L[k] := by simp [List.getD, hkL]
          rw [e]
          exact ((nameB_iff _).1 this).2.2
        have HCS4 := Shut.mk hoc
        cases o with
        | none =>
          rw [Option.map_none, ptr_none]
          have HE0 : Shut (X = 0) := ⟨by rw [HK.out.2]; unfold fo; rfl⟩
          go_wp2_with fail
          go_ret
          exact ⟨by rw [HE0.out]; rfl, HBV.out.trans (HW.out.mono HBV.out.size)⟩
        | some j =>
          rw [Option.map_some, ptr_some]
          have hj := HK.out.1 j rfl
          have hLw := HLV.out.below HW.out
          have hst := fo_step HZ.out (j := j) hkL
          rw [← HK.out.2] at hst
          obtain ⟨s, hs⟩ : ∃ s, s = L.getD k ⟨#[]⟩ := ⟨_, rfl⟩
          rw [← hs] at c0 hns hst
          have hnd := hLw.nd
          rw [HR.out] at hnd
          have d0 := (hnd.cells j hj).1
          have hge := getD_in hj
          obtain ⟨x, hx⟩ : ∃ x, x = T.nodes[j] := ⟨_, rfl⟩
          have hxI := HI.out T.nodes[j] (List.getElem_mem hj)
          rw [← hx] at d0 hge hxI
          rw [hge] at hst
          have y1 := ((HXV.out.grow HW.out).2 1 _ rfl).1
          obtain ⟨D2, o2, t2⟩ := hLw.m2
          rw [HR.out] at t2
          have HST := Shut.mk hst
          by_cases hpar : Par T.nodes x.id
          · have k2 := look_map keyI Tryz.underlying78 zeroLm o2 (key_int hxI.1) ((t2 x.id).1 hpar)
            obtain ⟨d1, d2, d3, D3, o3, t3⟩ := hLw.m3 x.id (by rw [HR.out]; exact hpar)
            have k3 := look_ptr keyS Tryz.underlying90 zeroLp o3 (key_str (s := s) (by unfold maxLen; omega)) (t3 s)
            rw [HR.out] at k3
            rw [em_some] at k2
            obtain ⟨o', ho'⟩ : ∃ o', o' = fnm T.nodes x.id s := ⟨_, rfl⟩
            rw [← ho'] at k3
            have HN : Shut ((∀ q, o' = some q → q < T.nodes.length) ∧ X = fo T.nodes o' (L.drop (k + 1))) := ⟨fun q hq => by rw [ho'] at hq; exact (fnm_lt hq).1, by rw [ho']; exact HST.out⟩
            clear hnd hge hx hxI o2 t2 o3 t3 d1 d2 d3 hpar hst hLw hj hs ho' hoc
            go_wp2_with fail
            go_quiet (fail)
            have HBQ : Shut (Below V.heap.size V (wr.drewN nq)) := ⟨HW.out.trans ((Below.mono (B := (wr.drewN nq).heap.size) ⟨rfl, rfl, rfl, Nat.le_refl _, fun _ _ => rfl⟩ (Nat.le_refl _) : Below wr.heap.size wr (wr.drewN nq)).mono HW.out.size)⟩
            go_wp2_with fail
            go_roundw
            case rel => exact ⟨k + 1, o', rfl, by go_num, by omega, HN, HBQ⟩
            case measure => simp [intOf]; omega
          · have k2 := look_map keyI Tryz.underlying78 zeroLm o2 (key_int hxI.1) ((t2 x.id).2 hpar)
            rw [em_none] at k2
            have k3 := look_nil s
            have hfn : fnm T.nodes x.id s = none := by
              cases e : fnm T.nodes x.id s with
              | none => rfl
              | some q => exact absurd (par_fnm e) hpar
            have HN : Shut ((∀ q, (none : Option Nat) = some q → q < T.nodes.length) ∧ X = fo T.nodes none (L.drop (k + 1))) := ⟨fun q hq => (by cases hq), by rw [← hfn]; exact HST.out⟩
            clear hnd hge hx hxI o2 t2 hpar hst hLw hj hs hfn hoc
            go_wp2_with fail
            go_quiet (fail)
            have HBQ : Shut (Below V.heap.size V (wr.drewN nq)) := ⟨HW.out.trans ((Below.mono (B := (wr.drewN nq).heap.size) ⟨rfl, rfl, rfl, Nat.le_refl _, fun _ _ => rfl⟩ (Nat.le_refl _) : Below wr.heap.size wr (wr.drewN nq)).mono HW.out.size)⟩
            go_wp2_with fail
            go_roundw
            case rel => exact ⟨k + 1, none, rfl, by go_num, by omega, HN, HBQ⟩
            case measure => simp [intOf]; omega
      case neg =>
        have k1 : ¬ (k : Int) < (m : Int) := by omega
        have hdr : L.drop k = [] := List.drop_of_length_le (by have := HML.out; omega)
        cases o with
        | none =>
          rw [Option.map_none, ptr_none]
          have HE0 : Shut (X = 0) := ⟨by rw [HK.out.2]; unfold fo; rfl⟩
          go_wp2_with fail
          go_ret
          exact ⟨by rw [HE0.out]; rfl, HBV.out.trans (HW.out.mono HBV.out.size)⟩
        | some j =>
          rw [Option.map_some, ptr_some]
          have hj := HK.out.1 j rfl
          have hnd := (HLV.out.below HW.out).nd
          rw [HR.out] at hnd
          have d0 := (hnd.cells j hj).1
          obtain ⟨x, hx⟩ : ∃ x, x = T.nodes[j] := ⟨_, rfl⟩
          have HE0 : Shut (X = x.id) := ⟨by rw [HK.out.2, hdr, hx]; unfold fo; simp only [findF]; rw [getD_in hj]⟩
          rw [← hx] at d0
          clear hnd hx hdr hj
          go_wp2_with fail
          go_ret
          exact ⟨by rw [HE0.out]; rfl, HBV.out.trans (HW.out.mono HBV.out.size)⟩
end Go.Proofs.YthfmjjaollekiaaGreat
/- WayZ: Names of the nodes of a drawn tree hold no z, plain. Nothing of the program is read here. -/
namespace Go.Proofs.YthfmjjaollekiaaGreat
set_option maxRecDepth 100000

theorem segs_in {l s : List UInt8} {c : UInt8} (hs : s ∈ segs l) (hc : c ∈ s) : c = 47 ∨ c ∈ l := by
  have h := segs_back l
  have : c ∈ ((segs l).map (47 :: ·)).flatten := List.mem_flatten.2 ⟨47 :: s, List.mem_map.2 ⟨s, hs, rfl⟩, List.mem_cons_of_mem _ hc⟩
  rw [h] at this
  exact List.mem_cons.1 this
theorem split_in {l s : List UInt8} {c : UInt8} (hs : s ∈ (splitP l).1) (hc : c ∈ s) : c = 47 ∨ c ∈ l := by
  unfold splitP at hs
  cases l with
  | nil => simp at hs
  | cons d r =>
    simp only at hs
    split at hs
    · split at hs
      · simp at hs
      · split at hs
        · rcases segs_in hs hc with q | q
          · exact .inl q
          · exact .inr (List.mem_cons_of_mem _ q)
        · simp at hs
    · simp at hs
theorem noZ_split {p s : ByteArray} (h : noZ p = true) (hs : s ∈ (splitB p).1) : noZ s = true := by
  unfold splitB at hs
  obtain ⟨l, hl, rfl⟩ := List.mem_map.1 hs
  unfold noZ at h ⊢
  rw [List.all_eq_true] at h ⊢
  intro c hc
  rcases split_in hl (by simpa using hc) with q | q
  · subst q; rfl
  · exact h c q
theorem noZ_name {p : ByteArray} (h : noZ p = true) : noZ (parentB p).2.1 = true := by
  unfold parentB
  split
  · rename_i q
    show noZ ((splitB p).1.getLastD ⟨#[]⟩) = true
    rw [List.getLastD_eq_getLast?, List.getLast?_eq_some_getLast q.2]
    exact noZ_split h (List.getLast_mem q.2)
  · rfl
/-- No name holds a z. -/
def NZ (T : TM) : Prop := ∀ n ∈ T.nodes, noZ n.name = true
theorem NZ.set {T : TM} (h : NZ T) (k : Nat) (x : NM) (hx : noZ x.name = true) : NZ (setN T k x) := by
  intro n hn
  rcases List.mem_or_eq_of_mem_set hn with q | q
  · exact h n q
  · rw [q]; exact hx
theorem NZ.at {T : TM} (h : NZ T) (k : Nat) : noZ (ndAt T k).name = true := by
  unfold ndAt
  by_cases hk : k < T.nodes.length
  · rw [getD_at hk]; exact h _ (List.getElem_mem hk)
  · rw [List.getD_eq_getElem?_getD, List.getElem?_eq_none (by omega)]; rfl
theorem NZ.add {T : TM} (h : NZ T) {p : ByteArray} (hp : noZ p = true) (x : NM) : NZ (addX T p x).1 := by
  unfold addX
  split
  · exact h
  split
  · exact h
  split
  · exact h
  split
  · exact h
  · intro n hn
    simp only [addT] at hn
    rcases List.mem_append.1 hn with q | q
    · exact h n q
    · rw [List.mem_singleton.1 q]; exact noZ_name hp
theorem NZ.apply {T : TM} (h : NZ T) {e : EM} (he : EPl e) (g : Int) : NZ (applyX T e g).1 := by
  have hs : ∀ k x, x.name = (ndAt T k).name → NZ (setN T k x) := fun k x hx => h.set k x (by rw [hx]; exact h.at k)
  unfold applyX
  split
  · exact h
  split
  · exact h
  split
  · exact h.add he.1.2 _
  split
  · exact h.add he.1.2 _
  split
  · exact h
  split
  · unfold moveX
    split
    · exact h
    split
    · exact h
    split
    · exact h
    split
    · exact h
    split
    · exact h
    · exact h.set _ _ (noZ_name he.2.2)
  split
  · intro n hn
    exact h n (List.mem_filter.1 hn).1
  split
  · unfold setX
    split
    · exact h
    split
    · exact hs _ _ rfl
    split
    · exact h
    · exact hs _ _ rfl
  · unfold writeX
    split
    · exact h
    split
    · exact h
    split
    · exact hs _ _ rfl
    split
    · exact hs _ _ rfl
    split
    · exact h
    split
    · exact h
    · exact hs _ _ rfl
theorem NZ.all (es : List EM) : ∀ s : TM × Int, NZ s.1 → (∀ e ∈ es, EPl e) → NZ (es.foldl stepX s).1 := by
  induction es with
  | nil => intro s h _; exact h
  | cons e es ih =>
    intro s h he
    rw [List.foldl_cons]
    refine ih _ ?_ (fun x hx => he x (by simp [hx]))
    unfold stepX
    split
    · exact h.apply (he e (by simp)) _
    · exact h
theorem drawn_nz {es : List EM} (he : ∀ e ∈ es, EPl e) : NZ (allX newX es 1).1 := NZ.all es (newX, 1) (fun n hn => by
  rw [List.mem_singleton.1 hn]; rfl) he
/-- A path with a z leads nowhere. -/
theorem find_zz {T : TM} (h : treeOk T = true) (hz : NZ T) : findX T ⟨#[47, 122, 122]⟩ = 0 := by
  by_cases h0 : findX T ⟨#[47, 122, 122]⟩ = 0
  · exact h0
  obtain ⟨n, K, hw, _, _, _, e⟩ := found_way h h0
  have e2 : splitB ⟨#[47, 122, 122]⟩ = ([⟨#[122, 122]⟩], true) := by decide
  rw [e2] at e
  have e3 : [⟨#[122, 122]⟩] = K.map NM.name := (Prod.mk.inj e).1
  cases K with
  | nil => simp at e3
  | cons m K =>
    have e4 : (⟨#[122, 122]⟩ : ByteArray) = m.name := (List.cons.inj e3).1
    have := hz m (hw.all m (by simp)).1
    rw [← e4] at this
    exact absurd this (by decide)
end Go.Proofs.YthfmjjaollekiaaGreat
/- LkK: The program's own BelowOf. -/
namespace Go.Proofs.YthfmjjaollekiaaGreat
set_option maxRecDepth 100000
open Go.RowKit Go.Maps BigFrame
attribute [local go_sem ↓] Go.wp_at_zero Go.wp_at_succ

/-- Those of a row of nodes that are below an Id, or have it. -/
def blwL (all ns : List NM) (top : Int) : List Int := (ns.filter fun n => decide (top ≠ 0) && belowF all 15 n.id top).map NM.id
theorem blwL_take (all ns : List NM) (top : Int) (k : Nat) (h : k < ns.length) : blwL all (ns.take (k + 1)) top = blwL all (ns.take k) top ++ if (decide (top ≠ 0) && belowF all 15 ns[k].id top) = true then [ns[k].id] else [] := by
  rw [List.take_succ_eq_append_getElem h]
  unfold blwL
  rw [List.filter_append, List.map_append]
  congr 1
  simp only [List.filter_cons, List.filter_nil]
  split <;> simp
theorem blwL_len (all ns : List NM) (top : Int) : (blwL all ns top).length ≤ ns.length := by
  unfold blwL
  rw [List.length_map]
  exact List.length_filter_le _ _
theorem blwL_is {T : TM} (h : treeOk T = true) (id : Int) : blwL T.nodes T.nodes id = belowX T id := by
  have ht := tree_tall h
  unfold belowX blwL
  cases hf : fid T.nodes id with
  | none =>
    rw [if_neg (by rw [at_fid, hf]; simp)]
    rw [List.map_eq_nil_iff, List.filter_eq_nil_iff]
    intro n hn hc
    obtain ⟨i, hi, rfl⟩ := List.mem_iff_getElem.1 hn
    obtain ⟨d, _, hu⟩ := ht.2 i hi
    simp only [Bool.and_eq_true, decide_eq_true_eq] at hc
    have := belowF_no ht.1 hf hc.1 hu 15
    rw [getD_in hi, hc.2] at this
    cases this
  | some i =>
    rw [if_pos ⟨h, by rw [at_fid, hf]; simp⟩]
    obtain ⟨hi, e⟩ := fid_lt hf
    have h0 : id ≠ 0 := by have := ht.1.pos hi; omega
    unfold belowL
    congr 2
    funext n
    simp [h0]
set_option maxRecDepth 100000 in
set_option maxHeartbeats 2000000 in
theorem implBelowOf (w : World) (v : Value) (T : TM) (lo hi : Nat) (id : Int) (h : TSee w v T lo hi) (hf : NFit T) (hI : NInt T.nodes) : Calls Tryz.prog 18 #[v, .int .i64 id] w fun e w' => IPost (belowX T id) w e w' := by
  have hsee := h
  obtain ⟨a, cap, rs, rfl, hr, hm⟩ := h
  have hlen : rs.length = T.nodes.length := by rw [← hr, nds_len]
  have hl : rs.length ≤ 1048576 := by unfold NFit at hf; omega
  have hget : ∀ j (hj : j < rs.length), ∃ hj' : j < T.nodes.length, T.nodes[j] = rs[j].nd := fun j hj => by
    refine ⟨by rw [← hr, nds_len]; exact hj, ?_⟩
    rw [List.getElem_of_eq hr.symm]
    simp [nds]
  obtain ⟨n, hn⟩ : ∃ n, n = rs.length := ⟨_, rfl⟩
  obtain ⟨nx, hnx⟩ : ∃ nx, nx = T.next := ⟨_, rfl⟩
  rw [← hn, ← hnx] at hsee ⊢
  have hok := fun W (hb : Below w.heap.size w W) => implTreeOk W _ T lo hi (hsee.below hb) hf hI
  have hlk := fun W (hb : Below w.heap.size w W) => linkNodes_any (cap := cap) (hm.below hb) hl (by rw [hr]; exact hI) (fun x hx => by rw [hr] at hx; have := (fit_name hf x hx).1; unfold maxLen; omega)
  rw [← hn] at hlk hl hlen
  obtain ⟨R, hR⟩ : ∃ R, R = belowX T id := ⟨_, rfl⟩
  rw [← hR]
  have HOK := Shut.mk hok
  have HLK := Shut.mk hlk
  have HE := Shut.mk hr
  have HM := Shut.mk hm
  have HN := Shut.mk hn
  have HL := Shut.mk hlen
  have HG := Shut.mk hget
  have HR := Shut.mk hR
  have HI := Shut.mk hI
  clear hok hlk hr hm hsee hn hnx hlen hget hR hI hf
  cases ht : treeOk T with
  | false =>
    rw [ht] at HOK
    have HF : Shut (R = []) := ⟨by rw [HR.out]; unfold belowX; rw [if_neg (by rw [ht]; simp)]⟩
    clear ht
    go_enter Tryz.func18, Tryz.ntmps18
    go_wp2_with (go_at_call 14; refine (HOK.out _ ((Below.refl _ _).alloc (Nat.le_refl _) _)).mono ?_; rintro e w1 ⟨rfl, hb1⟩)
    go_ret
    exact ⟨_, rfl, by rw [HF.out]; exact IAns.empty _ _ _ _ _, ((Below.refl _ _).alloc (Nat.le_refl _) _).trans (hb1.mono (by simp))⟩
  | true =>
    rw [ht] at HOK
    have HT := Shut.mk (tree_tall ht)
    have HRR : Shut (R = blwL T.nodes T.nodes id) := ⟨by rw [HR.out, blwL_is ht]⟩
    have h14 : n ≤ 14 := by have := treeOk_14 ht; have := HL.out; omega
    obtain ⟨t0, ht0, hty0, hty1, hty2⟩ := info_parts infoIntG
    clear ht
    go_enter Tryz.func18, Tryz.ntmps18
    go_wp2_with (go_at_call 14; refine (HOK.out _ ((Below.refl _ _).alloc (Nat.le_refl _) _)).mono ?_; rintro e w1 ⟨rfl, hb1⟩; have hbx := (BX.new w a n cap nx 26).below hb1; have HBX := Shut.mk hbx; have x0 := (hbx.box.2 0 _ rfl).1; clear hb1 hbx)
    refine (HLK.out _ HBX.out.bel).mono ?_
    rintro e w2 ⟨b1, b2, G, C, rfl, hL, hb2⟩
    have HB2 := Shut.mk (HBX.out.below hb2)
    have HL2 := Shut.mk (hL.base HBX.out.bel.size)
    clear hL hb2 x0 HBX
    have x0 := (HB2.out.box.2 0 _ rfl).1
    have lx := HB2.out.box.1
    go_upto_region 5 with fail
    refine wp_shade (fun W => BL w W a n cap nx w2.heap.size b1 b2 rs G C) ?_ ?_
    · have hb : Below w2.heap.size w2 (w2.alloc (.cells #[.map (some b1), .map (some b2)] 80)) := (Below.refl _ _).alloc (Nat.le_refl _) _
      exact ⟨HB2.out.below hb, wcells_new w2 #[.map (some b1), .map (some b2)] 80, HL2.out.below hb⟩
    intro V hV
    have HV := Shut.mk hV
    clear hV x0
    have x0 := (HV.out.bx.box.2 0 _ rfl).1
    obtain ⟨L, hL⟩ : ∃ L, L = w2.heap.size := ⟨_, rfl⟩
    rw [← hL] at HV ⊢
    clear HB2 HL2 hL lx HLK HOK
    go_wp2_with fail
    go_loopw [6, 18] (fun ov iv wr => ∃ (k l : Nat) (vv : Value), vv = ov ∧ iv = .int .i64 k ∧ k ≤ n ∧ l ≤ k ∧ Shut (l = (blwL T.nodes (T.nodes.take k) id).length) ∧ Shut (Below V.heap.size V wr ∧ wr.ownsRow V.heap.size 3 1 vv l (ics (blwL T.nodes (T.nodes.take k) id)))) (fun _ iv _ => n - (intOf iv).toNat)
    case atStart => exact ⟨0, 0, _, rfl, rfl, Nat.zero_le _, Nat.le_refl _, ⟨by simp [blwL]⟩, ⟨Below.refl _ _, by simpa [blwL, ics] using World.ownsRow_nil V V.heap.size 3 1⟩⟩
    case round =>
      clear x0
      obtain ⟨k, l, ov, rfl, rfl, hk, hlk, HK, HW⟩ := hrel
      have hW := HV.out.below HW.out.1
      have v0 := (hW.vr.2 0 _ rfl).1
      by_cases hlt : k < n
      · have hkr : k < rs.length := by rw [← HN.out]; exact hlt
        obtain ⟨b, off, rfl, lb, hc⟩ := TR.nat HM.out (by omega)
        have hnk := (hc k hkr).below hW.bx.bel lb
        obtain ⟨hkT, hge⟩ := HG.out k hkr
        have hst := blwL_take T.nodes T.nodes id k hkT
        obtain ⟨D1, o1, t1⟩ := hW.lk.m1
        have hfi := HT.out.1.fid hkT
        have hmem : T.nodes[k] ∈ T.nodes := List.getElem_mem hkT
        have f1 := (HI.out _ hmem).1
        have htk := t1 T.nodes[k].id
        rw [HE.out, hfi] at htk
        have hnd := hW.lk.nd
        rw [HE.out] at hnd
        have hbe : blw T.nodes k id = (decide (id ≠ 0) && belowF T.nodes 15 rs[k].nd.id id) := by unfold blw; rw [getD_in hkT, hge]
        have hib := fun W' (hb : Below wr.heap.size wr W') => isBelow_any (hnd.below hb) HT.out hkT id
        rw [hge] at hst f1 htk
        rw [hbe] at hib
        obtain ⟨r, hr⟩ : ∃ r, r = rs[k] := ⟨_, rfl⟩
        rw [← hr] at hnk hst f1 htk hib
        have k1 := look_ptr keyI Tryz.underlying77 zeroLp (o1.alloc (.cells #[.int .i64 r.nd.id, .int .i64 r.nd.parent, .string r.nd.name, .bool r.nd.dir, .int .i64 r.nd.schema, .int .i64 r.nd.quota, .int .i64 r.nd.len, .slice r.loc r.nd.pieces.length r.cap, .int .i64 r.nd.writer] 31)) (key_int f1) htk 0
        rw [World.drewN_zero] at k1
        simp only [Option.map_some, ptr_some] at k1
        have hba : Below wr.heap.size wr (wr.alloc (.cells #[.int .i64 r.nd.id, .int .i64 r.nd.parent, .string r.nd.name, .bool r.nd.dir, .int .i64 r.nd.schema, .int .i64 r.nd.quota, .int .i64 r.nd.len, .slice r.loc r.nd.pieces.length r.cap, .int .i64 r.nd.writer] 31)) := (Below.refl _ _).alloc (Nat.le_refl _) _
        have HIB := Shut.mk (hib _ hba)
        have HBA := Shut.mk hba
        have HST := Shut.mk hst
        have lv := hW.vr.1
        have lb' : b < wr.heap.size := Nat.lt_of_lt_of_le lb hW.bx.bel.size
        have k0 : (0 : Int) ≤ (k : Int) := by omega
        have k2 : (k : Int) < (n : Int) := by omega
        have hsv : V.heap.size ≤ wr.heap.size := HW.out.1.size
        have HOW := Shut.mk (HW.out.2.alloc (.cells #[.int .i64 r.nd.id, .int .i64 r.nd.parent, .string r.nd.name, .bool r.nd.dir, .int .i64 r.nd.schema, .int .i64 r.nd.quota, .int .i64 r.nd.len, .slice r.loc r.nd.pieces.length r.cap, .int .i64 r.nd.writer] 31))
        obtain ⟨c0, c1, c2, c3, c4, c5, c6, c7, c8⟩ := hnk
        obtain ⟨bb, hbb⟩ : ∃ bb, bb = (decide (id ≠ 0) && belowF T.nodes 15 r.nd.id id) := ⟨_, rfl⟩
        rw [← hbb] at HIB HST
        clear hc hr hst hfi hmem f1 htk hnd hbe hib hba o1 t1 hW hge hbb
        cases bb with
        | false =>
          have HS' : Shut (blwL T.nodes (T.nodes.take (k + 1)) id = blwL T.nodes (T.nodes.take k) id) := ⟨by rw [HST.out]; simp⟩
          go_wp2_with (go_at_call 70; refine HIB.out.mono ?_; rintro e w9 ⟨rfl, rfl⟩)
          go_roundw
          case rel => exact ⟨k + 1, l, ov, rfl, by go_num, by omega, by omega, ⟨by rw [HS'.out]; exact HK.out⟩, ⟨HW.out.1.trans (HBA.out.mono hsv), by rw [HS'.out]; exact HOW.out⟩⟩
          case measure => simp [intOf]; omega
        | true =>
          have HS' : Shut (blwL T.nodes (T.nodes.take (k + 1)) id = blwL T.nodes (T.nodes.take k) id ++ [r.nd.id]) := ⟨by rw [HST.out]; simp⟩
          go_upto_region 9 with (go_at_call 70; refine HIB.out.mono ?_; rintro e w9 ⟨rfl, rfl⟩)
          refine wp_shade (fun W => Below wr.heap.size wr W ∧ W.cell? ⟨wr.heap.size, 0, none⟩ = some (.int .i64 r.nd.id)) ⟨HBA.out, by simp⟩ ?_
          intro W9 hW9
          obtain ⟨hb9, d0⟩ := hW9
          have ho9 := HW.out.2.kept (row := none) ⟨hb9.os, hb9.tape, hb9.output, hb9.size, fun k hk _ => hb9.block k hk⟩ (Classical.em _)
          have hs9 : V.heap.size ≤ W9.heap.size := Nat.le_trans hsv hb9.size
          have HB9 := Shut.mk hb9
          clear hb9 HBA HOW c0 c1 c2 c3 c4 c5 c6 c7 c8 k1 v0
          go_wp2_with (at_builtin; refine wpList_append_own _ rfl _ _ 36 rfl V.heap.size 3 t0 (.int .i64 0) 1 8 Tryz.underlying36 ht0 hty0 hty1 hty2 rfl (by decide) _ _ _ rfl (ho9.alloc _) ⟨W9.heap.size, 0, none⟩ 1 1 [.int .i64 r.nd.id] rfl rfl (cell_one_new _ _ _) ?c2 ?c3 ?c4 ?c5 ?_)
          case c2 => first | rfl | (intro u hu; simp at hu; subst hu; rfl)
          case c3 => unfold maxLen; omega
          case c4 => omega
          case c5 => first | omega | (simp; omega)
          intro v' w10 ho10 hgrow _
          rw [ics_snoc9, ← HS'.out] at ho10
          have HGZ : Shut (Below V.heap.size V w10 ∧ w10.ownsRow V.heap.size 3 1 v' (l + 1) (ics (blwL T.nodes (T.nodes.take (k + 1)) id))) := ⟨((HW.out.1.trans (HB9.out.mono hsv)).alloc hs9 _).grown hgrow (by simp; omega) (fun j hj => (ho9.lt j hj).1), ho10⟩
          clear hgrow ho10 ho9
          go_wp2_with fail
          go_roundw
          case rel => exact ⟨k + 1, l + 1, v', rfl, by go_num, by omega, by omega, ⟨by rw [HS'.out, List.length_append, List.length_singleton, ← HK.out]⟩, HGZ⟩
          case measure => simp [intOf]; omega
      · have k1 : ¬ (k : Int) < (n : Int) := by omega
        have hall : T.nodes.take k = T.nodes := List.take_of_length_le (by have := HL.out; omega)
        have ho := HW.out.2
        have hlen := HK.out
        rw [hall, ← HRR.out] at ho hlen
        have HO := Shut.mk ho
        have HBV : Shut (Below w.heap.size w wr) := ⟨hW.bx.bel⟩
        have hsz : w.heap.size ≤ V.heap.size := HV.out.bx.bel.size
        clear ho hall hW
        go_wp2_with fail
        go_ret
        exact ⟨_, rfl, own_ians hlen.symm (own_wider9 HO.out hsz), HBV.out⟩
end Go.Proofs.YthfmjjaollekiaaGreat
/- LkO: The program's own PathOf. -/
namespace Go.Proofs.YthfmjjaollekiaaGreat
set_option maxRecDepth 100000
open Go.RowKit Go.Maps Go.Sort BigFrame
attribute [local go_sem ↓] Go.wp_at_zero Go.wp_at_succ

theorem tv_enc (L : List ByteArray) : tv L = (L.map fun s => s.data.toList).map encStr := by
  unfold tv
  rw [List.map_map]
  exact List.map_congr_left fun s _ => by simp [encStr]
/-- A row of texts of its own is turned round. -/
theorem reverse_any {w : World} {B : Nat} {v : Value} {L : List ByteArray} (h : w.ownsRow B 9 1 v L.length (tv L)) (hl : L.length ≤ 1048576) :
    Calls Tryz.prog 65 #[v] w fun e w' => e = .returned (.tuple #[]) ∧ w'.ownsRow B 9 1 v L.length (tv L.reverse) ∧ Below B w w' := by
  rcases h.2 with ⟨rfl, h0⟩ | ⟨g, cap, cur, rfl, hbase, hb, h1, h2, h3, h4⟩
  · have hL : L = [] := by
      cases L with
      | nil => rfl
      | cons x r => simp at h0
    subst hL
    refine (Tryz.slices_Reverse_string_empty none 0 w).mono ?_
    rintro e w' ⟨rfl, rfl⟩
    exact ⟨rfl, h, Below.refl _ _⟩
  · have hll : (L.map fun s => s.data.toList).length = L.length := by simp
    rw [tv_enc] at h4
    have hH : Holds encStr w g 0 (L.map fun s => s.data.toList).toArray := holds_of_block hb (by rw [hll]; simpa using h4)
    have hc := Tryz.slices_Reverse_string g 0 cap (L.map fun s => s.data.toList) w hH (by rw [hll]; omega)
    rw [hll] at hc
    refine hc.mono ?_
    rintro e w' ⟨rfl, q, rfl⟩
    have hgr : ∀ W : World, grow W #[] = W := fun W => by simp [grow]
    have hrow := ownsRow_sorted (n := q) (os := #[]) (ss := L.map fun s => s.data.toList) (ts := (L.map fun s => s.data.toList).reverse) (by simp) hbase hb (by rw [hll]; exact h1) h2 h3
    have hgb := grownBy_sorted (w := w) (g := g) (n := q) (os := #[]) (L.map fun s => s.data.toList).reverse.toArray
    rw [hgr] at hrow hgb
    rw [hll] at hrow
    refine ⟨rfl, ?_, ?_⟩
    · rw [tv_enc, List.map_reverse]
      exact hrow
    · have hBw : B ≤ w.heap.size := by have := (Array.getElem?_eq_some_iff.1 hb).1; omega
      exact (Below.refl _ _).grown hgb hBw (fun j hj => by cases hj; exact hbase)
theorem own_csee {w : World} {B : Nat} {v : Value} {L : List ByteArray} (h : w.ownsRow B 9 1 v L.length (tv L)) : CSee w v L 0 w.heap.size := by
  have h' := h
  rcases h.2 with ⟨rfl, h0⟩ | ⟨g, cap, cur, rfl, hbase, hb, h1, h2, h3, h4⟩
  · have hL : L = [] := by
      cases L with
      | nil => rfl
      | cons x r => simp at h0
    subst hL
    exact ⟨none, 0, rfl, Nat.le_refl _, fun h => by simp [tv] at h⟩
  · exact ⟨some ⟨g, 0, none⟩, cap, rfl, h1, RRow.of_crow (own_wcells h').crow⟩
set_option maxRecDepth 100000 in
set_option maxHeartbeats 2000000 in
theorem implPathOf (w : World) (v : Value) (T : TM) (lo hi : Nat) (id : Int) (h : TSee w v T lo hi) (hf : NFit T) (hI : NInt T.nodes) (hid : (Lit.int .i64 id).wf = true) : Calls Tryz.prog 15 #[v, .int .i64 id] w fun e w' => e = .returned (.string (pathX T id)) ∧ Below w.heap.size w w' := by
  have hsee := h
  obtain ⟨a, cap, rs, rfl, hr, hm⟩ := h
  obtain ⟨n, hn⟩ : ∃ n, n = rs.length := ⟨_, rfl⟩
  obtain ⟨nx, hnx⟩ : ∃ nx, nx = T.next := ⟨_, rfl⟩
  rw [← hn, ← hnx] at hsee ⊢
  have hat := fun W (hb : Below w.heap.size w W) => nodeAt_any W _ T lo hi id (hsee.below hb) hf hI hid
  have HAT := Shut.mk hat
  obtain ⟨R, hR⟩ : ∃ R, R = pathX T id := ⟨_, rfl⟩
  rw [← hR]
  have HR := Shut.mk hR
  clear hat hr hm hsee hn hnx hR hf hI hid
  go_enter Tryz.func15, Tryz.ntmps15
  go_wp2_with fail
  refine (HAT.out _ ((Below.refl _ _).alloc (Nat.le_refl _) _)).mono ?_
  rintro e w1 ⟨o, rfl, hb1, hcase⟩
  have HB := Shut.mk (((Below.refl w.heap.size w).alloc (Nat.le_refl _) (.cells #[.slice a n cap, .int .i64 nx] 26)).trans (hb1.mono (by simp)))
  clear hb1 HAT
  rcases hcase with ⟨ht, rfl⟩ | ⟨ht, G, rfl, hnd⟩
  · have HE : Shut (R = ⟨#[]⟩) := ⟨by rw [HR.out]; unfold pathX; rw [if_neg (by rw [ht]; decide)]⟩
    rw [ptr_none]
    clear ht
    go_wp2_with fail
    go_ret
    exact ⟨by rw [HE.out]; rfl, HB.out⟩
  · have HT := Shut.mk (tree_tall ht)
    have HNM := Shut.mk (fun i hi h1 => treeOk_name ht (i := i) hi h1)
    have HND := Shut.mk hnd
    have HE : Shut (R = pathF T.nodes 15 id []) := ⟨by rw [HR.out]; unfold pathX; rw [if_pos ht]⟩
    obtain ⟨t0, ht0, hty0, hty1, hty2⟩ := info_parts infoTextG
    clear hnd ht HR
    cases hf : fid T.nodes id with
    | none =>
      have HF : Shut (R = ⟨#[]⟩) := ⟨by
        rw [HE.out]
        exact pathF_none (fun e => by rw [e, HT.out.1.one] at hf; cases hf) hf⟩
      rw [Option.map_none, ptr_none]
      clear hf
      go_wp2_with fail
      go_ret
      exact ⟨by rw [HF.out]; rfl, HB.out⟩
    | some i0 =>
      obtain ⟨hi0, ei0⟩ := fid_lt hf
      obtain ⟨d0, hd0, hu0⟩ := HT.out.2 i0 hi0
      have HU0 := Shut.mk hu0
      rw [Option.map_some, ptr_some]
      have HI0 : Shut (pathF T.nodes (d0 + 1 + (14 - d0)) (T.nodes.getD i0 default).id [].reverse = R) := ⟨by rw [HE.out, getD_in hi0, ei0, show d0 + 1 + (14 - d0) = 15 by omega]; rfl⟩
      clear hf ei0 hu0 HE
      go_wp2_with fail
      go_loopg [5, 6] (d0 + 1) (fun q p nv wr => ∃ vv, vv = nv ∧ ∃ (j d l : Nat), p = .pointer (some ⟨G j, 0, none⟩) ∧ d + 1 ≤ q ∧ j < T.nodes.length ∧ l + d ≤ 4 ∧ Shut (∃ (acc : List ByteArray) (r : Nat), l = acc.length ∧ Ups T.nodes j d ∧ (∀ s ∈ acc, nameB s = true) ∧ pathF T.nodes (d + 1 + r) (T.nodes.getD j default).id acc.reverse = R ∧ Below w1.heap.size w1 wr ∧ wr.ownsRow w1.heap.size 9 1 vv acc.length (tv acc)))
      case atStart => exact ⟨_, rfl, i0, d0, 0, rfl, Nat.le_refl _, hi0, by omega, ⟨[], 14 - d0, rfl, HU0.out, by simp, HI0.out, Below.refl _ _, by simpa [tv] using World.ownsRow_nil w1 w1.heap.size 9 1⟩⟩
      case round =>
        clear HI0 HU0
        obtain ⟨vv, rfl, j, d, l, rfl, hdm, hj, hld, hrel⟩ := hrel
        obtain ⟨acc, r, hla, hu, hacc, h1, hbw, hrow⟩ := hrel.out
        have hnw := HND.out.below hbw
        have c2 := (hnw.cells j hj).2.2.1
        have lj := (hnw.cells j hj).2.2.2.2.2.2
        have hf := HT.out.1.fid hj
        have c9 := hnw.above j hj hf
        have hge := getD_in hj
        have hnm := HNM.out j hj
        obtain ⟨x, hx⟩ : ∃ x, x = T.nodes[j] := ⟨_, rfl⟩
        rw [← hx] at c2 c9 hge hf
        rw [hge] at h1 hnm
        obtain ⟨o, ho⟩ : ∃ o, o = fid T.nodes x.parent := ⟨_, rfl⟩
        rw [← ho] at c9
        have HO := Shut.mk ho
        have HB1 := Shut.mk (HB.out.trans (hbw.mono HB.out.size))
        have HBW := Shut.mk hbw
        have HH := Shut.mk (And.intro h1 (And.intro hu (And.intro hge (And.intro hf (And.intro hacc hnm)))))
        have hsw : w1.heap.size ≤ wr.heap.size := hbw.size
        clear ho h1 hu hge hf hx hnw hrel hacc hnm hbw
        cases o with
        | none =>
          simp only [Option.map_none, ptr_none] at c9
          have HRV := Shut.mk (reverse_any hrow (by omega))
          have HJ : Shut (joinB acc.reverse = R ∧ TFit acc.reverse) := ⟨by
            obtain ⟨h1, hu, hge, hf, hacc, hnm⟩ := HH.out
            refine ⟨?_, names_fit' (fun s hs => hacc s (by simpa using hs)) (by simp; omega)⟩
            rw [← h1]
            cases hu with
            | root =>
              have e1 := HT.out.1.2.2.1
              rw [hge] at e1
              rw [show 0 + 1 + r = r + 1 by omega]
              exact (pathF_one e1).symm
            | step _ _ hk _ =>
              rw [hge, ← HO.out] at hk
              cases hk⟩
          clear hrow c2
          go_wp2_with (first
            | (go_at_call 65; refine HRV.out.mono ?_; rintro e w3 ⟨rfl, hrow3, hb3⟩; have HJP := Shut.mk (implJoinPath w3 vv acc.reverse 0 w3.heap.size (own_csee (by simpa using hrow3)) HJ.out.2); have HB3 := Shut.mk hb3; clear hrow3 hb3)
            | (go_at_call 66; refine HJP.out.mono ?_; rintro e w4 ⟨rfl, hb4⟩))
          go_ret
          refine ⟨by rw [← HJ.out.1]; rfl, ?_⟩
          have hb5 : Below w.heap.size w w3 := HB1.out.trans (HB3.out.mono HB.out.size)
          exact hb5.trans (hb4.mono hb5.size)
        | some k =>
          simp only [Option.map_some, ptr_some] at c9
          go_wp2_with (at_builtin; refine wpList_append_own _ rfl _ _ 34 rfl w1.heap.size 9 t0 (.string ⟨#[]⟩) 1 16 Tryz.underlying34 ht0 hty0 hty1 hty2 rfl (by decide) _ _ _ rfl (hrow.alloc _) ⟨wr.heap.size, 0, none⟩ 1 1 [.string x.name] rfl rfl (cell_one_new _ _ _) ?c2 ?c3 ?c4 ?c5 ?_)
          case c2 => first | rfl | (intro u hu; simp at hu; subst hu; rfl)
          case c3 => unfold maxLen; omega
          case c4 => omega
          case c5 => first | omega | (simp; omega)
          intro v' w10 ho10 hgrow _
          have hb10 : Below w1.heap.size w1 w10 := (HBW.out.alloc hsw _).grown hgrow (by simp; omega) (fun q hq => (hrow.lt q hq).1)
          have d9 := (HND.out.below hb10).above j hj (HT.out.1.fid hj)
          have hxe : T.nodes[j] = x := by have := HH.out.2.2.1; rw [getD_in hj] at this; exact this
          rw [hxe, ← HO.out] at d9
          simp only [Option.map_some, ptr_some] at d9
          have HRN : Shut (w10.ownsRow w1.heap.size 9 1 v' (acc ++ [x.name]).length (tv (acc ++ [x.name]))) := ⟨by
            have e1 : tv (acc ++ [x.name]) = tv acc ++ [.string x.name] := by simp [tv]
            rw [e1, List.length_append, List.length_singleton]
            exact ho10⟩
          have HB10 := Shut.mk hb10
          clear ho10 hgrow hb10 hrow c9 c2 hxe
          go_wp2_with fail
          go_roundg (gk - 1)
          case measure => omega
          case rel =>
            obtain ⟨h1, hu, hge, hf, hacc, hnm⟩ := HH.out
            cases hu with
            | root =>
              have e0 := HT.out.1.2.2.2
              have h4 := HO.out
              rw [hge] at e0
              rw [e0, HT.out.1.zero] at h4
              cases h4
            | @step _ k' d' _ hj0 hk hu' =>
              rw [hge, ← HO.out] at hk
              cases hk
              obtain ⟨hkl, ek⟩ := fid_lt HO.out.symm
              have hne : x.id ≠ 1 := fun e => by
                have := HT.out.1.id_one hj
                rw [hge, e] at this
                simp [hj0] at this
              refine ⟨v', rfl, k, d', l + 1, rfl, by omega, hkl, by omega, ⟨acc ++ [x.name], r, by rw [List.length_append, List.length_singleton, hla], hu', fun s hs => ?_, ?_, HB10.out, HRN.out⟩⟩
              · rcases List.mem_append.1 hs with h | h
                · exact hacc s h
                · rw [List.mem_singleton.1 h]
                  exact hnm hne
              · rw [show d' + 1 + 1 + r = (d' + 1 + r) + 1 by omega, pathF_some hne hf, hge, ← ek] at h1
                rw [getD_in hkl, List.reverse_append, List.reverse_singleton]
                exact h1
end Go.Proofs.YthfmjjaollekiaaGreat
/- LawTre: The walks of the exact laws over trees whose answers are a number, a text or a flag, over what is told of the program's own functions at every argument (written by gen/mklawtree.py). -/
namespace Go.Proofs.YthfmjjaollekiaaGreat
set_option maxRecDepth 100000
open Go.RowKit
attribute [local go_sem ↓] Go.wp_at_zero Go.wp_at_succ
attribute [local irreducible] nodeOk treeOk atI findX pathX schemaAtX usedX roomX

/-- Two boxes: what was handed over, and a copy of it. -/
structure BY (w W : World) (a : Option Addr) (n cap : Nat) (nx : Int) (g : Nat) (c : Option Addr) (m cc : Nat) (T : TM) : Prop where
  bx : BX w W a n cap nx
  kp : WCells W g [.slice c m cc, .int .i64 nx]
  cp : TSee W (.agg #[.slice c m cc, .int .i64 nx]) T w.heap.size g
theorem BY.below {w W W' : World} {a c : Option Addr} {n cap g m cc : Nat} {nx : Int} {T : TM} (h : BY w W a n cap nx g c m cc T) (hb : Below W.heap.size W W') : BY w W' a n cap nx g c m cc T := ⟨h.bx.below hb, h.kp.grow hb, h.cp.below hb⟩
end Go.Proofs.YthfmjjaollekiaaGreat
