/- Trees that are the same are told so (written by gen/mktref.py). -/
import Derived.Test.YtendbipfmgnjkaaTreE
namespace Go.Proofs.Ytendbipfmgnjkaa
set_option maxRecDepth 100000
open Go.RowKit
attribute [local go_sem ↓] Go.wp_at_zero Go.wp_at_succ

theorem eqPiece_same (p : PM) (w : World) : Calls Try.prog 118 #[pv p, pv p] w fun e w' => e = .returned (.bool true) ∧ Below w.heap.size w w' := by
  go_enter Try.func118, Try.ntmps118
  go_wp2_with fail
  go_ret
  exact ⟨rfl, ((Below.refl _ _).alloc (Nat.le_refl _) _).alloc (by simp) _⟩
set_option maxHeartbeats 1000000 in
theorem eqPieceS_same (a b : Option Addr) (ps : List PM) (ca cb : Nat) (w : World) (lo hi lo' hi' : Nat) (ha : RRow w a (pcs ps) lo hi) (hb : RRow w b (pcs ps) lo' hi') (hl : ps.length ≤ 1048576) :
    Calls Try.prog 113 #[.slice a ps.length ca, .slice b ps.length cb] w fun e w' => e = .returned (.bool true) ∧ Below w.heap.size w w' := by
  have HA := Shut.mk ha
  have HB := Shut.mk hb
  clear ha hb
  go_enter Try.func113, Try.ntmps113
  go_wp2_with fail
  go_loopw [5] (fun i wr => ∃ (k : Nat), i = .int .i64 k ∧ k ≤ ps.length ∧ Shut (Below w.heap.size w wr)) (fun i _ => ps.length - (intOf i).toNat)
  case atStart => exact ⟨0, rfl, Nat.zero_le _, ⟨Below.refl _ _⟩⟩
  case round =>
    obtain ⟨k, rfl, hk, hbl⟩ := hrel
    by_cases hlt : k < ps.length
    · obtain ⟨b1, o1, rfl, l1, hc1⟩ := pcs_at (HA.out.below hbl.out) (by omega)
      obtain ⟨b2, o2, rfl, l2, hc2⟩ := pcs_at (HB.out.below hbl.out) (by omega)
      obtain ⟨d0, d1⟩ := hc1 k hlt
      obtain ⟨e0, e1⟩ := hc2 k hlt
      generalize ps[k] = f at *
      have k0 : (0 : Int) ≤ (k : Int) := by omega
      have k1 : (k : Int) < (ps.length : Int) := by omega
      clear hc1 hc2
      go_wp2_with fail
      go_region_held3 (fun w' => w'.cell? ⟨b1, o1 + k * 2, none⟩ = some (.int .i64 f.group) ∧ w'.cell? ⟨b1, o1 + k * 2 + 1, none⟩ = some (.int .i64 f.len) ∧ w'.cell? ⟨b2, o2 + k * 2, none⟩ = some (.int .i64 f.group) ∧ w'.cell? ⟨b2, o2 + k * 2 + 1, none⟩ = some (.int .i64 f.len))
        (first | go_keep | (refine ⟨?_, ?_, ?_, ?_⟩ <;> first | (rw [hb2.cell (by exact l1)]; simp [*]) | (rw [hb2.cell (by exact l2)]; simp [*])))
        ((go_at_call 118; refine (eqPiece_same f _).mono ?_; rintro e w2 ⟨rfl, hb2⟩))
      all_goals go_wp2_with fail
      all_goals
        have hb3 : Below w.heap.size w w2 := hbl.out.trans ((Below.drew (Below.refl _ _)).trans (hb2.mono hbl.out.size))
        exact ⟨⟨k + 1, by go_num, by omega, ⟨hb3⟩⟩, by simp [intOf]; omega⟩
    · have hlt' : ¬ (k : Int) < (ps.length : Int) := by omega
      go_wp2_with fail
      go_ret
      exact ⟨rfl, hbl.out⟩
theorem same_text (x : ByteArray) : (x.toList != x.toList) = false := by simp
set_option maxRecDepth 100000 in
set_option maxHeartbeats 2000000 in
theorem eqInode_same (r s : NR) (w : World) (lo hi lo' hi' : Nat) (hn : r.nd = s.nd) (ha : RRow w r.loc (pcs r.nd.pieces) lo hi) (hb : RRow w s.loc (pcs s.nd.pieces) lo' hi') (hl : r.nd.pieces.length ≤ 1048576) :
    Calls Try.prog 94 #[nv r, nv s] w fun e w' => e = .returned (.bool true) ∧ Below w.heap.size w w' := by
  obtain ⟨n, loc, cap⟩ := r
  obtain ⟨n', loc', cap'⟩ := s
  dsimp only at hn
  subst hn
  obtain ⟨id, parent, name, dir, schema, quota, len, pieces, writer⟩ := n
  dsimp only [nv] at *
  have HP := Shut.mk (fun W (hW : Below w.heap.size w W) => eqPieceS_same loc loc' pieces cap cap' W lo hi lo' hi' (ha.below hW) (hb.below hW) hl)
  generalize pieces.length = np at *
  have HB0 := Shut.mk (show Below w.heap.size w ((w.alloc (.cells #[.int .i64 id, .int .i64 parent, .string name, .bool dir, .int .i64 schema, .int .i64 quota, .int .i64 len, .slice loc np cap, .int .i64 writer] 108)).alloc (.cells #[.int .i64 id, .int .i64 parent, .string name, .bool dir, .int .i64 schema, .int .i64 quota, .int .i64 len, .slice loc' np cap', .int .i64 writer] 108)) from ((Below.refl _ _).alloc (Nat.le_refl _) _).alloc (by simp) _)
  have hst := same_text name
  have hdd : (dir != dir) = false := by cases dir <;> rfl
  have HW1 := Shut.mk (wcells_new w #[.int .i64 id, .int .i64 parent, .string name, .bool dir, .int .i64 schema, .int .i64 quota, .int .i64 len, .slice loc np cap, .int .i64 writer] 108)
  have HW2 := Shut.mk (wcells_new (w.alloc (.cells #[.int .i64 id, .int .i64 parent, .string name, .bool dir, .int .i64 schema, .int .i64 quota, .int .i64 len, .slice loc np cap, .int .i64 writer] 108)) #[.int .i64 id, .int .i64 parent, .string name, .bool dir, .int .i64 schema, .int .i64 quota, .int .i64 len, .slice loc' np cap', .int .i64 writer] 108)
  have hz : (w.alloc (.cells #[.int .i64 id, .int .i64 parent, .string name, .bool dir, .int .i64 schema, .int .i64 quota, .int .i64 len, .slice loc np cap, .int .i64 writer] 108)).heap.size = w.heap.size + 1 := by simp
  rw [hz] at HW2
  replace HW1 := Shut.mk (HW1.out.alloc (.cells #[.int .i64 id, .int .i64 parent, .string name, .bool dir, .int .i64 schema, .int .i64 quota, .int .i64 len, .slice loc' np cap', .int .i64 writer] 108))
  clear ha hb hl hz
  go_enter Try.func94, Try.ntmps94
  go_wp2_with fail
  refine (HP.out _ HB0.out).mono ?_
  rintro e w2 ⟨rfl, hb2⟩
  have a8 := ((HW1.out.grow hb2).2 8 _ rfl).1
  have c8 := ((HW2.out.grow hb2).2 8 _ rfl).1
  have HB2 := Shut.mk (HB0.out.trans (hb2.mono HB0.out.size))
  clear hb2 HW1 HW2 HB0 HP
  go_wp2_with fail
  go_ret
  exact ⟨rfl, HB2.out⟩
set_option maxRecDepth 100000 in
set_option maxHeartbeats 4000000 in
theorem eqInodeS_same (a b : Option Addr) (rs ts : List NR) (ca cb : Nat) (w : World) (lo hi lo' hi' : Nat) (hn : nds rs = nds ts) (ha : TR w a rs lo hi) (hb : TR w b ts lo' hi') (hl : rs.length ≤ 1048576) (hp : ∀ r ∈ rs, r.nd.pieces.length ≤ 1048576) :
    Calls Try.prog 78 #[.slice a rs.length ca, .slice b ts.length cb] w fun e w' => e = .returned (.bool true) ∧ Below w.heap.size w w' := by
  have hlen : ts.length = rs.length := by rw [← nds_len, ← hn, nds_len]
  have HA := Shut.mk (And.intro ha hp)
  have HB := Shut.mk (And.intro hb hn)
  obtain ⟨n, hnn⟩ : ∃ n, n = rs.length := ⟨_, rfl⟩
  have HN := Shut.mk (And.intro hnn hlen)
  rw [hlen, ← hnn]
  rw [← hnn] at hl
  have hne : ((n : Int) != (n : Int)) = false := by simp
  clear ha hb hn hp hlen hnn
  go_enter Try.func78, Try.ntmps78
  go_wp2_with fail
  go_loopw [5] (fun i wr => ∃ (k : Nat), i = .int .i64 k ∧ k ≤ n ∧ Shut (Below w.heap.size w wr)) (fun i _ => n - (intOf i).toNat)
  case atStart => exact ⟨0, rfl, Nat.zero_le _, ⟨Below.refl _ _⟩⟩
  case round =>
    obtain ⟨k, rfl, hk, hbl⟩ := hrel
    by_cases hlt : k < n
    · have hlr : k < rs.length := by have := HN.out.1; omega
      have hlt2 : k < ts.length := by have := HN.out; omega
      obtain ⟨b1, o1, rfl, l1, hc1⟩ := TR.nat (HA.out.1.below hbl.out) (by omega)
      obtain ⟨b2, o2, rfl, l2, hc2⟩ := TR.nat (HB.out.1.below hbl.out) (by omega)
      obtain ⟨d0, d1, d2, d3, d4, d5, d6, d7, d8⟩ := hc1 k hlr
      obtain ⟨e0, e1, e2, e3, e4, e5, e6, e7, e8⟩ := hc2 k hlt2
      have heq : rs[k].nd = ts[k].nd := by
        have h1 : (nds rs)[k]'(by rw [nds_len]; exact hlr) = rs[k].nd := by simp [nds]
        have h2 : (nds ts)[k]'(by rw [nds_len]; exact hlt2) = ts[k].nd := by simp [nds]
        rw [← h1, ← h2]
        simp only [HB.out.2]
      have HQ := Shut.mk (fun W (hW : Below wr.heap.size wr W) => eqInode_same rs[k] ts[k] W lo hi lo' hi' heq (((HA.out.1.below hbl.out).2 rs[k] (List.getElem_mem hlr)).below hW) (((HB.out.1.below hbl.out).2 ts[k] (List.getElem_mem hlt2)).below hW) (HA.out.2 rs[k] (List.getElem_mem hlr)))
      generalize rs[k] = r at *
      generalize ts[k] = s at *
      have k0 : (0 : Int) ≤ (k : Int) := by omega
      have k1 : (k : Int) < (n : Int) := by omega
      clear hc1 hc2 heq
      go_wp2_with fail
      go_region_held3 (fun w' => w'.cell? ⟨b1, o1 + k * 9, none⟩ = some (.int .i64 r.nd.id) ∧ w'.cell? ⟨b1, o1 + k * 9 + 1, none⟩ = some (.int .i64 r.nd.parent) ∧ w'.cell? ⟨b1, o1 + k * 9 + 2, none⟩ = some (.string r.nd.name) ∧ w'.cell? ⟨b1, o1 + k * 9 + 3, none⟩ = some (.bool r.nd.dir) ∧ w'.cell? ⟨b1, o1 + k * 9 + 4, none⟩ = some (.int .i64 r.nd.schema) ∧ w'.cell? ⟨b1, o1 + k * 9 + 5, none⟩ = some (.int .i64 r.nd.quota) ∧ w'.cell? ⟨b1, o1 + k * 9 + 6, none⟩ = some (.int .i64 r.nd.len) ∧ w'.cell? ⟨b1, o1 + k * 9 + 7, none⟩ = some (.slice r.loc r.nd.pieces.length r.cap) ∧ w'.cell? ⟨b1, o1 + k * 9 + 8, none⟩ = some (.int .i64 r.nd.writer) ∧ w'.cell? ⟨b2, o2 + k * 9, none⟩ = some (.int .i64 s.nd.id) ∧ w'.cell? ⟨b2, o2 + k * 9 + 1, none⟩ = some (.int .i64 s.nd.parent) ∧ w'.cell? ⟨b2, o2 + k * 9 + 2, none⟩ = some (.string s.nd.name) ∧ w'.cell? ⟨b2, o2 + k * 9 + 3, none⟩ = some (.bool s.nd.dir) ∧ w'.cell? ⟨b2, o2 + k * 9 + 4, none⟩ = some (.int .i64 s.nd.schema) ∧ w'.cell? ⟨b2, o2 + k * 9 + 5, none⟩ = some (.int .i64 s.nd.quota) ∧ w'.cell? ⟨b2, o2 + k * 9 + 6, none⟩ = some (.int .i64 s.nd.len) ∧ w'.cell? ⟨b2, o2 + k * 9 + 7, none⟩ = some (.slice s.loc s.nd.pieces.length s.cap) ∧ w'.cell? ⟨b2, o2 + k * 9 + 8, none⟩ = some (.int .i64 s.nd.writer))
        (first | go_keep | (refine ⟨?_, ?_, ?_, ?_, ?_, ?_, ?_, ?_, ?_, ?_, ?_, ?_, ?_, ?_, ?_, ?_, ?_, ?_⟩ <;> first | (rw [hb2.cell (by exact l1)]; simp [*]) | (rw [hb2.cell (by exact l2)]; simp [*])))
        ((go_at_call 94; refine (HQ.out _ (by first | exact Below.refl _ _ | exact Below.drew (Below.refl _ _))).mono ?_; rintro e w2 ⟨rfl, hb2⟩))
      all_goals go_wp2_with fail
      all_goals
        have hb3 : Below w.heap.size w w2 := hbl.out.trans ((Below.drew (Below.refl _ _)).trans (hb2.mono hbl.out.size))
        exact ⟨⟨k + 1, by go_num, by omega, ⟨hb3⟩⟩, by simp [intOf]; omega⟩
    · have hlt' : ¬ (k : Int) < (n : Int) := by omega
      go_wp2_with fail
      go_ret
      exact ⟨rfl, hbl.out⟩
set_option maxHeartbeats 1000000 in
theorem eqTree_val {w : World} {v u : Value} {T : TM} {lo hi lo' hi' : Nat} (h : TSee w v T lo hi) (k : TSee w u T lo' hi') (hf : NFit T) : Calls Try.prog 59 #[v, u] w fun e w' => e = .returned (.bool true) ∧ Below w.heap.size w w' := by
  obtain ⟨a, cap, rs, rfl, hr, hm⟩ := h
  obtain ⟨b, cap', ts, rfl, hr', hm'⟩ := k
  have hl : rs.length ≤ 1048576 := by
    have : rs.length = T.nodes.length := by rw [← hr, nds_len]
    unfold NFit at hf; omega
  have hp : ∀ r ∈ rs, r.nd.pieces.length ≤ 1048576 := fun r hx => by
    have := nsum_mem (ns := T.nodes) (n := r.nd) (by rw [← hr]; exact List.mem_map.2 ⟨r, hx, rfl⟩)
    unfold NFit at hf
    omega
  have HS := Shut.mk (fun W (hW : Below w.heap.size w W) => eqInodeS_same a b rs ts cap cap' W lo hi lo' hi' (hr.trans hr'.symm) (hm.below hW) (hm'.below hW) hl hp)
  generalize T.next = nx at *
  generalize rs.length = n at *
  generalize ts.length = m at *
  have HB0 := Shut.mk (show Below w.heap.size w ((w.alloc (.cells #[.slice a n cap, .int .i64 nx] 37)).alloc (.cells #[.slice b m cap', .int .i64 nx] 37)) from ((Below.refl _ _).alloc (Nat.le_refl _) _).alloc (by simp) _)
  have HW1 := Shut.mk ((wcells_new w #[.slice a n cap, .int .i64 nx] 37).alloc (.cells #[.slice b m cap', .int .i64 nx] 37))
  have HW2 := Shut.mk (wcells_new (w.alloc (.cells #[.slice a n cap, .int .i64 nx] 37)) #[.slice b m cap', .int .i64 nx] 37)
  have hz : (w.alloc (.cells #[.slice a n cap, .int .i64 nx] 37)).heap.size = w.heap.size + 1 := by simp
  rw [hz] at HW2
  clear hz hm hm' hr hr' hl hp hf
  go_enter Try.func59, Try.ntmps59
  go_wp2_with fail
  refine (HS.out _ HB0.out).mono ?_
  rintro e w2 ⟨rfl, hb2⟩
  have a1 := ((HW1.out.grow hb2).2 1 _ rfl).1
  have c1 := ((HW2.out.grow hb2).2 1 _ rfl).1
  have HB2 := Shut.mk (HB0.out.trans (hb2.mono HB0.out.size))
  clear hb2 HW1 HW2 HB0 HS
  go_wp2_with fail
  go_ret
  exact ⟨rfl, HB2.out⟩
end Go.Proofs.Ytendbipfmgnjkaa
