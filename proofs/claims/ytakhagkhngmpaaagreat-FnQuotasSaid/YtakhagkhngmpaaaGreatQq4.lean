/- Texts of ours, laid one behind the other: MapA, LkA, LkB, LkC, LkD, LawTrn, LkN, FndA. -/
import Derived.Test.YtakhagkhngmpaaaGreatQq1
import Derived.Test.YtakhagkhngmpaaaGreatQq3
import Derived.Test.YtakhagkhngmpaaaGreatQq2
import Derived.Maps.OwnSet
import Derived.Maps.RangeWalk
import Derived.WalkKit
import Derived.Maps.OwnOps
import Derived.Deep.CutRange
/- MapA: . -/
namespace Go.Proofs.YtakhagkhngmpaaaGreat
set_option maxRecDepth 100000
open Go.RowKit Go.Maps
def ptrE : Value → Option (DataW Unit × List MemPlace)
 | .pointer (some ⟨g, 0, none⟩) => some (.lit (.int .i64 g), [])
 | .pointer none => some (.nil, [])
 | _ => none
def mapE : Value → Option (DataW Unit × List MemPlace)
 | .map (some g) => some (.lit (.int .i64 g), [])
 | .map none => some (.nil, [])
 | _ => none
def ptrV : Option Nat → Value
 | some g => .pointer (some ⟨g, 0, none⟩)
 | none => .pointer none
def mapV : Option Nat → Value
 | some g => .map (some g)
 | none => .map none
theorem ptrE_form {v : Value} {y : DataW Unit × List MemPlace} (h : ptrE v = some y) : ∃ c, v = ptrV c := by
 unfold ptrE at h
 split at h
 ·exact ⟨some _, rfl⟩
 ·exact ⟨none, rfl⟩
 ·cases h
theorem ptrE_some {v : Value} {g : Nat} {ps : List MemPlace} (h : ptrE v = some (.lit (.int .i64 g), ps)) : v = ptrV (some g) := by
 obtain ⟨c, rfl⟩ := ptrE_form h
 cases c with
 | none => simp [ptrV, ptrE] at h
 | some c => simp [ptrV, ptrE] at h; rw [show c = g by omega]
theorem ptrE_none {v : Value} {ps : List MemPlace} (h : ptrE v = some (.nil, ps)) : v = ptrV none := by
 obtain ⟨c, rfl⟩ := ptrE_form h
 cases c with
 | none => rfl
 | some c => simp [ptrV, ptrE] at h
theorem mapE_form {v : Value} {y : DataW Unit × List MemPlace} (h : mapE v = some y) : ∃ c, v = mapV c := by
 unfold mapE at h
 split at h
 ·exact ⟨some _, rfl⟩
 ·exact ⟨none, rfl⟩
 ·cases h
theorem mapE_some {v : Value} {g : Nat} {ps : List MemPlace} (h : mapE v = some (.lit (.int .i64 g), ps)) : v = mapV (some g) := by
 obtain ⟨c, rfl⟩ := mapE_form h
 cases c with
 | none => simp [mapV, mapE] at h
 | some c => simp [mapV, mapE] at h; rw [show c = g by omega]
theorem mapE_none {v : Value} {ps : List MemPlace} (h : mapE v = some (.nil, ps)) : v = mapV none := by
 obtain ⟨c, rfl⟩ := mapE_form h
 cases c with
 | none => rfl
 | some c => simp [mapV, mapE] at h
abbrev ks (n : ByteArray) : Lit := .string n.data.toList
abbrev ki (x : Int) : Lit := .int .i64 x
theorem ks_inj {m n : ByteArray} (h : ks m = ks n) : m = n := ByteArray.ext (Array.toList_inj.1 (by simpa using h))
theorem ki_inj {m n : Int} (h : ki m = ki n) : m = n := by simpa using h
def Tells (D : DataW Unit) (l : Lit) (o : Option Nat) : Prop := match o with
 | some g => ∀ z, D.atKey l z = .lit (.int .i64 g)
 | none => Maps.has D l = false
theorem Tells.at {D : DataW Unit} {l : Lit} {g : Nat} (h : Tells D l (some g)) : D.atKey l .nil = .lit (.int .i64 g) := h .nil
theorem Tells.no {D : DataW Unit} {l : Lit} (h : Tells D l none) : D.atKey l .nil = .nil := Maps.atKey_of_not_has h .nil
theorem Tells.has {D : DataW Unit} {l : Lit} {o : Option Nat} (h : Tells D l o) : Maps.has D l = o.isSome := by
 cases o with
 | some g => exact Maps.has_true_of_atKey h
 | none => exact h
theorem Tells.put_same {D : DataW Unit} {l : Lit} {g : Nat} (hm : Maps.IsMap D) (hk : WideAt.IsKeyLit l) : Tells (D.put l (.lit (.int .i64 g))) l (some g) := fun z => Maps.atKey_put_same hm hk _ z
theorem Tells.put_other {D : DataW Unit} {l l' : Lit} {o : Option Nat} {d : DataW Unit} (h : Tells D l o) (hne : l ≠ l') : Tells (D.put l' d) l o := by
 cases o with
 | some g => exact fun z => by rw [Maps.atKey_put_other hne]; exact h z
 | none => exact (Maps.has_put_other hne _).trans h
theorem own_drewN {w : World} {P : Program} {k : TypeId} {R : Value → Option (DataW Unit × List MemPlace)} {b n : Nat} {D : DataW Unit} (h : w.ownsMap P k R b n D) (q : Nat) : (w.drewN q).ownsMap P k R b n D := h
theorem own_below {w w' : World} {P : Program} {k : TypeId} {R : Value → Option (DataW Unit × List MemPlace)} {b n : Nat} {D : DataW Unit} (h : w.ownsMap P k R b n D) (hb : Below w.heap.size w w') : w'.ownsMap P k R b n D :=
 h.kept (row := none) ⟨hb.os, hb.tape, hb.output, hb.size, fun k hk _ => hb.block k hk⟩ (by simp)
theorem own_turned {w w' : World} {P : Program} {k : TypeId} {R : Value → Option (DataW Unit × List MemPlace)} {b n c : Nat} {D : DataW Unit} (h : w.ownsMap P k R b n D) (ht : w.mapTurned w' c) (hne : b ≠ c) : w'.ownsMap P k R b n D :=
 h.kept ht.grown (by simpa using hne)
theorem wc_mapTurned {w w' : World} {b g : Nat} {L : List Value} (h : WCells w g L) (ht : w.mapTurned w' b) : WCells w' g L := by
 refine ⟨Nat.lt_of_lt_of_le h.1 ht.grown.size, fun i v hv => ?_⟩
 have h1 := h.2 i v hv
 have hne : g ≠ b := by
  rintro rfl
  obtain ⟨es, clock, _, _, hb, _⟩ := ht
  have := h1.1
  simp [World.cell?, hb] at this
 have hk := ht.grown.block g h.1 (by simpa using hne)
 constructor
 ·have := h1.1
  simp only [World.cell?, hk] at this ⊢
  exact this
 ·have := h1.2
  simp only [World.frozen?, hk] at this ⊢
  exact this
section
variable {P : Program} {w : World} {k e t : TypeId} {b n : Nat} {D : DataW Unit} {key : Value} {l : Lit} {o : Option Nat}
theorem look_ptr (K : Keyed P k) (ht : P.underlying t = some (.map k e)) (hz : ∀ w, (zeroValue e).run P w = .ok (.pointer none) w) (h : w.ownsMap P k ptrE b n D) (hkey : keyOf P k key = some l) (ho : Tells D l o) (q : Nat) :
  (Instr.lookup t (.map (some b)) key false).run P (w.drewN q) = .ok (ptrV o) (w.drewN q) := by
 obtain ⟨v, ps, hrun, hv⟩ := (own_drewN h q).lookup K ht (hz _) (zd := .nil) (zp := []) rfl hkey
 cases o with
 | some g => rw [ho.at] at hv; rw [hrun, ptrE_some hv]
 | none => rw [ho.no] at hv; rw [hrun, ptrE_none hv]
theorem look_map (K : Keyed P k) (ht : P.underlying t = some (.map k e)) (hz : ∀ w, (zeroValue e).run P w = .ok (.map none) w) (h : w.ownsMap P k mapE b n D) (hkey : keyOf P k key = some l) (ho : Tells D l o) (q : Nat) :
  (Instr.lookup t (.map (some b)) key false).run P (w.drewN q) = .ok (mapV o) (w.drewN q) := by
 obtain ⟨v, ps, hrun, hv⟩ := (own_drewN h q).lookup K ht (hz _) (zd := .nil) (zp := []) rfl hkey
 cases o with
 | some g => rw [ho.at] at hv; rw [hrun, mapE_some hv]
 | none => rw [ho.no] at hv; rw [hrun, mapE_none hv]
end
theorem keyI : Keyed Tryz.prog 3 := int_keyed Tryz.underlying3
theorem keyS : Keyed Tryz.prog 9 := string_keyed Tryz.underlying9
theorem zeroLp (w : World) : (zeroValue 93).run Tryz.prog w = .ok (.pointer none) w := by kernel_rfl
theorem zeroLm (w : World) : (zeroValue 94).run Tryz.prog w = .ok (.map none) w := by kernel_rfl
theorem key_int {x : Int} (h : (Lit.int .i64 x).wf = true) : keyOf Tryz.prog 3 (.int .i64 x) = some (ki x) := keyOf_int_mk Tryz.underlying3 h
theorem key_str {s : ByteArray} (h : s.size ≤ maxLen) : keyOf Tryz.prog 9 (.string s) = some (ks s) := Go.WideMaps.keyOf_string_mk Tryz.underlying9 h
theorem eqg_ptr (x y : Operand) (o : Option Nat) (W : World) : Sem.run Tryz.prog (eqGuard BinOp.eql 93 x y (ptrV o) (.pointer none)) W = .ok () W := by
 cases o <;> simp [ptrV, eqGuard, go_sem]
theorem eq_ptr (o : Option Nat) (W : World) : Sem.run Tryz.prog (binOp BinOp.eql 93 (ptrV o) (.pointer none)) W = .ok (.bool o.isNone) W := by
 cases o <;> simp [ptrV, go_sem]
theorem eqg_map (x y : Operand) (o : Option Nat) (W : World) : Sem.run Tryz.prog (eqGuard BinOp.eql 94 x y (mapV o) (.map none)) W = .ok () W := by
 cases o <;> simp [mapV, eqGuard, go_sem]
theorem eq_map (o : Option Nat) (W : World) : Sem.run Tryz.prog (binOp BinOp.eql 94 (mapV o) (.map none)) W = .ok (.bool o.isNone) W := by
 cases o <;> kernel_rfl
def lcells (r : NR) (p : Value) : List Value := [.int .i64 r.nd.id, .int .i64 r.nd.parent, .string r.nd.name, .bool r.nd.dir, .int .i64 r.nd.schema, .int .i64 r.nd.quota, .int .i64 r.nd.len, .slice r.loc r.nd.pieces.length r.cap, .int .i64 r.nd.writer, p]
def Par (ns : List NM) (p : Int) : Prop := ∃ n ∈ ns, n.parent = p
theorem par_fnm {ns : List NM} {p : Int} {s : ByteArray} {i : Nat} (h : fnm ns p s = some i) : Par ns p := by
 obtain ⟨hi, e, _⟩ := fnm_lt h
 exact ⟨_, List.getElem_mem hi, e⟩
structure Lk (w : World) (B b1 b2 : Nat) (rs : List NR) (G : Nat → Nat) (C : Int → Nat) (A : Nat → Option Nat) : Prop where
 m1 : ∃ D, w.ownsMap Tryz.prog 3 ptrE b1 rs.length D ∧ ∀ id, Tells D (ki id) ((fid (nds rs) id).map G)
 m2 : ∃ D, w.ownsMap Tryz.prog 3 mapE b2 rs.length D ∧ ∀ p, (Par (nds rs) p → Tells D (ki p) (some (C p))) ∧ (¬ Par (nds rs) p → Tells D (ki p) none)
 m3 : ∀ p, Par (nds rs) p → B ≤ C p ∧ C p ≠ b1 ∧ C p ≠ b2 ∧ ∃ D, w.ownsMap Tryz.prog 9 ptrE (C p) rs.length D ∧ ∀ s, Tells D (ks s) ((fnm (nds rs) p s).map G)
 inj : ∀ p q, Par (nds rs) p → Par (nds rs) q → C p = C q → p = q
 cells : ∀ i (hi : i < rs.length), WCells w (G i) (lcells rs[i] (ptrV ((A i).map G))) ∧ B ≤ G i
 one : ∀ i j, i < rs.length → j < rs.length → G i = G j → i = j
 lo : B ≤ b1 ∧ B ≤ b2 ∧ b1 ≠ b2
def Kept (w w' : World) : Prop := ∀ g L, WCells w g L → WCells w' g L
theorem Kept.refl (w : World) : Kept w w := fun _ _ h => h
theorem Kept.trans {a b c : World} (h : Kept a b) (h' : Kept b c) : Kept a c := fun g L hg => h' g L (h g L hg)
theorem Kept.below {w w' : World} (h : Below w.heap.size w w') : Kept w w' := fun _ _ hg => hg.grow h
theorem Kept.turned {w w' : World} {b : Nat} (h : w.mapTurned w' b) : Kept w w' := fun _ _ hg => wc_mapTurned hg h
theorem Lk.below {w w' : World} {B b1 b2 : Nat} {rs : List NR} {G : Nat → Nat} {C : Int → Nat} {A : Nat → Option Nat} (h : Lk w B b1 b2 rs G C A) (hb : Below w.heap.size w w') : Lk w' B b1 b2 rs G C A := by
 obtain ⟨⟨D1, o1, t1⟩, ⟨D2, o2, t2⟩, m3, inj, cells, one, lo⟩ := h
 refine ⟨⟨D1, own_below o1 hb, t1⟩, ⟨D2, own_below o2 hb, t2⟩, fun p hp => ?_, inj, fun i hi => ⟨(cells i hi).1.grow hb, (cells i hi).2⟩, one, lo⟩
 obtain ⟨q1, q2, q3, D, o3, t3⟩ := m3 p hp
 exact ⟨q1, q2, q3, D, own_below o3 hb, t3⟩
theorem Lk.lt {w : World} {B b1 b2 : Nat} {rs : List NR} {G : Nat → Nat} {C : Int → Nat} {A : Nat → Option Nat} (h : Lk w B b1 b2 rs G C A) : b1 < w.heap.size ∧ b2 < w.heap.size ∧ (∀ i, i < rs.length → G i < w.heap.size) ∧ ∀ p, Par (nds rs) p → C p < w.heap.size := by
 obtain ⟨⟨D1, o1, _⟩, ⟨D2, o2, _⟩, m3, inj, cells, one, lo⟩ := h
 refine ⟨o1.lt, o2.lt, fun i hi => (cells i hi).1.1, fun p hp => ?_⟩
 obtain ⟨_, _, _, D, o3, _⟩ := m3 p hp
 exact o3.lt
theorem Lk.start {w : World} {B b1 b2 : Nat} {G : Nat → Nat} {C : Int → Nat} {A : Nat → Option Nat} (h1 : w.ownsMap Tryz.prog 3 ptrE b1 0 (.map [])) (h2 : w.ownsMap Tryz.prog 3 mapE b2 0 (.map [])) (lo : B ≤ b1 ∧ B ≤ b2 ∧ b1 ≠ b2) : Lk w B b1 b2 [] G C A :=
 ⟨⟨_, h1, fun _ => rfl⟩, ⟨_, h2, fun _ => ⟨fun ⟨_, h, _⟩ => by simp [nds] at h, fun _ => rfl⟩⟩, fun _ ⟨_, h, _⟩ => by simp [nds] at h, fun _ _ ⟨_, h, _⟩ => by simp [nds] at h, fun i hi => absurd hi (by simp), fun i j hi => absurd hi (by simp), lo⟩
def Gn (G : Nat → Nat) (n g : Nat) : Nat → Nat := fun i => if i = n then g else G i
theorem Gn_old {G : Nat → Nat} {n g i : Nat} (h : i < n) : Gn G n g i = G i := if_neg (by omega)
theorem Gn_new {G : Nat → Nat} {n g : Nat} : Gn G n g n = g := if_pos rfl
theorem find_snoc {α : Type} (P : α → Bool) (xs : List α) (x : α) : (xs ++ [x]).findIdx? P = match xs.findIdx? P with
  | some i => some i
  | none => if P x = true then some xs.length else none := by
 rw [List.findIdx?_append]
 cases hf : xs.findIdx? P with
 | some i => simp
 | none =>
  simp only [List.findIdx?_cons, List.findIdx?_nil, Option.none_or]
  by_cases hp : P x = true
  ·simp [hp]
  ·simp [hp]
theorem fid_snoc {ns : List NM} {n : NM} {id : Int} : fid (ns ++ [n]) id = match fid ns id with
  | some i => some i
  | none => if n.id = id then some ns.length else none := by
 unfold fid
 rw [find_snoc]
 cases ns.findIdx? (fun n => n.id == id) with
 | some i => rfl
 | none => simp
theorem fnm_snoc {ns : List NM} {n : NM} {p : Int} {s : ByteArray} : fnm (ns ++ [n]) p s = match fnm ns p s with
  | some i => some i
  | none => if n.parent = p ∧ n.name = s then some ns.length else none := by
 unfold fnm
 rw [find_snoc]
 cases ns.findIdx? (fun n => n.parent == p && decide (n.name = s)) with
 | some i => rfl
 | none => simp
theorem fid_map_snoc {rs : List NR} {r : NR} {G : Nat → Nat} {g : Nat} {id : Int} : (fid (nds (rs ++ [r])) id).map (Gn G rs.length g) = match fid (nds rs) id with
  | some i => some (G i)
  | none => if r.nd.id = id then some g else none := by
 rw [nds_snoc, fid_snoc]
 cases h : fid (nds rs) id with
 | some i =>
  obtain ⟨hi, _⟩ := fid_lt h
  rw [nds_len] at hi
  simp [Gn_old hi]
 | none =>
  dsimp only
  split
  ·simp [nds_len, Gn_new]
  ·rfl
theorem fnm_map_snoc {rs : List NR} {r : NR} {G : Nat → Nat} {g : Nat} {p : Int} {s : ByteArray} : (fnm (nds (rs ++ [r])) p s).map (Gn G rs.length g) = match fnm (nds rs) p s with
  | some i => some (G i)
  | none => if r.nd.parent = p ∧ r.nd.name = s then some g else none := by
 rw [nds_snoc, fnm_snoc]
 cases h : fnm (nds rs) p s with
 | some i =>
  obtain ⟨hi, _⟩ := fnm_lt h
  rw [nds_len] at hi
  simp [Gn_old hi]
 | none =>
  dsimp only
  split
  ·simp [nds_len, Gn_new]
  ·rfl
theorem par_snoc {ns : List NM} {n : NM} {p : Int} : Par (ns ++ [n]) p ↔ Par ns p ∨ n.parent = p := by
 unfold Par
 constructor
 ·rintro ⟨m, hm, e⟩
  rcases List.mem_append.1 hm with h | h
  ·exact .inl ⟨m, h, e⟩
  ·obtain rfl := List.mem_singleton.1 h
   exact .inr e
 ·rintro (⟨m, hm, e⟩ | e)
  ·exact ⟨m, by simp [hm], e⟩
  ·exact ⟨n, by simp, e⟩
theorem Lk.snoc {w w' : World} {B b1 b2 g : Nat} {rs : List NR} {r : NR} {G : Nat → Nat} {C C' : Int → Nat} (h : Lk w B b1 b2 rs G C fun _ => none) (hk : Kept w w') (hn : WCells w' g (lcells r (.pointer none))) (hg : ∀ i, i < rs.length → G i ≠ g) (hB : B ≤ g)
  (h1 : ∃ D, w'.ownsMap Tryz.prog 3 ptrE b1 (rs.length + 1) D ∧ ∀ id, Tells D (ki id) (match fid (nds rs) id with | some i => some (G i) | none => if r.nd.id = id then some g else none))
  (h2 : ∃ D, w'.ownsMap Tryz.prog 3 mapE b2 (rs.length + 1) D ∧ ∀ p, (Par (nds rs) p ∨ r.nd.parent = p → Tells D (ki p) (some (C' p))) ∧ (¬ (Par (nds rs) p ∨ r.nd.parent = p) → Tells D (ki p) none))
  (h3 : ∀ p, Par (nds rs) p ∨ r.nd.parent = p → B ≤ C' p ∧ C' p ≠ b1 ∧ C' p ≠ b2 ∧ ∃ D, w'.ownsMap Tryz.prog 9 ptrE (C' p) (rs.length + 1) D ∧ ∀ s, Tells D (ks s) (match fnm (nds rs) p s with | some i => some (G i) | none => if r.nd.parent = p ∧ r.nd.name = s then some g else none))
  (h4 : ∀ p q, (Par (nds rs) p ∨ r.nd.parent = p) → (Par (nds rs) q ∨ r.nd.parent = q) → C' p = C' q → p = q) : Lk w' B b1 b2 (rs ++ [r]) (Gn G rs.length g) C' fun _ => none := by
 have hl : (rs ++ [r]).length = rs.length + 1 := by simp
 refine ⟨?_, ?_, fun p hp => ?_, fun p q hp hq e => ?_, fun i hi => ?_, fun i j hi hj e => ?_, h.lo⟩
 ·obtain ⟨D, o, t⟩ := h1
  exact ⟨D, by rw [hl]; exact o, fun id => by rw [fid_map_snoc]; exact t id⟩
 ·obtain ⟨D, o, t⟩ := h2
  refine ⟨D, by rw [hl]; exact o, fun p => ?_⟩
  rw [nds_snoc]
  exact ⟨fun hp => (t p).1 (par_snoc.1 hp), fun hp => (t p).2 fun hp' => hp (par_snoc.2 hp')⟩
 ·rw [nds_snoc, par_snoc] at hp
  obtain ⟨q1, q2, q3, D, o, t⟩ := h3 p hp
  exact ⟨q1, q2, q3, D, by rw [hl]; exact o, fun s => by rw [fnm_map_snoc]; exact t s⟩
 ·rw [nds_snoc, par_snoc] at hp hq
  exact h4 p q hp hq e
 ·rw [hl] at hi
  rcases Nat.lt_or_ge i rs.length with hlt | hge
  ·rw [List.getElem_append_left hlt, Gn_old hlt]
   exact ⟨hk _ _ (h.cells i hlt).1, (h.cells i hlt).2⟩
  ·obtain rfl : i = rs.length := by omega
   rw [List.getElem_append_right (Nat.le_refl _), Gn_new]
   exact ⟨by simpa [ptrV] using hn, hB⟩
 ·rw [hl] at hi hj
  rcases Nat.lt_or_ge i rs.length with hli | hgi <;> rcases Nat.lt_or_ge j rs.length with hlj | hgj
  ·rw [Gn_old hli, Gn_old hlj] at e
   exact h.one i j hli hlj e
  ·obtain rfl : j = rs.length := by omega
   rw [Gn_old hli, Gn_new] at e
   exact absurd e (hg i hli)
  ·obtain rfl : i = rs.length := by omega
   rw [Gn_old hlj, Gn_new] at e
   exact absurd e.symm (hg j hlj)
  ·omega
end Go.Proofs.YtakhagkhngmpaaaGreat
/- LkB: . -/
namespace Go.Proofs.YtakhagkhngmpaaaGreat
set_option maxRecDepth 100000
open Go.RowKit Go.Maps
attribute [local go_sem ↓] Go.wp_at_zero Go.wp_at_succ
def Sp {α : Type} (kf : α → Lit) (k : TypeId) (E : Value → Option (DataW Unit × List MemPlace)) (w : World) (b n : Nat) (f : α → Option Nat) : Prop := ∃ D, w.ownsMap Tryz.prog k E b n D ∧ ∀ x, Tells D (kf x) (f x)
section
variable {α : Type} {kf : α → Lit} {k : TypeId} {E : Value → Option (DataW Unit × List MemPlace)} {w w' : World} {b n : Nat} {f f' : α → Option Nat}
theorem Sp.below (h : Sp kf k E w b n f) (hb : Below w.heap.size w w') : Sp kf k E w' b n f := by
 obtain ⟨D, o, t⟩ := h
 exact ⟨D, own_below o hb, t⟩
theorem Sp.turned {c : Nat} (h : Sp kf k E w b n f) (ht : w.mapTurned w' c) (hne : b ≠ c) : Sp kf k E w' b n f := by
 obtain ⟨D, o, t⟩ := h
 exact ⟨D, own_turned o ht hne, t⟩
theorem Sp.more {m : Nat} (h : Sp kf k E w b n f) (hm : n ≤ m) : Sp kf k E w b m f := by
 obtain ⟨D, o, t⟩ := h
 exact ⟨D, o.mono hm, t⟩
theorem Sp.eq (h : Sp kf k E w b n f) (e : ∀ x, f x = f' x) : Sp kf k E w b n f' := by
 obtain ⟨D, o, t⟩ := h
 exact ⟨D, o, fun x => by rw [← e x]; exact t x⟩
theorem Sp.put {D : DataW Unit} {x : α} {g : Nat} (hi : ∀ x y, kf x = kf y → x = y) (ho : w.ownsMap Tryz.prog k E b n D) (ht : ∀ x, Tells D (kf x) (f x)) (hk : WideAt.IsKeyLit (kf x)) {m : Nat} (ho' : w'.ownsMap Tryz.prog k E b m (D.put (kf x) (.lit (.int .i64 g)))) (h1 : f' x = some g) (h2 : ∀ y, y ≠ x → f' y = f y) : Sp kf k E w' b m f' := by
 refine ⟨_, ho', fun y => ?_⟩
 by_cases e : y = x
 ·subst e
  rw [h1]
  exact Tells.put_same ho.isMap hk
 ·rw [h2 y e]
  exact (ht y).put_other fun q => e (hi _ _ q)
end
abbrev Si := Sp ki 3 ptrE
abbrev Sm := Sp ki 3 mapE
abbrev Ss := Sp ks 9 ptrE
structure Ph (w W : World) (B b1 b2 h : Nat) (r : NR) : Prop where
 kp : Kept w W
 bl : Below B w W
 sz : w.heap.size ≤ W.heap.size
 bx : WCells W h [.map (some b1), .map (some b2)]
 nd : WCells W (h + 1) (ncells r)
theorem Ph.turned {w W W' : World} {B b1 b2 h c : Nat} {r : NR} (p : Ph w W B b1 b2 h r) (ht : W.mapTurned W' c) (hc : B ≤ c) (hB : B ≤ w.heap.size) : Ph w W' B b1 b2 h r :=
 ⟨p.kp.trans (Kept.turned ht), p.bl.grown ht.grown (by have := p.sz; omega) (fun j hj => by simp at hj; omega), Nat.le_trans p.sz ht.grown.size, wc_mapTurned p.bx ht, wc_mapTurned p.nd ht⟩
theorem Ph.below {w W W' : World} {B b1 b2 h : Nat} {r : NR} (p : Ph w W B b1 b2 h r) (hb : Below W.heap.size W W') (hB : B ≤ w.heap.size) : Ph w W' B b1 b2 h r :=
 ⟨p.kp.trans (Kept.below hb), p.bl.trans (hb.mono (by have := p.sz; omega)), Nat.le_trans p.sz hb.size, p.bx.grow hb, p.nd.grow hb⟩
structure Ms (W : World) (B b1 b2 n1 n2 n3 : Nat) (f1 : Int → Option Nat) (C : Int → Nat) (ps : Int → Prop) (f3 : Int → ByteArray → Option Nat) : Prop where
 s1 : Si W b1 n1 f1
 s2 : ∃ f2, Sm W b2 n2 f2 ∧ ∀ p, (ps p → f2 p = some (C p)) ∧ (¬ ps p → f2 p = none)
 s3 : ∀ p, ps p → B ≤ C p ∧ C p ≠ b1 ∧ C p ≠ b2 ∧ Ss W (C p) n3 (f3 p)
 inj : ∀ p q, ps p → ps q → C p = C q → p = q
theorem Ms.below {W W' : World} {B b1 b2 n1 n2 n3 : Nat} {f1 : Int → Option Nat} {C : Int → Nat} {ps : Int → Prop} {f3 : Int → ByteArray → Option Nat} (h : Ms W B b1 b2 n1 n2 n3 f1 C ps f3) (hb : Below W.heap.size W W') : Ms W' B b1 b2 n1 n2 n3 f1 C ps f3 := by
 obtain ⟨s1, ⟨f2, s2, e2⟩, s3, inj⟩ := h
 exact ⟨s1.below hb, ⟨f2, s2.below hb, e2⟩, fun p hp => ⟨(s3 p hp).1, (s3 p hp).2.1, (s3 p hp).2.2.1, (s3 p hp).2.2.2.below hb⟩, inj⟩
theorem Lk.ms {w : World} {B b1 b2 : Nat} {rs : List NR} {G : Nat → Nat} {C : Int → Nat} {A : Nat → Option Nat} (h : Lk w B b1 b2 rs G C A) : Ms w B b1 b2 rs.length rs.length rs.length (fun id => (fid (nds rs) id).map G) C (Par (nds rs)) (fun p s => (fnm (nds rs) p s).map G) := by
 obtain ⟨m1, ⟨D, o2, t2⟩, m3, inj, cells, one, lo⟩ := h
 classical
 refine ⟨m1, ⟨fun p => if Par (nds rs) p then some (C p) else none, ⟨D, o2, fun p => ?_⟩, fun p => ⟨fun hp => if_pos hp, fun hp => if_neg hp⟩⟩, fun p hp => m3 p hp, inj⟩
 by_cases hp : Par (nds rs) p
 ·dsimp only; rw [if_pos hp]; exact (t2 p).1 hp
 ·dsimp only; rw [if_neg hp]; exact (t2 p).2 hp
theorem wf_key {x : Int} (h : (Lit.int .i64 x).wf = true) : WideAt.IsKeyLit (ki x) := keyI.key (key_int h)
theorem str_key {s : ByteArray} (h : s.size ≤ maxLen) : WideAt.IsKeyLit (ks s) := keyS.key (key_str h)
set_option maxHeartbeats 2000000 in
theorem add_any {w : World} {B b1 b2 g : Nat} {rs : List NR} {r : NR} {G : Nat → Nat} {C : Int → Nat} (h : Lk w B b1 b2 rs G C fun _ => none) (hn : WCells w g (lcells r (.pointer none))) (hg : ∀ i, i < rs.length → G i ≠ g) (hB : B ≤ g) (hBw : B ≤ w.heap.size) (hl : rs.length ≤ 1048576) (f1 : (Lit.int .i64 r.nd.id).wf = true) (f2 : (Lit.int .i64 r.nd.parent).wf = true) (f3 : r.nd.name.size ≤ maxLen) :
  Calls Tryz.prog 116 #[.agg #[.map (some b1), .map (some b2)], .pointer (some ⟨g, 0, none⟩)] w fun e w' => e = .returned (.tuple #[]) ∧ (∃ C', Lk w' B b1 b2 (rs ++ [r]) (Gn G rs.length g) C' fun _ => none) ∧ Kept w w' ∧ Below B w w' := by
 have HL := Shut.mk h
 have HN := Shut.mk hn
 have HG := Shut.mk hg
 have c0 := (hn.2 0 _ rfl).1
 have c1 := (hn.2 1 _ rfl).1
 have c2 := (hn.2 2 _ rfl).1
 have c3 := (hn.2 3 _ rfl).1
 have c4 := (hn.2 4 _ rfl).1
 have c5 := (hn.2 5 _ rfl).1
 have c6 := (hn.2 6 _ rfl).1
 have c7 := (hn.2 7 _ rfl).1
 have c8 := (hn.2 8 _ rfl).1
 have lg := hn.1
 clear h hn hg
 go_enter Tryz.func116, Tryz.ntmps116
 go_upto_region 2 with fail
 refine wp_shade (fun W => Ph w W B b1 b2 w.heap.size r ∧ Ms W B b1 b2 rs.length rs.length rs.length (fun id => (fid (nds rs) id).map G) C (Par (nds rs)) (fun p s => (fnm (nds rs) p s).map G)) ?_ ?_
 ·have hb : Below w.heap.size w ((w.alloc (.cells #[.map (some b1), .map (some b2)] 89)).alloc (.cells #[.int .i64 r.nd.id, .int .i64 r.nd.parent, .string r.nd.name, .bool r.nd.dir, .int .i64 r.nd.schema, .int .i64 r.nd.quota, .int .i64 r.nd.len, .slice r.loc r.nd.pieces.length r.cap, .int .i64 r.nd.writer] 47)) := ((Below.refl _ _).alloc (Nat.le_refl _) _).alloc (by simp) _
  refine ⟨⟨Kept.below hb, hb.mono hBw, hb.size, (wcells_new w #[.map (some b1), .map (some b2)] 89).alloc _, ?_⟩, HL.out.ms.below hb⟩
  have := wcells_new (w.alloc (.cells #[.map (some b1), .map (some b2)] 89)) #[.int .i64 r.nd.id, .int .i64 r.nd.parent, .string r.nd.name, .bool r.nd.dir, .int .i64 r.nd.schema, .int .i64 r.nd.quota, .int .i64 r.nd.len, .slice r.loc r.nd.pieces.length r.cap, .int .i64 r.nd.writer] 47
  simpa [ncells] using this
 intro W hW
 obtain ⟨hP, hM⟩ := hW
 have HP := Shut.mk hP
 have HM := Shut.mk hM
 have HLO := Shut.mk HL.out.lo
 clear c0 c1 c2 c3 c4 c5 c6 c7 c8 hP hM
 have b0 := (HP.out.bx.2 0 _ rfl).1
 have n0 := (HP.out.nd.2 0 _ rfl).1
 obtain ⟨D1, o1, t1⟩ := HM.out.s1
 have hk1 := look_ptr keyI Tryz.underlying86 zeroLp o1 (key_int f1) (t1 r.nd.id) 0
 rw [World.drewN_zero] at hk1
 dsimp only at hk1
 have T1 := Shut.mk t1
 clear t1
 obtain ⟨u1, hu1⟩ : ∃ u1, u1 = (fid (nds rs) r.nd.id).map G := ⟨_, rfl⟩
 rw [← hu1] at hk1
 have U1 := Shut.mk hu1
 clear hu1
 have e1 := eqg_ptr
 have e2 := eq_ptr
 go_upto_if 14 with fail
 go_cut [4] from 5 to 47 (fun u wx => u = .pointer (some ⟨w.heap.size + 1, 0, none⟩) ∧ Shut (Ph w wx B b1 b2 w.heap.size r ∧ Ms wx B b1 b2 (rs.length + 1) rs.length rs.length (fun id => match fid (nds rs) id with | some i => some (G i) | none => if r.nd.id = id then some g else none) C (Par (nds rs)) (fun p s => (fnm (nds rs) p s).map G)))
 case first =>
  cases u1 with
  | some x =>
   clear o1 T1 D1
   go_wp2_with fail
   go_meet
   case rel =>
    refine ⟨rfl, ⟨HP.out, ?_⟩⟩
    obtain ⟨s1, s2, s3, inj⟩ := HM.out
    refine ⟨(s1.more (Nat.le_succ _)).eq fun id => ?_, s2, s3, inj⟩
    cases hf : fid (nds rs) id with
    | some i => rfl
    | none =>
     by_cases e : r.nd.id = id
     ·have := U1.out
      rw [e, hf] at this
      cases this
     ·simp [e]
  | none =>
   have hmx : rs.length < maxLen := by unfold maxLen; omega
   go_wp2_with (at_mapUpdate; refine wpList_mapUpdate_in _ rfl _ _ _ 86 rfl 3 93 keyI Tryz.underlying86 ptrE b1 rs.length D1 rfl o1 hmx _ _ _ rfl rfl (key_int f1) (.lit (.int .i64 g)) [] rfl ?_; intro w2 hown2 hturn2)
   go_meet
   case rel =>
    refine ⟨rfl, ⟨HP.out.turned hturn2 HLO.out.1 hBw, ?_⟩⟩
    obtain ⟨s1, ⟨f2', s2, e2⟩, s3, inj⟩ := HM.out
    refine ⟨Sp.put (fun x y => ki_inj) o1 T1.out (wf_key f1) hown2 ?_ (fun y hy => ?_), ⟨f2', s2.turned hturn2 (fun e => HLO.out.2.2 e.symm), e2⟩, fun p hp => ⟨(s3 p hp).1, (s3 p hp).2.1, (s3 p hp).2.2.1, (s3 p hp).2.2.2.turned hturn2 (s3 p hp).2.1⟩, inj⟩
    ·have := U1.out
     cases hf : fid (nds rs) r.nd.id with
     | some i => rw [hf] at this; cases this
     | none => simp
    ·cases hf : fid (nds rs) y with
     | some i => rfl
     | none => simp; exact fun e => hy e.symm
 case rest =>
  obtain ⟨rfl, hc⟩ := hcut
  clear b0 n0 hk1 o1 T1 HM HP U1
  have HP := Shut.mk hc.out.1
  have HM := Shut.mk hc.out.2
  clear hc
  have b0 := (HP.out.bx.2 1 _ rfl).1
  have n0 := (HP.out.nd.2 1 _ rfl).1
  obtain ⟨F2, ⟨D2, o2, t2⟩, E2⟩ := HM.out.s2
  have hk2 := look_map keyI Tryz.underlying87 zeroLm o2 (key_int f2) (t2 r.nd.parent) 0
  rw [World.drewN_zero] at hk2
  have T2 := Shut.mk t2
  have HE2 := Shut.mk E2
  clear t2 E2
  obtain ⟨u2, hu2⟩ : ∃ u2, u2 = F2 r.nd.parent := ⟨_, rfl⟩
  rw [← hu2] at hk2
  have U2 := Shut.mk hu2
  clear hu2
  have e3 := eqg_map
  have e4 := eq_map
  go_upto_if 25 with fail
  go_cut [4] from 5 to 47 (fun u wx => u = .pointer (some ⟨w.heap.size + 1, 0, none⟩) ∧ Shut (Ph w wx B b1 b2 w.heap.size r ∧ ∃ C', Ms wx B b1 b2 (rs.length + 1) (rs.length + 1) rs.length (fun id => match fid (nds rs) id with | some i => some (G i) | none => if r.nd.id = id then some g else none) C' (fun p => Par (nds rs) p ∨ r.nd.parent = p) (fun p s => (fnm (nds rs) p s).map G)))
  case first =>
   cases u2 with
   | some x =>
    have hpar : Par (nds rs) r.nd.parent := Classical.byContradiction fun hp => by
     have := (HE2.out r.nd.parent).2 hp
     rw [← U2.out] at this
     cases this
    have HPA := Shut.mk hpar
    clear o2 T2 D2 hpar
    go_wp2_with fail
    go_meet
    case rel =>
     refine ⟨rfl, ⟨HP.out, C, ?_⟩⟩
     obtain ⟨s1, ⟨f2', s2, e2⟩, s3, inj⟩ := HM.out
     have hps : ∀ p, Par (nds rs) p ∨ r.nd.parent = p → Par (nds rs) p := fun p hp => hp.elim (fun h => h) (fun e => e ▸ HPA.out)
     exact ⟨s1, ⟨f2', s2.more (Nat.le_succ _), fun p => ⟨fun hp => (e2 p).1 (hps p hp), fun hp => (e2 p).2 fun hp' => hp (.inl hp')⟩⟩, fun p hp => s3 p (hps p hp), fun p q hp hq => inj p q (hps p hp) (hps q hq)⟩
   | none =>
    have hpar : ¬ Par (nds rs) r.nd.parent := fun hp => by
     have := (HE2.out r.nd.parent).1 hp
     rw [← U2.out] at this
     cases this
    have HPA := Shut.mk hpar
    have hmx : rs.length < maxLen := by unfold maxLen; omega
    have hmm := @run_makeMap Tryz.prog
    have o2' := o2.alloc (.map #[] 0)
    have hlt : b2 < wc.heap.size := o2.lt
    clear hpar
    go_wp2_with (at_mapUpdate; refine wpList_mapUpdate_in _ rfl _ _ _ 87 rfl 3 94 keyI Tryz.underlying87 mapE b2 rs.length D2 rfl o2' hmx _ _ _ rfl rfl (key_int f2) (.lit (.int .i64 wc.heap.size)) [] rfl ?_; intro w2 hown2 hturn2)
    go_meet
    case rel =>
     have hb : Below wc.heap.size wc (wc.alloc (.map #[] 0)) := (Below.refl _ _).alloc (Nat.le_refl _) _
     have hne : wc.heap.size ≠ b2 := by omega
     have hsw := HP.out.sz
     obtain ⟨s1, ⟨f2', s2, e2⟩, s3, inj⟩ := HM.out
     obtain ⟨p1, p2, p3⟩ := HLO.out
     have hl1 : b1 < wc.heap.size := by obtain ⟨_, o, _⟩ := s1; exact o.lt
     classical
     have hother : ∀ p, Par (nds rs) p ∨ r.nd.parent = p → p ≠ r.nd.parent → Par (nds rs) p := fun p hp hne => hp.elim (fun h => h) (fun e => absurd e.symm hne)
     have hlC : ∀ p, Par (nds rs) p → C p < wc.heap.size := fun p hp => by obtain ⟨_, _, _, _, o, _⟩ := s3 p hp; exact o.lt
     refine ⟨rfl, ⟨(HP.out.below hb hBw).turned hturn2 p2 hBw, fun p => if p = r.nd.parent then wc.heap.size else C p, ?_⟩⟩
     refine ⟨(s1.below hb).turned hturn2 p3, ⟨fun p => if p = r.nd.parent then some wc.heap.size else F2 p, Sp.put (fun x y => ki_inj) o2 T2.out (wf_key f2) hown2 (by simp) (fun y hy => by simp [hy]), fun p => ⟨fun hp => ?_, fun hp => ?_⟩⟩, fun p hp => ?_, fun p q hp hq e => ?_⟩
     ·by_cases e : p = r.nd.parent
      ·simp [e]
      ·simp only [if_neg e]
       exact (HE2.out p).1 (hother p hp e)
     ·have e : p ≠ r.nd.parent := fun e => hp (.inr e.symm)
      simp only [if_neg e]
      exact (HE2.out p).2 fun h => hp (.inl h)
     ·by_cases e : p = r.nd.parent
      ·subst e
       simp only [if_pos]
       refine ⟨by omega, by omega, hne, ?_⟩
       refine (Sp.more (Sp.turned (c := b2) (w := wc.alloc (.map #[] 0)) ⟨.map [], World.ownsMap_made wc Tryz.prog 9 ptrE, fun s => ?_⟩ hturn2 hne) (Nat.zero_le _))
       cases hf : fnm (nds rs) r.nd.parent s with
       | some i => exact absurd (par_fnm hf) HPA.out
       | none => dsimp only; rw [hf]; rfl
      ·simp only [if_neg e]
       obtain ⟨q1, q2, q3, q4⟩ := s3 p (hother p hp e)
       exact ⟨q1, q2, q3, (q4.below hb).turned hturn2 q3⟩
     ·by_cases e1 : p = r.nd.parent <;> by_cases e2' : q = r.nd.parent
      ·rw [e1, e2']
      ·simp only [if_pos e1, if_neg e2'] at e
       have := hlC q (hother q hq e2')
       omega
      ·simp only [if_neg e1, if_pos e2'] at e
       have := hlC p (hother p hp e1)
       omega
      ·simp only [if_neg e1, if_neg e2'] at e
       exact inj p q (hother p hp e1) (hother q hq e2') e
  case rest =>
   obtain ⟨rfl, hc⟩ := hcut
   clear b0 n0 hk2 o2 T2 HE2 HM HP U2
   have HP := Shut.mk hc.out.1
   obtain ⟨C', hM⟩ := hc.out.2
   have HM := Shut.mk hM
   clear hc hM
   have b0 := (HP.out.bx.2 1 _ rfl).1
   have n0 := (HP.out.nd.2 1 _ rfl).1
   have n1 := (HP.out.nd.2 2 _ rfl).1
   obtain ⟨F2, ⟨D2, o2, t2⟩, E2⟩ := HM.out.s2
   have hk2 := look_map keyI Tryz.underlying87 zeroLm o2 (key_int f2) (t2 r.nd.parent) 0
   rw [World.drewN_zero, (E2 r.nd.parent).1 (.inr rfl)] at hk2
   unfold mapV at hk2
   obtain ⟨q1, q2, q3, D3, o3, t3⟩ := HM.out.s3 r.nd.parent (.inr rfl)
   have hk3 := look_ptr keyS Tryz.underlying94 zeroLp o3 (key_str f3) (t3 r.nd.name) 0
   rw [World.drewN_zero] at hk3
   dsimp only at hk2 hk3
   have T3 := Shut.mk t3
   have HC := Shut.mk (And.intro q1 (And.intro q2 q3))
   clear t2 t3 E2 o2 q1 q2 q3
   obtain ⟨c, hce⟩ : ∃ c, c = C' r.nd.parent := ⟨_, rfl⟩
   rw [← hce] at hk2 hk3 o3
   have HCE := Shut.mk hce
   obtain ⟨u3, hu3⟩ : ∃ u3, u3 = (fnm (nds rs) r.nd.parent r.nd.name).map G := ⟨_, rfl⟩
   rw [← hu3] at hk3
   have U3 := Shut.mk hu3
   clear hu3 hce
   have HFIN : Shut (∀ w', Kept w w' → Below B w w' → Ms w' B b1 b2 (rs.length + 1) (rs.length + 1) (rs.length + 1) (fun id => match fid (nds rs) id with | some i => some (G i) | none => if r.nd.id = id then some g else none) C' (fun p => Par (nds rs) p ∨ r.nd.parent = p) (fun p s => match fnm (nds rs) p s with | some i => some (G i) | none => if r.nd.parent = p ∧ r.nd.name = s then some g else none) → ∃ C', Lk w' B b1 b2 (rs ++ [r]) (Gn G rs.length g) C' fun _ => none) := ⟨fun w' hk hb hm => by
    obtain ⟨s1, ⟨f2', ⟨D, o, t⟩, e2⟩, s3, inj⟩ := hm
    exact ⟨C', HL.out.snoc hk (hk _ _ HN.out) HG.out hB s1 ⟨D, o, fun p => ⟨fun hp => by rw [← (e2 p).1 hp]; exact t p, fun hp => by rw [← (e2 p).2 hp]; exact t p⟩⟩ s3 inj⟩⟩
   cases u3 with
   | some x =>
    clear o3 T3 D3
    go_wp2_with fail
    refine bodyPost_end (v := .tuple #[]) (by simp [results, Tryz.results116, go_sem]) rfl ?_
    refine ⟨rfl, HFIN.out _ HP.out.kp HP.out.bl ?_, HP.out.kp, HP.out.bl⟩
    obtain ⟨s1, s2, s3, inj⟩ := HM.out
    refine ⟨s1, s2, fun p hp => ⟨(s3 p hp).1, (s3 p hp).2.1, (s3 p hp).2.2.1, (Sp.more (s3 p hp).2.2.2 (Nat.le_succ _)).eq fun s => ?_⟩, inj⟩
    cases hf : fnm (nds rs) p s with
    | some i => rfl
    | none =>
     by_cases e : r.nd.parent = p ∧ r.nd.name = s
     ·have := U3.out
      rw [e.1, e.2, hf] at this
      cases this
     ·simp [e]
   | none =>
    have hmx : rs.length < maxLen := by unfold maxLen; omega
    go_wp2_with (at_mapUpdate; refine wpList_mapUpdate_in _ rfl _ _ _ 94 rfl 9 93 keyS Tryz.underlying94 ptrE c rs.length D3 rfl o3 hmx _ _ _ rfl rfl (key_str f3) (.lit (.int .i64 g)) [] rfl ?_; intro w2 hown2 hturn2)
    refine bodyPost_end (v := .tuple #[]) (by simp [results, Tryz.results116, go_sem]) rfl ?_
    have hcB : B ≤ c := by rw [HCE.out]; exact HC.out.1
    have hP := HP.out.turned hturn2 hcB hBw
    refine ⟨rfl, HFIN.out _ hP.kp hP.bl ?_, hP.kp, hP.bl⟩
    obtain ⟨s1, ⟨f2', s2, e2⟩, s3, inj⟩ := HM.out
    refine ⟨s1.turned hturn2 (by rw [HCE.out]; exact fun e => HC.out.2.1 e.symm), ⟨f2', s2.turned hturn2 (by rw [HCE.out]; exact fun e => HC.out.2.2 e.symm), e2⟩, fun p hp => ?_, inj⟩
    obtain ⟨q1, q2, q3, q4⟩ := s3 p hp
    refine ⟨q1, q2, q3, ?_⟩
    by_cases e : p = r.nd.parent
    ·subst e
     rw [← HCE.out]
     refine Sp.put (fun x y => ks_inj) o3 T3.out (str_key f3) hown2 ?_ (fun y hy => ?_)
     ·have := U3.out
      cases hf : fnm (nds rs) r.nd.parent r.nd.name with
      | some i => rw [hf] at this; cases this
      | none => simp
     ·cases hf : fnm (nds rs) r.nd.parent y with
      | some i => rfl
      | none => simp; exact fun e => hy e.symm
    ·refine ((q4.turned hturn2 fun e' => e ?_).more (Nat.le_succ _)).eq fun s => ?_
     ·exact inj p r.nd.parent hp (.inr rfl) (e'.trans HCE.out)
     ·cases hf : fnm (nds rs) p s with
      | some i => rfl
      | none => simp; exact fun e' => absurd e'.symm e
theorem own_ne {w : World} {P : Program} {k : TypeId} {R : Value → Option (DataW Unit × List MemPlace)} {b n g : Nat} {D : DataW Unit} {L : List Value} (h : w.ownsMap P k R b n D) (hc : WCells w g L) (hL : 0 < L.length) : b ≠ g := by
 rintro rfl
 obtain ⟨es, clock, hb, _⟩ := h
 have := (hc.2 0 _ (List.getElem?_eq_getElem hL)).1
 simp [World.cell?, hb] at this
theorem wc_grown9 {w w' : World} {g r : Nat} {L : List Value} (h : WCells w g L) (hg : w.grownBy w' (some r)) (hr : g ≠ r) : WCells w' g L := by
 have hk := hg.block g h.1 (by simpa using hr)
 refine ⟨Nat.lt_of_lt_of_le h.1 hg.size, fun i v hv => ?_⟩
 have h1 := h.2 i v hv
 simp only [World.cell?, World.frozen?, hk] at h1 ⊢
 exact h1
theorem Lk.grown {w w' : World} {B b1 b2 r : Nat} {rs : List NR} {G : Nat → Nat} {C : Int → Nat} {A : Nat → Option Nat} (h : Lk w B b1 b2 rs G C A) (hg : w.grownBy w' (some r)) (h1 : b1 ≠ r) (h2 : b2 ≠ r) (h3 : ∀ p, Par (nds rs) p → C p ≠ r) (h4 : ∀ i, i < rs.length → G i ≠ r) : Lk w' B b1 b2 rs G C A := by
 obtain ⟨⟨D1, o1, t1⟩, ⟨D2, o2, t2⟩, m3, inj, cells, one, lo⟩ := h
 refine ⟨⟨D1, o1.kept hg (by simpa using h1), t1⟩, ⟨D2, o2.kept hg (by simpa using h2), t2⟩, fun p hp => ?_, inj, fun i hi => ⟨wc_grown9 (cells i hi).1 hg (h4 i hi), (cells i hi).2⟩, one, lo⟩
 obtain ⟨q1, q2, q3, D, o3, t3⟩ := m3 p hp
 exact ⟨q1, q2, q3, D, o3.kept hg (by simpa using h3 p hp), t3⟩
theorem ptrV_is (o : Option Nat) : ∃ a, ptrV o = .pointer a := by
 cases o with
 | none => exact ⟨none, rfl⟩
 | some g => exact ⟨some ⟨g, 0, none⟩, rfl⟩
theorem grown_setCell (W : World) (p : Addr) (v : Value) : W.grownBy (W.setCell p v) (some p.block) :=
 ⟨rfl, rfl, rfl, by simp [World.setCell], fun k _ hk => Below.heap_setCell _ _ _ k (fun e => hk (by rw [e]))⟩
theorem lcells_set (r : NR) (p q : Value) : (lcells r p).set 9 q = lcells r q := rfl
theorem Lk.tell {w : World} {B b1 b2 : Nat} {rs : List NR} {G : Nat → Nat} {C : Int → Nat} {A A' : Nat → Option Nat} {i : Nat} (h : Lk w B b1 b2 rs G C A) (hi : i < rs.length) (hA : ∀ j, j < rs.length → j ≠ i → A' j = A j) : Lk (w.setCell ⟨G i, 9, none⟩ (ptrV ((A' i).map G))) B b1 b2 rs G C A' := by
 obtain ⟨⟨D1, o1, t1⟩, ⟨D2, o2, t2⟩, m3, inj, cells, one, lo⟩ := h
 have hc := (cells i hi).1
 refine ⟨⟨D1, o1.setCell (a := ⟨G i, 9, none⟩) (own_ne o1 hc (by simp [lcells])) _, t1⟩, ⟨D2, o2.setCell (a := ⟨G i, 9, none⟩) (own_ne o2 hc (by simp [lcells])) _, t2⟩, fun p hp => ?_, inj, fun j hj => ?_, one, lo⟩
 ·obtain ⟨q1, q2, q3, D, o3, t3⟩ := m3 p hp
  exact ⟨q1, q2, q3, D, o3.setCell (a := ⟨G i, 9, none⟩) (own_ne o3 hc (by simp [lcells])) _, t3⟩
 ·by_cases e : j = i
  ·subst e
   have := hc.set 9 (ptrV ((A' j).map G)) (by simp [lcells])
   rw [lcells_set] at this
   exact ⟨this, (cells j hj).2⟩
  ·rw [hA j hj e]
   exact ⟨(cells j hj).1.other _ _ (fun q => e (one j i hj hi q)), (cells j hj).2⟩
theorem Lk.same {w : World} {B b1 b2 : Nat} {rs : List NR} {G : Nat → Nat} {C : Int → Nat} {A A' : Nat → Option Nat} (h : Lk w B b1 b2 rs G C A) (hA : ∀ j, j < rs.length → A' j = A j) : Lk w B b1 b2 rs G C A' := by
 obtain ⟨m1, m2, m3, inj, cells, one, lo⟩ := h
 exact ⟨m1, m2, m3, inj, fun j hj => by rw [hA j hj]; exact cells j hj, one, lo⟩
theorem Lk.side {w : World} {B b1 b2 : Nat} {rs : List NR} {G : Nat → Nat} {C : Int → Nat} {A : Nat → Option Nat} (h : Lk w B b1 b2 rs G C A) (p : Addr) (v : Value) {L : List Value} (hp : WCells w p.block L) (hL : 0 < L.length) (hne : ∀ i, i < rs.length → G i ≠ p.block) : Lk (w.setCell p v) B b1 b2 rs G C A := by
 obtain ⟨⟨D1, o1, t1⟩, ⟨D2, o2, t2⟩, m3, inj, cells, one, lo⟩ := h
 refine ⟨⟨D1, o1.setCell (own_ne o1 hp hL) _, t1⟩, ⟨D2, o2.setCell (own_ne o2 hp hL) _, t2⟩, fun q hq => ?_, inj, fun j hj => ⟨(cells j hj).1.other _ _ (hne j hj), (cells j hj).2⟩, one, lo⟩
 obtain ⟨q1, q2, q3, D, o3, t3⟩ := m3 q hq
 exact ⟨q1, q2, q3, D, o3.setCell (own_ne o3 hp hL) _, t3⟩
def Ab (ns : List NM) (left : Lit → Bool) (i : Nat) : Option Nat := if fid ns (ns.getD i default).id = some i ∧ left (ki (ns.getD i default).id) = false then fid ns (ns.getD i default).parent else none
theorem same_ki (a b : Int) : (ki a).sameKey (ki b) = decide (a = b) := by
 by_cases e : a = b
 ·subst e; simp [Lit.sameKey]
 ·rw [Maps.sameKey_ne (fun q => e (ki_inj q))]; simp [e]
theorem ab_step {ns : List NM} {left : Lit → Bool} {x : Int} {i : Nat} (hi : fid ns x = some i) : (∀ j, j < ns.length → j ≠ i → Ab ns (fun z => left z && !z.sameKey (ki x)) j = Ab ns left j) ∧ Ab ns (fun z => left z && !z.sameKey (ki x)) i = fid ns (ns.getD i default).parent := by
 obtain ⟨hil, ei⟩ := fid_lt hi
 constructor
 ·intro j hj hne
  unfold Ab
  by_cases hf : fid ns (ns.getD j default).id = some j
  ·have : ¬ (ns.getD j default).id = x := fun e => by
    rw [e, hi] at hf
    cases hf
    exact hne rfl
   simp only [same_ki, this, decide_false, Bool.not_false, Bool.and_true]
  ·simp only [hf, false_and, if_false]
 ·unfold Ab
  rw [getD_in hil, ei, if_pos ⟨hi, by simp [same_ki]⟩]
structure Lw (w W : World) (rs : List NR) (G : Nat → Nat) (C : Int → Nat) (A : Nat → Option Nat) : Prop where
 lk : Lk W w.heap.size (w.heap.size + 1) (w.heap.size + 1 + 1) rs G C A
 bx : WCells W w.heap.size [.map none, .map none]
 vr : WCells W (w.heap.size + 1 + 1 + 1) [.map (some (w.heap.size + 1)), .map (some (w.heap.size + 1 + 1))]
 bl : Below w.heap.size w W
set_option maxHeartbeats 2000000 in
theorem linkNodes_any {w : World} {a : Option Addr} {rs : List NR} {cap lo hi : Nat} (hm : TR w a rs lo hi) (hl : rs.length ≤ 1048576) (hI : NInt (nds rs)) (hS : ∀ n ∈ nds rs, n.name.size ≤ maxLen) :
  Calls Tryz.prog 72 #[.slice a rs.length cap] w fun e w' => ∃ b1 b2 G C, e = .returned (.agg #[.map (some b1), .map (some b2)]) ∧ Lk w' w.heap.size b1 b2 rs G C (Ab (nds rs) fun _ => false) ∧ Below w.heap.size w w' := by
 have HM := Shut.mk hm
 have HI := Shut.mk hI
 have HS := Shut.mk hS
 have hmm := @run_makeMap Tryz.prog
 clear hm hI hS
 go_enter Tryz.func72, Tryz.ntmps72
 go_upto_region 2 with fail
 refine wp_shade (fun W => Lw w W [] (fun _ => 0) (fun _ => 0) fun _ => none) ?_ ?_
 ·have m1 := World.ownsMap_made (w.alloc (.cells #[.map none, .map none] 89)) Tryz.prog 3 ptrE
  have m2 := World.ownsMap_made ((w.alloc (.cells #[.map none, .map none] 89)).alloc (.map #[] 0)) Tryz.prog 3 mapE
  have z1 : ∀ o : Obj, (w.alloc o).heap.size = w.heap.size + 1 := fun o => by simp
  have z2 : ∀ o o' : Obj, ((w.alloc o).alloc o').heap.size = w.heap.size + 1 + 1 := fun o o' => by simp
  rw [z1] at m1
  rw [z2] at m2
  refine ⟨Lk.start ((m1.alloc _).alloc _) (m2.alloc _) ⟨by omega, by omega, by omega⟩, (((wcells_new w #[.map none, .map none] 89).alloc _).alloc _).alloc _, ?_, ((((Below.refl _ _).alloc (Nat.le_refl _) _).alloc (by simp) _).alloc (by simp; omega) _).alloc (by simp; omega) _⟩
  have := wcells_new (((w.alloc (.cells #[.map none, .map none] 89)).alloc (.map #[] 0)).alloc (.map #[] 0)) #[.map (some (w.heap.size + 1)), .map (some (w.heap.size + 1 + 1))] 89
  simpa using this
 intro W hW
 have HW := Shut.mk hW
 clear hW
 go_wp2_with fail
 go_loopw [13] (fun i wr => ∃ (k : Nat) (G : Nat → Nat) (C : Int → Nat), i = .int .i64 k ∧ k ≤ rs.length ∧ Shut (Lw w wr (rs.take k) G C fun _ => none)) (fun i _ => rs.length - (intOf i).toNat)
 case atStart => exact ⟨0, _, _, rfl, Nat.zero_le _, by simpa using HW⟩
 case round =>
  clear HW
  obtain ⟨k, G, C, rfl, hk, hW⟩ := hrel
  have v0 := (hW.out.vr.2 0 _ rfl).1
  have v1 := (hW.out.vr.2 1 _ rfl).1
  have lv := hW.out.vr.1
  by_cases hlt : k < rs.length
  ·obtain ⟨b, off, rfl, lb, hc⟩ := TR.nat HM.out (by omega)
   have hn := (hc k hlt).below hW.out.bl lb
   obtain ⟨r, hr⟩ : ∃ r, r = rs[k] := ⟨_, rfl⟩
   rw [← hr] at hn
   have hstep : rs.take (k + 1) = rs.take k ++ [r] := by rw [hr]; exact List.take_succ_eq_append_getElem hlt
   have hmem : r.nd ∈ nds rs := by rw [hr]; exact List.mem_map.2 ⟨_, List.getElem_mem hlt, rfl⟩
   have f1 := (HI.out _ hmem).1
   have f2 := (HI.out _ hmem).2
   have f3 := HS.out _ hmem
   have hlk : (rs.take k).length = k := by simp; omega
   have HCALL : Shut (∀ W, W = (wr.alloc (.cells #[.int .i64 r.nd.id, .int .i64 r.nd.parent, .string r.nd.name, .bool r.nd.dir, .int .i64 r.nd.schema, .int .i64 r.nd.quota, .int .i64 r.nd.len, .slice r.loc r.nd.pieces.length r.cap, .int .i64 r.nd.writer] 47)).alloc (.cells #[.int .i64 r.nd.id, .int .i64 r.nd.parent, .string r.nd.name, .bool r.nd.dir, .int .i64 r.nd.schema, .int .i64 r.nd.quota, .int .i64 r.nd.len, .slice r.loc r.nd.pieces.length r.cap, .int .i64 r.nd.writer, .pointer none] 96) →
     Calls Tryz.prog 116 #[.agg #[.map (some (w.heap.size + 1)), .map (some (w.heap.size + 1 + 1))], .pointer (some ⟨wr.heap.size + 1, 0, none⟩)] W fun e w' => e = .returned (.tuple #[]) ∧ ∃ G' C', Shut (Lw w w' (rs.take (k + 1)) G' C' fun _ => none)) := ⟨fun W hWe => by
    have hb1 : Below wr.heap.size wr W := by rw [hWe]; exact ((Below.refl _ _).alloc (Nat.le_refl _) _).alloc (by simp) _
    have hnew : WCells W (wr.heap.size + 1) (lcells r (.pointer none)) := by
     have := wcells_new (wr.alloc (.cells #[.int .i64 r.nd.id, .int .i64 r.nd.parent, .string r.nd.name, .bool r.nd.dir, .int .i64 r.nd.schema, .int .i64 r.nd.quota, .int .i64 r.nd.len, .slice r.loc r.nd.pieces.length r.cap, .int .i64 r.nd.writer] 47)) #[.int .i64 r.nd.id, .int .i64 r.nd.parent, .string r.nd.name, .bool r.nd.dir, .int .i64 r.nd.schema, .int .i64 r.nd.quota, .int .i64 r.nd.len, .slice r.loc r.nd.pieces.length r.cap, .int .i64 r.nd.writer, .pointer none] 96
     rw [← hWe] at this
     simpa [lcells] using this
    have hbs := hW.out.bl.size
    refine (add_any (hW.out.lk.below hb1) hnew (fun i hi => by have := hW.out.lk.lt.2.2.1 i hi; omega) (by omega) (by have := hb1.size; omega) (by rw [hlk]; omega) f1 f2 f3).mono ?_
    rintro e w' ⟨rfl, ⟨C', hL⟩, hK, hB⟩
    exact ⟨rfl, _, C', ⟨by rw [hstep]; exact hL, hK _ _ (hW.out.bx.grow hb1), hK _ _ (hW.out.vr.grow hb1), hW.out.bl.trans ((hb1.mono hbs).trans hB)⟩⟩⟩
   obtain ⟨c0, c1, c2, c3, c4, c5, c6, c7, c8⟩ := hn
   have lb' : b < wr.heap.size := Nat.lt_of_lt_of_le lb hW.out.bl.size
   have k0 : (0 : Int) ≤ (k : Int) := by omega
   have k1 : (k : Int) < (rs.length : Int) := by omega
   clear hc hr hstep hmem f1 f2 f3 hlk hmm
   go_wp2_with fail
   refine (HCALL.out _ rfl).mono ?_
   rintro e w2 ⟨rfl, G', C', hW'⟩
   go_wp2_with fail
   go_roundw
   case rel => exact ⟨k + 1, G', C', by go_num, by omega, hW'⟩
   case measure => simp [intOf]; omega
  ·have hkn : ¬ (k : Int) < (rs.length : Int) := by omega
   obtain rfl : k = rs.length := by omega
   rw [List.take_length] at hW
   obtain ⟨wo, rfl⟩ : ∃ wo, wo = wr := ⟨_, rfl⟩
   obtain ⟨D, o1, t1⟩ := hW.out.lk.m1
   have T1 := Shut.mk t1
   obtain ⟨l1, l2, l3, l4⟩ := hW.out.lk.lt
   have L3 := Shut.mk l3
   have L4 := Shut.mk l4
   clear t1 l3 l4 hmm hlt hk
   go_wp2_with (first
    | (at_range; refine wpList_range_own _ rfl _ 86 rfl 3 93 keyI Tryz.underlying86 ptrE (w.heap.size + 1) rs.length D rfl o1 ?_; intro w0 hrg0 hg0 hs0))
   have hbr : Below wo.heap.size wo w0 := (Below.refl _ _).grown hg0 (Nat.le_refl _) (fun j hj => by cases hj)
   have HW0 : Shut (Lw w w0 rs G C fun _ => none) := ⟨hW.out.lk.below hbr, hW.out.bx.grow hbr, hW.out.vr.grow hbr, hW.out.bl.trans (hbr.mono hW.out.bl.size)⟩
   have hlv : w.heap.size < wo.heap.size := by omega
   go_loopw [7] (fun _ wx => ∃ (left : Lit → Bool) (cnt : Nat), wx.ranges Tryz.prog 3 ptrE (w.heap.size + 1) wo.heap.size rs.length D left cnt ∧ Shut (Lw w wx rs G C (Ab (nds rs) left))) (fun _ wx => wx.rangeLeft (w.heap.size + 1) wo.heap.size)
   case atStart =>
    refine ⟨_, _, hrg0, ⟨HW0.out.lk.same fun j hj => ?_, HW0.out.bx, HW0.out.vr, HW0.out.bl⟩⟩
    unfold Ab
    by_cases hf : fid (nds rs) ((nds rs).getD j default).id = some j
    ·have := (T1.out ((nds rs).getD j default).id).has
     rw [hf] at this
     rw [if_neg (fun hc => by rw [hc.2] at this; cases this)]
    ·rw [if_neg (fun hc => hf hc.1)]
   case round =>
    clear hrg0 HW0 hbr hg0 hs0 hW o1
    obtain ⟨left, cnt, hrg, hW⟩ := hrel
    go_wp2_with (first
     | (at_next; refine wpList_next_ranges _ rfl _ rfl 3 keyI ptrE (Value.int .i64) ptrV (fun key kl hk => by obtain ⟨x, hx, _⟩ := Maps.keyOf_int_inv Tryz.underlying3 hk; exact ⟨x, hx⟩) (fun v y hv => ptrE_form hv) (w.heap.size + 1) wo.heap.size rs.length _ _ _ rfl hrg ?_ ?_))
    ·intro hc0 hl0
     have HA : Ab (nds rs) left = Ab (nds rs) fun _ => false := by
      have : left = fun _ => false := funext hl0
      rw [this]
     rw [HA] at hW
     have v0' := (hW.out.vr.2 0 _ rfl).1
     have v1' := (hW.out.vr.2 1 _ rfl).1
     have y0 := hW.out.bx.2 0 _ rfl
     have y1 := hW.out.bx.2 1 _ rfl
     obtain ⟨y0, z0⟩ := y0
     obtain ⟨y1, z1⟩ := y1
     have lw := hW.out.bx.1
     clear hrg hl0 HA
     go_wp2_with fail
     refine bodyPost_ret (v := .agg #[.map (some (w.heap.size + 1)), .map (some (w.heap.size + 1 + 1))]) (by simp [results, Tryz.results72, go_sem, y0, y1]) rfl ?_
     refine ⟨_, _, G, C, rfl, ?_, (hW.out.bl.setCell (Nat.le_refl _) _).setCell (Nat.le_refl _) _⟩
     have hne : ∀ i, i < rs.length → G i ≠ w.heap.size := fun i hi e => by
      have h2 := ((hW.out.lk.cells i hi).1.2 0 _ rfl).1
      rw [e, y0] at h2
      cases h2
     refine (hW.out.lk.side ⟨w.heap.size, 0, none⟩ _ hW.out.bx (by simp) hne).side ⟨w.heap.size, 1, none⟩ _ (hW.out.bx.set 0 _ (by simp)) (by simp) hne
    ·intro x c kl d ps w1 cnt1 hkey hlk hv hat hrg1 hlt hg1 hs1 hen
     obtain ⟨x', ex, rfl, hwx⟩ := Maps.keyOf_int_inv Tryz.underlying3 hkey
     cases ex
     have htx := T1.out x
     cases hf : fid (nds rs) x with
     | none =>
      rw [hf] at htx
      have q1 := Maps.atKey_of_not_has htx .nil
      have q2 := Maps.atKey_of_not_has htx (.lit (.int .i64 0))
      rw [hat] at q1 q2
      rw [q1] at q2
      cases q2
     | some i =>
      rw [hf] at htx
      have q1 := hat .nil
      rw [htx.at] at q1
      have hce : ptrV c = ptrV (some (G i)) := ptrE_some (by rw [hv, ← q1])
      have HF := Shut.mk hf
      obtain ⟨hil, hie⟩ := fid_lt hf
      rw [nds_len] at hil
      have hr1 : Lw w w1 rs G C (Ab (nds rs) left) := by
       refine ⟨hW.out.lk.grown hg1 (by omega) (by omega) (fun p hp => by have := L4.out p hp; omega) (fun j hj => by have := L3.out j hj; omega), wc_grown9 hW.out.bx hg1 (by omega), wc_grown9 hW.out.vr hg1 (by omega), hW.out.bl.grown hg1 (by have := hW.out.bl.size; omega) (fun j hj => by cases hj; omega)⟩
      have HR := Shut.mk hr1
      obtain ⟨cc, _⟩ := hr1.lk.cells i hil
      obtain ⟨r, hr⟩ : ∃ r, r = rs[i] := ⟨_, rfl⟩
      rw [← hr] at cc
      have c1 := (cc.2 1 _ rfl).1
      obtain ⟨c9, z9⟩ := cc.2 9 _ rfl
      have v0' := (hr1.vr.2 0 _ rfl).1
      have hmem : r.nd ∈ nds rs := by rw [hr]; exact List.mem_map.2 ⟨_, List.getElem_mem hil, rfl⟩
      have f2 := (HI.out _ hmem).2
      have hlook := look_ptr keyI Tryz.underlying86 zeroLp hrg1.owns (key_int f2) (T1.out r.nd.parent)
      obtain ⟨pv, hpv⟩ := ptrV_is ((fid (nds rs) r.nd.parent).map G)
      rw [hpv] at hlook
      have HPV := Shut.mk hpv
      have HRG := Shut.mk hrg1
      have HR9 := Shut.mk hr
      obtain ⟨g, hg⟩ : ∃ g, g = G i := ⟨_, rfl⟩
      have HGI := Shut.mk hg
      rw [← hg] at c1 c9 z9 hce
      rw [hce] at hen ⊢
      unfold ptrV at hen
      have HRG0 := Shut.mk hrg
      have HLT := Shut.mk hlt
      clear hlt hr1 hv hat hkey hlk htx q1 hce hf hie cc hmem f2 hpv hrg1 hr hg hW hrg
      unfold ptrV
      go_wp2_with fail
      have hl1 : (Instr.lookup 86 (.map (some (w.heap.size + 1))) (.int .i64 r.nd.parent) false).run Tryz.prog w1.drew = .ok (.pointer pv) w1.drew := hlook 1
      clear hlook
      go_region
      all_goals
       go_wp2_with fail
       go_roundw
       case rel =>
        obtain ⟨hA1, hA2⟩ := ab_step (left := left) HF.out
        have hil' : i < (nds rs).length := by rw [nds_len]; exact hil
        have hne1 : w.heap.size + 1 ≠ g := own_ne HRG.out.owns (by rw [HGI.out]; exact (HR.out.lk.cells i hil).1) (by simp [lcells])
        have hne2 : wo.heap.size ≠ g := by have := L3.out i hil; rw [HGI.out]; omega
        have hpe : (fid (nds rs) ((nds rs).getD i default).parent).map G = (fid (nds rs) r.nd.parent).map G := by
         rw [HR9.out, getD_in hil']
         simp [nds]
        have hset := HR.out.lk.tell hil (A' := Ab (nds rs) fun z => left z && !z.sameKey (ki x)) (fun j hj hne => hA1 j (by rw [nds_len]; exact hj) hne)
        rw [hA2, hpe, HPV.out, ← HGI.out] at hset
        have hB9 : w.heap.size ≤ g := by rw [HGI.out]; exact (HR.out.lk.cells i hil).2
        have hn0 : w.heap.size ≠ g := fun e => by
         have h1 := (HR.out.bx.2 0 _ rfl).1
         have h2 := ((HR.out.lk.cells i hil).1.2 0 _ rfl).1
         rw [← HGI.out, ← e, h1] at h2
         cases h2
        have hn3 : w.heap.size + 1 + 1 + 1 ≠ g := fun e => by
         have h1 := (HR.out.vr.2 0 _ rfl).1
         have h2 := ((HR.out.lk.cells i hil).1.2 0 _ rfl).1
         rw [← HGI.out, ← e, h1] at h2
         cases h2
        have hgr : w1.grownBy (w1.setCell ⟨g, 9, none⟩ (.pointer pv)) (some g) := grown_setCell w1 ⟨g, 9, none⟩ _
        have hbd : Below (w1.setCell ⟨g, 9, none⟩ (.pointer pv)).heap.size (w1.setCell ⟨g, 9, none⟩ (.pointer pv)) (w1.setCell ⟨g, 9, none⟩ (.pointer pv)).drew := Below.drew (Below.refl _ _)
        have hrn := HRG.out.kept hgr (by simpa using hne1) (by simpa using hne2)
        have hrd : (w1.setCell ⟨g, 9, none⟩ (.pointer pv)).drew.ranges Tryz.prog 3 ptrE (w.heap.size + 1) wo.heap.size rs.length D (fun z => left z && !z.sameKey (ki x)) cnt1 := hrn
        exact ⟨_, _, hrd, hset.below hbd, (HR.out.bx.other ⟨g, 9, none⟩ _ hn0).grow hbd, (HR.out.vr.other ⟨g, 9, none⟩ _ hn3).grow hbd, (HR.out.bl.setCell hB9 _).trans (hbd.mono (by simpa [World.setCell] using HR.out.bl.size))⟩
       case measure =>
        have hne1 : w.heap.size + 1 ≠ g := own_ne HRG.out.owns (by rw [HGI.out]; exact (HR.out.lk.cells i hil).1) (by simp [lcells])
        have hne2 : wo.heap.size ≠ g := by have := L3.out i hil; rw [HGI.out]; omega
        have hgr : w1.grownBy (w1.setCell ⟨g, 9, none⟩ (.pointer pv)) (some g) := grown_setCell w1 ⟨g, 9, none⟩ _
        have hrn := HRG.out.kept hgr (by simpa using hne1) (by simpa using hne2)
        have e1 := hrn.left_eq
        have e2 := HRG0.out.left_eq
        have e3 : (w1.setCell ⟨g, 9, none⟩ (.pointer pv)).drew.rangeLeft (w.heap.size + 1) wo.heap.size = (w1.setCell ⟨g, 9, none⟩ (.pointer pv)).rangeLeft (w.heap.size + 1) wo.heap.size := rfl
        rw [e3, e1, e2]
        exact HLT.out
end Go.Proofs.YtakhagkhngmpaaaGreat
/- LawTrn: . -/
namespace Go.Proofs.YtakhagkhngmpaaaGreat
set_option maxRecDepth 100000
open Go.RowKit
attribute [local go_sem ↓] Go.wp_at_zero Go.wp_at_succ
structure BZ (W : World) (g : Nat) (c : Option Addr) (m cc : Nat) (nx : Int) (T : TM) (lo : Nat) : Prop where
 kp : WCells W g [.slice c m cc, .int .i64 nx]
 cp : TAns W (.agg #[.slice c m cc, .int .i64 nx]) T lo g
theorem BZ.below {W W' : World} {c : Option Addr} {g m cc lo : Nat} {nx : Int} {T : TM} (h : BZ W g c m cc nx T lo) (hb : Below W.heap.size W W') : BZ W' g c m cc nx T lo := ⟨h.kp.grow hb, h.cp.below hb⟩
theorem BZ.turned {W W' : World} {c : Option Addr} {g m cc lo lo' hi' : Nat} {nx : Int} {T : TM} (h : BZ W g c m cc nx T lo) (t : Turned W W' lo' hi') (hd : g < lo') : BZ W' g c m cc nx T lo := ⟨h.kp.turned t (.inl hd), h.cp.turned t (.inl (Nat.le_of_lt hd))⟩
theorem BZ.new {W : World} {c : Option Addr} {m cc lo : Nat} {nx : Int} {T : TM} (h : TAns W (.agg #[.slice c m cc, .int .i64 nx]) T lo W.heap.size) (t : TypeId) : BZ (W.alloc (.cells #[.slice c m cc, .int .i64 nx] t)) W.heap.size c m cc nx T lo := ⟨wcells_new W #[.slice c m cc, .int .i64 nx] t, h.below ((Below.refl _ _).alloc (Nat.le_refl _) _)⟩
attribute [local irreducible] newX
end Go.Proofs.YtakhagkhngmpaaaGreat
/- LkN: . -/
namespace Go.Proofs.YtakhagkhngmpaaaGreat
set_option maxRecDepth 100000
open Go.RowKit
attribute [local go_sem ↓] Go.wp_at_zero Go.wp_at_succ
set_option maxHeartbeats 2000000 in
theorem implTreeNew (w : World) : Calls Tryz.prog 28 #[] w fun e w' => TrPost newX w e w' := by
 go_enter Tryz.func28, Tryz.ntmps28
 go_wp2_with fail
 refine body_shade (fun W => WCells W w.heap.size [.slice (some ⟨w.heap.size + 1, 0, none⟩) 1 1, .int .i64 2] ∧ WCells W (w.heap.size + 1) (ncells newR) ∧ Below w.heap.size w W) ⟨(wcells_new w #[.slice (some ⟨w.heap.size + 1, 0, none⟩) 1 1, .int .i64 2] 26).alloc _, ?h2, ((Below.refl _ _).alloc (Nat.le_refl _) _).alloc (by simp) _⟩ ?_
 case h2 =>
  have := wcells_new (w.alloc (.cells #[.slice (some ⟨w.heap.size + 1, 0, none⟩) 1 1, .int .i64 2] 26)) (ncells newR).toArray 47
  rw [show (w.alloc (.cells #[.slice (some ⟨w.heap.size + 1, 0, none⟩) 1 1, .int .i64 2] 26)).heap.size = w.heap.size + 1 by simp] at this
  exact this
 rintro W ⟨h1, h2, hb⟩
 have x0 := (h1.2 0 _ rfl).1
 have x1 := (h1.2 1 _ rfl).1
 refine bodyPost_ret (v := .agg #[.slice (some ⟨w.heap.size + 1, 0, none⟩) 1 1, .int .i64 2]) (by simp [results, Tryz.results28, go_sem, x0, x1]) rfl ⟨_, rfl, ⟨_, 1, [newR], rfl, rfl, Nat.le_refl _, .inr ⟨_, rfl, ?_⟩⟩, hb⟩
 exact ⟨by simpa [NK.cells] using h2, by omega, h2.1, fun r hr => .inl (by rw [List.mem_singleton.1 hr]; rfl), by simp⟩
set_option maxHeartbeats 1000000 in
theorem in_any {w : World} {a : Option Addr} {xs : List Int} (cap : Nat) (x : Int) (hr : CRow w a (ics xs)) (hl : xs.length ≤ 1048576) : Calls Tryz.prog 38 #[.slice a xs.length cap, .int .i64 x] w fun e w' => e = .returned (.bool (xs.contains x)) ∧ w' = w := by
 obtain ⟨n, hn⟩ : ∃ n, n = xs.length := ⟨_, rfl⟩
 obtain ⟨R, hR⟩ : ∃ R, R = xs.contains x := ⟨_, rfl⟩
 rw [← hn] at hl ⊢
 rw [← hR]
 have HN := Shut.mk hn
 have HR := Shut.mk hr
 have HRR := Shut.mk hR
 clear hn hr hR
 go_enter Tryz.func38, Tryz.ntmps38
 go_wp2_with fail
 go_loopw [5] (fun i wr => ∃ k : Nat, i = .int .i64 k ∧ k ≤ n ∧ Shut (∀ j (hj : j < xs.length), j < k → xs[j] ≠ x) ∧ wr = w) (fun i _ => n - (intOf i).toNat)
 case atStart => exact ⟨0, rfl, Nat.zero_le _, ⟨fun _ _ h => absurd h (Nat.not_lt_zero _)⟩, rfl⟩
 case round =>
  obtain ⟨k, rfl, hk, hno, rfl⟩ := hrel
  by_cases hlt : k < n
  ·have hkx : k < xs.length := by rw [← HN.out]; exact hlt
   obtain ⟨b, off, rfl, lb, hc⟩ := HR.out (by simp [ics]; omega)
   have e0 := hc k (.int .i64 xs[k]) (by simp [ics, hkx])
   have k0 : (0 : Int) ≤ (k : Int) := by omega
   have k1 : (k : Int) < (n : Int) := by omega
   obtain ⟨y, hy⟩ : ∃ y, y = xs[k] := ⟨_, rfl⟩
   rw [← hy] at e0
   have HY := Shut.mk hy
   clear hc hy
   by_cases hxy : y = x
   ·have hxy' : (y == x) = true := by simp [hxy]
    have HC : Shut (R = true) := ⟨by rw [HRR.out, ← hxy, HY.out]; simp⟩
    clear hxy
    go_wp2_with fail
    go_ret
    exact ⟨by rw [HC.out]; rfl, rfl⟩
   ·go_wp2_with fail
    go_roundw
    case rel =>
     refine ⟨k + 1, by go_num, by omega, ⟨fun j hj hjk => ?_⟩, trivial⟩
     rcases Nat.lt_succ_iff_lt_or_eq.1 hjk with h | h
     ·exact hno.out j hj h
     ·subst h
      rw [← HY.out]
      exact fun e => hxy e
    case measure => simp [intOf]; omega
  ·have hlt' : ¬ (k : Int) < (n : Int) := by omega
   have HC : Shut (R = false) := ⟨by
    rw [HRR.out]
    refine Bool.eq_false_iff.2 fun hc => ?_
    simp only [List.contains_iff_mem] at hc
    obtain ⟨j, hj, e⟩ := List.mem_iff_getElem.1 hc
    exact hno.out j hj (by have := HN.out; omega) e⟩
   go_wp2_with fail
   go_ret
   exact ⟨by rw [HC.out]; rfl, rfl⟩
end Go.Proofs.YtakhagkhngmpaaaGreat
