/- Texts of ours, laid one behind the other: LkA, LkB, LkC, LkD, PaI, StI, SchQ, OpenM, TreO. -/
import Derived.Test.YthfmjjaollekiaaPz4
import Derived.Test.YthfmjjaollekiaaPz1
import Derived.Test.YthfmjjaollekiaaPz3
import Derived.Test.YthfmjjaollekiaaPz2
import Derived.WalkKit
import Derived.Maps.OwnOps
import Derived.Deep.CutRange
import Derived.WalkSmall
import Derived.Laws.RangeAny
import Derived.Deep.Slices
import Derived.Deep.Strs
import Derived.ChangeArms
import Derived.ChangeSame
import Derived.WideShapes
import Derived.OpenShut
/- LkA: The links of a tree in memory: nodes behind pointers, by their Ids, and by their Parents and Names. -/
namespace Go.Proofs.Ythfmjjaollekiaa
set_option maxRecDepth 100000
open Go.RowKit Go.Maps

theorem keyI : Keyed Try.prog 3 := int_keyed Try.underlying3
theorem keyS : Keyed Try.prog 9 := string_keyed Try.underlying9
theorem zeroLp (w : World) : (zeroValue 49).run Try.prog w = .ok (.pointer none) w := by kernel_rfl
theorem zeroLm (w : World) : (zeroValue 126).run Try.prog w = .ok (.map none) w := by kernel_rfl
theorem key_int {x : Int} (h : (Lit.int .i64 x).wf = true) : keyOf Try.prog 3 (.int .i64 x) = some (ki x) := keyOf_int_mk Try.underlying3 h
theorem key_str {s : ByteArray} (h : s.size ≤ maxLen) : keyOf Try.prog 9 (.string s) = some (ks s) := Go.WideMaps.keyOf_string_mk Try.underlying9 h
theorem eqg_ptr (x y : Operand) (o : Option Nat) (W : World) : Sem.run Try.prog (eqGuard BinOp.eql 49 x y (ptrV o) (.pointer none)) W = .ok () W := by
  cases o <;> simp [ptrV, eqGuard, go_sem]
theorem eq_ptr (o : Option Nat) (W : World) : Sem.run Try.prog (binOp BinOp.eql 49 (ptrV o) (.pointer none)) W = .ok (.bool o.isNone) W := by
  cases o <;> simp [ptrV, go_sem]
theorem neg_ptr (x y : Operand) (o : Option Nat) (W : World) : Sem.run Try.prog (eqGuard BinOp.neq 49 x y (ptrV o) (.pointer none)) W = .ok () W := by
  cases o <;> simp [ptrV, eqGuard, go_sem]
theorem ne_ptr (o : Option Nat) (W : World) : Sem.run Try.prog (binOp BinOp.neq 49 (ptrV o) (.pointer none)) W = .ok (.bool o.isSome) W := by
  cases o <;> simp [ptrV, go_sem]
theorem eqg_map (x y : Operand) (o : Option Nat) (W : World) : Sem.run Try.prog (eqGuard BinOp.eql 126 x y (mapV o) (.map none)) W = .ok () W := by
  cases o <;> simp [mapV, eqGuard, go_sem]
theorem eq_map (o : Option Nat) (W : World) : Sem.run Try.prog (binOp BinOp.eql 126 (mapV o) (.map none)) W = .ok (.bool o.isNone) W := by
  cases o <;> kernel_rfl
/-- A node of the links: the node, and a pointer to the one above it. -/
def lcells (r : NR) (p : Value) : List Value := [.int .i64 r.nd.id, .int .i64 r.nd.parent, .string r.nd.name, .bool r.nd.dir, .int .i64 r.nd.schema, .int .i64 r.nd.quota, .int .i64 r.nd.len, .slice r.loc r.nd.pieces.length r.cap, .int .i64 r.nd.writer, p]
/-- Some node has this Parent. -/
def Par (ns : List NM) (p : Int) : Prop := ∃ n ∈ ns, n.parent = p
theorem par_fnm {ns : List NM} {p : Int} {s : ByteArray} {i : Nat} (h : fnm ns p s = some i) : Par ns p := by
  obtain ⟨hi, e, _⟩ := fnm_lt h
  exact ⟨_, List.getElem_mem hi, e⟩
/-- What the links hold. 'G': the nodes' blocks; 'C': the inner maps' blocks; 'A': of each node the one above it, where it is told already. -/
structure Lk (w : World) (B b1 b2 : Nat) (rs : List NR) (G : Nat → Nat) (C : Int → Nat) (A : Nat → Option Nat) : Prop where
  m1 : ∃ D, w.ownsMap Try.prog 3 ptrE b1 rs.length D ∧ ∀ id, Tells D (ki id) ((fid (nds rs) id).map G)
  m2 : ∃ D, w.ownsMap Try.prog 3 mapE b2 rs.length D ∧ ∀ p, (Par (nds rs) p → Tells D (ki p) (some (C p))) ∧ (¬ Par (nds rs) p → Tells D (ki p) none)
  m3 : ∀ p, Par (nds rs) p → B ≤ C p ∧ C p ≠ b1 ∧ C p ≠ b2 ∧ ∃ D, w.ownsMap Try.prog 9 ptrE (C p) rs.length D ∧ ∀ s, Tells D (ks s) ((fnm (nds rs) p s).map G)
  inj : ∀ p q, Par (nds rs) p → Par (nds rs) q → C p = C q → p = q
  cells : ∀ i (hi : i < rs.length), WCells w (G i) (lcells rs[i] (ptrV ((A i).map G))) ∧ B ≤ G i
  one : ∀ i j, i < rs.length → j < rs.length → G i = G j → i = j
  lo : B ≤ b1 ∧ B ≤ b2 ∧ b1 ≠ b2
/-- The cells of all blocks stay. -/
def Kept (w w' : World) : Prop := ∀ g L, WCells w g L → WCells w' g L
theorem Kept.refl (w : World) : Kept w w := fun _ _ h => h
theorem Kept.trans {a b c : World} (h : Kept a b) (h' : Kept b c) : Kept a c := fun g L hg => h' g L (h g L hg)
theorem Kept.below {w w' : World} (h : Below w.heap.size w w') : Kept w w' := fun _ _ hg => hg.grow h
theorem Kept.turned {w w' : World} {b : Nat} (h : w.mapTurned w' b) : Kept w w' := fun _ _ hg => wc_mapTurned hg h
theorem Lk.below {w w' : World} {B b1 b2 : Nat} {rs : List NR} {G : Nat → Nat} {C : Int → Nat} {A : Nat → Option Nat} (h : Lk w B b1 b2 rs G C A) (hb : Below w.heap.size w w') : Lk w' B b1 b2 rs G C A := by
  obtain ⟨⟨D1, o1, t1⟩, ⟨D2, o2, t2⟩, m3, inj, cells, one, lo⟩ := h
  refine ⟨⟨D1, own_below o1 hb, t1⟩, ⟨D2, own_below o2 hb, t2⟩, fun p hp => ?_, inj, fun i hi => ⟨(cells i hi).1.grow hb, (cells i hi).2⟩, one, lo⟩
  obtain ⟨q1, q2, q3, D, o3, t3⟩ := m3 p hp
  exact ⟨q1, q2, q3, D, own_below o3 hb, t3⟩
theorem Lk.lt {w : World} {B b1 b2 : Nat} {rs : List NR} {G : Nat → Nat} {C : Int → Nat} {A : Nat → Option Nat} (h : Lk w B b1 b2 rs G C A) : b1 < w.heap.size ∧ b2 < w.heap.size ∧ (∀ i, i < rs.length → G i < w.heap.size) ∧ ∀ p, Par (nds rs) p → C p < w.heap.size := by
  obtain ⟨⟨D1, o1, _⟩, ⟨D2, o2, _⟩, m3, inj, cells, one, lo⟩ := h
  refine ⟨o1.lt, o2.lt, fun i hi => (cells i hi).1.1, fun p hp => ?_⟩
  obtain ⟨_, _, _, D, o3, _⟩ := m3 p hp
  exact o3.lt
/-- Nothing yet. -/
theorem Lk.start {w : World} {B b1 b2 : Nat} {G : Nat → Nat} {C : Int → Nat} {A : Nat → Option Nat} (h1 : w.ownsMap Try.prog 3 ptrE b1 0 (.map [])) (h2 : w.ownsMap Try.prog 3 mapE b2 0 (.map [])) (lo : B ≤ b1 ∧ B ≤ b2 ∧ b1 ≠ b2) : Lk w B b1 b2 [] G C A :=
  ⟨⟨_, h1, fun _ => rfl⟩, ⟨_, h2, fun _ => ⟨fun ⟨_, h, _⟩ => by simp [nds] at h, fun _ => rfl⟩⟩, fun _ ⟨_, h, _⟩ => by simp [nds] at h, fun _ _ ⟨_, h, _⟩ => by simp [nds] at h, fun i hi => absurd hi (by simp), fun i j hi => absurd hi (by simp), lo⟩
/-- The place of a new node. -/
def Gn (G : Nat → Nat) (n g : Nat) : Nat → Nat := fun i => if i = n then g else G i
theorem Gn_old {G : Nat → Nat} {n g i : Nat} (h : i < n) : Gn G n g i = G i := if_neg (by omega)
theorem Gn_new {G : Nat → Nat} {n g : Nat} : Gn G n g n = g := if_pos rfl
theorem find_snoc {α : Type} (P : α → Bool) (xs : List α) (x : α) : (xs ++ [x]).findIdx? P = match xs.findIdx? P with
    | some i => some i
    | none => if P x = true then some xs.length else none := by
  rw [List.findIdx?_append]
  cases hf : xs.findIdx? P with
  | some i => simp
  | none =>
    simp only [List.findIdx?_cons, List.findIdx?_nil, Option.none_or]
    by_cases hp : P x = true
    · simp [hp]
    · simp [hp]
theorem fid_snoc {ns : List NM} {n : NM} {id : Int} : fid (ns ++ [n]) id = match fid ns id with
    | some i => some i
    | none => if n.id = id then some ns.length else none := by
  unfold fid
  rw [find_snoc]
  cases ns.findIdx? (fun n => n.id == id) with
  | some i => rfl
  | none => simp
theorem fnm_snoc {ns : List NM} {n : NM} {p : Int} {s : ByteArray} : fnm (ns ++ [n]) p s = match fnm ns p s with
    | some i => some i
    | none => if n.parent = p ∧ n.name = s then some ns.length else none := by
  unfold fnm
  rw [find_snoc]
  cases ns.findIdx? (fun n => n.parent == p && decide (n.name = s)) with
  | some i => rfl
  | none => simp
theorem fid_map_snoc {rs : List NR} {r : NR} {G : Nat → Nat} {g : Nat} {id : Int} : (fid (nds (rs ++ [r])) id).map (Gn G rs.length g) = match fid (nds rs) id with
    | some i => some (G i)
    | none => if r.nd.id = id then some g else none := by
  rw [nds_snoc, fid_snoc]
  cases h : fid (nds rs) id with
  | some i =>
    obtain ⟨hi, _⟩ := fid_lt h
    rw [nds_len] at hi
    simp [Gn_old hi]
  | none =>
    dsimp only
    split
    · simp [nds_len, Gn_new]
    · rfl
theorem fnm_map_snoc {rs : List NR} {r : NR} {G : Nat → Nat} {g : Nat} {p : Int} {s : ByteArray} : (fnm (nds (rs ++ [r])) p s).map (Gn G rs.length g) = match fnm (nds rs) p s with
    | some i => some (G i)
    | none => if r.nd.parent = p ∧ r.nd.name = s then some g else none := by
  rw [nds_snoc, fnm_snoc]
  cases h : fnm (nds rs) p s with
  | some i =>
    obtain ⟨hi, _⟩ := fnm_lt h
    rw [nds_len] at hi
    simp [Gn_old hi]
  | none =>
    dsimp only
    split
    · simp [nds_len, Gn_new]
    · rfl
theorem par_snoc {ns : List NM} {n : NM} {p : Int} : Par (ns ++ [n]) p ↔ Par ns p ∨ n.parent = p := by
  unfold Par
  constructor
  · rintro ⟨m, hm, e⟩
    rcases List.mem_append.1 hm with h | h
    · exact .inl ⟨m, h, e⟩
    · obtain rfl := List.mem_singleton.1 h
      exact .inr e
  · rintro (⟨m, hm, e⟩ | e)
    · exact ⟨m, by simp [hm], e⟩
    · exact ⟨n, by simp, e⟩
/-- A node more: all three maps have it where it is the first one. -/
theorem Lk.snoc {w w' : World} {B b1 b2 g : Nat} {rs : List NR} {r : NR} {G : Nat → Nat} {C C' : Int → Nat} (h : Lk w B b1 b2 rs G C fun _ => none) (hk : Kept w w') (hn : WCells w' g (lcells r (.pointer none))) (hg : ∀ i, i < rs.length → G i ≠ g) (hB : B ≤ g)
    (h1 : ∃ D, w'.ownsMap Try.prog 3 ptrE b1 (rs.length + 1) D ∧ ∀ id, Tells D (ki id) (match fid (nds rs) id with | some i => some (G i) | none => if r.nd.id = id then some g else none))
    (h2 : ∃ D, w'.ownsMap Try.prog 3 mapE b2 (rs.length + 1) D ∧ ∀ p, (Par (nds rs) p ∨ r.nd.parent = p → Tells D (ki p) (some (C' p))) ∧ (¬ (Par (nds rs) p ∨ r.nd.parent = p) → Tells D (ki p) none))
    (h3 : ∀ p, Par (nds rs) p ∨ r.nd.parent = p → B ≤ C' p ∧ C' p ≠ b1 ∧ C' p ≠ b2 ∧ ∃ D, w'.ownsMap Try.prog 9 ptrE (C' p) (rs.length + 1) D ∧ ∀ s, Tells D (ks s) (match fnm (nds rs) p s with | some i => some (G i) | none => if r.nd.parent = p ∧ r.nd.name = s then some g else none))
    (h4 : ∀ p q, (Par (nds rs) p ∨ r.nd.parent = p) → (Par (nds rs) q ∨ r.nd.parent = q) → C' p = C' q → p = q) : Lk w' B b1 b2 (rs ++ [r]) (Gn G rs.length g) C' fun _ => none := by
  have hl : (rs ++ [r]).length = rs.length + 1 := by simp
  refine ⟨?_, ?_, fun p hp => ?_, fun p q hp hq e => ?_, fun i hi => ?_, fun i j hi hj e => ?_, h.lo⟩
  · obtain ⟨D, o, t⟩ := h1
    exact ⟨D, by rw [hl]; exact o, fun id => by rw [fid_map_snoc]; exact t id⟩
  · obtain ⟨D, o, t⟩ := h2
    refine ⟨D, by rw [hl]; exact o, fun p => ?_⟩
    rw [nds_snoc]
    exact ⟨fun hp => (t p).1 (par_snoc.1 hp), fun hp => (t p).2 fun hp' => hp (par_snoc.2 hp')⟩
  · rw [nds_snoc, par_snoc] at hp
    obtain ⟨q1, q2, q3, D, o, t⟩ := h3 p hp
    exact ⟨q1, q2, q3, D, by rw [hl]; exact o, fun s => by rw [fnm_map_snoc]; exact t s⟩
  · rw [nds_snoc, par_snoc] at hp hq
    exact h4 p q hp hq e
  · rw [hl] at hi
    rcases Nat.lt_or_ge i rs.length with hlt | hge
    · rw [List.getElem_append_left hlt, Gn_old hlt]
      exact ⟨hk _ _ (h.cells i hlt).1, (h.cells i hlt).2⟩
    · obtain rfl : i = rs.length := by omega
      rw [List.getElem_append_right (Nat.le_refl _), Gn_new]
      exact ⟨by simpa [ptrV] using hn, hB⟩
  · rw [hl] at hi hj
    rcases Nat.lt_or_ge i rs.length with hli | hgi <;> rcases Nat.lt_or_ge j rs.length with hlj | hgj
    · rw [Gn_old hli, Gn_old hlj] at e
      exact h.one i j hli hlj e
    · obtain rfl : j = rs.length := by omega
      rw [Gn_old hli, Gn_new] at e
      exact absurd e (hg i hli)
    · obtain rfl : i = rs.length := by omega
      rw [Gn_old hlj, Gn_new] at e
      exact absurd e.symm (hg j hlj)
    · omega
end Go.Proofs.Ythfmjjaollekiaa
/- LkB: A node is added to the links. -/
namespace Go.Proofs.Ythfmjjaollekiaa
set_option maxRecDepth 100000
open Go.RowKit Go.Maps
attribute [local go_sem ↓] Go.wp_at_zero Go.wp_at_succ

/-- What a map holds, of each key. -/
def Sp {α : Type} (kf : α → Lit) (k : TypeId) (E : Value → Option (DataW Unit × List MemPlace)) (w : World) (b n : Nat) (f : α → Option Nat) : Prop := ∃ D, w.ownsMap Try.prog k E b n D ∧ ∀ x, Tells D (kf x) (f x)
section
variable {α : Type} {kf : α → Lit} {k : TypeId} {E : Value → Option (DataW Unit × List MemPlace)} {w w' : World} {b n : Nat} {f f' : α → Option Nat}
theorem Sp.below (h : Sp kf k E w b n f) (hb : Below w.heap.size w w') : Sp kf k E w' b n f := by
  obtain ⟨D, o, t⟩ := h
  exact ⟨D, own_below o hb, t⟩
theorem Sp.turned {c : Nat} (h : Sp kf k E w b n f) (ht : w.mapTurned w' c) (hne : b ≠ c) : Sp kf k E w' b n f := by
  obtain ⟨D, o, t⟩ := h
  exact ⟨D, own_turned o ht hne, t⟩
theorem Sp.more {m : Nat} (h : Sp kf k E w b n f) (hm : n ≤ m) : Sp kf k E w b m f := by
  obtain ⟨D, o, t⟩ := h
  exact ⟨D, o.mono hm, t⟩
theorem Sp.eq (h : Sp kf k E w b n f) (e : ∀ x, f x = f' x) : Sp kf k E w b n f' := by
  obtain ⟨D, o, t⟩ := h
  exact ⟨D, o, fun x => by rw [← e x]; exact t x⟩
theorem Sp.put {D : DataW Unit} {x : α} {g : Nat} (hi : ∀ x y, kf x = kf y → x = y) (ho : w.ownsMap Try.prog k E b n D) (ht : ∀ x, Tells D (kf x) (f x)) (hk : WideAt.IsKeyLit (kf x)) {m : Nat} (ho' : w'.ownsMap Try.prog k E b m (D.put (kf x) (.lit (.int .i64 g)))) (h1 : f' x = some g) (h2 : ∀ y, y ≠ x → f' y = f y) : Sp kf k E w' b m f' := by
  refine ⟨_, ho', fun y => ?_⟩
  by_cases e : y = x
  · subst e
    rw [h1]
    exact Tells.put_same ho.isMap hk
  · rw [h2 y e]
    exact (ht y).put_other fun q => e (hi _ _ q)
end
abbrev Si := Sp ki 3 ptrE
abbrev Sm := Sp ki 3 mapE
abbrev Ss := Sp ks 9 ptrE
/-- While a node is added: what stays. -/
structure Ph (w W : World) (B b1 b2 h : Nat) (r : NR) : Prop where
  kp : Kept w W
  bl : Below B w W
  sz : w.heap.size ≤ W.heap.size
  bx : WCells W h [.map (some b1), .map (some b2)]
  nd : WCells W (h + 1) (ncells r)
theorem Ph.turned {w W W' : World} {B b1 b2 h c : Nat} {r : NR} (p : Ph w W B b1 b2 h r) (ht : W.mapTurned W' c) (hc : B ≤ c) (hB : B ≤ w.heap.size) : Ph w W' B b1 b2 h r :=
  ⟨p.kp.trans (Kept.turned ht), p.bl.grown ht.grown (by have := p.sz; omega) (fun j hj => by simp at hj; omega), Nat.le_trans p.sz ht.grown.size, wc_mapTurned p.bx ht, wc_mapTurned p.nd ht⟩
theorem Ph.below {w W W' : World} {B b1 b2 h : Nat} {r : NR} (p : Ph w W B b1 b2 h r) (hb : Below W.heap.size W W') (hB : B ≤ w.heap.size) : Ph w W' B b1 b2 h r :=
  ⟨p.kp.trans (Kept.below hb), p.bl.trans (hb.mono (by have := p.sz; omega)), Nat.le_trans p.sz hb.size, p.bx.grow hb, p.nd.grow hb⟩
/-- The maps while a node is added. -/
structure Ms (W : World) (B b1 b2 n1 n2 n3 : Nat) (f1 : Int → Option Nat) (C : Int → Nat) (ps : Int → Prop) (f3 : Int → ByteArray → Option Nat) : Prop where
  s1 : Si W b1 n1 f1
  s2 : ∃ f2, Sm W b2 n2 f2 ∧ ∀ p, (ps p → f2 p = some (C p)) ∧ (¬ ps p → f2 p = none)
  s3 : ∀ p, ps p → B ≤ C p ∧ C p ≠ b1 ∧ C p ≠ b2 ∧ Ss W (C p) n3 (f3 p)
  inj : ∀ p q, ps p → ps q → C p = C q → p = q
theorem Ms.below {W W' : World} {B b1 b2 n1 n2 n3 : Nat} {f1 : Int → Option Nat} {C : Int → Nat} {ps : Int → Prop} {f3 : Int → ByteArray → Option Nat} (h : Ms W B b1 b2 n1 n2 n3 f1 C ps f3) (hb : Below W.heap.size W W') : Ms W' B b1 b2 n1 n2 n3 f1 C ps f3 := by
  obtain ⟨s1, ⟨f2, s2, e2⟩, s3, inj⟩ := h
  exact ⟨s1.below hb, ⟨f2, s2.below hb, e2⟩, fun p hp => ⟨(s3 p hp).1, (s3 p hp).2.1, (s3 p hp).2.2.1, (s3 p hp).2.2.2.below hb⟩, inj⟩
theorem Lk.ms {w : World} {B b1 b2 : Nat} {rs : List NR} {G : Nat → Nat} {C : Int → Nat} {A : Nat → Option Nat} (h : Lk w B b1 b2 rs G C A) : Ms w B b1 b2 rs.length rs.length rs.length (fun id => (fid (nds rs) id).map G) C (Par (nds rs)) (fun p s => (fnm (nds rs) p s).map G) := by
  obtain ⟨m1, ⟨D, o2, t2⟩, m3, inj, cells, one, lo⟩ := h
  classical
  refine ⟨m1, ⟨fun p => if Par (nds rs) p then some (C p) else none, ⟨D, o2, fun p => ?_⟩, fun p => ⟨fun hp => if_pos hp, fun hp => if_neg hp⟩⟩, fun p hp => m3 p hp, inj⟩
  by_cases hp : Par (nds rs) p
  · dsimp only; rw [if_pos hp]; exact (t2 p).1 hp
  · dsimp only; rw [if_neg hp]; exact (t2 p).2 hp
theorem wf_key {x : Int} (h : (Lit.int .i64 x).wf = true) : WideAt.IsKeyLit (ki x) := keyI.key (key_int h)
theorem str_key {s : ByteArray} (h : s.size ≤ maxLen) : WideAt.IsKeyLit (ks s) := keyS.key (key_str h)
set_option maxHeartbeats 2000000 in
set_option maxRecDepth 100000 in
theorem add_any {w : World} {B b1 b2 g : Nat} {rs : List NR} {r : NR} {G : Nat → Nat} {C : Int → Nat} (h : Lk w B b1 b2 rs G C fun _ => none) (hn : WCells w g (lcells r (.pointer none))) (hg : ∀ i, i < rs.length → G i ≠ g) (hB : B ≤ g) (hBw : B ≤ w.heap.size) (hl : rs.length ≤ 1048576) (f1 : (Lit.int .i64 r.nd.id).wf = true) (f2 : (Lit.int .i64 r.nd.parent).wf = true) (f3 : r.nd.name.size ≤ maxLen) :
    Calls Try.prog 66 #[.agg #[.map (some b1), .map (some b2)], .pointer (some ⟨g, 0, none⟩)] w fun e w' => e = .returned (.tuple #[]) ∧ (∃ C', Lk w' B b1 b2 (rs ++ [r]) (Gn G rs.length g) C' fun _ => none) ∧ Kept w w' ∧ Below B w w' := by
  have HL := Shut.mk h
  have HN := Shut.mk hn
  have HG := Shut.mk hg
  have c0 := (hn.2 0 _ rfl).1
  have c1 := (hn.2 1 _ rfl).1
  have c2 := (hn.2 2 _ rfl).1
  have c3 := (hn.2 3 _ rfl).1
  have c4 := (hn.2 4 _ rfl).1
  have c5 := (hn.2 5 _ rfl).1
  have c6 := (hn.2 6 _ rfl).1
  have c7 := (hn.2 7 _ rfl).1
  have c8 := (hn.2 8 _ rfl).1
  have lg := hn.1
  clear h hn hg
  go_enter Try.func66, Try.ntmps66
  go_upto_region 2 with fail
  refine wp_shade (fun W => Ph w W B b1 b2 w.heap.size r ∧ Ms W B b1 b2 rs.length rs.length rs.length (fun id => (fid (nds rs) id).map G) C (Par (nds rs)) (fun p s => (fnm (nds rs) p s).map G)) ?_ ?_
  · have hb : Below w.heap.size w ((w.alloc (.cells #[.map (some b1), .map (some b2)] 75)).alloc (.cells #[.int .i64 r.nd.id, .int .i64 r.nd.parent, .string r.nd.name, .bool r.nd.dir, .int .i64 r.nd.schema, .int .i64 r.nd.quota, .int .i64 r.nd.len, .slice r.loc r.nd.pieces.length r.cap, .int .i64 r.nd.writer] 30)) := ((Below.refl _ _).alloc (Nat.le_refl _) _).alloc (by simp) _
    refine ⟨⟨Kept.below hb, hb.mono hBw, hb.size, (wcells_new w #[.map (some b1), .map (some b2)] 75).alloc _, ?_⟩, HL.out.ms.below hb⟩
    have := wcells_new (w.alloc (.cells #[.map (some b1), .map (some b2)] 75)) #[.int .i64 r.nd.id, .int .i64 r.nd.parent, .string r.nd.name, .bool r.nd.dir, .int .i64 r.nd.schema, .int .i64 r.nd.quota, .int .i64 r.nd.len, .slice r.loc r.nd.pieces.length r.cap, .int .i64 r.nd.writer] 30
    simpa [ncells] using this
  intro W hW
  obtain ⟨hP, hM⟩ := hW
  have HP := Shut.mk hP
  have HM := Shut.mk hM
  have HLO := Shut.mk HL.out.lo
  clear c0 c1 c2 c3 c4 c5 c6 c7 c8 hP hM
  have b0 := (HP.out.bx.2 0 _ rfl).1
  have n0 := (HP.out.nd.2 0 _ rfl).1
  obtain ⟨D1, o1, t1⟩ := HM.out.s1
  have hk1 := look_ptr keyI Try.underlying72 zeroLp o1 (key_int f1) (t1 r.nd.id) 0
  rw [World.drewN_zero] at hk1
  dsimp only at hk1
  have T1 := Shut.mk t1
  clear t1
  obtain ⟨u1, hu1⟩ : ∃ u1, u1 = (fid (nds rs) r.nd.id).map G := ⟨_, rfl⟩
  rw [← hu1] at hk1
  have U1 := Shut.mk hu1
  clear hu1
  have e1 := eqg_ptr
  have e2 := eq_ptr
  go_upto_if 14 with fail
  go_cut [4] from 5 to 47 (fun u wx => u = .pointer (some ⟨w.heap.size + 1, 0, none⟩) ∧ Shut (Ph w wx B b1 b2 w.heap.size r ∧ Ms wx B b1 b2 (rs.length + 1) rs.length rs.length (fun id => match fid (nds rs) id with | some i => some (G i) | none => if r.nd.id = id then some g else none) C (Par (nds rs)) (fun p s => (fnm (nds rs) p s).map G)))
  case first =>
    cases u1 with
    | some x =>
      clear o1 T1 D1
      go_wp2_with fail
      go_meet
      case rel =>
        refine ⟨rfl, ⟨HP.out, ?_⟩⟩
        obtain ⟨s1, s2, s3, inj⟩ := HM.out
        refine ⟨(s1.more (Nat.le_succ _)).eq fun id => ?_, s2, s3, inj⟩
        cases hf : fid (nds rs) id with
        | some i => rfl
        | none =>
          by_cases e : r.nd.id = id
          · have := U1.out
            rw [e, hf] at this
            cases this
          · simp [e]
    | none =>
      have hmx : rs.length < maxLen := by unfold maxLen; omega
      go_wp2_with (at_mapUpdate; refine wpList_mapUpdate_in _ rfl _ _ _ 72 rfl 3 49 keyI Try.underlying72 ptrE b1 rs.length D1 rfl o1 hmx _ _ _ rfl rfl (key_int f1) (.lit (.int .i64 g)) [] rfl ?_; intro w2 hown2 hturn2)
      go_meet
      case rel =>
        refine ⟨rfl, ⟨HP.out.turned hturn2 HLO.out.1 hBw, ?_⟩⟩
        obtain ⟨s1, ⟨f2', s2, e2⟩, s3, inj⟩ := HM.out
        refine ⟨Sp.put (fun x y => ki_inj) o1 T1.out (wf_key f1) hown2 ?_ (fun y hy => ?_), ⟨f2', s2.turned hturn2 (fun e => HLO.out.2.2 e.symm), e2⟩, fun p hp => ⟨(s3 p hp).1, (s3 p hp).2.1, (s3 p hp).2.2.1, (s3 p hp).2.2.2.turned hturn2 (s3 p hp).2.1⟩, inj⟩
        · have := U1.out
          cases hf : fid (nds rs) r.nd.id with
          | some i => rw [hf] at this; cases this
          | none => simp
        · cases hf : fid (nds rs) y with
          | some i => rfl
          | none => simp; exact fun e => hy e.symm
  case rest =>
    obtain ⟨rfl, hc⟩ := hcut
    clear b0 n0 hk1 o1 T1 HM HP U1
    have HP := Shut.mk hc.out.1
    have HM := Shut.mk hc.out.2
    clear hc
    have b0 := (HP.out.bx.2 1 _ rfl).1
    have n0 := (HP.out.nd.2 1 _ rfl).1
    obtain ⟨F2, ⟨D2, o2, t2⟩, E2⟩ := HM.out.s2
    have hk2 := look_map keyI Try.underlying73 zeroLm o2 (key_int f2) (t2 r.nd.parent) 0
    rw [World.drewN_zero] at hk2
    have T2 := Shut.mk t2
    have HE2 := Shut.mk E2
    clear t2 E2
    obtain ⟨u2, hu2⟩ : ∃ u2, u2 = F2 r.nd.parent := ⟨_, rfl⟩
    rw [← hu2] at hk2
    have U2 := Shut.mk hu2
    clear hu2
    have e3 := eqg_map
    have e4 := eq_map
    go_upto_if 25 with fail
    go_cut [4] from 5 to 47 (fun u wx => u = .pointer (some ⟨w.heap.size + 1, 0, none⟩) ∧ Shut (Ph w wx B b1 b2 w.heap.size r ∧ ∃ C', Ms wx B b1 b2 (rs.length + 1) (rs.length + 1) rs.length (fun id => match fid (nds rs) id with | some i => some (G i) | none => if r.nd.id = id then some g else none) C' (fun p => Par (nds rs) p ∨ r.nd.parent = p) (fun p s => (fnm (nds rs) p s).map G)))
    case first =>
      cases u2 with
      | some x =>
        have hpar : Par (nds rs) r.nd.parent := Classical.byContradiction fun hp => by
          have := (HE2.out r.nd.parent).2 hp
          rw [← U2.out] at this
          cases this
        have HPA := Shut.mk hpar
        clear o2 T2 D2 hpar
        go_wp2_with fail
        go_meet
        case rel =>
          refine ⟨rfl, ⟨HP.out, C, ?_⟩⟩
          obtain ⟨s1, ⟨f2', s2, e2⟩, s3, inj⟩ := HM.out
          have hps : ∀ p, Par (nds rs) p ∨ r.nd.parent = p → Par (nds rs) p := fun p hp => hp.elim (fun h => h) (fun e => e ▸ HPA.out)
          exact ⟨s1, ⟨f2', s2.more (Nat.le_succ _), fun p => ⟨fun hp => (e2 p).1 (hps p hp), fun hp => (e2 p).2 fun hp' => hp (.inl hp')⟩⟩, fun p hp => s3 p (hps p hp), fun p q hp hq => inj p q (hps p hp) (hps q hq)⟩
      | none =>
        have hpar : ¬ Par (nds rs) r.nd.parent := fun hp => by
          have := (HE2.out r.nd.parent).1 hp
          rw [← U2.out] at this
          cases this
        have HPA := Shut.mk hpar
        have hmx : rs.length < maxLen := by unfold maxLen; omega
        have hmm := @run_makeMap Try.prog
        have o2' := o2.alloc (.map #[] 0)
        have hlt : b2 < wc.heap.size := o2.lt
        clear hpar
        go_wp2_with (at_mapUpdate; refine wpList_mapUpdate_in _ rfl _ _ _ 73 rfl 3 126 keyI Try.underlying73 mapE b2 rs.length D2 rfl o2' hmx _ _ _ rfl rfl (key_int f2) (.lit (.int .i64 wc.heap.size)) [] rfl ?_; intro w2 hown2 hturn2)
        go_meet
        case rel =>
          have hb : Below wc.heap.size wc (wc.alloc (.map #[] 0)) := (Below.refl _ _).alloc (Nat.le_refl _) _
          have hne : wc.heap.size ≠ b2 := by omega
          have hsw := HP.out.sz
          obtain ⟨s1, ⟨f2', s2, e2⟩, s3, inj⟩ := HM.out
          obtain ⟨p1, p2, p3⟩ := HLO.out
          have hl1 : b1 < wc.heap.size := by obtain ⟨_, o, _⟩ := s1; exact o.lt
          classical
          have hother : ∀ p, Par (nds rs) p ∨ r.nd.parent = p → p ≠ r.nd.parent → Par (nds rs) p := fun p hp hne => hp.elim (fun h => h) (fun e => absurd e.symm hne)
          have hlC : ∀ p, Par (nds rs) p → C p < wc.heap.size := fun p hp => by obtain ⟨_, _, _, _, o, _⟩ := s3 p hp; exact o.lt
          refine ⟨rfl, ⟨(HP.out.below hb hBw).turned hturn2 p2 hBw, fun p => if p = r.nd.parent then wc.heap.size else C p, ?_⟩⟩
          refine ⟨(s1.below hb).turned hturn2 p3, ⟨fun p => if p = r.nd.parent then some wc.heap.size else F2 p, Sp.put (fun x y => ki_inj) o2 T2.out (wf_key f2) hown2 (by simp) (fun y hy => by simp [hy]), fun p => ⟨fun hp => ?_, fun hp => ?_⟩⟩, fun p hp => ?_, fun p q hp hq e => ?_⟩
          · by_cases e : p = r.nd.parent
            · simp [e]
            · simp only [if_neg e]
              exact (HE2.out p).1 (hother p hp e)
          · have e : p ≠ r.nd.parent := fun e => hp (.inr e.symm)
            simp only [if_neg e]
            exact (HE2.out p).2 fun h => hp (.inl h)
          · by_cases e : p = r.nd.parent
            · subst e
              simp only [if_pos]
              refine ⟨by omega, by omega, hne, ?_⟩
              refine (Sp.more (Sp.turned (c := b2) (w := wc.alloc (.map #[] 0)) ⟨.map [], World.ownsMap_made wc Try.prog 9 ptrE, fun s => ?_⟩ hturn2 hne) (Nat.zero_le _))
              cases hf : fnm (nds rs) r.nd.parent s with
              | some i => exact absurd (par_fnm hf) HPA.out
              | none => dsimp only; rw [hf]; rfl
            · simp only [if_neg e]
              obtain ⟨q1, q2, q3, q4⟩ := s3 p (hother p hp e)
              exact ⟨q1, q2, q3, (q4.below hb).turned hturn2 q3⟩
          · by_cases e1 : p = r.nd.parent <;> by_cases e2' : q = r.nd.parent
            · rw [e1, e2']
            · simp only [if_pos e1, if_neg e2'] at e
              have := hlC q (hother q hq e2')
              omega
            · simp only [if_neg e1, if_pos e2'] at e
              have := hlC p (hother p hp e1)
              omega
            · simp only [if_neg e1, if_neg e2'] at e
              exact inj p q (hother p hp e1) (hother q hq e2') e
    case rest =>
      obtain ⟨rfl, hc⟩ := hcut
      clear b0 n0 hk2 o2 T2 HE2 HM HP U2
      have HP := Shut.mk hc.out.1
      obtain ⟨C', hM⟩ := hc.out.2
      have HM := Shut.mk hM
      clear hc hM
      have b0 := (HP.out.bx.2 1 _ rfl).1
      have n0 := (HP.out.nd.2 1 _ rfl).1
      have n1 := (HP.out.nd.2 2 _ rfl).1
      obtain ⟨F2, ⟨D2, o2, t2⟩, E2⟩ := HM.out.s2
      have hk2 := look_map keyI Try.underlying73 zeroLm o2 (key_int f2) (t2 r.nd.parent) 0
      rw [World.drewN_zero, (E2 r.nd.parent).1 (.inr rfl)] at hk2
      unfold mapV at hk2
      obtain ⟨q1, q2, q3, D3, o3, t3⟩ := HM.out.s3 r.nd.parent (.inr rfl)
      have hk3 := look_ptr keyS Try.underlying126 zeroLp o3 (key_str f3) (t3 r.nd.name) 0
      rw [World.drewN_zero] at hk3
      dsimp only at hk2 hk3
      have T3 := Shut.mk t3
      have HC := Shut.mk (And.intro q1 (And.intro q2 q3))
      clear t2 t3 E2 o2 q1 q2 q3
      obtain ⟨c, hce⟩ : ∃ c, c = C' r.nd.parent := ⟨_, rfl⟩
      rw [← hce] at hk2 hk3 o3
      have HCE := Shut.mk hce
      obtain ⟨u3, hu3⟩ : ∃ u3, u3 = (fnm (nds rs) r.nd.parent r.nd.name).map G := ⟨_, rfl⟩
      rw [← hu3] at hk3
      have U3 := Shut.mk hu3
      clear hu3 hce
      have HFIN : Shut (∀ w', Kept w w' → Below B w w' → Ms w' B b1 b2 (rs.length + 1) (rs.length + 1) (rs.length + 1) (fun id => match fid (nds rs) id with | some i => some (G i) | none => if r.nd.id = id then some g else none) C' (fun p => Par (nds rs) p ∨ r.nd.parent = p) (fun p s => match fnm (nds rs) p s with | some i => some (G i) | none => if r.nd.parent = p ∧ r.nd.name = s then some g else none) → ∃ C', Lk w' B b1 b2 (rs ++ [r]) (Gn G rs.length g) C' fun _ => none) := ⟨fun w' hk hb hm => by
        obtain ⟨s1, ⟨f2', ⟨D, o, t⟩, e2⟩, s3, inj⟩ := hm
        exact ⟨C', HL.out.snoc hk (hk _ _ HN.out) HG.out hB s1 ⟨D, o, fun p => ⟨fun hp => by rw [← (e2 p).1 hp]; exact t p, fun hp => by rw [← (e2 p).2 hp]; exact t p⟩⟩ s3 inj⟩⟩
      cases u3 with
      | some x =>
        clear o3 T3 D3
        go_wp2_with fail
        refine bodyPost_end (v := .tuple #[]) (by simp [results, Try.results66, go_sem]) rfl ?_
        refine ⟨rfl, HFIN.out _ HP.out.kp HP.out.bl ?_, HP.out.kp, HP.out.bl⟩
        obtain ⟨s1, s2, s3, inj⟩ := HM.out
        refine ⟨s1, s2, fun p hp => ⟨(s3 p hp).1, (s3 p hp).2.1, (s3 p hp).2.2.1, (Sp.more (s3 p hp).2.2.2 (Nat.le_succ _)).eq fun s => ?_⟩, inj⟩
        cases hf : fnm (nds rs) p s with
        | some i => rfl
        | none =>
          by_cases e : r.nd.parent = p ∧ r.nd.name = s
          · have := U3.out
            rw [e.1, e.2, hf] at this
            cases this
          · simp [e]
      | none =>
        have hmx : rs.length < maxLen := by unfold maxLen; omega
        go_wp2_with (at_mapUpdate; refine wpList_mapUpdate_in _ rfl _ _ _ 126 rfl 9 49 keyS Try.underlying126 ptrE c rs.length D3 rfl o3 hmx _ _ _ rfl rfl (key_str f3) (.lit (.int .i64 g)) [] rfl ?_; intro w2 hown2 hturn2)
        refine bodyPost_end (v := .tuple #[]) (by simp [results, Try.results66, go_sem]) rfl ?_
        have hcB : B ≤ c := by rw [HCE.out]; exact HC.out.1
        have hP := HP.out.turned hturn2 hcB hBw
        refine ⟨rfl, HFIN.out _ hP.kp hP.bl ?_, hP.kp, hP.bl⟩
        obtain ⟨s1, ⟨f2', s2, e2⟩, s3, inj⟩ := HM.out
        refine ⟨s1.turned hturn2 (by rw [HCE.out]; exact fun e => HC.out.2.1 e.symm), ⟨f2', s2.turned hturn2 (by rw [HCE.out]; exact fun e => HC.out.2.2 e.symm), e2⟩, fun p hp => ?_, inj⟩
        obtain ⟨q1, q2, q3, q4⟩ := s3 p hp
        refine ⟨q1, q2, q3, ?_⟩
        by_cases e : p = r.nd.parent
        · subst e
          rw [← HCE.out]
          refine Sp.put (fun x y => ks_inj) o3 T3.out (str_key f3) hown2 ?_ (fun y hy => ?_)
          · have := U3.out
            cases hf : fnm (nds rs) r.nd.parent r.nd.name with
            | some i => rw [hf] at this; cases this
            | none => simp
          · cases hf : fnm (nds rs) r.nd.parent y with
            | some i => rfl
            | none => simp; exact fun e => hy e.symm
        · refine ((q4.turned hturn2 fun e' => e ?_).more (Nat.le_succ _)).eq fun s => ?_
          · exact inj p r.nd.parent hp (.inr rfl) (e'.trans HCE.out)
          · cases hf : fnm (nds rs) p s with
            | some i => rfl
            | none => simp; exact fun e' => absurd e'.symm e
end Go.Proofs.Ythfmjjaollekiaa
/- LkC: The nodes of a tree are linked. -/
namespace Go.Proofs.Ythfmjjaollekiaa
set_option maxRecDepth 100000
open Go.RowKit Go.Maps
attribute [local go_sem ↓] Go.wp_at_zero Go.wp_at_succ

theorem own_ne {w : World} {P : Program} {k : TypeId} {R : Value → Option (DataW Unit × List MemPlace)} {b n g : Nat} {D : DataW Unit} {L : List Value} (h : w.ownsMap P k R b n D) (hc : WCells w g L) (hL : 0 < L.length) : b ≠ g := by
  rintro rfl
  obtain ⟨es, clock, hb, _⟩ := h
  have := (hc.2 0 _ (List.getElem?_eq_getElem hL)).1
  simp [World.cell?, hb] at this
theorem wc_grown9 {w w' : World} {g r : Nat} {L : List Value} (h : WCells w g L) (hg : w.grownBy w' (some r)) (hr : g ≠ r) : WCells w' g L := by
  have hk := hg.block g h.1 (by simpa using hr)
  refine ⟨Nat.lt_of_lt_of_le h.1 hg.size, fun i v hv => ?_⟩
  have h1 := h.2 i v hv
  simp only [World.cell?, World.frozen?, hk] at h1 ⊢
  exact h1
theorem Lk.grown {w w' : World} {B b1 b2 r : Nat} {rs : List NR} {G : Nat → Nat} {C : Int → Nat} {A : Nat → Option Nat} (h : Lk w B b1 b2 rs G C A) (hg : w.grownBy w' (some r)) (h1 : b1 ≠ r) (h2 : b2 ≠ r) (h3 : ∀ p, Par (nds rs) p → C p ≠ r) (h4 : ∀ i, i < rs.length → G i ≠ r) : Lk w' B b1 b2 rs G C A := by
  obtain ⟨⟨D1, o1, t1⟩, ⟨D2, o2, t2⟩, m3, inj, cells, one, lo⟩ := h
  refine ⟨⟨D1, o1.kept hg (by simpa using h1), t1⟩, ⟨D2, o2.kept hg (by simpa using h2), t2⟩, fun p hp => ?_, inj, fun i hi => ⟨wc_grown9 (cells i hi).1 hg (h4 i hi), (cells i hi).2⟩, one, lo⟩
  obtain ⟨q1, q2, q3, D, o3, t3⟩ := m3 p hp
  exact ⟨q1, q2, q3, D, o3.kept hg (by simpa using h3 p hp), t3⟩
theorem ptrV_is (o : Option Nat) : ∃ a, ptrV o = .pointer a := by
  cases o with
  | none => exact ⟨none, rfl⟩
  | some g => exact ⟨some ⟨g, 0, none⟩, rfl⟩
theorem grown_setCell (W : World) (p : Addr) (v : Value) : W.grownBy (W.setCell p v) (some p.block) :=
  ⟨rfl, rfl, rfl, by simp [World.setCell], fun k _ hk => Below.heap_setCell _ _ _ k (fun e => hk (by rw [e]))⟩
theorem lcells_len (r : NR) (p : Value) : (lcells r p).length = 10 := rfl
theorem lcells_set (r : NR) (p q : Value) : (lcells r p).set 9 q = lcells r q := rfl
/-- A node is told the one above it. -/
theorem Lk.tell {w : World} {B b1 b2 : Nat} {rs : List NR} {G : Nat → Nat} {C : Int → Nat} {A A' : Nat → Option Nat} {i : Nat} (h : Lk w B b1 b2 rs G C A) (hi : i < rs.length) (hA : ∀ j, j < rs.length → j ≠ i → A' j = A j) : Lk (w.setCell ⟨G i, 9, none⟩ (ptrV ((A' i).map G))) B b1 b2 rs G C A' := by
  obtain ⟨⟨D1, o1, t1⟩, ⟨D2, o2, t2⟩, m3, inj, cells, one, lo⟩ := h
  have hc := (cells i hi).1
  refine ⟨⟨D1, o1.setCell (a := ⟨G i, 9, none⟩) (own_ne o1 hc (by simp [lcells])) _, t1⟩, ⟨D2, o2.setCell (a := ⟨G i, 9, none⟩) (own_ne o2 hc (by simp [lcells])) _, t2⟩, fun p hp => ?_, inj, fun j hj => ?_, one, lo⟩
  · obtain ⟨q1, q2, q3, D, o3, t3⟩ := m3 p hp
    exact ⟨q1, q2, q3, D, o3.setCell (a := ⟨G i, 9, none⟩) (own_ne o3 hc (by simp [lcells])) _, t3⟩
  · by_cases e : j = i
    · subst e
      have := hc.set 9 (ptrV ((A' j).map G)) (by simp [lcells])
      rw [lcells_set] at this
      exact ⟨this, (cells j hj).2⟩
    · rw [hA j hj e]
      exact ⟨(cells j hj).1.other _ _ (fun q => e (one j i hj hi q)), (cells j hj).2⟩
theorem Lk.same {w : World} {B b1 b2 : Nat} {rs : List NR} {G : Nat → Nat} {C : Int → Nat} {A A' : Nat → Option Nat} (h : Lk w B b1 b2 rs G C A) (hA : ∀ j, j < rs.length → A' j = A j) : Lk w B b1 b2 rs G C A' := by
  obtain ⟨m1, m2, m3, inj, cells, one, lo⟩ := h
  exact ⟨m1, m2, m3, inj, fun j hj => by rw [hA j hj]; exact cells j hj, one, lo⟩
theorem Lk.side {w : World} {B b1 b2 : Nat} {rs : List NR} {G : Nat → Nat} {C : Int → Nat} {A : Nat → Option Nat} (h : Lk w B b1 b2 rs G C A) (p : Addr) (v : Value) {L : List Value} (hp : WCells w p.block L) (hL : 0 < L.length) (hne : ∀ i, i < rs.length → G i ≠ p.block) : Lk (w.setCell p v) B b1 b2 rs G C A := by
  obtain ⟨⟨D1, o1, t1⟩, ⟨D2, o2, t2⟩, m3, inj, cells, one, lo⟩ := h
  refine ⟨⟨D1, o1.setCell (own_ne o1 hp hL) _, t1⟩, ⟨D2, o2.setCell (own_ne o2 hp hL) _, t2⟩, fun q hq => ?_, inj, fun j hj => ⟨(cells j hj).1.other _ _ (hne j hj), (cells j hj).2⟩, one, lo⟩
  obtain ⟨q1, q2, q3, D, o3, t3⟩ := m3 q hq
  exact ⟨q1, q2, q3, D, o3.setCell (own_ne o3 hp hL) _, t3⟩
/-- Who is above a node: of the first one of an Id. -/
def Ab (ns : List NM) (left : Lit → Bool) (i : Nat) : Option Nat := if fid ns (ns.getD i default).id = some i ∧ left (ki (ns.getD i default).id) = false then fid ns (ns.getD i default).parent else none
theorem same_ki (a b : Int) : (ki a).sameKey (ki b) = decide (a = b) := by
  by_cases e : a = b
  · subst e; simp [Lit.sameKey]
  · rw [Maps.sameKey_ne (fun q => e (ki_inj q))]; simp [e]
theorem ab_step {ns : List NM} {left : Lit → Bool} {x : Int} {i : Nat} (hi : fid ns x = some i) : (∀ j, j < ns.length → j ≠ i → Ab ns (fun z => left z && !z.sameKey (ki x)) j = Ab ns left j) ∧ Ab ns (fun z => left z && !z.sameKey (ki x)) i = fid ns (ns.getD i default).parent := by
  obtain ⟨hil, ei⟩ := fid_lt hi
  constructor
  · intro j hj hne
    unfold Ab
    by_cases hf : fid ns (ns.getD j default).id = some j
    · have : ¬ (ns.getD j default).id = x := fun e => by
        rw [e, hi] at hf
        cases hf
        exact hne rfl
      simp only [same_ki, this, decide_false, Bool.not_false, Bool.and_true]
    · simp only [hf, false_and, if_false]
  · unfold Ab
    rw [getD_in hil, ei, if_pos ⟨hi, by simp [same_ki]⟩]
end Go.Proofs.Ythfmjjaollekiaa
/- LkD: The nodes of a tree are linked: the walk. -/
namespace Go.Proofs.Ythfmjjaollekiaa
set_option maxRecDepth 100000
open Go.RowKit Go.Maps
attribute [local go_sem ↓] Go.wp_at_zero Go.wp_at_succ

/-- What lies in memory while nodes are linked. -/
structure Lw (w W : World) (rs : List NR) (G : Nat → Nat) (C : Int → Nat) (A : Nat → Option Nat) : Prop where
  lk : Lk W w.heap.size (w.heap.size + 1) (w.heap.size + 1 + 1) rs G C A
  bx : WCells W w.heap.size [.map none, .map none]
  vr : WCells W (w.heap.size + 1 + 1 + 1) [.map (some (w.heap.size + 1)), .map (some (w.heap.size + 1 + 1))]
  bl : Below w.heap.size w W
set_option maxHeartbeats 2000000 in
set_option maxRecDepth 100000 in
theorem linkNodes_any {w : World} {a : Option Addr} {rs : List NR} {cap lo hi : Nat} (hm : TR w a rs lo hi) (hl : rs.length ≤ 1048576) (hI : NInt (nds rs)) (hS : ∀ n ∈ nds rs, n.name.size ≤ maxLen) :
    Calls Try.prog 43 #[.slice a rs.length cap] w fun e w' => ∃ b1 b2 G C, e = .returned (.agg #[.map (some b1), .map (some b2)]) ∧ Lk w' w.heap.size b1 b2 rs G C (Ab (nds rs) fun _ => false) ∧ Below w.heap.size w w' := by
  have HM := Shut.mk hm
  have HI := Shut.mk hI
  have HS := Shut.mk hS
  have hmm := @run_makeMap Try.prog
  clear hm hI hS
  go_enter Try.func43, Try.ntmps43
  go_upto_region 2 with fail
  refine wp_shade (fun W => Lw w W [] (fun _ => 0) (fun _ => 0) fun _ => none) ?_ ?_
  · have m1 := World.ownsMap_made (w.alloc (.cells #[.map none, .map none] 75)) Try.prog 3 ptrE
    have m2 := World.ownsMap_made ((w.alloc (.cells #[.map none, .map none] 75)).alloc (.map #[] 0)) Try.prog 3 mapE
    have z1 : ∀ o : Obj, (w.alloc o).heap.size = w.heap.size + 1 := fun o => by simp
    have z2 : ∀ o o' : Obj, ((w.alloc o).alloc o').heap.size = w.heap.size + 1 + 1 := fun o o' => by simp
    rw [z1] at m1
    rw [z2] at m2
    refine ⟨Lk.start ((m1.alloc _).alloc _) (m2.alloc _) ⟨by omega, by omega, by omega⟩, (((wcells_new w #[.map none, .map none] 75).alloc _).alloc _).alloc _, ?_, ((((Below.refl _ _).alloc (Nat.le_refl _) _).alloc (by simp) _).alloc (by simp; omega) _).alloc (by simp; omega) _⟩
    have := wcells_new (((w.alloc (.cells #[.map none, .map none] 75)).alloc (.map #[] 0)).alloc (.map #[] 0)) #[.map (some (w.heap.size + 1)), .map (some (w.heap.size + 1 + 1))] 75
    simpa using this
  intro W hW
  have HW := Shut.mk hW
  clear hW
  go_wp2_with fail
  go_loopw [13] (fun i wr => ∃ (k : Nat) (G : Nat → Nat) (C : Int → Nat), i = .int .i64 k ∧ k ≤ rs.length ∧ Shut (Lw w wr (rs.take k) G C fun _ => none)) (fun i _ => rs.length - (intOf i).toNat)
  case atStart => exact ⟨0, _, _, rfl, Nat.zero_le _, by simpa using HW⟩
  case round =>
    clear HW
    obtain ⟨k, G, C, rfl, hk, hW⟩ := hrel
    have v0 := (hW.out.vr.2 0 _ rfl).1
    have v1 := (hW.out.vr.2 1 _ rfl).1
    have lv := hW.out.vr.1
    by_cases hlt : k < rs.length
    · obtain ⟨b, off, rfl, lb, hc⟩ := TR.nat HM.out (by omega)
      have hn := (hc k hlt).below hW.out.bl lb
      obtain ⟨r, hr⟩ : ∃ r, r = rs[k] := ⟨_, rfl⟩
      rw [← hr] at hn
      have hstep : rs.take (k + 1) = rs.take k ++ [r] := by rw [hr]; exact List.take_succ_eq_append_getElem hlt
      have hmem : r.nd ∈ nds rs := by rw [hr]; exact List.mem_map.2 ⟨_, List.getElem_mem hlt, rfl⟩
      have f1 := (HI.out _ hmem).1
      have f2 := (HI.out _ hmem).2
      have f3 := HS.out _ hmem
      have hlk : (rs.take k).length = k := by simp; omega
      have HCALL : Shut (∀ W, W = (wr.alloc (.cells #[.int .i64 r.nd.id, .int .i64 r.nd.parent, .string r.nd.name, .bool r.nd.dir, .int .i64 r.nd.schema, .int .i64 r.nd.quota, .int .i64 r.nd.len, .slice r.loc r.nd.pieces.length r.cap, .int .i64 r.nd.writer] 30)).alloc (.cells #[.int .i64 r.nd.id, .int .i64 r.nd.parent, .string r.nd.name, .bool r.nd.dir, .int .i64 r.nd.schema, .int .i64 r.nd.quota, .int .i64 r.nd.len, .slice r.loc r.nd.pieces.length r.cap, .int .i64 r.nd.writer, .pointer none] 52) →
          Calls Try.prog 66 #[.agg #[.map (some (w.heap.size + 1)), .map (some (w.heap.size + 1 + 1))], .pointer (some ⟨wr.heap.size + 1, 0, none⟩)] W fun e w' => e = .returned (.tuple #[]) ∧ ∃ G' C', Shut (Lw w w' (rs.take (k + 1)) G' C' fun _ => none)) := ⟨fun W hWe => by
        have hb1 : Below wr.heap.size wr W := by rw [hWe]; exact ((Below.refl _ _).alloc (Nat.le_refl _) _).alloc (by simp) _
        have hnew : WCells W (wr.heap.size + 1) (lcells r (.pointer none)) := by
          have := wcells_new (wr.alloc (.cells #[.int .i64 r.nd.id, .int .i64 r.nd.parent, .string r.nd.name, .bool r.nd.dir, .int .i64 r.nd.schema, .int .i64 r.nd.quota, .int .i64 r.nd.len, .slice r.loc r.nd.pieces.length r.cap, .int .i64 r.nd.writer] 30)) #[.int .i64 r.nd.id, .int .i64 r.nd.parent, .string r.nd.name, .bool r.nd.dir, .int .i64 r.nd.schema, .int .i64 r.nd.quota, .int .i64 r.nd.len, .slice r.loc r.nd.pieces.length r.cap, .int .i64 r.nd.writer, .pointer none] 52
          rw [← hWe] at this
          simpa [lcells] using this
        have hbs := hW.out.bl.size
        refine (add_any (hW.out.lk.below hb1) hnew (fun i hi => by have := hW.out.lk.lt.2.2.1 i hi; omega) (by omega) (by have := hb1.size; omega) (by rw [hlk]; omega) f1 f2 f3).mono ?_
        rintro e w' ⟨rfl, ⟨C', hL⟩, hK, hB⟩
        exact ⟨rfl, _, C', ⟨by rw [hstep]; exact hL, hK _ _ (hW.out.bx.grow hb1), hK _ _ (hW.out.vr.grow hb1), hW.out.bl.trans ((hb1.mono hbs).trans hB)⟩⟩⟩
      obtain ⟨c0, c1, c2, c3, c4, c5, c6, c7, c8⟩ := hn
      have lb' : b < wr.heap.size := Nat.lt_of_lt_of_le lb hW.out.bl.size
      have k0 : (0 : Int) ≤ (k : Int) := by omega
      have k1 : (k : Int) < (rs.length : Int) := by omega
      clear hc hr hstep hmem f1 f2 f3 hlk hmm
      go_wp2_with fail
      refine (HCALL.out _ rfl).mono ?_
      rintro e w2 ⟨rfl, G', C', hW'⟩
      go_wp2_with fail
      go_roundw
      case rel => exact ⟨k + 1, G', C', by go_num, by omega, hW'⟩
      case measure => simp [intOf]; omega
    · have hkn : ¬ (k : Int) < (rs.length : Int) := by omega
      obtain rfl : k = rs.length := by omega
      rw [List.take_length] at hW
      obtain ⟨wo, rfl⟩ : ∃ wo, wo = wr := ⟨_, rfl⟩
      obtain ⟨D, o1, t1⟩ := hW.out.lk.m1
      have T1 := Shut.mk t1
      obtain ⟨l1, l2, l3, l4⟩ := hW.out.lk.lt
      have L3 := Shut.mk l3
      have L4 := Shut.mk l4
      clear t1 l3 l4 hmm hlt hk
      go_wp2_with (first
        | (at_range; refine wpList_range_own _ rfl _ 72 rfl 3 49 keyI Try.underlying72 ptrE (w.heap.size + 1) rs.length D rfl o1 ?_; intro w0 hrg0 hg0 hs0))
      have hbr : Below wo.heap.size wo w0 := (Below.refl _ _).grown hg0 (Nat.le_refl _) (fun j hj => by cases hj)
      have HW0 : Shut (Lw w w0 rs G C fun _ => none) := ⟨hW.out.lk.below hbr, hW.out.bx.grow hbr, hW.out.vr.grow hbr, hW.out.bl.trans (hbr.mono hW.out.bl.size)⟩
      have hlv : w.heap.size < wo.heap.size := by omega
      go_loopw [7] (fun _ wx => ∃ (left : Lit → Bool) (cnt : Nat), wx.ranges Try.prog 3 ptrE (w.heap.size + 1) wo.heap.size rs.length D left cnt ∧ Shut (Lw w wx rs G C (Ab (nds rs) left))) (fun _ wx => wx.rangeLeft (w.heap.size + 1) wo.heap.size)
      case atStart =>
        refine ⟨_, _, hrg0, ⟨HW0.out.lk.same fun j hj => ?_, HW0.out.bx, HW0.out.vr, HW0.out.bl⟩⟩
        unfold Ab
        by_cases hf : fid (nds rs) ((nds rs).getD j default).id = some j
        · have := (T1.out ((nds rs).getD j default).id).has
          rw [hf] at this
          rw [if_neg (fun hc => by rw [hc.2] at this; cases this)]
        · rw [if_neg (fun hc => hf hc.1)]
      case round =>
        clear hrg0 HW0 hbr hg0 hs0 hW o1
        obtain ⟨left, cnt, hrg, hW⟩ := hrel
        go_wp2_with (first
          | (at_next; refine wpList_next_ranges _ rfl _ rfl 3 keyI ptrE (Value.int .i64) ptrV (fun key kl hk => by obtain ⟨x, hx, _⟩ := Maps.keyOf_int_inv Try.underlying3 hk; exact ⟨x, hx⟩) (fun v y hv => ptrE_form hv) (w.heap.size + 1) wo.heap.size rs.length _ _ _ rfl hrg ?_ ?_))
        · intro hc0 hl0
          have HA : Ab (nds rs) left = Ab (nds rs) fun _ => false := by
            have : left = fun _ => false := funext hl0
            rw [this]
          rw [HA] at hW
          have v0' := (hW.out.vr.2 0 _ rfl).1
          have v1' := (hW.out.vr.2 1 _ rfl).1
          have y0 := hW.out.bx.2 0 _ rfl
          have y1 := hW.out.bx.2 1 _ rfl
          obtain ⟨y0, z0⟩ := y0
          obtain ⟨y1, z1⟩ := y1
          have lw := hW.out.bx.1
          clear hrg hl0 HA
          go_wp2_with fail
          refine bodyPost_ret (v := .agg #[.map (some (w.heap.size + 1)), .map (some (w.heap.size + 1 + 1))]) (by simp [results, Try.results43, go_sem, y0, y1]) rfl ?_
          refine ⟨_, _, G, C, rfl, ?_, (hW.out.bl.setCell (Nat.le_refl _) _).setCell (Nat.le_refl _) _⟩
          have hne : ∀ i, i < rs.length → G i ≠ w.heap.size := fun i hi e => by
            have h2 := ((hW.out.lk.cells i hi).1.2 0 _ rfl).1
            rw [e, y0] at h2
            cases h2
          refine (hW.out.lk.side ⟨w.heap.size, 0, none⟩ _ hW.out.bx (by simp) hne).side ⟨w.heap.size, 1, none⟩ _ (hW.out.bx.set 0 _ (by simp)) (by simp) hne
        · intro x c kl d ps w1 cnt1 hkey hlk hv hat hrg1 hlt hg1 hs1 hen
          obtain ⟨x', ex, rfl, hwx⟩ := Maps.keyOf_int_inv Try.underlying3 hkey
          cases ex
          have htx := T1.out x
          cases hf : fid (nds rs) x with
          | none =>
            rw [hf] at htx
            have q1 := Maps.atKey_of_not_has htx .nil
            have q2 := Maps.atKey_of_not_has htx (.lit (.int .i64 0))
            rw [hat] at q1 q2
            rw [q1] at q2
            cases q2
          | some i =>
            rw [hf] at htx
            have q1 := hat .nil
            rw [htx.at] at q1
            have hce : ptrV c = ptrV (some (G i)) := ptrE_some (by rw [hv, ← q1])
            have HF := Shut.mk hf
            obtain ⟨hil, hie⟩ := fid_lt hf
            rw [nds_len] at hil
            have hr1 : Lw w w1 rs G C (Ab (nds rs) left) := by
              refine ⟨hW.out.lk.grown hg1 (by omega) (by omega) (fun p hp => by have := L4.out p hp; omega) (fun j hj => by have := L3.out j hj; omega), wc_grown9 hW.out.bx hg1 (by omega), wc_grown9 hW.out.vr hg1 (by omega), hW.out.bl.grown hg1 (by have := hW.out.bl.size; omega) (fun j hj => by cases hj; omega)⟩
            have HR := Shut.mk hr1
            obtain ⟨cc, _⟩ := hr1.lk.cells i hil
            obtain ⟨r, hr⟩ : ∃ r, r = rs[i] := ⟨_, rfl⟩
            rw [← hr] at cc
            have c1 := (cc.2 1 _ rfl).1
            obtain ⟨c9, z9⟩ := cc.2 9 _ rfl
            have v0' := (hr1.vr.2 0 _ rfl).1
            have hmem : r.nd ∈ nds rs := by rw [hr]; exact List.mem_map.2 ⟨_, List.getElem_mem hil, rfl⟩
            have f2 := (HI.out _ hmem).2
            have hlook := look_ptr keyI Try.underlying72 zeroLp hrg1.owns (key_int f2) (T1.out r.nd.parent)
            obtain ⟨pv, hpv⟩ := ptrV_is ((fid (nds rs) r.nd.parent).map G)
            rw [hpv] at hlook
            have HPV := Shut.mk hpv
            have HRG := Shut.mk hrg1
            have HR9 := Shut.mk hr
            obtain ⟨g, hg⟩ : ∃ g, g = G i := ⟨_, rfl⟩
            have HGI := Shut.mk hg
            rw [← hg] at c1 c9 z9 hce
            rw [hce] at hen ⊢
            unfold ptrV at hen
            have HRG0 := Shut.mk hrg
            have HLT := Shut.mk hlt
            clear hlt hr1 hv hat hkey hlk htx q1 hce hf hie cc hmem f2 hpv hrg1 hr hg hW hrg
            unfold ptrV
            go_wp2_with fail
            have hl1 : (Instr.lookup 72 (.map (some (w.heap.size + 1))) (.int .i64 r.nd.parent) false).run Try.prog w1.drew = .ok (.pointer pv) w1.drew := hlook 1
            clear hlook
            go_region
            all_goals
              go_wp2_with fail
              go_roundw
              case rel =>
                obtain ⟨hA1, hA2⟩ := ab_step (left := left) HF.out
                have hil' : i < (nds rs).length := by rw [nds_len]; exact hil
                have hne1 : w.heap.size + 1 ≠ g := own_ne HRG.out.owns (by rw [HGI.out]; exact (HR.out.lk.cells i hil).1) (by simp [lcells])
                have hne2 : wo.heap.size ≠ g := by have := L3.out i hil; rw [HGI.out]; omega
                have hpe : (fid (nds rs) ((nds rs).getD i default).parent).map G = (fid (nds rs) r.nd.parent).map G := by
                  rw [HR9.out, getD_in hil']
                  simp [nds]
                have hset := HR.out.lk.tell hil (A' := Ab (nds rs) fun z => left z && !z.sameKey (ki x)) (fun j hj hne => hA1 j (by rw [nds_len]; exact hj) hne)
                rw [hA2, hpe, HPV.out, ← HGI.out] at hset
                have hB9 : w.heap.size ≤ g := by rw [HGI.out]; exact (HR.out.lk.cells i hil).2
                have hn0 : w.heap.size ≠ g := fun e => by
                  have h1 := (HR.out.bx.2 0 _ rfl).1
                  have h2 := ((HR.out.lk.cells i hil).1.2 0 _ rfl).1
                  rw [← HGI.out, ← e, h1] at h2
                  cases h2
                have hn3 : w.heap.size + 1 + 1 + 1 ≠ g := fun e => by
                  have h1 := (HR.out.vr.2 0 _ rfl).1
                  have h2 := ((HR.out.lk.cells i hil).1.2 0 _ rfl).1
                  rw [← HGI.out, ← e, h1] at h2
                  cases h2
                have hgr : w1.grownBy (w1.setCell ⟨g, 9, none⟩ (.pointer pv)) (some g) := grown_setCell w1 ⟨g, 9, none⟩ _
                have hbd : Below (w1.setCell ⟨g, 9, none⟩ (.pointer pv)).heap.size (w1.setCell ⟨g, 9, none⟩ (.pointer pv)) (w1.setCell ⟨g, 9, none⟩ (.pointer pv)).drew := Below.drew (Below.refl _ _)
                have hrn := HRG.out.kept hgr (by simpa using hne1) (by simpa using hne2)
                have hrd : (w1.setCell ⟨g, 9, none⟩ (.pointer pv)).drew.ranges Try.prog 3 ptrE (w.heap.size + 1) wo.heap.size rs.length D (fun z => left z && !z.sameKey (ki x)) cnt1 := hrn
                exact ⟨_, _, hrd, hset.below hbd, (HR.out.bx.other ⟨g, 9, none⟩ _ hn0).grow hbd, (HR.out.vr.other ⟨g, 9, none⟩ _ hn3).grow hbd, (HR.out.bl.setCell hB9 _).trans (hbd.mono (by simpa [World.setCell] using HR.out.bl.size))⟩
              case measure =>
                have hne1 : w.heap.size + 1 ≠ g := own_ne HRG.out.owns (by rw [HGI.out]; exact (HR.out.lk.cells i hil).1) (by simp [lcells])
                have hne2 : wo.heap.size ≠ g := by have := L3.out i hil; rw [HGI.out]; omega
                have hgr : w1.grownBy (w1.setCell ⟨g, 9, none⟩ (.pointer pv)) (some g) := grown_setCell w1 ⟨g, 9, none⟩ _
                have hrn := HRG.out.kept hgr (by simpa using hne1) (by simpa using hne2)
                have e1 := hrn.left_eq
                have e2 := HRG0.out.left_eq
                have e3 : (w1.setCell ⟨g, 9, none⟩ (.pointer pv)).drew.rangeLeft (w.heap.size + 1) wo.heap.size = (w1.setCell ⟨g, 9, none⟩ (.pointer pv)).rangeLeft (w.heap.size + 1) wo.heap.size := rfl
                rw [e3, e1, e2]
                exact HLT.out
end Go.Proofs.Ythfmjjaollekiaa
/- PaI: The program's own NameOk: its text is gone through rune by rune. -/
namespace Go.Proofs.Ythfmjjaollekiaa
set_option maxRecDepth 100000
open Go.RowKit
open Go.PlainAid (bt)
attribute [local go_sem ↓] Go.wp_at_zero Go.wp_at_succ

theorem get_bt9 (s : ByteArray) (j : Nat) (h : j < s.size) : bt s j = ((s.get! j).toNat : Int) := by
  unfold bt
  rw [dif_pos h]
  simp [ByteArray.get!, getElem!_pos, h]
  rfl
/-- A rune that is no byte below 128 goes over bytes from 128 on alone, and not past the end. -/
theorem decode_far (s : ByteArray) (pos : Nat) (h : pos < s.size) (ha : 128 ≤ bt s pos) : pos + (Utf8.decode s pos).2 ≤ s.size ∧ (Utf8.decode s pos).2 ≤ 4 ∧ ∀ d, d < (Utf8.decode s pos).2 → 128 ≤ bt s (pos + d) := by
  have hg := fun d (q : pos + d < s.size) => get_bt9 s (pos + d) q
  have g0 := hg 0 (by omega)
  simp only [Nat.add_zero] at g0
  have g1 := hg 1
  have g2 := hg 2
  have g3 := hg 3
  clear hg
  have hn : ¬ (s.get! (pos + 0)).toNat < 128 := by simp only [Nat.add_zero]; omega
  simp only [Utf8.decode, hn, if_false]
  have hone : pos + 1 ≤ s.size ∧ 1 ≤ 4 ∧ ∀ d, d < 1 → 128 ≤ bt s (pos + d) := ⟨by omega, by omega, fun d hd => by
    have : d = 0 := by omega
    subst this; exact ha⟩
  split
  · rename_i q
    simp only [Bool.and_eq_true, decide_eq_true_eq, beq_iff_eq] at q
    split
    · refine ⟨by simp only; omega, by simp only; omega, fun d hd => ?_⟩
      have h1 := g1 q.2.1
      rcases (show d = 0 ∨ d = 1 from by simp only at hd; omega) with rfl | rfl
      · exact ha
      · rw [h1]; omega
    · exact hone
  · split
    · rename_i q
      simp only [Bool.and_eq_true, decide_eq_true_eq, beq_iff_eq] at q
      split
      · refine ⟨by simp only; omega, by simp only; omega, fun d hd => ?_⟩
        have h1 := g1 q.1.2.1
        have h2 := g2 q.2.1
        rcases (show d = 0 ∨ d = 1 ∨ d = 2 from by simp only at hd; omega) with rfl | rfl | rfl
        · exact ha
        · rw [h1]; omega
        · rw [h2]; omega
      · exact hone
    · split
      · rename_i q
        simp only [Bool.and_eq_true, decide_eq_true_eq, beq_iff_eq] at q
        split
        · refine ⟨by simp only; omega, by simp only; omega, fun d hd => ?_⟩
          have h1 := g1 q.1.1.2.1
          have h2 := g2 q.1.2.1
          have h3 := g3 q.2.1
          rcases (show d = 0 ∨ d = 1 ∨ d = 2 ∨ d = 3 from by simp only at hd; omega) with rfl | rfl | rfl | rfl
          · exact ha
          · rw [h1]; omega
          · rw [h2]; omega
          · rw [h3]; omega
        · exact hone
      · exact hone
theorem rune_low (s : ByteArray) (pos : Nat) (h : pos < s.size) (ha : bt s pos < 128) : ((Utf8.decode s pos).1 : Int) = bt s pos ∧ (Utf8.decode s pos).2 = 1 := by
  have e : bt s pos = ((s[pos]'h).toNat : Int) := by unfold bt; rw [dif_pos h]
  rw [decode_ascii s pos h (by omega), e]
  exact ⟨rfl, rfl⟩
theorem rune_high (s : ByteArray) (pos : Nat) (h : pos < s.size) (ha : 128 ≤ bt s pos) : (128 : Int) ≤ ((Utf8.decode s pos).1 : Int) ∧ 1 ≤ (Utf8.decode s pos).2 := by
  have e : bt s pos = ((s[pos]'h).toNat : Int) := by unfold bt; rw [dif_pos h]
  have := decode_high s pos h (by omega)
  omega
theorem implNameRune (r : Int) (b : Bool) (hb : b = true ↔ nameN r) (w : World) : Calls Try.prog 113 #[.int .i32 r] w fun e w' => e = .returned (.bool b) ∧ w' = w := by
  have HB := Shut.mk hb
  clear hb
  unfold nameN at HB
  by_cases c1 : 97 ≤ r
  · by_cases c2 : r ≤ 122
    · have hb : b = true := HB.out.2 (by omega)
      subst hb
      go_enter Try.func113, Try.ntmps113
      go_wp2_with fail
      go_ret
      exact ⟨rfl, rfl⟩
    · have c3 : 48 ≤ r := by omega
      have c4 : ¬ r ≤ 57 := by omega
      have hb : b = false := by cases b with | false => rfl | true => exact absurd (HB.out.1 rfl) (by omega)
      subst hb
      go_enter Try.func113, Try.ntmps113
      go_wp2_with fail
      go_ret
      exact ⟨rfl, rfl⟩
  · by_cases c3 : 48 ≤ r
    · by_cases c4 : r ≤ 57
      · have hb : b = true := HB.out.2 (by omega)
        subst hb
        go_enter Try.func113, Try.ntmps113
        go_wp2_with fail
        go_ret
        exact ⟨rfl, rfl⟩
      · have hb : b = false := by cases b with | false => rfl | true => exact absurd (HB.out.1 rfl) (by omega)
        subst hb
        go_enter Try.func113, Try.ntmps113
        go_wp2_with fail
        go_ret
        exact ⟨rfl, rfl⟩
    · have hb : b = false := by cases b with | false => rfl | true => exact absurd (HB.out.1 rfl) (by omega)
      subst hb
      go_enter Try.func113, Try.ntmps113
      go_wp2_with fail
      go_ret
      exact ⟨rfl, rfl⟩
theorem iter_below (w : World) (s : ByteArray) (pos : Nat) : Below w.heap.size w (w.iter s pos) := (Below.refl _ _).alloc (Nat.le_refl _) _
set_option maxRecDepth 100000 in
set_option maxHeartbeats 1000000 in
theorem implNameOk (s : ByteArray) (w : World) (hs : s.size ≤ 1048576) : Calls Try.prog 95 #[.string s] w fun e w' => e = .returned (.bool (nameB s)) ∧ Below w.heap.size w w' := by
  obtain ⟨r, hre⟩ : ∃ r, r = nameB s := ⟨_, rfl⟩
  have HRE := Shut.mk hre
  rw [← hre]
  clear hre
  have hnot (q : ¬ (1 ≤ s.size ∧ s.size ≤ 8)) : r = false := by
    rw [HRE.out]
    cases e : nameB s with
    | false => rfl
    | true => exact absurd ((nameB_iff s).1 e).2 q
  by_cases h1 : s.size < 1
  · have hr := hnot (by omega)
    subst hr
    have h1' : (s.size : Int) < 1 := by omega
    go_enter Try.func95, Try.ntmps95
    go_wp2_with fail
    go_ret
    exact ⟨rfl, Below.refl _ _⟩
  have h1' : ¬ (s.size : Int) < 1 := by omega
  by_cases h8 : 8 < s.size
  · have hr := hnot (by omega)
    subst hr
    have h8' : (8 : Int) < (s.size : Int) := by omega
    go_enter Try.func95, Try.ntmps95
    go_wp2_with fail
    go_ret
    exact ⟨rfl, Below.refl _ _⟩
  have h8' : ¬ (8 : Int) < (s.size : Int) := by omega
  clear hnot
  go_enter Try.func95, Try.ntmps95
  go_wp2_with fail
  go_loopw [2] (fun v wr => ∃ (pos : Nat), v = .bool false ∧ wr = w.iter s pos ∧ pos ≤ s.size ∧ Shut (∀ j, j < pos → nameN (bt s j))) (fun _ wr => s.size - wr.iterPos w.heap.size)
  case atStart => exact ⟨0, rfl, rfl, Nat.zero_le _, ⟨fun j hj => by omega⟩⟩
  case round =>
    obtain ⟨pos, rfl, rfl, hp, hall⟩ := hrel
    by_cases hlt : pos < s.size
    · have hnx : ∀ ty, (Instr.next (.pointer (some ⟨w.heap.size, 0, none⟩)) true ty).run Try.prog (w.iter s pos) = _ := fun ty => run_next_any w s pos ty hlt
      have hlow := rune_low s pos hlt
      have hhigh := rune_high s pos hlt
      generalize Utf8.decode s pos = D at *
      obtain ⟨rn, wd⟩ := D
      simp only at hlow hhigh hnx
      by_cases hn : nameN (bt s pos)
      · have hl : bt s pos < 128 := by unfold nameN at hn; omega
        obtain ⟨e1, rfl⟩ := hlow hl
        have HN := Shut.mk (fun W => implNameRune (rn : Int) true (by rw [e1]; exact ⟨fun _ => hn, fun _ => rfl⟩) W)
        have HA : Shut (∀ j, j < pos + 1 → nameN (bt s j)) := ⟨fun j hj => by
          by_cases e : j = pos
          · subst e; exact hn
          · exact hall.out j (by omega)⟩
        clear hn hlow hhigh e1 hl hall
        go_wp2_with fail
        refine (HN.out _).mono ?_
        rintro e w1 ⟨rfl, hw⟩
        subst hw
        go_wp2_with fail
        go_roundw
        case rel => exact ⟨pos + 1, rfl, rfl, by omega, HA⟩
        case measure => simp; omega
      · have hr : r = false := HRE.out.trans (nameB_no hlt hn)
        have HN := Shut.mk (fun W => implNameRune (rn : Int) false (by
          refine ⟨fun q => (Bool.noConfusion q), fun q => ?_⟩
          exfalso
          by_cases hl : bt s pos < 128
          · rw [(hlow hl).1] at q; exact hn q
          · have := (hhigh (by omega)).1
            unfold nameN at q
            omega) W)
        subst hr
        clear hn hlow hhigh hall
        go_wp2_with fail
        refine (HN.out _).mono ?_
        rintro e w1 ⟨rfl, hw⟩
        subst hw
        go_wp2_with fail
        go_ret
        exact ⟨rfl, iter_below _ _ _⟩
    · have hnx : ∀ ty, (Instr.next (.pointer (some ⟨w.heap.size, 0, none⟩)) true ty).run Try.prog (w.iter s pos) = _ := fun ty => run_next_end w s pos ty hlt
      have hr : r = true := HRE.out.trans ((nameB_iff s).2 ⟨fun j hj => hall.out j (by omega), by omega, by omega⟩)
      subst hr
      go_wp2_with fail
      go_ret
      exact ⟨rfl, iter_below _ _ _⟩
end Go.Proofs.Ythfmjjaollekiaa
/- StI: The program's own SchemaOf, GroupSize, PlaceOf, OffsetOf and Spans. -/
namespace Go.Proofs.Ythfmjjaollekiaa
set_option maxRecDepth 100000
open Go.RowKit
attribute [local go_sem ↓] Go.wp_at_zero Go.wp_at_succ

theorem implSch (s : Int) (w : World) : Calls Try.prog 111 #[.int .i64 s] w fun e w' => SchPost s w e w' := by
  cases h : schOk s with
  | true =>
    obtain rfl | rfl | rfl := sch_cases h
    all_goals
      clear h
      go_enter Try.func111, Try.ntmps111
      go_wp2_with fail
      go_ret3
      exact ⟨rfl, rfl⟩
  | false =>
    obtain ⟨h1, h2, h3⟩ := sch_no h
    obtain ⟨e1, e2⟩ := sch_zero h
    unfold SchPost
    rw [e1, e2, h]
    clear h e1 e2
    go_enter Try.func111, Try.ntmps111
    go_wp2_with fail
    go_ret3
    exact ⟨rfl, rfl⟩
theorem implSize (s : Int) (w : World) : Calls Try.prog 112 #[.int .i64 s] w fun e w' => e = .returned (.int .i64 (groupN s : Nat)) ∧ w' = w := by
  have HS := Shut.mk (fun W => implSch s W)
  unfold SchPost at HS
  have hk : schK s ≤ 4 := by
    cases h : schOk s with
    | true => exact (sch_bounds h).2.1
    | false => rw [(sch_zero h).1]; omega
  have hg : ((groupN s : Nat) : Int) = (schK s : Int) * 4 * 2 := by unfold groupN; push_cast; omega
  generalize schOk s = ok at *
  generalize schM s = m at *
  generalize schK s = k at *
  have HG := Shut.mk hg
  clear hg
  go_enter Try.func112, Try.ntmps112
  go_wp2_with fail
  refine (HS.out _).mono ?_
  rintro e w1 ⟨rfl, rfl⟩
  go_wp2_with fail
  go_ret
  exact ⟨by rw [HG.out]; first | rfl | (simp; done) | (congr 2; omega), rfl⟩
theorem implGroupSize (s : Int) (w : World) : Calls Try.prog 112 #[.int .i64 s] w fun e w' => e = .returned (.int .i64 (groupN s : Nat)) ∧ Below w.heap.size w w' :=
  (implSize s w).mono (fun _ _ h => ⟨h.1, by rw [h.2]; exact Below.refl _ _⟩)
theorem span_one {S n j : Nat} (h1 : j * S < n) (h2 : n ≤ j * S + S) (hS : 0 < S) : spanL S n = List.replicate j (S : Int) ++ [((n - j * S : Nat) : Int)] := by
  unfold spanL
  rw [span_last hS h1 h2]
end Go.Proofs.Ythfmjjaollekiaa
/- SchQ: The program's own test of a schema. -/
namespace Go.Proofs.Ythfmjjaollekiaa
set_option maxRecDepth 100000
open Go.RowKit BigFrame
attribute [local go_sem ↓] Go.wp_at_zero Go.wp_at_succ

theorem sch_in (s : Int) : schOk s = inI s 1 3 := by
  cases h : schOk s with
  | true =>
    obtain rfl | rfl | rfl := sch_cases h <;> rfl
  | false =>
    obtain ⟨h1, h2, h3⟩ := sch_no h
    symm
    refine Bool.eq_false_iff.2 fun hc => ?_
    have := inI_iff.1 hc
    omega
theorem implSchemaOk (s : Int) (w : World) : Calls Try.prog 92 #[.int .i64 s] w fun e w' => e = .returned (.bool (inI s 1 3)) ∧ w' = w := by
  have HS := Shut.mk (fun W => implSch s W)
  unfold SchPost at HS
  rw [sch_in] at HS
  generalize inI s 1 3 = ok at *
  generalize schM s = m at *
  generalize schK s = k at *
  go_enter Try.func92, Try.ntmps92
  go_wp2_with fail
  refine (HS.out _).mono ?_
  rintro e w1 ⟨rfl, rfl⟩
  go_wp2_with fail
  go_ret
  exact ⟨rfl, rfl⟩
end Go.Proofs.Ythfmjjaollekiaa
/- OpenM: Rows of numbers, of rows of numbers, and of texts, that came in. -/
namespace Go.Proofs.Ythfmjjaollekiaa
set_option maxRecDepth 100000
open Go.RowKit Go.Deep Go.ChangeShapes Go.WideShapes

theorem cells_int : Try.prog.cellsOf 3 = 1 := by kernel_rfl
theorem cells_ints : Try.prog.cellsOf 32 = 1 := by kernel_rfl
theorem cells_str : Try.prog.cellsOf 9 = 1 := by kernel_rfl
/-- A row out of its elements. -/
theorem rows_from {α : Type} [Inhabited α] {en : α → List Value} {sz : Nat} (hsz : ∀ x, (en x).length = sz) (hp0 : 0 < sz) {W : World} {ad : Addr} {len : Nat} {Pr : α → Prop}
    (each : ∀ i, i < len → ∃ f : α, (∀ r v, (en f)[r]? = some v → W.cell? (ad.add (i * sz + r)) = some v) ∧ Pr f) : ∃ xs : List α, xs.length = len ∧ CRow W (some ad) (xs.flatMap en) ∧ ∀ f ∈ xs, Pr f := by
  obtain ⟨F, hF⟩ := choose_lt each
  have hlen : ((List.range len).map F).length = len := by simp
  have hget : ∀ j (hj : j < ((List.range len).map F).length), ((List.range len).map F)[j] = F j := by intro j hj; simp
  refine ⟨(List.range len).map F, hlen, ?_, ?_⟩
  · intro hp
    rw [flat_len hsz, hlen] at hp
    have hl0 : 0 < len := Nat.pos_of_ne_zero fun e => by rw [e] at hp; simp at hp
    have h00 : ∃ v, (en (F 0))[0]? = some v := by
      have : 0 < (en (F 0)).length := by rw [hsz]; exact hp0
      exact ⟨_, List.getElem?_eq_getElem this⟩
    obtain ⟨v0, hv0⟩ := h00
    have c0 := (hF 0 hl0).1 0 v0 hv0
    have hs : ad.spot = none := by
      have := World.cell?_spot c0
      simpa [Addr.add] using this
    obtain ⟨b, off, spot⟩ := ad
    simp only at hs
    subst hs
    have hadd : ∀ i, (⟨b, off, none⟩ : Addr).add i = ⟨b, off + i, none⟩ := by intro i; cases i <;> simp [Addr.add]
    refine ⟨b, off, rfl, ?_, fun i v hv => ?_⟩
    · by_cases hb : b < W.heap.size
      · exact hb
      · unfold World.cell? at c0
        rw [hadd, Array.getElem?_eq_none (by simpa using hb)] at c0
        simp at c0
    · have hi : i < (((List.range len).map F).flatMap en).length := (List.getElem?_eq_some_iff.1 hv).1
      rw [flat_len hsz, hlen] at hi
      have hq : i / sz < len := Nat.div_lt_of_lt_mul (by rwa [Nat.mul_comm] at hi)
      have hr := Nat.mod_lt i hp0
      have ei : i = i / sz * sz + i % sz := by rw [Nat.mul_comm]; exact (Nat.div_add_mod i sz).symm
      have hj : i / sz < ((List.range len).map F).length := by rw [hlen]; exact hq
      have l1 := flat_get hsz ((List.range len).map F) (i / sz) hj (i % sz) hr
      rw [hget _ hj, ← ei] at l1
      have := (hF (i / sz) hq).1 (i % sz) v (by rw [← l1]; exact hv)
      rw [← ei, hadd] at this
      exact this
  · intro f hf
    obtain ⟨j, hj, rfl⟩ := List.mem_map.1 hf
    exact (hF j (by simpa using hj)).2
theorem ics_flats (xs : List Int) : ics xs = xs.flatMap fun x => [.int .i64 x] := by
  unfold ics
  induction xs with
  | nil => rfl
  | cons x xs ih => simp [ih]
set_option maxRecDepth 100000 in
theorem open_row {H : Type} {enc : TypeId × Value → H} {W : World} {base : Nat} {spare : Nat → Bool} {held : Bool} {fuel : Nat} {cs : List Value} {x : DataW H × List MemPlace}
    (h : DataW.trod enc Try.prog W base spare held fuel 32 cs = some x) : ∃ s : SR, cs = [srv s] ∧ CRow W s.loc (ics s.row) ∧ s.row.length ≤ 9223372036854775807 := by
  rcases open_slice Try.underlying32 h with ⟨rfl, _⟩ | ⟨ad, len, cap, m, n, D, Pl, rfl, hb, hl, hm, hmm, _, hx⟩
  · exact ⟨⟨none, [], 0⟩, rfl, fun h => by simp [ics] at h, by simp⟩
  · have hlm : len ≤ m := by rw [hmm]; split <;> omega
    have each : ∀ i, i < len → ∃ f : Int, (∀ r v, ([.int .i64 f] : List Value)[r]? = some v → W.cell? (ad.add (i * 1 + r)) = some v) ∧ True := by
      intro i hi
      obtain ⟨cs', h1, h2⟩ := hx i (by omega)
      rw [cells_int] at h1
      obtain ⟨_, hlen, hcell⟩ := World.cells?_some h1
      obtain ⟨q, e2, _, z2⟩ := DataW.trod_int Try.underlying3 h2
      have c0 := hcell 0 (by omega)
      rw [add_add] at c0
      subst e2
      refine ⟨q, fun r v hv => ?_, trivial⟩
      match r, hv with
      | 0, hv => simp at hv; subst hv; simpa using c0
    obtain ⟨xs, hxl, hrow, _⟩ := rows_from (en := fun x => [.int .i64 x]) (fun _ => rfl) (by decide) each
    rw [← ics_flats] at hrow
    exact ⟨⟨some ad, xs, cap⟩, by simp only [srv]; rw [hxl], hrow, by show xs.length ≤ _; rw [hxl]; unfold maxLen at hm; omega⟩
theorem svs_flat (ss : List SR) : svs ss = ss.flatMap fun s => [srv s] := by
  unfold svs
  induction ss with
  | nil => rfl
  | cons x xs ih => simp [ih]
end Go.Proofs.Ythfmjjaollekiaa
/- TreO: Trees that came in. -/
namespace Go.Proofs.Ythfmjjaollekiaa
set_option maxRecDepth 100000
open Go.RowKit Go.Deep Go.ChangeShapes Go.WideShapes

section
variable {P : Program} {w : World} {base : Nat} {spare : Nat → Bool} {held : Bool} {H : Type} {enc : TypeId × Value → H}
theorem trod_nine {t : TypeId} {f0 f1 f2 f3 f4 f5 f6 f7 f8 : Field} {fuel : Nat} {cs : List Value} {x : DataW H × List MemPlace} (ht : P.underlying t = some (.struct #[f0, f1, f2, f3, f4, f5, f6, f7, f8])) (h : DataW.trod enc P w base spare held fuel t cs = some x) :
    ∃ y0 y1 y2 y3 y4 y5 y6 y7 y8 n, cs.length = P.cellsOf t ∧
      DataW.trod enc P w base spare held n f0.type ((cs.drop f0.offset).take (P.cellsOf f0.type)) = some y0 ∧
      DataW.trod enc P w base spare held n f1.type ((cs.drop f1.offset).take (P.cellsOf f1.type)) = some y1 ∧
      DataW.trod enc P w base spare held n f2.type ((cs.drop f2.offset).take (P.cellsOf f2.type)) = some y2 ∧
      DataW.trod enc P w base spare held n f3.type ((cs.drop f3.offset).take (P.cellsOf f3.type)) = some y3 ∧
      DataW.trod enc P w base spare held n f4.type ((cs.drop f4.offset).take (P.cellsOf f4.type)) = some y4 ∧
      DataW.trod enc P w base spare held n f5.type ((cs.drop f5.offset).take (P.cellsOf f5.type)) = some y5 ∧
      DataW.trod enc P w base spare held n f6.type ((cs.drop f6.offset).take (P.cellsOf f6.type)) = some y6 ∧
      DataW.trod enc P w base spare held n f7.type ((cs.drop f7.offset).take (P.cellsOf f7.type)) = some y7 ∧
      DataW.trod enc P w base spare held n f8.type ((cs.drop f8.offset).take (P.cellsOf f8.type)) = some y8 := by
  obtain ⟨xs, n, _, rfl, hl, hlen, hf⟩ := DataW.trod_struct ht h
  match xs, hlen with
  | [y0, y1, y2, y3, y4, y5, y6, y7, y8], _ => exact ⟨y0, y1, y2, y3, y4, y5, y6, y7, y8, n, hl, by simpa using hf 0 f0 rfl, by simpa using hf 1 f1 rfl, by simpa using hf 2 f2 rfl, by simpa using hf 3 f3 rfl, by simpa using hf 4 f4 rfl, by simpa using hf 5 f5 rfl, by simpa using hf 6 f6 rfl, by simpa using hf 7 f7 rfl, by simpa using hf 8 f8 rfl⟩
end
theorem cells_piece : Try.prog.cellsOf 130 = 2 := by kernel_rfl
theorem cells_pieces : Try.prog.cellsOf 82 = 1 := by kernel_rfl
theorem cells_node : Try.prog.cellsOf 84 = 9 := by kernel_rfl
theorem cells_nodes : Try.prog.cellsOf 35 = 1 := by kernel_rfl
theorem cells_tree : Try.prog.cellsOf 37 = 2 := by kernel_rfl
theorem cells_bool : Try.prog.cellsOf 4 = 1 := by kernel_rfl
set_option maxRecDepth 100000 in
theorem open_pieces {H : Type} {enc : TypeId × Value → H} {W : World} {base : Nat} {spare : Nat → Bool} {held : Bool} {fuel : Nat} {cs : List Value} {x : DataW H × List MemPlace}
    (h : DataW.trod enc Try.prog W base spare held fuel 82 cs = some x) : ∃ a ps cap, cs = [.slice a (List.length (α := PM) ps) cap] ∧ CRow W a (pcs ps) ∧ ps.length ≤ 9223372036854775807 := by
  rcases open_slice Try.underlying82 h with ⟨rfl, _⟩ | ⟨ad, len, cap, m, n, D, Pl, rfl, hb, hl, hm, hmm, _, hx⟩
  · exact ⟨none, [], 0, rfl, fun h => by simp [pcs] at h, by simp⟩
  · have hlm : len ≤ m := by rw [hmm]; split <;> omega
    have each : ∀ i, i < len → ∃ f : PM, (∀ r v, (pcells f)[r]? = some v → W.cell? (ad.add (i * 2 + r)) = some v) ∧ True := by
      intro i hi
      obtain ⟨cs', h1, h2⟩ := hx i (by omega)
      rw [cells_piece] at h1
      obtain ⟨_, hlen, hcell⟩ := World.cells?_some h1
      obtain ⟨y0, y1, k, _, _, g0, g1⟩ := trod_struct2 Try.underlying130 h2
      match cs', hlen with
      | [v0, v1], _ =>
        simp only [cells_int, List.drop_zero, List.drop_succ_cons, List.take_succ_cons, List.take_zero] at g0 g1
        obtain ⟨q0, e0, _, _⟩ := DataW.trod_int Try.underlying3 g0
        obtain ⟨q1, e1, _, _⟩ := DataW.trod_int Try.underlying3 g1
        have c0 := hcell 0 (by omega)
        have c1 := hcell 1 (by omega)
        rw [add_add] at c0 c1
        simp only [List.cons.injEq, and_true] at e0 e1
        subst e0 e1
        refine ⟨⟨q0, q1⟩, fun r v hv => ?_, trivial⟩
        match r, hv with
        | 0, hv => simp [pcells] at hv; subst hv; simpa using c0
        | 1, hv => simp [pcells] at hv; subst hv; simpa using c1
    obtain ⟨xs, hxl, hrow, _⟩ := rows_from pcells_len (by decide) each
    exact ⟨some ad, xs, cap, by rw [hxl], hrow, by rw [hxl]; unfold maxLen at hm; omega⟩
set_option maxRecDepth 100000 in
set_option maxHeartbeats 1000000 in
theorem open_nodes {H : Type} {enc : TypeId × Value → H} {W : World} {base : Nat} {spare : Nat → Bool} {held : Bool} {fuel : Nat} {cs : List Value} {x : DataW H × List MemPlace}
    (h : DataW.trod enc Try.prog W base spare held fuel 35 cs = some x) : ∃ a rs cap, cs = [.slice a (List.length (α := NR) rs) cap] ∧ TR W a rs 0 W.heap.size ∧ NOk (nds rs) ∧ NInt (nds rs) := by
  rcases open_slice Try.underlying35 h with ⟨rfl, _⟩ | ⟨ad, len, cap, m, n, D, Pl, rfl, hb, hl, hm, hmm, _, hx⟩
  · exact ⟨none, [], 0, rfl, GR.nil _ _ _ _ _, by unfold NOk; simp [nds], by unfold NInt; simp [nds]⟩
  · have hlm : len ≤ m := by rw [hmm]; split <;> omega
    have each : ∀ i, i < len → ∃ f : NR, (∀ r v, (ncells f)[r]? = some v → W.cell? (ad.add (i * 9 + r)) = some v) ∧ CRow W f.loc (pcs f.nd.pieces) ∧ f.nd.name.size ≤ 9223372036854775807 ∧ (f.nd.pieces.length ≤ 9223372036854775807 ∧ (Lit.int .i64 f.nd.id).wf = true ∧ (Lit.int .i64 f.nd.parent).wf = true) := by
      intro i hi
      obtain ⟨cs', h1, h2⟩ := hx i (by omega)
      rw [cells_node] at h1
      obtain ⟨_, hlen, hcell⟩ := World.cells?_some h1
      obtain ⟨y0, y1, y2, y3, y4, y5, y6, y7, y8, k, _, g0, g1, g2, g3, g4, g5, g6, g7, g8⟩ := trod_nine Try.underlying84 h2
      match cs', hlen with
      | [v0, v1, v2, v3, v4, v5, v6, v7, v8], _ =>
        simp only [cells_int, cells_str, cells_bool, cells_pieces, List.drop_zero, List.drop_succ_cons, List.take_succ_cons, List.take_zero] at g0 g1 g2 g3 g4 g5 g6 g7 g8
        obtain ⟨q0, e0, _, f0⟩ := DataW.trod_int Try.underlying3 g0
        obtain ⟨q1, e1, _, f1⟩ := DataW.trod_int Try.underlying3 g1
        obtain ⟨q2, e2, _, z2⟩ := DataW.trod_string Try.underlying9 g2
        obtain ⟨q3, e3, _⟩ := DataW.trod_bool Try.underlying4 g3
        obtain ⟨q4, e4, _, _⟩ := DataW.trod_int Try.underlying3 g4
        obtain ⟨q5, e5, _, _⟩ := DataW.trod_int Try.underlying3 g5
        obtain ⟨q6, e6, _, _⟩ := DataW.trod_int Try.underlying3 g6
        obtain ⟨pa, ps, pc, e7, hpr, hpl⟩ := open_pieces g7
        obtain ⟨q8, e8, _, _⟩ := DataW.trod_int Try.underlying3 g8
        have c0 := hcell 0 (by omega)
        have c1 := hcell 1 (by omega)
        have c2 := hcell 2 (by omega)
        have c3 := hcell 3 (by omega)
        have c4 := hcell 4 (by omega)
        have c5 := hcell 5 (by omega)
        have c6 := hcell 6 (by omega)
        have c7 := hcell 7 (by omega)
        have c8 := hcell 8 (by omega)
        rw [add_add] at c0 c1 c2 c3 c4 c5 c6 c7 c8
        simp only [List.cons.injEq, and_true] at e0 e1 e2 e3 e4 e5 e6 e7 e8
        subst e0 e1 e2 e3 e4 e5 e6 e7 e8
        unfold maxLen at z2
        refine ⟨⟨⟨q0, q1, q2, q3, q4, q5, q6, ps, q8⟩, pa, pc⟩, fun r v hv => ?_, hpr, by simpa using z2, hpl, f0, f1⟩
        match r, hv with
        | 0, hv => simp [ncells] at hv; subst hv; simpa using c0
        | 1, hv => simp [ncells] at hv; subst hv; simpa using c1
        | 2, hv => simp [ncells] at hv; subst hv; simpa using c2
        | 3, hv => simp [ncells] at hv; subst hv; simpa using c3
        | 4, hv => simp [ncells] at hv; subst hv; simpa using c4
        | 5, hv => simp [ncells] at hv; subst hv; simpa using c5
        | 6, hv => simp [ncells] at hv; subst hv; simpa using c6
        | 7, hv => simp [ncells] at hv; subst hv; simpa using c7
        | 8, hv => simp [ncells] at hv; subst hv; simpa using c8
    obtain ⟨xs, hxl, hrow, hall⟩ := rows_from ncells_len (by decide) each
    refine ⟨some ad, xs, cap, by rw [hxl], ⟨RRow.of_crow hrow, fun r hr => RRow.of_crow (hall r hr).1⟩, ⟨by rw [nds_len, hxl]; unfold maxLen at hm; omega, fun n hn => ?_⟩, fun n hn => ?_⟩
    · obtain ⟨r, hr, rfl⟩ := List.mem_map.1 hn
      exact ⟨(hall r hr).2.1, (hall r hr).2.2.1⟩
    · obtain ⟨r, hr, rfl⟩ := List.mem_map.1 hn
      exact (hall r hr).2.2.2
set_option maxRecDepth 100000 in
theorem open_tree {H : Type} {enc : TypeId × Value → H} {W : World} {r : Reach} {b0 base : Nat} {spare : Nat → Bool} {held : Bool} {v : Value} {d : DataW H} {p : List MemPlace}
    (hv : Value.okWide Try.prog W r b0 37 v) (h : DataW.Trod enc Try.prog W base spare held 37 v d p) : ∃ T : TM, TSee W v T 0 W.heap.size ∧ NOk T.nodes ∧ NInt T.nodes := by
  obtain ⟨cs, rfl, hsz⟩ := okWide_struct Try.underlying37 hv
  rw [cells_tree] at hsz
  obtain ⟨fuel, hf⟩ := h
  obtain ⟨y0, y1, n, _, _, h0, h1⟩ := trod_struct2 Try.underlying37 hf
  obtain ⟨c0, c1, rfl⟩ : ∃ c0 c1, cs = #[c0, c1] := by
    match cs, hsz with
    | ⟨[c0, c1]⟩, _ => exact ⟨c0, c1, rfl⟩
  simp only [cells_nodes, cells_int, Value.cells, List.drop_zero, List.drop_succ_cons, List.take_succ_cons, List.take_zero] at h0 h1
  obtain ⟨a, rs, cap, e, g1, g2⟩ := open_nodes h0
  obtain ⟨q, e1, _, _⟩ := DataW.trod_int Try.underlying3 h1
  simp only [List.cons.injEq, and_true] at e e1
  subst e e1
  exact ⟨⟨nds rs, q⟩, ⟨a, cap, rs, rfl, rfl, g1⟩, g2⟩
end Go.Proofs.Ythfmjjaollekiaa
