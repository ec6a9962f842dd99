/- Texts of ours, laid one behind the other: LkP, LkA, LkB, TreB, LkC, LkD, PaI, StI, SchQ, Draw, DrawB. -/
import Derived.Test.YthfmjjaollekiaaPu1
import Derived.Test.YthfmjjaollekiaaPu2
import Derived.WalkKit
import Derived.Maps.OwnOps
import Derived.Deep.CutRange
import Derived.WalkSmall
import Derived.Laws.RangeAny
import Derived.PlainAid
import Derived.Deep.QuietTactic
import Derived.BigQuiet
import Derived.Deep.RegionHeld3
import Derived.Deep.DrawnRows
import Derived.OwnWalk
/- LkP: Right trees, plain: where nodes are found, and the way up from each. Nothing of the program is read here. -/
namespace Go.Proofs.Ythfmjjaollekiaa
set_option maxRecDepth 100000

/-- The first node of an Id. -/
def fid (ns : List NM) (id : Int) : Option Nat := ns.findIdx? (fun n => n.id == id)
/-- The first node of a Parent and a Name. -/
def fnm (ns : List NM) (p : Int) (s : ByteArray) : Option Nat := ns.findIdx? (fun n => n.parent == p && decide (n.name = s))
theorem find_take {α : Type} (P : α → Bool) (xs : List α) (k : Nat) (h : k < xs.length) : (xs.take (k + 1)).findIdx? P = match (xs.take k).findIdx? P with
    | some i => some i
    | none => if P xs[k] = true then some k else none := by
  rw [List.take_succ_eq_append_getElem h, List.findIdx?_append]
  cases hf : (xs.take k).findIdx? P with
  | some i => simp
  | none =>
    simp only [List.findIdx?_cons, List.findIdx?_nil, Option.none_or]
    have : (xs.take k).length = k := by simp; omega
    by_cases hp : P xs[k] = true
    · simp [hp, this]
    · simp [hp]
theorem fid_lt {ns : List NM} {id : Int} {i : Nat} (h : fid ns id = some i) : ∃ hi : i < ns.length, ns[i].id = id := by
  obtain ⟨hi, h1, _⟩ := List.findIdx?_eq_some_iff_getElem.1 h
  exact ⟨hi, by simpa using h1⟩
theorem fid_none {ns : List NM} {id : Int} (h : fid ns id = none) : ∀ n ∈ ns, n.id ≠ id := fun n hn => by simpa using List.findIdx?_eq_none_iff.1 h n hn
theorem fid_first {ns : List NM} {id : Int} {i : Nat} (h : fid ns id = some i) : ∀ j, j < i → ∀ hj : j < ns.length, ns[j].id ≠ id := by
  obtain ⟨hi, h1, h2⟩ := List.findIdx?_eq_some_iff_getElem.1 h
  exact fun j hj hjl => by simpa using h2 j hj
theorem fid_of {ns : List NM} {i : Nat} (hi : i < ns.length) (h : ∀ j, j < i → ∀ hj : j < ns.length, ns[j].id ≠ ns[i].id) : fid ns ns[i].id = some i :=
  List.findIdx?_eq_some_iff_getElem.2 ⟨hi, by simp, fun j hj => by simpa using h j hj (by omega)⟩
theorem fnm_lt {ns : List NM} {p : Int} {s : ByteArray} {i : Nat} (h : fnm ns p s = some i) : ∃ hi : i < ns.length, ns[i].parent = p ∧ ns[i].name = s := by
  obtain ⟨hi, h1, _⟩ := List.findIdx?_eq_some_iff_getElem.1 h
  exact ⟨hi, by simpa using h1⟩
theorem fnm_none {ns : List NM} {p : Int} {s : ByteArray} (h : fnm ns p s = none) : ∀ n ∈ ns, n.parent = p → n.name ≠ s := fun n hn => by simpa using List.findIdx?_eq_none_iff.1 h n hn
theorem fnm_first {ns : List NM} {p : Int} {s : ByteArray} {i : Nat} (h : fnm ns p s = some i) : ∀ j, j < i → ∀ hj : j < ns.length, ns[j].parent = p → ns[j].name ≠ s := by
  obtain ⟨hi, h1, h2⟩ := List.findIdx?_eq_some_iff_getElem.1 h
  exact fun j hj hjl => by simpa using h2 j hj
theorem at_fid (ns : List NM) (id : Int) : atI ns id = match fid ns id with
    | some i => (i : Int)
    | none => -1 := rfl
/-- The way up from a node to the first one, and its steps. -/
inductive Ups (ns : List NM) : Nat → Nat → Prop
  | root : Ups ns 0 0
  | step {i k d : Nat} : i < ns.length → i ≠ 0 → fid ns (ns.getD i default).parent = some k → Ups ns k d → Ups ns i (d + 1)
/-- Ids that ascend from 1 on. -/
def Asc (ns : List NM) : Prop := (∀ i (hi : i < ns.length), 0 < i → (ns.getD (i - 1) default).id < ns[i].id) ∧ 0 < ns.length ∧ (ns.getD 0 default).id = 1 ∧ (ns.getD 0 default).parent = 0
theorem Asc.lt {ns : List NM} (h : Asc ns) : ∀ j (hj : j < ns.length) i, i < j → (ns.getD i default).id < ns[j].id := by
  intro j
  induction j with
  | zero => intro _ i hi; omega
  | succ j ih =>
    intro hj i hi
    have h1 := h.1 (j + 1) hj (by omega)
    simp only [Nat.add_sub_cancel] at h1
    rcases Nat.lt_or_ge i j with hl | hg
    · have h2 := ih (by omega) i hl
      have e : (ns.getD j default) = ns[j] := by simp [List.getD, (by omega : j < ns.length)]
      rw [e] at h1
      omega
    · obtain rfl : i = j := by omega
      exact h1
theorem getD_in {ns : List NM} {i : Nat} (hi : i < ns.length) : ns.getD i default = ns[i] := by simp [List.getD, hi]
theorem Asc.fid {ns : List NM} (h : Asc ns) {i : Nat} (hi : i < ns.length) : fid ns ns[i].id = some i :=
  fid_of hi fun j hj hjl => by have := h.lt i hi j hj; rw [getD_in hjl] at this; omega
theorem Asc.pos {ns : List NM} (h : Asc ns) {i : Nat} (hi : i < ns.length) : 1 ≤ ns[i].id := by
  rcases Nat.eq_zero_or_pos i with rfl | hp
  · have := h.2.2.1
    rw [getD_in hi] at this
    omega
  · have := h.lt i hi 0 hp
    rw [h.2.2.1] at this
    omega
theorem Asc.zero {ns : List NM} (h : Asc ns) : Go.Proofs.Ythfmjjaollekiaa.fid ns 0 = none := by
  cases hf : Go.Proofs.Ythfmjjaollekiaa.fid ns 0 with
  | none => rfl
  | some i =>
    obtain ⟨hi, e⟩ := fid_lt hf
    have := h.pos hi
    omega
theorem Asc.one {ns : List NM} (h : Asc ns) : Go.Proofs.Ythfmjjaollekiaa.fid ns 1 = some 0 := by
  have := h.fid h.2.1
  rw [← getD_in h.2.1, h.2.2.1] at this
  exact this
theorem climbs_ups {ns : List NM} (h : Asc ns) : ∀ (f : Nat) (id : Int) (i : Nat), climbs ns f id = true → Go.Proofs.Ythfmjjaollekiaa.fid ns id = some i → i ≠ 0 → ∃ d, d ≤ f ∧ Ups ns i d := by
  intro f
  induction f with
  | zero => intro id i hc; simp [climbs] at hc
  | succ f ih =>
    intro id i hc hi h0
    unfold climbs at hc
    unfold Go.Proofs.Ythfmjjaollekiaa.fid at hi
    rw [hi] at hc
    dsimp only at hc
    obtain ⟨hil, _⟩ := fid_lt (ns := ns) hi
    by_cases h1 : (ns.getD i default).parent = 1
    · exact ⟨1, by omega, Ups.step hil h0 (by rw [h1]; exact h.one) Ups.root⟩
    · rw [if_neg h1] at hc
      cases hk : Go.Proofs.Ythfmjjaollekiaa.fid ns (ns.getD i default).parent with
      | none =>
        cases f with
        | zero => simp [climbs] at hc
        | succ f =>
          unfold climbs at hc
          unfold Go.Proofs.Ythfmjjaollekiaa.fid at hk
          rw [hk] at hc
          cases hc
      | some k =>
        by_cases hk0 : k = 0
        · subst hk0
          have := fid_lt hk
          obtain ⟨hl, e⟩ := this
          rw [← getD_in hl, h.2.2.1] at e
          exact absurd e.symm h1
        · obtain ⟨d, hd, hu⟩ := ih _ k hc hk hk0
          exact ⟨d + 1, by omega, Ups.step hil h0 hk hu⟩
theorem ups_climbs {ns : List NM} (h : Asc ns) : ∀ (f i d : Nat), Ups ns i d → i ≠ 0 → d ≤ f → climbs ns f (ns.getD i default).id = true := by
  intro f
  induction f with
  | zero =>
    intro i d hu h0 hd
    cases hu with
    | root => exact absurd rfl h0
    | step => omega
  | succ f ih =>
    intro i d hu h0 hd
    cases hu with
    | root => exact absurd rfl h0
    | @step _ k d' hil _ hk hu' =>
      unfold climbs
      have e := h.fid hil
      rw [← getD_in hil] at e
      unfold Go.Proofs.Ythfmjjaollekiaa.fid at e
      rw [e]
      dsimp only
      split
      · rfl
      · rename_i hne
        obtain ⟨hkl, ek⟩ := fid_lt hk
        rw [← ek, ← getD_in hkl]
        refine ih k d' hu' (fun e0 => hne ?_) (by omega)
        subst e0
        rw [← ek, ← getD_in hkl]
        exact h.2.2.1
theorem Ups.lt {ns : List NM} (h : Asc ns) {i d : Nat} (hu : Ups ns i d) : i < ns.length := by
  cases hu with
  | root => exact h.2.1
  | step hl => exact hl
theorem Ups.det {ns : List NM} {i d e : Nat} (h : Ups ns i d) (h' : Ups ns i e) : d = e := by
  induction h generalizing e with
  | root =>
    cases h' with
    | root => rfl
    | step _ h0 => exact absurd rfl h0
  | step _ h0 hk _ ih =>
    cases h' with
    | root => exact absurd rfl h0
    | step _ _ hk' hu' =>
      rw [hk] at hk'
      cases hk'
      rw [ih hu']
end Go.Proofs.Ythfmjjaollekiaa
/- LkA: The links of a tree in memory: nodes behind pointers, by their Ids, and by their Parents and Names. -/
namespace Go.Proofs.Ythfmjjaollekiaa
open Go.RowKit Go.Maps

theorem keyI : Keyed Try.prog 3 := int_keyed Try.underlying3
theorem keyS : Keyed Try.prog 9 := string_keyed Try.underlying9
theorem zeroLp (w : World) : (zeroValue 49).run Try.prog w = .ok (.pointer none) w := by kernel_rfl
theorem zeroLm (w : World) : (zeroValue 126).run Try.prog w = .ok (.map none) w := by kernel_rfl
theorem key_int {x : Int} (h : (Lit.int .i64 x).wf = true) : keyOf Try.prog 3 (.int .i64 x) = some (ki x) := keyOf_int_mk Try.underlying3 h
theorem key_str {s : ByteArray} (h : s.size ≤ maxLen) : keyOf Try.prog 9 (.string s) = some (ks s) := Go.WideMaps.keyOf_string_mk Try.underlying9 h
theorem eqg_ptr (x y : Operand) (o : Option Nat) (W : World) : Sem.run Try.prog (eqGuard BinOp.eql 49 x y (ptrV o) (.pointer none)) W = .ok () W := by
  cases o <;> simp [ptrV, eqGuard, go_sem]
theorem eq_ptr (o : Option Nat) (W : World) : Sem.run Try.prog (binOp BinOp.eql 49 (ptrV o) (.pointer none)) W = .ok (.bool o.isNone) W := by
  cases o <;> simp [ptrV, go_sem]
theorem neg_ptr (x y : Operand) (o : Option Nat) (W : World) : Sem.run Try.prog (eqGuard BinOp.neq 49 x y (ptrV o) (.pointer none)) W = .ok () W := by
  cases o <;> simp [ptrV, eqGuard, go_sem]
theorem ne_ptr (o : Option Nat) (W : World) : Sem.run Try.prog (binOp BinOp.neq 49 (ptrV o) (.pointer none)) W = .ok (.bool o.isSome) W := by
  cases o <;> simp [ptrV, go_sem]
theorem eqg_map (x y : Operand) (o : Option Nat) (W : World) : Sem.run Try.prog (eqGuard BinOp.eql 126 x y (mapV o) (.map none)) W = .ok () W := by
  cases o <;> simp [mapV, eqGuard, go_sem]
theorem eq_map (o : Option Nat) (W : World) : Sem.run Try.prog (binOp BinOp.eql 126 (mapV o) (.map none)) W = .ok (.bool o.isNone) W := by
  cases o <;> kernel_rfl
/-- A node of the links: the node, and a pointer to the one above it. -/
def lcells (r : NR) (p : Value) : List Value := [.int .i64 r.nd.id, .int .i64 r.nd.parent, .string r.nd.name, .bool r.nd.dir, .int .i64 r.nd.schema, .int .i64 r.nd.quota, .int .i64 r.nd.len, .slice r.loc r.nd.pieces.length r.cap, .int .i64 r.nd.writer, p]
/-- Some node has this Parent. -/
def Par (ns : List NM) (p : Int) : Prop := ∃ n ∈ ns, n.parent = p
theorem par_fnm {ns : List NM} {p : Int} {s : ByteArray} {i : Nat} (h : fnm ns p s = some i) : Par ns p := by
  obtain ⟨hi, e, _⟩ := fnm_lt h
  exact ⟨_, List.getElem_mem hi, e⟩
/-- What the links hold. 'G': the nodes' blocks; 'C': the inner maps' blocks; 'A': of each node the one above it, where it is told already. -/
structure Lk (w : World) (B b1 b2 : Nat) (rs : List NR) (G : Nat → Nat) (C : Int → Nat) (A : Nat → Option Nat) : Prop where
  m1 : ∃ D, w.ownsMap Try.prog 3 ptrE b1 rs.length D ∧ ∀ id, Tells D (ki id) ((fid (nds rs) id).map G)
  m2 : ∃ D, w.ownsMap Try.prog 3 mapE b2 rs.length D ∧ ∀ p, (Par (nds rs) p → Tells D (ki p) (some (C p))) ∧ (¬ Par (nds rs) p → Tells D (ki p) none)
  m3 : ∀ p, Par (nds rs) p → B ≤ C p ∧ C p ≠ b1 ∧ C p ≠ b2 ∧ ∃ D, w.ownsMap Try.prog 9 ptrE (C p) rs.length D ∧ ∀ s, Tells D (ks s) ((fnm (nds rs) p s).map G)
  inj : ∀ p q, Par (nds rs) p → Par (nds rs) q → C p = C q → p = q
  cells : ∀ i (hi : i < rs.length), WCells w (G i) (lcells rs[i] (ptrV ((A i).map G))) ∧ B ≤ G i
  one : ∀ i j, i < rs.length → j < rs.length → G i = G j → i = j
  lo : B ≤ b1 ∧ B ≤ b2 ∧ b1 ≠ b2
/-- The cells of all blocks stay. -/
def Kept (w w' : World) : Prop := ∀ g L, WCells w g L → WCells w' g L
theorem Kept.refl (w : World) : Kept w w := fun _ _ h => h
theorem Kept.trans {a b c : World} (h : Kept a b) (h' : Kept b c) : Kept a c := fun g L hg => h' g L (h g L hg)
theorem Kept.below {w w' : World} (h : Below w.heap.size w w') : Kept w w' := fun _ _ hg => hg.grow h
theorem Kept.turned {w w' : World} {b : Nat} (h : w.mapTurned w' b) : Kept w w' := fun _ _ hg => wc_mapTurned hg h
theorem Lk.below {w w' : World} {B b1 b2 : Nat} {rs : List NR} {G : Nat → Nat} {C : Int → Nat} {A : Nat → Option Nat} (h : Lk w B b1 b2 rs G C A) (hb : Below w.heap.size w w') : Lk w' B b1 b2 rs G C A := by
  obtain ⟨⟨D1, o1, t1⟩, ⟨D2, o2, t2⟩, m3, inj, cells, one, lo⟩ := h
  refine ⟨⟨D1, own_below o1 hb, t1⟩, ⟨D2, own_below o2 hb, t2⟩, fun p hp => ?_, inj, fun i hi => ⟨(cells i hi).1.grow hb, (cells i hi).2⟩, one, lo⟩
  obtain ⟨q1, q2, q3, D, o3, t3⟩ := m3 p hp
  exact ⟨q1, q2, q3, D, own_below o3 hb, t3⟩
theorem Lk.lt {w : World} {B b1 b2 : Nat} {rs : List NR} {G : Nat → Nat} {C : Int → Nat} {A : Nat → Option Nat} (h : Lk w B b1 b2 rs G C A) : b1 < w.heap.size ∧ b2 < w.heap.size ∧ (∀ i, i < rs.length → G i < w.heap.size) ∧ ∀ p, Par (nds rs) p → C p < w.heap.size := by
  obtain ⟨⟨D1, o1, _⟩, ⟨D2, o2, _⟩, m3, inj, cells, one, lo⟩ := h
  refine ⟨o1.lt, o2.lt, fun i hi => (cells i hi).1.1, fun p hp => ?_⟩
  obtain ⟨_, _, _, D, o3, _⟩ := m3 p hp
  exact o3.lt
/-- Nothing yet. -/
theorem Lk.start {w : World} {B b1 b2 : Nat} {G : Nat → Nat} {C : Int → Nat} {A : Nat → Option Nat} (h1 : w.ownsMap Try.prog 3 ptrE b1 0 (.map [])) (h2 : w.ownsMap Try.prog 3 mapE b2 0 (.map [])) (lo : B ≤ b1 ∧ B ≤ b2 ∧ b1 ≠ b2) : Lk w B b1 b2 [] G C A :=
  ⟨⟨_, h1, fun _ => rfl⟩, ⟨_, h2, fun _ => ⟨fun ⟨_, h, _⟩ => by simp [nds] at h, fun _ => rfl⟩⟩, fun _ ⟨_, h, _⟩ => by simp [nds] at h, fun _ _ ⟨_, h, _⟩ => by simp [nds] at h, fun i hi => absurd hi (by simp), fun i j hi => absurd hi (by simp), lo⟩
/-- The place of a new node. -/
def Gn (G : Nat → Nat) (n g : Nat) : Nat → Nat := fun i => if i = n then g else G i
theorem Gn_old {G : Nat → Nat} {n g i : Nat} (h : i < n) : Gn G n g i = G i := if_neg (by omega)
theorem Gn_new {G : Nat → Nat} {n g : Nat} : Gn G n g n = g := if_pos rfl
theorem find_snoc {α : Type} (P : α → Bool) (xs : List α) (x : α) : (xs ++ [x]).findIdx? P = match xs.findIdx? P with
    | some i => some i
    | none => if P x = true then some xs.length else none := by
  rw [List.findIdx?_append]
  cases hf : xs.findIdx? P with
  | some i => simp
  | none =>
    simp only [List.findIdx?_cons, List.findIdx?_nil, Option.none_or]
    by_cases hp : P x = true
    · simp [hp]
    · simp [hp]
theorem fid_snoc {ns : List NM} {n : NM} {id : Int} : fid (ns ++ [n]) id = match fid ns id with
    | some i => some i
    | none => if n.id = id then some ns.length else none := by
  unfold fid
  rw [find_snoc]
  cases ns.findIdx? (fun n => n.id == id) with
  | some i => rfl
  | none => simp
theorem fnm_snoc {ns : List NM} {n : NM} {p : Int} {s : ByteArray} : fnm (ns ++ [n]) p s = match fnm ns p s with
    | some i => some i
    | none => if n.parent = p ∧ n.name = s then some ns.length else none := by
  unfold fnm
  rw [find_snoc]
  cases ns.findIdx? (fun n => n.parent == p && decide (n.name = s)) with
  | some i => rfl
  | none => simp
theorem fid_map_snoc {rs : List NR} {r : NR} {G : Nat → Nat} {g : Nat} {id : Int} : (fid (nds (rs ++ [r])) id).map (Gn G rs.length g) = match fid (nds rs) id with
    | some i => some (G i)
    | none => if r.nd.id = id then some g else none := by
  rw [nds_snoc, fid_snoc]
  cases h : fid (nds rs) id with
  | some i =>
    obtain ⟨hi, _⟩ := fid_lt h
    rw [nds_len] at hi
    simp [Gn_old hi]
  | none =>
    dsimp only
    split
    · simp [nds_len, Gn_new]
    · rfl
theorem fnm_map_snoc {rs : List NR} {r : NR} {G : Nat → Nat} {g : Nat} {p : Int} {s : ByteArray} : (fnm (nds (rs ++ [r])) p s).map (Gn G rs.length g) = match fnm (nds rs) p s with
    | some i => some (G i)
    | none => if r.nd.parent = p ∧ r.nd.name = s then some g else none := by
  rw [nds_snoc, fnm_snoc]
  cases h : fnm (nds rs) p s with
  | some i =>
    obtain ⟨hi, _⟩ := fnm_lt h
    rw [nds_len] at hi
    simp [Gn_old hi]
  | none =>
    dsimp only
    split
    · simp [nds_len, Gn_new]
    · rfl
theorem par_snoc {ns : List NM} {n : NM} {p : Int} : Par (ns ++ [n]) p ↔ Par ns p ∨ n.parent = p := by
  unfold Par
  constructor
  · rintro ⟨m, hm, e⟩
    rcases List.mem_append.1 hm with h | h
    · exact .inl ⟨m, h, e⟩
    · obtain rfl := List.mem_singleton.1 h
      exact .inr e
  · rintro (⟨m, hm, e⟩ | e)
    · exact ⟨m, by simp [hm], e⟩
    · exact ⟨n, by simp, e⟩
/-- A node more: all three maps have it where it is the first one. -/
theorem Lk.snoc {w w' : World} {B b1 b2 g : Nat} {rs : List NR} {r : NR} {G : Nat → Nat} {C C' : Int → Nat} (h : Lk w B b1 b2 rs G C fun _ => none) (hk : Kept w w') (hn : WCells w' g (lcells r (.pointer none))) (hg : ∀ i, i < rs.length → G i ≠ g) (hB : B ≤ g)
    (h1 : ∃ D, w'.ownsMap Try.prog 3 ptrE b1 (rs.length + 1) D ∧ ∀ id, Tells D (ki id) (match fid (nds rs) id with | some i => some (G i) | none => if r.nd.id = id then some g else none))
    (h2 : ∃ D, w'.ownsMap Try.prog 3 mapE b2 (rs.length + 1) D ∧ ∀ p, (Par (nds rs) p ∨ r.nd.parent = p → Tells D (ki p) (some (C' p))) ∧ (¬ (Par (nds rs) p ∨ r.nd.parent = p) → Tells D (ki p) none))
    (h3 : ∀ p, Par (nds rs) p ∨ r.nd.parent = p → B ≤ C' p ∧ C' p ≠ b1 ∧ C' p ≠ b2 ∧ ∃ D, w'.ownsMap Try.prog 9 ptrE (C' p) (rs.length + 1) D ∧ ∀ s, Tells D (ks s) (match fnm (nds rs) p s with | some i => some (G i) | none => if r.nd.parent = p ∧ r.nd.name = s then some g else none))
    (h4 : ∀ p q, (Par (nds rs) p ∨ r.nd.parent = p) → (Par (nds rs) q ∨ r.nd.parent = q) → C' p = C' q → p = q) : Lk w' B b1 b2 (rs ++ [r]) (Gn G rs.length g) C' fun _ => none := by
  have hl : (rs ++ [r]).length = rs.length + 1 := by simp
  refine ⟨?_, ?_, fun p hp => ?_, fun p q hp hq e => ?_, fun i hi => ?_, fun i j hi hj e => ?_, h.lo⟩
  · obtain ⟨D, o, t⟩ := h1
    exact ⟨D, by rw [hl]; exact o, fun id => by rw [fid_map_snoc]; exact t id⟩
  · obtain ⟨D, o, t⟩ := h2
    refine ⟨D, by rw [hl]; exact o, fun p => ?_⟩
    rw [nds_snoc]
    exact ⟨fun hp => (t p).1 (par_snoc.1 hp), fun hp => (t p).2 fun hp' => hp (par_snoc.2 hp')⟩
  · rw [nds_snoc, par_snoc] at hp
    obtain ⟨q1, q2, q3, D, o, t⟩ := h3 p hp
    exact ⟨q1, q2, q3, D, by rw [hl]; exact o, fun s => by rw [fnm_map_snoc]; exact t s⟩
  · rw [nds_snoc, par_snoc] at hp hq
    exact h4 p q hp hq e
  · rw [hl] at hi
    rcases Nat.lt_or_ge i rs.length with hlt | hge
    · rw [List.getElem_append_left hlt, Gn_old hlt]
      exact ⟨hk _ _ (h.cells i hlt).1, (h.cells i hlt).2⟩
    · obtain rfl : i = rs.length := by omega
      rw [List.getElem_append_right (Nat.le_refl _), Gn_new]
      exact ⟨by simpa [ptrV] using hn, hB⟩
  · rw [hl] at hi hj
    rcases Nat.lt_or_ge i rs.length with hli | hgi <;> rcases Nat.lt_or_ge j rs.length with hlj | hgj
    · rw [Gn_old hli, Gn_old hlj] at e
      exact h.one i j hli hlj e
    · obtain rfl : j = rs.length := by omega
      rw [Gn_old hli, Gn_new] at e
      exact absurd e (hg i hli)
    · obtain rfl : i = rs.length := by omega
      rw [Gn_old hlj, Gn_new] at e
      exact absurd e.symm (hg j hlj)
    · omega
end Go.Proofs.Ythfmjjaollekiaa
/- LkB: A node is added to the links. -/
namespace Go.Proofs.Ythfmjjaollekiaa
open Go.RowKit Go.Maps
attribute [local go_sem ↓] Go.wp_at_zero Go.wp_at_succ

/-- What a map holds, of each key. -/
def Sp {α : Type} (kf : α → Lit) (k : TypeId) (E : Value → Option (DataW Unit × List MemPlace)) (w : World) (b n : Nat) (f : α → Option Nat) : Prop := ∃ D, w.ownsMap Try.prog k E b n D ∧ ∀ x, Tells D (kf x) (f x)
section
variable {α : Type} {kf : α → Lit} {k : TypeId} {E : Value → Option (DataW Unit × List MemPlace)} {w w' : World} {b n : Nat} {f f' : α → Option Nat}
theorem Sp.below (h : Sp kf k E w b n f) (hb : Below w.heap.size w w') : Sp kf k E w' b n f := by
  obtain ⟨D, o, t⟩ := h
  exact ⟨D, own_below o hb, t⟩
theorem Sp.turned {c : Nat} (h : Sp kf k E w b n f) (ht : w.mapTurned w' c) (hne : b ≠ c) : Sp kf k E w' b n f := by
  obtain ⟨D, o, t⟩ := h
  exact ⟨D, own_turned o ht hne, t⟩
theorem Sp.more {m : Nat} (h : Sp kf k E w b n f) (hm : n ≤ m) : Sp kf k E w b m f := by
  obtain ⟨D, o, t⟩ := h
  exact ⟨D, o.mono hm, t⟩
theorem Sp.eq (h : Sp kf k E w b n f) (e : ∀ x, f x = f' x) : Sp kf k E w b n f' := by
  obtain ⟨D, o, t⟩ := h
  exact ⟨D, o, fun x => by rw [← e x]; exact t x⟩
theorem Sp.put {D : DataW Unit} {x : α} {g : Nat} (hi : ∀ x y, kf x = kf y → x = y) (ho : w.ownsMap Try.prog k E b n D) (ht : ∀ x, Tells D (kf x) (f x)) (hk : WideAt.IsKeyLit (kf x)) {m : Nat} (ho' : w'.ownsMap Try.prog k E b m (D.put (kf x) (.lit (.int .i64 g)))) (h1 : f' x = some g) (h2 : ∀ y, y ≠ x → f' y = f y) : Sp kf k E w' b m f' := by
  refine ⟨_, ho', fun y => ?_⟩
  by_cases e : y = x
  · subst e
    rw [h1]
    exact Tells.put_same ho.isMap hk
  · rw [h2 y e]
    exact (ht y).put_other fun q => e (hi _ _ q)
end
abbrev Si := Sp ki 3 ptrE
abbrev Sm := Sp ki 3 mapE
abbrev Ss := Sp ks 9 ptrE
/-- While a node is added: what stays. -/
structure Ph (w W : World) (B b1 b2 h : Nat) (r : NR) : Prop where
  kp : Kept w W
  bl : Below B w W
  sz : w.heap.size ≤ W.heap.size
  bx : WCells W h [.map (some b1), .map (some b2)]
  nd : WCells W (h + 1) (ncells r)
theorem Ph.turned {w W W' : World} {B b1 b2 h c : Nat} {r : NR} (p : Ph w W B b1 b2 h r) (ht : W.mapTurned W' c) (hc : B ≤ c) (hB : B ≤ w.heap.size) : Ph w W' B b1 b2 h r :=
  ⟨p.kp.trans (Kept.turned ht), p.bl.grown ht.grown (by have := p.sz; omega) (fun j hj => by simp at hj; omega), Nat.le_trans p.sz ht.grown.size, wc_mapTurned p.bx ht, wc_mapTurned p.nd ht⟩
theorem Ph.below {w W W' : World} {B b1 b2 h : Nat} {r : NR} (p : Ph w W B b1 b2 h r) (hb : Below W.heap.size W W') (hB : B ≤ w.heap.size) : Ph w W' B b1 b2 h r :=
  ⟨p.kp.trans (Kept.below hb), p.bl.trans (hb.mono (by have := p.sz; omega)), Nat.le_trans p.sz hb.size, p.bx.grow hb, p.nd.grow hb⟩
/-- The maps while a node is added. -/
structure Ms (W : World) (B b1 b2 n1 n2 n3 : Nat) (f1 : Int → Option Nat) (C : Int → Nat) (ps : Int → Prop) (f3 : Int → ByteArray → Option Nat) : Prop where
  s1 : Si W b1 n1 f1
  s2 : ∃ f2, Sm W b2 n2 f2 ∧ ∀ p, (ps p → f2 p = some (C p)) ∧ (¬ ps p → f2 p = none)
  s3 : ∀ p, ps p → B ≤ C p ∧ C p ≠ b1 ∧ C p ≠ b2 ∧ Ss W (C p) n3 (f3 p)
  inj : ∀ p q, ps p → ps q → C p = C q → p = q
theorem Ms.below {W W' : World} {B b1 b2 n1 n2 n3 : Nat} {f1 : Int → Option Nat} {C : Int → Nat} {ps : Int → Prop} {f3 : Int → ByteArray → Option Nat} (h : Ms W B b1 b2 n1 n2 n3 f1 C ps f3) (hb : Below W.heap.size W W') : Ms W' B b1 b2 n1 n2 n3 f1 C ps f3 := by
  obtain ⟨s1, ⟨f2, s2, e2⟩, s3, inj⟩ := h
  exact ⟨s1.below hb, ⟨f2, s2.below hb, e2⟩, fun p hp => ⟨(s3 p hp).1, (s3 p hp).2.1, (s3 p hp).2.2.1, (s3 p hp).2.2.2.below hb⟩, inj⟩
theorem Lk.ms {w : World} {B b1 b2 : Nat} {rs : List NR} {G : Nat → Nat} {C : Int → Nat} {A : Nat → Option Nat} (h : Lk w B b1 b2 rs G C A) : Ms w B b1 b2 rs.length rs.length rs.length (fun id => (fid (nds rs) id).map G) C (Par (nds rs)) (fun p s => (fnm (nds rs) p s).map G) := by
  obtain ⟨m1, ⟨D, o2, t2⟩, m3, inj, cells, one, lo⟩ := h
  classical
  refine ⟨m1, ⟨fun p => if Par (nds rs) p then some (C p) else none, ⟨D, o2, fun p => ?_⟩, fun p => ⟨fun hp => if_pos hp, fun hp => if_neg hp⟩⟩, fun p hp => m3 p hp, inj⟩
  by_cases hp : Par (nds rs) p
  · dsimp only; rw [if_pos hp]; exact (t2 p).1 hp
  · dsimp only; rw [if_neg hp]; exact (t2 p).2 hp
theorem wf_key {x : Int} (h : (Lit.int .i64 x).wf = true) : WideAt.IsKeyLit (ki x) := keyI.key (key_int h)
theorem str_key {s : ByteArray} (h : s.size ≤ maxLen) : WideAt.IsKeyLit (ks s) := keyS.key (key_str h)
set_option maxHeartbeats 2000000 in
set_option maxRecDepth 100000 in
theorem add_any {w : World} {B b1 b2 g : Nat} {rs : List NR} {r : NR} {G : Nat → Nat} {C : Int → Nat} (h : Lk w B b1 b2 rs G C fun _ => none) (hn : WCells w g (lcells r (.pointer none))) (hg : ∀ i, i < rs.length → G i ≠ g) (hB : B ≤ g) (hBw : B ≤ w.heap.size) (hl : rs.length ≤ 1048576) (f1 : (Lit.int .i64 r.nd.id).wf = true) (f2 : (Lit.int .i64 r.nd.parent).wf = true) (f3 : r.nd.name.size ≤ maxLen) :
    Calls Try.prog 66 #[.agg #[.map (some b1), .map (some b2)], .pointer (some ⟨g, 0, none⟩)] w fun e w' => e = .returned (.tuple #[]) ∧ (∃ C', Lk w' B b1 b2 (rs ++ [r]) (Gn G rs.length g) C' fun _ => none) ∧ Kept w w' ∧ Below B w w' := by
  have HL := Shut.mk h
  have HN := Shut.mk hn
  have HG := Shut.mk hg
  have c0 := (hn.2 0 _ rfl).1
  have c1 := (hn.2 1 _ rfl).1
  have c2 := (hn.2 2 _ rfl).1
  have c3 := (hn.2 3 _ rfl).1
  have c4 := (hn.2 4 _ rfl).1
  have c5 := (hn.2 5 _ rfl).1
  have c6 := (hn.2 6 _ rfl).1
  have c7 := (hn.2 7 _ rfl).1
  have c8 := (hn.2 8 _ rfl).1
  have lg := hn.1
  clear h hn hg
  go_enter Try.func66, Try.ntmps66
  go_upto_region 2 with fail
  refine wp_shade (fun W => Ph w W B b1 b2 w.heap.size r ∧ Ms W B b1 b2 rs.length rs.length rs.length (fun id => (fid (nds rs) id).map G) C (Par (nds rs)) (fun p s => (fnm (nds rs) p s).map G)) ?_ ?_
  · have hb : Below w.heap.size w ((w.alloc (.cells #[.map (some b1), .map (some b2)] 75)).alloc (.cells #[.int .i64 r.nd.id, .int .i64 r.nd.parent, .string r.nd.name, .bool r.nd.dir, .int .i64 r.nd.schema, .int .i64 r.nd.quota, .int .i64 r.nd.len, .slice r.loc r.nd.pieces.length r.cap, .int .i64 r.nd.writer] 30)) := ((Below.refl _ _).alloc (Nat.le_refl _) _).alloc (by simp) _
    refine ⟨⟨Kept.below hb, hb.mono hBw, hb.size, (wcells_new w #[.map (some b1), .map (some b2)] 75).alloc _, ?_⟩, HL.out.ms.below hb⟩
    have := wcells_new (w.alloc (.cells #[.map (some b1), .map (some b2)] 75)) #[.int .i64 r.nd.id, .int .i64 r.nd.parent, .string r.nd.name, .bool r.nd.dir, .int .i64 r.nd.schema, .int .i64 r.nd.quota, .int .i64 r.nd.len, .slice r.loc r.nd.pieces.length r.cap, .int .i64 r.nd.writer] 30
    simpa [ncells] using this
  intro W hW
  obtain ⟨hP, hM⟩ := hW
  have HP := Shut.mk hP
  have HM := Shut.mk hM
  have HLO := Shut.mk HL.out.lo
  clear c0 c1 c2 c3 c4 c5 c6 c7 c8 hP hM
  have b0 := (HP.out.bx.2 0 _ rfl).1
  have n0 := (HP.out.nd.2 0 _ rfl).1
  obtain ⟨D1, o1, t1⟩ := HM.out.s1
  have hk1 := look_ptr keyI Try.underlying72 zeroLp o1 (key_int f1) (t1 r.nd.id) 0
  rw [World.drewN_zero] at hk1
  dsimp only at hk1
  have T1 := Shut.mk t1
  clear t1
  obtain ⟨u1, hu1⟩ : ∃ u1, u1 = (fid (nds rs) r.nd.id).map G := ⟨_, rfl⟩
  rw [← hu1] at hk1
  have U1 := Shut.mk hu1
  clear hu1
  have e1 := eqg_ptr
  have e2 := eq_ptr
  go_upto_if 14 with fail
  go_cut [4] from 5 to 47 (fun u wx => u = .pointer (some ⟨w.heap.size + 1, 0, none⟩) ∧ Shut (Ph w wx B b1 b2 w.heap.size r ∧ Ms wx B b1 b2 (rs.length + 1) rs.length rs.length (fun id => match fid (nds rs) id with | some i => some (G i) | none => if r.nd.id = id then some g else none) C (Par (nds rs)) (fun p s => (fnm (nds rs) p s).map G)))
  case first =>
    cases u1 with
    | some x =>
      clear o1 T1 D1
      go_wp2_with fail
      go_meet
      case rel =>
        refine ⟨rfl, ⟨HP.out, ?_⟩⟩
        obtain ⟨s1, s2, s3, inj⟩ := HM.out
        refine ⟨(s1.more (Nat.le_succ _)).eq fun id => ?_, s2, s3, inj⟩
        cases hf : fid (nds rs) id with
        | some i => rfl
        | none =>
          by_cases e : r.nd.id = id
          · have := U1.out
            rw [e, hf] at this
            cases this
          · simp [e]
    | none =>
      have hmx : rs.length < maxLen := by unfold maxLen; omega
      go_wp2_with (at_mapUpdate; refine wpList_mapUpdate_in _ rfl _ _ _ 72 rfl 3 49 keyI Try.underlying72 ptrE b1 rs.length D1 rfl o1 hmx _ _ _ rfl rfl (key_int f1) (.lit (.int .i64 g)) [] rfl ?_; intro w2 hown2 hturn2)
      go_meet
      case rel =>
        refine ⟨rfl, ⟨HP.out.turned hturn2 HLO.out.1 hBw, ?_⟩⟩
        obtain ⟨s1, ⟨f2', s2, e2⟩, s3, inj⟩ := HM.out
        refine ⟨Sp.put (fun x y => ki_inj) o1 T1.out (wf_key f1) hown2 ?_ (fun y hy => ?_), ⟨f2', s2.turned hturn2 (fun e => HLO.out.2.2 e.symm), e2⟩, fun p hp => ⟨(s3 p hp).1, (s3 p hp).2.1, (s3 p hp).2.2.1, (s3 p hp).2.2.2.turned hturn2 (s3 p hp).2.1⟩, inj⟩
        · have := U1.out
          cases hf : fid (nds rs) r.nd.id with
          | some i => rw [hf] at this; cases this
          | none => simp
        · cases hf : fid (nds rs) y with
          | some i => rfl
          | none => simp; exact fun e => hy e.symm
  case rest =>
    obtain ⟨rfl, hc⟩ := hcut
    clear b0 n0 hk1 o1 T1 HM HP U1
    have HP := Shut.mk hc.out.1
    have HM := Shut.mk hc.out.2
    clear hc
    have b0 := (HP.out.bx.2 1 _ rfl).1
    have n0 := (HP.out.nd.2 1 _ rfl).1
    obtain ⟨F2, ⟨D2, o2, t2⟩, E2⟩ := HM.out.s2
    have hk2 := look_map keyI Try.underlying73 zeroLm o2 (key_int f2) (t2 r.nd.parent) 0
    rw [World.drewN_zero] at hk2
    have T2 := Shut.mk t2
    have HE2 := Shut.mk E2
    clear t2 E2
    obtain ⟨u2, hu2⟩ : ∃ u2, u2 = F2 r.nd.parent := ⟨_, rfl⟩
    rw [← hu2] at hk2
    have U2 := Shut.mk hu2
    clear hu2
    have e3 := eqg_map
    have e4 := eq_map
    go_upto_if 25 with fail
    go_cut [4] from 5 to 47 (fun u wx => u = .pointer (some ⟨w.heap.size + 1, 0, none⟩) ∧ Shut (Ph w wx B b1 b2 w.heap.size r ∧ ∃ C', Ms wx B b1 b2 (rs.length + 1) (rs.length + 1) rs.length (fun id => match fid (nds rs) id with | some i => some (G i) | none => if r.nd.id = id then some g else none) C' (fun p => Par (nds rs) p ∨ r.nd.parent = p) (fun p s => (fnm (nds rs) p s).map G)))
    case first =>
      cases u2 with
      | some x =>
        have hpar : Par (nds rs) r.nd.parent := Classical.byContradiction fun hp => by
          have := (HE2.out r.nd.parent).2 hp
          rw [← U2.out] at this
          cases this
        have HPA := Shut.mk hpar
        clear o2 T2 D2 hpar
        go_wp2_with fail
        go_meet
        case rel =>
          refine ⟨rfl, ⟨HP.out, C, ?_⟩⟩
          obtain ⟨s1, ⟨f2', s2, e2⟩, s3, inj⟩ := HM.out
          have hps : ∀ p, Par (nds rs) p ∨ r.nd.parent = p → Par (nds rs) p := fun p hp => hp.elim (fun h => h) (fun e => e ▸ HPA.out)
          exact ⟨s1, ⟨f2', s2.more (Nat.le_succ _), fun p => ⟨fun hp => (e2 p).1 (hps p hp), fun hp => (e2 p).2 fun hp' => hp (.inl hp')⟩⟩, fun p hp => s3 p (hps p hp), fun p q hp hq => inj p q (hps p hp) (hps q hq)⟩
      | none =>
        have hpar : ¬ Par (nds rs) r.nd.parent := fun hp => by
          have := (HE2.out r.nd.parent).1 hp
          rw [← U2.out] at this
          cases this
        have HPA := Shut.mk hpar
        have hmx : rs.length < maxLen := by unfold maxLen; omega
        have hmm := @run_makeMap Try.prog
        have o2' := o2.alloc (.map #[] 0)
        have hlt : b2 < wc.heap.size := o2.lt
        clear hpar
        go_wp2_with (at_mapUpdate; refine wpList_mapUpdate_in _ rfl _ _ _ 73 rfl 3 126 keyI Try.underlying73 mapE b2 rs.length D2 rfl o2' hmx _ _ _ rfl rfl (key_int f2) (.lit (.int .i64 wc.heap.size)) [] rfl ?_; intro w2 hown2 hturn2)
        go_meet
        case rel =>
          have hb : Below wc.heap.size wc (wc.alloc (.map #[] 0)) := (Below.refl _ _).alloc (Nat.le_refl _) _
          have hne : wc.heap.size ≠ b2 := by omega
          have hsw := HP.out.sz
          obtain ⟨s1, ⟨f2', s2, e2⟩, s3, inj⟩ := HM.out
          obtain ⟨p1, p2, p3⟩ := HLO.out
          have hl1 : b1 < wc.heap.size := by obtain ⟨_, o, _⟩ := s1; exact o.lt
          classical
          have hother : ∀ p, Par (nds rs) p ∨ r.nd.parent = p → p ≠ r.nd.parent → Par (nds rs) p := fun p hp hne => hp.elim (fun h => h) (fun e => absurd e.symm hne)
          have hlC : ∀ p, Par (nds rs) p → C p < wc.heap.size := fun p hp => by obtain ⟨_, _, _, _, o, _⟩ := s3 p hp; exact o.lt
          refine ⟨rfl, ⟨(HP.out.below hb hBw).turned hturn2 p2 hBw, fun p => if p = r.nd.parent then wc.heap.size else C p, ?_⟩⟩
          refine ⟨(s1.below hb).turned hturn2 p3, ⟨fun p => if p = r.nd.parent then some wc.heap.size else F2 p, Sp.put (fun x y => ki_inj) o2 T2.out (wf_key f2) hown2 (by simp) (fun y hy => by simp [hy]), fun p => ⟨fun hp => ?_, fun hp => ?_⟩⟩, fun p hp => ?_, fun p q hp hq e => ?_⟩
          · by_cases e : p = r.nd.parent
            · simp [e]
            · simp only [if_neg e]
              exact (HE2.out p).1 (hother p hp e)
          · have e : p ≠ r.nd.parent := fun e => hp (.inr e.symm)
            simp only [if_neg e]
            exact (HE2.out p).2 fun h => hp (.inl h)
          · by_cases e : p = r.nd.parent
            · subst e
              simp only [if_pos]
              refine ⟨by omega, by omega, hne, ?_⟩
              refine (Sp.more (Sp.turned (c := b2) (w := wc.alloc (.map #[] 0)) ⟨.map [], World.ownsMap_made wc Try.prog 9 ptrE, fun s => ?_⟩ hturn2 hne) (Nat.zero_le _))
              cases hf : fnm (nds rs) r.nd.parent s with
              | some i => exact absurd (par_fnm hf) HPA.out
              | none => dsimp only; rw [hf]; rfl
            · simp only [if_neg e]
              obtain ⟨q1, q2, q3, q4⟩ := s3 p (hother p hp e)
              exact ⟨q1, q2, q3, (q4.below hb).turned hturn2 q3⟩
          · by_cases e1 : p = r.nd.parent <;> by_cases e2' : q = r.nd.parent
            · rw [e1, e2']
            · simp only [if_pos e1, if_neg e2'] at e
              have := hlC q (hother q hq e2')
              omega
            · simp only [if_neg e1, if_pos e2'] at e
              have := hlC p (hother p hp e1)
              omega
            · simp only [if_neg e1, if_neg e2'] at e
              exact inj p q (hother p hp e1) (hother q hq e2') e
    case rest =>
      obtain ⟨rfl, hc⟩ := hcut
      clear b0 n0 hk2 o2 T2 HE2 HM HP U2
      have HP := Shut.mk hc.out.1
      obtain ⟨C', hM⟩ := hc.out.2
      have HM := Shut.mk hM
      clear hc hM
      have b0 := (HP.out.bx.2 1 _ rfl).1
      have n0 := (HP.out.nd.2 1 _ rfl).1
      have n1 := (HP.out.nd.2 2 _ rfl).1
      obtain ⟨F2, ⟨D2, o2, t2⟩, E2⟩ := HM.out.s2
      have hk2 := look_map keyI Try.underlying73 zeroLm o2 (key_int f2) (t2 r.nd.parent) 0
      rw [World.drewN_zero, (E2 r.nd.parent).1 (.inr rfl)] at hk2
      unfold mapV at hk2
      obtain ⟨q1, q2, q3, D3, o3, t3⟩ := HM.out.s3 r.nd.parent (.inr rfl)
      have hk3 := look_ptr keyS Try.underlying126 zeroLp o3 (key_str f3) (t3 r.nd.name) 0
      rw [World.drewN_zero] at hk3
      dsimp only at hk2 hk3
      have T3 := Shut.mk t3
      have HC := Shut.mk (And.intro q1 (And.intro q2 q3))
      clear t2 t3 E2 o2 q1 q2 q3
      obtain ⟨c, hce⟩ : ∃ c, c = C' r.nd.parent := ⟨_, rfl⟩
      rw [← hce] at hk2 hk3 o3
      have HCE := Shut.mk hce
      obtain ⟨u3, hu3⟩ : ∃ u3, u3 = (fnm (nds rs) r.nd.parent r.nd.name).map G := ⟨_, rfl⟩
      rw [← hu3] at hk3
      have U3 := Shut.mk hu3
      clear hu3 hce
      have HFIN : Shut (∀ w', Kept w w' → Below B w w' → Ms w' B b1 b2 (rs.length + 1) (rs.length + 1) (rs.length + 1) (fun id => match fid (nds rs) id with | some i => some (G i) | none => if r.nd.id = id then some g else none) C' (fun p => Par (nds rs) p ∨ r.nd.parent = p) (fun p s => match fnm (nds rs) p s with | some i => some (G i) | none => if r.nd.parent = p ∧ r.nd.name = s then some g else none) → ∃ C', Lk w' B b1 b2 (rs ++ [r]) (Gn G rs.length g) C' fun _ => none) := ⟨fun w' hk hb hm => by
        obtain ⟨s1, ⟨f2', ⟨D, o, t⟩, e2⟩, s3, inj⟩ := hm
        exact ⟨C', HL.out.snoc hk (hk _ _ HN.out) HG.out hB s1 ⟨D, o, fun p => ⟨fun hp => by rw [← (e2 p).1 hp]; exact t p, fun hp => by rw [← (e2 p).2 hp]; exact t p⟩⟩ s3 inj⟩⟩
      cases u3 with
      | some x =>
        clear o3 T3 D3
        go_wp2_with fail
        refine bodyPost_end (v := .tuple #[]) (by simp [results, Try.results66, go_sem]) rfl ?_
        refine ⟨rfl, HFIN.out _ HP.out.kp HP.out.bl ?_, HP.out.kp, HP.out.bl⟩
        obtain ⟨s1, s2, s3, inj⟩ := HM.out
        refine ⟨s1, s2, fun p hp => ⟨(s3 p hp).1, (s3 p hp).2.1, (s3 p hp).2.2.1, (Sp.more (s3 p hp).2.2.2 (Nat.le_succ _)).eq fun s => ?_⟩, inj⟩
        cases hf : fnm (nds rs) p s with
        | some i => rfl
        | none =>
          by_cases e : r.nd.parent = p ∧ r.nd.name = s
          · have := U3.out
            rw [e.1, e.2, hf] at this
            cases this
          · simp [e]
      | none =>
        have hmx : rs.length < maxLen := by unfold maxLen; omega
        go_wp2_with (at_mapUpdate; refine wpList_mapUpdate_in _ rfl _ _ _ 126 rfl 9 49 keyS Try.underlying126 ptrE c rs.length D3 rfl o3 hmx _ _ _ rfl rfl (key_str f3) (.lit (.int .i64 g)) [] rfl ?_; intro w2 hown2 hturn2)
        refine bodyPost_end (v := .tuple #[]) (by simp [results, Try.results66, go_sem]) rfl ?_
        have hcB : B ≤ c := by rw [HCE.out]; exact HC.out.1
        have hP := HP.out.turned hturn2 hcB hBw
        refine ⟨rfl, HFIN.out _ hP.kp hP.bl ?_, hP.kp, hP.bl⟩
        obtain ⟨s1, ⟨f2', s2, e2⟩, s3, inj⟩ := HM.out
        refine ⟨s1.turned hturn2 (by rw [HCE.out]; exact fun e => HC.out.2.1 e.symm), ⟨f2', s2.turned hturn2 (by rw [HCE.out]; exact fun e => HC.out.2.2 e.symm), e2⟩, fun p hp => ?_, inj⟩
        obtain ⟨q1, q2, q3, q4⟩ := s3 p hp
        refine ⟨q1, q2, q3, ?_⟩
        by_cases e : p = r.nd.parent
        · subst e
          rw [← HCE.out]
          refine Sp.put (fun x y => ks_inj) o3 T3.out (str_key f3) hown2 ?_ (fun y hy => ?_)
          · have := U3.out
            cases hf : fnm (nds rs) r.nd.parent r.nd.name with
            | some i => rw [hf] at this; cases this
            | none => simp
          · cases hf : fnm (nds rs) r.nd.parent y with
            | some i => rfl
            | none => simp; exact fun e => hy e.symm
        · refine ((q4.turned hturn2 fun e' => e ?_).more (Nat.le_succ _)).eq fun s => ?_
          · exact inj p r.nd.parent hp (.inr rfl) (e'.trans HCE.out)
          · cases hf : fnm (nds rs) p s with
            | some i => rfl
            | none => simp; exact fun e' => absurd e'.symm e
end Go.Proofs.Ythfmjjaollekiaa
/- TreB: Trees that came in: how much there is in one. -/
namespace Go.Proofs.Ythfmjjaollekiaa
open Go.RowKit
attribute [local go_sem ↓] Go.wp_at_zero Go.wp_at_succ

/-- What a measure answers. -/
def SzT (left : Int) (n : Nat) (w : World) (e : Ending) (w' : World) : Prop := ∃ r : Int, e = .returned (.int .i64 r) ∧ -1 ≤ r ∧ (0 ≤ r → r + n = left) ∧ Below w.heap.size w w'
/-- Numbers of nodes are numbers of the machine. -/
def NInt (ns : List NM) : Prop := ∀ n ∈ ns, (Lit.int .i64 n.id).wf = true ∧ (Lit.int .i64 n.parent).wf = true
/-- Nodes whose texts and rows a machine can count. -/
def NOk (ns : List NM) : Prop := ns.length ≤ 9223372036854775807 ∧ ∀ n ∈ ns, n.name.size ≤ 9223372036854775807 ∧ n.pieces.length ≤ 9223372036854775807
theorem szPieceS_any (a : Option Addr) (n cap : Nat) (left : Int) (w : World) (h0 : 0 ≤ left) (h1 : left ≤ 1048576) (hn : n ≤ 9223372036854775807) :
    Calls Try.prog 69 #[.slice a n cap, .int .i64 left] w fun e w' => SzT left n w e w' := by
  by_cases c1 : left - n < 0
  · go_enter Try.func69, Try.ntmps69
    go_wp2_with fail
    go_ret
    exact ⟨-1, rfl, by omega, by omega, Below.refl _ _⟩
  · go_enter Try.func69, Try.ntmps69
    go_wp2_with fail
    go_ret
    exact ⟨left - n, rfl, by omega, by omega, Below.refl _ _⟩
set_option maxHeartbeats 1000000 in
theorem szInode_any (r : NR) (left : Int) (w : World) (h0 : 0 ≤ left) (h1 : left ≤ 1048576) (hn : r.nd.name.size ≤ 9223372036854775807) (hp : r.nd.pieces.length ≤ 9223372036854775807) :
    Calls Try.prog 48 #[nv r, .int .i64 left] w fun e w' => SzT left (r.nd.name.size + r.nd.pieces.length) w e w' := by
  obtain ⟨⟨id, parent, name, dir, schema, quota, len, pieces, writer⟩, loc, cap⟩ := r
  dsimp only [nv] at *
  generalize pieces.length = np at *
  clear pieces
  have HB := Shut.mk (show Below w.heap.size w (w.alloc (.cells #[.int .i64 id, .int .i64 parent, .string name, .bool dir, .int .i64 schema, .int .i64 quota, .int .i64 len, .slice loc np cap, .int .i64 writer] 84)) from (Below.refl _ _).alloc (Nat.le_refl _) _)
  by_cases c1 : left - name.size < 0
  · go_enter Try.func48, Try.ntmps48
    go_wp2_with fail
    go_ret
    exact ⟨-1, rfl, by omega, by omega, HB.out⟩
  · go_enter Try.func48, Try.ntmps48
    go_wp2_with fail
    refine (szPieceS_any loc np cap (left - name.size) _ (by omega) (by omega) hp).mono ?_
    rintro e w2 ⟨r, rfl, hr1, hr2, hb2⟩
    have HB2 := Shut.mk (HB.out.trans (hb2.mono (by simp)))
    have HR2 := Shut.mk hr2
    clear hb2 hr2
    by_cases hr : r < 0
    · go_wp2_with fail
      go_ret
      exact ⟨-1, rfl, by omega, by omega, HB2.out⟩
    · have hr3 := HR2.out (by omega)
      go_wp2_with fail
      go_ret
      exact ⟨r, rfl, by omega, fun _ => by push_cast; omega, HB2.out⟩
set_option maxHeartbeats 1000000 in
theorem szInodeS_any (a : Option Addr) (rs : List NR) (cap : Nat) (left : Int) (w : World) (lo hi : Nat) (hm : TR w a rs lo hi) (hf : NOk (nds rs)) (h0 : 0 ≤ left) (h1 : left ≤ 1048576) :
    Calls Try.prog 31 #[.slice a rs.length cap, .int .i64 left] w fun e w' => SzT left (rs.length + nsum (nds rs)) w e w' := by
  have hl : rs.length ≤ 9223372036854775807 := by have := hf.1; rwa [nds_len] at this
  by_cases c1 : left - rs.length < 0
  · clear hm hf
    go_enter Try.func31, Try.ntmps31
    go_wp2_with fail
    go_ret
    exact ⟨-1, rfl, by omega, by omega, Below.refl _ _⟩
  · have HR := Shut.mk hm
    have HF := Shut.mk hf
    clear hm hf
    go_enter Try.func31, Try.ntmps31
    go_wp2_with fail
    go_loopw [1, 5] (fun v i wr => ∃ (k : Nat) (l : Int), v = .int .i64 l ∧ i = .int .i64 k ∧ k ≤ rs.length ∧ 0 ≤ l ∧ l ≤ 1048576 ∧ Shut (l + rs.length + nsum ((nds rs).take k) = left) ∧ Shut (Below w.heap.size w wr)) (fun _ i _ => rs.length - (intOf i).toNat)
    case atStart => exact ⟨0, left - rs.length, rfl, rfl, Nat.zero_le _, by omega, by omega, ⟨by simp [nsum]⟩, ⟨Below.refl _ _⟩⟩
    case round =>
      obtain ⟨k, l, rfl, rfl, hk, hl0, hl1, hsum, hb⟩ := hrel
      by_cases hlt : k < rs.length
      · obtain ⟨b, off, rfl, hbl, hc⟩ := TR.nat (HR.out.below hb.out) (by omega)
        obtain ⟨d0, d1, d2, d3, d4, d5, d6, d7, d8⟩ := hc k hlt
        have hst := nsum_take (nds rs) k (by rw [nds_len]; exact hlt)
        have hget : (nds rs)[k]'(by rw [nds_len]; exact hlt) = rs[k].nd := by simp [nds]
        rw [hget] at hst
        have HST := Shut.mk hst
        have hfk := HF.out.2 rs[k].nd (List.mem_map.2 ⟨rs[k], List.getElem_mem hlt, rfl⟩)
        generalize rs[k] = r at *
        have k0 : (0 : Int) ≤ (k : Int) := by omega
        have k1 : (k : Int) < (rs.length : Int) := by omega
        clear hc hst hget
        go_wp2_with fail
        refine (szInode_any r l _ hl0 hl1 hfk.1 hfk.2).mono ?_
        rintro e w2 ⟨q, rfl, hr1, hr2, hb2⟩
        have HB2 := Shut.mk (hb.out.trans (hb2.mono hb.out.size))
        have HR2 := Shut.mk hr2
        clear hb2 hr2
        by_cases hr : q < 0
        · go_wp2_with fail
          go_ret
          exact ⟨-1, rfl, by omega, by omega, HB2.out⟩
        · have hr3 := HR2.out (by omega)
          have HR3 := Shut.mk hr3
          have hq : q ≤ 1048576 := by omega
          clear hr3 HR2
          go_wp2_with fail
          go_roundw
          case rel => exact ⟨k + 1, q, rfl, by go_num, by omega, by omega, hq, ⟨by rw [HST.out]; have := HR3.out; have := hsum.out; push_cast at *; omega⟩, HB2⟩
          case measure => simp [intOf]; omega
      · have hk' : ¬ (k : Int) < (rs.length : Int) := by omega
        have HS : Shut (l + rs.length + nsum (nds rs) = left) := ⟨by have := hsum.out; rwa [List.take_of_length_le (by rw [nds_len]; omega)] at this⟩
        clear hsum
        go_wp2_with fail
        go_ret
        exact ⟨l, rfl, by omega, fun _ => by have := HS.out; push_cast; omega, hb.out⟩
/-- What the laws know of the tree that came in when it is not too great. -/
theorem szTree_val {w : World} {v : Value} {T : TM} {lo hi : Nat} (left : Int) (h : TSee w v T lo hi) (hf : NOk T.nodes) (h0 : 0 ≤ left) (h1 : left ≤ 1048576) :
    Calls Try.prog 12 #[v, .int .i64 left] w fun e w' => SzT left (T.nodes.length + nsum T.nodes) w e w' := by
  obtain ⟨a, cap, rs, rfl, hr, hm⟩ := h
  have hl : T.nodes.length = rs.length := by rw [← hr, nds_len]
  rw [hl, ← hr]
  rw [← hr] at hf
  have HB := Shut.mk (show Below w.heap.size w (w.alloc (.cells #[.slice a rs.length cap, .int .i64 T.next] 37)) from (Below.refl _ _).alloc (Nat.le_refl _) _)
  have HS := Shut.mk (fun W (hW : Below w.heap.size w W) => szInodeS_any a rs cap left W lo hi (hm.below hW) hf h0 h1)
  generalize rs.length + nsum (nds rs) = N at *
  generalize rs.length = n at *
  clear hm hf hr hl
  go_enter Try.func12, Try.ntmps12
  go_wp2_with fail
  refine (HS.out _ HB.out).mono ?_
  rintro e w2 ⟨r, rfl, hr1, hr2, hb2⟩
  have HB2 := Shut.mk (HB.out.trans (hb2.mono HB.out.size))
  have HR2 := Shut.mk hr2
  clear hb2 hr2
  by_cases hr : r < 0
  · go_wp2_with fail
    go_ret
    exact ⟨-1, rfl, by omega, by omega, HB2.out⟩
  · go_wp2_with fail
    go_ret
    exact ⟨r, rfl, hr1, HR2.out, HB2.out⟩
end Go.Proofs.Ythfmjjaollekiaa
/- LkC: The nodes of a tree are linked. -/
namespace Go.Proofs.Ythfmjjaollekiaa
open Go.RowKit Go.Maps
attribute [local go_sem ↓] Go.wp_at_zero Go.wp_at_succ

theorem own_ne {w : World} {P : Program} {k : TypeId} {R : Value → Option (DataW Unit × List MemPlace)} {b n g : Nat} {D : DataW Unit} {L : List Value} (h : w.ownsMap P k R b n D) (hc : WCells w g L) (hL : 0 < L.length) : b ≠ g := by
  rintro rfl
  obtain ⟨es, clock, hb, _⟩ := h
  have := (hc.2 0 _ (List.getElem?_eq_getElem hL)).1
  simp [World.cell?, hb] at this
theorem wc_grown9 {w w' : World} {g r : Nat} {L : List Value} (h : WCells w g L) (hg : w.grownBy w' (some r)) (hr : g ≠ r) : WCells w' g L := by
  have hk := hg.block g h.1 (by simpa using hr)
  refine ⟨Nat.lt_of_lt_of_le h.1 hg.size, fun i v hv => ?_⟩
  have h1 := h.2 i v hv
  simp only [World.cell?, World.frozen?, hk] at h1 ⊢
  exact h1
theorem Lk.grown {w w' : World} {B b1 b2 r : Nat} {rs : List NR} {G : Nat → Nat} {C : Int → Nat} {A : Nat → Option Nat} (h : Lk w B b1 b2 rs G C A) (hg : w.grownBy w' (some r)) (h1 : b1 ≠ r) (h2 : b2 ≠ r) (h3 : ∀ p, Par (nds rs) p → C p ≠ r) (h4 : ∀ i, i < rs.length → G i ≠ r) : Lk w' B b1 b2 rs G C A := by
  obtain ⟨⟨D1, o1, t1⟩, ⟨D2, o2, t2⟩, m3, inj, cells, one, lo⟩ := h
  refine ⟨⟨D1, o1.kept hg (by simpa using h1), t1⟩, ⟨D2, o2.kept hg (by simpa using h2), t2⟩, fun p hp => ?_, inj, fun i hi => ⟨wc_grown9 (cells i hi).1 hg (h4 i hi), (cells i hi).2⟩, one, lo⟩
  obtain ⟨q1, q2, q3, D, o3, t3⟩ := m3 p hp
  exact ⟨q1, q2, q3, D, o3.kept hg (by simpa using h3 p hp), t3⟩
theorem ptrV_is (o : Option Nat) : ∃ a, ptrV o = .pointer a := by
  cases o with
  | none => exact ⟨none, rfl⟩
  | some g => exact ⟨some ⟨g, 0, none⟩, rfl⟩
theorem grown_setCell (W : World) (p : Addr) (v : Value) : W.grownBy (W.setCell p v) (some p.block) :=
  ⟨rfl, rfl, rfl, by simp [World.setCell], fun k _ hk => Below.heap_setCell _ _ _ k (fun e => hk (by rw [e]))⟩
theorem lcells_len (r : NR) (p : Value) : (lcells r p).length = 10 := rfl
theorem lcells_set (r : NR) (p q : Value) : (lcells r p).set 9 q = lcells r q := rfl
/-- A node is told the one above it. -/
theorem Lk.tell {w : World} {B b1 b2 : Nat} {rs : List NR} {G : Nat → Nat} {C : Int → Nat} {A A' : Nat → Option Nat} {i : Nat} (h : Lk w B b1 b2 rs G C A) (hi : i < rs.length) (hA : ∀ j, j < rs.length → j ≠ i → A' j = A j) : Lk (w.setCell ⟨G i, 9, none⟩ (ptrV ((A' i).map G))) B b1 b2 rs G C A' := by
  obtain ⟨⟨D1, o1, t1⟩, ⟨D2, o2, t2⟩, m3, inj, cells, one, lo⟩ := h
  have hc := (cells i hi).1
  refine ⟨⟨D1, o1.setCell (a := ⟨G i, 9, none⟩) (own_ne o1 hc (by simp [lcells])) _, t1⟩, ⟨D2, o2.setCell (a := ⟨G i, 9, none⟩) (own_ne o2 hc (by simp [lcells])) _, t2⟩, fun p hp => ?_, inj, fun j hj => ?_, one, lo⟩
  · obtain ⟨q1, q2, q3, D, o3, t3⟩ := m3 p hp
    exact ⟨q1, q2, q3, D, o3.setCell (a := ⟨G i, 9, none⟩) (own_ne o3 hc (by simp [lcells])) _, t3⟩
  · by_cases e : j = i
    · subst e
      have := hc.set 9 (ptrV ((A' j).map G)) (by simp [lcells])
      rw [lcells_set] at this
      exact ⟨this, (cells j hj).2⟩
    · rw [hA j hj e]
      exact ⟨(cells j hj).1.other _ _ (fun q => e (one j i hj hi q)), (cells j hj).2⟩
theorem Lk.same {w : World} {B b1 b2 : Nat} {rs : List NR} {G : Nat → Nat} {C : Int → Nat} {A A' : Nat → Option Nat} (h : Lk w B b1 b2 rs G C A) (hA : ∀ j, j < rs.length → A' j = A j) : Lk w B b1 b2 rs G C A' := by
  obtain ⟨m1, m2, m3, inj, cells, one, lo⟩ := h
  exact ⟨m1, m2, m3, inj, fun j hj => by rw [hA j hj]; exact cells j hj, one, lo⟩
theorem Lk.side {w : World} {B b1 b2 : Nat} {rs : List NR} {G : Nat → Nat} {C : Int → Nat} {A : Nat → Option Nat} (h : Lk w B b1 b2 rs G C A) (p : Addr) (v : Value) {L : List Value} (hp : WCells w p.block L) (hL : 0 < L.length) (hne : ∀ i, i < rs.length → G i ≠ p.block) : Lk (w.setCell p v) B b1 b2 rs G C A := by
  obtain ⟨⟨D1, o1, t1⟩, ⟨D2, o2, t2⟩, m3, inj, cells, one, lo⟩ := h
  refine ⟨⟨D1, o1.setCell (own_ne o1 hp hL) _, t1⟩, ⟨D2, o2.setCell (own_ne o2 hp hL) _, t2⟩, fun q hq => ?_, inj, fun j hj => ⟨(cells j hj).1.other _ _ (hne j hj), (cells j hj).2⟩, one, lo⟩
  obtain ⟨q1, q2, q3, D, o3, t3⟩ := m3 q hq
  exact ⟨q1, q2, q3, D, o3.setCell (own_ne o3 hp hL) _, t3⟩
/-- Who is above a node: of the first one of an Id. -/
def Ab (ns : List NM) (left : Lit → Bool) (i : Nat) : Option Nat := if fid ns (ns.getD i default).id = some i ∧ left (ki (ns.getD i default).id) = false then fid ns (ns.getD i default).parent else none
theorem same_ki (a b : Int) : (ki a).sameKey (ki b) = decide (a = b) := by
  by_cases e : a = b
  · subst e; simp [Lit.sameKey]
  · rw [Maps.sameKey_ne (fun q => e (ki_inj q))]; simp [e]
theorem ab_step {ns : List NM} {left : Lit → Bool} {x : Int} {i : Nat} (hi : fid ns x = some i) : (∀ j, j < ns.length → j ≠ i → Ab ns (fun z => left z && !z.sameKey (ki x)) j = Ab ns left j) ∧ Ab ns (fun z => left z && !z.sameKey (ki x)) i = fid ns (ns.getD i default).parent := by
  obtain ⟨hil, ei⟩ := fid_lt hi
  constructor
  · intro j hj hne
    unfold Ab
    by_cases hf : fid ns (ns.getD j default).id = some j
    · have : ¬ (ns.getD j default).id = x := fun e => by
        rw [e, hi] at hf
        cases hf
        exact hne rfl
      simp only [same_ki, this, decide_false, Bool.not_false, Bool.and_true]
    · simp only [hf, false_and, if_false]
  · unfold Ab
    rw [getD_in hil, ei, if_pos ⟨hi, by simp [same_ki]⟩]
end Go.Proofs.Ythfmjjaollekiaa
/- LkD: The nodes of a tree are linked: the walk. -/
namespace Go.Proofs.Ythfmjjaollekiaa
open Go.RowKit Go.Maps
attribute [local go_sem ↓] Go.wp_at_zero Go.wp_at_succ

/-- What lies in memory while nodes are linked. -/
structure Lw (w W : World) (rs : List NR) (G : Nat → Nat) (C : Int → Nat) (A : Nat → Option Nat) : Prop where
  lk : Lk W w.heap.size (w.heap.size + 1) (w.heap.size + 1 + 1) rs G C A
  bx : WCells W w.heap.size [.map none, .map none]
  vr : WCells W (w.heap.size + 1 + 1 + 1) [.map (some (w.heap.size + 1)), .map (some (w.heap.size + 1 + 1))]
  bl : Below w.heap.size w W
set_option maxHeartbeats 2000000 in
set_option maxRecDepth 100000 in
theorem linkNodes_any {w : World} {a : Option Addr} {rs : List NR} {cap lo hi : Nat} (hm : TR w a rs lo hi) (hl : rs.length ≤ 1048576) (hI : NInt (nds rs)) (hS : ∀ n ∈ nds rs, n.name.size ≤ maxLen) :
    Calls Try.prog 43 #[.slice a rs.length cap] w fun e w' => ∃ b1 b2 G C, e = .returned (.agg #[.map (some b1), .map (some b2)]) ∧ Lk w' w.heap.size b1 b2 rs G C (Ab (nds rs) fun _ => false) ∧ Below w.heap.size w w' := by
  have HM := Shut.mk hm
  have HI := Shut.mk hI
  have HS := Shut.mk hS
  have hmm := @run_makeMap Try.prog
  clear hm hI hS
  go_enter Try.func43, Try.ntmps43
  go_upto_region 2 with fail
  refine wp_shade (fun W => Lw w W [] (fun _ => 0) (fun _ => 0) fun _ => none) ?_ ?_
  · have m1 := World.ownsMap_made (w.alloc (.cells #[.map none, .map none] 75)) Try.prog 3 ptrE
    have m2 := World.ownsMap_made ((w.alloc (.cells #[.map none, .map none] 75)).alloc (.map #[] 0)) Try.prog 3 mapE
    have z1 : ∀ o : Obj, (w.alloc o).heap.size = w.heap.size + 1 := fun o => by simp
    have z2 : ∀ o o' : Obj, ((w.alloc o).alloc o').heap.size = w.heap.size + 1 + 1 := fun o o' => by simp
    rw [z1] at m1
    rw [z2] at m2
    refine ⟨Lk.start ((m1.alloc _).alloc _) (m2.alloc _) ⟨by omega, by omega, by omega⟩, (((wcells_new w #[.map none, .map none] 75).alloc _).alloc _).alloc _, ?_, ((((Below.refl _ _).alloc (Nat.le_refl _) _).alloc (by simp) _).alloc (by simp; omega) _).alloc (by simp; omega) _⟩
    have := wcells_new (((w.alloc (.cells #[.map none, .map none] 75)).alloc (.map #[] 0)).alloc (.map #[] 0)) #[.map (some (w.heap.size + 1)), .map (some (w.heap.size + 1 + 1))] 75
    simpa using this
  intro W hW
  have HW := Shut.mk hW
  clear hW
  go_wp2_with fail
  go_loopw [13] (fun i wr => ∃ (k : Nat) (G : Nat → Nat) (C : Int → Nat), i = .int .i64 k ∧ k ≤ rs.length ∧ Shut (Lw w wr (rs.take k) G C fun _ => none)) (fun i _ => rs.length - (intOf i).toNat)
  case atStart => exact ⟨0, _, _, rfl, Nat.zero_le _, by simpa using HW⟩
  case round =>
    clear HW
    obtain ⟨k, G, C, rfl, hk, hW⟩ := hrel
    have v0 := (hW.out.vr.2 0 _ rfl).1
    have v1 := (hW.out.vr.2 1 _ rfl).1
    have lv := hW.out.vr.1
    by_cases hlt : k < rs.length
    · obtain ⟨b, off, rfl, lb, hc⟩ := TR.nat HM.out (by omega)
      have hn := (hc k hlt).below hW.out.bl lb
      obtain ⟨r, hr⟩ : ∃ r, r = rs[k] := ⟨_, rfl⟩
      rw [← hr] at hn
      have hstep : rs.take (k + 1) = rs.take k ++ [r] := by rw [hr]; exact List.take_succ_eq_append_getElem hlt
      have hmem : r.nd ∈ nds rs := by rw [hr]; exact List.mem_map.2 ⟨_, List.getElem_mem hlt, rfl⟩
      have f1 := (HI.out _ hmem).1
      have f2 := (HI.out _ hmem).2
      have f3 := HS.out _ hmem
      have hlk : (rs.take k).length = k := by simp; omega
      have HCALL : Shut (∀ W, W = (wr.alloc (.cells #[.int .i64 r.nd.id, .int .i64 r.nd.parent, .string r.nd.name, .bool r.nd.dir, .int .i64 r.nd.schema, .int .i64 r.nd.quota, .int .i64 r.nd.len, .slice r.loc r.nd.pieces.length r.cap, .int .i64 r.nd.writer] 30)).alloc (.cells #[.int .i64 r.nd.id, .int .i64 r.nd.parent, .string r.nd.name, .bool r.nd.dir, .int .i64 r.nd.schema, .int .i64 r.nd.quota, .int .i64 r.nd.len, .slice r.loc r.nd.pieces.length r.cap, .int .i64 r.nd.writer, .pointer none] 52) →
          Calls Try.prog 66 #[.agg #[.map (some (w.heap.size + 1)), .map (some (w.heap.size + 1 + 1))], .pointer (some ⟨wr.heap.size + 1, 0, none⟩)] W fun e w' => e = .returned (.tuple #[]) ∧ ∃ G' C', Shut (Lw w w' (rs.take (k + 1)) G' C' fun _ => none)) := ⟨fun W hWe => by
        have hb1 : Below wr.heap.size wr W := by rw [hWe]; exact ((Below.refl _ _).alloc (Nat.le_refl _) _).alloc (by simp) _
        have hnew : WCells W (wr.heap.size + 1) (lcells r (.pointer none)) := by
          have := wcells_new (wr.alloc (.cells #[.int .i64 r.nd.id, .int .i64 r.nd.parent, .string r.nd.name, .bool r.nd.dir, .int .i64 r.nd.schema, .int .i64 r.nd.quota, .int .i64 r.nd.len, .slice r.loc r.nd.pieces.length r.cap, .int .i64 r.nd.writer] 30)) #[.int .i64 r.nd.id, .int .i64 r.nd.parent, .string r.nd.name, .bool r.nd.dir, .int .i64 r.nd.schema, .int .i64 r.nd.quota, .int .i64 r.nd.len, .slice r.loc r.nd.pieces.length r.cap, .int .i64 r.nd.writer, .pointer none] 52
          rw [← hWe] at this
          simpa [lcells] using this
        have hbs := hW.out.bl.size
        refine (add_any (hW.out.lk.below hb1) hnew (fun i hi => by have := hW.out.lk.lt.2.2.1 i hi; omega) (by omega) (by have := hb1.size; omega) (by rw [hlk]; omega) f1 f2 f3).mono ?_
        rintro e w' ⟨rfl, ⟨C', hL⟩, hK, hB⟩
        exact ⟨rfl, _, C', ⟨by rw [hstep]; exact hL, hK _ _ (hW.out.bx.grow hb1), hK _ _ (hW.out.vr.grow hb1), hW.out.bl.trans ((hb1.mono hbs).trans hB)⟩⟩⟩
      obtain ⟨c0, c1, c2, c3, c4, c5, c6, c7, c8⟩ := hn
      have lb' : b < wr.heap.size := Nat.lt_of_lt_of_le lb hW.out.bl.size
      have k0 : (0 : Int) ≤ (k : Int) := by omega
      have k1 : (k : Int) < (rs.length : Int) := by omega
      clear hc hr hstep hmem f1 f2 f3 hlk hmm
      go_wp2_with fail
      refine (HCALL.out _ rfl).mono ?_
      rintro e w2 ⟨rfl, G', C', hW'⟩
      go_wp2_with fail
      go_roundw
      case rel => exact ⟨k + 1, G', C', by go_num, by omega, hW'⟩
      case measure => simp [intOf]; omega
    · have hkn : ¬ (k : Int) < (rs.length : Int) := by omega
      obtain rfl : k = rs.length := by omega
      rw [List.take_length] at hW
      obtain ⟨wo, rfl⟩ : ∃ wo, wo = wr := ⟨_, rfl⟩
      obtain ⟨D, o1, t1⟩ := hW.out.lk.m1
      have T1 := Shut.mk t1
      obtain ⟨l1, l2, l3, l4⟩ := hW.out.lk.lt
      have L3 := Shut.mk l3
      have L4 := Shut.mk l4
      clear t1 l3 l4 hmm hlt hk
      go_wp2_with (first
        | (at_range; refine wpList_range_own _ rfl _ 72 rfl 3 49 keyI Try.underlying72 ptrE (w.heap.size + 1) rs.length D rfl o1 ?_; intro w0 hrg0 hg0 hs0))
      have hbr : Below wo.heap.size wo w0 := (Below.refl _ _).grown hg0 (Nat.le_refl _) (fun j hj => by cases hj)
      have HW0 : Shut (Lw w w0 rs G C fun _ => none) := ⟨hW.out.lk.below hbr, hW.out.bx.grow hbr, hW.out.vr.grow hbr, hW.out.bl.trans (hbr.mono hW.out.bl.size)⟩
      have hlv : w.heap.size < wo.heap.size := by omega
      go_loopw [7] (fun _ wx => ∃ (left : Lit → Bool) (cnt : Nat), wx.ranges Try.prog 3 ptrE (w.heap.size + 1) wo.heap.size rs.length D left cnt ∧ Shut (Lw w wx rs G C (Ab (nds rs) left))) (fun _ wx => wx.rangeLeft (w.heap.size + 1) wo.heap.size)
      case atStart =>
        refine ⟨_, _, hrg0, ⟨HW0.out.lk.same fun j hj => ?_, HW0.out.bx, HW0.out.vr, HW0.out.bl⟩⟩
        unfold Ab
        by_cases hf : fid (nds rs) ((nds rs).getD j default).id = some j
        · have := (T1.out ((nds rs).getD j default).id).has
          rw [hf] at this
          rw [if_neg (fun hc => by rw [hc.2] at this; cases this)]
        · rw [if_neg (fun hc => hf hc.1)]
      case round =>
        clear hrg0 HW0 hbr hg0 hs0 hW o1
        obtain ⟨left, cnt, hrg, hW⟩ := hrel
        go_wp2_with (first
          | (at_next; refine wpList_next_ranges _ rfl _ rfl 3 keyI ptrE (Value.int .i64) ptrV (fun key kl hk => by obtain ⟨x, hx, _⟩ := Maps.keyOf_int_inv Try.underlying3 hk; exact ⟨x, hx⟩) (fun v y hv => ptrE_form hv) (w.heap.size + 1) wo.heap.size rs.length _ _ _ rfl hrg ?_ ?_))
        · intro hc0 hl0
          have HA : Ab (nds rs) left = Ab (nds rs) fun _ => false := by
            have : left = fun _ => false := funext hl0
            rw [this]
          rw [HA] at hW
          have v0' := (hW.out.vr.2 0 _ rfl).1
          have v1' := (hW.out.vr.2 1 _ rfl).1
          have y0 := hW.out.bx.2 0 _ rfl
          have y1 := hW.out.bx.2 1 _ rfl
          obtain ⟨y0, z0⟩ := y0
          obtain ⟨y1, z1⟩ := y1
          have lw := hW.out.bx.1
          clear hrg hl0 HA
          go_wp2_with fail
          refine bodyPost_ret (v := .agg #[.map (some (w.heap.size + 1)), .map (some (w.heap.size + 1 + 1))]) (by simp [results, Try.results43, go_sem, y0, y1]) rfl ?_
          refine ⟨_, _, G, C, rfl, ?_, (hW.out.bl.setCell (Nat.le_refl _) _).setCell (Nat.le_refl _) _⟩
          have hne : ∀ i, i < rs.length → G i ≠ w.heap.size := fun i hi e => by
            have h2 := ((hW.out.lk.cells i hi).1.2 0 _ rfl).1
            rw [e, y0] at h2
            cases h2
          refine (hW.out.lk.side ⟨w.heap.size, 0, none⟩ _ hW.out.bx (by simp) hne).side ⟨w.heap.size, 1, none⟩ _ (hW.out.bx.set 0 _ (by simp)) (by simp) hne
        · intro x c kl d ps w1 cnt1 hkey hlk hv hat hrg1 hlt hg1 hs1 hen
          obtain ⟨x', ex, rfl, hwx⟩ := Maps.keyOf_int_inv Try.underlying3 hkey
          cases ex
          have htx := T1.out x
          cases hf : fid (nds rs) x with
          | none =>
            rw [hf] at htx
            have q1 := Maps.atKey_of_not_has htx .nil
            have q2 := Maps.atKey_of_not_has htx (.lit (.int .i64 0))
            rw [hat] at q1 q2
            rw [q1] at q2
            cases q2
          | some i =>
            rw [hf] at htx
            have q1 := hat .nil
            rw [htx.at] at q1
            have hce : ptrV c = ptrV (some (G i)) := ptrE_some (by rw [hv, ← q1])
            have HF := Shut.mk hf
            obtain ⟨hil, hie⟩ := fid_lt hf
            rw [nds_len] at hil
            have hr1 : Lw w w1 rs G C (Ab (nds rs) left) := by
              refine ⟨hW.out.lk.grown hg1 (by omega) (by omega) (fun p hp => by have := L4.out p hp; omega) (fun j hj => by have := L3.out j hj; omega), wc_grown9 hW.out.bx hg1 (by omega), wc_grown9 hW.out.vr hg1 (by omega), hW.out.bl.grown hg1 (by have := hW.out.bl.size; omega) (fun j hj => by cases hj; omega)⟩
            have HR := Shut.mk hr1
            obtain ⟨cc, _⟩ := hr1.lk.cells i hil
            obtain ⟨r, hr⟩ : ∃ r, r = rs[i] := ⟨_, rfl⟩
            rw [← hr] at cc
            have c1 := (cc.2 1 _ rfl).1
            obtain ⟨c9, z9⟩ := cc.2 9 _ rfl
            have v0' := (hr1.vr.2 0 _ rfl).1
            have hmem : r.nd ∈ nds rs := by rw [hr]; exact List.mem_map.2 ⟨_, List.getElem_mem hil, rfl⟩
            have f2 := (HI.out _ hmem).2
            have hlook := look_ptr keyI Try.underlying72 zeroLp hrg1.owns (key_int f2) (T1.out r.nd.parent)
            obtain ⟨pv, hpv⟩ := ptrV_is ((fid (nds rs) r.nd.parent).map G)
            rw [hpv] at hlook
            have HPV := Shut.mk hpv
            have HRG := Shut.mk hrg1
            have HR9 := Shut.mk hr
            obtain ⟨g, hg⟩ : ∃ g, g = G i := ⟨_, rfl⟩
            have HGI := Shut.mk hg
            rw [← hg] at c1 c9 z9 hce
            rw [hce] at hen ⊢
            unfold ptrV at hen
            have HRG0 := Shut.mk hrg
            have HLT := Shut.mk hlt
            clear hlt hr1 hv hat hkey hlk htx q1 hce hf hie cc hmem f2 hpv hrg1 hr hg hW hrg
            unfold ptrV
            go_wp2_with fail
            have hl1 : (Instr.lookup 72 (.map (some (w.heap.size + 1))) (.int .i64 r.nd.parent) false).run Try.prog w1.drew = .ok (.pointer pv) w1.drew := hlook 1
            clear hlook
            go_region
            all_goals
              go_wp2_with fail
              go_roundw
              case rel =>
                obtain ⟨hA1, hA2⟩ := ab_step (left := left) HF.out
                have hil' : i < (nds rs).length := by rw [nds_len]; exact hil
                have hne1 : w.heap.size + 1 ≠ g := own_ne HRG.out.owns (by rw [HGI.out]; exact (HR.out.lk.cells i hil).1) (by simp [lcells])
                have hne2 : wo.heap.size ≠ g := by have := L3.out i hil; rw [HGI.out]; omega
                have hpe : (fid (nds rs) ((nds rs).getD i default).parent).map G = (fid (nds rs) r.nd.parent).map G := by
                  rw [HR9.out, getD_in hil']
                  simp [nds]
                have hset := HR.out.lk.tell hil (A' := Ab (nds rs) fun z => left z && !z.sameKey (ki x)) (fun j hj hne => hA1 j (by rw [nds_len]; exact hj) hne)
                rw [hA2, hpe, HPV.out, ← HGI.out] at hset
                have hB9 : w.heap.size ≤ g := by rw [HGI.out]; exact (HR.out.lk.cells i hil).2
                have hn0 : w.heap.size ≠ g := fun e => by
                  have h1 := (HR.out.bx.2 0 _ rfl).1
                  have h2 := ((HR.out.lk.cells i hil).1.2 0 _ rfl).1
                  rw [← HGI.out, ← e, h1] at h2
                  cases h2
                have hn3 : w.heap.size + 1 + 1 + 1 ≠ g := fun e => by
                  have h1 := (HR.out.vr.2 0 _ rfl).1
                  have h2 := ((HR.out.lk.cells i hil).1.2 0 _ rfl).1
                  rw [← HGI.out, ← e, h1] at h2
                  cases h2
                have hgr : w1.grownBy (w1.setCell ⟨g, 9, none⟩ (.pointer pv)) (some g) := grown_setCell w1 ⟨g, 9, none⟩ _
                have hbd : Below (w1.setCell ⟨g, 9, none⟩ (.pointer pv)).heap.size (w1.setCell ⟨g, 9, none⟩ (.pointer pv)) (w1.setCell ⟨g, 9, none⟩ (.pointer pv)).drew := Below.drew (Below.refl _ _)
                have hrn := HRG.out.kept hgr (by simpa using hne1) (by simpa using hne2)
                have hrd : (w1.setCell ⟨g, 9, none⟩ (.pointer pv)).drew.ranges Try.prog 3 ptrE (w.heap.size + 1) wo.heap.size rs.length D (fun z => left z && !z.sameKey (ki x)) cnt1 := hrn
                exact ⟨_, _, hrd, hset.below hbd, (HR.out.bx.other ⟨g, 9, none⟩ _ hn0).grow hbd, (HR.out.vr.other ⟨g, 9, none⟩ _ hn3).grow hbd, (HR.out.bl.setCell hB9 _).trans (hbd.mono (by simpa [World.setCell] using HR.out.bl.size))⟩
              case measure =>
                have hne1 : w.heap.size + 1 ≠ g := own_ne HRG.out.owns (by rw [HGI.out]; exact (HR.out.lk.cells i hil).1) (by simp [lcells])
                have hne2 : wo.heap.size ≠ g := by have := L3.out i hil; rw [HGI.out]; omega
                have hgr : w1.grownBy (w1.setCell ⟨g, 9, none⟩ (.pointer pv)) (some g) := grown_setCell w1 ⟨g, 9, none⟩ _
                have hrn := HRG.out.kept hgr (by simpa using hne1) (by simpa using hne2)
                have e1 := hrn.left_eq
                have e2 := HRG0.out.left_eq
                have e3 : (w1.setCell ⟨g, 9, none⟩ (.pointer pv)).drew.rangeLeft (w.heap.size + 1) wo.heap.size = (w1.setCell ⟨g, 9, none⟩ (.pointer pv)).rangeLeft (w.heap.size + 1) wo.heap.size := rfl
                rw [e3, e1, e2]
                exact HLT.out
end Go.Proofs.Ythfmjjaollekiaa
/- PaI: The program's own NameOk: its text is gone through rune by rune. -/
namespace Go.Proofs.Ythfmjjaollekiaa
open Go.RowKit
open Go.PlainAid (bt)
attribute [local go_sem ↓] Go.wp_at_zero Go.wp_at_succ

theorem get_bt9 (s : ByteArray) (j : Nat) (h : j < s.size) : bt s j = ((s.get! j).toNat : Int) := by
  unfold bt
  rw [dif_pos h]
  simp [ByteArray.get!, getElem!_pos, h]
  rfl
/-- A rune that is no byte below 128 goes over bytes from 128 on alone, and not past the end. -/
theorem decode_far (s : ByteArray) (pos : Nat) (h : pos < s.size) (ha : 128 ≤ bt s pos) : pos + (Utf8.decode s pos).2 ≤ s.size ∧ (Utf8.decode s pos).2 ≤ 4 ∧ ∀ d, d < (Utf8.decode s pos).2 → 128 ≤ bt s (pos + d) := by
  have hg := fun d (q : pos + d < s.size) => get_bt9 s (pos + d) q
  have g0 := hg 0 (by omega)
  simp only [Nat.add_zero] at g0
  have g1 := hg 1
  have g2 := hg 2
  have g3 := hg 3
  clear hg
  have hn : ¬ (s.get! (pos + 0)).toNat < 128 := by simp only [Nat.add_zero]; omega
  simp only [Utf8.decode, hn, if_false]
  have hone : pos + 1 ≤ s.size ∧ 1 ≤ 4 ∧ ∀ d, d < 1 → 128 ≤ bt s (pos + d) := ⟨by omega, by omega, fun d hd => by
    have : d = 0 := by omega
    subst this; exact ha⟩
  split
  · rename_i q
    simp only [Bool.and_eq_true, decide_eq_true_eq, beq_iff_eq] at q
    split
    · refine ⟨by simp only; omega, by simp only; omega, fun d hd => ?_⟩
      have h1 := g1 q.2.1
      rcases (show d = 0 ∨ d = 1 from by simp only at hd; omega) with rfl | rfl
      · exact ha
      · rw [h1]; omega
    · exact hone
  · split
    · rename_i q
      simp only [Bool.and_eq_true, decide_eq_true_eq, beq_iff_eq] at q
      split
      · refine ⟨by simp only; omega, by simp only; omega, fun d hd => ?_⟩
        have h1 := g1 q.1.2.1
        have h2 := g2 q.2.1
        rcases (show d = 0 ∨ d = 1 ∨ d = 2 from by simp only at hd; omega) with rfl | rfl | rfl
        · exact ha
        · rw [h1]; omega
        · rw [h2]; omega
      · exact hone
    · split
      · rename_i q
        simp only [Bool.and_eq_true, decide_eq_true_eq, beq_iff_eq] at q
        split
        · refine ⟨by simp only; omega, by simp only; omega, fun d hd => ?_⟩
          have h1 := g1 q.1.1.2.1
          have h2 := g2 q.1.2.1
          have h3 := g3 q.2.1
          rcases (show d = 0 ∨ d = 1 ∨ d = 2 ∨ d = 3 from by simp only at hd; omega) with rfl | rfl | rfl | rfl
          · exact ha
          · rw [h1]; omega
          · rw [h2]; omega
          · rw [h3]; omega
        · exact hone
      · exact hone
theorem rune_low (s : ByteArray) (pos : Nat) (h : pos < s.size) (ha : bt s pos < 128) : ((Utf8.decode s pos).1 : Int) = bt s pos ∧ (Utf8.decode s pos).2 = 1 := by
  have e : bt s pos = ((s[pos]'h).toNat : Int) := by unfold bt; rw [dif_pos h]
  rw [decode_ascii s pos h (by omega), e]
  exact ⟨rfl, rfl⟩
theorem rune_high (s : ByteArray) (pos : Nat) (h : pos < s.size) (ha : 128 ≤ bt s pos) : (128 : Int) ≤ ((Utf8.decode s pos).1 : Int) ∧ 1 ≤ (Utf8.decode s pos).2 := by
  have e : bt s pos = ((s[pos]'h).toNat : Int) := by unfold bt; rw [dif_pos h]
  have := decode_high s pos h (by omega)
  omega
theorem implNameRune (r : Int) (b : Bool) (hb : b = true ↔ nameN r) (w : World) : Calls Try.prog 113 #[.int .i32 r] w fun e w' => e = .returned (.bool b) ∧ w' = w := by
  have HB := Shut.mk hb
  clear hb
  unfold nameN at HB
  by_cases c1 : 97 ≤ r
  · by_cases c2 : r ≤ 122
    · have hb : b = true := HB.out.2 (by omega)
      subst hb
      go_enter Try.func113, Try.ntmps113
      go_wp2_with fail
      go_ret
      exact ⟨rfl, rfl⟩
    · have c3 : 48 ≤ r := by omega
      have c4 : ¬ r ≤ 57 := by omega
      have hb : b = false := by cases b with | false => rfl | true => exact absurd (HB.out.1 rfl) (by omega)
      subst hb
      go_enter Try.func113, Try.ntmps113
      go_wp2_with fail
      go_ret
      exact ⟨rfl, rfl⟩
  · by_cases c3 : 48 ≤ r
    · by_cases c4 : r ≤ 57
      · have hb : b = true := HB.out.2 (by omega)
        subst hb
        go_enter Try.func113, Try.ntmps113
        go_wp2_with fail
        go_ret
        exact ⟨rfl, rfl⟩
      · have hb : b = false := by cases b with | false => rfl | true => exact absurd (HB.out.1 rfl) (by omega)
        subst hb
        go_enter Try.func113, Try.ntmps113
        go_wp2_with fail
        go_ret
        exact ⟨rfl, rfl⟩
    · have hb : b = false := by cases b with | false => rfl | true => exact absurd (HB.out.1 rfl) (by omega)
      subst hb
      go_enter Try.func113, Try.ntmps113
      go_wp2_with fail
      go_ret
      exact ⟨rfl, rfl⟩
theorem iter_below (w : World) (s : ByteArray) (pos : Nat) : Below w.heap.size w (w.iter s pos) := (Below.refl _ _).alloc (Nat.le_refl _) _
set_option maxRecDepth 100000 in
set_option maxHeartbeats 1000000 in
theorem implNameOk (s : ByteArray) (w : World) (hs : s.size ≤ 1048576) : Calls Try.prog 95 #[.string s] w fun e w' => e = .returned (.bool (nameB s)) ∧ Below w.heap.size w w' := by
  obtain ⟨r, hre⟩ : ∃ r, r = nameB s := ⟨_, rfl⟩
  have HRE := Shut.mk hre
  rw [← hre]
  clear hre
  have hnot (q : ¬ (1 ≤ s.size ∧ s.size ≤ 8)) : r = false := by
    rw [HRE.out]
    cases e : nameB s with
    | false => rfl
    | true => exact absurd ((nameB_iff s).1 e).2 q
  by_cases h1 : s.size < 1
  · have hr := hnot (by omega)
    subst hr
    have h1' : (s.size : Int) < 1 := by omega
    go_enter Try.func95, Try.ntmps95
    go_wp2_with fail
    go_ret
    exact ⟨rfl, Below.refl _ _⟩
  have h1' : ¬ (s.size : Int) < 1 := by omega
  by_cases h8 : 8 < s.size
  · have hr := hnot (by omega)
    subst hr
    have h8' : (8 : Int) < (s.size : Int) := by omega
    go_enter Try.func95, Try.ntmps95
    go_wp2_with fail
    go_ret
    exact ⟨rfl, Below.refl _ _⟩
  have h8' : ¬ (8 : Int) < (s.size : Int) := by omega
  clear hnot
  go_enter Try.func95, Try.ntmps95
  go_wp2_with fail
  go_loopw [2] (fun v wr => ∃ (pos : Nat), v = .bool false ∧ wr = w.iter s pos ∧ pos ≤ s.size ∧ Shut (∀ j, j < pos → nameN (bt s j))) (fun _ wr => s.size - wr.iterPos w.heap.size)
  case atStart => exact ⟨0, rfl, rfl, Nat.zero_le _, ⟨fun j hj => by omega⟩⟩
  case round =>
    obtain ⟨pos, rfl, rfl, hp, hall⟩ := hrel
    by_cases hlt : pos < s.size
    · have hnx : ∀ ty, (Instr.next (.pointer (some ⟨w.heap.size, 0, none⟩)) true ty).run Try.prog (w.iter s pos) = _ := fun ty => run_next_any w s pos ty hlt
      have hlow := rune_low s pos hlt
      have hhigh := rune_high s pos hlt
      generalize Utf8.decode s pos = D at *
      obtain ⟨rn, wd⟩ := D
      simp only at hlow hhigh hnx
      by_cases hn : nameN (bt s pos)
      · have hl : bt s pos < 128 := by unfold nameN at hn; omega
        obtain ⟨e1, rfl⟩ := hlow hl
        have HN := Shut.mk (fun W => implNameRune (rn : Int) true (by rw [e1]; exact ⟨fun _ => hn, fun _ => rfl⟩) W)
        have HA : Shut (∀ j, j < pos + 1 → nameN (bt s j)) := ⟨fun j hj => by
          by_cases e : j = pos
          · subst e; exact hn
          · exact hall.out j (by omega)⟩
        clear hn hlow hhigh e1 hl hall
        go_wp2_with fail
        refine (HN.out _).mono ?_
        rintro e w1 ⟨rfl, hw⟩
        subst hw
        go_wp2_with fail
        go_roundw
        case rel => exact ⟨pos + 1, rfl, rfl, by omega, HA⟩
        case measure => simp; omega
      · have hr : r = false := HRE.out.trans (nameB_no hlt hn)
        have HN := Shut.mk (fun W => implNameRune (rn : Int) false (by
          refine ⟨fun q => (Bool.noConfusion q), fun q => ?_⟩
          exfalso
          by_cases hl : bt s pos < 128
          · rw [(hlow hl).1] at q; exact hn q
          · have := (hhigh (by omega)).1
            unfold nameN at q
            omega) W)
        subst hr
        clear hn hlow hhigh hall
        go_wp2_with fail
        refine (HN.out _).mono ?_
        rintro e w1 ⟨rfl, hw⟩
        subst hw
        go_wp2_with fail
        go_ret
        exact ⟨rfl, iter_below _ _ _⟩
    · have hnx : ∀ ty, (Instr.next (.pointer (some ⟨w.heap.size, 0, none⟩)) true ty).run Try.prog (w.iter s pos) = _ := fun ty => run_next_end w s pos ty hlt
      have hr : r = true := HRE.out.trans ((nameB_iff s).2 ⟨fun j hj => hall.out j (by omega), by omega, by omega⟩)
      subst hr
      go_wp2_with fail
      go_ret
      exact ⟨rfl, iter_below _ _ _⟩
end Go.Proofs.Ythfmjjaollekiaa
/- StI: The program's own SchemaOf, GroupSize, PlaceOf, OffsetOf and Spans. -/
namespace Go.Proofs.Ythfmjjaollekiaa
open Go.RowKit
attribute [local go_sem ↓] Go.wp_at_zero Go.wp_at_succ

theorem implSch (s : Int) (w : World) : Calls Try.prog 111 #[.int .i64 s] w fun e w' => SchPost s w e w' := by
  cases h : schOk s with
  | true =>
    obtain rfl | rfl | rfl := sch_cases h
    all_goals
      clear h
      go_enter Try.func111, Try.ntmps111
      go_wp2_with fail
      go_ret3
      exact ⟨rfl, rfl⟩
  | false =>
    obtain ⟨h1, h2, h3⟩ := sch_no h
    obtain ⟨e1, e2⟩ := sch_zero h
    unfold SchPost
    rw [e1, e2, h]
    clear h e1 e2
    go_enter Try.func111, Try.ntmps111
    go_wp2_with fail
    go_ret3
    exact ⟨rfl, rfl⟩
theorem implSize (s : Int) (w : World) : Calls Try.prog 112 #[.int .i64 s] w fun e w' => e = .returned (.int .i64 (groupN s : Nat)) ∧ w' = w := by
  have HS := Shut.mk (fun W => implSch s W)
  unfold SchPost at HS
  have hk : schK s ≤ 4 := by
    cases h : schOk s with
    | true => exact (sch_bounds h).2.1
    | false => rw [(sch_zero h).1]; omega
  have hg : ((groupN s : Nat) : Int) = (schK s : Int) * 4 * 2 := by unfold groupN; push_cast; omega
  generalize schOk s = ok at *
  generalize schM s = m at *
  generalize schK s = k at *
  have HG := Shut.mk hg
  clear hg
  go_enter Try.func112, Try.ntmps112
  go_wp2_with fail
  refine (HS.out _).mono ?_
  rintro e w1 ⟨rfl, rfl⟩
  go_wp2_with fail
  go_ret
  exact ⟨by rw [HG.out]; first | rfl | (simp; done) | (congr 2; omega), rfl⟩
theorem implGroupSize (s : Int) (w : World) : Calls Try.prog 112 #[.int .i64 s] w fun e w' => e = .returned (.int .i64 (groupN s : Nat)) ∧ Below w.heap.size w w' :=
  (implSize s w).mono (fun _ _ h => ⟨h.1, by rw [h.2]; exact Below.refl _ _⟩)
theorem span_one {S n j : Nat} (h1 : j * S < n) (h2 : n ≤ j * S + S) (hS : 0 < S) : spanL S n = List.replicate j (S : Int) ++ [((n - j * S : Nat) : Int)] := by
  unfold spanL
  rw [span_last hS h1 h2]
end Go.Proofs.Ythfmjjaollekiaa
/- SchQ: The program's own test of a schema. -/
namespace Go.Proofs.Ythfmjjaollekiaa
open Go.RowKit BigFrame
attribute [local go_sem ↓] Go.wp_at_zero Go.wp_at_succ

theorem sch_in (s : Int) : schOk s = inI s 1 3 := by
  cases h : schOk s with
  | true =>
    obtain rfl | rfl | rfl := sch_cases h <;> rfl
  | false =>
    obtain ⟨h1, h2, h3⟩ := sch_no h
    symm
    refine Bool.eq_false_iff.2 fun hc => ?_
    have := inI_iff.1 hc
    omega
theorem implSchemaOk (s : Int) (w : World) : Calls Try.prog 92 #[.int .i64 s] w fun e w' => e = .returned (.bool (inI s 1 3)) ∧ w' = w := by
  have HS := Shut.mk (fun W => implSch s W)
  unfold SchPost at HS
  rw [sch_in] at HS
  generalize inI s 1 3 = ok at *
  generalize schM s = m at *
  generalize schK s = k at *
  go_enter Try.func92, Try.ntmps92
  go_wp2_with fail
  refine (HS.out _).mono ?_
  rintro e w1 ⟨rfl, rfl⟩
  go_wp2_with fail
  go_ret
  exact ⟨rfl, rfl⟩
end Go.Proofs.Ythfmjjaollekiaa
/- Draw: The draws of the models: a cursor over the bytes of a code. What is drawn lies within its bounds; nothing but the cursor's own block is turned. -/
namespace Go.Proofs.Ythfmjjaollekiaa
open Go.RowKit
attribute [local go_sem ↓] Go.wp_at_zero Go.wp_at_succ

/-- The code that is drawn from: a slice of bytes that came in, below block B. -/
def CodeAt (w : World) (B : Nat) (a : Option Addr) (len : Nat) : Prop :=
  len ≤ 1048576 ∧ (0 < len → ∃ b off, a = some ⟨b, off, none⟩ ∧ b < B ∧ ∀ j, j < len → ∃ x : Int, w.cell? ⟨b, off + j, none⟩ = some (.int .u8 x) ∧ 0 ≤ x ∧ x ≤ 255)
/-- The cursor in block g. -/
def Cur (w : World) (g B : Nat) (a : Option Addr) (len cap : Nat) : Prop :=
  B ≤ g ∧ g < w.heap.size ∧ CodeAt w B a len ∧ w.cell? ⟨g, 0, none⟩ = some (.slice a len cap) ∧
  (∃ i : Nat, w.cell? ⟨g, 1, none⟩ = some (.int .i64 i) ∧ i ≤ len) ∧ (∃ h : Int, w.cell? ⟨g, 2, none⟩ = some (.int .i64 h)) ∧
  (∀ j, j < 3 → w.frozen? ⟨g, j, none⟩ = false)
def BytePost (w : World) (g B : Nat) (a : Option Addr) (len cap : Nat) (e : Ending) (w' : World) : Prop :=
  ∃ x : Int, e = .returned (.int .i64 x) ∧ 0 ≤ x ∧ x ≤ 255 ∧ Cur w' g B a len cap ∧ w.grownBy w' (some g)

theorem and255 (n : Int) : 0 ≤ bits .and .i64 n 255 ∧ bits .and .i64 n 255 ≤ 255 := by
  have h255 : (BitVec.ofInt 64 255).toNat = 2 ^ 8 - 1 := by decide
  have key : (BitVec.ofInt 64 n &&& BitVec.ofInt 64 255).toNat = (n % ((2 ^ 64 : Nat) : Int)).toNat % 2 ^ 8 := by
    rw [BitVec.toNat_and, BitVec.toNat_ofInt, h255, Nat.and_two_pow_sub_one_eq_mod]
  have e : bits .and .i64 n 255 = n % 256 := by
    show IntKind.i64.wrap ((BitVec.ofInt 64 n &&& BitVec.ofInt 64 255).toNat : Nat) = n % 256
    rw [key, IntKind.wrap_i64]
    omega
  rw [e]; omega
theorem gb_set (w : World) (g i : Nat) (v : Value) : w.grownBy (w.setCell ⟨g, i, none⟩ v) (some g) :=
  ⟨rfl, rfl, rfl, by simp [World.setCell], fun k _ hk => Below.heap_setCell _ _ _ _ (fun e => hk (by rw [e]))⟩
theorem gb_drewN (w : World) (q : Nat) (row : Option Nat) : w.grownBy (w.drewN q) row := ⟨rfl, rfl, rfl, Nat.le_refl _, fun _ _ _ => rfl⟩
theorem gb_two {a b c : World} {row : Option Nat} (h : a.grownBy b row) (k : b.grownBy c row) : a.grownBy c row :=
  ⟨k.os.trans h.os, k.tape.trans h.tape, k.output.trans h.output, Nat.le_trans h.size k.size, fun i hi hn => (k.block i (Nat.lt_of_lt_of_le hi h.size) hn).trans (h.block i hi hn)⟩
theorem gb_below {w w' : World} {row : Option Nat} (h : Below w.heap.size w w') : w.grownBy w' row := ⟨h.os, h.tape, h.output, h.size, fun k hk _ => h.block k hk⟩
theorem below_gb {w w' : World} {g B : Nat} (h : w.grownBy w' (some g)) (hB : B ≤ g) (hs : B ≤ w.heap.size) : Below B w w' :=
  ⟨h.os, h.tape, h.output, h.size, fun k hk => h.block k (by omega) (by simp; omega)⟩
theorem CodeAt.gb {w w' : World} {B g len : Nat} {a : Option Addr} (h : CodeAt w B a len) (hg : w.grownBy w' (some g)) (hB : B ≤ g) : CodeAt w' B a len := by
  refine ⟨h.1, fun hl => ?_⟩
  obtain ⟨b, off, rfl, hb, hx⟩ := h.2 hl
  refine ⟨b, off, rfl, hb, fun j hj => ?_⟩
  obtain ⟨x, hc, h0, h1⟩ := hx j hj
  exact ⟨x, hg.cell hc (by simp; omega), h0, h1⟩
theorem CodeAt.below {w w' : World} {B C len : Nat} {a : Option Addr} (h : CodeAt w B a len) (hb : Below C w w') (hC : B ≤ C) : CodeAt w' B a len := by
  refine ⟨h.1, fun hl => ?_⟩
  obtain ⟨b, off, rfl, hlt, hx⟩ := h.2 hl
  refine ⟨b, off, rfl, hlt, fun j hj => ?_⟩
  obtain ⟨x, hc, h0, h1⟩ := hx j hj
  exact ⟨x, (hb.cell (p := ⟨b, off + j, none⟩) (Nat.lt_of_lt_of_le hlt hC)).trans hc, h0, h1⟩
/-- New blocks, and what turns none of the cursor's: the cursor stands. -/
theorem Cur.below {w w' : World} {g B len cap : Nat} {a : Option Addr} (h : Cur w g B a len cap) (hb : Below w.heap.size w w') : Cur w' g B a len cap := by
  obtain ⟨hB, hg, hcode, c0, ⟨i, c1, hi⟩, ⟨k, c2⟩, hf⟩ := h
  exact ⟨hB, Nat.lt_of_lt_of_le hg hb.size, hcode.below hb (by omega), (hb.cell (p := ⟨g, 0, none⟩) hg).trans c0, ⟨i, (hb.cell (p := ⟨g, 1, none⟩) hg).trans c1, hi⟩, ⟨k, (hb.cell (p := ⟨g, 2, none⟩) hg).trans c2⟩,
    fun j hj => (hb.frozen (p := ⟨g, j, none⟩) hg).trans (hf j hj)⟩
theorem Cur.seth {w : World} {g B len cap : Nat} {a : Option Addr} (h : Cur w g B a len cap) (k : Int) : Cur (w.setCell ⟨g, 2, none⟩ (.int .i64 k)) g B a len cap := by
  obtain ⟨hB, hg, hcode, c0, ⟨i, c1, hi⟩, ⟨k', c2⟩, hf⟩ := h
  exact ⟨hB, by simpa [World.setCell] using hg, hcode.gb (gb_set _ _ _ _) hB, (World.cell?_setCell_other _ _ _ _ (by simp)).trans c0, ⟨i, (World.cell?_setCell_other _ _ _ _ (by simp)).trans c1, hi⟩, ⟨k, World.cell?_setCell_same _ _ _ c2⟩,
    fun j hj => (World.frozen?_setCell _ _ _ _).trans (hf j hj)⟩
theorem Cur.seti {w : World} {g B len cap : Nat} {a : Option Addr} (h : Cur w g B a len cap) (i : Nat) (hi : i ≤ len) : Cur (w.setCell ⟨g, 1, none⟩ (.int .i64 i)) g B a len cap := by
  obtain ⟨hB, hg, hcode, c0, ⟨i', c1, _⟩, ⟨k, c2⟩, hf⟩ := h
  exact ⟨hB, by simpa [World.setCell] using hg, hcode.gb (gb_set _ _ _ _) hB, (World.cell?_setCell_other _ _ _ _ (by simp)).trans c0, ⟨i, World.cell?_setCell_same _ _ _ c1, hi⟩, ⟨k, (World.cell?_setCell_other _ _ _ _ (by simp)).trans c2⟩,
    fun j hj => (World.frozen?_setCell _ _ _ _).trans (hf j hj)⟩
theorem drewN_bel (B : Nat) (w : World) (q : Nat) : Below B w (w.drewN q) := ⟨rfl, rfl, rfl, Nat.le_refl _, fun _ _ => rfl⟩
theorem byte_more {w : World} {g B len cap i : Nat} {a : Option Addr} (h : Cur w g B a len cap) (hi : i < len) (k : Int) (q : Nat) (y : Int) (hy : y = ((i + 1 : Nat) : Int)) (x : Int) (h0 : 0 ≤ x) (h1 : x ≤ 255) :
    BytePost w g B a len cap (.returned (.int .i64 x)) (((w.setCell ⟨g, 2, none⟩ (.int .i64 k)).drewN q).setCell ⟨g, 1, none⟩ (.int .i64 y)) := by
  subst hy
  exact ⟨x, rfl, h0, h1, (((h.seth k).below (drewN_bel _ _ _)).seti (i + 1) (by omega)), gb_two (gb_two (gb_set _ _ _ _) (gb_drewN _ _ _)) (gb_set _ _ _ _)⟩
theorem byte_over2 {w : World} {g B len cap : Nat} {a : Option Addr} (h : Cur w g B a len cap) (k : Int) (q q' : Nat) (x : Int) (h0 : 0 ≤ x) (h1 : x ≤ 255) :
    BytePost w g B a len cap (.returned (.int .i64 x)) (((w.setCell ⟨g, 2, none⟩ (.int .i64 k)).drewN q).drewN q') :=
  ⟨x, rfl, h0, h1, (((h.seth k).below (drewN_bel _ _ _)).below (drewN_bel _ _ _)), gb_two (gb_two (gb_set _ _ _ _) (gb_drewN _ _ _)) (gb_drewN _ _ _)⟩

set_option maxHeartbeats 1000000 in
theorem l01Byte_any (w : World) (g B : Nat) (a : Option Addr) (len cap : Nat) (hc : Cur w g B a len cap) :
    Calls Try.prog 26 #[.pointer (some ⟨g, 0, none⟩)] w fun e w' => BytePost w g B a len cap e w' := by
  have HC : Hid (Cur w g B a len cap) := hc
  obtain ⟨hB, hg, hcode, c0, ⟨i, c1, hi⟩, ⟨h, c2⟩, hf⟩ := hc
  have f1 := hf 1 (by omega)
  have f2 := hf 2 (by omega)
  have hl := hcode.1
  by_cases hlt : i < len
  · obtain ⟨b, off, rfl, hb, hcx⟩ := hcode.2 (by omega)
    obtain ⟨x, c3, x0, x1⟩ := hcx i hlt
    have i0 : (0 : Int) ≤ (i : Int) := by omega
    have i1 : (i : Int) < (len : Int) := by omega
    have hne : b ≠ g := by omega
    clear hcode hf hcx
    go_enter Try.func26, Try.ntmps26
    go_wp2_with fail
    go_quiet (fail)
    go_wp2_with fail
    go_quiet (fail)
    go_wp2_with fail
    go_quiet (fail)
    go_wp2_with fail
    go_ret
    exact byte_more HC.out hlt _ _ _ (by first | omega | (simp only [wrap64]; omega)) _ (and255 _).1 (and255 _).2
  · have i1 : decide ((i : Int) < (len : Int)) = false := by simp; omega
    clear hcode hf
    go_enter Try.func26, Try.ntmps26
    go_wp2_with fail
    go_quiet (fail)
    go_wp2_with fail
    go_quiet (fail)
    go_wp2_with fail
    go_ret
    exact byte_over2 HC.out _ _ _ _ (and255 _).1 (and255 _).2

def BelowPost (w : World) (g B : Nat) (a : Option Addr) (len cap : Nat) (n : Int) (e : Ending) (w' : World) : Prop :=
  ∃ x : Int, e = .returned (.int .i64 x) ∧ 0 ≤ x ∧ (x < n ∨ x = 0) ∧ Cur w' g B a len cap ∧ w.grownBy w' (some g)
set_option maxHeartbeats 1000000 in
theorem l01Below_any (w : World) (g B : Nat) (a : Option Addr) (len cap : Nat) (n : Int) (hn : n ≤ 9223372036854775807) (hc : Cur w g B a len cap) :
    Calls Try.prog 27 #[.pointer (some ⟨g, 0, none⟩), .int .i64 n] w fun e w' => BelowPost w g B a len cap n e w' := by
  have HC : Hid (Cur w g B a len cap) := hc
  clear hc
  by_cases h0 : n ≤ 0
  · go_enter Try.func27, Try.ntmps27
    go_wp2_with fail
    go_ret
    exact ⟨0, rfl, by omega, .inr rfl, HC.out, gb_drewN w 0 _⟩
  · by_cases h1 : n ≤ 256
    · have hnz : (n == 0) = false := by rw [beq_eq_false_iff_ne]; omega
      go_enter Try.func27, Try.ntmps27
      go_wp2_with fail
      refine (l01Byte_any _ g B a len cap HC.out).mono ?_
      rintro e w1 ⟨x, rfl, x0, x1, hc1, hg1⟩
      have HC1 : Hid (Cur w1 g B a len cap) := hc1
      have HG : Hid _ := hg1
      clear hc1 hg1
      go_wp2_with fail
      go_ret
      exact ⟨x % n, rfl, Int.emod_nonneg _ (by omega), .inl (Int.emod_lt_of_pos _ (by omega)), HC1.out, HG.out⟩
    · go_enter Try.func27, Try.ntmps27
      go_wp2_with fail
      refine (l01Byte_any _ g B a len cap HC.out).mono ?_
      rintro e w1 ⟨x, rfl, x0, x1, hc1, hg1⟩
      have HC1 : Hid (Cur w1 g B a len cap) := hc1
      have HG1 : Hid (w.grownBy w1 (some g)) := hg1
      clear hc1 hg1
      go_wp2_with fail
      refine (l01Byte_any _ g B a len cap HC1.out).mono ?_
      rintro e w2 ⟨y, rfl, y0, y1, hc2, hg2⟩
      have HC2 : Hid (Cur w2 g B a len cap) := hc2
      have HG2 : Hid (w.grownBy w2 (some g)) := gb_two HG1.out hg2
      clear hc2 hg2
      go_wp2_with fail
      refine (l01Byte_any _ g B a len cap HC2.out).mono ?_
      rintro e w3 ⟨z, rfl, z0, z1, hc3, hg3⟩
      have HC3 : Hid (Cur w3 g B a len cap) := hc3
      have HG3 : Hid (w.grownBy w3 (some g)) := gb_two HG2.out hg3
      clear hc3 hg3
      go_wp2_with fail
      refine (l01Byte_any _ g B a len cap HC3.out).mono ?_
      rintro e w4 ⟨u, rfl, u0, u1, hc4, hg4⟩
      have HC4 : Hid (Cur w4 g B a len cap) := hc4
      have HG4 : Hid (w.grownBy w4 (some g)) := gb_two HG3.out hg4
      clear hc4 hg4
      go_wp2_with fail
      go_ret
      exact ⟨(x * 16777216 + y * 65536 + z * 256 + u) % n, rfl, Int.emod_nonneg _ (by omega), .inl (Int.emod_lt_of_pos _ (by omega)), HC4.out, HG4.out⟩
end Go.Proofs.Ythfmjjaollekiaa
/- DrawB: The draws of the models, on: a new cursor, a text that is drawn, a long one, a choice. -/
namespace Go.Proofs.Ythfmjjaollekiaa
open Go.RowKit

def NewPost (w : World) (a : Option Addr) (len cap : Nat) (e : Ending) (w' : World) : Prop :=
  ∃ g, e = .returned (.pointer (some ⟨g, 0, none⟩)) ∧ w.heap.size ≤ g ∧ Cur w' g w.heap.size a len cap ∧ Below w.heap.size w w'
theorem new_post {w : World} {a : Option Addr} {len cap : Nat} (hc : CodeAt w w.heap.size a len) (h : Int) :
    NewPost w a len cap (.returned (.pointer (some ⟨w.heap.size, 0, none⟩))) (w.alloc (.cells #[.slice a len cap, .int .i64 0, .int .i64 h] 71)) := by
  have hb : Below w.heap.size w (w.alloc (.cells #[.slice a len cap, .int .i64 0, .int .i64 h] 71)) := (Below.refl _ _).alloc (Nat.le_refl _) _
  refine ⟨_, rfl, Nat.le_refl _, ⟨Nat.le_refl _, by simp, hc.below hb (Nat.le_refl _), ?_, ⟨0, ?_, Nat.zero_le _⟩, ⟨h, ?_⟩, fun j hj => ?_⟩, hb⟩
  · rw [World.cell?_alloc_mark]; rfl
  · rw [World.cell?_alloc_mark]; rfl
  · rw [World.cell?_alloc_mark]; rfl
  · rw [World.frozen?_alloc_mark]; simp

set_option maxRecDepth 100000 in
set_option maxHeartbeats 1000000 in
theorem l01New_any (w : World) (a : Option Addr) (len cap : Nat) (hc : CodeAt w w.heap.size a len) :
    Calls Try.prog 22 #[.slice a len cap] w fun e w' => NewPost w a len cap e w' := by
  have hl := hc.1
  go_enter Try.func22, Try.ntmps22
  go_wp2_with fail
  go_loop [3, 4] (fun h i => ∃ (k : Nat) (hh : Int), h = .int .i64 hh ∧ i = .int .i64 k ∧ k ≤ len) (fun _ i => len - (intOf i).toNat)
  case atStart => exact ⟨0, _, rfl, rfl, Nat.zero_le _⟩
  case round =>
    obtain ⟨k, hh, rfl, rfl, hk⟩ := hrel
    by_cases hlt : k < len
    · by_cases h4 : k < 4000
      · obtain ⟨b, off, rfl, hb, hx⟩ := hc.2 (by omega)
        obtain ⟨x, cx, x0, x1⟩ := hx k hlt
        have k0 : (0 : Int) ≤ (k : Int) := by omega
        have k1 : (k : Int) < (len : Int) := by omega
        clear hx
        go_wp2_with fail
        go_round
        case rel => exact ⟨k + 1, _, rfl, by go_num, by omega⟩
        case measure => simp [intOf]; omega
      · have h4' : ¬ (k : Int) < 4000 := by omega
        go_wp2_with fail
        go_ret
        exact new_post hc _
    · go_wp2_with fail
      go_ret
      exact new_post hc _

def OncePost (w : World) (g B : Nat) (a : Option Addr) (len cap : Nat) (e : Ending) (w' : World) : Prop :=
  ∃ b : Bool, e = .returned (.bool b) ∧ Cur w' g B a len cap ∧ w.grownBy w' (some g)
theorem l01Once_any (w : World) (g B : Nat) (a : Option Addr) (len cap : Nat) (n : Int) (hn : n ≤ 9223372036854775807) (hc : Cur w g B a len cap) :
    Calls Try.prog 60 #[.pointer (some ⟨g, 0, none⟩), .int .i64 n] w fun e w' => OncePost w g B a len cap e w' := by
  have HC : Hid (Cur w g B a len cap) := hc
  clear hc
  go_enter Try.func60, Try.ntmps60
  go_wp2_with fail
  refine (l01Below_any _ g B a len cap n hn HC.out).mono ?_
  rintro e w1 ⟨x, rfl, x0, x1, hc1, hg1⟩
  have HC1 : Hid (Cur w1 g B a len cap) := hc1
  have HG : Hid (w.grownBy w1 (some g)) := hg1
  clear hc1 hg1
  go_wp2_with fail
  go_ret
  exact ⟨x == 0, rfl, HC1.out, HG.out⟩

def TextPost (w : World) (g B : Nat) (a : Option Addr) (len cap : Nat) (n : Nat) (e : Ending) (w' : World) : Prop :=
  ∃ t : ByteArray, e = .returned (.string t) ∧ t.size ≤ n ∧ Cur w' g B a len cap ∧ w.grownBy w' (some g)
def TextIs (w : World) (g B : Nat) (a : Option Addr) (len cap : Nat) (n : Nat) (e : Ending) (w' : World) : Prop :=
  ∃ t : ByteArray, e = .returned (.string t) ∧ t.size = n ∧ Cur w' g B a len cap ∧ w.grownBy w' (some g)
theorem text_step {w wr w2 w3 : World} {g B len cap : Nat} {a : Option Addr} {v v' : Value} {l : List UInt8} {x : Int} {o : Obj} (x0 : 0 ≤ x) (x1 : x ≤ 255) (hs : w.heap.size ≤ wr.heap.size) (hgw : g < w.heap.size)
    (hg : w.grownBy wr (some g)) (hg2 : wr.grownBy w2 (some g)) (hc2 : Cur w2 g B a len cap) (hown : w2.ownsRow w.heap.size 5 1 v l.length (bv l))
    (hown' : w3.ownsRow w.heap.size 5 1 v' (l.length + 1) (bv l ++ [.int .u8 x])) (hgr : (w2.alloc o).grownBy w3 v.ownBlock) :
    Cur w3 g B a len cap ∧ w.grownBy w3 (some g) ∧ w3.ownsRow w.heap.size 5 1 v' (l ++ [UInt8.ofNat x.toNat]).length (bv (l ++ [UInt8.ofNat x.toNat])) := by
  have hlt := hown.lt
  have h2s : wr.heap.size ≤ w2.heap.size := hg2.size
  have hb3 : Below w.heap.size w2 w3 := ((Below.refl _ _).alloc (by omega) o).grown hgr (by simp; omega) (fun j hj => (hlt j hj).1)
  refine ⟨?_, ⟨(hb3.os.trans hg2.os).trans hg.os, (hb3.tape.trans hg2.tape).trans hg.tape, (hb3.output.trans hg2.output).trans hg.output, by have := hb3.size; omega, fun k hk hn => (hb3.block k hk).trans ((hg2.block k (by omega) hn).trans (hg.block k hk hn))⟩, ?_⟩
  · obtain ⟨hB, hgs, hcode, c0, ⟨i, c1, hi⟩, ⟨k, c2⟩, hf⟩ := hc2
    refine ⟨hB, by have := hb3.size; omega, hcode.below hb3 (by omega), (hb3.cell (p := ⟨g, 0, none⟩) hgw).trans c0, ⟨i, (hb3.cell (p := ⟨g, 1, none⟩) hgw).trans c1, hi⟩, ⟨k, (hb3.cell (p := ⟨g, 2, none⟩) hgw).trans c2⟩, fun j hj => (hb3.frozen (p := ⟨g, j, none⟩) hgw).trans (hf j hj)⟩
  · rw [byte_of x x0 (by omega), bv_snoc] at hown'
    simpa using hown'
theorem own_gb {w w' : World} {g C : Nat} {v : Value} {l : List UInt8} (h : w.ownsRow C 5 1 v l.length (bv l)) (hg : w.grownBy w' (some g)) (hC : g < C) : w'.ownsRow C 5 1 v l.length (bv l) :=
  h.kept hg (by
    cases hv : v.ownBlock with
    | none => exact .inl rfl
    | some j => right; have := (h.lt j hv).1; simp; omega)

end Go.Proofs.Ythfmjjaollekiaa
