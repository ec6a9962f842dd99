/- Texts of ours, laid one behind the other: LawTre, LawTrw, ApM, ApF, ApH, GrpM, GrpS, LawGrp, LkQ. -/
import Derived.Test.YthfmjjaollekiaaPz1
import Derived.Test.YthfmjjaollekiaaPz2
import Derived.Test.YthfmjjaollekiaaPz6
import Derived.Test.YthfmjjaollekiaaPz3
import Derived.Test.YthfmjjaollekiaaPz4
import Derived.Lib.SlicesCompact
/- LawTre: The walks of the exact laws over trees whose answers are a number, a text or a flag, over what is told of the program's own functions at every argument (written by gen/mklawtree.py). -/
namespace Go.Proofs.Ythfmjjaollekiaa
set_option maxRecDepth 100000
open Go.RowKit
attribute [local go_sem ↓] Go.wp_at_zero Go.wp_at_succ
attribute [local irreducible] nodeOk treeOk atI findX pathX schemaAtX usedX roomX

/-- Two boxes: what was handed over, and a copy of it. -/
structure BY (w W : World) (a : Option Addr) (n cap : Nat) (nx : Int) (g : Nat) (c : Option Addr) (m cc : Nat) (T : TM) : Prop where
  bx : BX w W a n cap nx
  kp : WCells W g [.slice c m cc, .int .i64 nx]
  cp : TSee W (.agg #[.slice c m cc, .int .i64 nx]) T w.heap.size g
theorem BY.below {w W W' : World} {a c : Option Addr} {n cap g m cc : Nat} {nx : Int} {T : TM} (h : BY w W a n cap nx g c m cc T) (hb : Below W.heap.size W W') : BY w W' a n cap nx g c m cc T := ⟨h.bx.below hb, h.kp.grow hb, h.cp.below hb⟩
end Go.Proofs.Ythfmjjaollekiaa
/- LawTrw: The walks of the exact laws over KidsOf and BelowOf, over what is told of the program's own functions at every argument (written by gen/mklawtrw.py). -/
namespace Go.Proofs.Ythfmjjaollekiaa
set_option maxRecDepth 100000
open Go.RowKit
attribute [local go_sem ↓] Go.wp_at_zero Go.wp_at_succ

/-- What an answer of texts is: new memory alone. -/
def SPost9 (R : List ByteArray) (w : World) (e : Ending) (w' : World) : Prop := ∃ v, e = .returned v ∧ SAns w' v R w.heap.size w'.heap.size ∧ Below w.heap.size w w'
theorem KPost.sp {R : List ByteArray} {w w' : World} {e : Ending} (h : KPost R w e w') : SPost9 R w e w' := by
  obtain ⟨v, he, ho, hb⟩ := h
  exact ⟨v, he, own_sans rfl ho, hb⟩
theorem kidsL_len (ns : List NM) (id : Int) : (kidsL ns id).length ≤ ns.length := by
  suffices h : ∀ L, (ns.foldl (kidsS id) L).length ≤ L.length + ns.length by
    have := h []
    simp at this
    exact this
  induction ns with
  | nil => simp
  | cons n ns ih =>
    intro L
    have h1 := ih (kidsS id L n)
    have h2 : (kidsS id L n).length ≤ L.length + 1 := by
      unfold kidsS
      split
      · rw [insK_len]; exact Nat.le_refl _
      · omega
    simp only [List.foldl_cons, List.length_cons]
    omega
theorem kidsX_len (T : TM) (id : Int) : (kidsX T id).length ≤ 14 := by
  unfold kidsX
  split
  · rename_i h
    have := kidsL_len T.nodes id
    have := treeOk_14 h
    omega
  · simp
attribute [local irreducible] nodeOk treeOk atI kidsX belowX markK
end Go.Proofs.Ythfmjjaollekiaa
/- ApM: What records do to a tree, plain. Nothing of the program is read here. -/
namespace Go.Proofs.Ythfmjjaollekiaa
set_option maxRecDepth 100000

/-- The place of a node that is there. -/
def plc (T : TM) (id : Int) : Nat := (atI T.nodes id).toNat
def ndAt (T : TM) (k : Nat) : NM := T.nodes.getD k default
/-- A tree with another node at a place. -/
def setN (T : TM) (k : Nat) (x : NM) : TM := ⟨T.nodes.set k x, T.next⟩
/-- The directory that a path lies in. -/
def upX (T : TM) (p : ByteArray) : Int := findX T (parentB p).1
/-- A tree with a node more. -/
def addT (T : TM) (p : ByteArray) (x : NM) : TM := ⟨T.nodes ++ [{ x with id := T.next, parent := upX T p, name := (parentB p).2.1, schema := if x.dir then x.schema else schemaAtX T (upX T p) }], T.next + 1⟩
def addX (T : TM) (p : ByteArray) (x : NM) : TM × Int :=
  if upX T p = 0 then (T, 1)
  else if (ndAt T (plc T (upX T p))).dir = false then (T, 3)
  else if findX T p ≠ 0 then (T, 2)
  else if T.nodes.length = 14 ∨ T.next = 100000 ∨ treeOk (addT T p x) = false then (T, 8)
  else (addT T p x, 0)
/-- A tree with a node moved. -/
def moveT (T : TM) (p : ByteArray) (id : Int) : TM := setN T (plc T id) { ndAt T (plc T id) with parent := upX T p, name := (parentB p).2.1 }
def moveX (T : TM) (p : ByteArray) (id : Int) : TM × Int :=
  if upX T p = 0 then (T, 1)
  else if (ndAt T (plc T (upX T p))).dir = false then (T, 3)
  else if findX T p ≠ 0 then (T, 2)
  else if belowF T.nodes 15 (upX T p) id = true then (T, 7)
  else if treeOk (moveT T p id) = false then (T, 8)
  else (moveT T p id, 0)
/-- A tree without a node and all that is below it. -/
def dropT (T : TM) (id : Int) : TM := ⟨T.nodes.filter (fun n => !belowF T.nodes 15 n.id id), T.next⟩
def setX (T : TM) (e : EM) (k : Nat) : TM × Int :=
  if (ndAt T k).dir = false then (T, 3)
  else if e.kind = 5 then (setN T k { ndAt T k with schema := e.num }, 0)
  else if 0 < e.num ∧ e.num < usedX T (ndAt T k).id then (T, 5)
  else (setN T k { ndAt T k with quota := e.num }, 0)
/-- Pieces of new groups. -/
def newP (g : Int) : List Int → List PM
  | [] => []
  | l :: ls => ⟨g, l⟩ :: newP (g + 1) ls
theorem newP_len (g : Int) (ls : List Int) : (newP g ls).length = ls.length := by
  induction ls generalizing g with
  | nil => rfl
  | cons l ls ih => simp [newP, ih]
theorem newP_take (g : Int) (ls : List Int) (j : Nat) (h : j < ls.length) : newP g (ls.take (j + 1)) = newP g (ls.take j) ++ [⟨g + j, ls[j]⟩] := by
  induction ls generalizing g j with
  | nil => simp at h
  | cons l ls ih =>
    cases j with
    | zero => simp [newP]
    | succ j =>
      have := ih (g + 1) j (by simpa using h)
      simp only [List.take_succ_cons, newP, this, List.getElem_cons_succ, List.cons_append]
      simp
      omega
def writeX (T : TM) (e : EM) (k : Nat) (g : Int) : TM × Int :=
  if (ndAt T k).dir = true then (T, 3)
  else if ((e.kind == 9) != ((ndAt T k).writer == 0)) = true then (T, 6)
  else if e.kind = 9 then (setN T k { ndAt T k with writer := e.who }, 0)
  else if e.kind = 8 then (setN T k { ndAt T k with writer := 0 }, 0)
  else if roomX T (ndAt T k).id e.num = false ∨ 1000 < (ndAt T k).len + e.num then (T, 5)
  else if 40 < (ndAt T k).pieces.length + (spansX (ndAt T k).schema e.num).length then (T, 8)
  else (setN T k { ndAt T k with pieces := (ndAt T k).pieces ++ newP g (spansX (ndAt T k).schema e.num), len := (ndAt T k).len + e.num }, 0)
def newDir : NM := ⟨0, 0, ⟨#[]⟩, true, 0, 0, 0, [], 0⟩
def newFile (who : Int) : NM := ⟨0, 0, ⟨#[]⟩, false, 0, 0, 0, [], who⟩
def mayX (T : TM) (e : EM) (g : Int) : Bool := treeOk T && editOk e && inI g 1 99000
def applyX (T : TM) (e : EM) (g : Int) : TM × Int :=
  if mayX T e g = false then (T, 7)
  else if e.kind = 10 then (T, 0)
  else if e.kind = 1 then addX T e.path newDir
  else if e.kind = 2 then addX T e.path (newFile e.who)
  else if findX T e.path = 0 then (T, 1)
  else if e.kind = 3 then moveX T e.dest (findX T e.path)
  else if e.kind = 4 then (dropT T (findX T e.path), 0)
  else if e.kind = 5 ∨ e.kind = 6 then setX T e (plc T (findX T e.path))
  else writeX T e (plc T (findX T e.path)) g
def groupsX (T : TM) (e : EM) (g : Int) : Int :=
  if (applyX T e g).2 ≠ 0 then g
  else if e.kind = 10 then g + 20
  else if e.kind ≠ 7 then g
  else g + (ndAt (applyX T e g).1 (plc T (findX T e.path))).pieces.length - (ndAt T (plc T (findX T e.path))).pieces.length
/-- A step of many records. -/
def stepX (s : TM × Int) (e : EM) : TM × Int := if (applyX s.1 e s.2).2 = 0 then ((applyX s.1 e s.2).1, groupsX s.1 e s.2) else s
def allX (T : TM) (es : List EM) (g : Int) : TM × Int := es.foldl stepX (T, g)
end Go.Proofs.Ythfmjjaollekiaa
/- ApF: Plain: who is found is there. -/
namespace Go.Proofs.Ythfmjjaollekiaa
set_option maxRecDepth 100000

theorem atI_mem {ns : List NM} {id : Int} (h : ∃ n ∈ ns, n.id = id) : ∃ k, ∃ hk : k < ns.length, atI ns id = (k : Int) ∧ ns[k].id = id := by
  rcases atI_cases ns id with ⟨-, h2⟩ | ⟨i, hi, h1, h2⟩
  · obtain ⟨n, hn, e⟩ := h
    exact absurd e (h2 n hn)
  · exact ⟨i, hi, h1, h2⟩
theorem kid_mem (ns : List NM) (c : Int) (nm : ByteArray) : ∀ (ms : List NM) (z : Int), ms.foldl (kidS c nm) z = z ∨ ∃ n ∈ ms, n.parent = c ∧ n.name = nm ∧ n.id = ms.foldl (kidS c nm) z
  | [], z => .inl rfl
  | m :: ms, z => by
    rw [List.foldl_cons]
    rcases kid_mem ns c nm ms (kidS c nm z m) with h | ⟨n, hn, h1, h2, h3⟩
    · rw [h]
      unfold kidS
      split
      · rename_i hc
        exact .inr ⟨m, by simp, hc.1, hc.2.1, rfl⟩
      · exact .inl rfl
    · exact .inr ⟨n, by simp [hn], h1, h2, h3⟩
theorem find_mem {ns : List NM} : ∀ (L : List ByteArray) (c : Int), (∃ n ∈ ns, n.id = c) → findF ns L c = 0 ∨ ∃ n ∈ ns, n.id = findF ns L c
  | [], c, h => .inr h
  | p :: ps, c, h => by
    unfold findF
    split
    · exact .inl rfl
    · rename_i h0
      refine find_mem ps _ ?_
      rcases kid_mem ns c p ns 0 with e | ⟨n, hn, -, -, e⟩
      · exact absurd e h0
      · exact ⟨n, hn, e⟩
theorem find_there {T : TM} {p : ByteArray} (h : findX T p ≠ 0) : ∃ k, ∃ hk : k < T.nodes.length, atI T.nodes (findX T p) = (k : Int) ∧ T.nodes[k].id = findX T p := by
  apply atI_mem
  unfold findX at h ⊢
  split at h
  · rename_i hc
    rw [if_pos hc]
    have h1 : ∃ n ∈ T.nodes, n.id = 1 := by
      rcases atI_cases T.nodes 1 with ⟨e, -⟩ | ⟨i, hi, -, e⟩
      · have := hc.2; omega
      · exact ⟨_, List.getElem_mem hi, e⟩
    rcases find_mem (splitB p).1 1 h1 with e | e
    · exact absurd e h
    · exact e
  · exact absurd rfl h
end Go.Proofs.Ythfmjjaollekiaa
/- ApH: Plain: how much there is in a right tree, and in what records make of it. -/
namespace Go.Proofs.Ythfmjjaollekiaa
set_option maxRecDepth 100000

theorem tree_node {T : TM} (h : treeOk T = true) (i : Nat) (hi : i < T.nodes.length) : nodeOk T i = true := by
  unfold treeOk at h
  simp only [Bool.and_eq_true, List.all_eq_true, List.mem_range] at h
  exact h.2 i hi
theorem tree_len {T : TM} (h : treeOk T = true) : 1 ≤ T.nodes.length ∧ T.nodes.length ≤ 14 ∧ T.next ≤ 100000 := by
  unfold treeOk at h
  simp only [Bool.and_eq_true, decide_eq_true_eq] at h
  exact ⟨h.1.1.1, h.1.1.2, h.1.2⟩
theorem getD_at {ns : List NM} {i : Nat} (hi : i < ns.length) : ns.getD i default = ns[i] := by simp [List.getD, hi]
/-- What is known of a node of a right tree. -/
theorem node_parts {T : TM} (h : treeOk T = true) (i : Nat) (hi : i < T.nodes.length) : (T.nodes[i]).name.size ≤ 8 ∧ (T.nodes[i]).pieces.length ≤ 40 ∧ (T.nodes[i]).id < T.next ∧ 0 ≤ (T.nodes[i]).len ∧ (T.nodes[i]).len ≤ 1000 ∧ (T.nodes[i].dir = true → dirOk T.nodes[i] = true) ∧ (T.nodes[i].dir = false → fileOk T.nodes[i] = true) := by
  have hn := tree_node h i hi
  unfold nodeOk at hn
  rw [getD_at hi] at hn
  simp only [Bool.and_eq_true, decide_eq_true_eq, Bool.or_eq_true] at hn
  obtain ⟨⟨⟨h1, h2⟩, h3⟩, h4⟩ := hn
  have hd : (T.nodes[i].dir = true → dirOk T.nodes[i] = true) := fun e => by rw [if_pos e] at h3; exact h3
  have hf : (T.nodes[i].dir = false → fileOk T.nodes[i] = true) := fun e => by rw [if_neg (by rw [e]; simp)] at h3; exact h3
  refine ⟨?_, ?_, h1, ?_, ?_, hd, hf⟩
  · rcases h4 with e | e
    · rw [if_pos e] at h2
      unfold firstOk at h2
      simp only [Bool.and_eq_true, decide_eq_true_eq] at h2
      rw [h2.1.1.2]
      decide
    · have := e.1.1.1.1
      unfold nameB at this
      exact (nameL_pos this).2
  · cases hx : T.nodes[i].dir with
    | true =>
      have := hd hx
      unfold dirOk at this
      simp only [Bool.and_eq_true, decide_eq_true_eq] at this
      omega
    | false =>
      have := hf hx
      unfold fileOk at this
      simp only [Bool.and_eq_true, decide_eq_true_eq] at this
      omega
  · cases hx : T.nodes[i].dir with
    | true =>
      have := hd hx
      unfold dirOk at this
      simp only [Bool.and_eq_true, decide_eq_true_eq, beq_iff_eq] at this
      omega
    | false => exact (fileOk_len (hf hx)).1
  · cases hx : T.nodes[i].dir with
    | true =>
      have := hd hx
      unfold dirOk at this
      simp only [Bool.and_eq_true, decide_eq_true_eq, beq_iff_eq] at this
      omega
    | false => exact (fileOk_len (hf hx)).2
theorem nsum_le (ns : List NM) (c : Nat) (h : ∀ n ∈ ns, n.name.size + n.pieces.length ≤ c) : nsum ns ≤ c * ns.length := by
  induction ns with
  | nil => simp [nsum]
  | cons n ns ih =>
    have h1 := ih fun x hx => h x (by simp [hx])
    have h2 := h n (by simp)
    simp only [nsum, List.length_cons, Nat.mul_add]
    omega
theorem nsum_app (a b : List NM) : nsum (a ++ b) = nsum a + nsum b := by
  induction a with
  | nil => simp [nsum]
  | cons n a ih => simp only [List.cons_append, nsum, ih]; omega
theorem nsum_set (ns : List NM) (k : Nat) (x : NM) : nsum (ns.set k x) ≤ nsum ns + (x.name.size + x.pieces.length) := by
  induction ns generalizing k with
  | nil => simp [nsum]
  | cons n ns ih =>
    cases k with
    | zero => simp only [List.set_cons_zero, nsum]; omega
    | succ k => have := ih k; simp only [List.set_cons_succ, nsum]; omega
theorem tree_sum {T : TM} (h : treeOk T = true) : nsum T.nodes ≤ 672 := by
  have h1 := nsum_le T.nodes 48 fun n hn => by
    obtain ⟨i, hi, rfl⟩ := List.mem_iff_getElem.1 hn
    have := node_parts h i hi
    omega
  have := tree_len h
  omega
theorem tree_fit {T : TM} (h : treeOk T = true) : NFit T := by
  have h1 := tree_sum h
  have h2 := tree_len h
  unfold NFit
  omega
theorem add_fit {T : TM} (h : treeOk T = true) (p : ByteArray) (x : NM) (hx : x.pieces = []) : NFit (addT T p x) := by
  have h1 := tree_sum h
  have h2 := tree_len h
  have h3 := (parent_small p).2
  unfold NFit addT
  dsimp only
  rw [nsum_app, List.length_append]
  simp only [nsum, List.length_singleton, hx, List.length_nil]
  omega
theorem nd_mem {T : TM} {k : Nat} (hk : k < T.nodes.length) : ndAt T k = T.nodes[k] := getD_at hk
theorem move_fit {T : TM} (h : treeOk T = true) (p : ByteArray) (id : Int) (k : Nat) (hk : k < T.nodes.length) (hid : atI T.nodes id = (k : Int)) : NFit (moveT T p id) := by
  have h1 := tree_sum h
  have h2 := tree_len h
  have h3 := (parent_small p).2
  have e : plc T id = k := by unfold plc; rw [hid]; rfl
  have hp := node_parts h k hk
  unfold NFit moveT setN
  dsimp only
  rw [e, List.length_set, nd_mem hk]
  have h4 := nsum_set T.nodes k { T.nodes[k] with parent := upX T p, name := (parentB p).2.1 }
  dsimp only at h4
  omega
theorem next_low {T : TM} (h : treeOk T = true) : 1 < T.next := by
  have h2 := tree_len h
  have hn := tree_node h 0 (by omega)
  unfold nodeOk at hn
  rw [getD_at (by omega)] at hn
  simp only [Bool.and_eq_true, decide_eq_true_eq, if_true] at hn
  have h3 := hn.1.1.2
  unfold firstOk at h3
  simp only [Bool.and_eq_true, beq_iff_eq] at h3
  have h4 := hn.1.1.1
  rw [h3.1.1.1.1] at h4
  exact h4
end Go.Proofs.Ythfmjjaollekiaa
/- GrpM: The groups of a node and all below it, plain: as the model tells them, and as the program does. Nothing of the program is read here. -/
namespace Go.Proofs.Ythfmjjaollekiaa
set_option maxRecDepth 100000

/-- A number put into an ascending list; one that is there stays alone. -/
def insG (l : List Int) (x : Int) : List Int := l.filter (fun y => decide (y < x)) ++ [x] ++ l.filter (fun y => decide (x < y))
def grpP (acc : List Int) (ps : List PM) : List Int := ps.foldl (fun a p => insG a p.group) acc
def grpL (T : TM) (acc : List Int) (ids : List Int) : List Int := ids.foldl (fun a i => grpP a (ndAt T (plc T i)).pieces) acc
def grpX (T : TM) (id : Int) : List Int := grpL T [] (belowX T id)
abbrev Up (l : List Int) : Prop := l.Pairwise (fun a b => a < b)
theorem insG_mem {l : List Int} {x y : Int} : y ∈ insG l x ↔ y ∈ l ∨ y = x := by
  unfold insG
  simp only [List.mem_append, List.mem_filter, List.mem_singleton, decide_eq_true_eq]
  constructor
  · rintro ((⟨h, _⟩ | h) | ⟨h, _⟩)
    · exact .inl h
    · exact .inr h
    · exact .inl h
  · rintro (h | h)
    · rcases Int.lt_trichotomy y x with q | q | q
      · exact .inl (.inl ⟨h, q⟩)
      · exact .inl (.inr q)
      · exact .inr ⟨h, q⟩
    · exact .inl (.inr h)
theorem insG_up {l : List Int} (h : Up l) (x : Int) : Up (insG l x) := by
  unfold insG
  refine List.pairwise_append.2 ⟨List.pairwise_append.2 ⟨h.filter _, List.pairwise_singleton _ _, ?_⟩, h.filter _, ?_⟩
  · intro a ha b hb
    rw [List.mem_singleton.1 hb]
    simpa using (List.mem_filter.1 ha).2
  · intro a ha b hb
    have h2 : x < b := by simpa using (List.mem_filter.1 hb).2
    rcases List.mem_append.1 ha with q | q
    · have h1 : a < x := by simpa using (List.mem_filter.1 q).2
      omega
    · rw [List.mem_singleton.1 q]; exact h2
theorem insG_len (l : List Int) (x : Int) : (insG l x).length ≤ l.length + 1 := by
  unfold insG
  rw [List.length_append, List.length_append, List.length_singleton]
  have : ∀ l : List Int, (l.filter (fun y => decide (y < x))).length + (l.filter (fun y => decide (x < y))).length ≤ l.length := by
    intro l
    induction l with
    | nil => simp
    | cons a l ih =>
      simp only [List.filter_cons, List.length_cons]
      by_cases h1 : a < x
      · have h2 : ¬ x < a := by omega
        simp [h1, h2]; omega
      · by_cases h2 : x < a
        · simp [h1, h2]; omega
        · simp [h1, h2]; omega
  have := this l
  omega
theorem grpP_facts (ps : List PM) : ∀ acc, Up acc → Up (grpP acc ps) ∧ (∀ y, y ∈ grpP acc ps ↔ y ∈ acc ∨ ∃ p ∈ ps, p.group = y) ∧ (grpP acc ps).length ≤ acc.length + ps.length := by
  induction ps with
  | nil => intro acc h; exact ⟨h, fun y => by simp [grpP], by simp [grpP]⟩
  | cons p ps ih =>
    intro acc h
    obtain ⟨h1, h2, h3⟩ := ih (insG acc p.group) (insG_up h _)
    have e : grpP acc (p :: ps) = grpP (insG acc p.group) ps := rfl
    rw [e]
    refine ⟨h1, fun y => ?_, ?_⟩
    · rw [h2, insG_mem]
      constructor
      · rintro ((q | q) | ⟨s, hs, q⟩)
        · exact .inl q
        · exact .inr ⟨p, by simp, q.symm⟩
        · exact .inr ⟨s, by simp [hs], q⟩
      · rintro (q | ⟨s, hs, q⟩)
        · exact .inl (.inl q)
        · rcases List.mem_cons.1 hs with rfl | hs
          · exact .inl (.inr q.symm)
          · exact .inr ⟨s, hs, q⟩
    · have := insG_len acc p.group
      rw [List.length_cons]
      omega
theorem grpL_facts {T : TM} (ids : List Int) : ∀ acc, Up acc → Up (grpL T acc ids) ∧ (∀ y, y ∈ grpL T acc ids ↔ y ∈ acc ∨ ∃ i ∈ ids, ∃ p ∈ (ndAt T (plc T i)).pieces, p.group = y) := by
  induction ids with
  | nil => intro acc h; exact ⟨h, fun y => by simp [grpL]⟩
  | cons i ids ih =>
    intro acc h
    obtain ⟨g1, g2, _⟩ := grpP_facts (ndAt T (plc T i)).pieces acc h
    obtain ⟨h1, h2⟩ := ih (grpP acc (ndAt T (plc T i)).pieces) g1
    have e : grpL T acc (i :: ids) = grpL T (grpP acc (ndAt T (plc T i)).pieces) ids := rfl
    rw [e]
    refine ⟨h1, fun y => ?_⟩
    rw [h2, g2]
    constructor
    · rintro ((q | ⟨p, hp, q⟩) | ⟨j, hj, p, hp, q⟩)
      · exact .inl q
      · exact .inr ⟨i, by simp, p, hp, q⟩
      · exact .inr ⟨j, by simp [hj], p, hp, q⟩
    · rintro (q | ⟨j, hj, p, hp, q⟩)
      · exact .inl (.inl q)
      · rcases List.mem_cons.1 hj with rfl | hj
        · exact .inl (.inr ⟨p, hp, q⟩)
        · exact .inr ⟨j, hj, p, hp, q⟩
/-- Ascending lists that hold the same are the same. -/
theorem up_ext : ∀ {a b : List Int}, Up a → Up b → (∀ y, y ∈ a ↔ y ∈ b) → a = b
  | [], [], _, _, _ => rfl
  | [], y :: b, _, _, h => absurd ((h y).2 (by simp)) (by simp)
  | x :: a, [], _, _, h => absurd ((h x).1 (by simp)) (by simp)
  | x :: a, y :: b, ha, hb, h => by
    obtain ⟨a1, a2⟩ := List.pairwise_cons.1 ha
    obtain ⟨b1, b2⟩ := List.pairwise_cons.1 hb
    have e : x = y := by
      rcases List.mem_cons.1 ((h x).1 (by simp)) with q | q
      · exact q
      · rcases List.mem_cons.1 ((h y).2 (by simp)) with r | r
        · exact r.symm
        · have := b1 x q; have := a1 y r; omega
    subst e
    have : a = b := up_ext a2 b2 fun z => by
      have hz := h z
      constructor
      · intro q
        rcases List.mem_cons.1 (hz.1 (by simp [q])) with r | r
        · have := a1 z q; omega
        · exact r
      · intro q
        rcases List.mem_cons.1 (hz.2 (by simp [q])) with r | r
        · have := b1 z q; omega
        · exact r
    rw [this]
/-- A list that goes up, each number once. -/
theorem compactUp {zs : List Int} (h : zs.Pairwise (fun a b => a ≤ b)) : ∀ m, m ≤ zs.length → Up (Lib.compactUpTo zs.toArray m) ∧ (∀ y, y ∈ Lib.compactUpTo zs.toArray m ↔ y ∈ zs.take m) := by
  have hget : ∀ j (hj : j < zs.length), (zs.toArray)[j]! = zs[j] := fun j hj => by simp [hj]
  intro m
  induction m with
  | zero => intro _; simp [Lib.compactUpTo]
  | succ m ih =>
    intro hm
    obtain ⟨h1, h2⟩ := ih (by omega)
    have hml : m < zs.length := by omega
    rw [Lib.compactUpTo_succ, List.take_succ_eq_append_getElem hml, hget m hml]
    by_cases hk : Lib.keeps zs.toArray m = true
    · rw [if_pos hk]
      refine ⟨List.pairwise_append.2 ⟨h1, List.pairwise_singleton _ _, ?_⟩, fun y => ?_⟩
      · intro a ha b hb
        rw [List.mem_singleton.1 hb]
        obtain ⟨i, hi, rfl⟩ := List.getElem_of_mem ((h2 a).1 ha)
        rw [List.getElem_take]
        have him : i < m := by simp at hi; omega
        have hle := List.pairwise_iff_getElem.1 h i m (by omega) hml him
        unfold Lib.keeps at hk
        have hne := (of_decide_eq_true hk).resolve_left (by omega)
        rw [hget m hml, hget (m - 1) (by omega)] at hne
        have hle2 : zs[i] ≤ zs[m - 1] := by
          rcases Nat.eq_or_lt_of_le (show i ≤ m - 1 by omega) with e | e
          · subst e; exact Int.le_refl _
          · exact List.pairwise_iff_getElem.1 h i (m - 1) (by omega) (by omega) e
        have hle3 := List.pairwise_iff_getElem.1 h (m - 1) m (by omega) hml (by omega)
        omega
      · rw [List.mem_append, List.mem_append, h2]
    · rw [if_neg hk, List.append_nil]
      refine ⟨h1, fun y => ?_⟩
      rw [h2, List.mem_append]
      refine ⟨.inl, fun q => q.elim id fun q => ?_⟩
      rw [List.mem_singleton.1 q]
      unfold Lib.keeps at hk
      have hno := fun e => hk (decide_eq_true (.inr e))
      have h0 : m ≠ 0 := fun e => hk (decide_eq_true (.inl e))
      rw [hget m hml, hget (m - 1) (by omega)] at hno
      have e := Classical.not_not.1 hno
      rw [e]
      exact List.mem_take_iff_getElem.2 ⟨m - 1, by omega, rfl⟩
/-- The groups of nodes that are named. -/
def allG (ns : List NM) (X : List Int) : List Int := (ns.filter fun n => X.contains n.id).flatMap fun n => n.pieces.map PM.group
theorem sorted_le (l : List Int) : (l.mergeSort fun x y => decide (x ≤ y)).Pairwise (fun a b => a ≤ b) := by
  have := List.pairwise_mergeSort (le := fun x y : Int => decide (x ≤ y)) (fun a b c h1 h2 => by simp at *; omega) (fun a b => by simp; omega) l
  exact this.imp (fun h => by simpa using h)
theorem grp_prog {T : TM} (hu : ∀ n ∈ T.nodes, ndAt T (plc T n.id) = n) (id : Int) : Lib.compact ((allG T.nodes (belowX T id)).mergeSort fun x y => decide (x ≤ y)) = grpX T id := by
  obtain ⟨g1, g2⟩ := grpL_facts (T := T) (belowX T id) [] List.Pairwise.nil
  obtain ⟨c1, c2⟩ := compactUp (sorted_le (allG T.nodes (belowX T id))) _ (Nat.le_refl _)
  refine up_ext c1 g1 fun y => ?_
  refine (c2 y).trans ?_
  rw [List.take_length, List.mem_mergeSort]
  show y ∈ allG T.nodes (belowX T id) ↔ y ∈ grpL T [] (belowX T id)
  rw [g2]
  unfold allG
  constructor
  · intro q
    obtain ⟨n, hn, hy⟩ := List.mem_flatMap.1 q
    obtain ⟨n1, n2⟩ := List.mem_filter.1 hn
    obtain ⟨p, hp, e⟩ := List.mem_map.1 hy
    refine .inr ⟨n.id, by simpa using n2, p, by rw [hu n n1]; exact hp, e⟩
  · rintro (q | ⟨i, hi, p, hp, e⟩)
    · simp at q
    · obtain ⟨_, n, hn, rfl⟩ := belowX_mem hi
      rw [hu n hn] at hp
      exact List.mem_flatMap.2 ⟨n, List.mem_filter.2 ⟨hn, by simpa using hi⟩, List.mem_map.2 ⟨p, hp, e⟩⟩
theorem grpL_len {T : TM} (c : Nat) (ids : List Int) (hc : ∀ i ∈ ids, (ndAt T (plc T i)).pieces.length ≤ c) : ∀ acc, Up acc → (grpL T acc ids).length ≤ acc.length + c * ids.length := by
  induction ids with
  | nil => intro acc _; simp [grpL]
  | cons i ids ih =>
    intro acc h
    obtain ⟨g1, _, g3⟩ := grpP_facts (ndAt T (plc T i)).pieces acc h
    have h1 := ih (fun j hj => hc j (by simp [hj])) _ g1
    have h2 := hc i (by simp)
    have e : grpL T acc (i :: ids) = grpL T (grpP acc (ndAt T (plc T i)).pieces) ids := rfl
    rw [e, List.length_cons, Nat.mul_add, Nat.mul_one]
    omega
theorem grpX_len (T : TM) (id : Int) : (grpX T id).length ≤ 560 := by
  have h1 := belowX_len T id
  have h2 := grpL_len (T := T) 40 (belowX T id) (fun i hi => by
    obtain ⟨hok, -⟩ := belowX_mem hi
    obtain ⟨k, hk, hat, _⟩ := belowX_at hi
    have e : plc T i = k := by unfold plc; rw [hat]; rfl
    rw [e, nd_mem hk]
    exact (node_parts hok k hk).2.1) [] List.Pairwise.nil
  have h3 : 40 * (belowX T id).length ≤ 40 * 14 := Nat.mul_le_mul_left _ h1
  unfold grpX
  simp at h2
  omega
theorem grpL_take (T : TM) (acc : List Int) (ids : List Int) (k : Nat) (h : k < ids.length) : grpL T acc (ids.take (k + 1)) = grpP (grpL T acc (ids.take k)) (ndAt T (plc T ids[k])).pieces := by
  unfold grpL
  rw [List.take_succ_eq_append_getElem h, List.foldl_append]
  rfl
theorem grpP_take (acc : List Int) (ps : List PM) (k : Nat) (h : k < ps.length) : grpP acc (ps.take (k + 1)) = insG (grpP acc (ps.take k)) ps[k].group := by
  unfold grpP
  rw [List.take_succ_eq_append_getElem h, List.foldl_append]
  rfl
end Go.Proofs.Ythfmjjaollekiaa
/- GrpS: The walks of the models' l12Insert and GroupsOf (written by gen/mkgrps.py). -/
namespace Go.Proofs.Ythfmjjaollekiaa
set_option maxRecDepth 100000
open Go.RowKit
attribute [local go_sem ↓] Go.wp_at_zero Go.wp_at_succ

theorem filI_take (p : Int → Bool) (l : List Int) (k : Nat) (h : k < l.length) : (l.take (k + 1)).filter p = (l.take k).filter p ++ if p l[k] = true then [l[k]] else [] := by
  rw [List.take_succ_eq_append_getElem h, List.filter_append]
  congr 1
  by_cases q : p l[k] = true
  · simp [q]
  · simp [q]
/-- A row of numbers of a call's own, behind a world. -/
def IRow (V W : World) (v : Value) (m : Nat) (L : List Int) : Prop := m = L.length ∧ Below V.heap.size V W ∧ W.ownsRow V.heap.size 3 1 v m (ics L)
theorem IRow.below {V W W' : World} {v : Value} {m : Nat} {L : List Int} (h : IRow V W v m L) (hb : Below W.heap.size W W') : IRow V W' v m L := ⟨h.1, h.2.1.trans (hb.mono h.2.1.size), h.2.2.kept (row := none) ⟨hb.os, hb.tape, hb.output, hb.size, fun k hk _ => hb.block k hk⟩ (Classical.em _)⟩
theorem IRow.snoc {V W W' : World} {v v' : Value} {m : Nat} {L : List Int} {x : Int} {o : Obj} (h : IRow V W v m L) (ho : W'.ownsRow V.heap.size 3 1 v' (m + 1) (ics L ++ [.int .i64 x])) (hg : (W.alloc o).grownBy W' v.ownBlock) : IRow V W' v' (m + 1) (L ++ [x]) := by
  refine ⟨by rw [List.length_append, List.length_singleton, h.1], (h.2.1.alloc h.2.1.size _).grown hg (by have := h.2.1.size; simp; omega) (fun j hj => (h.2.2.lt j hj).1), ?_⟩
  rw [← ics_snoc9]
  exact ho
theorem IRow.fin {V W : World} {v : Value} {m : Nat} {L : List Int} (h : IRow V W v m L) : IPost L V (.returned v) W := ⟨v, rfl, own_ians h.1.symm h.2.2, h.2.1⟩
set_option maxRecDepth 100000 in
set_option maxHeartbeats 2000000 in
theorem specInsert {w : World} {a : Option Addr} {l : List Int} (cap : Nat) (x : Int) (hr : CRow w a (ics l)) (hl : l.length ≤ 1048576) : Calls Try.prog 33 #[.slice a l.length cap, .int .i64 x] w fun e w' => IPost (insG l x) w e w' := by
  obtain ⟨t0, ht0, hty0, hty1, hty2⟩ := info_parts infoIntG
  obtain ⟨n, hn⟩ : ∃ n, n = l.length := ⟨_, rfl⟩
  rw [← hn] at hl ⊢
  have HN := Shut.mk hn
  have HR := Shut.mk hr
  have HCR : Shut (∀ W, Below w.heap.size w W → CRow W a (ics l)) := ⟨fun W hb => hr.stays hb⟩
  clear hn hr
  go_enter Try.func33, Try.ntmps33
  go_wp2_with fail
  go_loopw [5, 6] (fun ov iv wr => ∃ (k m : Nat) (vv : Value), vv = ov ∧ iv = .int .i64 k ∧ k ≤ n ∧ m ≤ k ∧ Shut (IRow w wr vv m ((l.take k).filter fun y => decide (y < x)))) (fun _ iv _ => n - (intOf iv).toNat)
  case atStart => exact ⟨0, 0, _, rfl, rfl, Nat.zero_le _, Nat.le_refl _, ⟨by simp, (Below.refl _ _).alloc (Nat.le_refl _) _, by simpa [ics] using World.ownsRow_made w #[] 0 (Nat.le_refl _) (by decide) rfl⟩⟩
  case round =>
    obtain ⟨k, m, ov, rfl, rfl, hk, hmk, HG⟩ := hrel
    obtain ⟨wo, rfl⟩ : ∃ wo, wo = wr := ⟨_, rfl⟩
    by_cases hlt : k < n
    case pos =>
      have hkl : k < l.length := by have := HN.out; omega
      have k0 : (0 : Int) ≤ (k : Int) := by omega
      have k1 : (k : Int) < (n : Int) := by omega
      obtain ⟨b, off, rfl, lb, hc⟩ := HCR.out wo HG.out.2.1 (by simp [ics]; omega)
      have e0 := hc k (.int .i64 l[k]) (by simp [ics, hkl])
      have hst := filI_take (fun y => decide (y < x)) l k hkl
      obtain ⟨y, hy⟩ : ∃ y, y = l[k] := ⟨_, rfl⟩
      rw [← hy] at e0 hst
      have HY := Shut.mk hy
      have HST := Shut.mk hst
      clear hy hst
      by_cases hxy : y < x
      · have HS' : Shut ((l.take (k + 1)).filter (fun y => decide (y < x)) = (l.take k).filter (fun y => decide (y < x)) ++ [y]) := ⟨by rw [HST.out, if_pos (by simpa using hxy)]⟩
        have ho := HG.out.2.2
        have hsz : w.heap.size ≤ wo.heap.size := HG.out.2.1.size
        clear hc
        go_wp2_with (at_builtin; refine wpList_append_own _ rfl _ _ 32 rfl w.heap.size 3 t0 (.int .i64 0) 1 8 Try.underlying32 ht0 hty0 hty1 hty2 rfl (by decide) _ _ _ rfl (ho.alloc _) ⟨wo.heap.size, 0, none⟩ 1 1 [.int .i64 y] rfl rfl (cell_one_new _ _ _) ?c2 ?c3 ?c4 ?c5 ?_)
        case c2 => first | rfl | (intro u hu; simp at hu; subst hu; rfl)
        case c3 => unfold maxLen; omega
        case c4 => omega
        case c5 => first | omega | (simp; omega)
        intro v' w10 ho10 hgrow _
        have HG2 := Shut.mk (HG.out.snoc ho10 hgrow)
        rw [← HS'.out] at HG2
        clear ho ho10 hgrow
        go_wp2_with fail
        go_roundw
        case rel => exact ⟨k + 1, m + 1, v', rfl, by go_num, by omega, by omega, HG2⟩
        case measure => simp [intOf]; omega
      · have HS' : Shut ((l.take (k + 1)).filter (fun y => decide (y < x)) = (l.take k).filter (fun y => decide (y < x))) := ⟨by rw [HST.out, if_neg (by simpa using hxy), List.append_nil]⟩
        clear hc
        go_wp2_with fail
        go_roundw
        case rel => exact ⟨k + 1, m, ov, rfl, by go_num, by omega, by omega, ⟨by rw [HS'.out]; exact HG.out⟩⟩
        case measure => simp [intOf]; omega
    case neg =>
    have k1 : ¬ (k : Int) < (n : Int) := by omega
    have hall : l.take k = l := List.take_of_length_le (by have := HN.out; omega)
    rw [hall] at HG
    have hsz : w.heap.size ≤ wo.heap.size := HG.out.2.1.size
    have ho := HG.out.2.2
    clear hall
    go_wp2_with (at_builtin; refine wpList_append_own _ rfl _ _ 32 rfl w.heap.size 3 t0 (.int .i64 0) 1 8 Try.underlying32 ht0 hty0 hty1 hty2 rfl (by decide) _ _ _ rfl (ho.alloc _) ⟨wo.heap.size, 0, none⟩ 1 1 [.int .i64 x] rfl rfl (cell_one_new _ _ _) ?c2 ?c3 ?c4 ?c5 ?_)
    case c2 => first | rfl | (intro u hu; simp at hu; subst hu; rfl)
    case c3 => unfold maxLen; omega
    case c4 => omega
    case c5 => first | omega | (simp; omega)
    intro v' w10 ho10 hgrow _
    have HG2 := Shut.mk (HG.out.snoc ho10 hgrow)
    obtain ⟨P, hP⟩ : ∃ P, P = l.filter (fun y => decide (y < x)) ++ [x] := ⟨_, rfl⟩
    have HP := Shut.mk hP
    rw [← hP] at HG2
    clear ho ho10 hgrow HG hP
    go_wp2_with fail
    go_loopw [5, 7] (fun ov iv wr => ∃ (k m : Nat) (vv : Value), vv = ov ∧ iv = .int .i64 k ∧ k ≤ n ∧ m ≤ n + 1 + k ∧ Shut (IRow w wr vv m (P ++ (l.take k).filter fun y => decide (x < y)))) (fun _ iv _ => n - (intOf iv).toNat)
    case atStart => exact ⟨0, m + 1, _, rfl, rfl, Nat.zero_le _, by omega, ⟨by simpa using HG2.out⟩⟩
    case round =>
      clear HG2
      obtain ⟨k, m, ov, rfl, rfl, hk, hmk, HG⟩ := hrel
      obtain ⟨wo, rfl⟩ : ∃ wo, wo = wr := ⟨_, rfl⟩
      by_cases hlt : k < n
      case pos =>
        have hkl : k < l.length := by have := HN.out; omega
        have k0 : (0 : Int) ≤ (k : Int) := by omega
        have k1 : (k : Int) < (n : Int) := by omega
        obtain ⟨b, off, rfl, lb, hc⟩ := HCR.out wo HG.out.2.1 (by simp [ics]; omega)
        have e0 := hc k (.int .i64 l[k]) (by simp [ics, hkl])
        have hst := filI_take (fun y => decide (x < y)) l k hkl
        obtain ⟨y, hy⟩ : ∃ y, y = l[k] := ⟨_, rfl⟩
        rw [← hy] at e0 hst
        have HST := Shut.mk hst
        clear hy hst
        by_cases hxy : x < y
        · have HS' : Shut (P ++ (l.take (k + 1)).filter (fun y => decide (x < y)) = (P ++ (l.take k).filter (fun y => decide (x < y))) ++ [y]) := ⟨by rw [HST.out, if_pos (by simpa using hxy), ← List.append_assoc]⟩
          have ho := HG.out.2.2
          have hsz : w.heap.size ≤ wo.heap.size := HG.out.2.1.size
          clear hc
          go_wp2_with (at_builtin; refine wpList_append_own _ rfl _ _ 32 rfl w.heap.size 3 t0 (.int .i64 0) 1 8 Try.underlying32 ht0 hty0 hty1 hty2 rfl (by decide) _ _ _ rfl (ho.alloc _) ⟨wo.heap.size, 0, none⟩ 1 1 [.int .i64 y] rfl rfl (cell_one_new _ _ _) ?c2 ?c3 ?c4 ?c5 ?_)
          case c2 => first | rfl | (intro u hu; simp at hu; subst hu; rfl)
          case c3 => unfold maxLen; omega
          case c4 => omega
          case c5 => first | omega | (simp; omega)
          intro v' w10 ho10 hgrow _
          have HG2 := Shut.mk (HG.out.snoc ho10 hgrow)
          rw [← HS'.out] at HG2
          clear ho ho10 hgrow
          go_wp2_with fail
          go_roundw
          case rel => exact ⟨k + 1, m + 1, v', rfl, by go_num, by omega, by omega, HG2⟩
          case measure => simp [intOf]; omega
        · have HS' : Shut ((l.take (k + 1)).filter (fun y => decide (x < y)) = (l.take k).filter (fun y => decide (x < y))) := ⟨by rw [HST.out, if_neg (by simpa using hxy), List.append_nil]⟩
          clear hc
          go_wp2_with fail
          go_roundw
          case rel => exact ⟨k + 1, m, ov, rfl, by go_num, by omega, by omega, ⟨by rw [HS'.out]; exact HG.out⟩⟩
          case measure => simp [intOf]; omega
      case neg =>
        have k1 : ¬ (k : Int) < (n : Int) := by omega
        have hall : l.take k = l := List.take_of_length_le (by have := HN.out; omega)
        rw [hall, HP.out] at HG
        clear hall
        go_wp2_with fail
        go_ret
        exact HG.out.fin
/-- A node laid into a box, field by field. -/
def put9 (y : World) (g : Nat) (r : NR) : World := (((((((((y.setCell ⟨g, 0, none⟩ (.int .i64 r.nd.id)).setCell ⟨g, 1, none⟩ (.int .i64 r.nd.parent)).setCell ⟨g, 2, none⟩ (.string r.nd.name)).setCell ⟨g, 3, none⟩ (.bool r.nd.dir)).setCell ⟨g, 4, none⟩ (.int .i64 r.nd.schema)).setCell ⟨g, 5, none⟩ (.int .i64 r.nd.quota)).setCell ⟨g, 6, none⟩ (.int .i64 r.nd.len)).setCell ⟨g, 7, none⟩ (.slice r.loc r.nd.pieces.length r.cap)).setCell ⟨g, 8, none⟩ (.int .i64 r.nd.writer))
theorem put9_cells {y : World} {g : Nat} {L : List Value} (h : WCells y g L) (hl : L.length = 9) (r : NR) : WCells (put9 y g r) g (ncells r) := by
  have h9 := ((((((((h.set 0 (.int .i64 r.nd.id) (by omega)).set 1 (.int .i64 r.nd.parent) (by simp; omega)).set 2 (.string r.nd.name) (by simp; omega)).set 3 (.bool r.nd.dir) (by simp; omega)).set 4 (.int .i64 r.nd.schema) (by simp; omega)).set 5 (.int .i64 r.nd.quota) (by simp; omega)).set 6 (.int .i64 r.nd.len) (by simp; omega)).set 7 (.slice r.loc r.nd.pieces.length r.cap) (by simp; omega)).set 8 (.int .i64 r.nd.writer) (by simp; omega)
  match L, hl with
  | [a0, a1, a2, a3, a4, a5, a6, a7, a8], _ => exact h9
theorem put9_grown (y : World) (g : Nat) (r : NR) : y.grownBy (put9 y g r) (some g) := by
  have st := fun (w : World) i v => gb_set' w g i v
  exact gb_two' (gb_two' (gb_two' (gb_two' (gb_two' (gb_two' (gb_two' (gb_two' (st _ 0 _) (st _ 1 _)) (st _ 2 _)) (st _ 3 _)) (st _ 4 _)) (st _ 5 _)) (st _ 6 _)) (st _ 7 _)) (st _ 8 _)
theorem IAns.wide {w : World} {v : Value} {xs : List Int} {lo hi hi' : Nat} (h : IAns w v xs lo hi) (hh : hi ≤ hi') : IAns w v xs lo hi' := by
  obtain ⟨a, c, e, q, r⟩ := h
  exact ⟨a, c, e, q, r.imp (fun e => e) (fun ⟨g, e1, e2, e3, e4⟩ => ⟨g, e1, e2, Nat.lt_of_lt_of_le e3 hh, e4⟩)⟩
theorem at_plc {T : TM} {i : Int} {k : Nat} (h : atI T.nodes i = (k : Int)) : plc T i = k := by unfold plc; rw [h]; rfl
set_option maxRecDepth 100000 in
set_option maxHeartbeats 4000000 in
theorem specGroupsOf {w : World} {v : Value} {T : TM} {lo hi : Nat} (id : Int) (h : TSee w v T lo hi) (hf : NFit T) : Calls Try.prog 13 #[v, .int .i64 id] w fun e w' => IPost (grpX T id) w e w' := by
  have hl : T.nodes.length ≤ 1048576 := by unfold NFit at hf; omega
  have h' := h
  obtain ⟨a, cap, rs, rfl, hr, hm⟩ := h
  obtain ⟨n, hn⟩ : ∃ n, n = rs.length := ⟨_, rfl⟩
  obtain ⟨nx, hnx⟩ : ∃ nx, nx = T.next := ⟨_, rfl⟩
  rw [← hn, ← hnx] at h' ⊢
  have HAT := Shut.mk (fun W (hW : Below w.heap.size w W) (c : Int) => specAt c (h'.below hW) hl)
  have HBO := Shut.mk (fun W (hW : Below w.heap.size w W) => specBelowOf id (h'.below hW) hf)
  have HBA := Shut.mk (fun i (hi : i ∈ belowX T id) => belowX_at hi)
  have HBT := Shut.mk (fun i (hi : i ∈ belowX T id) => (belowX_mem hi).1)
  have HGX := Shut.mk (show grpX T id = grpL T [] (belowX T id) from rfl)
  have hbl := belowX_len T id
  obtain ⟨R, hR⟩ : ∃ R, R = grpX T id := ⟨_, rfl⟩
  rw [← hR] at HGX ⊢
  have hRl : R.length ≤ 560 := by rw [hR]; exact grpX_len T id
  obtain ⟨B, hB⟩ : ∃ B, B = belowX T id := ⟨_, rfl⟩
  rw [← hB] at HBO HBA HBT HGX hbl
  unfold IPost at HBO
  have HLEN : Shut (n = T.nodes.length) := ⟨by rw [hn, ← hr, nds_len]⟩
  have HNODE : Shut (∀ j (hj : j < rs.length), ndAt T j = rs[j].nd) := ⟨fun j hj => by
    have hj2 : j < T.nodes.length := by rw [← hr, nds_len]; exact hj
    rw [nd_mem hj2]
    have : (nds rs)[j]'(by rw [nds_len]; exact hj) = rs[j].nd := by simp [nds]
    rw [← this]
    congr 1
    exact hr.symm⟩
  have HTR := Shut.mk hm
  have HN := Shut.mk hn
  clear hm hr hn hnx h' hR hB hl hf
  go_enter Try.func13, Try.ntmps13
  go_upto_region 1 with fail
  obtain ⟨tb, htb⟩ : ∃ tb, tb = w.heap.size := ⟨_, rfl⟩
  refine wp_shade (fun W => MB w W [(tb, [.slice a n cap, .int .i64 nx])]) (by rw [htb]; exact (MB.nil w).new #[.slice a n cap, .int .i64 nx] 26) ?_
  intro W1 hW1
  have HM := Shut.mk hW1
  rw [← htb]
  have x0 := ((HM.out.at 0 rfl).1.2 0 _ rfl).1
  have x1 := ((HM.out.at 0 rfl).1.2 1 _ rfl).1
  clear hW1 htb
  go_upto_region 3 with (go_at_call 32; refine (HBO.out _ HM.out.bel).mono ?_; rintro e w2 ⟨bv, rfl, hba, hb2⟩; replace HM := Shut.mk (HM.out.below hb2); have HBV := Shut.mk hba; clear hb2 hba x0 x1)
  obtain ⟨ba9, bc, rfl, hcr⟩ := HBV.out.crow
  have HCR : Shut (∀ W, Below w2.heap.size w2 W → CRow W ba9 (ics B)) := ⟨fun W hb => hcr.stays hb⟩
  obtain ⟨bm, hbm⟩ : ∃ bm, bm = B.length := ⟨_, rfl⟩
  have HBM := Shut.mk hbm
  rw [← hbm] at hbl ⊢
  have HMW : Shut (Below w.heap.size w w2) := ⟨HM.out.bel⟩
  refine wp_shade (fun W => MB w W [(tb, [.slice a n cap, .int .i64 nx])] ∧ IPost [] w2 (.returned (.slice (some ⟨w2.heap.size, 0, none⟩) 0 0)) W) ⟨HM.out.below ((Below.refl _ _).alloc (Nat.le_refl _) _), ⟨_, rfl, own_ians (n := 0) rfl (by simpa [ics] using World.ownsRow_made w2 #[] 0 (Nat.le_refl _) (by decide) rfl), (Below.refl _ _).alloc (Nat.le_refl _) _⟩⟩ ?_
  rintro W3 ⟨hM3, hI3⟩
  replace HM := Shut.mk hM3
  have HI3 := Shut.mk hI3
  clear hM3 hI3 hcr HBV hbm
  go_wp2_with fail
  go_loopw [6, 7] (fun ov iv wr => ∃ (k m : Nat) (a' : Option Addr) (c' : Nat) (L : List Int), ov = .slice a' m c' ∧ iv = .int .i64 k ∧ k ≤ bm ∧ m ≤ 40 * k ∧ Shut (m = L.length ∧ L = grpL T [] (B.take k) ∧ IAns wr (.slice a' m c') L w2.heap.size wr.heap.size) ∧ Shut (Below w2.heap.size w2 wr) ∧ Shut (MB w wr [(tb, [.slice a n cap, .int .i64 nx])])) (fun _ iv _ => bm - (intOf iv).toNat)
  case atStart =>
    obtain ⟨v3, e3, h3, hb3⟩ := HI3.out
    cases e3
    exact ⟨0, 0, _, 0, [], rfl, rfl, Nat.zero_le _, Nat.zero_le _, ⟨rfl, by rw [List.take_zero]; rfl, h3⟩, ⟨hb3⟩, HM⟩
  case round =>
    clear HM HI3
    obtain ⟨k, m, oa, oc, L, rfl, rfl, hk, hm560, HL, HW, HM⟩ := hrel
    obtain ⟨wo, rfl⟩ : ∃ wo, wo = wr := ⟨_, rfl⟩
    have x0 := ((HM.out.at 0 rfl).1.2 0 _ rfl).1
    have x1 := ((HM.out.at 0 rfl).1.2 1 _ rfl).1
    by_cases hlt : k < bm
    case neg =>
      have k1 : ¬ (k : Int) < (bm : Int) := by omega
      have hall : B.take k = B := List.take_of_length_le (by have := HBM.out; omega)
      have HLR : Shut (L = R) := ⟨by rw [HL.out.2.1, hall, HGX.out]⟩
      clear hall
      go_wp2_with fail
      go_ret
      refine ⟨_, rfl, ?_, HM.out.bel⟩
      have h9 := HL.out.2.2
      rw [HLR.out] at h9
      obtain ⟨a9, c9, e9, q1, q2⟩ := h9
      exact ⟨a9, c9, e9, q1, q2.imp (fun e => e) (fun ⟨g, e1, e2, e3, e4⟩ => ⟨g, e1, Nat.le_trans HMW.out.size e2, e3, e4⟩)⟩
    case pos =>
    have hkB : k < B.length := by have := HBM.out; omega
    have k0 : (0 : Int) ≤ (k : Int) := by omega
    have k1 : (k : Int) < (bm : Int) := by omega
    have hmem : B[k] ∈ B := List.getElem_mem hkB
    obtain ⟨q, hq, hat, -⟩ := HBA.out _ hmem
    have hok := HBT.out _ hmem
    have hqr : q < rs.length := by have := HLEN.out; have := HN.out; omega
    have hpc := (node_parts hok q hq).2.1
    have hst := grpL_take T [] B k hkB
    rw [at_plc hat, ← HL.out.2.1, HNODE.out q hqr] at hst
    rw [← nd_mem hq, HNODE.out q hqr] at hpc
    have HA2 := Shut.mk (fun W hW => HAT.out W hW B[k])
    rw [hat] at HA2
    obtain ⟨bx, boff, rfl, lbx, hbc⟩ := HCR.out wo HW.out (by simp [ics]; omega)
    have hnpos : 0 < rs.length := by omega
    obtain ⟨b, off, rfl, lb, hnat⟩ := HTR.out.nat hnpos
    obtain ⟨r, hrq⟩ : ∃ r, r = rs[q] := ⟨_, rfl⟩
    have HNQ : Shut (∀ W, Below w.heap.size w W → NAt W b (off + q * 9) r) := ⟨fun W hW => by rw [hrq]; exact (hnat q hqr).below hW lb⟩
    rw [← hrq] at hst hpc
    obtain ⟨i, hi⟩ : ∃ i, i = B[k] := ⟨_, rfl⟩
    rw [← hi] at HA2
    have HBI : Shut (∀ W, Below wo.heap.size wo W → W.cell? ⟨bx, boff + k, none⟩ = some (.int .i64 i)) := ⟨fun W hW => by
      rw [hW.cell (p := ⟨bx, boff + k, none⟩) lbx, hi]
      exact hbc k (.int .i64 B[k]) (by simp [ics, hkB])⟩
    have q0 : (0 : Int) ≤ (q : Int) := by omega
    have q1 : (q : Int) < (n : Int) := by have := HN.out; omega
    have HST := Shut.mk hst
    have HRQ := Shut.mk hrq
    clear hmem hat hst hrq hi hnat hbc hok x0 x1
    go_upto_region 6 with fail
    have HLE : Shut (∀ x, Later wo.drew x → x.cell? ⟨tb, 0, none⟩ = some (.slice (some ⟨b, off, none⟩) n cap) ∧ x.cell? ⟨tb, 1, none⟩ = some (.int .i64 nx) ∧ x.cell? ⟨bx, boff + k, none⟩ = some (.int .i64 i) ∧ NAt x b (off + q * 9) r) := ⟨fun x hx => by
      have hb : Below wo.heap.size wo x := Below.trans (Below.drew (Below.refl _ _)) hx
      have M := HM.out.below hb
      exact ⟨((M.at 0 rfl).1.2 0 _ rfl).1, ((M.at 0 rfl).1.2 1 _ rfl).1, HBI.out x hb, HNQ.out x M.bel⟩⟩
    have HBX : Shut (∀ x, Later wo.drew x → Below w.heap.size w x) := ⟨fun x hx => (HM.out.below (Below.trans (Below.drew (Below.refl _ _)) hx)).bel⟩
    refine wp_region_tail 11 (by kernel_rfl) ?_
    refine wpK_val (i := 0) (v := ?va0) rfl (by kernel_rfl) (by kernel_rfl) (by kernel_rfl) (by kernel_rfl) (fun _ _ _ h => h) (by rfl) ?hya0 ?resta0
    case hya0 => (intro x hx; obtain ⟨d0, d1, d2, e0, e1, e2, e3, e4, e5, e6, e7, e8⟩ := HLE.out x hx; go_simp; try with_reducible rfl)
    try simp only [Act.put, List.setIfInBounds_toArray, List.set_cons_zero, List.set_cons_succ]
    refine wpK_val (i := 1) (v := ?va1) rfl (by kernel_rfl) (by kernel_rfl) (by kernel_rfl) (by kernel_rfl) (fun _ _ _ h => h) (by rfl) ?hya1 ?resta1
    case hya1 => (intro x hx; obtain ⟨d0, d1, d2, e0, e1, e2, e3, e4, e5, e6, e7, e8⟩ := HLE.out x hx; go_simp; try with_reducible rfl)
    try simp only [Act.put, List.setIfInBounds_toArray, List.set_cons_zero, List.set_cons_succ]
    refine wpK_val (i := 2) (v := ?va2) rfl (by kernel_rfl) (by kernel_rfl) (by kernel_rfl) (by kernel_rfl) (fun _ _ _ h => h) (by rfl) ?hya2 ?resta2
    case hya2 => (intro x hx; obtain ⟨d0, d1, d2, e0, e1, e2, e3, e4, e5, e6, e7, e8⟩ := HLE.out x hx; go_simp; try with_reducible rfl)
    try simp only [Act.put, List.setIfInBounds_toArray, List.set_cons_zero, List.set_cons_succ]
    refine wpK_val (i := 3) (v := ?va3) rfl (by kernel_rfl) (by kernel_rfl) (by kernel_rfl) (by kernel_rfl) (fun _ _ _ h => h) (by rfl) ?hya3 ?resta3
    case hya3 => (intro x hx; obtain ⟨d0, d1, d2, e0, e1, e2, e3, e4, e5, e6, e7, e8⟩ := HLE.out x hx; go_simp; try with_reducible rfl)
    try simp only [Act.put, List.setIfInBounds_toArray, List.set_cons_zero, List.set_cons_succ]
    refine wpK_val (i := 4) (v := ?va4) rfl (by kernel_rfl) (by kernel_rfl) (by kernel_rfl) (by kernel_rfl) (fun _ _ _ h => h) (by rfl) ?hya4 ?resta4
    case hya4 => (intro x hx; obtain ⟨d0, d1, d2, e0, e1, e2, e3, e4, e5, e6, e7, e8⟩ := HLE.out x hx; go_simp; try with_reducible rfl)
    try simp only [Act.put, List.setIfInBounds_toArray, List.set_cons_zero, List.set_cons_succ]
    refine wpK_val (i := 5) (v := ?va5) rfl (by kernel_rfl) (by kernel_rfl) (by kernel_rfl) (by kernel_rfl) (fun _ _ _ h => h) (by rfl) ?hya5 ?resta5
    case hya5 => (intro x hx; obtain ⟨d0, d1, d2, e0, e1, e2, e3, e4, e5, e6, e7, e8⟩ := HLE.out x hx; go_simp; try with_reducible rfl)
    try simp only [Act.put, List.setIfInBounds_toArray, List.set_cons_zero, List.set_cons_succ]
    refine wpK_val (i := 6) (v := ?va6) rfl (by kernel_rfl) (by kernel_rfl) (by kernel_rfl) (by kernel_rfl) (fun _ _ _ h => h) (by rfl) ?hya6 ?resta6
    case hya6 => (intro x hx; obtain ⟨d0, d1, d2, e0, e1, e2, e3, e4, e5, e6, e7, e8⟩ := HLE.out x hx; go_simp; try with_reducible rfl)
    try simp only [Act.put, List.setIfInBounds_toArray, List.set_cons_zero, List.set_cons_succ]
    refine wpK_call (i := 7) (v := .int .i64 (q : Nat)) (f := 29) (args := #[.agg #[.slice (some ⟨b, off, none⟩) n cap, .int .i64 nx], .int .i64 i]) rfl (by kernel_rfl) (by kernel_rfl) (by kernel_rfl) (by kernel_rfl) (fun _ _ _ h => h) (by rfl) ?hya7 (fun x hx => HA2.out x (HBX.out x hx)) ?resta7
    case hya7 => (intro x hx; obtain ⟨d0, d1, d2, e0, e1, e2, e3, e4, e5, e6, e7, e8⟩ := HLE.out x hx; go_simp; try with_reducible rfl)
    try simp only [Act.put, List.setIfInBounds_toArray, List.set_cons_zero, List.set_cons_succ]
    refine wpK_val (i := 8) (v := ?va8) rfl (by kernel_rfl) (by kernel_rfl) (by kernel_rfl) (by kernel_rfl) (fun _ _ _ h => h) (by rfl) ?hya8 ?resta8
    case hya8 => (intro x hx; obtain ⟨d0, d1, d2, e0, e1, e2, e3, e4, e5, e6, e7, e8⟩ := HLE.out x hx; go_simp; try with_reducible rfl)
    try simp only [Act.put, List.setIfInBounds_toArray, List.set_cons_zero, List.set_cons_succ]
    refine wpK_val (i := 9) (v := ?va9) rfl (by kernel_rfl) (by kernel_rfl) (by kernel_rfl) (by kernel_rfl) (fun _ _ _ h => h) (by rfl) ?hya9 ?resta9
    case hya9 => (intro x hx; obtain ⟨d0, d1, d2, e0, e1, e2, e3, e4, e5, e6, e7, e8⟩ := HLE.out x hx; go_simp; try with_reducible rfl)
    try simp only [Act.put, List.setIfInBounds_toArray, List.set_cons_zero, List.set_cons_succ]
    refine wpK_one (i := 10) (by kernel_rfl) rfl (by rfl) (fun x hx => ⟨.pointer (some ⟨x.heap.size, 0, none⟩), x.alloc (.cells #[.int .i64 0, .int .i64 0, .string ⟨#[]⟩, .bool false, .int .i64 0, .int .i64 0, .int .i64 0, .slice none 0 0, .int .i64 0] 30), ?hal, (Below.refl _ _).alloc (Nat.le_refl _) _, ?_⟩)
    case hal => kernel_rfl
    try simp only [Act.put, List.setIfInBounds_toArray, List.set_cons_zero, List.set_cons_succ]
    refine wpK_tail (by kernel_rfl) ?_
    intro y hy
    have hwz := (wcells_new x #[.int .i64 0, .int .i64 0, .string ⟨#[]⟩, .bool false, .int .i64 0, .int .i64 0, .int .i64 0, .slice none 0 0, .int .i64 0] 30).grow hy
    refine wpA_store (y := put9 y x.heap.size r) (i := 11) (by kernel_rfl) rfl (by rfl) ?hst (by kernel_rfl) ?_
    case hst =>
      obtain ⟨f0, g0⟩ := hwz.2 0 _ rfl
      obtain ⟨f1, g1⟩ := hwz.2 1 _ rfl
      obtain ⟨f2, g2⟩ := hwz.2 2 _ rfl
      obtain ⟨f3, g3⟩ := hwz.2 3 _ rfl
      obtain ⟨f4, g4⟩ := hwz.2 4 _ rfl
      obtain ⟨f5, g5⟩ := hwz.2 5 _ rfl
      obtain ⟨f6, g6⟩ := hwz.2 6 _ rfl
      obtain ⟨f7, g7⟩ := hwz.2 7 _ rfl
      obtain ⟨f8, g8⟩ := hwz.2 8 _ rfl
      go_simp
      try rfl
    have hb9 : Below wo.heap.size wo (put9 y x.heap.size r) := by
      have h1 : Below wo.heap.size wo x := Below.trans (Below.drew (Below.refl _ _)) hx
      have h2 : Below wo.heap.size wo y := h1.trans ((Below.trans ((Below.refl x.heap.size x).alloc (Nat.le_refl _) _) (Below.mono hy (by simp)) : Below x.heap.size x y).mono h1.size)
      exact h2.grown (put9_grown y x.heap.size r) h2.size (fun j e => by cases e; exact h1.size)
    have HX := Shut.mk (put9_cells hwz rfl r)
    obtain ⟨xb, hxb⟩ : ∃ xb, xb = x.heap.size := ⟨_, rfl⟩
    have hxl : wo.heap.size ≤ x.heap.size := (Below.trans (Below.drew (Below.refl _ _)) hx : Below wo.heap.size wo x).size
    generalize put9 y x.heap.size r = W5 at hb9 HX ⊢
    rw [← hxb] at HX hxl ⊢
    replace HM := Shut.mk (HM.out.below hb9)
    have HWV := Shut.mk (HW.out.trans (hb9.mono HW.out.size))
    have HLV : Shut (m = L.length ∧ L = grpL T [] (B.take k) ∧ IAns W5 (.slice oa m oc) L w2.heap.size wo.heap.size) := ⟨HL.out.1, HL.out.2.1, HL.out.2.2.below hb9⟩
    have hwo : wo.heap.size ≤ W5.heap.size := hb9.size
    clear hx hy hwz hb9 hxb HLE HBX HW HL HBI
    simp only [Act.put]
    have HPR : Shut (RRow w r.loc (pcs r.nd.pieces) lo hi) := ⟨by rw [HRQ.out]; exact HTR.out.2 _ (List.getElem_mem hqr)⟩
    obtain ⟨pl, hpl⟩ : ∃ pl, pl = r.nd.pieces.length := ⟨_, rfl⟩
    have HPL := Shut.mk hpl
    have hpl40 : pl ≤ 40 := by omega
    unfold ncells at HX
    rw [← hpl] at HX ⊢
    clear hpl hpc
    go_wp2_with fail
    go_loopw [6, 9] (fun ov iv wr => ∃ (j m' : Nat) (a' : Option Addr) (c' : Nat) (L' : List Int), ov = .slice a' m' c' ∧ iv = .int .i64 j ∧ j ≤ pl ∧ m' ≤ 40 * k + j ∧ Shut (m' = L'.length ∧ L' = grpP L (r.nd.pieces.take j) ∧ IAns wr (.slice a' m' c') L' w2.heap.size wr.heap.size) ∧ Shut (Below W5.heap.size W5 wr)) (fun _ iv _ => pl - (intOf iv).toNat)
    case atStart => exact ⟨0, m, oa, oc, L, rfl, rfl, Nat.zero_le _, by omega, ⟨HLV.out.1, by rw [List.take_zero]; rfl, HLV.out.2.2.wide hwo⟩, ⟨Below.refl _ _⟩⟩
    case round =>
      obtain ⟨j, m', a', c', L', rfl, rfl, hj, hm', HL', HW'⟩ := hrel
      obtain ⟨wi, rfl⟩ : ∃ wi, wi = wr := ⟨_, rfl⟩
      have y7 := ((HX.out.grow HW'.out).2 7 _ rfl).1
      have hB5 : Shut (Below w.heap.size w wi) := ⟨HM.out.bel.trans (HW'.out.mono HM.out.bel.size)⟩
      by_cases hjl : j < pl
      case pos =>
        have hjp : j < r.nd.pieces.length := by have := HPL.out; omega
        have j0 : (0 : Int) ≤ (j : Int) := by omega
        have j1 : (j : Int) < (pl : Int) := by omega
        obtain ⟨pb, poff, hloc, lpb, hpc⟩ := pcs_at (HPR.out.below hB5.out) (by omega)
        have z0 := (hpc j hjp).1
        have hst := grpP_take L r.nd.pieces j hjp
        rw [← HL'.out.2.1] at hst
        obtain ⟨g, hg⟩ : ∃ g, g = r.nd.pieces[j].group := ⟨_, rfl⟩
        rw [← hg] at z0 hst
        obtain ⟨aa, cc, e9, hcr⟩ := HL'.out.2.2.crow
        have HIN := Shut.mk (specInsert cc g hcr (by have := HL'.out.1; omega))
        rw [← HL'.out.1] at HIN e9
        simp only [Value.slice.injEq, true_and] at e9
        obtain ⟨rfl, rfl⟩ := e9
        unfold IPost at HIN
        have HST := Shut.mk hst
        have hil := insG_len L' g
        rw [← HL'.out.1] at hil
        rw [hloc] at y7
        clear hpc hg hst hcr hloc
        go_wp2_with (go_at_call 33; refine HIN.out.mono ?_; rintro e w7 ⟨v7, rfl, h7, hb7⟩; obtain ⟨a7, c7, rfl, hc7, hr7⟩ := h7; have HI7 : Shut (IAns w7 (.slice a7 (insG L' g).length c7) (insG L' g) wi.heap.size w7.heap.size) := ⟨a7, c7, rfl, hc7, hr7⟩; have HB7 := Shut.mk hb7; clear hb7 hr7 hc7)
        obtain ⟨m7, hm7⟩ : ∃ m7, m7 = (insG L' g).length := ⟨_, rfl⟩
        rw [← hm7] at HI7 hil ⊢
        have HM7 := Shut.mk hm7
        clear hm7
        go_wp2_with fail
        go_roundw
        case rel =>
          refine ⟨j + 1, m7, a7, c7, insG L' g, rfl, by go_num, by omega, by omega, ⟨HM7.out, HST.out.symm, ?_⟩, ⟨HW'.out.trans (HB7.out.mono HW'.out.size)⟩⟩
          obtain ⟨q1, q2, q3, q4, q5⟩ := HI7.out
          exact ⟨q1, q2, q3, q4, q5.imp (fun e => e) (fun ⟨gg, e1, e2, e3, e4⟩ => ⟨gg, e1, Nat.le_trans (Nat.le_trans HWV.out.size HW'.out.size) e2, e3, e4⟩)⟩
        case measure => simp [intOf]; omega
      case neg =>
        have j1 : ¬ (j : Int) < (pl : Int) := by omega
        have hall : r.nd.pieces.take j = r.nd.pieces := List.take_of_length_le (by have := HPL.out; omega)
        have HL9 : Shut (L' = grpL T [] (B.take (k + 1))) := ⟨by rw [HST.out, HL'.out.2.1, hall]⟩
        clear hall
        go_wp2_with fail
        go_roundw
        case rel => exact ⟨k + 1, m', a', c', L', rfl, by go_num, by omega, by omega, ⟨HL'.out.1, HL9.out, HL'.out.2.2⟩, ⟨HWV.out.trans (HW'.out.mono HWV.out.size)⟩, ⟨HM.out.below HW'.out⟩⟩
        case measure => simp [intOf]; omega
end Go.Proofs.Ythfmjjaollekiaa
/- LawGrp: The walk of the exact law over GroupsOf, over what is told of the program's own function at every argument (out of LawTrw). -/
namespace Go.Proofs.Ythfmjjaollekiaa
set_option maxRecDepth 100000
open Go.RowKit
attribute [local go_sem ↓] Go.wp_at_zero Go.wp_at_succ
attribute [local irreducible] nodeOk treeOk atI grpX markK
set_option maxRecDepth 100000 in
set_option maxHeartbeats 4000000 in
theorem lawGroupsOf (h : ∀ (w : World) (v : Value) (T : TM) (lo hi : Nat) (k : Int), TSee w v T lo hi → NFit T → NInt T.nodes → (Lit.int .i64 k).wf = true → Calls Try.prog 15 #[v, .int .i64 k] w fun e w' => IPost (grpX T k) w e w') {w : World} {v : Value} {T : TM} (hv : TSee w v T 0 w.heap.size) (lT : NOk T.nodes) (lI : NInt T.nodes) {k : Int} (lk : (Lit.int .i64 k).wf = true) :
    Calls Try.prog 4 #[v, .int .i64 k] w fun e w' => e = .returned (.bool true) ∧ Below w.heap.size w w' := by
  have h' := hv
  obtain ⟨a, cap, rs, rfl, hr, hm⟩ := hv
  obtain ⟨n, hn⟩ : ∃ n, n = rs.length := ⟨_, rfl⟩
  rw [← hn] at h' ⊢
  obtain ⟨nodes, nx⟩ := T
  dsimp only at h' ⊢
  generalize hT : (⟨nodes, nx⟩ : TM) = T at *
  have HN : Shut (NOk T.nodes ∧ T.next = nx) := ⟨lT, by rw [← hT]⟩
  have FV := Shut.mk h'
  have HH := Shut.mk (fun w v lo hi q1 q2 => h w v T lo hi k q1 q2)
  have HSP := Shut.mk (fun w v lo hi (q1 : TSee w v T lo hi) q2 => specGroupsOf k q1 q2)
  have hRl := grpX_len T k
  generalize grpX T k = R at HH HSP hRl
  unfold IPost at HH HSP
  have HI : Shut (NInt T.nodes ∧ (Lit.int .i64 k).wf = true) := ⟨lI, lk⟩
  clear h h' hm hr hn hT lT lI lk
  go_enter Try.func4, Try.ntmps4
  go_upto_region 1 with fail
  refine wp_shade (fun W => BX w W a n cap nx) (BX.new w a n cap nx 37) ?_
  intro W hg
  have HG := Shut.mk hg
  have x0 := (hg.box.2 0 _ rfl).1
  have x1 := (hg.box.2 1 _ rfl).1
  clear hg
  go_wp2_with fail
  refine (szTree_val 1048576 (FV.out.below HG.out.bel) HN.out.1 (by omega) (by omega)).mono ?_
  rintro e w1 ⟨r0, rfl, _, q1, hb⟩
  replace HG := Shut.mk (HG.out.below hb)
  clear hb x0 x1
  by_cases r0n : r0 < 0
  case pos =>
    clear q1
    go_wp2_with fail
    go_ret
    exact ⟨rfl, HG.out.bel⟩
  have hr := q1 (by omega)
  have HF : Shut (NFit T) := ⟨by unfold NFit; omega⟩
  clear q1 hr
  have x0 := (HG.out.box.2 0 _ rfl).1
  have x1 := (HG.out.box.2 1 _ rfl).1
  go_wp2_with fail
  refine (toTree_val (FV.out.below HG.out.bel) HF.out).mono ?_
  rintro e w2 ⟨u1, rfl, hA, hb⟩
  have HA := Shut.mk hA
  replace HG := Shut.mk (HG.out.below hb)
  clear hA hb x0 x1
  go_wp2_with fail
  refine (HSP.out _ _ _ _ HA.out.see HF.out).mono ?_
  rintro e w3 ⟨v6, rfl, hA, hb⟩
  have l1 : w.heap.size < w3.heap.size := by have := HG.out.box.1; have := hb.size; omega
  replace HG := Shut.mk (HG.out.below hb)
  obtain ⟨lo6, hlo6⟩ : ∃ lo, lo = w2.heap.size := ⟨_, rfl⟩
  obtain ⟨lo2, hlo2⟩ : ∃ lo, lo = w3.heap.size := ⟨_, rfl⟩
  rw [← hlo6, ← hlo2] at hA
  have F6 := Shut.mk hA
  clear hb HA hA hlo6 HSP
  have x0 := (HG.out.box.2 0 _ rfl).1
  have x1 := (HG.out.box.2 1 _ rfl).1
  go_wp2_with fail
  refine (toTree_val (FV.out.below HG.out.bel) HF.out).mono ?_
  rintro e w4 ⟨u2, rfl, hA, hb⟩
  have l2 : w3.heap.size ≤ w4.heap.size := hb.size
  obtain ⟨c, m, cc, rfl⟩ := tans_form hA
  rw [HN.out.2] at hA ⊢
  rw [← hlo2] at hA
  have hbA : Below w4.heap.size w4 (w4.alloc (.cells #[.slice c m cc, .int .i64 nx] 26)) := (Below.refl _ _).alloc (Nat.le_refl _) _
  have HY : Shut (BX w (w4.alloc (.cells #[.slice c m cc, .int .i64 nx] 26)) a n cap nx ∧ BZ (w4.alloc (.cells #[.slice c m cc, .int .i64 nx] 26)) w4.heap.size c m cc nx T lo2 ∧ IAns (w4.alloc (.cells #[.slice c m cc, .int .i64 nx] 26)) v6 R lo6 lo2) := ⟨(HG.out.below hb).below hbA, BZ.new hA _, (F6.out.below hb).below hbA⟩
  obtain ⟨g, hg⟩ : ∃ g, g = w4.heap.size := ⟨_, rfl⟩
  rw [← hg] at HY
  have l3 : w.heap.size < lo2 := by omega
  have l4 : lo2 ≤ g := by omega
  clear hA hb hbA x0 x1 l1 l2 hlo2 F6 HG
  go_upto_region 7 with fail
  rw [← hg]
  refine wp_shade (fun W => BX w W a n cap nx ∧ BZ W g c m cc nx T lo2 ∧ IAns W v6 R lo6 lo2) HY.out ?_
  clear HY hg
  rintro W5 ⟨hg, hy, h6⟩
  have HG := Shut.mk hg
  have HY := Shut.mk hy
  have F6 := Shut.mk h6
  have y0 := (hy.kp.2 0 _ rfl).1
  have y1 := (hy.kp.2 1 _ rfl).1
  clear hg hy h6
  go_wp2_with fail
  refine (HH.out _ _ _ _ HY.out.cp.see HF.out HI.out.1 HI.out.2).mono ?_
  rintro e W6 ⟨v8, rfl, hA, hb⟩
  obtain ⟨lo8, hlo8⟩ : ∃ lo, lo = W5.heap.size := ⟨_, rfl⟩
  obtain ⟨hi8, hhi8⟩ : ∃ hi, hi = W6.heap.size := ⟨_, rfl⟩
  have l5 : g < lo8 := by have := HY.out.kp.1; omega
  have l6 : hi8 ≤ W6.heap.size := by omega
  rw [← hlo8, ← hhi8] at hA
  have F8 := Shut.mk hA
  replace HG := Shut.mk (HG.out.below hb)
  replace HY := Shut.mk (HY.out.below hb)
  replace F6 := Shut.mk (F6.out.below hb)
  clear hb y0 y1 hA hlo8 hhi8
  go_wp2_with fail
  refine (eqIntS_val F8.out F6.out (by omega)).mono ?_
  rintro e W7 ⟨rfl, hb⟩
  replace HG := Shut.mk (HG.out.below hb)
  replace HY := Shut.mk (HY.out.below hb)
  replace F6 := Shut.mk (F6.out.below hb)
  replace F8 := Shut.mk (F8.out.below hb)
  replace l6 : hi8 ≤ W7.heap.size := Nat.le_trans l6 hb.size
  clear hb
  have y0 := (HY.out.kp.2 0 _ rfl).1
  have y1 := (HY.out.kp.2 1 _ rfl).1
  have x0 := (HG.out.box.2 0 _ rfl).1
  have x1 := (HG.out.box.2 1 _ rfl).1
  have lw : w.heap.size < W7.heap.size := HG.out.box.1
  have lg : g < W7.heap.size := HY.out.kp.1
  have HTT := Shut.mk (fun W (hW : Below W7.heap.size W7 W) => toTree_val (FV.out.below (HG.out.bel.trans (hW.mono HG.out.bel.size))) HF.out)
  have HEQ := Shut.mk (fun W (hW : Below W7.heap.size W7 W) u lo hi (hu : TAns W u T lo hi) => eqTree_val (HY.out.below hW).cp.see hu.see HF.out)
  unfold TrPost at HTT
  go_wp2_with fail
  go_region_held3 (fun w' => w'.cell? ⟨w.heap.size, 0, none⟩ = some (.slice a n cap) ∧ w'.cell? ⟨w.heap.size, 1, none⟩ = some (.int .i64 nx) ∧ w'.cell? ⟨g, 0, none⟩ = some (.slice c m cc) ∧ w'.cell? ⟨g, 1, none⟩ = some (.int .i64 nx))
    (first | go_keep | (refine ⟨?_, ?_, ?_, ?_⟩ <;> first | (rw [hb10.cell (Nat.lt_of_lt_of_le lw hb9.size), hb9.cell (by exact lw)]; simp [*]; done) | (rw [hb10.cell (Nat.lt_of_lt_of_le lg hb9.size), hb9.cell (by exact lg)]; simp [*]; done) | (rw [hb9.cell (by exact lw)]; simp [*]; done) | (rw [hb9.cell (by exact lg)]; simp [*]; done)))
    (first
      | (go_at_call 14; refine (HTT.out _ (by first | exact Below.refl _ _ | exact Below.drew (Below.refl _ _))).mono ?_; rintro e w9 ⟨u9, rfl, hA9, hb9⟩)
      | (go_at_call 17; refine (HEQ.out _ (by first | exact hb9 | exact (Below.drew (Below.refl _ _)).trans hb9) u9 _ _ hA9).mono ?_; rintro e w10 ⟨rfl, hb10⟩))
  all_goals
    have hb : Below W7.heap.size W7 w9 := by first | exact (Below.drew (Below.refl _ _)).trans hb9 | exact hb9
    replace HG := Shut.mk ((HG.out.below hb).below hb10)
    replace HY := Shut.mk ((HY.out.below hb).below hb10)
    replace F6 := Shut.mk ((F6.out.below hb).below hb10)
    replace F8 := Shut.mk ((F8.out.below hb).below hb10)
    replace l6 : hi8 ≤ w10.heap.size := Nat.le_trans l6 (Nat.le_trans hb.size hb10.size)
    clear hb hb9 hb10 hA9 x0 x1 y0 y1 lw lg HTT HEQ
    have y0 := (HY.out.kp.2 0 _ rfl).1
    have y1 := (HY.out.kp.2 1 _ rfl).1
    go_wp2_with fail
    refine (markTree_val 1 HY.out.cp HF.out (by omega) (by omega)).mono ?_
    rintro e W11 ⟨rfl, _, ht⟩
    have HB := Shut.mk (HG.out.bel.trans (ht.below (Nat.le_of_lt l3) HG.out.bel.size))
    have HX := Shut.mk (HG.out.box.turned ht (.inl l3))
    replace F6 := Shut.mk (F6.out.turned ht (.inl (Nat.le_refl _)))
    replace F8 := Shut.mk (F8.out.turned ht (.inr (Nat.le_of_lt l5)))
    replace l6 : hi8 ≤ W11.heap.size := Nat.le_trans l6 ht.size
    clear ht y0 y1 HG HY
    obtain ⟨K, hK⟩ : ∃ K, K = markK 1 T.nodes := ⟨_, rfl⟩
    rw [← hK]
    clear hK
    have hk0 : ¬ (K : Int) < 0 := by omega
    go_wp2_with fail
    refine (eqIntS_val F8.out F6.out (by omega)).mono ?_
    rintro e W12 ⟨rfl, hb⟩
    replace HX := Shut.mk (HX.out.grow hb)
    replace HB := Shut.mk (HB.out.trans (hb.mono HB.out.size))
    replace F6 := Shut.mk (F6.out.below hb)
    replace F8 := Shut.mk (F8.out.below hb)
    clear hb
    go_wp2_with fail
    refine (markIntS_val 1 F8.out (by omega)).mono ?_
    rintro e W13 ⟨rfl, hM, ht⟩
    replace HX := Shut.mk (HX.out.turned ht (.inl (by omega)))
    replace HB := Shut.mk (HB.out.trans (ht.below (by omega) HB.out.size))
    replace F6 := Shut.mk (F6.out.turned ht (.inl (by omega)))
    replace F8 := Shut.mk hM
    clear hM ht
    obtain ⟨q, hq⟩ : ∃ q : Nat, q = 1 + R.length := ⟨_, rfl⟩
    rw [← hq]
    have HQ := Shut.mk hq
    clear hq
    have hq0 : ¬ (q : Int) < 0 := by omega
    have hqq : ((q : Int) != (q : Int)) = false := by simp
    go_wp2_with fail
    refine (heldIntS_val F8.out (by omega)).mono ?_
    rintro e W14 ⟨rfl, hb⟩
    rw [← HQ.out]
    replace HX := Shut.mk (HX.out.grow hb)
    replace HB := Shut.mk (HB.out.trans (hb.mono HB.out.size))
    replace F6 := Shut.mk (F6.out.below hb)
    replace F8 := Shut.mk (F8.out.below hb)
    clear hb
    have x0 := (HX.out.2 0 _ rfl).1
    have x1 := (HX.out.2 1 _ rfl).1
    go_wp2_with fail
    refine (toTree_val (FV.out.below HB.out) HF.out).mono ?_
    rintro e W15 ⟨u3, rfl, hA, hb⟩
    have HA := Shut.mk hA
    replace HB := Shut.mk (HB.out.trans (hb.mono HB.out.size))
    replace F6 := Shut.mk (F6.out.below hb)
    replace F8 := Shut.mk (F8.out.below hb)
    clear hb hA x0 x1 HX
    go_wp2_with fail
    refine (HH.out _ _ _ _ HA.out.see HF.out HI.out.1 HI.out.2).mono ?_
    rintro e W16 ⟨v12, rfl, hA, hb⟩
    replace HA := Shut.mk hA
    replace HB := Shut.mk (HB.out.trans (hb.mono HB.out.size))
    replace F6 := Shut.mk (F6.out.below hb)
    replace F8 := Shut.mk (F8.out.below hb)
    clear hb hA
    go_wp2_with fail
    refine (eqIntS_val HA.out F6.out (by omega)).mono ?_
    rintro e W17 ⟨rfl, hb⟩
    replace HB := Shut.mk (HB.out.trans (hb.mono HB.out.size))
    replace F8 := Shut.mk (F8.out.below hb)
    clear hb HA F6
    go_wp2_with fail
    refine (heldIntS_val F8.out (by omega)).mono ?_
    rintro e W18 ⟨rfl, hb⟩
    rw [← HQ.out]
    replace HB := Shut.mk (HB.out.trans (hb.mono HB.out.size))
    clear hb
    go_wp2_with fail
    go_ret
    exact ⟨rfl, HB.out⟩
end Go.Proofs.Ythfmjjaollekiaa
/- LkQ: Right trees, plain: so many steps up; what the program asks of a tree is what the document asks. -/
namespace Go.Proofs.Ythfmjjaollekiaa
set_option maxRecDepth 100000

/-- Up to so many steps up: is it the first one? -/
def clm (ns : List NM) : Nat → Nat → Bool
  | 0, j => (ns.getD j default).id == 1
  | f + 1, j => match fid ns (ns.getD j default).parent with
    | none => (ns.getD j default).id == 1
    | some k => clm ns f k
theorem clm_none {ns : List NM} {f j : Nat} (h : fid ns (ns.getD j default).parent = none) : clm ns f j = ((ns.getD j default).id == 1) := by
  cases f with
  | zero => rfl
  | succ f => conv => lhs; unfold clm
              rw [h]
theorem clm_some {ns : List NM} {f j k : Nat} (h : fid ns (ns.getD j default).parent = some k) : clm ns (f + 1) j = clm ns f k := by
  conv => lhs; unfold clm
  rw [h]
theorem Asc.id_one {ns : List NM} (h : Asc ns) {j : Nat} (hj : j < ns.length) : ((ns.getD j default).id == 1) = decide (j = 0) := by
  rw [getD_in hj]
  by_cases e : j = 0
  · subst e
    have := h.2.2.1
    rw [getD_in hj] at this
    simp [this]
  · have := h.lt j hj 0 (by omega)
    rw [h.2.2.1] at this
    have h2 : ¬ ns[j].id = 1 := by omega
    simp [h2, e]
theorem clm_ups {ns : List NM} (h : Asc ns) : ∀ f j, j < ns.length → clm ns f j = true → ∃ d, d ≤ f ∧ Ups ns j d := by
  intro f
  induction f with
  | zero =>
    intro j hj hc
    unfold clm at hc
    rw [h.id_one hj] at hc
    obtain rfl := of_decide_eq_true hc
    exact ⟨0, Nat.le_refl _, .root⟩
  | succ f ih =>
    intro j hj hc
    cases hp : fid ns (ns.getD j default).parent with
    | none =>
      rw [clm_none hp, h.id_one hj] at hc
      obtain rfl := of_decide_eq_true hc
      exact ⟨0, Nat.zero_le _, .root⟩
    | some k =>
      rw [clm_some hp] at hc
      obtain ⟨d, hd, hu⟩ := ih k (fid_lt hp).1 hc
      refine ⟨d + 1, by omega, .step hj (fun e => ?_) hp hu⟩
      subst e
      rw [h.2.2.2, h.zero] at hp
      cases hp
theorem ups_clm {ns : List NM} (h : Asc ns) {j d : Nat} (hu : Ups ns j d) : ∀ f, d ≤ f → clm ns f j = true := by
  induction hu with
  | root =>
    intro f _
    rw [clm_none (by rw [h.2.2.2]; exact h.zero), h.id_one h.2.1]
    rfl
  | step hj h0 hp _ ih =>
    intro f hf
    cases f with
    | zero => omega
    | succ f => rw [clm_some hp]; exact ih f (by omega)
theorem clm_climbs {ns : List NM} (h : Asc ns) {j : Nat} (hj : j < ns.length) (h0 : j ≠ 0) : clm ns 4 j = climbs ns 4 (ns.getD j default).id := by
  have hf := h.fid hj
  rw [← getD_in hj] at hf
  cases hc : climbs ns 4 (ns.getD j default).id with
  | true =>
    obtain ⟨d, hd, hu⟩ := climbs_ups h 4 _ j hc hf h0
    exact ups_clm h hu 4 hd
  | false =>
    refine Bool.eq_false_iff.2 fun hm => ?_
    obtain ⟨d, hd, hu⟩ := clm_ups h 4 j hj hm
    rw [ups_climbs h 4 j d hu h0 hd] at hc
    cases hc
/-- Below another one, or it, on the way up: of an Id that is none. -/
theorem belowF_no {ns : List NM} (h : Asc ns) {top : Int} (hn : fid ns top = none) (h0 : top ≠ 0) {i d : Nat} (hu : Ups ns i d) : ∀ f, belowF ns f (ns.getD i default).id top = false := by
  have hne : ∀ j, j < ns.length → (ns.getD j default).id ≠ top := fun j hj e => fid_none hn _ (by rw [getD_in hj] at e; exact List.getElem_mem hj) (by rw [getD_in hj] at e; exact e)
  induction hu with
  | root =>
    intro f
    cases f with
    | zero => rfl
    | succ f =>
      rw [belowF_some (i := 0) (hne 0 h.2.1) (by rw [h.2.2.1]; exact h.one), h.2.2.2]
      cases f with
      | zero => rfl
      | succ f => exact belowF_none (fun e => h0 e.symm) h.zero
  | @step i k d hi _ hk _ ih =>
    intro f
    cases f with
    | zero => rfl
    | succ f =>
      have hf := h.fid hi
      rw [← getD_in hi] at hf
      rw [belowF_some (hne i hi) hf]
      obtain ⟨hkl, ek⟩ := fid_lt hk
      rw [← ek, ← getD_in hkl]
      exact ih f
/-- What the program asks: below an Id that is a node's. -/
def blw (ns : List NM) (i : Nat) (top : Int) : Bool := decide (top ≠ 0) && belowF ns 15 (ns.getD i default).id top
/-- It is the first one of its Parent and Name. -/
def firstB (ns : List NM) (i : Nat) : Bool := match fnm ns (ns.getD i default).parent (ns.getD i default).name with
  | some k => (ns.getD k default).id == (ns.getD i default).id
  | none => false
theorem firstB_some {ns : List NM} {i k : Nat} (h : fnm ns (ns.getD i default).parent (ns.getD i default).name = some k) : firstB ns i = ((ns.getD k default).id == (ns.getD i default).id) := by
  unfold firstB
  rw [h]
/-- There is a directory of this Id. -/
def dirB (ns : List NM) (p : Int) : Bool := match fid ns p with
  | some k => (ns.getD k default).dir
  | none => false
theorem dirB_some {ns : List NM} {p : Int} {k : Nat} (h : fid ns p = some k) : dirB ns p = (ns.getD k default).dir := by
  unfold dirB
  rw [h]
theorem dirB_none {ns : List NM} {p : Int} (h : fid ns p = none) : dirB ns p = false := by
  unfold dirB
  rw [h]
/-- What is asked of a node's place. -/
def placeB (ns : List NM) (i : Nat) : Bool := nameB (ns.getD i default).name && firstB ns i && dirB ns (ns.getD i default).parent && clm ns 4 i
/-- Each node of a right tree has its way up. -/
def Tall (ns : List NM) : Prop := Asc ns ∧ ∀ i, i < ns.length → ∃ d, d ≤ 4 ∧ Ups ns i d
end Go.Proofs.Ythfmjjaollekiaa
