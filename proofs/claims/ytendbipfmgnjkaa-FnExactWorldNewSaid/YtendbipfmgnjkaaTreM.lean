/- Trees, plain: where a node is, right files, right directories, right trees. Nothing of the program is read here. -/
import Derived.Test.YtendbipfmgnjkaaTreA
import Derived.Test.YtendbipfmgnjkaaSpnA
import Derived.Test.YtendbipfmgnjkaaPathM
namespace Go.Proofs.Ytendbipfmgnjkaa
set_option maxRecDepth 100000

/-- The place of a node, -1 without one. -/
def atI (ns : List NM) (id : Int) : Int := match ns.findIdx? (fun n => n.id == id) with
  | some i => (i : Int)
  | none => -1
theorem atI_none {ns : List NM} {id : Int} (h : ∀ n ∈ ns, n.id ≠ id) : atI ns id = -1 := by
  unfold atI
  rw [List.findIdx?_eq_none_iff.2 (fun n hn => by simpa using h n hn)]
theorem atI_some {ns : List NM} {id : Int} {i : Nat} (hi : i < ns.length) (h : ns[i].id = id) (hl : ∀ j, j < i → ∀ hj : j < ns.length, ns[j].id ≠ id) : atI ns id = (i : Int) := by
  unfold atI
  have : ns.findIdx? (fun n => n.id == id) = some i := by
    rw [List.findIdx?_eq_some_iff_getElem]
    exact ⟨hi, by simpa using h, fun j hj => by simpa using hl j hj (by omega)⟩
  rw [this]
theorem atI_cases (ns : List NM) (id : Int) : (atI ns id = -1 ∧ ∀ n ∈ ns, n.id ≠ id) ∨ ∃ i, ∃ hi : i < ns.length, atI ns id = (i : Int) ∧ ns[i].id = id := by
  unfold atI
  cases h : ns.findIdx? (fun n => n.id == id) with
  | none =>
    left
    exact ⟨rfl, fun n hn => by have := List.findIdx?_eq_none_iff.1 h n hn; simpa using this⟩
  | some i =>
    right
    obtain ⟨hi, h1, _⟩ := List.findIdx?_eq_some_iff_getElem.1 h
    exact ⟨i, hi, rfl, by simpa using h1⟩
def inI (x a b : Int) : Bool := decide (a ≤ x) && decide (x ≤ b)
theorem inI_iff {x a b : Int} : inI x a b = true ↔ a ≤ x ∧ x ≤ b := by unfold inI; simp
def pieceOk (s : Int) (p : PM) : Bool := inI p.group 1 100000 && inI p.len 1 (groupN s : Nat)
/-- How many bytes pieces have. -/
def sumP : List PM → Int
  | [] => 0
  | p :: ps => p.len + sumP ps
theorem sumP_append (a b : List PM) : sumP (a ++ b) = sumP a + sumP b := by
  induction a with
  | nil => simp [sumP]
  | cons p a ih => simp only [List.cons_append, sumP, ih]; omega
theorem sumP_take (ps : List PM) (k : Nat) (h : k < ps.length) : sumP (ps.take (k + 1)) = sumP (ps.take k) + ps[k].len := by
  rw [List.take_succ_eq_append_getElem h, sumP_append]
  simp [sumP]
theorem sumP_ok {s : Int} {ps : List PM} (h : ∀ p ∈ ps, pieceOk s p = true) : 0 ≤ sumP ps ∧ sumP ps ≤ 32 * ps.length := by
  induction ps with
  | nil => simp [sumP]
  | cons p ps ih =>
    have h1 := ih (fun q hq => h q (by simp [hq]))
    have h2 := h p (by simp)
    unfold pieceOk at h2
    rw [Bool.and_eq_true, inI_iff, inI_iff] at h2
    have h3 := groupN_bounds s
    simp only [sumP, List.length_cons]
    push_cast
    omega
/-- Right for a file. -/
def fileOk (n : NM) : Bool := inI n.schema 1 3 && (n.quota == 0) && decide (n.pieces.length ≤ 40) && inI n.writer 0 9 && n.pieces.all (pieceOk n.schema) && (sumP n.pieces == n.len) && decide (sumP n.pieces ≤ 1000)
/-- Right for a directory. -/
def dirOk (n : NM) : Bool := inI n.schema 0 3 && inI n.quota 0 1000 && (n.len == 0) && decide (n.pieces.length = 0) && (n.writer == 0)
/-- Right for the node that comes first. -/
def firstOk (n : NM) : Bool := (n.id == 1) && (n.parent == 0) && decide (n.name = ⟨#[]⟩) && n.dir && (n.schema != 0)
/-- So many steps up, and the first node is there. -/
def climbs (ns : List NM) : Nat → Int → Bool
  | 0, _ => false
  | f + 1, id => match ns.findIdx? (fun n => n.id == id) with
    | none => false
    | some k => if (ns.getD k default).parent = 1 then true else climbs ns f (ns.getD k default).parent
/-- Right at its place. -/
def nodeOk (T : TM) (i : Nat) : Bool :=
  decide ((T.nodes.getD i default).id < T.next) && (if i = 0 then firstOk (T.nodes.getD i default) else decide ((T.nodes.getD (i - 1) default).id < (T.nodes.getD i default).id)) &&
  (if (T.nodes.getD i default).dir then dirOk (T.nodes.getD i default) else fileOk (T.nodes.getD i default)) &&
  (decide (i = 0) || (nameB (T.nodes.getD i default).name && decide (0 ≤ atI T.nodes (T.nodes.getD i default).parent) && (T.nodes.getD (atI T.nodes (T.nodes.getD i default).parent).toNat default).dir &&
    (List.range i).all (fun j => ! (((T.nodes.getD j default).parent == (T.nodes.getD i default).parent) && decide ((T.nodes.getD j default).name = (T.nodes.getD i default).name))) && climbs T.nodes 4 (T.nodes.getD i default).id))
def treeOk (T : TM) : Bool := decide (1 ≤ T.nodes.length) && decide (T.nodes.length ≤ 14) && decide (T.next ≤ 100000) && (List.range T.nodes.length).all (nodeOk T)
end Go.Proofs.Ytendbipfmgnjkaa
