/- Texts of ours, laid one behind the other: TreM, TreC, TreD, TreE, TreP, TreQ, StrV, PathA, PathB, PathC, GrwA, EdA, EdB. -/
import Derived.Test.YtoglebfiobofoaaDoorPl2
import Derived.Deep.RegionHeld3
import Derived.Deep.DrawnRows
import Derived.Deep.CutRange
import Derived.BigQuiet
/- TreM: Trees, plain: where a node is, right files, right directories, right trees. Nothing of the program is read here. -/
namespace Go.Proofs.YtoglebfiobofoaaDoor
set_option maxRecDepth 100000

/-- The place of a node, -1 without one. -/
def atI (ns : List NM) (id : Int) : Int := match ns.findIdx? (fun n => n.id == id) with
  | some i => (i : Int)
  | none => -1
theorem atI_none {ns : List NM} {id : Int} (h : ∀ n ∈ ns, n.id ≠ id) : atI ns id = -1 := by
  unfold atI
  rw [List.findIdx?_eq_none_iff.2 (fun n hn => by simpa using h n hn)]
theorem atI_some {ns : List NM} {id : Int} {i : Nat} (hi : i < ns.length) (h : ns[i].id = id) (hl : ∀ j, j < i → ∀ hj : j < ns.length, ns[j].id ≠ id) : atI ns id = (i : Int) := by
  unfold atI
  have : ns.findIdx? (fun n => n.id == id) = some i := by
    rw [List.findIdx?_eq_some_iff_getElem]
    exact ⟨hi, by simpa using h, fun j hj => by simpa using hl j hj (by omega)⟩
  rw [this]
theorem atI_cases (ns : List NM) (id : Int) : (atI ns id = -1 ∧ ∀ n ∈ ns, n.id ≠ id) ∨ ∃ i, ∃ hi : i < ns.length, atI ns id = (i : Int) ∧ ns[i].id = id := by
  unfold atI
  cases h : ns.findIdx? (fun n => n.id == id) with
  | none =>
    left
    exact ⟨rfl, fun n hn => by have := List.findIdx?_eq_none_iff.1 h n hn; simpa using this⟩
  | some i =>
    right
    obtain ⟨hi, h1, _⟩ := List.findIdx?_eq_some_iff_getElem.1 h
    exact ⟨i, hi, rfl, by simpa using h1⟩
def inI (x a b : Int) : Bool := decide (a ≤ x) && decide (x ≤ b)
theorem inI_iff {x a b : Int} : inI x a b = true ↔ a ≤ x ∧ x ≤ b := by unfold inI; simp
def pieceOk (s : Int) (p : PM) : Bool := inI p.group 1 100000 && inI p.len 1 (groupN s : Nat)
/-- How many bytes pieces have. -/
def sumP : List PM → Int
  | [] => 0
  | p :: ps => p.len + sumP ps
theorem sumP_append (a b : List PM) : sumP (a ++ b) = sumP a + sumP b := by
  induction a with
  | nil => simp [sumP]
  | cons p a ih => simp only [List.cons_append, sumP, ih]; omega
theorem sumP_take (ps : List PM) (k : Nat) (h : k < ps.length) : sumP (ps.take (k + 1)) = sumP (ps.take k) + ps[k].len := by
  rw [List.take_succ_eq_append_getElem h, sumP_append]
  simp [sumP]
theorem sumP_ok {s : Int} {ps : List PM} (h : ∀ p ∈ ps, pieceOk s p = true) : 0 ≤ sumP ps ∧ sumP ps ≤ 32 * ps.length := by
  induction ps with
  | nil => simp [sumP]
  | cons p ps ih =>
    have h1 := ih (fun q hq => h q (by simp [hq]))
    have h2 := h p (by simp)
    unfold pieceOk at h2
    rw [Bool.and_eq_true, inI_iff, inI_iff] at h2
    have h3 := groupN_bounds s
    simp only [sumP, List.length_cons]
    push_cast
    omega
/-- Right for a file. -/
def fileOk (n : NM) : Bool := inI n.schema 1 3 && (n.quota == 0) && decide (n.pieces.length ≤ 40) && inI n.writer 0 9 && n.pieces.all (pieceOk n.schema) && (sumP n.pieces == n.len) && decide (sumP n.pieces ≤ 1000)
/-- Right for a directory. -/
def dirOk (n : NM) : Bool := inI n.schema 0 3 && inI n.quota 0 1000 && (n.len == 0) && decide (n.pieces.length = 0) && (n.writer == 0)
/-- Right for the node that comes first. -/
def firstOk (n : NM) : Bool := (n.id == 1) && (n.parent == 0) && decide (n.name = ⟨#[]⟩) && n.dir && (n.schema != 0)
/-- So many steps up, and the first node is there. -/
def climbs (ns : List NM) : Nat → Int → Bool
  | 0, _ => false
  | f + 1, id => match ns.findIdx? (fun n => n.id == id) with
    | none => false
    | some k => if (ns.getD k default).parent = 1 then true else climbs ns f (ns.getD k default).parent
/-- Right at its place. -/
def nodeOk (T : TM) (i : Nat) : Bool :=
  decide ((T.nodes.getD i default).id < T.next) && (if i = 0 then firstOk (T.nodes.getD i default) else decide ((T.nodes.getD (i - 1) default).id < (T.nodes.getD i default).id)) &&
  (if (T.nodes.getD i default).dir then dirOk (T.nodes.getD i default) else fileOk (T.nodes.getD i default)) &&
  (decide (i = 0) || (nameB (T.nodes.getD i default).name && decide (0 ≤ atI T.nodes (T.nodes.getD i default).parent) && (T.nodes.getD (atI T.nodes (T.nodes.getD i default).parent).toNat default).dir &&
    (List.range i).all (fun j => ! (((T.nodes.getD j default).parent == (T.nodes.getD i default).parent) && decide ((T.nodes.getD j default).name = (T.nodes.getD i default).name))) && climbs T.nodes 4 (T.nodes.getD i default).id))
def treeOk (T : TM) : Bool := decide (1 ≤ T.nodes.length) && decide (T.nodes.length ≤ 14) && decide (T.next ≤ 100000) && (List.range T.nodes.length).all (nodeOk T)
end Go.Proofs.YtoglebfiobofoaaDoor
/- TreC: Copies of trees. -/
namespace Go.Proofs.YtoglebfiobofoaaDoor
set_option maxRecDepth 100000
open Go.RowKit
attribute [local go_sem ↓] Go.wp_at_zero Go.wp_at_succ

/-- A copy of pieces. -/
def ToPieces (ps : List PM) (w : World) (e : Ending) (w' : World) : Prop := ∃ g, e = .returned (.slice (some ⟨g, 0, none⟩) ps.length ps.length) ∧ w.heap.size ≤ g ∧ WCells w' g (pcs ps) ∧ Below w.heap.size w w'
/-- A copy of a node. -/
def ToNode (r : NR) (w : World) (e : Ending) (w' : World) : Prop := ∃ g, e = .returned (nv ⟨r.nd, some ⟨g, 0, none⟩, r.nd.pieces.length⟩) ∧ w.heap.size ≤ g ∧ WCells w' g (pcs r.nd.pieces) ∧ Below w.heap.size w w'
/-- Three new blocks: what came in, the answer, and what is made on the way. -/
structure Tri (w W : World) (L1 L2 L3 : List Value) : Prop where
  bel : Below w.heap.size w W
  b1 : WCells W w.heap.size L1
  b2 : WCells W (w.heap.size + 1) L2
  b3 : WCells W (w.heap.size + 1 + 1) L3
theorem Tri.new (w : World) (A B C : Array Value) (tA tB tC : TypeId) : Tri w (((w.alloc (.cells A tA)).alloc (.cells B tB)).alloc (.cells C tC)) A.toList B.toList C.toList := by
  have e1 : (w.alloc (.cells A tA)).heap.size = w.heap.size + 1 := by simp
  have e2 : ((w.alloc (.cells A tA)).alloc (.cells B tB)).heap.size = w.heap.size + 1 + 1 := by simp
  refine ⟨(((Below.refl _ _).alloc (Nat.le_refl _) _).alloc (by simp) _).alloc (by simp; omega) _, ((wcells_new w A tA).alloc _).alloc _, ?_, ?_⟩
  · have := (wcells_new (w.alloc (.cells A tA)) B tB).alloc (.cells C tC)
    rw [e1] at this; exact this
  · have := wcells_new ((w.alloc (.cells A tA)).alloc (.cells B tB)) C tC
    rw [e2] at this; exact this
theorem Tri.set {w W : World} {L1 L2 L3 : List Value} (h : Tri w W L1 L2 L3) (i : Nat) (v : Value) (hi : i < L3.length) : Tri w (W.setCell ⟨w.heap.size + 1 + 1, i, none⟩ v) L1 L2 (L3.set i v) :=
  ⟨h.bel.setCell (p := ⟨w.heap.size + 1 + 1, i, none⟩) (by show w.heap.size ≤ w.heap.size + 1 + 1; omega) v, h.b1.other _ _ (by show w.heap.size ≠ w.heap.size + 1 + 1; omega), h.b2.other _ _ (by show w.heap.size + 1 ≠ w.heap.size + 1 + 1; omega), h.b3.set i v hi⟩
theorem Tri.below {w W W' : World} {L1 L2 L3 : List Value} (h : Tri w W L1 L2 L3) (hb : Below W.heap.size W W') : Tri w W' L1 L2 L3 := ⟨h.bel.trans (hb.mono h.bel.size), h.b1.grow hb, h.b2.grow hb, h.b3.grow hb⟩
end Go.Proofs.YtoglebfiobofoaaDoor
/- TreD: Copies of rows of nodes, and of trees. -/
namespace Go.Proofs.YtoglebfiobofoaaDoor
set_option maxRecDepth 100000
open Go.RowKit
attribute [local go_sem ↓] Go.wp_at_zero Go.wp_at_succ

theorem pcs_ne {ps : List PM} (h : ps ≠ []) : pcs ps ≠ [] := fun e => h (pcs_nil.1 e)
/-- A node that was copied takes its place. -/
theorem TW.copy {wr w2 : World} {g g' : Nat} {gs : List NR} {B : Nat} (h : TW wr g gs B wr.heap.size) (hb : Below wr.heap.size wr w2) (j : Nat) (hj : j < gs.length) (nd : NM) (hg : wr.heap.size ≤ g') (hw : WCells w2 g' (pcs nd.pieces)) (hB : B ≤ wr.heap.size) :
    TW (setW w2 g (j * 9) (ncells ⟨nd, some ⟨g', 0, none⟩, nd.pieces.length⟩)) g (gs.set j ⟨nd, some ⟨g', 0, none⟩, nd.pieces.length⟩) B w2.heap.size := by
  refine GW.put (K := NKind) ((h.below hb).wide (Nat.le_refl _) hb.size) j hj ⟨nd, some ⟨g', 0, none⟩, nd.pieces.length⟩ ?_ ?_
  · exact .inr ⟨g', rfl, by omega, hw.1, by have := h.out.1; omega, hw⟩
  · intro s hs h1 _ e
    rcases h.rows s hs with q | ⟨b, e2, _, q2, _, _⟩
    · exact h1 q
    · have : b = g' := congrArg Addr.block (Option.some.inj (e2.symm.trans e))
      omega
theorem setW_size (w : World) (g off : Nat) (vs : List Value) : (setW w g off vs).heap.size = w.heap.size := by
  induction vs generalizing w off with
  | nil => rfl
  | cons v vs ih => show (setW _ g (off + 1) vs).heap.size = _; rw [ih]; simp [World.setCell]
theorem setW9 (w : World) (g o : Nat) (v0 v1 v2 v3 v4 v5 v6 v7 v8 : Value) : setW w g o [v0, v1, v2, v3, v4, v5, v6, v7, v8] = ((((((((w.setCell ⟨g, o, none⟩ v0).setCell ⟨g, o + 1, none⟩ v1).setCell ⟨g, o + 2, none⟩ v2).setCell ⟨g, o + 3, none⟩ v3).setCell ⟨g, o + 4, none⟩ v4).setCell ⟨g, o + 5, none⟩ v5).setCell ⟨g, o + 6, none⟩ v6).setCell ⟨g, o + 7, none⟩ v7).setCell ⟨g, o + 8, none⟩ v8 := rfl
/-- A copy of a row of nodes. -/
def ToNodes (rs : List NR) (w : World) (e : Ending) (w' : World) : Prop := ∃ g ts, e = .returned (.slice (some ⟨g, 0, none⟩) ts.length ts.length) ∧ nds ts = nds rs ∧ TW w' g ts w.heap.size w'.heap.size ∧ Below w.heap.size w w'
end Go.Proofs.YtoglebfiobofoaaDoor
/- TreE: Copies of trees. -/
namespace Go.Proofs.YtoglebfiobofoaaDoor
set_option maxRecDepth 100000
open Go.RowKit
attribute [local go_sem ↓] Go.wp_at_zero Go.wp_at_succ

end Go.Proofs.YtoglebfiobofoaaDoor
/- TreP: The walks of the models' TreeNew, l10At, l10File. -/
namespace Go.Proofs.YtoglebfiobofoaaDoor
set_option maxRecDepth 100000
open Go.RowKit
attribute [local go_sem ↓] Go.wp_at_zero Go.wp_at_succ

theorem nds_at (rs : List NR) (i : Nat) (h : i < rs.length) : (nds rs)[i]'(by rw [nds_len]; exact h) = rs[i].nd := by simp [nds]
end Go.Proofs.YtoglebfiobofoaaDoor
/- TreQ: The walk of the model's l10File. -/
namespace Go.Proofs.YtoglebfiobofoaaDoor
set_option maxRecDepth 100000
open Go.RowKit
attribute [local go_sem ↓] Go.wp_at_zero Go.wp_at_succ

theorem isInI (x a b : Int) (w : World) (r : Bool) (h : inI x a b = r) : Calls Tryd.prog 29 #[.int .i64 x, .int .i64 a, .int .i64 b] w fun e w' => e = .returned (.bool r) ∧ w' = w := isIn x a b w r h
theorem fileOk_no1 {n : NM} (h : inI n.schema 1 3 = false) : fileOk n = false := by unfold fileOk; rw [h]; rfl
theorem fileOk_no2 {n : NM} (h : n.quota ≠ 0) : fileOk n = false := by unfold fileOk; rw [show (n.quota == 0) = false by simpa using h]; simp
theorem fileOk_no3 {n : NM} (h : ¬ n.pieces.length ≤ 40) : fileOk n = false := by unfold fileOk; rw [decide_eq_false h]; simp
theorem fileOk_no4 {n : NM} (h : inI n.writer 0 9 = false) : fileOk n = false := by unfold fileOk; rw [h]; simp
theorem fileOk_no5 {n : NM} {p : PM} (hp : p ∈ n.pieces) (h : pieceOk n.schema p = false) : fileOk n = false := by
  have : n.pieces.all (pieceOk n.schema) = false := by
    cases e : n.pieces.all (pieceOk n.schema) with
    | false => rfl
    | true => rw [List.all_eq_true] at e; rw [e p hp] at h; cases h
  unfold fileOk; rw [this]; simp
theorem fileOk_yes {n : NM} (h1 : inI n.schema 1 3 = true) (h2 : n.quota = 0) (h3 : n.pieces.length ≤ 40) (h4 : inI n.writer 0 9 = true) (h5 : ∀ p ∈ n.pieces, pieceOk n.schema p = true) : fileOk n = ((sumP n.pieces == n.len) && decide (sumP n.pieces ≤ 1000)) := by
  unfold fileOk
  rw [h1, h2, decide_eq_true h3, h4, show n.pieces.all (pieceOk n.schema) = true from List.all_eq_true.2 h5]
  simp
end Go.Proofs.YtoglebfiobofoaaDoor
/- StrV: Rows of texts as values: what is seen of one, what an answer is, what is marked, and the laws' own functions over them. -/
namespace Go.Proofs.YtoglebfiobofoaaDoor
set_option maxRecDepth 100000
open Go.RowKit
attribute [local go_sem ↓] Go.wp_at_zero Go.wp_at_succ

theorem tv_get (L : List ByteArray) (j : Nat) (h : j < L.length) : (tv L)[j]? = some (.string (L.getD j ⟨#[]⟩)) := by simp [tv, List.getD, h]
theorem tv_set (L : List ByteArray) (j : Nat) (x : ByteArray) : (tv L).set j (.string x) = tv (L.set j x) := by simp [tv, List.map_set]
theorem wrow_cells {w : World} {g : Nat} {L : List ByteArray} : WRow w g L ↔ WCells w g (tv L) := by
  constructor
  · intro h
    refine ⟨h.1, fun i v hv => ?_⟩
    have hi : i < L.length := by have := (List.getElem?_eq_some_iff.1 hv).1; rw [tv_len] at this; exact this
    rw [tv_get L i hi] at hv
    cases hv
    exact h.2 i hi
  · intro h
    exact ⟨h.1, fun j hj => h.2 j _ (tv_get L j hj)⟩
/-- How many bytes there are. -/
def tsum : List ByteArray → Nat
  | [] => 0
  | x :: L => x.size + tsum L
theorem tsum_mem {L : List ByteArray} {x : ByteArray} (h : x ∈ L) : x.size ≤ tsum L := by
  induction L with
  | nil => simp at h
  | cons t L ih =>
    rcases List.mem_cons.1 h with rfl | h
    · simp only [tsum]; omega
    · have := ih h; simp only [tsum]; omega
theorem tsum_append (L M : List ByteArray) : tsum (L ++ M) = tsum L + tsum M := by
  induction L with
  | nil => simp [tsum]
  | cons t L ih => simp only [List.cons_append, tsum]; omega
theorem tsum_take (L : List ByteArray) (k : Nat) (h : k < L.length) : tsum (L.take (k + 1)) = tsum (L.take k) + (L.getD k ⟨#[]⟩).size := by
  rw [List.take_succ_eq_append_getElem h, tsum_append]
  have e : L.getD k ⟨#[]⟩ = L[k] := by simp [List.getD, h]
  rw [e]; simp [tsum]
theorem tsum_le (L : List ByteArray) (k : Nat) : tsum (L.take k) ≤ tsum L := by
  have := tsum_append (L.take k) (L.drop k)
  rw [List.take_append_drop] at this
  omega
/-- Texts that a machine can hold. -/
def TFit (L : List ByteArray) : Prop := L.length + tsum L ≤ 1048576
/-- A value that is these texts. -/
def SSee (w : World) (v : Value) (L : List ByteArray) (lo hi : Nat) : Prop := ∃ (a : Option Addr) (cap : Nat), v = .slice a L.length cap ∧ RRow w a (tv L) lo hi
/-- An answer of texts: nothing, or a row that may be written. -/
def SAns (w : World) (v : Value) (L : List ByteArray) (lo hi : Nat) : Prop := ∃ (a : Option Addr) (cap : Nat), v = .slice a L.length cap ∧ L.length ≤ cap ∧ (L = [] ∨ ∃ g, a = some ⟨g, 0, none⟩ ∧ lo ≤ g ∧ g < hi ∧ WCells w g (tv L))
theorem SAns.see {w : World} {v : Value} {L : List ByteArray} {lo hi : Nat} (h : SAns w v L lo hi) : SSee w v L lo hi := by
  obtain ⟨a, cap, e, _, h1⟩ := h
  refine ⟨a, cap, e, ?_⟩
  rcases h1 with rfl | ⟨g, rfl, q1, q2, hm⟩
  · intro h; simp [tv] at h
  · exact RRow.of_wcells hm q1 q2
theorem SSee.turned {w w' : World} {v : Value} {L : List ByteArray} {lo hi lo' hi' : Nat} (h : SSee w v L lo hi) (t : Turned w w' lo' hi') (hd : hi ≤ lo' ∨ hi' ≤ lo) : SSee w' v L lo hi := by
  obtain ⟨a, cap, e, h1⟩ := h
  exact ⟨a, cap, e, h1.turned t hd⟩
theorem SSee.below {w w' : World} {v : Value} {L : List ByteArray} {lo hi : Nat} (h : SSee w v L lo hi) (hb : Below w.heap.size w w') : SSee w' v L lo hi := by
  obtain ⟨a, cap, e, h1⟩ := h
  exact ⟨a, cap, e, h1.below hb⟩
theorem SAns.turned {w w' : World} {v : Value} {L : List ByteArray} {lo hi lo' hi' : Nat} (h : SAns w v L lo hi) (t : Turned w w' lo' hi') (hd : hi ≤ lo' ∨ hi' ≤ lo) : SAns w' v L lo hi := by
  obtain ⟨a, cap, e, hc, h1⟩ := h
  refine ⟨a, cap, e, hc, ?_⟩
  rcases h1 with rfl | ⟨g, rfl, q1, q2, hm⟩
  · exact .inl rfl
  · exact .inr ⟨g, rfl, q1, q2, hm.turned t (by omega)⟩
theorem SAns.below {w w' : World} {v : Value} {L : List ByteArray} {lo hi : Nat} (h : SAns w v L lo hi) (hb : Below w.heap.size w w') : SAns w' v L lo hi := by
  obtain ⟨a, cap, e, hc, h1⟩ := h
  refine ⟨a, cap, e, hc, ?_⟩
  rcases h1 with rfl | ⟨g, rfl, q1, q2, hm⟩
  · exact .inl rfl
  · exact .inr ⟨g, rfl, q1, q2, hm.grow hb⟩
theorem SAns.empty (w : World) (a : Option Addr) (cap lo hi : Nat) : SAns w (.slice a 0 cap) [] lo hi := ⟨a, cap, rfl, Nat.zero_le _, .inl rfl⟩
theorem SAns.srow {w : World} {v : Value} {L : List ByteArray} {lo hi : Nat} (h : SAns w v L lo hi) : ∃ a cap, v = .slice a L.length cap ∧ SRow w a L := by
  obtain ⟨a, cap, e, _, h1⟩ := h
  refine ⟨a, cap, e, ?_⟩
  rcases h1 with rfl | ⟨g, rfl, _, _, hm⟩
  · intro h; simp at h
  · exact (wrow_cells.2 hm).srow
/-- What an answer of texts is: new memory alone. -/
def SPost (L : List ByteArray) (w : World) (e : Ending) (w' : World) : Prop := ∃ v, e = .returned v ∧ SAns w' v L w.heap.size w'.heap.size ∧ Below w.heap.size w w'
theorem own_sans {w w' : World} {v : Value} {L : List ByteArray} {n : Nat} (hn : L.length = n) (h : w'.ownsRow w.heap.size 9 1 v n (tv L)) : SAns w' v L w.heap.size w'.heap.size := by
  have h' := h
  rw [← hn] at h'
  obtain ⟨a, cap, rfl, hc, h1⟩ := own_rowAt h'
  refine ⟨a, cap, rfl, hc, ?_⟩
  rcases h1 with rfl | ⟨g, rfl, q1, hm⟩
  · exact .inl rfl
  · exact .inr ⟨g, rfl, q1, hm.1, wrow_cells.1 hm⟩
theorem infoTextG : (Tryd.prog.info? 9).map (fun i => (i.zero, i.size, i.bytes)) = some (some (.string ⟨#[]⟩), 1, 16) := by kernel_rfl
end Go.Proofs.YtoglebfiobofoaaDoor
/- PathA: The walks of the models' NameOk, SplitPath, JoinPath, ParentPath. -/
namespace Go.Proofs.YtoglebfiobofoaaDoor
set_option maxRecDepth 100000
open Go.RowKit
open Go.PlainAid (bt)
attribute [local go_sem ↓] Go.wp_at_zero Go.wp_at_succ

theorem nameC_bt {s : ByteArray} {j : Nat} (h : j < s.size) : nameC ((lb s)[j]'h) = ((decide (97 ≤ bt s j) && decide (bt s j ≤ 122)) || (decide (48 ≤ bt s j) && decide (bt s j ≤ 57))) := by
  unfold nameC
  rw [bt_at h]
  generalize ((lb s)[j]'h).toNat = n
  simp only [show ((97 : Int) ≤ (n : Int)) = (97 ≤ n) from propext ⟨fun h => by omega, fun h => by omega⟩, show ((n : Int) ≤ 122) = (n ≤ 122) from propext ⟨fun h => by omega, fun h => by omega⟩, show ((48 : Int) ≤ (n : Int)) = (48 ≤ n) from propext ⟨fun h => by omega, fun h => by omega⟩, show ((n : Int) ≤ 57) = (n ≤ 57) from propext ⟨fun h => by omega, fun h => by omega⟩]
/-- Whether a byte may stand in a name. -/
def nameN (n : Int) : Prop := (97 ≤ n ∧ n ≤ 122) ∨ (48 ≤ n ∧ n ≤ 57)
theorem nameC_iff {s : ByteArray} {j : Nat} (h : j < s.size) : nameC ((lb s)[j]'h) = true ↔ nameN (bt s j) := by
  rw [nameC_bt h]
  unfold nameN
  simp only [Bool.or_eq_true, Bool.and_eq_true, decide_eq_true_eq]
theorem nameB_iff (s : ByteArray) : nameB s = true ↔ (∀ j, j < s.size → nameN (bt s j)) ∧ 1 ≤ s.size ∧ s.size ≤ 8 := by
  unfold nameB nameL
  have hl : (lb s).length = s.size := rfl
  simp only [Bool.and_eq_true, decide_eq_true_eq, List.all_eq_true, hl]
  constructor
  · rintro ⟨h1, h2⟩
    exact ⟨fun j hj => (nameC_iff hj).1 (h1 _ (List.getElem_mem hj)), h2⟩
  · rintro ⟨h1, h2⟩
    refine ⟨fun c hc => ?_, h2⟩
    obtain ⟨j, hj, rfl⟩ := List.mem_iff_getElem.1 hc
    exact (nameC_iff hj).2 (h1 j hj)
theorem nameB_no {s : ByteArray} {j : Nat} (h : j < s.size) (hn : ¬ nameN (bt s j)) : nameB s = false := by
  cases e : nameB s with
  | false => rfl
  | true => exact absurd ((nameB_iff s).1 e |>.1 j h) hn
theorem units_at {w : World} {a : Option Addr} {L : List ByteArray} {lo hi : Nat} (h : RRow w a (tv L) lo hi) (hp : 0 < L.length) : ∃ b off, a = some ⟨b, off, none⟩ ∧ b < w.heap.size ∧ ∀ j, j < L.length → w.cell? ⟨b, off + j, none⟩ = some (.string (L.getD j ⟨#[]⟩)) := by
  obtain ⟨b, off, e, _, _, hb, hc⟩ := h (by rw [tv_len]; exact hp)
  exact ⟨b, off, e, hb, fun j hj => hc j _ (tv_get L j hj)⟩
set_option maxHeartbeats 1000000 in
theorem specNameOk (s : ByteArray) (w : World) (hs : s.size ≤ 1048576) : Calls Tryd.prog 68 #[.string s] w fun e w' => e = .returned (.bool (nameB s)) ∧ Below w.heap.size w w' := by
  have hb := Go.PlainAid.get_bt s
  obtain ⟨r, hre⟩ : ∃ r, r = nameB s := ⟨_, rfl⟩
  have HRE := Shut.mk hre
  rw [← hre]
  clear hre
  go_enter Tryd.func68, Tryd.ntmps68
  go_wp2_with fail
  go_loopw [3] (fun i wr => ∃ (k : Nat), i = .int .i64 k ∧ k ≤ s.size ∧ Shut (∀ j, j < k → nameN (bt s j)) ∧ Shut (Below w.heap.size w wr)) (fun i _ => s.size - (intOf i).toNat)
  case atStart => exact ⟨0, rfl, Nat.zero_le _, ⟨fun j hj => by omega⟩, ⟨Below.refl _ _⟩⟩
  case round =>
    obtain ⟨k, rfl, hk, hall, hbl⟩ := hrel
    by_cases hlt : k < s.size
    · have b0 := Go.PlainAid.bt_nonneg s k
      have b1 := Go.PlainAid.bt_le s k
      have hlt' : (k : Int) < (s.size : Int) := by omega
      have k0 : (0 : Int) ≤ (k : Int) := by omega
      have HN := Shut.mk (fun (q : nameN (bt s k)) => show ∀ j, j < k + 1 → nameN (bt s j) from fun j hj => by
        by_cases e : j = k
        · subst e; exact q
        · exact hall.out j (by omega))
      have HF := Shut.mk (fun (q : ¬ nameN (bt s k)) => HRE.out.trans (nameB_no hlt q))
      by_cases c1 : bt s k < 97
      · by_cases c2 : bt s k < 48
        · have HE := Shut.mk (HF.out (fun q => by unfold nameN at q; omega))
          go_wp2_with fail
          go_ret
          exact ⟨by rw [HE.out]; rfl, hbl.out⟩
        · by_cases c3 : 57 < bt s k
          · have HE := Shut.mk (HF.out (fun q => by unfold nameN at q; omega))
            go_wp2_with fail
            go_ret
            exact ⟨by rw [HE.out]; rfl, hbl.out⟩
          · have HE := Shut.mk (HN.out (by unfold nameN; omega))
            go_wp2_with fail
            go_roundw
            case rel => exact ⟨k + 1, by go_num, by omega, HE, hbl⟩
            case measure => simp [intOf]; omega
      · by_cases c2 : 122 < bt s k
        · have HE := Shut.mk (HF.out (fun q => by unfold nameN at q; omega))
          have c3 : ¬ bt s k < 48 := by omega
          have c4 : 57 < bt s k := by omega
          go_wp2_with fail
          go_ret
          exact ⟨by rw [HE.out]; rfl, hbl.out⟩
        · have HE := Shut.mk (HN.out (by unfold nameN; omega))
          go_wp2_with fail
          go_roundw
          case rel => exact ⟨k + 1, by go_num, by omega, HE, hbl⟩
          case measure => simp [intOf]; omega
    · have hlt' : ¬ (k : Int) < (s.size : Int) := by omega
      have hin : (decide ((1 : Int) ≤ (s.size : Int)) && decide ((s.size : Int) ≤ 8)) = r := by
        rw [HRE.out, Bool.eq_iff_iff, nameB_iff]
        simp only [Bool.and_eq_true, decide_eq_true_eq]
        constructor
        · intro h; exact ⟨fun j hj => hall.out j (by omega), by omega, by omega⟩
        · intro h; omega
      have HI := Shut.mk (fun W => isIn (s.size : Int) 1 8 W _ hin)
      clear hin hall
      go_wp2_with fail
      refine (HI.out _).mono ?_
      rintro e w1 ⟨rfl, hw⟩
      subst hw
      go_wp2_with fail
      go_ret
      exact ⟨rfl, hbl.out⟩
end Go.Proofs.YtoglebfiobofoaaDoor
/- PathB: The walks of the models' SplitPath and JoinPath. -/
namespace Go.Proofs.YtoglebfiobofoaaDoor
set_option maxRecDepth 100000
open Go.RowKit
open Go.PlainAid (bt)
attribute [local go_sem ↓] Go.wp_at_zero Go.wp_at_succ

/-- What an answer of texts and a flag is, in a row that may be made longer. -/
def OPost (R : List ByteArray × Bool) (w : World) (e : Ending) (w' : World) : Prop := ∃ v, e = .returned (.tuple #[v, .bool R.2]) ∧ w'.ownsRow w.heap.size 9 1 v R.1.length (tv R.1) ∧ Below w.heap.size w w'
theorem OPost.none {R : List ByteArray × Bool} {b : Bool} {w w' : World} {v : Value} (h : R = ([], b)) (ho : w'.ownsRow w.heap.size 9 1 v 0 []) (hb : Below w.heap.size w w') : OPost R w (.returned (.tuple #[v, .bool b])) w' := by
  unfold OPost
  rw [h]
  exact ⟨v, rfl, ho, hb⟩
theorem OPost.some {R L : List ByteArray × Bool} {w w' : World} {v : Value} (h : R = L) (ho : w'.ownsRow w.heap.size 9 1 v L.1.length (tv L.1)) (hb : Below w.heap.size w w') : OPost R w (.returned (.tuple #[v, .bool L.2])) w' := by
  rw [h]
  exact ⟨v, rfl, ho, hb⟩
theorem own_made0 {w w' : World} (hb : Below w.heap.size w w') : (w'.alloc (.cells #[] 9)).ownsRow w.heap.size 9 1 (.slice (.some ⟨w'.heap.size, 0, none⟩) 0 0) 0 [] := World.ownsRow_made w' #[] 0 hb.size (by decide) rfl
theorem splitB_first {p : ByteArray} (h : p.size = 0 ∨ bt p 0 ≠ 47) : splitB p = ([], false) := by
  have hl : (lb p).length = p.size := rfl
  unfold splitB
  cases e : lb p with
  | nil => rfl
  | cons c r =>
    have hc : c ≠ 47 := fun q => by
      subst q
      rw [e] at hl
      simp at hl
      rcases h with h | h
      · omega
      · apply h
        have h1 : 0 < p.size := by omega
        rw [bt_at h1]
        simp only [e, List.getElem_cons_zero]
        decide
    have e2 : splitP (c :: r) = ([], false) := by unfold splitP; exact if_neg hc
    rw [e2]; rfl
theorem splitB_one {p : ByteArray} (h : p = ⟨#[47]⟩) : splitB p = ([], true) := by subst h; rfl
theorem one_slash {p : ByteArray} (h : p.size = 1) (h0 : bt p 0 = 47) : p = ⟨#[47]⟩ := by
  have hl : (lb p).length = p.size := rfl
  have e : lb p = [47] := by
    cases e : lb p with
    | nil => rw [e] at hl; simp at hl; omega
    | cons c r =>
      rw [e] at hl
      have hr : r = [] := List.eq_nil_of_length_eq_zero (by simp at hl; omega)
      subst hr
      congr 1
      have h2 := bt_at (s := p) (j := 0) (by omega)
      simp only [e, List.getElem_cons_zero] at h2
      rw [h0] at h2
      have h3 : c.toNat = 47 := by omega
      exact UInt8.toNat_inj.1 h3
  have := congrArg ba e
  rw [ba_lb] at this
  exact this
/-- What the way through a path knows. -/
structure PaWay (p : ByteArray) (k bg : Nat) (done : List ByteArray) : Prop where
  open' : k ≤ p.size → PaRel p k bg done
  fin : p.size < k → (segs ((lb p).drop 1)).map ba = done ∧ ∀ s ∈ done, nameB s = true
theorem PaWay.split {p : ByteArray} {k bg : Nat} {done : List ByteArray} (h : PaWay p k bg done) (hk : k ≤ p.size) (hc : k < p.size → bt p k = 47) : ∃ rest, (segs ((lb p).drop 1)).map ba = (done ++ [p.extract bg k]) ++ rest := by
  by_cases e : k < p.size
  · exact ⟨_, (h.open' hk).split e (hc e)⟩
  · exact ⟨[], by rw [List.append_nil]; exact (h.open' hk).fin (by omega)⟩
theorem PaWay.bad {p : ByteArray} {k bg : Nat} {done : List ByteArray} (h : PaWay p k bg done) (h1 : 1 < p.size) (h0 : bt p 0 = 47) (hk : k ≤ p.size) (hc : k < p.size → bt p k = 47) (hn : nameB (p.extract bg k) = false) : splitB p = ([], false) := by
  obtain ⟨rest, e⟩ := h.split hk hc
  rw [splitB_rest h1 h0, if_neg (fun q => by
    have := q.1 (p.extract bg k) (by rw [e]; simp)
    rw [hn] at this; cases this)]
theorem PaWay.next {p : ByteArray} {k bg : Nat} {done : List ByteArray} (h : PaWay p k bg done) (hk : k ≤ p.size) (hc : k < p.size → bt p k = 47) (hn : nameB (p.extract bg k) = true) : PaWay p (k + 1) (k + 1) (done ++ [p.extract bg k]) := by
  refine ⟨fun q => (h.open' hk).next (by omega) (hc (by omega)) hn, fun q => ⟨(h.open' hk).fin (by omega), fun s hs => ?_⟩⟩
  rcases List.mem_append.1 hs with q | q
  · exact (h.open' hk).names s q
  · simp at q; subst q; exact hn
theorem PaWay.step {p : ByteArray} {k bg : Nat} {done : List ByteArray} (h : PaWay p k bg done) (hk : k < p.size) (hc : bt p k ≠ 47) : PaWay p (k + 1) bg done := ⟨fun _ => (h.open' (by omega)).step hc, fun q => by omega⟩
theorem PaWay.done {p : ByteArray} {k bg : Nat} {done : List ByteArray} (h : PaWay p k bg done) (h1 : 1 < p.size) (h0 : bt p 0 = 47) (hk : p.size < k) : splitB p = if done.length ≤ 4 then (done, true) else ([], false) := by
  obtain ⟨e, hn⟩ := h.fin hk
  rw [splitB_rest h1 h0, e]
  by_cases q : done.length ≤ 4
  · rw [if_pos ⟨hn, q⟩, if_pos q]
  · rw [if_neg (fun k => q k.2), if_neg q]
set_option maxRecDepth 100000 in
set_option maxHeartbeats 2000000 in
theorem specSplitPath (p : ByteArray) (w : World) (hs : p.size ≤ 1048576) : Calls Tryd.prog 61 #[.string p] w fun e w' => OPost (splitB p) w e w' := by
  obtain ⟨i0, hi, hz0, hz1, hz2⟩ := info_parts infoTextG
  have hb := Go.PlainAid.get_bt p
  have hal : Below w.heap.size w (w.alloc (.cells #[] 9)) := (Below.refl _ _).alloc (Nat.le_refl _) _
  have HAL := Shut.mk hal
  have HOW := Shut.mk (own_made0 (Below.refl w.heap.size w))
  clear hal
  by_cases h0 : p.size = 0
  · have HE := Shut.mk (splitB_first (.inl h0))
    have h0' : ((p.size : Int) == 0) = true := by rw [h0]; rfl
    go_enter Tryd.func61, Tryd.ntmps61
    go_wp2_with fail
    go_ret2
    exact OPost.none HE.out HOW.out HAL.out
  have h0' : ((p.size : Int) == 0) = false := by rw [beq_eq_false_iff_ne]; omega
  have h0n : 0 < p.size := by omega
  have h0i : (0 : Int) < (p.size : Int) := by omega
  have b0 := Go.PlainAid.bt_nonneg p 0
  have b1 := Go.PlainAid.bt_le p 0
  by_cases hc : bt p 0 = 47
  case neg =>
    have HE := Shut.mk (splitB_first (.inr hc))
    have hc' : (bt p 0 != 47) = true := by rw [bne_iff_ne]; exact hc
    go_enter Tryd.func61, Tryd.ntmps61
    go_wp2_with fail
    go_ret2
    exact OPost.none HE.out HOW.out HAL.out
  have hc' : (bt p 0 != 47) = false := by rw [hc]; rfl
  have HC := Shut.mk hc
  clear hc
  by_cases h1 : p = ⟨#[47]⟩
  · have HE := Shut.mk (splitB_one h1)
    have h1' : (p.toList == [47]) = true := by rw [h1, Go.ByteArray.toList_eq]; rfl
    have HP := Shut.mk h1
    clear h1
    go_enter Tryd.func61, Tryd.ntmps61
    go_wp2_with fail
    go_ret2
    exact OPost.none HE.out HOW.out HAL.out
  have h1' : (p.toList == [47]) = false := by
    rw [beq_eq_false_iff_ne]
    intro e
    rw [Go.ByteArray.toList_eq] at e
    exact h1 (ByteArray.ext (Array.toList_inj.1 e))
  have hsz : 1 < p.size := by
    by_cases e : p.size = 1
    · exact absurd (one_slash e HC.out) h1
    · omega
  clear h1
  go_enter Tryd.func61, Tryd.ntmps61
  go_wp2_with fail
  go_loopw [4, 5, 6] (fun v bg i wr => ∃ (k g : Nat) (done : List ByteArray) (vv : Value), vv = v ∧ bg = .int .i64 g ∧ i = .int .i64 k ∧ k ≤ p.size + 1 ∧ g ≤ k ∧ done.length ≤ k ∧ Shut (PaWay p k g done) ∧ Shut (wr.ownsRow w.heap.size 9 1 vv done.length (tv done)) ∧ Shut (Below w.heap.size w wr)) (fun _ _ i _ => p.size + 1 - (intOf i).toNat)
  case atStart => exact ⟨1, 1, [], _, rfl, rfl, rfl, by omega, by omega, by simp, ⟨⟨fun _ => PaRel.start, fun h => by omega⟩⟩, HOW, HAL⟩
  case round =>
    clear HOW HAL
    obtain ⟨k, g, done, v, rfl, rfl, rfl, hk, hgk, hdk, hway, hown, hbl⟩ := hrel
    have hB := hbl.out.size
    by_cases hlt : k < p.size
    · have c0 := Go.PlainAid.bt_nonneg p k
      have c1 := Go.PlainAid.bt_le p k
      have k1 : (k : Int) ≤ (p.size : Int) := by omega
      have k2 : (k : Int) < (p.size : Int) := by omega
      have k3 : (0 : Int) ≤ (k : Int) := by omega
      by_cases hne : bt p k = 47
      · have hne' : (bt p k != 47) = false := by rw [hne]; rfl
        have hsl := slice_str p g k hgk (by omega)
        have hes : (p.extract g k).size ≤ 1048576 := by rw [ByteArray.size_extract]; omega
        have HN := Shut.mk (fun W => specNameOk (p.extract g k) W hes)
        have HNE := Shut.mk hne
        clear hne
        cases hn : nameB (p.extract g k) with
        | false =>
          have HE := Shut.mk (hway.out.bad hsz HC.out (by omega) (fun _ => HNE.out) hn)
          rw [hn] at HN
          clear hn
          go_wp2_with fail
          refine (HN.out _).mono ?_
          rintro e w2 ⟨rfl, hb2⟩
          have HB2 := Shut.mk (hbl.out.trans (hb2.mono hbl.out.size))
          clear hb2
          go_wp2_with fail
          go_ret2
          exact OPost.none HE.out (own_made0 HB2.out) (HB2.out.alloc HB2.out.size _)
        | true =>
          have HE := Shut.mk (hway.out.next (by omega) (fun _ => HNE.out) hn)
          rw [hn] at HN
          clear hn
          generalize p.extract g k = x at *
          go_wp2_with fail
          refine (HN.out _).mono ?_
          rintro e w2 ⟨rfl, hb2⟩
          have HB2 := Shut.mk (hbl.out.trans (hb2.mono hbl.out.size))
          have hB2 := HB2.out.size
          have hown2 := hown.out.kept (row := none) ⟨hb2.os, hb2.tape, hb2.output, hb2.size, fun k hk _ => hb2.block k hk⟩ (Classical.em _)
          clear hb2 HN hway hown
          go_wp2_with (at_builtin; refine wpList_append_own _ rfl _ _ 46 rfl w.heap.size 9 i0 (.string ⟨#[]⟩) 1 16 Tryd.underlying46 hi hz0 hz1 hz2 rfl (by decide) _ _ _ rfl (hown2.alloc _) ⟨w2.heap.size, 0, none⟩ 1 1 [.string x] rfl rfl (cell_one_new _ _ _) ?c2 ?c3 ?c4 ?c5 ?_)
          case c2 => first | rfl | (intro u hu; simp at hu; subst hu; rfl)
          case c3 => unfold maxLen; omega
          case c4 => omega
          case c5 => first | omega | (simp; omega)
          intro v' w4 hown' hgrow _
          rw [tv_snoc] at hown'
          have Q1 : Shut (w4.ownsRow w.heap.size 9 1 v' (done ++ [x]).length (tv (done ++ [x]))) := ⟨by rw [List.length_append, List.length_singleton]; exact hown'⟩
          have Q2 := Shut.mk ((HB2.out.alloc hB2 (.cells #[.string x] 9)).grown hgrow (by simp; omega) (fun j hj => (hown2.lt j hj).1))
          clear hown' hgrow hown2
          go_wp2_with fail
          go_roundw
          case rel => exact ⟨k + 1, k + 1, _, v', rfl, by go_num, by go_num, by omega, by omega, by rw [List.length_append, List.length_singleton]; omega, HE, Q1, Q2⟩
          case measure => simp [intOf]; omega
      · have hne' : (bt p k != 47) = true := by rw [bne_iff_ne]; exact hne
        have HE := Shut.mk (hway.out.step hlt hne)
        go_wp2_with fail
        go_roundw
        case rel => exact ⟨k + 1, g, done, v, rfl, rfl, by go_num, by omega, by omega, by omega, HE, hown, hbl⟩
        case measure => simp [intOf]; omega
    · by_cases hek : k = p.size
      · have k1 : (k : Int) ≤ (p.size : Int) := by omega
        have k2 : ¬ (k : Int) < (p.size : Int) := by omega
        have hsl := slice_str p g k hgk (by omega)
        have hes : (p.extract g k).size ≤ 1048576 := by rw [ByteArray.size_extract]; omega
        have HN := Shut.mk (fun W => specNameOk (p.extract g k) W hes)
        have HK : Hid (k = p.size) := hek
        clear hek
        cases hn : nameB (p.extract g k) with
        | false =>
          have HE := Shut.mk (hway.out.bad hsz HC.out (by omega) (fun q => by omega) hn)
          rw [hn] at HN
          clear hn
          go_wp2_with fail
          refine (HN.out _).mono ?_
          rintro e w2 ⟨rfl, hb2⟩
          have HB2 := Shut.mk (hbl.out.trans (hb2.mono hbl.out.size))
          clear hb2
          go_wp2_with fail
          go_ret2
          exact OPost.none HE.out (own_made0 HB2.out) (HB2.out.alloc HB2.out.size _)
        | true =>
          have HE := Shut.mk (hway.out.next (by omega) (fun q => by omega) hn)
          rw [hn] at HN
          clear hn
          generalize p.extract g k = x at *
          go_wp2_with fail
          refine (HN.out _).mono ?_
          rintro e w2 ⟨rfl, hb2⟩
          have HB2 := Shut.mk (hbl.out.trans (hb2.mono hbl.out.size))
          have hB2 := HB2.out.size
          have hown2 := hown.out.kept (row := none) ⟨hb2.os, hb2.tape, hb2.output, hb2.size, fun k hk _ => hb2.block k hk⟩ (Classical.em _)
          clear hb2 HN hway hown
          go_wp2_with (at_builtin; refine wpList_append_own _ rfl _ _ 46 rfl w.heap.size 9 i0 (.string ⟨#[]⟩) 1 16 Tryd.underlying46 hi hz0 hz1 hz2 rfl (by decide) _ _ _ rfl (hown2.alloc _) ⟨w2.heap.size, 0, none⟩ 1 1 [.string x] rfl rfl (cell_one_new _ _ _) ?c2 ?c3 ?c4 ?c5 ?_)
          case c2 => first | rfl | (intro u hu; simp at hu; subst hu; rfl)
          case c3 => unfold maxLen; omega
          case c4 => omega
          case c5 => first | omega | (simp; omega)
          intro v' w4 hown' hgrow _
          rw [tv_snoc] at hown'
          have Q1 : Shut (w4.ownsRow w.heap.size 9 1 v' (done ++ [x]).length (tv (done ++ [x]))) := ⟨by rw [List.length_append, List.length_singleton]; exact hown'⟩
          have Q2 := Shut.mk ((HB2.out.alloc hB2 (.cells #[.string x] 9)).grown hgrow (by simp; omega) (fun j hj => (hown2.lt j hj).1))
          clear hown' hgrow hown2
          go_wp2_with fail
          go_roundw
          case rel => exact ⟨k + 1, k + 1, _, v', rfl, by go_num, by go_num, by omega, by omega, by rw [List.length_append, List.length_singleton]; omega, HE, Q1, Q2⟩
          case measure => simp [intOf]; omega
      · have k1 : ¬ (k : Int) ≤ (p.size : Int) := by omega
        have hfin := hway.out.done hsz HC.out (by omega)
        have hown2 := hown.out
        obtain ⟨a, cap, rfl⟩ : ∃ a cap, v = .slice a done.length cap := by
          rcases hown2.2 with ⟨e, h0⟩ | ⟨g, cap, _, e, _⟩
          · exact ⟨none, 0, by rw [e, h0]⟩
          · exact ⟨_, cap, e⟩
        clear hown2
        by_cases h4 : done.length ≤ 4
        · have HE := Shut.mk (show splitB p = (done, true) by rw [hfin, if_pos h4])
          have h4' : ¬ (4 : Int) < (done.length : Int) := by omega
          clear hfin hway
          go_wp2_with fail
          go_ret2
          exact OPost.some HE.out hown.out hbl.out
        · have HE := Shut.mk (show splitB p = ([], false) by rw [hfin, if_neg h4])
          have h4' : (4 : Int) < (done.length : Int) := by omega
          clear hfin hway
          go_wp2_with fail
          go_ret2
          exact OPost.none HE.out (own_made0 hbl.out) (hbl.out.alloc hbl.out.size _)
/-- A path, name by name. -/
def joinA (L : List ByteArray) : ByteArray := ba ((L.map lb).map (47 :: ·)).flatten
theorem joinA_snoc (L : List ByteArray) (x : ByteArray) : joinA (L ++ [x]) = (joinA L ++ ⟨#[47]⟩) ++ x := by
  apply ByteArray.ext
  unfold joinA
  simp
theorem joinA_size (L : List ByteArray) : (joinA L).size = L.length + tsum L := by
  induction L with
  | nil => rfl
  | cons x L ih =>
    have e : joinA (x :: L) = (⟨#[47]⟩ : ByteArray) ++ x ++ joinA L := by
      apply ByteArray.ext
      unfold joinA
      simp
    rw [e, ByteArray.size_append, ByteArray.size_append, ih]
    simp only [tsum, List.length_cons]
    have : (⟨#[47]⟩ : ByteArray).size = 1 := rfl
    omega
theorem joinB_ne {L : List ByteArray} (h : L ≠ []) : joinB L = joinA L := by
  unfold joinB joinP joinA
  rw [if_neg (fun e => h (List.map_eq_nil_iff.1 e))]
set_option maxHeartbeats 1000000 in
theorem specJoinPath {w : World} {v : Value} {L : List ByteArray} {lo hi : Nat} (hv : SSee w v L lo hi) (hf : TFit L) : Calls Tryd.prog 62 #[v] w fun e w' => e = .returned (.string (joinB L)) ∧ Below w.heap.size w w' := by
  obtain ⟨a, cap, rfl, hr⟩ := hv
  have hn : L.length + tsum L ≤ 1048576 := hf
  by_cases h0 : L = []
  · subst h0
    clear hr hf hn
    go_enter Tryd.func62, Tryd.ntmps62
    go_wp2_with fail
    go_ret
    exact ⟨rfl, Below.refl _ _⟩
  · have HE := Shut.mk (joinB_ne h0)
    have h1 : 0 < L.length := List.length_pos_iff.2 h0
    have h1' : ((L.length : Int) == 0) = false := by rw [beq_eq_false_iff_ne]; omega
    have HR := Shut.mk hr
    clear hr h0 hf
    go_enter Tryd.func62, Tryd.ntmps62
    go_wp2_with fail
    go_loopw [3, 4] (fun s i wr => ∃ (k : Nat), i = .int .i64 k ∧ k ≤ L.length ∧ s = .string (joinA (L.take k)) ∧ Shut (Below w.heap.size w wr)) (fun _ i _ => L.length - (intOf i).toNat)
    case atStart => exact ⟨0, rfl, Nat.zero_le _, rfl, ⟨Below.refl _ _⟩⟩
    case round =>
      obtain ⟨k, rfl, hk, rfl, hbl⟩ := hrel
      by_cases hlt : k < L.length
      · obtain ⟨b, off, rfl, lb', hc⟩ := units_at HR.out (by omega)
        have d0 := (hbl.out.cell (p := ⟨b, off + k, none⟩) lb').trans (hc k hlt)
        have k0 : (0 : Int) ≤ (k : Int) := by omega
        have k1 : (k : Int) < (L.length : Int) := by omega
        have hst : joinA (L.take (k + 1)) = (joinA (L.take k) ++ ⟨#[47]⟩) ++ L.getD k ⟨#[]⟩ := by
          rw [List.take_succ_eq_append_getElem hlt, joinA_snoc]
          simp [List.getD, hlt]
        have hz1 := joinA_size (L.take k)
        have hz2 := tsum_le L k
        have hz3 : (L.take k).length ≤ L.length := by rw [List.length_take]; omega
        have hz4 := tsum_take L k hlt
        have hz5 := tsum_le L (k + 1)
        generalize L.getD k ⟨#[]⟩ = x at *
        have hja : (joinA (L.take k)).size + x.size + 1 ≤ 2097152 := by omega
        generalize joinA (L.take k) = J at *
        have HST := Shut.mk hst
        clear hst hc hz1 hz2 hz3 hz4 hz5
        go_wp2_with fail
        go_roundw
        case rel => exact ⟨k + 1, by go_num, by omega, by rw [HST.out], hbl⟩
        case measure => simp [intOf]; omega
      · have hlt' : ¬ (k : Int) < (L.length : Int) := by omega
        have HF : Shut (joinA (L.take k) = joinB L) := ⟨by rw [List.take_of_length_le (by omega), HE.out]⟩
        generalize joinA (L.take k) = J at *
        go_wp2_with fail
        go_ret
        exact ⟨congrArg (fun x => Ending.returned (.string x)) HF.out, hbl.out⟩
end Go.Proofs.YtoglebfiobofoaaDoor
/- PathC: The walk of the model's ParentPath; what is told of the program's own functions over paths. -/
namespace Go.Proofs.YtoglebfiobofoaaDoor
set_option maxRecDepth 100000
open Go.RowKit
open Go.PlainAid (bt)
attribute [local go_sem ↓] Go.wp_at_zero Go.wp_at_succ

def ParPost (p : ByteArray) (w : World) (e : Ending) (w' : World) : Prop := e = .returned (.tuple #[.string (parentB p).1, .string (parentB p).2.1, .bool (parentB p).2.2]) ∧ Below w.heap.size w w'
theorem parent_no {p : ByteArray} {L : List ByteArray} {ok : Bool} (h : splitB p = (L, ok)) (hn : ok = false ∨ L = []) : parentB p = (⟨#[]⟩, ⟨#[]⟩, false) := by
  unfold parentB
  rw [h]
  rw [if_neg (fun q => by
    rcases hn with e | e
    · rw [e] at q; cases q.1
    · exact q.2 e)]
theorem parent_yes {p : ByteArray} {I : List ByteArray} {x : ByteArray} (h : splitB p = (I ++ [x], true)) : parentB p = (joinB I, x, true) := by
  unfold parentB
  rw [h, if_pos ⟨rfl, by simp⟩]
  simp
theorem names_fit {L : List ByteArray} (h : ∀ s ∈ L, nameB s = true) (h4 : L.length ≤ 4) : TFit L := by
  have hs : ∀ s ∈ L, s.size ≤ 8 := fun s hs => ((nameB_iff s).1 (h s hs)).2.2
  have : tsum L ≤ L.length * 8 := by
    clear h h4
    induction L with
    | nil => simp [tsum]
    | cons x L ih =>
      simp only [tsum, List.length_cons, Nat.add_mul, Nat.one_mul]
      have h1 := hs x (by simp)
      have h2 := ih (fun s h => hs s (by simp [h]))
      omega
  unfold TFit
  omega
theorem own_form9 {w : World} {B n : Nat} {t : TypeId} {v : Value} {L : List Value} (h : w.ownsRow B t 1 v n L) : ∃ a cap, v = .slice a n cap := by
  rcases h.2 with ⟨e, h0⟩ | ⟨g, cap, _, e, _⟩
  · exact ⟨none, 0, by rw [e, h0]⟩
  · exact ⟨_, cap, e⟩
theorem own_some9 {w : World} {B n : Nat} {t : TypeId} {v : Value} {L : List Value} (h : w.ownsRow B t 1 v n L) (hp : 0 < n) : ∃ g cap, v = .slice (some ⟨g, 0, none⟩) n cap ∧ n ≤ cap := by
  rcases h.2 with ⟨_, h0⟩ | ⟨g, cap, _, e, _, _, hc, _⟩
  · omega
  · exact ⟨g, cap, e, hc⟩
theorem own_part9 {w : World} {g cap B n k : Nat} {L : List ByteArray} (hown : w.ownsRow B 9 1 (.slice (some ⟨g, 0, none⟩) n cap) n (tv L)) (hk : k ≤ L.length) : SSee w (.slice (some ⟨g, 0, none⟩) k cap) (L.take k) 0 w.heap.size := by
  have hw := own_wcells hown
  refine ⟨_, cap, by rw [List.length_take, Nat.min_eq_left hk], fun _ => ⟨g, 0, rfl, Nat.zero_le _, hw.1, hw.1, fun i v hv => ?_⟩⟩
  rw [Nat.zero_add]
  have hv' : (tv L)[i]? = some v := by
    unfold tv at hv ⊢
    rw [List.map_take] at hv
    rw [List.getElem?_take] at hv
    split at hv
    · exact hv
    · cases hv
  exact (hw.2 i v hv').1
set_option maxRecDepth 100000 in
set_option maxHeartbeats 2000000 in
theorem specParentPath (p : ByteArray) (w : World) (hs : p.size ≤ 1048576) : Calls Tryd.prog 51 #[.string p] w fun e w' => ParPost p w e w' := by
  have HS := Shut.mk (fun W => specSplitPath p W hs)
  have hnm := splitB_names p
  unfold OPost at HS
  unfold ParPost
  obtain ⟨L, ok, hre⟩ : ∃ L ok, splitB p = (L, ok) := ⟨_, _, rfl⟩
  rw [hre] at HS hnm
  have HN := Shut.mk hnm
  clear hnm
  cases ok with
  | false =>
    rw [parent_no hre (.inl rfl)]
    clear hre
    go_enter Tryd.func51, Tryd.ntmps51
    go_wp2_with fail
    refine (HS.out _).mono ?_
    rintro e w1 ⟨v, rfl, ho, hb⟩
    obtain ⟨a, cap, rfl⟩ := own_form9 ho
    have HB := Shut.mk hb
    clear ho hb
    go_wp2_with fail
    go_ret3
    exact ⟨rfl, HB.out⟩
  | true =>
    rcases List.eq_nil_or_concat L with rfl | ⟨I, x, rfl⟩
    · rw [parent_no hre (.inr rfl)]
      clear hre
      go_enter Tryd.func51, Tryd.ntmps51
      go_wp2_with fail
      refine (HS.out _).mono ?_
      rintro e w1 ⟨v, rfl, ho, hb⟩
      obtain ⟨a, cap, rfl⟩ := own_form9 ho
      have HB := Shut.mk hb
      clear ho hb
      go_wp2_with fail
      go_ret3
      exact ⟨rfl, HB.out⟩
    · rw [List.concat_eq_append] at *
      rw [parent_yes hre]
      obtain ⟨J, hJ⟩ : ∃ J, J = joinB I := ⟨_, rfl⟩
      have HJE := Shut.mk hJ
      rw [← hJ]
      clear hJ
      have h4 := HN.out.2
      have HF : Shut (TFit I) := ⟨names_fit (fun s h => HN.out.1 s (List.mem_append.2 (.inl h))) (by rw [List.length_append] at h4; omega)⟩
      obtain ⟨m, hm⟩ : ∃ m, m = I.length := ⟨_, rfl⟩
      have HM := Shut.mk hm
      have hm4 : m ≤ 4 := by rw [List.length_append] at h4; omega
      rw [show (I ++ [x], true).1.length = m + 1 by simp [hm]] at HS
      clear hre h4 hm
      go_enter Tryd.func51, Tryd.ntmps51
      go_wp2_with fail
      refine (HS.out _).mono ?_
      rintro e w1 ⟨v, rfl, ho, hb⟩
      obtain ⟨g, cap, rfl, hcap⟩ := own_some9 ho (by omega)
      have hw := own_wcells ho
      have d0 : w1.cell? ⟨g, m, none⟩ = some (.string x) := (hw.2 m (.string x) (by
        rw [tv_get _ m (by rw [List.length_append, HM.out]; simp)]
        simp [List.getD, HM.out])).1
      have hg := hw.1
      have hsee := own_part9 (k := m) ho (by rw [List.length_append, HM.out]; simp)
      rw [show (I ++ [x]).take m = I by rw [HM.out]; simp] at hsee
      have HJ := Shut.mk (fun W (hW : Below w1.heap.size w1 W) => specJoinPath (hsee.below hW) HF.out)
      have HB := Shut.mk hb
      have hm0 : (((m + 1 : Nat) : Int) == 0) = false := by rw [beq_eq_false_iff_ne]; omega
      obtain ⟨n, hn⟩ : ∃ n, n = m + 1 := ⟨_, rfl⟩
      rw [← hn] at hcap hm0 ⊢
      have hnm : (n : Int) - 1 = (m : Int) := by omega
      have hmn : (m : Int) < (n : Int) := by omega
      have hmc : (m : Int) ≤ (cap : Int) := by omega
      have hm9 : (0 : Int) ≤ (m : Int) := by omega
      have hwr : IntKind.i64.wrap ((n : Int) - 1) = (m : Int) := by rw [hnm]; exact IntWalk.i64_in _ ⟨by omega, by omega⟩
      rw [← HJE.out] at HJ
      clear ho hb hw hsee hn HN HM hnm
      go_wp2_with fail
      go_region_held3 (fun w' => w'.cell? ⟨g, m, none⟩ = some (.string x))
        (first | assumption | (exact (hb9.cell (p := ⟨g, m, none⟩) hg).trans (by assumption)) | go_keep)
        (first | (go_at_call 62; refine (HJ.out _ (by first | exact Below.refl _ _ | exact Below.drew (Below.refl _ _))).mono ?_; rintro e w9 ⟨rfl, hb9⟩))
      all_goals
        go_wp2_with fail
        go_ret3
        exact ⟨rfl, by first | exact HB.out.trans (hb9.mono HB.out.size) | exact HB.out.trans (((Below.drew (Below.refl w1.heap.size w1)).trans hb9).mono HB.out.size)⟩
end Go.Proofs.YtoglebfiobofoaaDoor
/- GrwA: A region that draws its order, whose operations only read and whose callees make new memory alone and answer one value wherever they are called: one walk, in the text's order. -/
namespace Go.Proofs.YtoglebfiobofoaaDoor
set_option maxRecDepth 100000
open Go.RowKit

/-- A world with more memory. -/
structure Grow (w : World) where
  val : World
  bel : Below w.heap.size w val
instance {w : World} : Nonempty (Grow w) := ⟨⟨w, Below.refl _ _⟩⟩
theorem wp_region_grow {P : Program} {id : Nat} {Q : Exit → Act → World → Prop} {a : Act} {w : World} {l : List Oper} (hm : P.follows .mixedOrders = true) (hB : Region.lexB .any l.toArray = true)
    (h : wpQuiet P l.toArray (fun W => ∃ X : Grow w, W = X.val) (fun a' => ∀ w', (∃ X : Grow w, w' = X.val) → Q .normal a' w') l a) : (Code.region id l.toArray true).wp P Q a w :=
  wp_region_quiet (C := fun W => ∃ X : Grow w, W = X.val) hm hB ⟨⟨w.drew, Below.drew (Below.refl _ _)⟩, rfl⟩ (by simpa using h)
theorem Grow.cell {w : World} (X : Grow w) {p : Addr} {v : Value} (h : w.cell? p = some v) (hl : p.block < w.heap.size) : X.val.cell? p = some v := (X.bel.cell hl).trans h
theorem calls_grow {P : Program} {f : FuncId} {args : Array Value} {w : World} {v : Value} (h : ∀ W, Below w.heap.size w W → Calls P f args W fun e w' => e = .returned v ∧ Below W.heap.size W w') (X : Grow w) :
    Calls P f args X.val fun e w'' => e = .returned v ∧ ∃ Y : Grow w, w'' = Y.val :=
  (h X.val X.bel).mono fun _ w'' ⟨he, hb⟩ => ⟨he, ⟨w'', X.bel.trans (hb.mono X.bel.size)⟩, rfl⟩
theorem calls_same {P : Program} {f : FuncId} {args : Array Value} {w : World} {v : Value} (h : ∀ W, Below w.heap.size w W → Calls P f args W fun e w' => e = .returned v ∧ w' = W) (X : Grow w) :
    Calls P f args X.val fun e w'' => e = .returned v ∧ ∃ Y : Grow w, w'' = Y.val :=
  (h X.val X.bel).mono fun _ _ ⟨he, hb⟩ => ⟨he, X, hb⟩
end Go.Proofs.YtoglebfiobofoaaDoor
/- EdA: Records, plain, and as values; the model's EditOk. -/
namespace Go.Proofs.YtoglebfiobofoaaDoor
set_option maxRecDepth 100000
open Go.RowKit BigFrame
attribute [local go_sem ↓] Go.wp_at_zero Go.wp_at_succ

/-- A record. -/
structure EM where
  kind : Int
  path : ByteArray
  dest : ByteArray
  num : Int
  who : Int
instance : Inhabited EM := ⟨⟨0, ⟨#[]⟩, ⟨#[]⟩, 0, 0⟩⟩
abbrev ev (e : EM) : Value := .agg #[.int .i64 e.kind, .string e.path, .string e.dest, .int .i64 e.num, .int .i64 e.who]
def ecells (e : EM) : List Value := [.int .i64 e.kind, .string e.path, .string e.dest, .int .i64 e.num, .int .i64 e.who]
theorem ecells_len (e : EM) : (ecells e).length = 5 := rfl
/-- A record whose texts a machine can hold. -/
def EFit (e : EM) : Prop := e.path.size ≤ 1048576 ∧ e.dest.size ≤ 1048576
/-- A path that is not the root's. -/
def named (p : ByteArray) : Bool := (parentB p).2.2
/-- What is wrong with a record's paths. -/
def pathBad (e : EM) : Bool := (!named e.path && !(((e.kind == 5) || (e.kind == 6)) && (e.path.toList == [47]))) || ((e.kind == 3) != named e.dest) || ((e.kind != 3) && (e.dest.toList != []))
/-- Its numbers, by its kind. -/
def numsOk (e : EM) : Bool := if e.kind = 5 then inI e.num 1 3 && (e.who == 0) else if e.kind = 6 then inI e.num 0 1000 && (e.who == 0) else if e.kind = 7 then inI e.num 1 200 && (e.who == 0) else if e.kind = 2 ∨ e.kind = 9 then (e.num == 0) && inI e.who 1 9 else (e.num == 0) && (e.who == 0)
/-- A right record. -/
def editOk (e : EM) : Bool := inI e.kind 1 10 && (if e.kind = 10 then (e.path.toList == [47]) && (e.dest.toList == []) && (e.num == 0) && (e.who == 0) else !pathBad e && numsOk e)
theorem specNamed (p : ByteArray) (w : World) (hs : p.size ≤ 1048576) : Calls Tryd.prog 41 #[.string p] w fun e w' => e = .returned (.bool (named p)) ∧ Below w.heap.size w w' := by
  have HC := Shut.mk (fun W => specParentPath p W hs)
  unfold ParPost at HC
  have e0 : named p = (parentB p).2.2 := rfl
  rw [e0]
  generalize (parentB p).2.2 = a at *
  generalize (parentB p).2.1 = b at *
  generalize (parentB p).1 = c at *
  clear hs e0
  go_enter Tryd.func41, Tryd.ntmps41
  go_wp2_with fail
  refine (HC.out _).mono ?_
  rintro e w1 ⟨rfl, hb⟩
  go_wp2_with fail
  go_ret
  exact ⟨rfl, hb⟩
end Go.Proofs.YtoglebfiobofoaaDoor
/- EdB: The model's EditOk. -/
namespace Go.Proofs.YtoglebfiobofoaaDoor
set_option maxRecDepth 100000
open Go.RowKit BigFrame
attribute [local go_sem ↓] Go.wp_at_zero Go.wp_at_succ

set_option maxRecDepth 100000 in
set_option maxHeartbeats 2000000 in
theorem specEditOk (e : EM) (w : World) (hf : EFit e) : Calls Tryd.prog 27 #[ev e] w fun r w' => r = .returned (.bool (editOk e)) ∧ Below w.heap.size w w' := by
  have hnp := fun W => specNamed e.path W hf.1
  have hnt := fun W => specNamed e.dest W hf.2
  obtain ⟨R, hR⟩ : ∃ R, R = editOk e := ⟨_, rfl⟩
  rw [← hR]
  obtain ⟨bad, hbad⟩ : ∃ b, b = pathBad e := ⟨_, rfl⟩
  have hRR : R = (inI e.kind 1 10 && (if e.kind = 10 then (e.path.toList == [47]) && (e.dest.toList == []) && (e.num == 0) && (e.who == 0) else !bad && numsOk e)) := by rw [hR, hbad]; rfl
  obtain ⟨np, hnp'⟩ : ∃ b, b = named e.path := ⟨_, rfl⟩
  obtain ⟨nt, hnt'⟩ : ∃ b, b = named e.dest := ⟨_, rfl⟩
  rw [← hnp'] at hnp
  rw [← hnt'] at hnt
  unfold pathBad at hbad
  rw [← hnp', ← hnt'] at hbad
  unfold numsOk at hRR
  have HR := Shut.mk hRR
  have HNPC := Shut.mk hnp
  have HNTC := Shut.mk hnt
  have HBD := Shut.mk hbad
  clear hf hnp hnt hR hbad hnp' hnt' hRR
  obtain ⟨kind, path, dest, num, who⟩ := e
  dsimp only at *
  by_cases h1 : inI kind 1 10 = true
  case neg =>
    have HF : Shut (R = false) := ⟨by rw [HR.out]; simp [h1]⟩
    have HI := Shut.mk (fun W => isInI kind 1 10 W false (by simpa using h1))
    clear h1 HR
    go_enter Tryd.func27, Tryd.ntmps27
    go_wp2_with (go_at_call 29; refine (HI.out _).mono ?_; rintro r w1 ⟨rfl, rfl⟩)
    go_ret
    exact ⟨by rw [HF.out]; rfl, (Below.refl _ _).alloc (Nat.le_refl _) _⟩
  have HI := Shut.mk (fun W => isInI kind 1 10 W true h1)
  have HKB := Shut.mk (inI_iff.1 h1)
  have HIN := Shut.mk (fun x a b W => isInI x a b W _ rfl)
  rw [h1] at HR
  clear h1
  by_cases h10 : kind = 10
  · rw [if_pos h10] at HR
    subst h10
    go_enter Tryd.func27, Tryd.ntmps27
    go_wp2_with (go_at_call 29; refine (HI.out _).mono ?_; rintro r w1 ⟨rfl, rfl⟩)
    all_goals
      go_ret
      exact ⟨by rw [HR.out]; simp [*], (Below.refl _ _).alloc (Nat.le_refl _) _⟩
  · rw [if_neg h10] at HR
    have h10' : (kind == 10) = false := by simp [h10]
    obtain ⟨st, hst⟩ : ∃ b, b = ((kind == 5) || (kind == 6)) := ⟨_, rfl⟩
    obtain ⟨pr, hpr⟩ : ∃ b, b = (path.toList == [47]) := ⟨_, rfl⟩
    obtain ⟨k3, hk3⟩ : ∃ b, b = (kind == 3) := ⟨_, rfl⟩
    obtain ⟨te, hte⟩ : ∃ b, b = (dest.toList == []) := ⟨_, rfl⟩
    have HBD' : Shut (bad = ((!np && !(st && pr)) || (k3 != nt) || (!k3 && !te))) := ⟨by
      rw [HBD.out, ← hst, ← hpr, ← hk3]
      have e1 : (kind != 3) = !k3 := by rw [hk3]; rfl
      have e2 : (dest.toList != []) = !te := by rw [hte]; rfl
      rw [e1, e2]⟩
    have HST := Shut.mk hst
    go_enter Tryd.func27, Tryd.ntmps27
    go_upto_region 5 with (go_at_call 29; refine (HI.out _).mono ?_; rintro r w1 ⟨rfl, rfl⟩)
    refine wp_shade (fun W => Below w.heap.size w W ∧ WCells W w.heap.size [.int .i64 kind, .string path, .string dest, .int .i64 num, .int .i64 who]) ⟨(Below.refl _ _).alloc (Nat.le_refl _) _, wcells_new w #[.int .i64 kind, .string path, .string dest, .int .i64 num, .int .i64 who] 28⟩ ?_
    intro W hW
    have HW := Shut.mk hW
    have c0 := (hW.2.2 0 _ rfl).1
    have lw := hW.2.1
    have g0 : ∀ X : Grow W, X.val.cell? ⟨w.heap.size, 0, none⟩ = some (.int .i64 kind) := fun X => X.cell c0 lw
    have g1 : ∀ X : Grow W, X.val.cell? ⟨w.heap.size, 1, none⟩ = some (.string path) := fun X => X.cell (hW.2.2 1 _ rfl).1 lw
    have g2 : ∀ X : Grow W, X.val.cell? ⟨w.heap.size, 2, none⟩ = some (.string dest) := fun X => X.cell (hW.2.2 2 _ rfl).1 lw
    have HNP := Shut.mk (fun X => calls_grow (w := W) (fun W' (_ : Below W.heap.size W W') => HNPC.out W') X)
    have HNT := Shut.mk (fun X => calls_grow (w := W) (fun W' (_ : Below W.heap.size W W') => HNTC.out W') X)
    clear hW HI h10
    rw [HBD'.out] at HR
    clear HBD HBD'
    go_upto_region 5 with fail
    go_cut [3] from 29 to 36 (fun b wx => b = .bool st ∧ wx = W)
    case first =>
      by_cases h5 : kind = 5
      · have h5' : (kind == 5) = true := by simp [h5]
        have HSE : Shut (st = true) := ⟨by rw [HST.out]; simp [h5]⟩
        clear h5
        go_wp2_with fail
        go_meet
        case rel => exact ⟨by rw [HSE.out], rfl⟩
      · have h5' : (kind == 5) = false := by simp [h5]
        have HSE : Shut (st = (kind == 6)) := ⟨by rw [HST.out]; simp [h5]⟩
        clear h5
        go_wp2_with fail
        go_meet
        case rel => exact ⟨by rw [HSE.out], rfl⟩
    case rest =>
      obtain ⟨rfl, rfl⟩ := hcut
      have HSTT := HST
      have hpr' : (path.toList == [47]) = pr := hpr.symm
      have hk3' : (kind == 3) = k3 := hk3.symm
      have hk3n : (kind != 3) = !k3 := by rw [hk3]; rfl
      have hte' : (dest.toList == []) = te := hte.symm
      have hten : (dest.toList != []) = !te := by rw [hte]; rfl
      clear hpr hk3 hte hst c0
      go_upto_region 6 with fail
      go_cut [68] from 37 to 68 (fun b wx => b = .bool ((!np && !(st && pr)) || (k3 != nt) || (!k3 && !te)) ∧ Shut (Below w.heap.size w wx ∧ WCells wx w.heap.size [.int .i64 kind, .string path, .string dest, .int .i64 num, .int .i64 who]))
      case first =>
        clear HR HST HSTT
        cases np with
        | true =>
          cases k3 with
          | true =>
            cases nt with
            | true =>
              refine wp_region_grow (by kernel_rfl) (by kernel_rfl) ?_
              repeat (go_big_quiet_step (first | (go_at_call 41; first | with_reducible exact HNP.out _ | with_reducible exact HNT.out _)))
              refine wpQuiet_nil ?_
              rintro _ ⟨X, rfl⟩
              go_wp2_with fail
              go_meet
              case rel => exact ⟨rfl, ⟨HW.out.1.trans (X.bel.mono HW.out.1.size), HW.out.2.grow X.bel⟩⟩
            | false =>
              refine wp_region_grow (by kernel_rfl) (by kernel_rfl) ?_
              repeat (go_big_quiet_step (first | (go_at_call 41; first | with_reducible exact HNP.out _ | with_reducible exact HNT.out _)))
              refine wpQuiet_nil ?_
              rintro _ ⟨X, rfl⟩
              go_wp2_with fail
              go_meet
              case rel => exact ⟨rfl, ⟨HW.out.1.trans (X.bel.mono HW.out.1.size), HW.out.2.grow X.bel⟩⟩
          | false =>
            cases nt with
            | true =>
              refine wp_region_grow (by kernel_rfl) (by kernel_rfl) ?_
              repeat (go_big_quiet_step (first | (go_at_call 41; first | with_reducible exact HNP.out _ | with_reducible exact HNT.out _)))
              refine wpQuiet_nil ?_
              rintro _ ⟨X, rfl⟩
              go_wp2_with fail
              go_meet
              case rel => exact ⟨rfl, ⟨HW.out.1.trans (X.bel.mono HW.out.1.size), HW.out.2.grow X.bel⟩⟩
            | false =>
              cases te with
              | true =>
                refine wp_region_grow (by kernel_rfl) (by kernel_rfl) ?_
                repeat (go_big_quiet_step (first | (go_at_call 41; first | with_reducible exact HNP.out _ | with_reducible exact HNT.out _)))
                refine wpQuiet_nil ?_
                rintro _ ⟨X, rfl⟩
                go_wp2_with fail
                go_meet
                case rel => exact ⟨rfl, ⟨HW.out.1.trans (X.bel.mono HW.out.1.size), HW.out.2.grow X.bel⟩⟩
              | false =>
                refine wp_region_grow (by kernel_rfl) (by kernel_rfl) ?_
                repeat (go_big_quiet_step (first | (go_at_call 41; first | with_reducible exact HNP.out _ | with_reducible exact HNT.out _)))
                refine wpQuiet_nil ?_
                rintro _ ⟨X, rfl⟩
                go_wp2_with fail
                go_meet
                case rel => exact ⟨rfl, ⟨HW.out.1.trans (X.bel.mono HW.out.1.size), HW.out.2.grow X.bel⟩⟩
        | false =>
          cases st with
          | true =>
            cases pr with
            | true =>
              cases k3 with
              | true =>
                cases nt with
                | true =>
                  refine wp_region_grow (by kernel_rfl) (by kernel_rfl) ?_
                  repeat (go_big_quiet_step (first | (go_at_call 41; first | with_reducible exact HNP.out _ | with_reducible exact HNT.out _)))
                  refine wpQuiet_nil ?_
                  rintro _ ⟨X, rfl⟩
                  go_wp2_with fail
                  go_meet
                  case rel => exact ⟨rfl, ⟨HW.out.1.trans (X.bel.mono HW.out.1.size), HW.out.2.grow X.bel⟩⟩
                | false =>
                  refine wp_region_grow (by kernel_rfl) (by kernel_rfl) ?_
                  repeat (go_big_quiet_step (first | (go_at_call 41; first | with_reducible exact HNP.out _ | with_reducible exact HNT.out _)))
                  refine wpQuiet_nil ?_
                  rintro _ ⟨X, rfl⟩
                  go_wp2_with fail
                  go_meet
                  case rel => exact ⟨rfl, ⟨HW.out.1.trans (X.bel.mono HW.out.1.size), HW.out.2.grow X.bel⟩⟩
              | false =>
                cases nt with
                | true =>
                  refine wp_region_grow (by kernel_rfl) (by kernel_rfl) ?_
                  repeat (go_big_quiet_step (first | (go_at_call 41; first | with_reducible exact HNP.out _ | with_reducible exact HNT.out _)))
                  refine wpQuiet_nil ?_
                  rintro _ ⟨X, rfl⟩
                  go_wp2_with fail
                  go_meet
                  case rel => exact ⟨rfl, ⟨HW.out.1.trans (X.bel.mono HW.out.1.size), HW.out.2.grow X.bel⟩⟩
                | false =>
                  cases te with
                  | true =>
                    refine wp_region_grow (by kernel_rfl) (by kernel_rfl) ?_
                    repeat (go_big_quiet_step (first | (go_at_call 41; first | with_reducible exact HNP.out _ | with_reducible exact HNT.out _)))
                    refine wpQuiet_nil ?_
                    rintro _ ⟨X, rfl⟩
                    go_wp2_with fail
                    go_meet
                    case rel => exact ⟨rfl, ⟨HW.out.1.trans (X.bel.mono HW.out.1.size), HW.out.2.grow X.bel⟩⟩
                  | false =>
                    refine wp_region_grow (by kernel_rfl) (by kernel_rfl) ?_
                    repeat (go_big_quiet_step (first | (go_at_call 41; first | with_reducible exact HNP.out _ | with_reducible exact HNT.out _)))
                    refine wpQuiet_nil ?_
                    rintro _ ⟨X, rfl⟩
                    go_wp2_with fail
                    go_meet
                    case rel => exact ⟨rfl, ⟨HW.out.1.trans (X.bel.mono HW.out.1.size), HW.out.2.grow X.bel⟩⟩
            | false =>
              refine wp_region_grow (by kernel_rfl) (by kernel_rfl) ?_
              repeat (go_big_quiet_step (first | (go_at_call 41; first | with_reducible exact HNP.out _ | with_reducible exact HNT.out _)))
              refine wpQuiet_nil ?_
              rintro _ ⟨X, rfl⟩
              go_wp2_with fail
              go_meet
              case rel => exact ⟨rfl, ⟨HW.out.1.trans (X.bel.mono HW.out.1.size), HW.out.2.grow X.bel⟩⟩
          | false =>
            refine wp_region_grow (by kernel_rfl) (by kernel_rfl) ?_
            repeat (go_big_quiet_step (first | (go_at_call 41; first | with_reducible exact HNP.out _ | with_reducible exact HNT.out _)))
            refine wpQuiet_nil ?_
            rintro _ ⟨X, rfl⟩
            go_wp2_with fail
            go_meet
            case rel => exact ⟨rfl, ⟨HW.out.1.trans (X.bel.mono HW.out.1.size), HW.out.2.grow X.bel⟩⟩
      case rest =>
        obtain ⟨rfl, hV⟩ := hcut
        clear g0 g1 g2 HNP HNT HNPC HNTC HW HST HSTT lw hpr' hk3' hk3n hte' hten
        generalize ((!np && !(st && pr)) || (k3 != nt) || (!k3 && !te)) = bd at *
        have c0 := (hV.out.2.2 0 _ rfl).1
        have c3 := (hV.out.2.2 3 _ rfl).1
        have c4 := (hV.out.2.2 4 _ rfl).1
        cases bd with
        | true =>
          have HF : Shut (R = false) := ⟨by rw [HR.out]; rfl⟩
          clear HR
          go_wp2_with fail
          go_ret
          exact ⟨by rw [HF.out]; rfl, hV.out.1⟩
        | false =>
          by_cases k5 : kind = 5
          · have HRR : Shut (R = (inI num 1 3 && (who == 0))) := ⟨by rw [HR.out]; simp [k5]⟩
            subst k5
            clear HR
            go_wp2_with (go_at_call 29; refine (HIN.out _ _ _ _).mono ?_; rintro r w1 ⟨rfl, rfl⟩)
            all_goals
              go_ret
              exact ⟨by rw [HRR.out]; simp [*], hV.out.1⟩
          by_cases k6 : kind = 6
          · have HRR : Shut (R = (inI num 0 1000 && (who == 0))) := ⟨by rw [HR.out]; simp [k6]⟩
            subst k6
            clear HR
            go_wp2_with (go_at_call 29; refine (HIN.out _ _ _ _).mono ?_; rintro r w1 ⟨rfl, rfl⟩)
            all_goals
              go_ret
              exact ⟨by rw [HRR.out]; simp [*], hV.out.1⟩
          by_cases k7 : kind = 7
          · have HRR : Shut (R = (inI num 1 200 && (who == 0))) := ⟨by rw [HR.out]; simp [k7]⟩
            subst k7
            clear HR
            go_wp2_with (go_at_call 29; refine (HIN.out _ _ _ _).mono ?_; rintro r w1 ⟨rfl, rfl⟩)
            all_goals
              go_ret
              exact ⟨by rw [HRR.out]; simp [*], hV.out.1⟩
          by_cases k2 : kind = 2
          · have HRR : Shut (R = ((num == 0) && inI who 1 9)) := ⟨by rw [HR.out]; simp [k2]⟩
            subst k2
            clear HR
            go_wp2_with (go_at_call 29; refine (HIN.out _ _ _ _).mono ?_; rintro r w1 ⟨rfl, rfl⟩)
            all_goals
              go_ret
              exact ⟨by rw [HRR.out]; simp [*], hV.out.1⟩
          by_cases k9 : kind = 9
          · have HRR : Shut (R = ((num == 0) && inI who 1 9)) := ⟨by rw [HR.out]; simp [k9]⟩
            subst k9
            clear HR
            go_wp2_with (go_at_call 29; refine (HIN.out _ _ _ _).mono ?_; rintro r w1 ⟨rfl, rfl⟩)
            all_goals
              go_ret
              exact ⟨by rw [HRR.out]; simp [*], hV.out.1⟩
          have HRR : Shut (R = ((num == 0) && (who == 0))) := ⟨by rw [HR.out]; simp [k5, k6, k7, k2, k9]⟩
          clear HR
          have j5 : (kind == 5) = false := by simp [k5]
          have j6 : (kind == 6) = false := by simp [k6]
          have j7 : (kind == 7) = false := by simp [k7]
          have j2 : (kind == 2) = false := by simp [k2]
          have j9 : (kind == 9) = false := by simp [k9]
          clear k5 k6 k7 k2 k9
          go_wp2_with (go_at_call 29; refine (HIN.out _ _ _ _).mono ?_; rintro r w1 ⟨rfl, rfl⟩)
          all_goals
            go_ret
            exact ⟨by rw [HRR.out]; simp [*], hV.out.1⟩
end Go.Proofs.YtoglebfiobofoaaDoor
