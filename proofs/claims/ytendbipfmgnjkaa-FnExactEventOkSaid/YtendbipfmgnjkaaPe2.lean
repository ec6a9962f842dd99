/- Texts of ours, laid one behind the other: TreM, TreC, TreD, TreE, TreP, TreQ, StrsA, DecM, Dec, StrsB, TvA, StrV, PathA. -/
import Derived.Test.YtendbipfmgnjkaaPe1
import Derived.Deep.RegionHeld3
import Derived.Deep.DrawnRows
import Derived.Deep.CutRange
import Derived.BigQuiet
import Derived.Deep.QuietTactic
import Derived.PlainAid
import Derived.Deep.LoopGhost
/- TreM: Trees, plain: where a node is, right files, right directories, right trees. Nothing of the program is read here. -/
namespace Go.Proofs.Ytendbipfmgnjkaa
set_option maxRecDepth 100000

/-- The place of a node, -1 without one. -/
def atI (ns : List NM) (id : Int) : Int := match ns.findIdx? (fun n => n.id == id) with
  | some i => (i : Int)
  | none => -1
theorem atI_none {ns : List NM} {id : Int} (h : ∀ n ∈ ns, n.id ≠ id) : atI ns id = -1 := by
  unfold atI
  rw [List.findIdx?_eq_none_iff.2 (fun n hn => by simpa using h n hn)]
theorem atI_some {ns : List NM} {id : Int} {i : Nat} (hi : i < ns.length) (h : ns[i].id = id) (hl : ∀ j, j < i → ∀ hj : j < ns.length, ns[j].id ≠ id) : atI ns id = (i : Int) := by
  unfold atI
  have : ns.findIdx? (fun n => n.id == id) = some i := by
    rw [List.findIdx?_eq_some_iff_getElem]
    exact ⟨hi, by simpa using h, fun j hj => by simpa using hl j hj (by omega)⟩
  rw [this]
theorem atI_cases (ns : List NM) (id : Int) : (atI ns id = -1 ∧ ∀ n ∈ ns, n.id ≠ id) ∨ ∃ i, ∃ hi : i < ns.length, atI ns id = (i : Int) ∧ ns[i].id = id := by
  unfold atI
  cases h : ns.findIdx? (fun n => n.id == id) with
  | none =>
    left
    exact ⟨rfl, fun n hn => by have := List.findIdx?_eq_none_iff.1 h n hn; simpa using this⟩
  | some i =>
    right
    obtain ⟨hi, h1, _⟩ := List.findIdx?_eq_some_iff_getElem.1 h
    exact ⟨i, hi, rfl, by simpa using h1⟩
def inI (x a b : Int) : Bool := decide (a ≤ x) && decide (x ≤ b)
theorem inI_iff {x a b : Int} : inI x a b = true ↔ a ≤ x ∧ x ≤ b := by unfold inI; simp
def pieceOk (s : Int) (p : PM) : Bool := inI p.group 1 100000 && inI p.len 1 (groupN s : Nat)
/-- How many bytes pieces have. -/
def sumP : List PM → Int
  | [] => 0
  | p :: ps => p.len + sumP ps
theorem sumP_append (a b : List PM) : sumP (a ++ b) = sumP a + sumP b := by
  induction a with
  | nil => simp [sumP]
  | cons p a ih => simp only [List.cons_append, sumP, ih]; omega
theorem sumP_take (ps : List PM) (k : Nat) (h : k < ps.length) : sumP (ps.take (k + 1)) = sumP (ps.take k) + ps[k].len := by
  rw [List.take_succ_eq_append_getElem h, sumP_append]
  simp [sumP]
theorem sumP_ok {s : Int} {ps : List PM} (h : ∀ p ∈ ps, pieceOk s p = true) : 0 ≤ sumP ps ∧ sumP ps ≤ 32 * ps.length := by
  induction ps with
  | nil => simp [sumP]
  | cons p ps ih =>
    have h1 := ih (fun q hq => h q (by simp [hq]))
    have h2 := h p (by simp)
    unfold pieceOk at h2
    rw [Bool.and_eq_true, inI_iff, inI_iff] at h2
    have h3 := groupN_bounds s
    simp only [sumP, List.length_cons]
    push_cast
    omega
/-- Right for a file. -/
def fileOk (n : NM) : Bool := inI n.schema 1 3 && (n.quota == 0) && decide (n.pieces.length ≤ 40) && inI n.writer 0 9 && n.pieces.all (pieceOk n.schema) && (sumP n.pieces == n.len) && decide (sumP n.pieces ≤ 1000)
/-- Right for a directory. -/
def dirOk (n : NM) : Bool := inI n.schema 0 3 && inI n.quota 0 1000 && (n.len == 0) && decide (n.pieces.length = 0) && (n.writer == 0)
/-- Right for the node that comes first. -/
def firstOk (n : NM) : Bool := (n.id == 1) && (n.parent == 0) && decide (n.name = ⟨#[]⟩) && n.dir && (n.schema != 0)
/-- So many steps up, and the first node is there. -/
def climbs (ns : List NM) : Nat → Int → Bool
  | 0, _ => false
  | f + 1, id => match ns.findIdx? (fun n => n.id == id) with
    | none => false
    | some k => if (ns.getD k default).parent = 1 then true else climbs ns f (ns.getD k default).parent
/-- Right at its place. -/
def nodeOk (T : TM) (i : Nat) : Bool :=
  decide ((T.nodes.getD i default).id < T.next) && (if i = 0 then firstOk (T.nodes.getD i default) else decide ((T.nodes.getD (i - 1) default).id < (T.nodes.getD i default).id)) &&
  (if (T.nodes.getD i default).dir then dirOk (T.nodes.getD i default) else fileOk (T.nodes.getD i default)) &&
  (decide (i = 0) || (nameB (T.nodes.getD i default).name && decide (0 ≤ atI T.nodes (T.nodes.getD i default).parent) && (T.nodes.getD (atI T.nodes (T.nodes.getD i default).parent).toNat default).dir &&
    (List.range i).all (fun j => ! (((T.nodes.getD j default).parent == (T.nodes.getD i default).parent) && decide ((T.nodes.getD j default).name = (T.nodes.getD i default).name))) && climbs T.nodes 4 (T.nodes.getD i default).id))
def treeOk (T : TM) : Bool := decide (1 ≤ T.nodes.length) && decide (T.nodes.length ≤ 14) && decide (T.next ≤ 100000) && (List.range T.nodes.length).all (nodeOk T)
end Go.Proofs.Ytendbipfmgnjkaa
/- TreC: Copies of trees. -/
namespace Go.Proofs.Ytendbipfmgnjkaa
set_option maxRecDepth 100000
open Go.RowKit
attribute [local go_sem ↓] Go.wp_at_zero Go.wp_at_succ

theorem infoPiece : (Try.prog.info? 136).map (fun i => (i.zero, i.size, i.bytes)) = some (some (.agg #[.int .i64 0, .int .i64 0]), 2, 16) := by kernel_rfl
/-- A copy of pieces. -/
def ToPieces (ps : List PM) (w : World) (e : Ending) (w' : World) : Prop := ∃ g, e = .returned (.slice (some ⟨g, 0, none⟩) ps.length ps.length) ∧ w.heap.size ≤ g ∧ WCells w' g (pcs ps) ∧ Below w.heap.size w w'
/-- A copy of a node. -/
def ToNode (r : NR) (w : World) (e : Ending) (w' : World) : Prop := ∃ g, e = .returned (nv ⟨r.nd, some ⟨g, 0, none⟩, r.nd.pieces.length⟩) ∧ w.heap.size ≤ g ∧ WCells w' g (pcs r.nd.pieces) ∧ Below w.heap.size w w'
/-- Three new blocks: what came in, the answer, and what is made on the way. -/
structure Tri (w W : World) (L1 L2 L3 : List Value) : Prop where
  bel : Below w.heap.size w W
  b1 : WCells W w.heap.size L1
  b2 : WCells W (w.heap.size + 1) L2
  b3 : WCells W (w.heap.size + 1 + 1) L3
theorem Tri.new (w : World) (A B C : Array Value) (tA tB tC : TypeId) : Tri w (((w.alloc (.cells A tA)).alloc (.cells B tB)).alloc (.cells C tC)) A.toList B.toList C.toList := by
  have e1 : (w.alloc (.cells A tA)).heap.size = w.heap.size + 1 := by simp
  have e2 : ((w.alloc (.cells A tA)).alloc (.cells B tB)).heap.size = w.heap.size + 1 + 1 := by simp
  refine ⟨(((Below.refl _ _).alloc (Nat.le_refl _) _).alloc (by simp) _).alloc (by simp; omega) _, ((wcells_new w A tA).alloc _).alloc _, ?_, ?_⟩
  · have := (wcells_new (w.alloc (.cells A tA)) B tB).alloc (.cells C tC)
    rw [e1] at this; exact this
  · have := wcells_new ((w.alloc (.cells A tA)).alloc (.cells B tB)) C tC
    rw [e2] at this; exact this
theorem Tri.set {w W : World} {L1 L2 L3 : List Value} (h : Tri w W L1 L2 L3) (i : Nat) (v : Value) (hi : i < L3.length) : Tri w (W.setCell ⟨w.heap.size + 1 + 1, i, none⟩ v) L1 L2 (L3.set i v) :=
  ⟨h.bel.setCell (p := ⟨w.heap.size + 1 + 1, i, none⟩) (by show w.heap.size ≤ w.heap.size + 1 + 1; omega) v, h.b1.other _ _ (by show w.heap.size ≠ w.heap.size + 1 + 1; omega), h.b2.other _ _ (by show w.heap.size + 1 ≠ w.heap.size + 1 + 1; omega), h.b3.set i v hi⟩
theorem Tri.below {w W W' : World} {L1 L2 L3 : List Value} (h : Tri w W L1 L2 L3) (hb : Below W.heap.size W W') : Tri w W' L1 L2 L3 := ⟨h.bel.trans (hb.mono h.bel.size), h.b1.grow hb, h.b2.grow hb, h.b3.grow hb⟩
end Go.Proofs.Ytendbipfmgnjkaa
/- TreD: Copies of rows of nodes, and of trees. -/
namespace Go.Proofs.Ytendbipfmgnjkaa
set_option maxRecDepth 100000
open Go.RowKit
attribute [local go_sem ↓] Go.wp_at_zero Go.wp_at_succ

theorem infoNode : (Try.prog.info? 108).map (fun i => (i.zero, i.size, i.bytes)) = some (some (.agg #[.int .i64 0, .int .i64 0, .string ⟨#[]⟩, .bool false, .int .i64 0, .int .i64 0, .int .i64 0, .slice none 0 0, .int .i64 0]), 9, 96) := by kernel_rfl
theorem pcs_ne {ps : List PM} (h : ps ≠ []) : pcs ps ≠ [] := fun e => h (pcs_nil.1 e)
/-- A node that was copied takes its place. -/
theorem TW.copy {wr w2 : World} {g g' : Nat} {gs : List NR} {B : Nat} (h : TW wr g gs B wr.heap.size) (hb : Below wr.heap.size wr w2) (j : Nat) (hj : j < gs.length) (nd : NM) (hg : wr.heap.size ≤ g') (hw : WCells w2 g' (pcs nd.pieces)) (hB : B ≤ wr.heap.size) :
    TW (setW w2 g (j * 9) (ncells ⟨nd, some ⟨g', 0, none⟩, nd.pieces.length⟩)) g (gs.set j ⟨nd, some ⟨g', 0, none⟩, nd.pieces.length⟩) B w2.heap.size := by
  refine GW.put (K := NKind) ((h.below hb).wide (Nat.le_refl _) hb.size) j hj ⟨nd, some ⟨g', 0, none⟩, nd.pieces.length⟩ ?_ ?_
  · exact .inr ⟨g', rfl, by omega, hw.1, by have := h.out.1; omega, hw⟩
  · intro s hs h1 _ e
    rcases h.rows s hs with q | ⟨b, e2, _, q2, _, _⟩
    · exact h1 q
    · have : b = g' := congrArg Addr.block (Option.some.inj (e2.symm.trans e))
      omega
theorem setW_size (w : World) (g off : Nat) (vs : List Value) : (setW w g off vs).heap.size = w.heap.size := by
  induction vs generalizing w off with
  | nil => rfl
  | cons v vs ih => show (setW _ g (off + 1) vs).heap.size = _; rw [ih]; simp [World.setCell]
theorem setW9 (w : World) (g o : Nat) (v0 v1 v2 v3 v4 v5 v6 v7 v8 : Value) : setW w g o [v0, v1, v2, v3, v4, v5, v6, v7, v8] = ((((((((w.setCell ⟨g, o, none⟩ v0).setCell ⟨g, o + 1, none⟩ v1).setCell ⟨g, o + 2, none⟩ v2).setCell ⟨g, o + 3, none⟩ v3).setCell ⟨g, o + 4, none⟩ v4).setCell ⟨g, o + 5, none⟩ v5).setCell ⟨g, o + 6, none⟩ v6).setCell ⟨g, o + 7, none⟩ v7).setCell ⟨g, o + 8, none⟩ v8 := rfl
/-- A copy of a row of nodes. -/
def ToNodes (rs : List NR) (w : World) (e : Ending) (w' : World) : Prop := ∃ g ts, e = .returned (.slice (some ⟨g, 0, none⟩) ts.length ts.length) ∧ nds ts = nds rs ∧ TW w' g ts w.heap.size w'.heap.size ∧ Below w.heap.size w w'
end Go.Proofs.Ytendbipfmgnjkaa
/- TreE: Copies of trees. -/
namespace Go.Proofs.Ytendbipfmgnjkaa
set_option maxRecDepth 100000
open Go.RowKit
attribute [local go_sem ↓] Go.wp_at_zero Go.wp_at_succ

end Go.Proofs.Ytendbipfmgnjkaa
/- TreP: The walks of the models' TreeNew, l10At, l10File. -/
namespace Go.Proofs.Ytendbipfmgnjkaa
set_option maxRecDepth 100000
open Go.RowKit
attribute [local go_sem ↓] Go.wp_at_zero Go.wp_at_succ

theorem nds_at (rs : List NR) (i : Nat) (h : i < rs.length) : (nds rs)[i]'(by rw [nds_len]; exact h) = rs[i].nd := by simp [nds]
end Go.Proofs.Ytendbipfmgnjkaa
/- TreQ: The walk of the model's l10File. -/
namespace Go.Proofs.Ytendbipfmgnjkaa
set_option maxRecDepth 100000
open Go.RowKit
attribute [local go_sem ↓] Go.wp_at_zero Go.wp_at_succ

theorem isInI (x a b : Int) (w : World) (r : Bool) (h : inI x a b = r) : Calls Try.prog 24 #[.int .i64 x, .int .i64 a, .int .i64 b] w fun e w' => e = .returned (.bool r) ∧ w' = w := isIn x a b w r h
theorem fileOk_no1 {n : NM} (h : inI n.schema 1 3 = false) : fileOk n = false := by unfold fileOk; rw [h]; rfl
theorem fileOk_no2 {n : NM} (h : n.quota ≠ 0) : fileOk n = false := by unfold fileOk; rw [show (n.quota == 0) = false by simpa using h]; simp
theorem fileOk_no3 {n : NM} (h : ¬ n.pieces.length ≤ 40) : fileOk n = false := by unfold fileOk; rw [decide_eq_false h]; simp
theorem fileOk_no4 {n : NM} (h : inI n.writer 0 9 = false) : fileOk n = false := by unfold fileOk; rw [h]; simp
theorem fileOk_no5 {n : NM} {p : PM} (hp : p ∈ n.pieces) (h : pieceOk n.schema p = false) : fileOk n = false := by
  have : n.pieces.all (pieceOk n.schema) = false := by
    cases e : n.pieces.all (pieceOk n.schema) with
    | false => rfl
    | true => rw [List.all_eq_true] at e; rw [e p hp] at h; cases h
  unfold fileOk; rw [this]; simp
theorem fileOk_yes {n : NM} (h1 : inI n.schema 1 3 = true) (h2 : n.quota = 0) (h3 : n.pieces.length ≤ 40) (h4 : inI n.writer 0 9 = true) (h5 : ∀ p ∈ n.pieces, pieceOk n.schema p = true) : fileOk n = ((sumP n.pieces == n.len) && decide (sumP n.pieces ≤ 1000)) := by
  unfold fileOk
  rw [h1, h2, decide_eq_true h3, h4, show n.pieces.all (pieceOk n.schema) = true from List.all_eq_true.2 h5]
  simp
end Go.Proofs.Ytendbipfmgnjkaa
/- StrsA: Slices of strings: how they are held against each other. -/
namespace Go.Proofs.Ytendbipfmgnjkaa
set_option maxRecDepth 100000
open Go.RowKit

theorem drewN_two (w : World) (a b : Nat) : (w.drewN a).drewN b = w.drewN (a + b) := by simp [World.drewN, Nat.add_assoc]
/-- A slice of strings, as it reads. -/
def SRow (w : World) (a : Option Addr) (xs : List ByteArray) : Prop :=
  0 < xs.length → ∃ g, a = some ⟨g, 0, none⟩ ∧ g < w.heap.size ∧ ∀ j, j < xs.length → w.cell? ⟨g, j, none⟩ = some (.string (xs.getD j ⟨#[]⟩))

def eqS (xs ys : List ByteArray) : Bool := decide (xs = ys)
theorem eqS_len (xs ys : List ByteArray) (h : xs.length ≠ ys.length) : eqS xs ys = false := by
  unfold eqS; rw [decide_eq_false]; intro e; rw [e] at h; exact h rfl
/-- The first k are the same. -/
def sameTo (xs ys : List ByteArray) (k : Nat) : Prop := ∀ j, j < k → xs.getD j ⟨#[]⟩ = ys.getD j ⟨#[]⟩
theorem eqS_yes (xs ys : List ByteArray) (h : xs.length = ys.length) (hs : sameTo xs ys xs.length) : eqS xs ys = true := by
  unfold eqS; rw [decide_eq_true]
  apply List.ext_getElem h
  intro j h1 h2
  have := hs j h1
  simpa [List.getD, h1, h2] using this
theorem eqS_no (xs ys : List ByteArray) (k : Nat) (h : xs.getD k ⟨#[]⟩ ≠ ys.getD k ⟨#[]⟩) : eqS xs ys = false := by
  unfold eqS; rw [decide_eq_false]; intro e; rw [e] at h; exact h rfl
theorem sameTo_step (xs ys : List ByteArray) (k : Nat) (h : sameTo xs ys k) (hk : xs.getD k ⟨#[]⟩ = ys.getD k ⟨#[]⟩) : sameTo xs ys (k + 1) := by
  intro j hj
  by_cases e : j = k
  · subst e; exact hk
  · exact h j (by omega)

set_option maxHeartbeats 400000 in
theorem eqStringS_any (a b : Option Addr) (xs ys : List ByteArray) (ca cb : Nat) (w : World) (ha : SRow w a xs) (hb : SRow w b ys) (hn : xs.length ≤ 100000000) (hm : ys.length ≤ 100000000) :
    Calls Try.prog 35 #[.slice a xs.length ca, .slice b ys.length cb] w fun e w' => e = .returned (.bool (eqS xs ys)) ∧ ∃ q, w' = w.drewN q := by
  obtain ⟨n, hnx⟩ : ∃ n, n = xs.length := ⟨_, rfl⟩
  obtain ⟨m, hmy⟩ : ∃ m, m = ys.length := ⟨_, rfl⟩
  have HN : Hid (n = xs.length) := hnx
  have HM : Hid (m = ys.length) := hmy
  rw [← hnx, ← hmy]
  rw [← hnx] at hn
  rw [← hmy] at hm
  clear hnx hmy
  by_cases h : n = m
  · subst h
    have hd : (((n : Int) != (n : Int))) = false := by simp
    go_enter Try.func35, Try.ntmps35
    go_wp2_with fail
    go_loopw [5] (fun i wr => ∃ (k q : Nat), i = .int .i64 k ∧ k ≤ n ∧ sameTo xs ys k ∧ wr = w.drewN q) (fun i _ => n - (intOf i).toNat)
    case atStart => exact ⟨0, 0, rfl, Nat.zero_le _, fun j hj => by omega, rfl⟩
    case round =>
      obtain ⟨k, q, rfl, hk, hs, rfl⟩ := hrel
      by_cases hlt : k < n
      · obtain ⟨g, rfl, _, hc⟩ := ha (by have := HN.out; omega)
        obtain ⟨g', rfl, _, hc'⟩ := hb (by have := HM.out; omega)
        have c1 := hc k (by have := HN.out; omega)
        have c2 := hc' k (by have := HM.out; omega)
        have k0 : (0 : Int) ≤ (k : Int) := by omega
        have k1 : (k : Int) < (n : Int) := by omega
        obtain ⟨x, hx⟩ : ∃ x, x = xs.getD k ⟨#[]⟩ := ⟨_, rfl⟩
        obtain ⟨y, hy⟩ : ∃ y, y = ys.getD k ⟨#[]⟩ := ⟨_, rfl⟩
        rw [← hx] at c1
        rw [← hy] at c2
        have HX : Hid _ := hx
        have HY : Hid _ := hy
        clear hx hy hc hc'
        by_cases hxy : x = y
        · have hst := sameTo_step xs ys k hs (by rw [← HX.out, ← HY.out]; exact hxy)
          subst hxy
          go_wp2_with fail
          go_quiet (fail)
          go_wp2_with fail
          go_roundw
          case rel => exact ⟨k + 1, q + nq, by go_num, by omega, hst, rfl⟩
          case measure => simp [intOf]; omega
        · have hbn : (x.toList == y.toList) = false := by
            rw [beq_eq_false_iff_ne]; intro e; apply hxy
            rw [Go.ByteArray.toList_eq, Go.ByteArray.toList_eq] at e
            exact Go.WideShapes.bytes_inj e
          have HE : Hid (eqS xs ys = false) := eqS_no xs ys k (by rw [← HX.out, ← HY.out]; exact hxy)
          go_wp2_with fail
          go_quiet (fail)
          go_wp2_with fail
          go_ret
          exact ⟨by rw [HE.out]; rfl, q + nq, drewN_two _ _ _⟩
      · have HE : Hid (eqS xs ys = true) := eqS_yes xs ys (by rw [← HN.out, ← HM.out]) (by rw [show xs.length = k from by have := HN.out; omega]; exact hs)
        go_wp2_with fail
        go_ret
        exact ⟨by rw [HE.out]; rfl, q, rfl⟩
  · have HE : Hid (eqS xs ys = false) := eqS_len xs ys (by rw [← HN.out, ← HM.out]; exact h)
    have hd : (((n : Int) != (m : Int))) = true := by rw [bne_iff_ne]; omega
    go_enter Try.func35, Try.ntmps35
    go_wp2_with fail
    go_ret
    exact ⟨by rw [HE.out]; rfl, 0, rfl⟩
end Go.Proofs.Ytendbipfmgnjkaa
/- DecM: Plain facts on figures: 'dg n' are the figures of n (none of 0), 'decS n' those that Decimal writes; the two ways of reading them back are one. -/
namespace Go.Proofs.Ytendbipfmgnjkaa.W

def dgF : Nat → Nat → List UInt8
  | 0, _ => []
  | f + 1, n => if n = 0 then [] else dgF f (n / 10) ++ [UInt8.ofNat (48 + n % 10)]
def dg (n : Nat) : List UInt8 := dgF n n
theorem dgF_enough : ∀ (f g n : Nat), n ≤ f → n ≤ g → dgF f n = dgF g n
  | 0, 0, _, _, _ => rfl
  | 0, g + 1, n, h, _ => by have : n = 0 := (by omega); subst this; simp [dgF]
  | f + 1, 0, n, _, h => by have : n = 0 := (by omega); subst this; simp [dgF]
  | f + 1, g + 1, n, h1, h2 => by
    unfold dgF
    by_cases h : n = 0
    · rw [if_pos h, if_pos h]
    · rw [if_neg h, if_neg h, dgF_enough f g (n / 10) (by omega) (by omega)]
theorem dg_zero : dg 0 = [] := rfl
theorem dg_step (n : Nat) (h : 0 < n) : dg n = dg (n / 10) ++ [UInt8.ofNat (48 + n % 10)] := by
  unfold dg
  match n, h with
  | k + 1, _ => rw [dgF, if_neg (by omega), dgF_enough k ((k + 1) / 10) ((k + 1) / 10) (by omega) (by omega)]
def decS (n : Nat) : List UInt8 := if n = 0 then [48] else dg n
theorem dg_len : ∀ (k n : Nat), n < 10 ^ k → (dg n).length ≤ k
  | 0, n, h => by have : n = 0 := (by simpa using h); subst this; simp [dg_zero]
  | k + 1, n, h => by
    by_cases hn : n = 0
    · subst hn; simp [dg_zero]
    · rw [dg_step n (by omega)]
      have := dg_len k (n / 10) (by rw [Nat.pow_succ] at h; omega)
      simp; omega
/-- No figures begin with a nought. -/
theorem dg_head : ∀ (f n : Nat), n ≤ f → (dg n).head? ≠ some 48
  | 0, n, h => by have : n = 0 := (by omega); subst this; simp [dg_zero]
  | f + 1, n, h => by
    by_cases hn : n = 0
    · subst hn; simp [dg_zero]
    · rw [dg_step n (by omega)]
      by_cases h10 : n / 10 = 0
      · rw [h10, dg_zero]
        simp
        intro e
        have := congrArg UInt8.toNat e
        simp at this
        omega
      · have ih := dg_head f (n / 10) (by omega)
        have hne : dg (n / 10) ≠ [] := by rw [dg_step _ (by omega)]; simp
        cases hc : dg (n / 10) with
        | nil => exact absurd hc hne
        | cons a r => rw [hc] at ih; simpa using ih

abbrev isFig (c : UInt8) : Prop := 48 ≤ c.toNat ∧ c.toNat ≤ 57
def numV (l : List UInt8) : Nat := l.foldl (fun n c => 10 * n + (c.toNat - 48)) 0
theorem numV_snoc (l : List UInt8) (c : UInt8) : numV (l ++ [c]) = 10 * numV l + (c.toNat - 48) := by simp [numV]
theorem foldl_le (l : List UInt8) : ∀ n : Nat, n ≤ l.foldl (fun n c => 10 * n + (c.toNat - 48)) n := by
  induction l with
  | nil => intro n; simp
  | cons c l ih => intro n; simp only [List.foldl_cons]; have := ih (10 * n + (c.toNat - 48)); omega
theorem numV_app (l r : List UInt8) : numV l ≤ numV (l ++ r) := by
  unfold numV; rw [List.foldl_append]; exact foldl_le r _
theorem numV_bd : ∀ (l : List UInt8) (n : Nat), (∀ c ∈ l, isFig c) → l.foldl (fun n c => 10 * n + (c.toNat - 48)) n + 1 ≤ (n + 1) * 10 ^ l.length
  | [], n, _ => by simp
  | c :: l, n, h => by
    have hc := h c (by simp)
    have := numV_bd l (10 * n + (c.toNat - 48)) (fun x hx => h x (by simp [hx]))
    simp only [List.foldl_cons, List.length_cons, Nat.pow_succ]
    have h2 : (10 * n + (c.toNat - 48) + 1) * 10 ^ l.length ≤ ((n + 1) * 10) * 10 ^ l.length := Nat.mul_le_mul_right _ (by unfold isFig at hc; omega)
    have h3 : (n + 1) * 10 * 10 ^ l.length = (n + 1) * (10 ^ l.length * 10) := by rw [Nat.mul_assoc, Nat.mul_comm 10]
    omega
theorem numV_lt (l : List UInt8) (h : ∀ c ∈ l, isFig c) : numV l < 10 ^ l.length := by
  have := numV_bd l 0 h
  unfold numV; omega

/-- What ReadDecimal answers. -/
def rdS (l : List UInt8) : Option Nat :=
  if l.length ≤ 10 ∧ (∀ c ∈ l, isFig c) ∧ numV l ≤ 1000000000 ∧ decS (numV l) = l then some (numV l) else none

theorem rdS_no (l : List UInt8) (h : ¬ (l.length ≤ 10 ∧ (∀ c ∈ l, isFig c) ∧ numV l ≤ 1000000000 ∧ decS (numV l) = l)) : rdS l = none := by
  unfold rdS; rw [if_neg h]
theorem rdS_yes (l : List UInt8) (h1 : l.length ≤ 10) (h2 : ∀ c ∈ l, isFig c) (h3 : numV l ≤ 1000000000) (h4 : decS (numV l) = l) : rdS l = some (numV l) := by
  unfold rdS; rw [if_pos ⟨h1, h2, h3, h4⟩]
theorem rdS_nil : rdS [] = none := rdS_no _ (by rintro ⟨_, _, _, h⟩; simp [numV, decS] at h)
theorem rdS_bad (p r : List UInt8) (c : UInt8) (h : ¬ isFig c) : rdS (p ++ c :: r) = none := rdS_no _ (fun x => h (x.2.1 c (by simp)))
theorem rdS_great (p r : List UInt8) (h : 1000000000 < numV p) : rdS (p ++ r) = none := rdS_no _ (fun x => by have := numV_app p r; have := x.2.2.1; omega)
theorem rdS_nought (r : List UInt8) (h : r ≠ []) : rdS (48 :: r) = none := rdS_no _ (fun x => by
  have h4 := x.2.2.2
  unfold decS at h4
  split at h4
  · simp at h4; exact h h4
  · have := dg_head _ _ (Nat.le_refl (numV (48 :: r)))
    rw [h4] at this
    simp at this)

/-- Figures read so far, with no needless nought. -/
def good (p : List UInt8) : Prop := (∀ c ∈ p, isFig c) ∧ (p = [] ∨ p = [48] ∨ (0 < numV p ∧ dg (numV p) = p))
theorem good_nil : good [] := ⟨fun _ h => by simp at h, .inl rfl⟩
theorem fig_byte (c : UInt8) (h : isFig c) : UInt8.ofNat (48 + (c.toNat - 48)) = c := by
  unfold isFig at h
  have : 48 + (c.toNat - 48) = c.toNat := by omega
  rw [this]; simp
theorem good_step (p : List UInt8) (c : UInt8) (hp : good p) (hc : isFig c) (h0 : p = [] ∨ 0 < numV p) : good (p ++ [c]) := by
  have h0c : (∀ x ∈ p ++ [c], isFig x) := by
    intro x hx
    rcases List.mem_append.1 hx with h | h
    · exact hp.1 x h
    · simp at h; subst h; exact hc
  refine ⟨h0c, ?_⟩
  have hd : dg (numV p) = p := by
    rcases hp.2 with h | h | h
    · subst h; rfl
    · subst h; rcases h0 with h | h
      · simp at h
      · simp [numV] at h
    · exact h.2
  by_cases hz : numV (p ++ [c]) = 0
  · rw [numV_snoc] at hz
    have hp0 : p = [] := by
      rcases h0 with h | h
      · exact h
      · omega
    right; left
    subst hp0
    have : c.toNat = 48 := by unfold isFig at hc; omega
    have e : c = 48 := UInt8.toNat_inj.1 (by simpa using this)
    rw [e]; rfl
  · right; right
    refine ⟨by omega, ?_⟩
    have hlt : c.toNat - 48 < 10 := by unfold isFig at hc; omega
    rw [dg_step _ (by omega), numV_snoc]
    have e1 : (10 * numV p + (c.toNat - 48)) / 10 = numV p := by omega
    have e2 : (10 * numV p + (c.toNat - 48)) % 10 = c.toNat - 48 := by omega
    rw [e1, e2, hd, fig_byte c hc]
theorem good_yes (p : List UInt8) (hp : good p) (hne : p ≠ []) (h : numV p ≤ 1000000000) : rdS p = some (numV p) := by
  have h4 : decS (numV p) = p := by
    rcases hp.2 with e | e | e
    · exact absurd e hne
    · subst e; rfl
    · unfold decS; rw [if_neg (by omega)]; exact e.2
  refine rdS_yes p ?_ hp.1 h h4
  rcases hp.2 with e | e | e
  · subst e; simp
  · subst e; simp
  · rw [← e.2]; exact dg_len 10 _ (by omega)
theorem good_again (p r : List UInt8) (hp : good p) (hne : p ≠ []) (hr : r ≠ []) (h : numV p = 0) : rdS (p ++ r) = none := by
  rcases hp.2 with e | e | e
  · exact absurd e hne
  · subst e; exact rdS_nought r hr
  · omega
end Go.Proofs.Ytendbipfmgnjkaa.W
/- Dec: The walks of the models' Decimal, and of the two ReadDecimal. -/
namespace Go.Proofs.Ytendbipfmgnjkaa
set_option maxRecDepth 100000
open Go.RowKit
open Go.PlainAid (bt)

/-- The text of one byte. -/
def oneB (c : Int) : ByteArray := ⟨#[UInt8.ofNat c.toNat]⟩
theorem oneB_size (c : Int) : (oneB c).size = 1 := rfl
/-- 'string([]byte{c})'. -/
theorem one_byte (W : World) (c : Int) (h0 : 0 ≤ c) (h1 : c < 256) :
    (convert 119 9 (.slice (some ⟨W.heap.size, 0, none⟩) 1 1)).run Try.prog (W.alloc (.cells #[.int .u8 c] 5)) =
      .ok (.string (oneB c)) (W.alloc (.cells #[.int .u8 c] 5)) := by
  have := run_convert_bytes_back (P := Try.prog) (W.alloc (.cells #[.int .u8 c] 5)) 119 9 5 ⟨W.heap.size, 0, none⟩ 1 [UInt8.ofNat c.toNat] Try.underlying119 Try.underlying5 Try.underlying9
    (fun j hj => by
      have : j = 0 := by simp at hj; omega
      subst this
      have e := byte_of c h0 h1
      rw [e]
      exact cell_one_new W _ _ 0 _ rfl)
  simpa [oneB] using this

theorem dg_more {n m : Nat} {s : ByteArray} (hm : 0 < m) (h : W.dg m ++ s.data.toList = W.dg n) (c : Int) (hc : c = 48 + ((m % 10 : Nat) : Int)) :
    W.dg (m / 10) ++ (oneB c ++ s).data.toList = W.dg n := by
  rw [← h, W.dg_step m hm]
  have e : UInt8.ofNat c.toNat = UInt8.ofNat (48 + m % 10) := by rw [hc]; congr 1
  unfold oneB
  rw [e]
  simp

theorem neg_words (m : Nat) (h : m ≤ 9223372036854775808) : (-(m : Int)).tmod 10 = -((m : Int) % 10) ∧ (-(m : Int)).tdiv 10 = -((m : Int) / 10) := by
  rw [Int.neg_tmod, Int.neg_tdiv, Int.tmod_eq_emod_of_nonneg (by omega), Int.tdiv_eq_ediv_of_nonneg (by omega)]
  exact ⟨rfl, rfl⟩

end Go.Proofs.Ytendbipfmgnjkaa
/- StrsB: Slices of strings: marks that are laid into one, and found again. -/
namespace Go.Proofs.Ytendbipfmgnjkaa
set_option maxRecDepth 100000
open Go.RowKit
attribute [local go_sem ↓] Go.wp_at_zero Go.wp_at_succ

/-- The text of a mark. -/
def mt (k : Nat) : ByteArray := (⟨#[109]⟩ : ByteArray) ++ ⟨(W.decS k).toArray⟩

set_option maxHeartbeats 400000 in
theorem markText_any (n : Nat) (w : World) (hn : 0 < n) (hm : n ≤ 1000000000) :
    Calls Try.prog 67 #[.int .i64 n] w fun e w' => e = .returned (.string (mt n)) ∧ Below w.heap.size w w' := by
  have h0 : decide ((n : Int) ≤ 0) = false := by simp; omega
  have hl := W.dg_len 20 n (by omega)
  go_enter Try.func67, Try.ntmps67
  go_wp2_with fail
  go_loopw [0, 3] (fun i v wr => ∃ (m : Nat) (s : ByteArray), i = .int .i64 m ∧ v = .string s ∧ m ≤ n ∧ W.dg m ++ s.data.toList = W.dg n ∧ Below w.heap.size w wr) (fun i _ _ => (intOf i).toNat)
  case atStart => exact ⟨n, ⟨#[]⟩, rfl, rfl, Nat.le_refl _, by simp, Below.refl _ _⟩
  case round =>
    obtain ⟨m, s, rfl, rfl, hmn, hs, hb⟩ := hrel
    have HS : Hid (W.dg m ++ s.data.toList = W.dg n) := hs
    have hsz : s.size ≤ 20 := by have := congrArg List.length hs; simp at this; have e : s.data.size = s.size := rfl; omega
    clear hs
    by_cases hz : m = 0
    · subst hz
      have hst : mt n = (⟨#[109]⟩ : ByteArray) ++ s := by
        have := HS.out
        rw [W.dg_zero, List.nil_append] at this
        unfold mt W.decS
        rw [if_neg (by omega), ← this]
      have HT : Hid _ := hst
      clear hst
      go_wp2_with fail
      go_ret
      refine ⟨?_, hb⟩
      rw [HT.out]
      rfl
    · have hp : 0 < m := by omega
      have hB := hb.size
      have ho := oneB_size (48 + (m : Int) % 10)
      have hcv := one_byte wr (48 + (m : Int) % 10) (by omega) (by omega)
      go_wp2_with fail
      go_roundw
      case rel => exact ⟨m / 10, _, by go_num, rfl, by omega, dg_more hp HS.out _ (by omega), hb.alloc hB _⟩
      case measure => simp [intOf]; omega
theorem markText_int (x : Int) (w : World) (h0 : 0 < x) (h1 : x ≤ 1000000000) :
    Calls Try.prog 67 #[.int .i64 x] w fun e w' => e = .returned (.string (mt x.toNat)) ∧ Below w.heap.size w w' := by
  obtain ⟨n, rfl⟩ := Int.eq_ofNat_of_zero_le (Int.le_of_lt h0)
  exact markText_any n w (by omega) (by omega)

/-- Marks from k on. -/
def marks (k n : Nat) : List ByteArray := (List.range n).map fun j => mt (k + j)
theorem marks_len (k n : Nat) : (marks k n).length = n := by simp [marks]
theorem marks_at (k n j : Nat) (h : j < n) : (marks k n).getD j ⟨#[]⟩ = mt (k + j) := by simp [marks, List.getD, h]

set_option maxHeartbeats 400000 in
theorem heldStringS_any (a : Option Addr) (k n ca : Nat) (w : World) (ha : SRow w a (marks k n)) (hk : 0 < k) (hn : k + n ≤ 100000000) :
    Calls Try.prog 44 #[.slice a n ca, .int .i64 k] w fun e w' => e = .returned (.int .i64 (k + n : Nat)) ∧ Below w.heap.size w w' := by
  go_enter Try.func44, Try.ntmps44
  go_wp2_with fail
  go_loopw [1, 5] (fun c i wr => ∃ (j : Nat), i = .int .i64 j ∧ c = .int .i64 (k + j : Nat) ∧ j ≤ n ∧ Below w.heap.size w wr) (fun _ i _ => n - (intOf i).toNat)
  case atStart => exact ⟨0, rfl, rfl, Nat.zero_le _, Below.refl _ _⟩
  case round =>
    obtain ⟨j, rfl, rfl, hj, hb⟩ := hrel
    have hB := hb.size
    by_cases hlt : j < n
    · obtain ⟨g, rfl, hg, hc⟩ := ha (by rw [marks_len]; omega)
      have c1 := hc j (by rw [marks_len]; omega)
      rw [marks_at k n j hlt, ← hb.cell (p := ⟨g, j, none⟩) hg] at c1
      have j0 : (0 : Int) ≤ (j : Int) := by omega
      have j1 : (j : Int) < (n : Int) := by omega
      clear hc
      go_wp2_with fail
      go_region_held3 (fun w' => w'.cell? ⟨g, j, none⟩ = some (.string (mt (k + j)))) (first | go_keep | (rw [hb1.cell (p := ⟨g, j, none⟩) (by simp; omega)]; assumption)) ((go_at_call 67; refine (markText_any (k + j) _ ?_ ?_).mono ?_; (omega); (omega); rintro e w1 ⟨rfl, hb1⟩))
      all_goals go_wp2_with fail
      exact ⟨⟨j + 1, by go_num, congrArg (Value.int .i64) (by omega), by omega, hb.trans ((Below.drew (Below.refl _ _)).trans (hb1.mono hB))⟩, by simp [intOf]; omega⟩
    · have e : j = n := by omega
      subst e
      go_wp2_with fail
      go_ret
      exact ⟨rfl, hb⟩

/-- A row of strings that may be written. -/
def WRow (w : World) (g : Nat) (xs : List ByteArray) : Prop :=
  g < w.heap.size ∧ ∀ j, j < xs.length → w.cell? ⟨g, j, none⟩ = some (.string (xs.getD j ⟨#[]⟩)) ∧ w.frozen? ⟨g, j, none⟩ = false
theorem WRow.srow {w : World} {g : Nat} {xs : List ByteArray} (h : WRow w g xs) : SRow w (some ⟨g, 0, none⟩) xs := fun _ => ⟨g, rfl, h.1, fun j hj => (h.2 j hj).1⟩
theorem WRow.below {w w' : World} {g B : Nat} {xs : List ByteArray} (h : WRow w g xs) (hb : Below B w w') (hg : g < B) : WRow w' g xs :=
  ⟨Nat.lt_of_lt_of_le h.1 hb.size, fun j hj => ⟨(hb.cell (p := ⟨g, j, none⟩) hg).trans (h.2 j hj).1, (hb.frozen (p := ⟨g, j, none⟩) hg).trans (h.2 j hj).2⟩⟩
theorem WRow.set {w : World} {g : Nat} {xs : List ByteArray} (h : WRow w g xs) (i : Nat) (x : ByteArray) (hi : i < xs.length) : WRow (w.setCell ⟨g, i, none⟩ (.string x)) g (xs.set i x) := by
  refine ⟨by have := h.1; simpa [World.setCell] using this, fun j hj => ?_⟩
  rw [List.length_set] at hj
  refine ⟨?_, (World.frozen?_setCell _ _ _ _).trans (h.2 j hj).2⟩
  by_cases e : j = i
  · subst e
    rw [World.cell?_setCell_same _ _ _ (h.2 j hj).1]
    simp [List.getD, hi]
  · rw [World.cell?_setCell_other _ _ _ _ (by first | (simp; done) | (simp; omega)), (h.2 j hj).1]
    simp [List.getD, Ne.symm e]
theorem grownBy_setCell (w : World) (g i : Nat) (v : Value) : w.grownBy (w.setCell ⟨g, i, none⟩ v) (some g) :=
  ⟨rfl, rfl, rfl, by simp [World.setCell], fun k _ hk => Below.heap_setCell _ _ _ _ (fun e => hk (by rw [e]))⟩
theorem grownBy_below {w w' : World} {g : Nat} (h : Below w.heap.size w w') : w.grownBy w' (some g) := ⟨h.os, h.tape, h.output, h.size, fun k hk _ => h.block k hk⟩
theorem grownBy_two {a b c : World} {g : Nat} (h : a.grownBy b (some g)) (k : b.grownBy c (some g)) : a.grownBy c (some g) :=
  ⟨k.os.trans h.os, k.tape.trans h.tape, k.output.trans h.output, Nat.le_trans h.size k.size, fun i hi hn => (k.block i (Nat.lt_of_lt_of_le hi h.size) hn).trans (h.block i hi hn)⟩

theorem set_marks {k j : Nat} {ys : List ByteArray} (h : ∀ t, t < j → ys.getD t ⟨#[]⟩ = mt (k + t)) (hj : j < ys.length) : ∀ t, t < j + 1 → (ys.set j (mt (k + j))).getD t ⟨#[]⟩ = mt (k + t) := by
  intro t ht
  by_cases e : t = j
  · subst e; simp [List.getD, hj]
  · have := h t (by omega)
    simpa [List.getD, List.getElem?_set, Ne.symm e] using this
theorem wrow_marks {w : World} {g k n : Nat} {ys : List ByteArray} (h : WRow w g ys) (hl : ys.length = n) (hy : ∀ t, t < n → ys.getD t ⟨#[]⟩ = mt (k + t)) : WRow w g (marks k n) := by
  refine ⟨h.1, fun j hj => ?_⟩
  rw [marks_len] at hj
  have := h.2 j (by omega)
  rw [marks_at k n j hj, ← hy j hj]
  exact this
theorem markStringS_none (a : Option Addr) (k ca : Nat) (w : World) :
    Calls Try.prog 39 #[.slice a 0 ca, .int .i64 k] w fun e w' => e = .returned (.int .i64 k) ∧ w' = w := by
  go_enter Try.func39, Try.ntmps39
  go_wp2_with fail
  go_rounds 1
  go_ret
  exact ⟨rfl, rfl⟩

set_option maxHeartbeats 400000 in
theorem markStringS_any (g : Nat) (xs : List ByteArray) (k ca : Nat) (w : World) (ha : WRow w g xs) (hk : 0 < k) (hn : k + xs.length ≤ 100000000) (hca : xs.length ≤ ca) :
    Calls Try.prog 39 #[.slice (some ⟨g, 0, none⟩) xs.length ca, .int .i64 k] w fun e w' => e = .returned (.int .i64 (k + xs.length : Nat)) ∧ WRow w' g (marks k xs.length) ∧ w.grownBy w' (some g) := by
  obtain ⟨n, hnx⟩ : ∃ n, n = xs.length := ⟨_, rfl⟩
  have HN : Hid (n = xs.length) := hnx
  rw [← hnx]
  rw [← hnx] at hn hca
  clear hnx
  go_enter Try.func39, Try.ntmps39
  go_wp2_with fail
  go_loopw [1, 5] (fun c i wr => ∃ (j : Nat) (ys : List ByteArray), i = .int .i64 j ∧ c = .int .i64 (k + j : Nat) ∧ j ≤ n ∧ ys.length = n ∧ (∀ t, t < j → ys.getD t ⟨#[]⟩ = mt (k + t)) ∧ WRow wr g ys ∧ w.grownBy wr (some g)) (fun _ i _ => n - (intOf i).toNat)
  case atStart => exact ⟨0, xs, rfl, rfl, Nat.zero_le _, HN.out.symm, fun t ht => by omega, ha, grownBy_below (Below.refl _ _)⟩
  case round =>
    obtain ⟨j, ys, rfl, rfl, hj, hyl, hys, hw, hgr⟩ := hrel
    have HL : Hid (ys.length = n) := hyl
    have HY : Hid _ := hys
    clear hyl hys
    by_cases hlt : j < n
    · have j0 : (0 : Int) ≤ (j : Int) := by omega
      have j1 : (j : Int) < (n : Int) := by omega
      go_wp2_with fail
      refine (markText_any (k + j) _ (by omega) (by omega)).mono ?_
      rintro e w1 ⟨rfl, hb1⟩
      have hw1 := hw.below hb1 hw.1
      have c1 := (hw1.2 j (by have := HL.out; omega)).1
      have c2 := (hw1.2 j (by have := HL.out; omega)).2
      have hset := hw1.set j (mt (k + j)) (by have := HL.out; omega)
      have hgs := grownBy_two hgr (grownBy_two (grownBy_below hb1) (grownBy_setCell w1 g j (.string (mt (k + j)))))
      clear hw hgr hb1
      go_wp2_with fail
      go_roundw
      case rel => exact ⟨j + 1, _, by go_num, congrArg (Value.int .i64) (by omega), by omega, by rw [List.length_set]; exact HL.out, set_marks HY.out (by have := HL.out; omega), hset, hgs⟩
      case measure => simp [intOf]; omega
    · have e : j = n := by omega
      subst e
      have hfin := wrow_marks hw HL.out HY.out
      go_wp2_with fail
      go_ret
      exact ⟨rfl, hfin, hgr⟩
end Go.Proofs.Ytendbipfmgnjkaa
/- TvA: Rows of texts that a call has made. -/
namespace Go.Proofs.Ytendbipfmgnjkaa
set_option maxRecDepth 100000
open Go.RowKit

/-- Texts as the cells of a row. -/
def tv (l : List ByteArray) : List Value := l.map Value.string
theorem tv_snoc (l : List ByteArray) (x : ByteArray) : tv l ++ [.string x] = tv (l ++ [x]) := by simp [tv]
theorem tv_len (l : List ByteArray) : (tv l).length = l.length := by simp [tv]
theorem Try.info9 : (Try.prog.info? 9).map (fun i => (i.zero, i.size, i.bytes)) = some (some (.string ⟨#[]⟩), 1, 16) := by kernel_rfl

/-- A row of texts that a call has made: nothing of it is older than B. -/
def RowAt (w : World) (B : Nat) (a : Option Addr) (xs : List ByteArray) (cap : Nat) : Prop := xs.length ≤ cap ∧ (xs = [] ∨ ∃ g, a = some ⟨g, 0, none⟩ ∧ B ≤ g ∧ WRow w g xs)
theorem own_rowAt {w : World} {B : Nat} {v : Value} {xs : List ByteArray} (h : w.ownsRow B 9 1 v xs.length (tv xs)) : ∃ a cap, v = .slice a xs.length cap ∧ RowAt w B a xs cap := by
  have hc : ∀ g, v.ownBlock = some g → ∀ j u, (tv xs)[j]? = some u → w.cell? ((⟨g, 0, none⟩ : Addr).add j) = some u := fun g hg => h.cells hg
  have hlt := h.lt
  obtain ⟨_, ⟨rfl, h0⟩ | ⟨g, cap, cur, rfl, hB, hcur, hn, _, hsz, _⟩⟩ := h
  · have : xs = [] := List.eq_nil_of_length_eq_zero h0
    subst this
    exact ⟨none, 0, rfl, by simp, .inl rfl⟩
  · refine ⟨_, cap, rfl, hn, .inr ⟨g, rfl, hB, (hlt g rfl).2, fun j hj => ⟨?_, ?_⟩⟩⟩
    · have := hc g rfl j _ (show (tv xs)[j]? = some _ by simp [tv, hj]; rfl)
      have e : (⟨g, 0, none⟩ : Addr).add j = ⟨g, j, none⟩ := by
        cases j <;> simp [Addr.add]
      rw [e] at this
      simpa [List.getD, hj] using this
    · unfold World.frozen?
      rw [hcur]; simp
end Go.Proofs.Ytendbipfmgnjkaa
/- StrV: Rows of texts as values: what is seen of one, what an answer is, what is marked, and the laws' own functions over them. -/
namespace Go.Proofs.Ytendbipfmgnjkaa
set_option maxRecDepth 100000
open Go.RowKit
attribute [local go_sem ↓] Go.wp_at_zero Go.wp_at_succ

theorem tv_get (L : List ByteArray) (j : Nat) (h : j < L.length) : (tv L)[j]? = some (.string (L.getD j ⟨#[]⟩)) := by simp [tv, List.getD, h]
theorem tv_set (L : List ByteArray) (j : Nat) (x : ByteArray) : (tv L).set j (.string x) = tv (L.set j x) := by simp [tv, List.map_set]
theorem wrow_cells {w : World} {g : Nat} {L : List ByteArray} : WRow w g L ↔ WCells w g (tv L) := by
  constructor
  · intro h
    refine ⟨h.1, fun i v hv => ?_⟩
    have hi : i < L.length := by have := (List.getElem?_eq_some_iff.1 hv).1; rw [tv_len] at this; exact this
    rw [tv_get L i hi] at hv
    cases hv
    exact h.2 i hi
  · intro h
    exact ⟨h.1, fun j hj => h.2 j _ (tv_get L j hj)⟩
/-- How many bytes there are. -/
def tsum : List ByteArray → Nat
  | [] => 0
  | x :: L => x.size + tsum L
theorem tsum_mem {L : List ByteArray} {x : ByteArray} (h : x ∈ L) : x.size ≤ tsum L := by
  induction L with
  | nil => simp at h
  | cons t L ih =>
    rcases List.mem_cons.1 h with rfl | h
    · simp only [tsum]; omega
    · have := ih h; simp only [tsum]; omega
theorem tsum_append (L M : List ByteArray) : tsum (L ++ M) = tsum L + tsum M := by
  induction L with
  | nil => simp [tsum]
  | cons t L ih => simp only [List.cons_append, tsum]; omega
theorem tsum_take (L : List ByteArray) (k : Nat) (h : k < L.length) : tsum (L.take (k + 1)) = tsum (L.take k) + (L.getD k ⟨#[]⟩).size := by
  rw [List.take_succ_eq_append_getElem h, tsum_append]
  have e : L.getD k ⟨#[]⟩ = L[k] := by simp [List.getD, h]
  rw [e]; simp [tsum]
theorem tsum_le (L : List ByteArray) (k : Nat) : tsum (L.take k) ≤ tsum L := by
  have := tsum_append (L.take k) (L.drop k)
  rw [List.take_append_drop] at this
  omega
/-- Texts that a machine can hold. -/
def TFit (L : List ByteArray) : Prop := L.length + tsum L ≤ 1048576
/-- Texts that are few and short enough, one by one. -/
def UFit (L : List ByteArray) : Prop := L.length ≤ 1048576 ∧ ∀ x ∈ L, x.size ≤ 1048576
theorem TFit.u {L : List ByteArray} (h : TFit L) : UFit L := ⟨by unfold TFit at h; omega, fun x hx => by have := tsum_mem hx; unfold TFit at h; omega⟩
/-- A value that is these texts. -/
def SSee (w : World) (v : Value) (L : List ByteArray) (lo hi : Nat) : Prop := ∃ (a : Option Addr) (cap : Nat), v = .slice a L.length cap ∧ RRow w a (tv L) lo hi
/-- An answer of texts: nothing, or a row that may be written. -/
def SAns (w : World) (v : Value) (L : List ByteArray) (lo hi : Nat) : Prop := ∃ (a : Option Addr) (cap : Nat), v = .slice a L.length cap ∧ L.length ≤ cap ∧ (L = [] ∨ ∃ g, a = some ⟨g, 0, none⟩ ∧ lo ≤ g ∧ g < hi ∧ WCells w g (tv L))
theorem SAns.see {w : World} {v : Value} {L : List ByteArray} {lo hi : Nat} (h : SAns w v L lo hi) : SSee w v L lo hi := by
  obtain ⟨a, cap, e, _, h1⟩ := h
  refine ⟨a, cap, e, ?_⟩
  rcases h1 with rfl | ⟨g, rfl, q1, q2, hm⟩
  · intro h; simp [tv] at h
  · exact RRow.of_wcells hm q1 q2
theorem SSee.turned {w w' : World} {v : Value} {L : List ByteArray} {lo hi lo' hi' : Nat} (h : SSee w v L lo hi) (t : Turned w w' lo' hi') (hd : hi ≤ lo' ∨ hi' ≤ lo) : SSee w' v L lo hi := by
  obtain ⟨a, cap, e, h1⟩ := h
  exact ⟨a, cap, e, h1.turned t hd⟩
theorem SSee.below {w w' : World} {v : Value} {L : List ByteArray} {lo hi : Nat} (h : SSee w v L lo hi) (hb : Below w.heap.size w w') : SSee w' v L lo hi := by
  obtain ⟨a, cap, e, h1⟩ := h
  exact ⟨a, cap, e, h1.below hb⟩
theorem SAns.turned {w w' : World} {v : Value} {L : List ByteArray} {lo hi lo' hi' : Nat} (h : SAns w v L lo hi) (t : Turned w w' lo' hi') (hd : hi ≤ lo' ∨ hi' ≤ lo) : SAns w' v L lo hi := by
  obtain ⟨a, cap, e, hc, h1⟩ := h
  refine ⟨a, cap, e, hc, ?_⟩
  rcases h1 with rfl | ⟨g, rfl, q1, q2, hm⟩
  · exact .inl rfl
  · exact .inr ⟨g, rfl, q1, q2, hm.turned t (by omega)⟩
theorem SAns.below {w w' : World} {v : Value} {L : List ByteArray} {lo hi : Nat} (h : SAns w v L lo hi) (hb : Below w.heap.size w w') : SAns w' v L lo hi := by
  obtain ⟨a, cap, e, hc, h1⟩ := h
  refine ⟨a, cap, e, hc, ?_⟩
  rcases h1 with rfl | ⟨g, rfl, q1, q2, hm⟩
  · exact .inl rfl
  · exact .inr ⟨g, rfl, q1, q2, hm.grow hb⟩
theorem SAns.empty (w : World) (a : Option Addr) (cap lo hi : Nat) : SAns w (.slice a 0 cap) [] lo hi := ⟨a, cap, rfl, Nat.zero_le _, .inl rfl⟩
theorem SAns.srow {w : World} {v : Value} {L : List ByteArray} {lo hi : Nat} (h : SAns w v L lo hi) : ∃ a cap, v = .slice a L.length cap ∧ SRow w a L := by
  obtain ⟨a, cap, e, _, h1⟩ := h
  refine ⟨a, cap, e, ?_⟩
  rcases h1 with rfl | ⟨g, rfl, _, _, hm⟩
  · intro h; simp at h
  · exact (wrow_cells.2 hm).srow
/-- What an answer of texts is: new memory alone. -/
def SPost (L : List ByteArray) (w : World) (e : Ending) (w' : World) : Prop := ∃ v, e = .returned v ∧ SAns w' v L w.heap.size w'.heap.size ∧ Below w.heap.size w w'
theorem own_sans {w w' : World} {v : Value} {L : List ByteArray} {n : Nat} (hn : L.length = n) (h : w'.ownsRow w.heap.size 9 1 v n (tv L)) : SAns w' v L w.heap.size w'.heap.size := by
  have h' := h
  rw [← hn] at h'
  obtain ⟨a, cap, rfl, hc, h1⟩ := own_rowAt h'
  refine ⟨a, cap, rfl, hc, ?_⟩
  rcases h1 with rfl | ⟨g, rfl, q1, hm⟩
  · exact .inl rfl
  · exact .inr ⟨g, rfl, q1, hm.1, wrow_cells.1 hm⟩
theorem infoTextG : (Try.prog.info? 9).map (fun i => (i.zero, i.size, i.bytes)) = some (some (.string ⟨#[]⟩), 1, 16) := by kernel_rfl
theorem eqStringS_val {w : World} {v u : Value} {L : List ByteArray} {lo hi lo' hi' : Nat} (h : SAns w v L lo hi) (k : SAns w u L lo' hi') (hf : L.length ≤ 100000000) : Calls Try.prog 35 #[v, u] w fun e w' => e = .returned (.bool true) ∧ Below w.heap.size w w' := by
  obtain ⟨a, cap, rfl, h1⟩ := h.srow
  obtain ⟨b, cap', rfl, h2⟩ := k.srow
  refine (eqStringS_any a b L L cap cap' w h1 h2 hf hf).mono ?_
  rintro e w' ⟨rfl, q, rfl⟩
  exact ⟨by unfold eqS; simp, ⟨rfl, rfl, rfl, Nat.le_refl _, fun _ _ => rfl⟩⟩
theorem markStringS_val {w : World} {v : Value} {L : List ByteArray} {lo hi : Nat} (k : Nat) (h : SAns w v L lo hi) (h0 : 0 < k) (hk : k + L.length ≤ 100000000) :
    Calls Try.prog 39 #[v, .int .i64 k] w fun e w' => e = .returned (.int .i64 (k + L.length : Nat)) ∧ SAns w' v (marks k L.length) lo hi ∧ Turned w w' lo hi := by
  obtain ⟨a, cap, rfl, hc, h1⟩ := h
  rcases h1 with rfl | ⟨g, rfl, q1, q2, hm⟩
  · refine (markStringS_none a k cap w).mono ?_
    rintro e w' ⟨rfl, rfl⟩
    exact ⟨rfl, ⟨a, cap, rfl, Nat.zero_le _, .inl rfl⟩, Turned.refl _ _ _⟩
  · refine (markStringS_any g L k cap w (wrow_cells.2 hm) h0 hk hc).mono ?_
    rintro e w' ⟨rfl, hw, hg⟩
    exact ⟨rfl, ⟨_, cap, by rw [marks_len], by rw [marks_len]; exact hc, .inr ⟨g, rfl, q1, q2, wrow_cells.1 hw⟩⟩, Turned.of_grown hg q1 q2⟩
theorem heldStringS_val {w : World} {v : Value} {k n lo hi : Nat} (h : SAns w v (marks k n) lo hi) (h0 : 0 < k) (hk : k + n ≤ 100000000) :
    Calls Try.prog 44 #[v, .int .i64 k] w fun e w' => e = .returned (.int .i64 (k + n : Nat)) ∧ Below w.heap.size w w' := by
  obtain ⟨a, cap, rfl, h1⟩ := h.srow
  rw [marks_len]
  exact heldStringS_any a k n cap w h1 h0 hk
end Go.Proofs.Ytendbipfmgnjkaa
/- PathA: The walks of the models' NameOk, SplitPath, JoinPath, ParentPath. -/
namespace Go.Proofs.Ytendbipfmgnjkaa
set_option maxRecDepth 100000
open Go.RowKit
open Go.PlainAid (bt)
attribute [local go_sem ↓] Go.wp_at_zero Go.wp_at_succ

theorem nameC_bt {s : ByteArray} {j : Nat} (h : j < s.size) : nameC ((lb s)[j]'h) = ((decide (97 ≤ bt s j) && decide (bt s j ≤ 122)) || (decide (48 ≤ bt s j) && decide (bt s j ≤ 57))) := by
  unfold nameC
  rw [bt_at h]
  generalize ((lb s)[j]'h).toNat = n
  simp only [show ((97 : Int) ≤ (n : Int)) = (97 ≤ n) from propext ⟨fun h => by omega, fun h => by omega⟩, show ((n : Int) ≤ 122) = (n ≤ 122) from propext ⟨fun h => by omega, fun h => by omega⟩, show ((48 : Int) ≤ (n : Int)) = (48 ≤ n) from propext ⟨fun h => by omega, fun h => by omega⟩, show ((n : Int) ≤ 57) = (n ≤ 57) from propext ⟨fun h => by omega, fun h => by omega⟩]
/-- Whether a byte may stand in a name. -/
def nameN (n : Int) : Prop := (97 ≤ n ∧ n ≤ 122) ∨ (48 ≤ n ∧ n ≤ 57)
theorem nameC_iff {s : ByteArray} {j : Nat} (h : j < s.size) : nameC ((lb s)[j]'h) = true ↔ nameN (bt s j) := by
  rw [nameC_bt h]
  unfold nameN
  simp only [Bool.or_eq_true, Bool.and_eq_true, decide_eq_true_eq]
theorem nameB_iff (s : ByteArray) : nameB s = true ↔ (∀ j, j < s.size → nameN (bt s j)) ∧ 1 ≤ s.size ∧ s.size ≤ 8 := by
  unfold nameB nameL
  have hl : (lb s).length = s.size := rfl
  simp only [Bool.and_eq_true, decide_eq_true_eq, List.all_eq_true, hl]
  constructor
  · rintro ⟨h1, h2⟩
    exact ⟨fun j hj => (nameC_iff hj).1 (h1 _ (List.getElem_mem hj)), h2⟩
  · rintro ⟨h1, h2⟩
    refine ⟨fun c hc => ?_, h2⟩
    obtain ⟨j, hj, rfl⟩ := List.mem_iff_getElem.1 hc
    exact (nameC_iff hj).2 (h1 j hj)
theorem nameB_no {s : ByteArray} {j : Nat} (h : j < s.size) (hn : ¬ nameN (bt s j)) : nameB s = false := by
  cases e : nameB s with
  | false => rfl
  | true => exact absurd ((nameB_iff s).1 e |>.1 j h) hn
theorem units_at {w : World} {a : Option Addr} {L : List ByteArray} {lo hi : Nat} (h : RRow w a (tv L) lo hi) (hp : 0 < L.length) : ∃ b off, a = some ⟨b, off, none⟩ ∧ b < w.heap.size ∧ ∀ j, j < L.length → w.cell? ⟨b, off + j, none⟩ = some (.string (L.getD j ⟨#[]⟩)) := by
  obtain ⟨b, off, e, _, _, hb, hc⟩ := h (by rw [tv_len]; exact hp)
  exact ⟨b, off, e, hb, fun j hj => hc j _ (tv_get L j hj)⟩
set_option maxHeartbeats 1000000 in
theorem specNameOk (s : ByteArray) (w : World) (hs : s.size ≤ 1048576) : Calls Try.prog 99 #[.string s] w fun e w' => e = .returned (.bool (nameB s)) ∧ Below w.heap.size w w' := by
  have hb := Go.PlainAid.get_bt s
  obtain ⟨r, hre⟩ : ∃ r, r = nameB s := ⟨_, rfl⟩
  have HRE := Shut.mk hre
  rw [← hre]
  clear hre
  go_enter Try.func99, Try.ntmps99
  go_wp2_with fail
  go_loopw [3] (fun i wr => ∃ (k : Nat), i = .int .i64 k ∧ k ≤ s.size ∧ Shut (∀ j, j < k → nameN (bt s j)) ∧ Shut (Below w.heap.size w wr)) (fun i _ => s.size - (intOf i).toNat)
  case atStart => exact ⟨0, rfl, Nat.zero_le _, ⟨fun j hj => by omega⟩, ⟨Below.refl _ _⟩⟩
  case round =>
    obtain ⟨k, rfl, hk, hall, hbl⟩ := hrel
    by_cases hlt : k < s.size
    · have b0 := Go.PlainAid.bt_nonneg s k
      have b1 := Go.PlainAid.bt_le s k
      have hlt' : (k : Int) < (s.size : Int) := by omega
      have k0 : (0 : Int) ≤ (k : Int) := by omega
      have HN := Shut.mk (fun (q : nameN (bt s k)) => show ∀ j, j < k + 1 → nameN (bt s j) from fun j hj => by
        by_cases e : j = k
        · subst e; exact q
        · exact hall.out j (by omega))
      have HF := Shut.mk (fun (q : ¬ nameN (bt s k)) => HRE.out.trans (nameB_no hlt q))
      by_cases c1 : bt s k < 97
      · by_cases c2 : bt s k < 48
        · have HE := Shut.mk (HF.out (fun q => by unfold nameN at q; omega))
          go_wp2_with fail
          go_ret
          exact ⟨by rw [HE.out]; rfl, hbl.out⟩
        · by_cases c3 : 57 < bt s k
          · have HE := Shut.mk (HF.out (fun q => by unfold nameN at q; omega))
            go_wp2_with fail
            go_ret
            exact ⟨by rw [HE.out]; rfl, hbl.out⟩
          · have HE := Shut.mk (HN.out (by unfold nameN; omega))
            go_wp2_with fail
            go_roundw
            case rel => exact ⟨k + 1, by go_num, by omega, HE, hbl⟩
            case measure => simp [intOf]; omega
      · by_cases c2 : 122 < bt s k
        · have HE := Shut.mk (HF.out (fun q => by unfold nameN at q; omega))
          have c3 : ¬ bt s k < 48 := by omega
          have c4 : 57 < bt s k := by omega
          go_wp2_with fail
          go_ret
          exact ⟨by rw [HE.out]; rfl, hbl.out⟩
        · have HE := Shut.mk (HN.out (by unfold nameN; omega))
          go_wp2_with fail
          go_roundw
          case rel => exact ⟨k + 1, by go_num, by omega, HE, hbl⟩
          case measure => simp [intOf]; omega
    · have hlt' : ¬ (k : Int) < (s.size : Int) := by omega
      have hin : (decide ((1 : Int) ≤ (s.size : Int)) && decide ((s.size : Int) ≤ 8)) = r := by
        rw [HRE.out, Bool.eq_iff_iff, nameB_iff]
        simp only [Bool.and_eq_true, decide_eq_true_eq]
        constructor
        · intro h; exact ⟨fun j hj => hall.out j (by omega), by omega, by omega⟩
        · intro h; omega
      have HI := Shut.mk (fun W => isIn (s.size : Int) 1 8 W _ hin)
      clear hin hall
      go_wp2_with fail
      refine (HI.out _).mono ?_
      rintro e w1 ⟨rfl, hw⟩
      subst hw
      go_wp2_with fail
      go_ret
      exact ⟨rfl, hbl.out⟩
end Go.Proofs.Ytendbipfmgnjkaa
