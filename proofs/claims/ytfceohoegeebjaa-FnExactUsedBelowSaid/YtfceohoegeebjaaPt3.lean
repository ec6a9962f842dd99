/- Texts of ours, laid one behind the other: PathM, TreM, TreP, TreQ, TvA, StrV, PathA, TreR, TreS, TreT, TreU. -/
import Derived.Test.YtfceohoegeebjaaPt2
import Derived.PlainAid
import Derived.BigQuiet
import Derived.Deep.RegionHeld3
import Derived.Deep.CutRange
/- PathM: Paths, plain: names, what lies between slashes, paths and their names. Nothing of the program is read here. -/
namespace Go.Proofs.Ytfceohoegeebjaa
open Go.PlainAid (bt)

def nameC (c : UInt8) : Bool := (decide (97 ≤ c.toNat) && decide (c.toNat ≤ 122)) || (decide (48 ≤ c.toNat) && decide (c.toNat ≤ 57))
def nameL (l : List UInt8) : Bool := l.all nameC && (decide (1 ≤ l.length) && decide (l.length ≤ 8))
theorem nameC_slash {c : UInt8} (h : nameC c = true) : c ≠ 47 := by
  intro e; subst e; exact absurd h (by decide)
theorem nameL_slash {l : List UInt8} (h : nameL l = true) : ∀ c ∈ l, c ≠ 47 := fun c hc => by
  unfold nameL at h
  rw [Bool.and_eq_true, List.all_eq_true] at h
  exact nameC_slash (h.1 c hc)
theorem nameL_pos {l : List UInt8} (h : nameL l = true) : 1 ≤ l.length ∧ l.length ≤ 8 := by
  unfold nameL at h
  simp only [Bool.and_eq_true, decide_eq_true_eq] at h
  exact h.2
/-- What lies between slashes. -/
def segs : List UInt8 → List (List UInt8)
  | [] => [[]]
  | c :: r => if c = 47 then [] :: segs r else match segs r with
    | [] => [[c]]
    | h :: t => (c :: h) :: t
theorem segs_ne : ∀ l, segs l ≠ []
  | [] => by simp [segs]
  | c :: r => by
    unfold segs
    split
    · simp
    · split <;> simp
theorem segs_none : ∀ (l : List UInt8), (∀ c ∈ l, c ≠ 47) → segs l = [l]
  | [], _ => rfl
  | c :: r, h => by
    unfold segs
    rw [if_neg (h c (by simp)), segs_none r (fun x hx => h x (by simp [hx]))]
theorem segs_cons {c : UInt8} {r x : List UInt8} {t : List (List UInt8)} (h : c ≠ 47) (e : segs r = x :: t) : segs (c :: r) = (c :: x) :: t := by
  unfold segs
  rw [if_neg h, e]
theorem segs_cut : ∀ (a r : List UInt8), (∀ c ∈ a, c ≠ 47) → segs (a ++ 47 :: r) = a :: segs r
  | [], r, _ => by simp [segs]
  | c :: a, r, h => by
    exact segs_cons (h c (by simp)) (segs_cut a r (fun x hx => h x (by simp [hx])))
theorem segs_back : ∀ (l : List UInt8), ((segs l).map (47 :: ·)).flatten = 47 :: l
  | [] => rfl
  | c :: r => by
    have ih := segs_back r
    unfold segs
    split
    · rename_i e; subst e
      simp only [List.map_cons, List.flatten_cons, ih]; rfl
    · cases h : segs r with
      | nil => exact absurd h (segs_ne r)
      | cons x t =>
        rw [h] at ih
        simp only [List.map_cons, List.flatten_cons, List.cons_append] at ih ⊢
        rw [List.cons.injEq] at ih
        rw [ih.2]
/-- A path's names. -/
def splitP : List UInt8 → List (List UInt8) × Bool
  | [] => ([], false)
  | c :: r => if c = 47 then (if r = [] then ([], true) else if (segs r).all nameL = true ∧ (segs r).length ≤ 4 then (segs r, true) else ([], false)) else ([], false)
def joinP (L : List (List UInt8)) : List UInt8 := if L = [] then [47] else (L.map (47 :: ·)).flatten
theorem join_split {p : List UInt8} (h : (splitP p).2 = true) : joinP (splitP p).1 = p := by
  unfold splitP at h ⊢
  cases p with
  | nil => cases h
  | cons c r =>
    simp only at h ⊢
    by_cases hc : c = 47
    · subst hc
      rw [if_pos rfl] at h ⊢
      by_cases hr : r = []
      · subst hr; rfl
      · rw [if_neg hr] at h ⊢
        by_cases hq : (segs r).all nameL = true ∧ (segs r).length ≤ 4
        · rw [if_pos hq]
          show joinP (segs r) = 47 :: r
          unfold joinP
          rw [if_neg (segs_ne r), segs_back]
        · rw [if_neg hq] at h; cases h
    · rw [if_neg hc] at h; cases h
theorem segs_join : ∀ (x : List UInt8) (L : List (List UInt8)), (∀ l ∈ x :: L, nameL l = true) → segs (x ++ (L.map (47 :: ·)).flatten) = x :: L
  | x, [], h => by
    rw [List.map_nil, List.flatten_nil, List.append_nil]
    exact segs_none x (nameL_slash (h x (by simp)))
  | x, y :: L, h => by
    rw [List.map_cons, List.flatten_cons, List.cons_append, segs_cut x _ (nameL_slash (h x (by simp))), segs_join y L (fun l hl => h l (by simp at hl ⊢; exact .inr hl))]
theorem split_join {L : List (List UInt8)} (h : ∀ l ∈ L, nameL l = true) (h4 : L.length ≤ 4) : splitP (joinP L) = (L, true) := by
  cases L with
  | nil => rfl
  | cons x L =>
    have e : joinP (x :: L) = 47 :: (x ++ (L.map (47 :: ·)).flatten) := by unfold joinP; rw [if_neg (by simp)]; rfl
    rw [e]
    unfold splitP
    have hx := (nameL_pos (h x (by simp))).1
    have hne : x ++ (L.map (47 :: ·)).flatten ≠ [] := fun e => by
      have := congrArg List.length e
      rw [List.length_append] at this
      simp at this
      rw [this.1] at hx
      simp at hx
    simp only
    rw [if_pos trivial, if_neg hne, segs_join x L h, if_pos ⟨by rw [List.all_eq_true]; exact h, h4⟩]
theorem split_names {p : List UInt8} : (∀ l ∈ (splitP p).1, nameL l = true) ∧ (splitP p).1.length ≤ 4 := by
  unfold splitP
  cases p with
  | nil => exact ⟨by simp, by simp⟩
  | cons c r =>
    simp only
    split
    · split
      · exact ⟨by simp, by simp⟩
      · split
        · rename_i q
          rw [List.all_eq_true] at q
          exact q
        · exact ⟨by simp, by simp⟩
    · exact ⟨by simp, by simp⟩
/-- The same of texts. -/
abbrev ba (l : List UInt8) : ByteArray := ⟨l.toArray⟩
abbrev lb (s : ByteArray) : List UInt8 := s.data.toList
theorem ba_lb (s : ByteArray) : ba (lb s) = s := rfl
theorem lb_ba (l : List UInt8) : lb (ba l) = l := by simp [lb]
def nameB (s : ByteArray) : Bool := nameL (lb s)
def splitB (p : ByteArray) : List ByteArray × Bool := ((splitP (lb p)).1.map ba, (splitP (lb p)).2)
def joinB (L : List ByteArray) : ByteArray := ba (joinP (L.map lb))
def parentB (p : ByteArray) : ByteArray × ByteArray × Bool := if (splitB p).2 = true ∧ (splitB p).1 ≠ [] then (joinB (splitB p).1.dropLast, (splitB p).1.getLastD ⟨#[]⟩, true) else (⟨#[]⟩, ⟨#[]⟩, false)
theorem map_lb_ba (L : List (List UInt8)) : (L.map ba).map lb = L := by
  rw [List.map_map]
  exact List.map_id'' (fun l => lb_ba l) L
theorem map_ba_lb (L : List ByteArray) : (L.map lb).map ba = L := by
  rw [List.map_map]
  exact List.map_id'' (fun s => ba_lb s) L
theorem joinB_split {p : ByteArray} (h : (splitB p).2 = true) : joinB (splitB p).1 = p := by
  unfold joinB splitB
  simp only
  rw [map_lb_ba, join_split h]
theorem splitB_join {L : List ByteArray} (h : ∀ s ∈ L, nameB s = true) (h4 : L.length ≤ 4) : splitB (joinB L) = (L, true) := by
  unfold splitB joinB
  rw [lb_ba, split_join (L := L.map lb) (fun l hl => by obtain ⟨s, hs, rfl⟩ := List.mem_map.1 hl; exact h s hs) (by rw [List.length_map]; exact h4)]
  simp only
  rw [map_ba_lb]
theorem splitB_names (p : ByteArray) : (∀ s ∈ (splitB p).1, nameB s = true) ∧ (splitB p).1.length ≤ 4 := by
  have h := split_names (p := lb p)
  refine ⟨fun s hs => ?_, ?_⟩
  · obtain ⟨l, hl, rfl⟩ := List.mem_map.1 hs
    unfold nameB
    rw [lb_ba]
    exact h.1 l hl
  · show ((splitP (lb p)).1.map ba).length ≤ 4
    rw [List.length_map]; exact h.2
/-- Where the way through a path stands. -/
structure PaRel (p : ByteArray) (i bg : Nat) (done : List ByteArray) : Prop where
  le : bg ≤ i
  pos : 1 ≤ bg
  clean : ∀ j, bg ≤ j → j < i → bt p j ≠ 47
  sofar : (segs ((lb p).drop 1)).map ba = done ++ (segs ((lb p).drop bg)).map ba
  names : ∀ s ∈ done, nameB s = true
theorem ext_list (s : ByteArray) (a b : Nat) : lb (s.extract a b) = ((lb s).drop a).take (b - a) := by simp [lb, ByteArray.data_extract]
theorem bt_at {s : ByteArray} {j : Nat} (h : j < s.size) : bt s j = ((lb s)[j]'h).toNat := by
  unfold bt; rw [dif_pos h]; rfl
theorem clean_list {p : ByteArray} {i bg : Nat} (hi : i ≤ p.size) (h : ∀ j, bg ≤ j → j < i → bt p j ≠ 47) : ∀ c ∈ ((lb p).drop bg).take (i - bg), c ≠ 47 := fun c hc e => by
  subst e
  obtain ⟨j, hj, e2⟩ := List.mem_iff_getElem.1 hc
  rw [List.length_take, List.length_drop] at hj
  have hl : (lb p).length = p.size := rfl
  rw [List.getElem_take, List.getElem_drop] at e2
  have := h (bg + j) (by omega) (by omega)
  rw [bt_at (by omega)] at this
  simp only [e2] at this
  exact this (by decide)
theorem PaRel.start {p : ByteArray} : PaRel p 1 1 [] := ⟨Nat.le_refl _, Nat.le_refl _, fun j h1 h2 => by omega, rfl, by simp⟩
theorem PaRel.step {p : ByteArray} {i bg : Nat} {done : List ByteArray} (h : PaRel p i bg done) (hc : bt p i ≠ 47) : PaRel p (i + 1) bg done :=
  ⟨by have := h.le; omega, h.pos, fun j h1 h2 => by
    by_cases e : j = i
    · subst e; exact hc
    · exact h.clean j h1 (by omega), h.sofar, h.names⟩
theorem PaRel.split {p : ByteArray} {i bg : Nat} {done : List ByteArray} (h : PaRel p i bg done) (hi : i < p.size) (hc : bt p i = 47) : (segs ((lb p).drop 1)).map ba = (done ++ [p.extract bg i]) ++ (segs ((lb p).drop (i + 1))).map ba := by
  have hl : (lb p).length = p.size := rfl
  have e : (lb p).drop bg = ((lb p).drop bg).take (i - bg) ++ 47 :: (lb p).drop (i + 1) := by
    have h1 : ((lb p).drop bg).drop (i - bg) = 47 :: (lb p).drop (i + 1) := by
      rw [List.drop_drop, show bg + (i - bg) = i from by have := h.le; omega, List.drop_eq_getElem_cons (by omega)]
      congr 1
      have := bt_at hi
      rw [hc] at this
      have h2 : ((lb p)[i]'(by omega)).toNat = 47 := by omega
      exact UInt8.toNat_inj.1 h2
    rw [← h1, List.take_append_drop]
  rw [h.sofar, e, segs_cut _ _ (clean_list (by omega) h.clean), List.map_cons, List.append_assoc]
  congr 1
  rw [← ext_list, ba_lb]; rfl
theorem PaRel.fin {p : ByteArray} {i bg : Nat} {done : List ByteArray} (h : PaRel p i bg done) (hi : i = p.size) : (segs ((lb p).drop 1)).map ba = done ++ [p.extract bg i] := by
  have hl : (lb p).length = p.size := rfl
  have e : (lb p).drop bg = ((lb p).drop bg).take (i - bg) := by rw [List.take_of_length_le (by rw [List.length_drop]; omega)]
  rw [h.sofar, e, segs_none _ (clean_list (by omega) h.clean), List.map_cons, List.map_nil, ← ext_list, ba_lb]
theorem PaRel.next {p : ByteArray} {i bg : Nat} {done : List ByteArray} (h : PaRel p i bg done) (hi : i < p.size) (hc : bt p i = 47) (hn : nameB (p.extract bg i) = true) : PaRel p (i + 1) (i + 1) (done ++ [p.extract bg i]) :=
  ⟨Nat.le_refl _, by omega, fun j h1 h2 => by omega, h.split hi hc, fun s hs => by
    rcases List.mem_append.1 hs with q | q
    · exact h.names s q
    · simp at q; subst q; exact hn⟩
theorem splitB_rest {p : ByteArray} (h1 : 1 < p.size) (h0 : bt p 0 = 47) : splitB p = if (∀ s ∈ (segs ((lb p).drop 1)).map ba, nameB s = true) ∧ ((segs ((lb p).drop 1)).map ba).length ≤ 4 then ((segs ((lb p).drop 1)).map ba, true) else ([], false) := by
  have hl : (lb p).length = p.size := rfl
  unfold splitB
  have e : lb p = 47 :: (lb p).drop 1 := by
    have := List.drop_eq_getElem_cons (l := lb p) (i := 0) (by omega)
    rw [List.drop_zero] at this
    rw [this]
    congr 1
    have h2 := bt_at (s := p) (j := 0) (by omega)
    rw [h0] at h2
    have h3 : ((lb p)[0]'(by omega)).toNat = 47 := by omega
    exact UInt8.toNat_inj.1 h3
  have hne : (lb p).drop 1 ≠ [] := fun e => by have := congrArg List.length e; rw [List.length_drop] at this; simp at this; omega
  generalize (lb p).drop 1 = r at *
  rw [e]
  unfold splitP
  simp only
  rw [if_pos trivial, if_neg hne, List.length_map]
  have hall : ((segs r).all nameL = true) ↔ ∀ s ∈ (segs r).map ba, nameB s = true := by
    rw [List.all_eq_true]
    constructor
    · intro h s hs
      obtain ⟨l, hl, rfl⟩ := List.mem_map.1 hs
      unfold nameB; rw [lb_ba]; exact h l hl
    · intro h l hl
      have := h (ba l) (List.mem_map.2 ⟨l, hl, rfl⟩)
      unfold nameB at this; rw [lb_ba] at this; exact this
  by_cases hq : (segs r).all nameL = true ∧ (segs r).length ≤ 4
  · rw [if_pos hq, if_pos ⟨hall.1 hq.1, hq.2⟩]
  · rw [if_neg hq, if_neg (fun k => hq ⟨hall.2 k.1, k.2⟩)]; rfl
end Go.Proofs.Ytfceohoegeebjaa
/- TreM: Trees, plain: where a node is, right files, right directories, right trees. Nothing of the program is read here. -/
namespace Go.Proofs.Ytfceohoegeebjaa

/-- The place of a node, -1 without one. -/
def atI (ns : List NM) (id : Int) : Int := match ns.findIdx? (fun n => n.id == id) with
  | some i => (i : Int)
  | none => -1
theorem atI_none {ns : List NM} {id : Int} (h : ∀ n ∈ ns, n.id ≠ id) : atI ns id = -1 := by
  unfold atI
  rw [List.findIdx?_eq_none_iff.2 (fun n hn => by simpa using h n hn)]
theorem atI_some {ns : List NM} {id : Int} {i : Nat} (hi : i < ns.length) (h : ns[i].id = id) (hl : ∀ j, j < i → ∀ hj : j < ns.length, ns[j].id ≠ id) : atI ns id = (i : Int) := by
  unfold atI
  have : ns.findIdx? (fun n => n.id == id) = some i := by
    rw [List.findIdx?_eq_some_iff_getElem]
    exact ⟨hi, by simpa using h, fun j hj => by simpa using hl j hj (by omega)⟩
  rw [this]
theorem atI_cases (ns : List NM) (id : Int) : (atI ns id = -1 ∧ ∀ n ∈ ns, n.id ≠ id) ∨ ∃ i, ∃ hi : i < ns.length, atI ns id = (i : Int) ∧ ns[i].id = id := by
  unfold atI
  cases h : ns.findIdx? (fun n => n.id == id) with
  | none =>
    left
    exact ⟨rfl, fun n hn => by have := List.findIdx?_eq_none_iff.1 h n hn; simpa using this⟩
  | some i =>
    right
    obtain ⟨hi, h1, _⟩ := List.findIdx?_eq_some_iff_getElem.1 h
    exact ⟨i, hi, rfl, by simpa using h1⟩
def inI (x a b : Int) : Bool := decide (a ≤ x) && decide (x ≤ b)
theorem inI_iff {x a b : Int} : inI x a b = true ↔ a ≤ x ∧ x ≤ b := by unfold inI; simp
def pieceOk (s : Int) (p : PM) : Bool := inI p.group 1 100000 && inI p.len 1 (groupN s : Nat)
/-- How many bytes pieces have. -/
def sumP : List PM → Int
  | [] => 0
  | p :: ps => p.len + sumP ps
theorem sumP_append (a b : List PM) : sumP (a ++ b) = sumP a + sumP b := by
  induction a with
  | nil => simp [sumP]
  | cons p a ih => simp only [List.cons_append, sumP, ih]; omega
theorem sumP_take (ps : List PM) (k : Nat) (h : k < ps.length) : sumP (ps.take (k + 1)) = sumP (ps.take k) + ps[k].len := by
  rw [List.take_succ_eq_append_getElem h, sumP_append]
  simp [sumP]
theorem sumP_ok {s : Int} {ps : List PM} (h : ∀ p ∈ ps, pieceOk s p = true) : 0 ≤ sumP ps ∧ sumP ps ≤ 32 * ps.length := by
  induction ps with
  | nil => simp [sumP]
  | cons p ps ih =>
    have h1 := ih (fun q hq => h q (by simp [hq]))
    have h2 := h p (by simp)
    unfold pieceOk at h2
    rw [Bool.and_eq_true, inI_iff, inI_iff] at h2
    have h3 := groupN_bounds s
    simp only [sumP, List.length_cons]
    push_cast
    omega
/-- Right for a file. -/
def fileOk (n : NM) : Bool := inI n.schema 1 3 && (n.quota == 0) && decide (n.pieces.length ≤ 40) && inI n.writer 0 9 && n.pieces.all (pieceOk n.schema) && (sumP n.pieces == n.len) && decide (sumP n.pieces ≤ 1000)
/-- Right for a directory. -/
def dirOk (n : NM) : Bool := inI n.schema 0 3 && inI n.quota 0 1000 && (n.len == 0) && decide (n.pieces.length = 0) && (n.writer == 0)
/-- Right for the node that comes first. -/
def firstOk (n : NM) : Bool := (n.id == 1) && (n.parent == 0) && decide (n.name = ⟨#[]⟩) && n.dir && (n.schema != 0)
/-- So many steps up, and the first node is there. -/
def climbs (ns : List NM) : Nat → Int → Bool
  | 0, _ => false
  | f + 1, id => match ns.findIdx? (fun n => n.id == id) with
    | none => false
    | some k => if (ns.getD k default).parent = 1 then true else climbs ns f (ns.getD k default).parent
/-- Right at its place. -/
def nodeOk (T : TM) (i : Nat) : Bool :=
  decide ((T.nodes.getD i default).id < T.next) && (if i = 0 then firstOk (T.nodes.getD i default) else decide ((T.nodes.getD (i - 1) default).id < (T.nodes.getD i default).id)) &&
  (if (T.nodes.getD i default).dir then dirOk (T.nodes.getD i default) else fileOk (T.nodes.getD i default)) &&
  (decide (i = 0) || (nameB (T.nodes.getD i default).name && decide (0 ≤ atI T.nodes (T.nodes.getD i default).parent) && (T.nodes.getD (atI T.nodes (T.nodes.getD i default).parent).toNat default).dir &&
    (List.range i).all (fun j => ! (((T.nodes.getD j default).parent == (T.nodes.getD i default).parent) && decide ((T.nodes.getD j default).name = (T.nodes.getD i default).name))) && climbs T.nodes 4 (T.nodes.getD i default).id))
def treeOk (T : TM) : Bool := decide (1 ≤ T.nodes.length) && decide (T.nodes.length ≤ 14) && decide (T.next ≤ 100000) && (List.range T.nodes.length).all (nodeOk T)
end Go.Proofs.Ytfceohoegeebjaa
/- TreP: The walks of the models' TreeNew, l10At, l10File. -/
namespace Go.Proofs.Ytfceohoegeebjaa
open Go.RowKit
attribute [local go_sem ↓] Go.wp_at_zero Go.wp_at_succ

theorem nds_at (rs : List NR) (i : Nat) (h : i < rs.length) : (nds rs)[i]'(by rw [nds_len]; exact h) = rs[i].nd := by simp [nds]
set_option maxHeartbeats 1000000 in
theorem specAt {w : World} {v : Value} {T : TM} {lo hi : Nat} (id : Int) (h : TSee w v T lo hi) (hl : T.nodes.length ≤ 1048576) : Calls Try.prog 51 #[v, .int .i64 id] w fun e w' => e = .returned (.int .i64 (atI T.nodes id)) ∧ Below w.heap.size w w' := by
  obtain ⟨a, cap, rs, rfl, hr, hm⟩ := h
  obtain ⟨n, hn⟩ : ∃ n, n = rs.length := ⟨_, rfl⟩
  have hnl : n = T.nodes.length := by rw [hn, ← hr, nds_len]
  have HN := Shut.mk (And.intro hn hr)
  obtain ⟨R, hR⟩ : ∃ R, R = atI T.nodes id := ⟨_, rfl⟩
  have HRR := Shut.mk hR
  have hn9 : n ≤ 1048576 := by omega
  rw [← hR, ← hn]
  generalize T.next = nx at *
  obtain ⟨W, hW⟩ : ∃ W, W = w.alloc (.cells #[.slice a n cap, .int .i64 nx] 26) := ⟨_, rfl⟩
  have HB : Shut (Below w.heap.size w W) := ⟨by rw [hW]; exact (Below.refl _ _).alloc (Nat.le_refl _) _⟩
  have HM := Shut.mk (hm.below HB.out)
  have x0 : W.cell? ⟨w.heap.size, 0, none⟩ = some (.slice a n cap) := by rw [hW]; exact ((wcells_new w #[.slice a n cap, .int .i64 nx] 26).2 0 _ rfl).1
  clear hm hr hn hnl hR hl
  go_enter Try.func51, Try.ntmps51
  go_upto_region 1 with fail
  rw [← hW]
  clear hW
  go_wp2_with fail
  go_loopw [5] (fun i wr => ∃ (k : Nat), i = .int .i64 k ∧ k ≤ n ∧ Shut (∀ j, j < k → ∀ hj : j < T.nodes.length, T.nodes[j].id ≠ id) ∧ wr = W) (fun i _ => n - (intOf i).toNat)
  case atStart => exact ⟨0, rfl, Nat.zero_le _, ⟨fun j hj => by omega⟩, rfl⟩
  case round =>
    obtain ⟨k, rfl, hk, hall, rfl⟩ := hrel
    by_cases hlt : k < n
    · have hlr : k < rs.length := by have := HN.out.1; omega
      have htl : k < T.nodes.length := by rw [← HN.out.2, nds_len]; exact hlr
      obtain ⟨b, off, rfl, lb, hc⟩ := TR.nat HM.out (by omega)
      have d0 := (hc k hlr).1
      have hid : rs[k].nd = T.nodes[k] := by
        have := nds_at rs k hlr
        rw [← this]
        simp only [HN.out.2]
      rw [hid] at d0
      have k0 : (0 : Int) ≤ (k : Int) := by omega
      have k1 : (k : Int) < (n : Int) := by omega
      clear hc hid
      by_cases he : T.nodes[k].id = id
      · have HE : Shut (R = (k : Int)) := ⟨by rw [HRR.out]; exact atI_some htl he hall.out⟩
        have he' : (T.nodes[k].id == id) = true := by simpa using he
        generalize T.nodes[k].id = q at *
        go_wp2_with fail
        go_ret
        exact ⟨by rw [HE.out]; rfl, HB.out⟩
      · have he' : (T.nodes[k].id == id) = false := by simpa using he
        have HNX : Shut (∀ j, j < k + 1 → ∀ hj : j < T.nodes.length, T.nodes[j].id ≠ id) := ⟨fun j hj hj2 => by
          by_cases e : j = k
          · subst e; exact he
          · exact hall.out j (by omega) hj2⟩
        generalize T.nodes[k].id = q at *
        go_wp2_with fail
        go_roundw
        case rel => exact ⟨k + 1, by go_num, by omega, HNX, by first | rfl | trivial⟩
        case measure => simp [intOf]; omega
    · have hlt' : ¬ (k : Int) < (n : Int) := by omega
      have HE : Shut (R = -1) := ⟨by
        rw [HRR.out]
        refine atI_none (fun m hm => ?_)
        obtain ⟨j, hj, rfl⟩ := List.mem_iff_getElem.1 hm
        exact hall.out j (by rw [← HN.out.2, nds_len] at hj; have := HN.out.1; omega) hj⟩
      go_wp2_with fail
      go_ret
      exact ⟨by rw [HE.out]; rfl, HB.out⟩
end Go.Proofs.Ytfceohoegeebjaa
/- TreQ: The walk of the model's l10File. -/
namespace Go.Proofs.Ytfceohoegeebjaa
open Go.RowKit
attribute [local go_sem ↓] Go.wp_at_zero Go.wp_at_succ

theorem isInI (x a b : Int) (w : World) (r : Bool) (h : inI x a b = r) : Calls Try.prog 56 #[.int .i64 x, .int .i64 a, .int .i64 b] w fun e w' => e = .returned (.bool r) ∧ w' = w := isIn x a b w r h
theorem fileOk_no1 {n : NM} (h : inI n.schema 1 3 = false) : fileOk n = false := by unfold fileOk; rw [h]; rfl
theorem fileOk_no2 {n : NM} (h : n.quota ≠ 0) : fileOk n = false := by unfold fileOk; rw [show (n.quota == 0) = false by simpa using h]; simp
theorem fileOk_no3 {n : NM} (h : ¬ n.pieces.length ≤ 40) : fileOk n = false := by unfold fileOk; rw [decide_eq_false h]; simp
theorem fileOk_no4 {n : NM} (h : inI n.writer 0 9 = false) : fileOk n = false := by unfold fileOk; rw [h]; simp
theorem fileOk_no5 {n : NM} {p : PM} (hp : p ∈ n.pieces) (h : pieceOk n.schema p = false) : fileOk n = false := by
  have : n.pieces.all (pieceOk n.schema) = false := by
    cases e : n.pieces.all (pieceOk n.schema) with
    | false => rfl
    | true => rw [List.all_eq_true] at e; rw [e p hp] at h; cases h
  unfold fileOk; rw [this]; simp
theorem fileOk_yes {n : NM} (h1 : inI n.schema 1 3 = true) (h2 : n.quota = 0) (h3 : n.pieces.length ≤ 40) (h4 : inI n.writer 0 9 = true) (h5 : ∀ p ∈ n.pieces, pieceOk n.schema p = true) : fileOk n = ((sumP n.pieces == n.len) && decide (sumP n.pieces ≤ 1000)) := by
  unfold fileOk
  rw [h1, h2, decide_eq_true h3, h4, show n.pieces.all (pieceOk n.schema) = true from List.all_eq_true.2 h5]
  simp
set_option maxRecDepth 100000 in
set_option maxHeartbeats 4000000 in
theorem specFile (r : NR) (w : World) (lo hi : Nat) (hp : RRow w r.loc (pcs r.nd.pieces) lo hi) (hpl : r.nd.pieces.length ≤ 1048576) : Calls Try.prog 81 #[nv r] w fun e w' => e = .returned (.bool (fileOk r.nd)) ∧ Below w.heap.size w w' := by
  obtain ⟨⟨id, parent, name, dir, schema, quota, len, pieces, writer⟩, loc, cap⟩ := r
  obtain ⟨R, hR⟩ : ∃ R, R = fileOk ⟨id, parent, name, dir, schema, quota, len, pieces, writer⟩ := ⟨_, rfl⟩
  have HR := Shut.mk hR
  dsimp only [nv] at *
  rw [← hR]
  obtain ⟨np, hnp⟩ : ∃ np, np = pieces.length := ⟨_, rfl⟩
  rw [← hnp] at hpl ⊢
  have HNP := Shut.mk hnp
  obtain ⟨W, hW⟩ : ∃ W, W = w.alloc (.cells #[.int .i64 id, .int .i64 parent, .string name, .bool dir, .int .i64 schema, .int .i64 quota, .int .i64 len, .slice loc np cap, .int .i64 writer] 30) := ⟨_, rfl⟩
  have HB : Shut (Below w.heap.size w W) := ⟨by rw [hW]; exact (Below.refl _ _).alloc (Nat.le_refl _) _⟩
  have HC : Shut (WCells W w.heap.size [.int .i64 id, .int .i64 parent, .string name, .bool dir, .int .i64 schema, .int .i64 quota, .int .i64 len, .slice loc np cap, .int .i64 writer]) := ⟨by rw [hW]; exact wcells_new w #[.int .i64 id, .int .i64 parent, .string name, .bool dir, .int .i64 schema, .int .i64 quota, .int .i64 len, .slice loc np cap, .int .i64 writer] 30⟩
  have HP := Shut.mk (hp.below HB.out)
  have x4 := (HC.out.2 4 _ rfl).1
  have x5 := (HC.out.2 5 _ rfl).1
  have x7 := (HC.out.2 7 _ rfl).1
  have x8 := (HC.out.2 8 _ rfl).1
  clear hp hR hnp
  cases h1 : inI schema 1 3 with
  | false =>
    have HE := Shut.mk (HR.out.trans (fileOk_no1 h1))
    go_enter Try.func81, Try.ntmps81
    go_upto_region 1 with fail
    rw [← hW]
    clear hW
    go_wp2_with fail
    refine (isInI schema 1 3 _ false h1).mono ?_
    rintro e w1 ⟨rfl, hw1⟩
    obtain rfl : W = w1 := hw1.symm
    clear hw1
    go_wp2_with fail
    go_ret
    exact ⟨by rw [HE.out]; rfl, HB.out⟩
  | true =>
    by_cases h2 : quota = 0
    case neg =>
      have HE := Shut.mk (HR.out.trans (fileOk_no2 h2))
      have h2' : (quota != 0) = true := by simpa using h2
      go_enter Try.func81, Try.ntmps81
      go_upto_region 1 with fail
      rw [← hW]
      clear hW
      go_wp2_with fail
      refine (isInI schema 1 3 _ true h1).mono ?_
      rintro e w1 ⟨rfl, hw1⟩
      obtain rfl : W = w1 := hw1.symm
      clear hw1
      go_wp2_with fail
      go_ret
      exact ⟨by rw [HE.out]; rfl, HB.out⟩
    have h2' : (quota != 0) = false := by rw [h2]; rfl
    have H2 := Shut.mk h2
    clear h2
    by_cases h3 : np ≤ 40
    case neg =>
      have HE := Shut.mk (HR.out.trans (fileOk_no3 (by rw [← HNP.out]; exact h3)))
      have h3' : (40 : Int) < (np : Int) := by omega
      go_enter Try.func81, Try.ntmps81
      go_upto_region 1 with fail
      rw [← hW]
      clear hW
      go_wp2_with fail
      refine (isInI schema 1 3 _ true h1).mono ?_
      rintro e w1 ⟨rfl, hw1⟩
      obtain rfl : W = w1 := hw1.symm
      clear hw1
      go_wp2_with fail
      go_ret
      exact ⟨by rw [HE.out]; rfl, HB.out⟩
    have h3' : ¬ (40 : Int) < (np : Int) := by omega
    cases h4 : inI writer 0 9 with
    | false =>
      have HE := Shut.mk (HR.out.trans (fileOk_no4 h4))
      go_enter Try.func81, Try.ntmps81
      go_upto_region 1 with fail
      rw [← hW]
      clear hW
      go_wp2_with fail
      refine (isInI schema 1 3 _ true h1).mono ?_
      rintro e w1 ⟨rfl, hw1⟩
      obtain rfl : W = w1 := hw1.symm
      clear hw1
      go_wp2_with fail
      refine (isInI writer 0 9 _ false h4).mono ?_
      rintro e w1 ⟨rfl, hw1⟩
      obtain rfl : W = w1 := hw1.symm
      clear hw1
      go_wp2_with fail
      go_ret
      exact ⟨by rw [HE.out]; rfl, HB.out⟩
    | true =>
      have HY := Shut.mk (fun (q : ∀ p ∈ pieces, pieceOk schema p = true) => HR.out.trans (fileOk_yes (n := ⟨id, parent, name, dir, schema, quota, len, pieces, writer⟩) h1 H2.out (by rw [← HNP.out]; exact h3) h4 q))
      have HNO := Shut.mk (fun (p : PM) (hp : p ∈ pieces) (q : pieceOk schema p = false) => HR.out.trans (fileOk_no5 (n := ⟨id, parent, name, dir, schema, quota, len, pieces, writer⟩) hp q))
      have x6 := (HC.out.2 6 _ rfl).1
      have hg := groupN_bounds schema
      obtain ⟨G, hG⟩ : ∃ G, G = groupN schema := ⟨_, rfl⟩
      have HGS := Shut.mk (fun W => specGroupSize schema W)
      rw [← hG] at HGS hg
      have HG := Shut.mk hG
      clear hG
      go_enter Try.func81, Try.ntmps81
      go_upto_region 1 with fail
      rw [← hW]
      clear hW
      go_wp2_with fail
      refine (isInI schema 1 3 _ true h1).mono ?_
      rintro e w1 ⟨rfl, hw1⟩
      obtain rfl : W = w1 := hw1.symm
      clear hw1
      go_wp2_with fail
      refine (isInI writer 0 9 _ true h4).mono ?_
      rintro e w1 ⟨rfl, hw1⟩
      obtain rfl : W = w1 := hw1.symm
      clear hw1
      have HX := Shut.mk (And.intro x4 (And.intro x6 x7))
      clear h1 h4 x4 x5 x6 x8
      go_wp2_with fail
      go_loopw [3, 4] (fun s i wr => ∃ (k : Nat) (z : Int), i = .int .i64 k ∧ s = .int .i64 z ∧ k ≤ np ∧ 0 ≤ z ∧ z ≤ 32 * k ∧ Shut (z = sumP (pieces.take k) ∧ ∀ p ∈ pieces.take k, pieceOk schema p = true) ∧ Shut (Below W.heap.size W wr)) (fun _ i _ => np - (intOf i).toNat)
      case atStart => exact ⟨0, 0, rfl, rfl, Nat.zero_le _, by omega, by omega, ⟨rfl, by simp⟩, ⟨Below.refl _ _⟩⟩
      case round =>
        clear x7
        obtain ⟨k, z, rfl, rfl, hk, hz0, hz1, hall, hbl⟩ := hrel
        have hwl : w.heap.size < W.heap.size := HC.out.1
        have x4 := (hbl.out.cell (p := ⟨w.heap.size, 4, none⟩) hwl).trans HX.out.1
        have x6 := (hbl.out.cell (p := ⟨w.heap.size, 6, none⟩) hwl).trans HX.out.2.1
        have x7 := (hbl.out.cell (p := ⟨w.heap.size, 7, none⟩) hwl).trans HX.out.2.2
        by_cases hlt : k < np
        · have hlp : k < pieces.length := by have := HNP.out; omega
          have k0 : (0 : Int) ≤ (k : Int) := by omega
          have k1 : (k : Int) < (np : Int) := by omega
          obtain ⟨b, off, rfl, lb, hc⟩ := pcs_at (HP.out.below hbl.out) (by omega)
          obtain ⟨d0, d1⟩ := hc k hlp
          have hst := sumP_take pieces k hlp
          have hmem : pieces[k] ∈ pieces := List.getElem_mem hlp
          have HTK : Shut (pieces.take (k + 1) = pieces.take k ++ [pieces[k]]) := ⟨List.take_succ_eq_append_getElem hlp⟩
          have hbn : ∀ q, Below W.heap.size W (wr.drewN q) := fun q => hbl.out.trans ⟨rfl, rfl, rfl, Nat.le_refl _, fun _ _ => rfl⟩
          have HBN := Shut.mk hbn
          generalize pieces[k] = p at *
          have HST := Shut.mk hst
          clear hc hst hbn
          cases g1 : inI p.group 1 100000 with
          | false =>
            have HE := Shut.mk (HNO.out p hmem (by unfold pieceOk; rw [g1]; rfl))
            clear hbl
            go_wp2_with fail
            go_quiet ((go_at_call 56; exact Calls.quiet_of_same (isInI _ _ _ _ false g1)))
            go_wp2_with fail
            go_ret
            exact ⟨by rw [HE.out]; rfl, HB.out.trans ((HBN.out _).mono HB.out.size)⟩
          | true =>
            cases g2 : inI p.len 1 (G : Int) with
            | false =>
              have HE := Shut.mk (HNO.out p hmem (by unfold pieceOk; rw [← HG.out, g1, g2]; rfl))
              clear hbl
              go_wp2_with fail
              go_quiet (first | (go_at_call 103; exact Calls.quiet_of_same (HGS.out _)) | (go_at_call 56; exact Calls.quiet_of_same (isInI _ _ _ _ true g1)) | (go_at_call 56; exact Calls.quiet_of_same (isInI _ _ _ _ false g2)))
              go_wp2_with fail
              go_ret
              exact ⟨by rw [HE.out]; rfl, HB.out.trans ((HBN.out _).mono HB.out.size)⟩
            | true =>
              have hok : pieceOk schema p = true := by unfold pieceOk; rw [← HG.out, g1, g2]; rfl
              have hlen := inI_iff.1 g2
              have HAL : Shut (z + p.len = sumP (pieces.take (k + 1)) ∧ ∀ q ∈ pieces.take (k + 1), pieceOk schema q = true) := ⟨by rw [HST.out, hall.out.1], fun q hq => by
                rw [HTK.out] at hq
                rcases List.mem_append.1 hq with h | h
                · exact hall.out.2 q h
                · simp at h; subst h; exact hok⟩
              clear hbl hall hok
              go_wp2_with fail
              go_quiet (first | (go_at_call 103; exact Calls.quiet_of_same (HGS.out _)) | (go_at_call 56; exact Calls.quiet_of_same (isInI _ _ _ _ true g1)) | (go_at_call 56; exact Calls.quiet_of_same (isInI _ _ _ _ true g2)))
              go_wp2_with fail
              go_roundw
              case rel => exact ⟨k + 1, z + p.len, by go_num, rfl, by omega, by omega, by push_cast; omega, HAL, ⟨HBN.out _⟩⟩
              case measure => simp [intOf]; omega
        · have hlt' : ¬ (k : Int) < (np : Int) := by omega
          have hfull : pieces.take k = pieces := List.take_of_length_le (by have := HNP.out; omega)
          have hz := hall.out
          rw [hfull] at hz
          have HE := Shut.mk (HY.out hz.2)
          have HZ := Shut.mk hz.1
          clear hfull hz hall
          by_cases e1 : z = len
          · have e1' : (z == len) = true := by simpa using e1
            by_cases e2 : z ≤ 1000
            · have HF : Shut (R = true) := ⟨by rw [HE.out, ← HZ.out]; simp [e1, e1 ▸ e2]⟩
              clear HE e1
              go_wp2_with fail
              go_ret
              exact ⟨by rw [HF.out]; rfl, HB.out.trans (hbl.out.mono HB.out.size)⟩
            · have HF : Shut (R = false) := ⟨by rw [HE.out, ← HZ.out]; simp; omega⟩
              clear HE e1
              go_wp2_with fail
              go_ret
              exact ⟨by rw [HF.out]; rfl, HB.out.trans (hbl.out.mono HB.out.size)⟩
          · have e1' : (z == len) = false := by simpa using e1
            have HF : Shut (R = false) := ⟨by rw [HE.out, ← HZ.out]; simp [e1]⟩
            clear HE e1
            go_wp2_with fail
            go_ret
            exact ⟨by rw [HF.out]; rfl, HB.out.trans (hbl.out.mono HB.out.size)⟩
end Go.Proofs.Ytfceohoegeebjaa
/- TvA: Rows of texts that a call has made. -/
namespace Go.Proofs.Ytfceohoegeebjaa
open Go.RowKit

/-- Texts as the cells of a row. -/
def tv (l : List ByteArray) : List Value := l.map Value.string
theorem tv_snoc (l : List ByteArray) (x : ByteArray) : tv l ++ [.string x] = tv (l ++ [x]) := by simp [tv]
theorem tv_len (l : List ByteArray) : (tv l).length = l.length := by simp [tv]
theorem Try.info9 : (Try.prog.info? 9).map (fun i => (i.zero, i.size, i.bytes)) = some (some (.string ⟨#[]⟩), 1, 16) := by kernel_rfl

/-- A row of texts that a call has made: nothing of it is older than B. -/
def RowAt (w : World) (B : Nat) (a : Option Addr) (xs : List ByteArray) (cap : Nat) : Prop := xs.length ≤ cap ∧ (xs = [] ∨ ∃ g, a = some ⟨g, 0, none⟩ ∧ B ≤ g ∧ WRow w g xs)
theorem own_rowAt {w : World} {B : Nat} {v : Value} {xs : List ByteArray} (h : w.ownsRow B 9 1 v xs.length (tv xs)) : ∃ a cap, v = .slice a xs.length cap ∧ RowAt w B a xs cap := by
  have hc : ∀ g, v.ownBlock = some g → ∀ j u, (tv xs)[j]? = some u → w.cell? ((⟨g, 0, none⟩ : Addr).add j) = some u := fun g hg => h.cells hg
  have hlt := h.lt
  obtain ⟨_, ⟨rfl, h0⟩ | ⟨g, cap, cur, rfl, hB, hcur, hn, _, hsz, _⟩⟩ := h
  · have : xs = [] := List.eq_nil_of_length_eq_zero h0
    subst this
    exact ⟨none, 0, rfl, by simp, .inl rfl⟩
  · refine ⟨_, cap, rfl, hn, .inr ⟨g, rfl, hB, (hlt g rfl).2, fun j hj => ⟨?_, ?_⟩⟩⟩
    · have := hc g rfl j _ (show (tv xs)[j]? = some _ by simp [tv, hj]; rfl)
      have e : (⟨g, 0, none⟩ : Addr).add j = ⟨g, j, none⟩ := by
        cases j <;> simp [Addr.add]
      rw [e] at this
      simpa [List.getD, hj] using this
    · unfold World.frozen?
      rw [hcur]; simp
end Go.Proofs.Ytfceohoegeebjaa
/- StrV: Rows of texts as values: what is seen of one, what an answer is, what is marked, and the laws' own functions over them. -/
namespace Go.Proofs.Ytfceohoegeebjaa
open Go.RowKit
attribute [local go_sem ↓] Go.wp_at_zero Go.wp_at_succ

theorem tv_get (L : List ByteArray) (j : Nat) (h : j < L.length) : (tv L)[j]? = some (.string (L.getD j ⟨#[]⟩)) := by simp [tv, List.getD, h]
theorem tv_set (L : List ByteArray) (j : Nat) (x : ByteArray) : (tv L).set j (.string x) = tv (L.set j x) := by simp [tv, List.map_set]
theorem wrow_cells {w : World} {g : Nat} {L : List ByteArray} : WRow w g L ↔ WCells w g (tv L) := by
  constructor
  · intro h
    refine ⟨h.1, fun i v hv => ?_⟩
    have hi : i < L.length := by have := (List.getElem?_eq_some_iff.1 hv).1; rw [tv_len] at this; exact this
    rw [tv_get L i hi] at hv
    cases hv
    exact h.2 i hi
  · intro h
    exact ⟨h.1, fun j hj => h.2 j _ (tv_get L j hj)⟩
/-- How many bytes there are. -/
def tsum : List ByteArray → Nat
  | [] => 0
  | x :: L => x.size + tsum L
theorem tsum_mem {L : List ByteArray} {x : ByteArray} (h : x ∈ L) : x.size ≤ tsum L := by
  induction L with
  | nil => simp at h
  | cons t L ih =>
    rcases List.mem_cons.1 h with rfl | h
    · simp only [tsum]; omega
    · have := ih h; simp only [tsum]; omega
theorem tsum_append (L M : List ByteArray) : tsum (L ++ M) = tsum L + tsum M := by
  induction L with
  | nil => simp [tsum]
  | cons t L ih => simp only [List.cons_append, tsum]; omega
theorem tsum_take (L : List ByteArray) (k : Nat) (h : k < L.length) : tsum (L.take (k + 1)) = tsum (L.take k) + (L.getD k ⟨#[]⟩).size := by
  rw [List.take_succ_eq_append_getElem h, tsum_append]
  have e : L.getD k ⟨#[]⟩ = L[k] := by simp [List.getD, h]
  rw [e]; simp [tsum]
theorem tsum_le (L : List ByteArray) (k : Nat) : tsum (L.take k) ≤ tsum L := by
  have := tsum_append (L.take k) (L.drop k)
  rw [List.take_append_drop] at this
  omega
/-- Texts that a machine can hold. -/
def TFit (L : List ByteArray) : Prop := L.length + tsum L ≤ 1048576
/-- A value that is these texts. -/
def SSee (w : World) (v : Value) (L : List ByteArray) (lo hi : Nat) : Prop := ∃ (a : Option Addr) (cap : Nat), v = .slice a L.length cap ∧ RRow w a (tv L) lo hi
/-- An answer of texts: nothing, or a row that may be written. -/
def SAns (w : World) (v : Value) (L : List ByteArray) (lo hi : Nat) : Prop := ∃ (a : Option Addr) (cap : Nat), v = .slice a L.length cap ∧ L.length ≤ cap ∧ (L = [] ∨ ∃ g, a = some ⟨g, 0, none⟩ ∧ lo ≤ g ∧ g < hi ∧ WCells w g (tv L))
theorem SAns.see {w : World} {v : Value} {L : List ByteArray} {lo hi : Nat} (h : SAns w v L lo hi) : SSee w v L lo hi := by
  obtain ⟨a, cap, e, _, h1⟩ := h
  refine ⟨a, cap, e, ?_⟩
  rcases h1 with rfl | ⟨g, rfl, q1, q2, hm⟩
  · intro h; simp [tv] at h
  · exact RRow.of_wcells hm q1 q2
theorem SSee.turned {w w' : World} {v : Value} {L : List ByteArray} {lo hi lo' hi' : Nat} (h : SSee w v L lo hi) (t : Turned w w' lo' hi') (hd : hi ≤ lo' ∨ hi' ≤ lo) : SSee w' v L lo hi := by
  obtain ⟨a, cap, e, h1⟩ := h
  exact ⟨a, cap, e, h1.turned t hd⟩
theorem SSee.below {w w' : World} {v : Value} {L : List ByteArray} {lo hi : Nat} (h : SSee w v L lo hi) (hb : Below w.heap.size w w') : SSee w' v L lo hi := by
  obtain ⟨a, cap, e, h1⟩ := h
  exact ⟨a, cap, e, h1.below hb⟩
theorem SAns.turned {w w' : World} {v : Value} {L : List ByteArray} {lo hi lo' hi' : Nat} (h : SAns w v L lo hi) (t : Turned w w' lo' hi') (hd : hi ≤ lo' ∨ hi' ≤ lo) : SAns w' v L lo hi := by
  obtain ⟨a, cap, e, hc, h1⟩ := h
  refine ⟨a, cap, e, hc, ?_⟩
  rcases h1 with rfl | ⟨g, rfl, q1, q2, hm⟩
  · exact .inl rfl
  · exact .inr ⟨g, rfl, q1, q2, hm.turned t (by omega)⟩
theorem SAns.below {w w' : World} {v : Value} {L : List ByteArray} {lo hi : Nat} (h : SAns w v L lo hi) (hb : Below w.heap.size w w') : SAns w' v L lo hi := by
  obtain ⟨a, cap, e, hc, h1⟩ := h
  refine ⟨a, cap, e, hc, ?_⟩
  rcases h1 with rfl | ⟨g, rfl, q1, q2, hm⟩
  · exact .inl rfl
  · exact .inr ⟨g, rfl, q1, q2, hm.grow hb⟩
theorem SAns.empty (w : World) (a : Option Addr) (cap lo hi : Nat) : SAns w (.slice a 0 cap) [] lo hi := ⟨a, cap, rfl, Nat.zero_le _, .inl rfl⟩
theorem SAns.srow {w : World} {v : Value} {L : List ByteArray} {lo hi : Nat} (h : SAns w v L lo hi) : ∃ a cap, v = .slice a L.length cap ∧ SRow w a L := by
  obtain ⟨a, cap, e, _, h1⟩ := h
  refine ⟨a, cap, e, ?_⟩
  rcases h1 with rfl | ⟨g, rfl, _, _, hm⟩
  · intro h; simp at h
  · exact (wrow_cells.2 hm).srow
/-- What an answer of texts is: new memory alone. -/
def SPost (L : List ByteArray) (w : World) (e : Ending) (w' : World) : Prop := ∃ v, e = .returned v ∧ SAns w' v L w.heap.size w'.heap.size ∧ Below w.heap.size w w'
theorem own_sans {w w' : World} {v : Value} {L : List ByteArray} {n : Nat} (hn : L.length = n) (h : w'.ownsRow w.heap.size 9 1 v n (tv L)) : SAns w' v L w.heap.size w'.heap.size := by
  have h' := h
  rw [← hn] at h'
  obtain ⟨a, cap, rfl, hc, h1⟩ := own_rowAt h'
  refine ⟨a, cap, rfl, hc, ?_⟩
  rcases h1 with rfl | ⟨g, rfl, q1, hm⟩
  · exact .inl rfl
  · exact .inr ⟨g, rfl, q1, hm.1, wrow_cells.1 hm⟩
theorem infoTextG : (Try.prog.info? 9).map (fun i => (i.zero, i.size, i.bytes)) = some (some (.string ⟨#[]⟩), 1, 16) := by kernel_rfl
theorem eqStringS_val {w : World} {v u : Value} {L : List ByteArray} {lo hi lo' hi' : Nat} (h : SAns w v L lo hi) (k : SAns w u L lo' hi') (hf : L.length ≤ 100000000) : Calls Try.prog 35 #[v, u] w fun e w' => e = .returned (.bool true) ∧ Below w.heap.size w w' := by
  obtain ⟨a, cap, rfl, h1⟩ := h.srow
  obtain ⟨b, cap', rfl, h2⟩ := k.srow
  refine (eqStringS_any a b L L cap cap' w h1 h2 hf hf).mono ?_
  rintro e w' ⟨rfl, q, rfl⟩
  exact ⟨by unfold eqS; simp, ⟨rfl, rfl, rfl, Nat.le_refl _, fun _ _ => rfl⟩⟩
theorem markStringS_val {w : World} {v : Value} {L : List ByteArray} {lo hi : Nat} (k : Nat) (h : SAns w v L lo hi) (h0 : 0 < k) (hk : k + L.length ≤ 100000000) :
    Calls Try.prog 36 #[v, .int .i64 k] w fun e w' => e = .returned (.int .i64 (k + L.length : Nat)) ∧ SAns w' v (marks k L.length) lo hi ∧ Turned w w' lo hi := by
  obtain ⟨a, cap, rfl, hc, h1⟩ := h
  rcases h1 with rfl | ⟨g, rfl, q1, q2, hm⟩
  · refine (markStringS_none a k cap w).mono ?_
    rintro e w' ⟨rfl, rfl⟩
    exact ⟨rfl, ⟨a, cap, rfl, Nat.zero_le _, .inl rfl⟩, Turned.refl _ _ _⟩
  · refine (markStringS_any g L k cap w (wrow_cells.2 hm) h0 hk hc).mono ?_
    rintro e w' ⟨rfl, hw, hg⟩
    exact ⟨rfl, ⟨_, cap, by rw [marks_len], by rw [marks_len]; exact hc, .inr ⟨g, rfl, q1, q2, wrow_cells.1 hw⟩⟩, Turned.of_grown hg q1 q2⟩
theorem heldStringS_val {w : World} {v : Value} {k n lo hi : Nat} (h : SAns w v (marks k n) lo hi) (h0 : 0 < k) (hk : k + n ≤ 100000000) :
    Calls Try.prog 37 #[v, .int .i64 k] w fun e w' => e = .returned (.int .i64 (k + n : Nat)) ∧ Below w.heap.size w w' := by
  obtain ⟨a, cap, rfl, h1⟩ := h.srow
  rw [marks_len]
  exact heldStringS_any a k n cap w h1 h0 hk
end Go.Proofs.Ytfceohoegeebjaa
/- PathA: The walks of the models' NameOk, SplitPath, JoinPath, ParentPath. -/
namespace Go.Proofs.Ytfceohoegeebjaa
open Go.RowKit
open Go.PlainAid (bt)
attribute [local go_sem ↓] Go.wp_at_zero Go.wp_at_succ

theorem nameC_bt {s : ByteArray} {j : Nat} (h : j < s.size) : nameC ((lb s)[j]'h) = ((decide (97 ≤ bt s j) && decide (bt s j ≤ 122)) || (decide (48 ≤ bt s j) && decide (bt s j ≤ 57))) := by
  unfold nameC
  rw [bt_at h]
  generalize ((lb s)[j]'h).toNat = n
  simp only [show ((97 : Int) ≤ (n : Int)) = (97 ≤ n) from propext ⟨fun h => by omega, fun h => by omega⟩, show ((n : Int) ≤ 122) = (n ≤ 122) from propext ⟨fun h => by omega, fun h => by omega⟩, show ((48 : Int) ≤ (n : Int)) = (48 ≤ n) from propext ⟨fun h => by omega, fun h => by omega⟩, show ((n : Int) ≤ 57) = (n ≤ 57) from propext ⟨fun h => by omega, fun h => by omega⟩]
/-- Whether a byte may stand in a name. -/
def nameN (n : Int) : Prop := (97 ≤ n ∧ n ≤ 122) ∨ (48 ≤ n ∧ n ≤ 57)
theorem nameC_iff {s : ByteArray} {j : Nat} (h : j < s.size) : nameC ((lb s)[j]'h) = true ↔ nameN (bt s j) := by
  rw [nameC_bt h]
  unfold nameN
  simp only [Bool.or_eq_true, Bool.and_eq_true, decide_eq_true_eq]
theorem nameB_iff (s : ByteArray) : nameB s = true ↔ (∀ j, j < s.size → nameN (bt s j)) ∧ 1 ≤ s.size ∧ s.size ≤ 8 := by
  unfold nameB nameL
  have hl : (lb s).length = s.size := rfl
  simp only [Bool.and_eq_true, decide_eq_true_eq, List.all_eq_true, hl]
  constructor
  · rintro ⟨h1, h2⟩
    exact ⟨fun j hj => (nameC_iff hj).1 (h1 _ (List.getElem_mem hj)), h2⟩
  · rintro ⟨h1, h2⟩
    refine ⟨fun c hc => ?_, h2⟩
    obtain ⟨j, hj, rfl⟩ := List.mem_iff_getElem.1 hc
    exact (nameC_iff hj).2 (h1 j hj)
theorem nameB_no {s : ByteArray} {j : Nat} (h : j < s.size) (hn : ¬ nameN (bt s j)) : nameB s = false := by
  cases e : nameB s with
  | false => rfl
  | true => exact absurd ((nameB_iff s).1 e |>.1 j h) hn
theorem units_at {w : World} {a : Option Addr} {L : List ByteArray} {lo hi : Nat} (h : RRow w a (tv L) lo hi) (hp : 0 < L.length) : ∃ b off, a = some ⟨b, off, none⟩ ∧ b < w.heap.size ∧ ∀ j, j < L.length → w.cell? ⟨b, off + j, none⟩ = some (.string (L.getD j ⟨#[]⟩)) := by
  obtain ⟨b, off, e, _, _, hb, hc⟩ := h (by rw [tv_len]; exact hp)
  exact ⟨b, off, e, hb, fun j hj => hc j _ (tv_get L j hj)⟩
set_option maxHeartbeats 1000000 in
theorem specNameOk (s : ByteArray) (w : World) (hs : s.size ≤ 1048576) : Calls Try.prog 82 #[.string s] w fun e w' => e = .returned (.bool (nameB s)) ∧ Below w.heap.size w w' := by
  have hb := Go.PlainAid.get_bt s
  obtain ⟨r, hre⟩ : ∃ r, r = nameB s := ⟨_, rfl⟩
  have HRE := Shut.mk hre
  rw [← hre]
  clear hre
  go_enter Try.func82, Try.ntmps82
  go_wp2_with fail
  go_loopw [3] (fun i wr => ∃ (k : Nat), i = .int .i64 k ∧ k ≤ s.size ∧ Shut (∀ j, j < k → nameN (bt s j)) ∧ Shut (Below w.heap.size w wr)) (fun i _ => s.size - (intOf i).toNat)
  case atStart => exact ⟨0, rfl, Nat.zero_le _, ⟨fun j hj => by omega⟩, ⟨Below.refl _ _⟩⟩
  case round =>
    obtain ⟨k, rfl, hk, hall, hbl⟩ := hrel
    by_cases hlt : k < s.size
    · have b0 := Go.PlainAid.bt_nonneg s k
      have b1 := Go.PlainAid.bt_le s k
      have hlt' : (k : Int) < (s.size : Int) := by omega
      have k0 : (0 : Int) ≤ (k : Int) := by omega
      have HN := Shut.mk (fun (q : nameN (bt s k)) => show ∀ j, j < k + 1 → nameN (bt s j) from fun j hj => by
        by_cases e : j = k
        · subst e; exact q
        · exact hall.out j (by omega))
      have HF := Shut.mk (fun (q : ¬ nameN (bt s k)) => HRE.out.trans (nameB_no hlt q))
      by_cases c1 : bt s k < 97
      · by_cases c2 : bt s k < 48
        · have HE := Shut.mk (HF.out (fun q => by unfold nameN at q; omega))
          go_wp2_with fail
          go_ret
          exact ⟨by rw [HE.out]; rfl, hbl.out⟩
        · by_cases c3 : 57 < bt s k
          · have HE := Shut.mk (HF.out (fun q => by unfold nameN at q; omega))
            go_wp2_with fail
            go_ret
            exact ⟨by rw [HE.out]; rfl, hbl.out⟩
          · have HE := Shut.mk (HN.out (by unfold nameN; omega))
            go_wp2_with fail
            go_roundw
            case rel => exact ⟨k + 1, by go_num, by omega, HE, hbl⟩
            case measure => simp [intOf]; omega
      · by_cases c2 : 122 < bt s k
        · have HE := Shut.mk (HF.out (fun q => by unfold nameN at q; omega))
          have c3 : ¬ bt s k < 48 := by omega
          have c4 : 57 < bt s k := by omega
          go_wp2_with fail
          go_ret
          exact ⟨by rw [HE.out]; rfl, hbl.out⟩
        · have HE := Shut.mk (HN.out (by unfold nameN; omega))
          go_wp2_with fail
          go_roundw
          case rel => exact ⟨k + 1, by go_num, by omega, HE, hbl⟩
          case measure => simp [intOf]; omega
    · have hlt' : ¬ (k : Int) < (s.size : Int) := by omega
      have hin : (decide ((1 : Int) ≤ (s.size : Int)) && decide ((s.size : Int) ≤ 8)) = r := by
        rw [HRE.out, Bool.eq_iff_iff, nameB_iff]
        simp only [Bool.and_eq_true, decide_eq_true_eq]
        constructor
        · intro h; exact ⟨fun j hj => hall.out j (by omega), by omega, by omega⟩
        · intro h; omega
      have HI := Shut.mk (fun W => isIn (s.size : Int) 1 8 W _ hin)
      clear hin hall
      go_wp2_with fail
      refine (HI.out _).mono ?_
      rintro e w1 ⟨rfl, hw⟩
      subst hw
      go_wp2_with fail
      go_ret
      exact ⟨rfl, hbl.out⟩
end Go.Proofs.Ytfceohoegeebjaa
/- TreR: The walk of the model's l10Node (written by gen/mktrer.py). -/
namespace Go.Proofs.Ytfceohoegeebjaa
open Go.RowKit
attribute [local go_sem ↓] Go.wp_at_zero Go.wp_at_succ

/-- What stands in memory while a node is looked at. -/
structure TG (w W : World) (a : Option Addr) (n cap : Nat) (nx : Int) (r : NR) : Prop where
  bel : Below w.heap.size w W
  box : WCells W w.heap.size [.slice a n cap, .int .i64 nx]
  node : WCells W (w.heap.size + 1) (ncells r)
theorem TG.below {w W W' : World} {a : Option Addr} {n cap : Nat} {nx : Int} {r : NR} (h : TG w W a n cap nx r) (hb : Below W.heap.size W W') : TG w W' a n cap nx r := ⟨h.bel.trans (hb.mono h.bel.size), h.box.grow hb, h.node.grow hb⟩
theorem TG.drewN {w W : World} {a : Option Addr} {n cap : Nat} {nx : Int} {r : NR} (h : TG w W a n cap nx r) (q : Nat) : TG w (W.drewN q) a n cap nx r := h.below ⟨rfl, rfl, rfl, Nat.le_refl _, fun _ _ => rfl⟩
theorem TG.new (w : World) (a : Option Addr) (n cap : Nat) (nx : Int) (r : NR) (t1 t2 : TypeId) : TG w ((w.alloc (.cells #[.slice a n cap, .int .i64 nx] t1)).alloc (.cells (ncells r).toArray t2)) a n cap nx r := by
  have e1 : (w.alloc (.cells #[.slice a n cap, .int .i64 nx] t1)).heap.size = w.heap.size + 1 := by simp
  refine ⟨((Below.refl _ _).alloc (Nat.le_refl _) _).alloc (by simp) _, (wcells_new w #[.slice a n cap, .int .i64 nx] t1).alloc _, ?_⟩
  have := wcells_new (w.alloc (.cells #[.slice a n cap, .int .i64 nx] t1)) (ncells r).toArray t2
  rw [e1] at this
  exact this
theorem text_no {s : ByteArray} (h : s ≠ ⟨#[]⟩) : (s.toList != []) = true := by
  rw [bne_iff_ne]
  intro e
  rw [Go.ByteArray.toList_eq] at e
  exact h (ByteArray.ext (Array.toList_inj.1 e))
theorem text_yes : ((⟨#[]⟩ : ByteArray).toList != []) = false := by rw [Go.ByteArray.toList_eq]; rfl
theorem text_nil : (⟨#[]⟩ : ByteArray).toList = [] := by rw [Go.ByteArray.toList_eq]
theorem text_eq {s t : ByteArray} (h : s ≠ t) : (s.toList == t.toList) = false := by
  rw [beq_eq_false_iff_ne]
  intro e
  rw [Go.ByteArray.toList_eq, Go.ByteArray.toList_eq] at e
  exact h (ByteArray.ext (Array.toList_inj.1 e))
theorem climbs_none {ns : List NM} {f : Nat} {c : Int} (h : ns.findIdx? (fun n => n.id == c) = none) : climbs ns (f + 1) c = false := by
  conv => lhs; unfold climbs
  rw [h]
theorem climbs_some {ns : List NM} {f i : Nat} {c : Int} (h : ns.findIdx? (fun n => n.id == c) = some i) : climbs ns (f + 1) c = if (ns.getD i default).parent = 1 then true else climbs ns f (ns.getD i default).parent := by
  conv => lhs; unfold climbs
  rw [h]
theorem nds_getD {rs : List NR} {i : Nat} (h : i < rs.length) : (nds rs).getD i default = rs[i].nd := by
  rw [List.getD_eq_getElem?_getD, List.getElem?_eq_getElem (by rw [nds_len]; exact h), nds_at rs i h]; rfl
set_option maxRecDepth 1000000 in
set_option maxHeartbeats 16000000 in
theorem specNode {w : World} {a : Option Addr} {cap : Nat} {nx : Int} {rs : List NR} {lo hi : Nat} (k : Nat) (hm : TR w a rs lo hi) (hk : k < rs.length) (hl : rs.length ≤ 14) (hp : ∀ r ∈ rs, r.nd.pieces.length ≤ 1048576 ∧ r.nd.name.size ≤ 1048576) :
    Calls Try.prog 57 #[.agg #[.slice a rs.length cap, .int .i64 nx], .int .i64 (k : Int)] w fun e w' => e = .returned (.bool (nodeOk ⟨nds rs, nx⟩ k)) ∧ Below w.heap.size w w' := by
  obtain ⟨n, hn⟩ : ∃ n, n = rs.length := ⟨_, rfl⟩
  have HN := Shut.mk hn
  obtain ⟨R, hR⟩ : ∃ R, R = nodeOk ⟨nds rs, nx⟩ k := ⟨_, rfl⟩
  have HM := Shut.mk (And.intro hm hp)
  rw [← hR, ← hn]
  rw [← hn] at hk hl
  have hkI : (k : Int) < (n : Int) := by omega
  have hk0 : (0 : Int) ≤ (k : Int) := by omega
  have hlr : k < rs.length := by omega
  obtain ⟨b, off, rfl, lb, hc⟩ := TR.nat hm (by omega)
  have HC := Shut.mk (fun W (hW : Below w.heap.size w W) i (hi : i < rs.length) => (hc i hi).below hW lb)
  rcases hr : rs[k] with ⟨⟨id, parent, name, dir, schema, quota, len, pieces, writer⟩, loc, cp⟩
  have hgk : (nds rs).getD k default = ⟨id, parent, name, dir, schema, quota, len, pieces, writer⟩ := by rw [nds_getD hlr, hr]
  have d := hc k hlr
  rw [hr] at d
  obtain ⟨d0, d1, d2, d3, d4, d5, d6, d7, d8⟩ := d
  dsimp only at d0 d1 d2 d3 d4 d5 d6 d7 d8
  have HPK : Shut (RRow w loc (pcs pieces) lo hi ∧ pieces.length ≤ 1048576 ∧ name.size ≤ 1048576) := ⟨by
    have h1 := hm.2 rs[k] (List.getElem_mem hlr)
    have h2 := hp rs[k] (List.getElem_mem hlr)
    rw [hr] at h1 h2
    exact ⟨h1, h2⟩⟩
  obtain ⟨o2, hO2⟩ : ∃ o2, o2 = (decide (id < nx) && (if k = 0 then firstOk ⟨id, parent, name, dir, schema, quota, len, pieces, writer⟩ else decide (((nds rs).getD (k - 1) default).id < id))) := ⟨_, rfl⟩
  obtain ⟨o4, hO4⟩ : ∃ o4, o4 = (if dir then dirOk ⟨id, parent, name, dir, schema, quota, len, pieces, writer⟩ else fileOk ⟨id, parent, name, dir, schema, quota, len, pieces, writer⟩) := ⟨_, rfl⟩
  obtain ⟨A, hA0⟩ : ∃ A, A = atI (nds rs) parent := ⟨_, rfl⟩
  obtain ⟨o9, hO9⟩ : ∃ o9, o9 = (nameB name && decide (0 ≤ A) && ((nds rs).getD A.toNat default).dir) := ⟨_, rfl⟩
  obtain ⟨oj, hOj⟩ : ∃ oj, oj = (List.range k).all (fun j => ! ((((nds rs).getD j default).parent == parent) && decide (((nds rs).getD j default).name = name))) := ⟨_, rfl⟩
  obtain ⟨oc, hOc⟩ : ∃ oc, oc = climbs (nds rs) 4 id := ⟨_, rfl⟩
  have HR : Shut (R = (o2 && o4 && (decide (k = 0) || (o9 && oj && oc)))) := ⟨by rw [hR, hO2, hO4, hO9, hOj, hOc, hA0]; unfold nodeOk; dsimp only; rw [hgk]⟩
  have HO2 := Shut.mk hO2
  have HO4 := Shut.mk hO4
  have HO9 := Shut.mk (And.intro hA0 hO9)
  have HOj := Shut.mk hOj
  have HOc := Shut.mk hOc
  clear hm hp hn hR hc hr hgk hO2 hO4 hO9 hOj hOc hA0
  go_enter Try.func57, Try.ntmps57
  go_upto_region 2 with fail
  refine wp_shade (fun W => TG w W (some ⟨b, off, none⟩) n cap nx ⟨⟨id, parent, name, dir, schema, quota, len, pieces, writer⟩, loc, cp⟩) (TG.new w (some ⟨b, off, none⟩) n cap nx ⟨⟨id, parent, name, dir, schema, quota, len, pieces, writer⟩, loc, cp⟩ 26 30) ?_
  clear d0 d1 d2 d3 d4 d5 d6 d7 d8
  intro W hg
  have HG := Shut.mk hg
  have x0 := (hg.box.2 0 _ rfl).1
  have x1 := (hg.box.2 1 _ rfl).1
  have y0 := (hg.node.2 0 _ rfl).1
  have y1 := (hg.node.2 1 _ rfl).1
  have y2 := (hg.node.2 2 _ rfl).1
  have y3 := (hg.node.2 3 _ rfl).1
  have y4 := (hg.node.2 4 _ rfl).1
  clear hg
  go_cut [65] from 16 to 65 (fun b' wx => b' = .bool (!o2) ∧ Shut (TG w wx (some ⟨b, off, none⟩) n cap nx ⟨⟨id, parent, name, dir, schema, quota, len, pieces, writer⟩, loc, cp⟩))
  case first =>
    by_cases hA : nx ≤ id
    · have hA' : decide (nx ≤ id) = true := by simpa using hA
      have hE : o2 = false := by rw [HO2.out, decide_eq_false (by omega)]; rfl
      go_quiet (fail)
      go_wp2_with fail
      go_meet
      exact ⟨by rw [hE]; rfl, ⟨HG.out.drewN _⟩⟩
    · have hA' : decide (nx ≤ id) = false := by simpa using hA
      have hAd : decide (id < nx) = true := by simp; omega
      by_cases hz : k = 0
      · subst hz
        have hE0 : o2 = firstOk ⟨id, parent, name, dir, schema, quota, len, pieces, writer⟩ := by rw [HO2.out, hAd]; rfl
        unfold firstOk at hE0
        dsimp only at hE0
        have HE0 := Shut.mk hE0
        clear hE0
        by_cases f1 : id = 1
        case neg =>
          have f1' : (id != 1) = true := by simpa using f1
          have hE : o2 = false := by rw [HE0.out, show (id == 1) = false by simpa using f1]; rfl
          go_quiet (fail)
          go_wp2_with fail
          go_meet
          exact ⟨by rw [hE]; rfl, ⟨HG.out.drewN _⟩⟩
        have f1' : (id != 1) = false := by simpa using f1
        by_cases f2 : parent = 0
        case neg =>
          have f2' : (parent != 0) = true := by simpa using f2
          have hE : o2 = false := by rw [HE0.out, show (parent == 0) = false by simpa using f2]; simp
          clear f1
          go_quiet (fail)
          go_wp2_with fail
          go_meet
          exact ⟨by rw [hE]; rfl, ⟨HG.out.drewN _⟩⟩
        have f2' : (parent != 0) = false := by simpa using f2
        by_cases f3 : name = ⟨#[]⟩
        case neg =>
          have f3' := text_no f3
          have f3b : (name.toList != (⟨#[]⟩ : ByteArray).toList) = true := by rw [text_nil]; exact f3'
          have f3c : (name.toList == []) = false := by rw [beq_eq_false_iff_ne]; rw [bne_iff_ne] at f3'; exact f3'
          have f3d : (name.toList == (⟨#[]⟩ : ByteArray).toList) = false := by rw [text_nil]; exact f3c
          have hE : o2 = false := by rw [HE0.out, decide_eq_false f3]; simp
          clear f1 f2
          go_quiet (fail)
          go_wp2_with fail
          go_meet
          exact ⟨by rw [hE]; rfl, ⟨HG.out.drewN _⟩⟩
        have f3' : (name.toList != []) = false := by rw [f3]; exact text_yes
        have f3b : (name.toList != (⟨#[]⟩ : ByteArray).toList) = false := by rw [text_nil]; exact f3'
        have f3c : (name.toList == []) = true := by rw [f3, text_nil]; rfl
        have f3d : (name.toList == (⟨#[]⟩ : ByteArray).toList) = true := by rw [text_nil]; exact f3c
        have hE1 : o2 = (dir && (schema != 0)) := by rw [HE0.out, f1, f2, decide_eq_true f3]; simp
        have HE1 := Shut.mk hE1
        clear f1 f2 f3 HE0 hE1
        cases dir with
        | false =>
          have hE : o2 = false := by rw [HE1.out]; rfl
          go_quiet (fail)
          go_wp2_with fail
          go_meet
          exact ⟨by rw [hE]; rfl, ⟨HG.out.drewN _⟩⟩
        | true =>
          by_cases f5 : schema = 0
          · have f5' : (schema == 0) = true := by simpa using f5
            have hE : o2 = false := by rw [HE1.out, f5]; rfl
            clear f5
            go_quiet (fail)
            go_wp2_with fail
            go_meet
            exact ⟨by rw [hE]; rfl, ⟨HG.out.drewN _⟩⟩
          · have f5' : (schema == 0) = false := by simpa using f5
            have hE : o2 = true := by rw [HE1.out, show (schema != 0) = true by simpa using f5]; rfl
            go_quiet (fail)
            go_wp2_with fail
            go_meet
            exact ⟨by rw [hE]; rfl, ⟨HG.out.drewN _⟩⟩
      · obtain ⟨k1, hk1⟩ : ∃ k1, k1 = k - 1 := ⟨_, rfl⟩
        have hwr : IntKind.i64.wrap ((k : Int) - 1) = (k1 : Int) := by rw [show (k : Int) - 1 = (k1 : Int) by omega]; exact IntWalk.i64_in _ ⟨by omega, by omega⟩
        have hkp : (0 : Int) < (k : Int) := by omega
        have hkp' : decide ((0 : Int) < (k : Int)) = true := by simp; omega
        have hkp2 : 0 < k := by omega
        have hkp3 : decide (0 < k) = true := by simp; omega
        have hkz : ((k : Int) == 0) = false := by rw [beq_eq_false_iff_ne]; omega
        have h1a : (0 : Int) ≤ (k1 : Int) := by omega
        have h1b : (k1 : Int) < (n : Int) := by omega
        have hl1 : k1 < rs.length := by omega
        have e0 := (HC.out W HG.out.bel k1 hl1).1
        have hE0 : o2 = decide (rs[k1].nd.id < id) := by rw [HO2.out, hAd, if_neg hz, ← hk1, nds_getD hl1]; simp
        generalize rs[k1].nd.id = pid at *
        clear hk1
        by_cases hq : id ≤ pid
        · have hq' : decide (id ≤ pid) = true := by simpa using hq
          have hE : o2 = false := by rw [hE0, decide_eq_false (by omega)]
          go_quiet (fail)
          go_wp2_with fail
          go_meet
          exact ⟨by rw [hE]; rfl, ⟨HG.out.drewN _⟩⟩
        · have hq' : decide (id ≤ pid) = false := by simpa using hq
          have hE : o2 = true := by rw [hE0, decide_eq_true (by omega)]
          go_quiet (fail)
          go_wp2_with fail
          go_meet
          exact ⟨by rw [hE]; rfl, ⟨HG.out.drewN _⟩⟩
  case rest =>
    obtain ⟨rfl, hgc⟩ := hcut
    obtain ⟨W2, hW2⟩ : ∃ W2, W2 = wc := ⟨_, rfl⟩
    subst hW2
    clear HG x0 x1 y0 y1 y2 y3 y4 HO2
    have HG := Shut.mk hgc.out
    clear hgc
    cases o2 with
    | false =>
      have HE : Shut (R = false) := ⟨by rw [HR.out]; rfl⟩
      go_wp2_with fail
      go_ret
      exact ⟨by rw [HE.out]; rfl, HG.out.bel⟩
    | true =>
      go_upto_region 4 with fail
      have hg := HG.out
      have y0 := (hg.node.2 0 _ rfl).1
      have y1 := (hg.node.2 1 _ rfl).1
      have y2 := (hg.node.2 2 _ rfl).1
      have y3 := (hg.node.2 3 _ rfl).1
      have y4 := (hg.node.2 4 _ rfl).1
      have y5 := (hg.node.2 5 _ rfl).1
      have y6 := (hg.node.2 6 _ rfl).1
      have y7 := (hg.node.2 7 _ rfl).1
      have y8 := (hg.node.2 8 _ rfl).1
      dsimp only at y7
      clear hg
      go_cut [105] from 66 to 105 (fun b' wx => b' = .bool (!o4) ∧ Shut (TG w wx (some ⟨b, off, none⟩) n cap nx ⟨⟨id, parent, name, dir, schema, quota, len, pieces, writer⟩, loc, cp⟩))
      case first =>
        cases dir with
        | false =>
          have hE : o4 = fileOk ⟨id, parent, name, false, schema, quota, len, pieces, writer⟩ := HO4.out
          have HFL : Shut (Calls Try.prog 81 #[.agg #[.int .i64 id, .int .i64 parent, .string name, .bool false, .int .i64 schema, .int .i64 quota, .int .i64 len, .slice loc pieces.length cp, .int .i64 writer]] W2 fun e w' => e = .returned (.bool o4) ∧ Below W2.heap.size W2 w') := ⟨by rw [hE]; exact specFile ⟨⟨id, parent, name, false, schema, quota, len, pieces, writer⟩, loc, cp⟩ W2 lo hi (HPK.out.1.below HG.out.bel) HPK.out.2.1⟩
          generalize pieces.length = np at *
          clear hE
          go_wp2_with fail
          refine HFL.out.mono ?_
          rintro e w3 ⟨rfl, hb3⟩
          have HG3 := Shut.mk (HG.out.below hb3)
          clear hb3
          cases o4
          all_goals
            go_wp2_with fail
            go_meet
            exact ⟨rfl, HG3⟩
        | true =>
          have hE0 : o4 = dirOk ⟨id, parent, name, true, schema, quota, len, pieces, writer⟩ := HO4.out
          unfold dirOk at hE0
          dsimp only at hE0
          obtain ⟨np, hnp⟩ : ∃ np, np = pieces.length := ⟨_, rfl⟩
          rw [← hnp] at y7 hE0
          clear hnp
          cases s1 : inI schema 0 3 with
          | false =>
            have hE : o4 = false := by rw [hE0, s1]; rfl
            go_wp2_with fail
            refine (isInI schema 0 3 _ false s1).mono ?_
            rintro e w3 ⟨rfl, hw3⟩
            obtain rfl : W2 = w3 := hw3.symm
            clear hw3
            go_wp2_with fail
            go_meet
            exact ⟨by rw [hE]; rfl, HG⟩
          | true =>
            cases s2 : inI quota 0 1000 with
            | false =>
              have hE : o4 = false := by rw [hE0, s2]; simp
              go_wp2_with fail
              refine (isInI schema 0 3 _ true s1).mono ?_
              rintro e w3 ⟨rfl, hw3⟩
              obtain rfl : W2 = w3 := hw3.symm
              clear hw3
              go_wp2_with fail
              refine (isInI quota 0 1000 _ false s2).mono ?_
              rintro e w3 ⟨rfl, hw3⟩
              obtain rfl : W2 = w3 := hw3.symm
              clear hw3
              go_wp2_with fail
              go_meet
              exact ⟨by rw [hE]; rfl, HG⟩
            | true =>
              have hE1 : o4 = ((len == 0) && decide (np = 0) && (writer == 0)) := by rw [hE0, s1, s2]; simp
              clear hE0
              by_cases s3 : len = 0
              case neg =>
                have s3' : (len != 0) = true := by simpa using s3
                have hE : o4 = false := by rw [hE1, show (len == 0) = false by simpa using s3]; rfl
                go_wp2_with fail
                refine (isInI schema 0 3 _ true s1).mono ?_
                rintro e w3 ⟨rfl, hw3⟩
                obtain rfl : W2 = w3 := hw3.symm
                clear hw3
                go_wp2_with fail
                refine (isInI quota 0 1000 _ true s2).mono ?_
                rintro e w3 ⟨rfl, hw3⟩
                obtain rfl : W2 = w3 := hw3.symm
                clear hw3
                go_wp2_with fail
                go_meet
                exact ⟨by rw [hE]; rfl, HG⟩
              have s3' : (len != 0) = false := by simpa using s3
              by_cases s4 : np = 0
              case neg =>
                have s4' : decide ((0 : Int) < (np : Int)) = true := by simp; omega
                have s4'' : (0 : Int) < (np : Int) := by omega
                have hE : o4 = false := by rw [hE1, decide_eq_false s4]; simp
                clear s3
                go_wp2_with fail
                refine (isInI schema 0 3 _ true s1).mono ?_
                rintro e w3 ⟨rfl, hw3⟩
                obtain rfl : W2 = w3 := hw3.symm
                clear hw3
                go_wp2_with fail
                refine (isInI quota 0 1000 _ true s2).mono ?_
                rintro e w3 ⟨rfl, hw3⟩
                obtain rfl : W2 = w3 := hw3.symm
                clear hw3
                go_wp2_with fail
                go_meet
                exact ⟨by rw [hE]; rfl, HG⟩
              have s4' : decide ((0 : Int) < (np : Int)) = false := by simp; omega
              have s4'' : ¬ (0 : Int) < (np : Int) := by omega
              have hE2 : o4 = (writer == 0) := by rw [hE1, s3, s4]; simp
              clear s3 s4 hE1
              by_cases s5 : writer = 0
              case neg =>
                have s5' : (writer != 0) = true := by simpa using s5
                have hE : o4 = false := by rw [hE2]; simpa using s5
                go_wp2_with fail
                refine (isInI schema 0 3 _ true s1).mono ?_
                rintro e w3 ⟨rfl, hw3⟩
                obtain rfl : W2 = w3 := hw3.symm
                clear hw3
                go_wp2_with fail
                refine (isInI quota 0 1000 _ true s2).mono ?_
                rintro e w3 ⟨rfl, hw3⟩
                obtain rfl : W2 = w3 := hw3.symm
                clear hw3
                go_wp2_with fail
                go_meet
                exact ⟨by rw [hE]; rfl, HG⟩
              have s5' : (writer != 0) = false := by simpa using s5
              have hE : o4 = true := by rw [hE2]; simpa using s5
              clear s5
              go_wp2_with fail
              refine (isInI schema 0 3 _ true s1).mono ?_
              rintro e w3 ⟨rfl, hw3⟩
              obtain rfl : W2 = w3 := hw3.symm
              clear hw3
              go_wp2_with fail
              refine (isInI quota 0 1000 _ true s2).mono ?_
              rintro e w3 ⟨rfl, hw3⟩
              obtain rfl : W2 = w3 := hw3.symm
              clear hw3
              go_wp2_with fail
              go_meet
              exact ⟨by rw [hE]; rfl, HG⟩
      case rest =>
        obtain ⟨rfl, hgc⟩ := hcut
        obtain ⟨W3, hW3⟩ : ∃ W3, W3 = wc := ⟨_, rfl⟩
        subst hW3
        clear HG y0 y1 y2 y3 y4 y5 y6 y7 y8 HO4
        have HG := Shut.mk hgc.out
        clear hgc
        cases o4 with
        | false =>
          have HE : Shut (R = false) := ⟨by rw [HR.out]; rfl⟩
          go_wp2_with fail
          go_ret
          exact ⟨by rw [HE.out]; rfl, HG.out.bel⟩
        | true =>
          by_cases hz : k = 0
          · subst hz
            have HE : Shut (R = true) := ⟨by rw [HR.out]; rfl⟩
            go_wp2_with fail
            go_ret
            exact ⟨by rw [HE.out]; rfl, HG.out.bel⟩
          · have hkz : ((k : Int) == 0) = false := by rw [beq_eq_false_iff_ne]; omega
            have HRR : Shut (R = (o9 && oj && oc)) := ⟨by rw [HR.out, decide_eq_false hz]; simp⟩
            have hg := HG.out
            have x0 := (hg.box.2 0 _ rfl).1
            have x1 := (hg.box.2 1 _ rfl).1
            have y1 := (hg.node.2 1 _ rfl).1
            clear hg
            have HTS := Shut.mk (fun W (hW : Below w.heap.size w W) (id : Int) => specAt (T := ⟨nds rs, nx⟩) (w := W) (v := .agg #[.slice (some ⟨b, off, none⟩) n cap, .int .i64 nx]) (lo := lo) (hi := hi) id ⟨_, cap, rs, by rw [HN.out], rfl, HM.out.1.below hW⟩ (by show (nds rs).length ≤ _; rw [nds_len, ← HN.out]; omega))
            dsimp only at HTS
            have HAT := Shut.mk (HTS.out W3 HG.out.bel parent)
            rw [← HO9.out.1] at HAT
            clear HR
            go_wp2_with fail
            refine HAT.out.mono ?_
            rintro e W4 ⟨rfl, hb4⟩
            replace HG := Shut.mk (HG.out.below hb4)
            clear hb4 HAT x0 x1 y1
            go_upto_region 9 with fail
            have hg := HG.out
            have x0 := (hg.box.2 0 _ rfl).1
            have y2 := (hg.node.2 2 _ rfl).1
            clear hg
            go_cut [128] from 112 to 128 (fun b' wx => b' = .bool (!o9) ∧ Shut (TG w wx (some ⟨b, off, none⟩) n cap nx ⟨⟨id, parent, name, dir, schema, quota, len, pieces, writer⟩, loc, cp⟩))
            case first =>
              have HNM := Shut.mk (fun W => specNameOk name W HPK.out.2.2)
              have hE0 := HO9.out.2
              have HE0 := Shut.mk hE0
              clear hE0
              cases hnb : nameB name with
              | false =>
                have hE : o9 = false := by rw [HE0.out, hnb]; rfl
                rw [hnb] at HNM
                go_wp2_with fail
                refine (HNM.out _).mono ?_
                rintro e W5 ⟨rfl, hb5⟩
                have HG5 := Shut.mk (HG.out.below hb5)
                clear hb5
                go_wp2_with fail
                go_meet
                exact ⟨by rw [hE]; rfl, HG5⟩
              | true =>
                rw [hnb] at HNM
                rcases atI_cases (nds rs) parent with ⟨hat, _⟩ | ⟨m, hm, hat, _⟩
                · have hAm : A = -1 := by rw [HO9.out.1, hat]
                  have hE : o9 = false := by rw [HE0.out, hnb, hAm]; rfl
                  subst hAm
                  go_wp2_with fail
                  refine (HNM.out _).mono ?_
                  rintro e W5 ⟨rfl, hb5⟩
                  have HG5 := Shut.mk (HG.out.below hb5)
                  clear hb5
                  go_wp2_with fail
                  go_meet
                  exact ⟨by rw [hE]; rfl, HG5⟩
                · have hAm : A = (m : Int) := by rw [HO9.out.1, hat]
                  have hmr : m < rs.length := by rw [nds_len] at hm; exact hm
                  have hE : o9 = rs[m].nd.dir := by rw [HE0.out, hnb, hAm, decide_eq_true (by omega), Int.toNat_natCast, nds_getD hmr]; simp
                  subst hAm
                  have m0 : (0 : Int) ≤ (m : Int) := by omega
                  have m1 : (m : Int) < (n : Int) := by have := HN.out; omega
                  have m2 : ¬ (m : Int) < 0 := by omega
                  have m3 : decide ((m : Int) < 0) = false := by simp
                  go_wp2_with fail
                  refine (HNM.out _).mono ?_
                  rintro e W5 ⟨rfl, hb5⟩
                  have HG5 := Shut.mk (HG.out.below hb5)
                  have e3 := (HC.out W5 HG5.out.bel m hmr).2.2.2.1
                  have x0' := (HG5.out.box.2 0 _ rfl).1
                  rw [← hE] at e3
                  clear hb5 hE
                  cases o9
                  all_goals
                    go_wp2_with fail
                    go_meet
                    exact ⟨rfl, HG5⟩
            case rest =>
              obtain ⟨rfl, hgc⟩ := hcut
              obtain ⟨W5, hW5⟩ : ∃ W5, W5 = wc := ⟨_, rfl⟩
              subst hW5
              clear HG x0 y2 HO9
              have HG := Shut.mk hgc.out
              clear hgc
              cases o9 with
              | false =>
                have HE : Shut (R = false) := ⟨by rw [HRR.out]; rfl⟩
                go_wp2_with fail
                go_ret
                exact ⟨by rw [HE.out]; rfl, HG.out.bel⟩
              | true =>
                have HRT : Shut (R = (oj && oc)) := ⟨by rw [HRR.out]; simp⟩
                clear HRR
                rw [Bool.not_true]
                go_wp2_with fail
                go_loopw [7] (fun jv wr => ∃ (j : Nat), jv = .int .i64 j ∧ j ≤ k ∧ Shut (∀ q, q < j → (! ((((nds rs).getD q default).parent == parent) && decide (((nds rs).getD q default).name = name))) = true) ∧ Shut (TG w wr (some ⟨b, off, none⟩) n cap nx ⟨⟨id, parent, name, dir, schema, quota, len, pieces, writer⟩, loc, cp⟩)) (fun jv _ => k - (intOf jv).toNat)
                case atStart => exact ⟨0, rfl, Nat.zero_le _, ⟨fun q hq => by omega⟩, HG⟩
                case round =>
                  clear HG
                  obtain ⟨j, rfl, hj, hall, HG⟩ := hrel
                  by_cases hlt : j < k
                  · have hjr : j < rs.length := by omega
                    have j0 : (0 : Int) ≤ (j : Int) := by omega
                    have j1 : (j : Int) < (n : Int) := by omega
                    have j2 : (j : Int) < (k : Int) := by omega
                    have hg := HG.out
                    have x0 := (hg.box.2 0 _ rfl).1
                    have y1 := (hg.node.2 1 _ rfl).1
                    have y2 := (hg.node.2 2 _ rfl).1
                    have e1 := (HC.out _ hg.bel j hjr).2.1
                    have e2 := (HC.out _ hg.bel j hjr).2.2.1
                    have HJ : Shut ((nds rs).getD j default = rs[j].nd) := ⟨nds_getD hjr⟩
                    clear hg
                    generalize rs[j].nd = q at *
                    by_cases p1 : q.parent = parent
                    · have p1' : (q.parent == parent) = true := by simpa using p1
                      by_cases p2 : q.name = name
                      · have p2' : (q.name.toList == name.toList) = true := by rw [p2]; simp
                        have hoj : oj = false := by
                          rw [HOj.out]
                          cases e : (List.range k).all _ with
                          | false => rfl
                          | true =>
                            rw [List.all_eq_true] at e
                            have := e j (List.mem_range.2 hlt)
                            rw [HJ.out, p1', decide_eq_true p2] at this
                            cases this
                        have HE : Shut (R = false) := ⟨by rw [HRT.out, hoj]; rfl⟩
                        clear hoj p1 p2 hall
                        go_wp2_with fail
                        go_quiet (fail)
                        go_wp2_with fail
                        go_ret
                        exact ⟨by rw [HE.out]; rfl, (HG.out.drewN _).bel⟩
                      · have p2' := text_eq p2
                        have HAL : Shut (∀ q, q < j + 1 → (! ((((nds rs).getD q default).parent == parent) && decide (((nds rs).getD q default).name = name))) = true) := ⟨fun i hi => by
                          by_cases e : i = j
                          · subst e; rw [HJ.out, decide_eq_false p2]; simp
                          · exact hall.out i (by omega)⟩
                        clear hall p1 p2
                        go_wp2_with fail
                        go_quiet (fail)
                        go_wp2_with fail
                        go_roundw
                        case rel => exact ⟨j + 1, by go_num, by omega, HAL, ⟨HG.out.drewN _⟩⟩
                        case measure => simp [intOf]; omega
                    · have p1' : (q.parent == parent) = false := by simpa using p1
                      have HAL : Shut (∀ q, q < j + 1 → (! ((((nds rs).getD q default).parent == parent) && decide (((nds rs).getD q default).name = name))) = true) := ⟨fun i hi => by
                        by_cases e : i = j
                        · subst e; rw [HJ.out, p1']; rfl
                        · exact hall.out i (by omega)⟩
                      clear hall p1
                      go_wp2_with fail
                      go_quiet (fail)
                      go_wp2_with fail
                      go_roundw
                      case rel => exact ⟨j + 1, by go_num, by omega, HAL, ⟨HG.out.drewN _⟩⟩
                      case measure => simp [intOf]; omega
                  · have hlt' : ¬ (j : Int) < (k : Int) := by omega
                    have hoj : oj = true := by rw [HOj.out, List.all_eq_true]; exact fun i hi => hall.out i (by have := List.mem_range.1 hi; omega)
                    have HRC : Shut (R = oc) := ⟨by rw [HRT.out, hoj]; rfl⟩
                    have hg := HG.out
                    have y0 := (hg.node.2 0 _ rfl).1
                    clear hg hoj hall HRT
                    go_wp2_with fail
                    go_loopw [8, 9] (fun iv mv wr => ∃ (m : Nat) (c : Int), iv = .int .i64 c ∧ mv = .int .i64 m ∧ m ≤ 4 ∧ Shut (climbs (nds rs) 4 id = climbs (nds rs) (4 - m) c) ∧ Shut (TG w wr (some ⟨b, off, none⟩) n cap nx ⟨⟨id, parent, name, dir, schema, quota, len, pieces, writer⟩, loc, cp⟩)) (fun _ mv _ => 4 - (intOf mv).toNat)
                    case atStart => exact ⟨0, id, rfl, rfl, by omega, ⟨rfl⟩, HG⟩
                    case round =>
                      clear HG y0
                      obtain ⟨m, c, rfl, rfl, hm4, hcl, HG⟩ := hrel
                      by_cases hlt4 : m < 4
                      · have m4 : (m : Int) < 4 := by omega
                        obtain ⟨f, hf⟩ : ∃ f, f = 4 - (m + 1) := ⟨_, rfl⟩
                        have hfm : 4 - m = f + 1 := by omega
                        have hcl' := hcl.out
                        rw [hfm] at hcl'
                        have hg := HG.out
                        have x0 := (hg.box.2 0 _ rfl).1
                        have x1 := (hg.box.2 1 _ rfl).1
                        clear hg
                        have HAT := Shut.mk (HTS.out _ HG.out.bel c)
                        rcases atI_cases (nds rs) c with ⟨hat, hno⟩ | ⟨i, hi, hat, hid⟩
                        · have hfn : (nds rs).findIdx? (fun n => n.id == c) = none := List.findIdx?_eq_none_iff.2 (fun n hn => by simpa using hno n hn)
                          have HE : Shut (R = false) := ⟨by rw [HRC.out, HOc.out, hcl', climbs_none hfn]⟩
                          rw [hat] at HAT
                          clear hcl' hfn hno hat hcl
                          go_wp2_with fail
                          refine HAT.out.mono ?_
                          rintro e W6 ⟨rfl, hb6⟩
                          have HG6 := Shut.mk (HG.out.below hb6)
                          clear hb6
                          go_wp2_with fail
                          go_ret
                          exact ⟨by rw [HE.out]; rfl, HG6.out.bel⟩
                        · have hir : i < rs.length := by rw [nds_len] at hi; exact hi
                          have hfn : (nds rs).findIdx? (fun n => n.id == c) = some i := by
                            unfold atI at hat
                            split at hat
                            · rename_i q hq; rw [hq]; congr 1; omega
                            · omega
                          rw [climbs_some hfn, nds_getD hir] at hcl'
                          have HCL := Shut.mk hcl'
                          rw [hat] at HAT
                          have i0 : (0 : Int) ≤ (i : Int) := by omega
                          have i1 : (i : Int) < (n : Int) := by have := HN.out; omega
                          have i2 : ¬ (i : Int) < 0 := by omega
                          clear hcl' hfn hat hcl hid hi
                          go_wp2_with fail
                          refine HAT.out.mono ?_
                          rintro e W6 ⟨rfl, hb6⟩
                          have HG6 := Shut.mk (HG.out.below hb6)
                          clear hb6 x0 x1 HAT
                          have x0 := (HG6.out.box.2 0 _ rfl).1
                          have e1 := (HC.out W6 HG6.out.bel i hir).2.1
                          generalize rs[i].nd.parent = pp at *
                          by_cases hpp : pp = 1
                          · have hpp' : (pp == 1) = true := by simpa using hpp
                            have HE : Shut (R = true) := ⟨by rw [HRC.out, HOc.out, HCL.out, if_pos hpp]⟩
                            clear hpp HCL
                            go_wp2_with fail
                            go_ret
                            exact ⟨by rw [HE.out]; rfl, HG6.out.bel⟩
                          · have hpp' : (pp == 1) = false := by simpa using hpp
                            have HNX : Shut (climbs (nds rs) 4 id = climbs (nds rs) (4 - (m + 1)) pp) := ⟨by rw [← hf, HCL.out, if_neg hpp]⟩
                            clear hpp HCL hf hfm
                            go_wp2_with fail
                            go_roundw
                            case rel => exact ⟨m + 1, pp, rfl, by go_num, by omega, HNX, HG6⟩
                            case measure => simp [intOf]; omega
                      · have hm : m = 4 := by omega
                        have HE : Shut (R = false) := ⟨by rw [HRC.out, HOc.out, hcl.out, hm]; rfl⟩
                        have m4 : ¬ (m : Int) < 4 := by omega
                        clear hm hcl
                        go_wp2_with fail
                        go_ret
                        exact ⟨by rw [HE.out]; rfl, HG.out.bel⟩
end Go.Proofs.Ytfceohoegeebjaa
/- TreS: The walks of the models' TreeOk and TreeNew. -/
namespace Go.Proofs.Ytfceohoegeebjaa
open Go.RowKit
attribute [local go_sem ↓] Go.wp_at_zero Go.wp_at_succ
attribute [local irreducible] nodeOk

theorem treeOk_len {T : TM} (h : inI (T.nodes.length : Int) 1 14 = false) : treeOk T = false := by
  unfold treeOk
  unfold inI at h
  have : (decide (1 ≤ T.nodes.length) && decide (T.nodes.length ≤ 14)) = false := by
    rw [← h]
    congr 1
    · exact decide_eq_decide.2 ⟨fun h => by omega, fun h => by omega⟩
    · exact decide_eq_decide.2 ⟨fun h => by omega, fun h => by omega⟩
  rw [this]; rfl
theorem treeOk_next {T : TM} (h : ¬ T.next ≤ 100000) : treeOk T = false := by unfold treeOk; rw [decide_eq_false h]; simp
theorem treeOk_no {T : TM} {k : Nat} (hk : k < T.nodes.length) (h : nodeOk T k = false) : treeOk T = false := by
  have : (List.range T.nodes.length).all (nodeOk T) = false := by
    cases e : (List.range T.nodes.length).all (nodeOk T) with
    | false => rfl
    | true => rw [List.all_eq_true] at e; rw [e k (List.mem_range.2 hk)] at h; cases h
  unfold treeOk; rw [this]; simp
theorem treeOk_yes {T : TM} (h1 : inI (T.nodes.length : Int) 1 14 = true) (h2 : T.next ≤ 100000) (h3 : ∀ k, k < T.nodes.length → nodeOk T k = true) : treeOk T = true := by
  rw [inI_iff] at h1
  unfold treeOk
  rw [decide_eq_true (show 1 ≤ T.nodes.length by omega), decide_eq_true (show T.nodes.length ≤ 14 by omega), decide_eq_true h2, show (List.range T.nodes.length).all (nodeOk T) = true from List.all_eq_true.2 (fun k hk => h3 k (List.mem_range.1 hk))]; rfl
set_option maxRecDepth 100000 in
set_option maxHeartbeats 2000000 in
theorem specTreeOk {w : World} {v : Value} {T : TM} {lo hi : Nat} (h : TSee w v T lo hi) (hf : NFit T) : Calls Try.prog 26 #[v] w fun e w' => e = .returned (.bool (treeOk T)) ∧ Below w.heap.size w w' := by
  obtain ⟨a, cap, rs, rfl, hr, hm⟩ := h
  obtain ⟨n, hn⟩ : ∃ n, n = rs.length := ⟨_, rfl⟩
  have hnl : n = T.nodes.length := by rw [hn, ← hr, nds_len]
  have hp : ∀ r ∈ rs, r.nd.pieces.length ≤ 1048576 ∧ r.nd.name.size ≤ 1048576 := fun r hx => by
    have := nsum_mem (ns := T.nodes) (n := r.nd) (by rw [← hr]; exact List.mem_map.2 ⟨r, hx, rfl⟩)
    unfold NFit at hf
    omega
  have hn9 : n ≤ 1048576 := by unfold NFit at hf; omega
  obtain ⟨R, hR⟩ : ∃ R, R = treeOk T := ⟨_, rfl⟩
  have HR := Shut.mk hR
  obtain ⟨nodes, nx⟩ := T
  dsimp only at hr hnl
  subst hr
  rw [← hR, ← hn]
  have HM := Shut.mk (And.intro hm (And.intro hp (And.intro hn hnl)))
  obtain ⟨W, hW⟩ : ∃ W, W = w.alloc (.cells #[.slice a n cap, .int .i64 nx] 26) := ⟨_, rfl⟩
  have HB : Shut (Below w.heap.size w W) := ⟨by rw [hW]; exact (Below.refl _ _).alloc (Nat.le_refl _) _⟩
  have HX : Shut (WCells W w.heap.size [.slice a n cap, .int .i64 nx]) := ⟨by rw [hW]; exact wcells_new w #[.slice a n cap, .int .i64 nx] 26⟩
  have x0 := (HX.out.2 0 _ rfl).1
  have x1 := (HX.out.2 1 _ rfl).1
  clear hm hp hf hR hn hnl
  cases h1 : inI (n : Int) 1 14 with
  | false =>
    have HE : Shut (R = false) := ⟨by rw [HR.out]; exact treeOk_len (by rw [← HM.out.2.2.2]; exact h1)⟩
    go_enter Try.func26, Try.ntmps26
    go_upto_region 1 with fail
    rw [← hW]
    clear hW
    go_wp2_with fail
    refine (isInI (n : Int) 1 14 _ false h1).mono ?_
    rintro e w1 ⟨rfl, hw1⟩
    obtain rfl : W = w1 := hw1.symm
    clear hw1
    go_wp2_with fail
    go_ret
    exact ⟨by rw [HE.out]; rfl, HB.out⟩
  | true =>
    have hn14 := (inI_iff.1 h1).2
    by_cases h2 : nx ≤ 100000
    case neg =>
      have h2' : (100000 : Int) < nx := by omega
      have HE : Shut (R = false) := ⟨by rw [HR.out]; exact treeOk_next h2⟩
      go_enter Try.func26, Try.ntmps26
      go_upto_region 1 with fail
      rw [← hW]
      clear hW
      go_wp2_with fail
      refine (isInI (n : Int) 1 14 _ true h1).mono ?_
      rintro e w1 ⟨rfl, hw1⟩
      obtain rfl : W = w1 := hw1.symm
      clear hw1
      go_wp2_with fail
      go_ret
      exact ⟨by rw [HE.out]; rfl, HB.out⟩
    have h2' : ¬ (100000 : Int) < nx := by omega
    have HY := Shut.mk (fun (q : ∀ k, k < n → nodeOk ⟨nds rs, nx⟩ k = true) => HR.out.trans (treeOk_yes (T := ⟨nds rs, nx⟩) (by show inI ((nds rs).length : Int) 1 14 = true; rw [← HM.out.2.2.2]; exact h1) h2 (fun k hk => q k (by rw [HM.out.2.2.2]; exact hk))))
    have HNO := Shut.mk (fun (k : Nat) (hk : k < n) (q : nodeOk ⟨nds rs, nx⟩ k = false) => HR.out.trans (treeOk_no (T := ⟨nds rs, nx⟩) (by show k < (nds rs).length; rw [← HM.out.2.2.2]; exact hk) q))
    have HND := Shut.mk (fun (W : World) (hW : Below w.heap.size w W) (k : Nat) (hk : k < n) => specNode (cap := cap) (nx := nx) k (HM.out.1.below hW) (by rw [← HM.out.2.2.1]; exact hk) (by rw [← HM.out.2.2.1]; omega) HM.out.2.1)
    rw [← HM.out.2.2.1] at HND
    go_enter Try.func26, Try.ntmps26
    go_upto_region 1 with fail
    rw [← hW]
    clear hW
    go_wp2_with fail
    refine (isInI (n : Int) 1 14 _ true h1).mono ?_
    rintro e w1 ⟨rfl, hw1⟩
    obtain rfl : W = w1 := hw1.symm
    clear hw1 h1 x0 x1
    have x0 := (HX.out.2 0 _ rfl).1
    have x1 := (HX.out.2 1 _ rfl).1
    go_wp2_with fail
    go_loopw [3] (fun i wr => ∃ (k : Nat), i = .int .i64 k ∧ k ≤ n ∧ Shut (∀ j, j < k → nodeOk ⟨nds rs, nx⟩ j = true) ∧ Shut (Below W.heap.size W wr)) (fun i _ => n - (intOf i).toNat)
    case atStart => exact ⟨0, rfl, Nat.zero_le _, ⟨fun j hj => by omega⟩, ⟨Below.refl _ _⟩⟩
    case round =>
      clear x0 x1
      obtain ⟨k, rfl, hk, hall, hb⟩ := hrel
      have x0 := ((HX.out.grow hb.out).2 0 _ rfl).1
      have x1 := ((HX.out.grow hb.out).2 1 _ rfl).1
      by_cases hlt : k < n
      · have k1 : (k : Int) < (n : Int) := by omega
        have HC := Shut.mk (HND.out wr (HB.out.trans (hb.out.mono HB.out.size)) k hlt)
        cases hok : nodeOk ⟨nds rs, nx⟩ k with
        | false =>
          have HE := Shut.mk (HNO.out k hlt hok)
          rw [hok] at HC
          clear hok
          go_wp2_with fail
          refine HC.out.mono ?_
          rintro e w2 ⟨rfl, hb2⟩
          have HB2 := Shut.mk (HB.out.trans ((hb.out.trans (hb2.mono hb.out.size)).mono HB.out.size))
          clear hb2
          go_wp2_with fail
          go_ret
          exact ⟨by rw [HE.out]; rfl, HB2.out⟩
        | true =>
          have HAL : Shut (∀ j, j < k + 1 → nodeOk ⟨nds rs, nx⟩ j = true) := ⟨fun j hj => by
            by_cases e : j = k
            · subst e; exact hok
            · exact hall.out j (by omega)⟩
          rw [hok] at HC
          clear hok hall
          go_wp2_with fail
          refine HC.out.mono ?_
          rintro e w2 ⟨rfl, hb2⟩
          have HB2 := Shut.mk (hb.out.trans (hb2.mono hb.out.size))
          clear hb2
          go_wp2_with fail
          go_roundw
          case rel => exact ⟨k + 1, by go_num, by omega, HAL, HB2⟩
          case measure => simp [intOf]; omega
      · have k1 : ¬ (k : Int) < (n : Int) := by omega
        have HE := Shut.mk (HY.out (fun j hj => hall.out j (by omega)))
        go_wp2_with fail
        go_ret
        exact ⟨by rw [HE.out]; rfl, HB.out.trans (hb.out.mono HB.out.size)⟩
end Go.Proofs.Ytfceohoegeebjaa
/- TreT: The walks of the models' l10Below and SchemaAt. -/
namespace Go.Proofs.Ytfceohoegeebjaa
open Go.RowKit
attribute [local go_sem ↓] Go.wp_at_zero Go.wp_at_succ
attribute [local irreducible] nodeOk treeOk atI

/-- Is a node another one, or below it (so many steps up)? -/
def belowF (ns : List NM) : Nat → Int → Int → Bool
  | 0, _, _ => false
  | f + 1, id, top => if id = top then true else match ns.findIdx? (fun n => n.id == id) with
    | none => false
    | some k => belowF ns f (ns.getD k default).parent top
theorem belowF_same {ns : List NM} {f : Nat} {c top : Int} (h : c = top) : belowF ns (f + 1) c top = true := by
  conv => lhs; unfold belowF
  rw [if_pos h]
theorem belowF_none {ns : List NM} {f : Nat} {c top : Int} (h0 : c ≠ top) (h : ns.findIdx? (fun n => n.id == c) = none) : belowF ns (f + 1) c top = false := by
  conv => lhs; unfold belowF
  rw [if_neg h0, h]
theorem belowF_some {ns : List NM} {f i : Nat} {c top : Int} (h0 : c ≠ top) (h : ns.findIdx? (fun n => n.id == c) = some i) : belowF ns (f + 1) c top = belowF ns f (ns.getD i default).parent top := by
  conv => lhs; unfold belowF
  rw [if_neg h0, h]
/-- The schema of a node, or of the next one up that has one. -/
def schemaF (ns : List NM) : Nat → Int → Int
  | 0, _ => 0
  | f + 1, id => match ns.findIdx? (fun n => n.id == id) with
    | none => 0
    | some k => if (ns.getD k default).schema ≠ 0 then (ns.getD k default).schema else schemaF ns f (ns.getD k default).parent
theorem schemaF_none {ns : List NM} {f : Nat} {c : Int} (h : ns.findIdx? (fun n => n.id == c) = none) : schemaF ns (f + 1) c = 0 := by
  conv => lhs; unfold schemaF
  rw [h]
theorem schemaF_some {ns : List NM} {f i : Nat} {c : Int} (h : ns.findIdx? (fun n => n.id == c) = some i) : schemaF ns (f + 1) c = if (ns.getD i default).schema ≠ 0 then (ns.getD i default).schema else schemaF ns f (ns.getD i default).parent := by
  conv => lhs; unfold schemaF
  rw [h]
def schemaAtX (T : TM) (id : Int) : Int := if treeOk T = true then schemaF T.nodes 15 id else 0
/-- Where a node is, or that it is nowhere, as it is found. -/
theorem at_cases (ns : List NM) (id : Int) : (atI ns id = -1 ∧ ns.findIdx? (fun n => n.id == id) = none) ∨ ∃ i, i < ns.length ∧ atI ns id = (i : Int) ∧ ns.findIdx? (fun n => n.id == id) = some i := by
  unfold atI
  cases h : ns.findIdx? (fun n => n.id == id) with
  | none => exact .inl ⟨rfl, rfl⟩
  | some i =>
    obtain ⟨hi, _⟩ := List.findIdx?_eq_some_iff_getElem.1 h
    exact .inr ⟨i, hi, rfl, rfl⟩
/-- A tree that was handed over, in its box. -/
structure BX (w W : World) (a : Option Addr) (n cap : Nat) (nx : Int) : Prop where
  bel : Below w.heap.size w W
  box : WCells W w.heap.size [.slice a n cap, .int .i64 nx]
theorem BX.below {w W W' : World} {a : Option Addr} {n cap : Nat} {nx : Int} (h : BX w W a n cap nx) (hb : Below W.heap.size W W') : BX w W' a n cap nx := ⟨h.bel.trans (hb.mono h.bel.size), h.box.grow hb⟩
theorem BX.new (w : World) (a : Option Addr) (n cap : Nat) (nx : Int) (t : TypeId) : BX w (w.alloc (.cells #[.slice a n cap, .int .i64 nx] t)) a n cap nx := ⟨(Below.refl _ _).alloc (Nat.le_refl _) _, wcells_new w #[.slice a n cap, .int .i64 nx] t⟩
set_option maxRecDepth 100000 in
set_option maxHeartbeats 2000000 in
theorem specBelow {w : World} {v : Value} {T : TM} {lo hi : Nat} (id top : Int) (h : TSee w v T lo hi) (hf : NFit T) : Calls Try.prog 72 #[v, .int .i64 id, .int .i64 top] w fun e w' => e = .returned (.bool (belowF T.nodes 15 id top)) ∧ Below w.heap.size w w' := by
  have hl : T.nodes.length ≤ 1048576 := by unfold NFit at hf; omega
  have h' := h
  obtain ⟨a, cap, rs, rfl, hr, hm⟩ := h
  obtain ⟨n, hn⟩ : ∃ n, n = rs.length := ⟨_, rfl⟩
  rw [← hn] at h' ⊢
  have HTS := Shut.mk (fun W (hW : Below w.heap.size w W) (c : Int) => specAt c (h'.below hW) hl)
  obtain ⟨R, hR⟩ : ∃ R, R = belowF T.nodes 15 id top := ⟨_, rfl⟩
  have HR := Shut.mk hR
  rw [← hR]
  obtain ⟨nodes, nx⟩ := T
  dsimp only at hr HTS
  subst hr
  have HM := Shut.mk (And.intro hm hn)
  have hn9 : n ≤ 1048576 := by dsimp only at hl; rw [nds_len] at hl; omega
  clear hm hf hR hn h' hl
  go_enter Try.func72, Try.ntmps72
  go_upto_region 1 with fail
  refine wp_shade (fun W => BX w W a n cap nx) (BX.new w a n cap nx 26) ?_
  intro W hg
  have HG := Shut.mk hg
  clear hg
  go_wp2_with fail
  go_loopw [1, 7] (fun iv mv wr => ∃ (m : Nat) (c : Int), iv = .int .i64 c ∧ mv = .int .i64 m ∧ m ≤ 15 ∧ Shut (R = belowF (nds rs) (15 - m) c top) ∧ Shut (BX w wr a n cap nx)) (fun _ mv _ => 15 - (intOf mv).toNat)
  case atStart => exact ⟨0, id, rfl, rfl, by omega, ⟨HR.out⟩, HG⟩
  case round =>
    clear HG
    obtain ⟨m, c, rfl, rfl, hm15, hcl, HG⟩ := hrel
    by_cases hlt : m < 15
    · have m1 : (m : Int) ≤ 14 := by omega
      obtain ⟨f, hf⟩ : ∃ f, f = 15 - (m + 1) := ⟨_, rfl⟩
      have hcl' := hcl.out
      rw [show 15 - m = f + 1 by omega] at hcl'
      by_cases he : c = top
      · have he' : (c == top) = true := by simpa using he
        have HE : Shut (R = true) := ⟨by rw [hcl', belowF_same he]⟩
        clear he hcl' hcl hf
        go_wp2_with fail
        go_ret
        exact ⟨by rw [HE.out]; rfl, HG.out.bel⟩
      · have he' : (c == top) = false := by simpa using he
        have x0 := (HG.out.box.2 0 _ rfl).1
        have x1 := (HG.out.box.2 1 _ rfl).1
        have HAT := Shut.mk (HTS.out wr HG.out.bel c)
        rcases at_cases (nds rs) c with ⟨hat, hfn⟩ | ⟨i, hi, hat, hfn⟩
        · have HE : Shut (R = false) := ⟨by rw [hcl', belowF_none he hfn]⟩
          rw [hat] at HAT
          clear he hcl' hcl hf hfn hat
          go_wp2_with fail
          refine HAT.out.mono ?_
          rintro e W6 ⟨rfl, hb6⟩
          have HG6 := Shut.mk (HG.out.below hb6)
          clear hb6
          go_wp2_with fail
          go_ret
          exact ⟨by rw [HE.out]; rfl, HG6.out.bel⟩
        · have hir : i < rs.length := by rw [nds_len] at hi; exact hi
          have HNX : Shut (R = belowF (nds rs) (15 - (m + 1)) rs[i].nd.parent top) := ⟨by rw [hcl', belowF_some he hfn, nds_getD hir, ← hf]⟩
          rw [hat] at HAT
          have i0 : (0 : Int) ≤ (i : Int) := by omega
          have i1 : (i : Int) < (n : Int) := by have := HM.out.2; omega
          have i2 : ¬ (i : Int) < 0 := by omega
          clear he hcl' hcl hf hfn hat hi
          go_wp2_with fail
          refine HAT.out.mono ?_
          rintro e W6 ⟨rfl, hb6⟩
          have HG6 := Shut.mk (HG.out.below hb6)
          clear hb6 x0 x1 HAT
          have x0 := (HG6.out.box.2 0 _ rfl).1
          obtain ⟨b, off, rfl, lb, hc⟩ := TR.nat (HM.out.1.below HG6.out.bel) (by omega)
          have e1 := (hc i hir).2.1
          clear hc
          generalize rs[i].nd.parent = pp at *
          go_wp2_with fail
          go_roundw
          case rel => exact ⟨m + 1, pp, rfl, by go_num, by omega, HNX, HG6⟩
          case measure => simp [intOf]; omega
    · have hm : m = 15 := by omega
      have HE : Shut (R = false) := ⟨by rw [hcl.out, hm]; rfl⟩
      have m1 : ¬ (m : Int) ≤ 14 := by omega
      clear hm hcl
      go_wp2_with fail
      go_ret
      exact ⟨by rw [HE.out]; rfl, HG.out.bel⟩
end Go.Proofs.Ytfceohoegeebjaa
/- TreU: The walk of the model's SchemaAt. -/
namespace Go.Proofs.Ytfceohoegeebjaa
open Go.RowKit
attribute [local go_sem ↓] Go.wp_at_zero Go.wp_at_succ
attribute [local irreducible] nodeOk treeOk atI

set_option maxRecDepth 100000 in
set_option maxHeartbeats 2000000 in
theorem specSchemaAt {w : World} {v : Value} {T : TM} {lo hi : Nat} (id : Int) (h : TSee w v T lo hi) (hf : NFit T) : Calls Try.prog 43 #[v, .int .i64 id] w fun e w' => e = .returned (.int .i64 (schemaAtX T id)) ∧ Below w.heap.size w w' := by
  have hl : T.nodes.length ≤ 1048576 := by unfold NFit at hf; omega
  have h' := h
  obtain ⟨a, cap, rs, rfl, hr, hm⟩ := h
  obtain ⟨n, hn⟩ : ∃ n, n = rs.length := ⟨_, rfl⟩
  rw [← hn] at h' ⊢
  have HTS := Shut.mk (fun W (hW : Below w.heap.size w W) (c : Int) => specAt c (h'.below hW) hl)
  have HTO := Shut.mk (fun W (hW : Below w.heap.size w W) => specTreeOk (h'.below hW) hf)
  obtain ⟨R, hR⟩ : ∃ R, R = schemaAtX T id := ⟨_, rfl⟩
  rw [← hR]
  unfold schemaAtX at hR
  obtain ⟨nodes, nx⟩ := T
  dsimp only at hr HTS HTO hR
  subst hr
  have HM := Shut.mk (And.intro hm hn)
  have hn9 : n ≤ 1048576 := by dsimp only at hl; rw [nds_len] at hl; omega
  have HR := Shut.mk hR
  clear hm hf hR hn h' hl
  cases hok : treeOk ⟨nds rs, nx⟩ with
  | false =>
    have HE : Shut (R = 0) := ⟨by rw [HR.out, if_neg (by rw [hok]; decide)]⟩
    rw [hok] at HTO
    clear hok
    go_enter Try.func43, Try.ntmps43
    go_upto_region 1 with fail
    refine wp_shade (fun W => BX w W a n cap nx) (BX.new w a n cap nx 26) ?_
    intro W hg
    have HG := Shut.mk hg
    have x0 := (hg.box.2 0 _ rfl).1
    have x1 := (hg.box.2 1 _ rfl).1
    clear hg
    go_wp2_with fail
    refine (HTO.out _ HG.out.bel).mono ?_
    rintro e W1 ⟨rfl, hb1⟩
    have HG1 := Shut.mk (HG.out.below hb1)
    clear hb1
    go_wp2_with fail
    go_ret
    exact ⟨by rw [HE.out]; rfl, HG1.out.bel⟩
  | true =>
    have HRR : Shut (R = schemaF (nds rs) 15 id) := ⟨by rw [HR.out, if_pos hok]⟩
    rw [hok] at HTO
    clear hok HR
    go_enter Try.func43, Try.ntmps43
    go_upto_region 1 with fail
    refine wp_shade (fun W => BX w W a n cap nx) (BX.new w a n cap nx 26) ?_
    intro W hg
    have HG := Shut.mk hg
    have x0 := (hg.box.2 0 _ rfl).1
    have x1 := (hg.box.2 1 _ rfl).1
    clear hg
    go_wp2_with fail
    refine (HTO.out _ HG.out.bel).mono ?_
    rintro e W1 ⟨rfl, hb1⟩
    have HG1 := Shut.mk (HG.out.below hb1)
    clear hb1 x0 x1 HG
    go_wp2_with fail
    go_loopw [1, 5] (fun iv mv wr => ∃ (m : Nat) (c : Int), iv = .int .i64 c ∧ mv = .int .i64 m ∧ m ≤ 15 ∧ Shut (R = schemaF (nds rs) (15 - m) c) ∧ Shut (BX w wr a n cap nx)) (fun _ mv _ => 15 - (intOf mv).toNat)
    case atStart => exact ⟨0, id, rfl, rfl, by omega, ⟨HRR.out⟩, HG1⟩
    case round =>
      clear HG1
      obtain ⟨m, c, rfl, rfl, hm15, hcl, HG⟩ := hrel
      by_cases hlt : m < 15
      · have m1 : (m : Int) ≤ 14 := by omega
        obtain ⟨f, hf⟩ : ∃ f, f = 15 - (m + 1) := ⟨_, rfl⟩
        have hcl' := hcl.out
        rw [show 15 - m = f + 1 by omega] at hcl'
        have x0 := (HG.out.box.2 0 _ rfl).1
        have x1 := (HG.out.box.2 1 _ rfl).1
        have HAT := Shut.mk (HTS.out wr HG.out.bel c)
        rcases at_cases (nds rs) c with ⟨hat, hfn⟩ | ⟨i, hi, hat, hfn⟩
        · have HE : Shut (R = 0) := ⟨by rw [hcl', schemaF_none hfn]⟩
          rw [hat] at HAT
          clear hcl' hcl hf hfn hat
          go_wp2_with fail
          refine HAT.out.mono ?_
          rintro e W6 ⟨rfl, hb6⟩
          have HG6 := Shut.mk (HG.out.below hb6)
          clear hb6
          go_wp2_with fail
          go_ret
          exact ⟨by rw [HE.out]; rfl, HG6.out.bel⟩
        · have hir : i < rs.length := by rw [nds_len] at hi; exact hi
          have HNX : Shut (R = if rs[i].nd.schema ≠ 0 then rs[i].nd.schema else schemaF (nds rs) (15 - (m + 1)) rs[i].nd.parent) := ⟨by rw [hcl', schemaF_some hfn, nds_getD hir, ← hf]⟩
          rw [hat] at HAT
          have i0 : (0 : Int) ≤ (i : Int) := by omega
          have i1 : (i : Int) < (n : Int) := by have := HM.out.2; omega
          have i2 : ¬ (i : Int) < 0 := by omega
          clear hcl' hcl hf hfn hat hi
          go_wp2_with fail
          refine HAT.out.mono ?_
          rintro e W6 ⟨rfl, hb6⟩
          have HG6 := Shut.mk (HG.out.below hb6)
          clear hb6 x0 x1 HAT
          have x0 := (HG6.out.box.2 0 _ rfl).1
          obtain ⟨b, off, rfl, lb, hc⟩ := TR.nat (HM.out.1.below HG6.out.bel) (by omega)
          have e1 := (hc i hir).2.1
          have e4 := (hc i hir).2.2.2.2.1
          clear hc
          generalize rs[i].nd.parent = pp at *
          generalize rs[i].nd.schema = ss at *
          by_cases hs : ss = 0
          · have hs' : (ss != 0) = false := by simpa using hs
            have HN2 : Shut (R = schemaF (nds rs) (15 - (m + 1)) pp) := ⟨by rw [HNX.out, if_neg (by simpa using hs)]⟩
            clear hs HNX
            go_wp2_with fail
            go_roundw
            case rel => exact ⟨m + 1, pp, rfl, by go_num, by omega, HN2, HG6⟩
            case measure => simp [intOf]; omega
          · have hs' : (ss != 0) = true := by simpa using hs
            have HE : Shut (R = ss) := ⟨by rw [HNX.out, if_pos hs]⟩
            clear hs HNX
            go_wp2_with fail
            go_ret
            exact ⟨by rw [HE.out]; rfl, HG6.out.bel⟩
      · have hm : m = 15 := by omega
        have HE : Shut (R = 0) := ⟨by rw [hcl.out, hm]; rfl⟩
        have m1 : ¬ (m : Int) ≤ 14 := by omega
        clear hm hcl
        go_wp2_with fail
        go_ret
        exact ⟨by rw [HE.out]; rfl, HG.out.bel⟩
end Go.Proofs.Ytfceohoegeebjaa
