/- Texts of ours, laid one behind the other: DrPr, SmA, LkQ, LkR, TreK, LkS, FndM, StM, TInt, StN, TkM, GrpM, TkG, TkW, TkA, LwK, StR, LkE. -/
import Derived.Test.YtakhagkhngmpaaaGreatQs4
import Derived.Test.YtakhagkhngmpaaaGreatQs2
import Derived.Test.YtakhagkhngmpaaaGreatQs3
import Derived.Sort.Walk0
import Derived.Lib.SlicesCompact
import Derived.Handy
import Derived.Deep.LoopGhost
/- DrPr: . -/
namespace Go.Proofs.YtakhagkhngmpaaaGreat
set_option maxRecDepth 100000
open Go.RowKit
attribute [local go_sem ↓] Go.wp_at_zero Go.wp_at_succ
structure PD (w0 W : World) (g B : Nat) (a : Option Addr) (len cap : Nat) (L : List (Nat × List Value)) (S : List (Value × TM × Nat × Nat)) : Prop where
 tl : TL w0 W L S []
 cur : Cur W g B a len cap
 nb : ∀ p ∈ L, p.1 ≠ g
 ns : ∀ s ∈ S, g < s.2.2.1 ∨ s.2.2.2 ≤ g
 hg : w0.heap.size ≤ g
 hB : ∀ p ∈ L, B ≤ p.1 ∨ p.1 < B
section
variable {w0 W W' : World} {g B len cap : Nat} {a : Option Addr} {L : List (Nat × List Value)} {S : List (Value × TM × Nat × Nat)}
theorem PD.below (h : PD w0 W g B a len cap L S) (hb : Below W.heap.size W W') : PD w0 W' g B a len cap L S := ⟨h.tl.below hb, h.cur.below hb, h.nb, h.ns, h.hg, h.hB⟩
theorem PD.new (h : PD w0 W g B a len cap L S) (cs : Array Value) (t : TypeId) : PD w0 (W.alloc (.cells cs t)) g B a len cap ((W.heap.size, cs.toList) :: L) S :=
 ⟨h.tl.new cs t, h.cur.below ((Below.refl _ _).alloc (Nat.le_refl _) _), fun p hp => by
  rcases List.mem_cons.1 hp with rfl | hp
  ·have := h.cur.2.1; show W.heap.size ≠ g; omega
  ·exact h.nb p hp, h.ns, h.hg, fun p _ => by omega⟩
theorem PD.set (h : PD w0 W g B a len cap L S) (i : Nat) {b : Nat} {X : List Value} (hi : L[i]? = some (b, X)) (j : Nat) (v : Value) (hj : j < X.length) (hB : B ≤ b) : PD w0 (W.setCell ⟨b, j, none⟩ v) g B a len cap (L.set i (b, X.set j v)) S := by
 have hm : (b, X) ∈ L := List.mem_of_getElem? hi
 refine ⟨h.tl.setBox i hi j v hj, h.cur.other ⟨b, j, none⟩ v (h.nb _ hm) hB, fun p hp => ?_, h.ns, h.hg, fun p _ => by omega⟩
 rcases List.mem_or_eq_of_mem_set hp with q | q
 ·exact h.nb p q
 ·rw [q]; exact (h.nb _ hm : b ≠ g)
theorem PD.path {v : Value} {T : TM} {lo hi : Nat} (h : PD w0 W g B a len cap L ((v, T, lo, hi) :: S)) (hf : NFit T) (id : Int) : Calls Tryz.prog 32 #[v, .int .i64 id] W fun e W' => e = .returned (.string (pathX T id)) ∧ PD w0 W' g B a len cap L ((v, T, lo, hi) :: S) := by
 refine (specPathOf id (h.tl.at 0 rfl).see hf).mono ?_
 rintro e w5 ⟨rfl, hb⟩
 exact ⟨rfl, h.below hb⟩
end
section
variable {w W : World} {r1 r2 tb eb b off n cp lo hi : Nat} {nx kind num who : Int} {path dest : ByteArray} {T : TM}
end
end Go.Proofs.YtakhagkhngmpaaaGreat
/- LkQ: . -/
namespace Go.Proofs.YtakhagkhngmpaaaGreat
set_option maxRecDepth 100000
def clm (ns : List NM) : Nat → Nat → Bool
 | 0, j => (ns.getD j default).id == 1
 | f + 1, j => match fid ns (ns.getD j default).parent with
  | none => (ns.getD j default).id == 1
  | some k => clm ns f k
theorem clm_none {ns : List NM} {f j : Nat} (h : fid ns (ns.getD j default).parent = none) : clm ns f j = ((ns.getD j default).id == 1) := by
 cases f with
 | zero => rfl
 | succ f => conv => lhs; unfold clm
             rw [h]
theorem clm_some {ns : List NM} {f j k : Nat} (h : fid ns (ns.getD j default).parent = some k) : clm ns (f + 1) j = clm ns f k := by
 conv => lhs; unfold clm
 rw [h]
theorem Asc.id_one {ns : List NM} (h : Asc ns) {j : Nat} (hj : j < ns.length) : ((ns.getD j default).id == 1) = decide (j = 0) := by
 rw [getD_in hj]
 by_cases e : j = 0
 ·subst e
  have := h.2.2.1
  rw [getD_in hj] at this
  simp [this]
 ·have := h.lt j hj 0 (by omega)
  rw [h.2.2.1] at this
  have h2 : ¬ ns[j].id = 1 := by omega
  simp [h2, e]
theorem clm_ups {ns : List NM} (h : Asc ns) : ∀ f j, j < ns.length → clm ns f j = true → ∃ d, d ≤ f ∧ Ups ns j d := by
 intro f
 induction f with
 | zero =>
  intro j hj hc
  unfold clm at hc
  rw [h.id_one hj] at hc
  obtain rfl := of_decide_eq_true hc
  exact ⟨0, Nat.le_refl _, .root⟩
 | succ f ih =>
  intro j hj hc
  cases hp : fid ns (ns.getD j default).parent with
  | none =>
   rw [clm_none hp, h.id_one hj] at hc
   obtain rfl := of_decide_eq_true hc
   exact ⟨0, Nat.zero_le _, .root⟩
  | some k =>
   rw [clm_some hp] at hc
   obtain ⟨d, hd, hu⟩ := ih k (fid_lt hp).1 hc
   refine ⟨d + 1, by omega, .step hj (fun e => ?_) hp hu⟩
   subst e
   rw [h.2.2.2, h.zero] at hp
   cases hp
theorem ups_clm {ns : List NM} (h : Asc ns) {j d : Nat} (hu : Ups ns j d) : ∀ f, d ≤ f → clm ns f j = true := by
 induction hu with
 | root =>
  intro f _
  rw [clm_none (by rw [h.2.2.2]; exact h.zero), h.id_one h.2.1]
  rfl
 | step hj h0 hp _ ih =>
  intro f hf
  cases f with
  | zero => omega
  | succ f => rw [clm_some hp]; exact ih f (by omega)
theorem clm_climbs {ns : List NM} (h : Asc ns) {j : Nat} (hj : j < ns.length) (h0 : j ≠ 0) : clm ns 4 j = climbs ns 4 (ns.getD j default).id := by
 have hf := h.fid hj
 rw [← getD_in hj] at hf
 cases hc : climbs ns 4 (ns.getD j default).id with
 | true =>
  obtain ⟨d, hd, hu⟩ := climbs_ups h 4 _ j hc hf h0
  exact ups_clm h hu 4 hd
 | false =>
  refine Bool.eq_false_iff.2 fun hm => ?_
  obtain ⟨d, hd, hu⟩ := clm_ups h 4 j hj hm
  rw [ups_climbs h 4 j d hu h0 hd] at hc
  cases hc
theorem belowF_no {ns : List NM} (h : Asc ns) {top : Int} (hn : fid ns top = none) (h0 : top ≠ 0) {i d : Nat} (hu : Ups ns i d) : ∀ f, belowF ns f (ns.getD i default).id top = false := by
 have hne : ∀ j, j < ns.length → (ns.getD j default).id ≠ top := fun j hj e => fid_none hn _ (by rw [getD_in hj] at e; exact List.getElem_mem hj) (by rw [getD_in hj] at e; exact e)
 induction hu with
 | root =>
  intro f
  cases f with
  | zero => rfl
  | succ f =>
   rw [belowF_some (i := 0) (hne 0 h.2.1) (by rw [h.2.2.1]; exact h.one), h.2.2.2]
   cases f with
   | zero => rfl
   | succ f => exact belowF_none (fun e => h0 e.symm) h.zero
 | @step i k d hi _ hk _ ih =>
  intro f
  cases f with
  | zero => rfl
  | succ f =>
   have hf := h.fid hi
   rw [← getD_in hi] at hf
   rw [belowF_some (hne i hi) hf]
   obtain ⟨hkl, ek⟩ := fid_lt hk
   rw [← ek, ← getD_in hkl]
   exact ih f
def blw (ns : List NM) (i : Nat) (top : Int) : Bool := decide (top ≠ 0) && belowF ns 15 (ns.getD i default).id top
def firstB (ns : List NM) (i : Nat) : Bool := match fnm ns (ns.getD i default).parent (ns.getD i default).name with
 | some k => (ns.getD k default).id == (ns.getD i default).id
 | none => false
theorem firstB_some {ns : List NM} {i k : Nat} (h : fnm ns (ns.getD i default).parent (ns.getD i default).name = some k) : firstB ns i = ((ns.getD k default).id == (ns.getD i default).id) := by
 unfold firstB
 rw [h]
def dirB (ns : List NM) (p : Int) : Bool := match fid ns p with
 | some k => (ns.getD k default).dir
 | none => false
theorem dirB_some {ns : List NM} {p : Int} {k : Nat} (h : fid ns p = some k) : dirB ns p = (ns.getD k default).dir := by
 unfold dirB
 rw [h]
theorem dirB_none {ns : List NM} {p : Int} (h : fid ns p = none) : dirB ns p = false := by
 unfold dirB
 rw [h]
def placeB (ns : List NM) (i : Nat) : Bool := nameB (ns.getD i default).name && firstB ns i && dirB ns (ns.getD i default).parent && clm ns 4 i
def Tall (ns : List NM) : Prop := Asc ns ∧ ∀ i, i < ns.length → ∃ d, d ≤ 4 ∧ Ups ns i d
def idsB (T : TM) : Bool := decide (T.next ≤ 100000) && (List.range T.nodes.length).all fun i => decide ((T.nodes.getD i default).id < T.next) && (decide (i = 0) || decide ((T.nodes.getD (i - 1) default).id < (T.nodes.getD i default).id))
def rootB (n : NM) : Bool := (n.id == 1) && (n.parent == 0) && decide (n.name = ⟨#[]⟩) && n.dir && inI n.schema 1 3
def kindB (n : NM) : Bool := if n.dir then dirOk n else fileOk n
theorem fnm_self {ns : List NM} {i : Nat} (hi : i < ns.length) : ∃ k, fnm ns ns[i].parent ns[i].name = some k ∧ k ≤ i := by
 cases hf : fnm ns ns[i].parent ns[i].name with
 | none => exact absurd rfl (fnm_none hf _ (List.getElem_mem hi) rfl)
 | some k =>
  refine ⟨k, rfl, Nat.le_of_not_lt fun hlt => ?_⟩
  exact fnm_first hf i hlt hi rfl rfl
theorem place_eq {ns : List NM} (h : Asc ns) {i : Nat} (hi : i < ns.length) (h0 : i ≠ 0) : placeB ns i = (nameB (ns.getD i default).name && decide (0 ≤ atI ns (ns.getD i default).parent) && (ns.getD (atI ns (ns.getD i default).parent).toNat default).dir &&
  (List.range i).all (fun j => ! (((ns.getD j default).parent == (ns.getD i default).parent) && decide ((ns.getD j default).name = (ns.getD i default).name))) && climbs ns 4 (ns.getD i default).id) := by
 unfold placeB
 rw [clm_climbs h hi h0]
 have e1 : firstB ns i = (List.range i).all (fun j => ! (((ns.getD j default).parent == (ns.getD i default).parent) && decide ((ns.getD j default).name = (ns.getD i default).name))) := by
  obtain ⟨k, hk, hki⟩ := fnm_self hi
  rw [firstB_some (k := k) (by rw [getD_in hi]; exact hk), getD_in hi]
  obtain ⟨hkl, kp, kn⟩ := fnm_lt hk
  rw [getD_in hkl]
  by_cases e : k = i
  ·subst e
   simp only [beq_self_eq_true]
   refine (List.all_eq_true.2 fun j hj => ?_).symm
   have hj' : j < k := by simpa using hj
   have := fnm_first hk j hj' (by omega)
   rw [getD_in (by omega : j < ns.length)]
   by_cases hp : ns[j].parent = ns[k].parent
   ·simp [hp, this hp]
   ·simp [hp]
  ·have hlt := h.lt i hi k (by omega)
   rw [getD_in hkl] at hlt
   have hne : (ns[k].id == ns[i].id) = false := by simp; omega
   rw [hne]
   symm
   refine Bool.eq_false_iff.2 fun hall => ?_
   have := List.all_eq_true.1 hall k (by simp; omega)
   rw [getD_in hkl] at this
   simp [kp, kn] at this
 have e2 : dirB ns (ns.getD i default).parent = (decide (0 ≤ atI ns (ns.getD i default).parent) && (ns.getD (atI ns (ns.getD i default).parent).toNat default).dir) := by
  rw [at_fid]
  cases hf : fid ns (ns.getD i default).parent with
  | none => rw [dirB_none hf]; simp
  | some k => rw [dirB_some hf]; simp
 rw [e1, e2]
 cases nameB (ns.getD i default).name <;> cases decide (0 ≤ atI ns (ns.getD i default).parent) <;> cases (ns.getD (atI ns (ns.getD i default).parent).toNat default).dir <;> cases climbs ns 4 (ns.getD i default).id <;> simp
theorem ids_asc {T : TM} (h : idsB T = true) (hr : rootB (T.nodes.getD 0 default) = true) (hl : 0 < T.nodes.length) : Asc T.nodes := by
 unfold idsB at h
 simp only [Bool.and_eq_true, decide_eq_true_eq, List.all_eq_true, List.mem_range, Bool.or_eq_true] at h
 unfold rootB at hr
 simp only [Bool.and_eq_true, beq_iff_eq, decide_eq_true_eq] at hr
 refine ⟨fun i hi h0 => ?_, hl, hr.1.1.1.1, hr.1.1.1.2⟩
 rcases (h.2 i hi).2 with e | e
 ·omega
 ·rw [getD_in hi] at e; exact e
def progB (T : TM) : Bool := inI (T.nodes.length : Int) 1 14 && idsB T && rootB (T.nodes.getD 0 default) && (List.range T.nodes.length).all fun i => kindB (T.nodes.getD i default) && (decide (i = 0) || placeB T.nodes i)
theorem prog_tree (T : TM) : progB T = treeOk T := by
 rw [Bool.eq_iff_iff]
 constructor
 ·intro h
  unfold progB at h
  simp only [Bool.and_eq_true, List.all_eq_true, List.mem_range, Bool.or_eq_true, decide_eq_true_eq] at h
  obtain ⟨⟨⟨h1, h2⟩, h3⟩, h4⟩ := h
  have hl := inI_iff.1 h1
  have ha := ids_asc h2 h3 (by omega)
  have h2' := h2
  unfold idsB at h2'
  simp only [Bool.and_eq_true, decide_eq_true_eq, List.all_eq_true, List.mem_range, Bool.or_eq_true] at h2'
  refine treeOk_yes h1 h2'.1 fun i hi => ?_
  obtain ⟨k1, k2⟩ := h4 i hi
  unfold nodeOk
  rw [decide_eq_true (h2'.2 i hi).1]
  by_cases e : i = 0
  ·subst e
   have h3' := h3
   unfold rootB at h3'
   simp only [Bool.and_eq_true, beq_iff_eq, decide_eq_true_eq] at h3'
   have hs := inI_iff.1 h3'.2
   unfold kindB at k1
   rw [if_pos h3'.1.2] at k1
   unfold firstOk
   rw [if_pos rfl, if_pos h3'.1.2, k1, h3'.1.1.1.1, h3'.1.1.1.2, h3'.1.1.2, h3'.1.2]
   have : ((T.nodes.getD 0 default).schema != 0) = true := by rw [bne_iff_ne]; omega
   rw [this]
   rfl
  ·rw [if_neg e]
   have h5 := (h2'.2 i hi).2.resolve_left e
   rw [decide_eq_true h5]
   unfold kindB at k1
   rw [k1, ← place_eq ha hi e]
   simp [k2.resolve_left e]
 ·intro h
  have h14 := treeOk_14 h
  obtain ⟨hl, he, _⟩ := treeOk_first h
  have hn : ∀ i, i < T.nodes.length → nodeOk T i = true := fun i hi => treeOk_node h hi
  have hnx : T.next ≤ 100000 := by
   unfold treeOk at h
   simp only [Bool.and_eq_true, decide_eq_true_eq] at h
   exact h.1.2
  have h0 := hn 0 hl
  unfold nodeOk at h0
  rw [if_pos rfl] at h0
  simp only [Bool.and_eq_true, decide_eq_true_eq] at h0
  obtain ⟨⟨⟨_, hf⟩, hk0⟩, _⟩ := h0
  unfold firstOk at hf
  simp only [Bool.and_eq_true, beq_iff_eq, decide_eq_true_eq, bne_iff_ne] at hf
  have hr : rootB (T.nodes.getD 0 default) = true := by
   unfold rootB
   rw [hf.1.1.1.1, hf.1.1.1.2, hf.1.1.2, hf.1.2]
   rw [if_pos hf.1.2] at hk0
   unfold dirOk at hk0
   simp only [Bool.and_eq_true] at hk0
   have := inI_iff.1 hk0.1.1.1.1
   have : inI (T.nodes.getD 0 default).schema 1 3 = true := inI_iff.2 ⟨by omega, by omega⟩
   rw [this]
   rfl
  have hids : idsB T = true := by
   unfold idsB
   rw [decide_eq_true hnx]
   simp only [Bool.true_and]
   refine List.all_eq_true.2 fun i hi => ?_
   have hi' : i < T.nodes.length := by simpa using hi
   have h1 := hn i hi'
   unfold nodeOk at h1
   simp only [Bool.and_eq_true] at h1
   rw [h1.1.1.1]
   by_cases e : i = 0
   ·simp [e]
   ·have h2 := h1.1.1.2
    rw [if_neg e] at h2
    rw [h2]
    simp
  have ha := ids_asc hids hr hl
  unfold progB
  rw [hids, hr, inI_iff.2 ⟨by omega, by omega⟩]
  simp only [Bool.true_and]
  refine List.all_eq_true.2 fun i hi => ?_
  have hi' : i < T.nodes.length := by simpa using hi
  have h1 := hn i hi'
  unfold nodeOk at h1
  simp only [Bool.and_eq_true, Bool.or_eq_true] at h1
  unfold kindB
  rw [h1.1.2]
  by_cases e : i = 0
  ·simp [e]
  ·have h2 := h1.2.resolve_left (by simp [e])
   rw [place_eq ha hi' e]
   simp only [Bool.true_and, Bool.or_eq_true]
   right
   simp only [Bool.and_eq_true]
   exact h2
theorem tree_tall {T : TM} (h : treeOk T = true) : Tall T.nodes := by
 rw [← prog_tree] at h
 unfold progB at h
 simp only [Bool.and_eq_true, List.all_eq_true, List.mem_range, Bool.or_eq_true, decide_eq_true_eq] at h
 obtain ⟨⟨⟨h1, h2⟩, h3⟩, h4⟩ := h
 have hl := inI_iff.1 h1
 have ha := ids_asc h2 h3 (by omega)
 refine ⟨ha, fun i hi => ?_⟩
 by_cases e : i = 0
 ·subst e; exact ⟨0, by omega, .root⟩
 ·have := (h4 i hi).2.resolve_left e
  unfold placeB at this
  simp only [Bool.and_eq_true] at this
  exact clm_ups ha 4 i hi this.2
end Go.Proofs.YtakhagkhngmpaaaGreat
/- TreK: . -/
namespace Go.Proofs.YtakhagkhngmpaaaGreat
set_option maxRecDepth 100000
open Go.RowKit
attribute [local go_sem ↓] Go.wp_at_zero Go.wp_at_succ
def Mk9 (V W : World) (v : Value) (m : Nat) (L : List ByteArray) : Prop := Below V.heap.size V W ∧ W.ownsRow V.heap.size 9 1 v m (tv L)
theorem Mk9.drew {V W : World} {v : Value} {m : Nat} {L : List ByteArray} (h : Mk9 V W v m L) (q : Nat) : Mk9 V (W.drewN q) v m L := by
 have hb : Below W.heap.size W (W.drewN q) := ⟨rfl, rfl, rfl, Nat.le_refl _, fun _ _ => rfl⟩
 exact ⟨h.1.trans (hb.mono h.1.size), h.2.kept (row := none) ⟨hb.os, hb.tape, hb.output, hb.size, fun k hk _ => hb.block k hk⟩ (Classical.em _)⟩
theorem Mk9.snoc {V W W' : World} {v v' : Value} {m : Nat} {L : List ByteArray} {x : ByteArray} {o : Obj} (h : Mk9 V W v m L) (ho : W'.ownsRow V.heap.size 9 1 v' (m + 1) (tv L ++ [.string x])) (hg : (W.alloc o).grownBy W' v.ownBlock) : Mk9 V W' v' (m + 1) (L ++ [x]) := by
 have hb := h.1.alloc h.1.size o
 refine ⟨hb.grown hg hb.size (fun k hk => (h.2.lt k hk).1), ?_⟩
 have e : tv (L ++ [x]) = tv L ++ [.string x] := by simp [tv]
 rw [e]
 exact ho
attribute [local irreducible] nodeOk treeOk atI joinB nameB
end Go.Proofs.YtakhagkhngmpaaaGreat
/- LkS: . -/
namespace Go.Proofs.YtakhagkhngmpaaaGreat
set_option maxRecDepth 100000
theorem below_mem {T : TM} (h : treeOk T = true) {n x : NM} (hn : n ∈ T.nodes) (hx : x ∈ T.nodes) : n.id ∈ belowX T x.id ↔ blB T n x.id = true := by
 have hp := TP.of h
 unfold belowX blB
 rw [if_pos ⟨h, (hp.up.at hx).1⟩]
 unfold belowL
 constructor
 ·intro q
  obtain ⟨m, hm, e⟩ := List.mem_map.1 q
  obtain ⟨h1, h2⟩ := List.mem_filter.1 hm
  rw [← e]
  exact h2
 ·intro q
  exact List.mem_map.2 ⟨n, List.mem_filter.2 ⟨hn, q⟩, rfl⟩
def mustP (e : EM) : ByteArray := if e.kind = 1 ∨ e.kind = 2 then (parentB e.path).1 else e.path
def plcRef (T : TM) (p : ByteArray) : Int := if upX T p = 0 then 1 else if (ndAt T (plc T (upX T p))).dir = false then 3 else if findX T p ≠ 0 then 2 else 0
def filRef (x : NM) (held : Bool) : Int := if x.dir = true then 3 else if (held != (x.writer != 0)) = true then 6 else 0
def movRef (T : TM) (id : Int) (p : ByteArray) : Int := if plcRef T p ≠ 0 then plcRef T p else if (belowX T id).contains (upX T p) = true then 7 else 0
def dirRef (x : NM) : Int := if x.dir = false then 3 else 0
def quoRef (T : TM) (x : NM) (q : Int) : Int := if dirRef x ≠ 0 then dirRef x else if 0 < q ∧ q < usedX T x.id then 5 else 0
def addRef (T : TM) (x : NM) (l : Int) : Int := if filRef x true ≠ 0 then filRef x true else if roomX T x.id l = false ∨ 1000 < x.len + l then 5 else 0
def refX (T : TM) (e : EM) (x : NM) : Int :=
 if e.kind = 1 then plcRef T e.path
 else if e.kind = 2 then plcRef T e.path
 else if e.kind = 3 then movRef T x.id e.dest
 else if e.kind = 5 then dirRef x
 else if e.kind = 6 then quoRef T x e.num
 else if e.kind = 7 then addRef T x e.num
 else if e.kind = 8 then filRef x true
 else if e.kind = 9 then filRef x false
 else 0
def chT (T : TM) (e : EM) (k : Nat) (g : Int) : TM :=
 if e.kind = 1 then addT T e.path newDir
 else if e.kind = 2 then addT T e.path (newFile e.who)
 else if e.kind = 3 then setN T k { ndAt T k with parent := upX T e.dest, name := (parentB e.dest).2.1 }
 else if e.kind = 4 then dropT T (ndAt T k).id
 else if e.kind = 5 then setN T k { ndAt T k with schema := e.num }
 else if e.kind = 6 then setN T k { ndAt T k with quota := e.num }
 else if e.kind = 7 then setN T k { ndAt T k with pieces := (ndAt T k).pieces ++ newP g (spansX (ndAt T k).schema e.num), len := (ndAt T k).len + e.num }
 else if e.kind = 8 then setN T k { ndAt T k with writer := 0 }
 else if e.kind = 9 then setN T k { ndAt T k with writer := e.who }
 else T
def takX (T : TM) (e : EM) (k : Nat) : Int := if e.kind = 7 then ((spansX (ndAt T k).schema e.num).length : Int) else if e.kind = 10 then 20 else 0
def noT : TM := ⟨[], 0⟩
def stpX (T : TM) (e : EM) (g : Int) : TM × Int × Int :=
 if mayX T e g = false then (noT, 0, 7)
 else if findX T (mustP e) = 0 then (noT, 0, 1)
 else if refX T e (ndAt T (plc T (findX T (mustP e)))) ≠ 0 then (noT, 0, refX T e (ndAt T (plc T (findX T (mustP e)))))
 else if treeOk (chT T e (plc T (findX T (mustP e))) g) = false then (noT, 0, 8)
 else (chT T e (plc T (findX T (mustP e))) g, takX T e (plc T (findX T (mustP e))), 0)
theorem found_at {T : TM} (h : treeOk T = true) {p : ByteArray} (h0 : findX T p ≠ 0) : plc T (findX T p) < T.nodes.length ∧ (ndAt T (plc T (findX T p))).id = findX T p ∧ ndAt T (plc T (findX T p)) ∈ T.nodes := by
 obtain ⟨n, K, hw, e, _⟩ := found_way h h0
 have hp := TP.of h
 obtain ⟨k, hk, e2⟩ := hp.up.find hw.mem
 have hkl : k < T.nodes.length := (List.findIdx?_eq_some_iff_getElem.1 hk).1
 have hat : atI T.nodes n.id = (k : Int) := by unfold atI; rw [hk]
 have hpl : plc T (findX T p) = k := by unfold plc; rw [← e, hat]; rfl
 rw [hpl]
 have : ndAt T k = n := e2
 rw [this]
 exact ⟨hkl, e, hw.mem⟩
theorem find_root {T : TM} (h : treeOk T = true) : findX T ⟨#[47]⟩ = 1 := by
 unfold findX
 have e : splitB ⟨#[47]⟩ = ([], true) := by decide
 rw [e, if_pos ⟨rfl, root_at (TP.of h)⟩]
 rfl
theorem may_parts {T : TM} {e : EM} {g : Int} (h : mayX T e g = true) : treeOk T = true ∧ editOk e = true ∧ 1 ≤ g ∧ g ≤ 99000 := by
 unfold mayX at h
 simp only [Bool.and_eq_true, inI_iff] at h
 exact ⟨h.1.1, h.1.2, h.2.1, h.2.2⟩
theorem kind_in {e : EM} (h : editOk e = true) : 1 ≤ e.kind ∧ e.kind ≤ 10 := by
 unfold editOk at h
 rw [Bool.and_eq_true, inI_iff] at h
 exact h.1
theorem boot_path {e : EM} (h : editOk e = true) (h10 : e.kind = 10) : e.path = ⟨#[47]⟩ := by
 unfold editOk at h
 rw [Bool.and_eq_true, if_pos h10] at h
 simp only [Bool.and_eq_true, beq_iff_eq, Go.ByteArray.toList_eq] at h
 have := h.2.1.1.1
 exact ByteArray.ext (Array.toList_inj.1 this)
theorem more_nodes {T : TM} {p : ByteArray} {x : NM} (h : T.nodes.length = 14 ∨ T.next = 100000) : treeOk (addT T p x) = false := by
 refine Bool.eq_false_iff.2 fun hc => ?_
 obtain ⟨_, h2, h3⟩ := tree_len hc
 unfold addT at h2 h3
 simp only [List.length_append, List.length_singleton] at h2
 rcases h with q | q
 ·omega
 ·have : (T.next + 1 : Int) ≤ 100000 := h3
  omega
theorem add_is {T : TM} {p : ByteArray} {x : NM} (hu : upX T p ≠ 0) : addX T p x = if plcRef T p ≠ 0 then (T, plcRef T p) else if treeOk (addT T p x) = false then (T, 8) else (addT T p x, 0) := by
 unfold addX plcRef
 rw [if_neg hu, if_neg hu]
 by_cases h1 : (ndAt T (plc T (upX T p))).dir = false
 ·rw [if_pos h1, if_pos h1]; rfl
 ·rw [if_neg h1, if_neg h1]
  by_cases h2 : findX T p ≠ 0
  ·rw [if_pos h2, if_pos h2]; rfl
  ·rw [if_neg h2, if_neg h2]
   by_cases h3 : treeOk (addT T p x) = false
   ·simp only [h3, or_true, if_true]; rfl
   ·have h4 : ¬ (T.nodes.length = 14 ∨ T.next = 100000) := fun q => h3 (more_nodes q)
    rw [if_neg (fun q => by rcases q with q | q | q; exact h4 (.inl q); exact h4 (.inr q); exact h3 q), if_neg h3]
    rfl
theorem up_below {T : TM} (h : treeOk T = true) {p : ByteArray} {x : NM} (hx : x ∈ T.nodes) (hu : upX T p ≠ 0) : (belowX T x.id).contains (upX T p) = belowF T.nodes 15 (upX T p) x.id := by
 obtain ⟨_, e, hm⟩ := found_at h (p := (parentB p).1) hu
 have h1 := below_mem h hm hx
 have e' : (ndAt T (plc T (upX T p))).id = upX T p := e
 change (ndAt T (plc T (upX T p))).id ∈ belowX T x.id ↔ blB T (ndAt T (plc T (upX T p))) x.id = true at h1
 unfold blB at h1
 rw [e'] at h1
 rw [Bool.eq_iff_iff, List.contains_iff_mem]
 exact h1
theorem move_is {T : TM} (h : treeOk T = true) {p : ByteArray} {x : NM} (hx : x ∈ T.nodes) : moveX T p x.id = if movRef T x.id p ≠ 0 then (T, movRef T x.id p) else if treeOk (moveT T p x.id) = false then (T, 8) else (moveT T p x.id, 0) := by
 unfold moveX movRef plcRef
 by_cases h0 : upX T p = 0
 ·rw [if_pos h0, if_pos h0]; rfl
 rw [if_neg h0, if_neg h0]
 by_cases h1 : (ndAt T (plc T (upX T p))).dir = false
 ·rw [if_pos h1, if_pos h1]; rfl
 rw [if_neg h1, if_neg h1]
 by_cases h2 : findX T p ≠ 0
 ·rw [if_pos h2, if_pos h2]; rfl
 rw [if_neg h2, if_neg h2, up_below h hx h0]
 by_cases h3 : belowF T.nodes 15 (upX T p) x.id = true
 ·rw [if_pos h3, if_pos h3]; rfl
 rw [if_neg h3, if_neg h3]
 rfl
theorem nd_set {T : TM} {k : Nat} {x : NM} (hk : k < T.nodes.length) : ndAt (setN T k x) k = x := by
 unfold ndAt setN
 simp [List.getD, hk]
theorem too_many {T : TM} {k : Nat} {x : NM} (hk : k < T.nodes.length) (h : 40 < x.pieces.length) : treeOk (setN T k x) = false := by
 refine Bool.eq_false_iff.2 fun hc => ?_
 have hk2 : k < (setN T k x).nodes.length := by unfold setN; simpa using hk
 have := (node_parts hc k hk2).2.1
 rw [← nd_mem hk2, nd_set hk] at this
 omega
theorem stp_apply (T : TM) (e : EM) (g : Int) : (stpX T e g).2.2 = (applyX T e g).2 ∧ ((applyX T e g).2 = 0 → (stpX T e g).1 = (applyX T e g).1) ∧ ((applyX T e g).2 ≠ 0 → (applyX T e g).1 = T) ∧ g + (stpX T e g).2.1 = groupsX T e g := by
 by_cases hm : mayX T e g = false
 ·have h1 : applyX T e g = (T, 7) := by unfold applyX; rw [if_pos hm]
  have h2 : stpX T e g = (noT, 0, 7) := by unfold stpX; rw [if_pos hm]
  unfold groupsX
  rw [h1, h2]
  simp
 have hm' : mayX T e g = true := by simpa using hm
 obtain ⟨hT, hE, g1, g2⟩ := may_parts hm'
 obtain ⟨hk1, hk2⟩ := kind_in hE
 -- the pattern: what the model does is a code, or a tree and no code
 have key : ∀ (k : Nat) (r : Int) (C : TM) (t : Int), findX T (mustP e) ≠ 0 → plc T (findX T (mustP e)) = k → refX T e (ndAt T k) = r → chT T e k g = C → takX T e k = t →
   applyX T e g = (if r ≠ 0 then (T, r) else if treeOk C = false then (T, 8) else (C, 0)) →
   (r = 0 → treeOk C = true → groupsX T e g = g + t) →
   (stpX T e g).2.2 = (applyX T e g).2 ∧ ((applyX T e g).2 = 0 → (stpX T e g).1 = (applyX T e g).1) ∧ ((applyX T e g).2 ≠ 0 → (applyX T e g).1 = T) ∧ g + (stpX T e g).2.1 = groupsX T e g := by
  intro k r C t hf hk hr hC ht ha hg
  have hs : stpX T e g = if r ≠ 0 then (noT, 0, r) else if treeOk C = false then (noT, 0, 8) else (C, t, 0) := by
   unfold stpX
   rw [if_neg hm, if_neg hf, hk, hr, hC, ht]
  by_cases q1 : r ≠ 0
  ·have hgx : groupsX T e g = g := by unfold groupsX; rw [ha, if_pos q1, if_pos q1]
   rw [hs, ha, hgx, if_pos q1, if_pos q1]
   exact ⟨rfl, fun q => absurd q q1, fun _ => rfl, by simp⟩
  ·by_cases q2 : treeOk C = false
   ·have hgx : groupsX T e g = g := by unfold groupsX; rw [ha, if_neg q1, if_pos q2]; rfl
    rw [hs, ha, hgx, if_neg q1, if_neg q1, if_pos q2, if_pos q2]
    exact ⟨rfl, fun q => absurd (show (8 : Int) = 0 from q) (by decide), fun _ => rfl, by simp⟩
   ·have hgx := hg (by simpa using q1) (by simpa using q2)
    rw [hs, ha, hgx, if_neg q1, if_neg q1, if_neg q2, if_neg q2]
    exact ⟨rfl, fun _ => rfl, fun q => absurd rfl q, rfl⟩
 have gz : ∀ {t : Int}, t = 0 → e.kind ≠ 7 → e.kind ≠ 10 → (groupsX T e g = g + t) := fun {t} ht h7 h10 => by
  unfold groupsX
  rw [if_neg h10, if_pos h7, ht]
  split <;> simp
 have tz : ∀ k, e.kind ≠ 7 → e.kind ≠ 10 → takX T e k = 0 := fun k h7 h10 => by unfold takX; rw [if_neg h7, if_neg h10]
 by_cases k10 : e.kind = 10
 ·have hp := boot_path hE k10
  have hmp : mustP e = ⟨#[47]⟩ := by unfold mustP; rw [if_neg (by omega), hp]
  have hf : findX T (mustP e) = 1 := by rw [hmp]; exact find_root hT
  refine key _ 0 T 20 (by rw [hf]; decide) rfl (by unfold refX; simp [k10]) (by unfold chT; simp [k10]) (by unfold takX; simp [k10]) (by unfold applyX; simp [hm', k10, hT]) (fun _ _ => ?_)
  unfold groupsX applyX
  simp [hm', k10]
 by_cases k1 : e.kind = 1
 ·have hmp : mustP e = (parentB e.path).1 := by unfold mustP; rw [if_pos (.inl k1)]
  by_cases hf : upX T e.path = 0
  ·have hf' : findX T (mustP e) = 0 := by rw [hmp]; exact hf
   have h1 : applyX T e g = (T, 1) := by unfold applyX addX; simp [hm', k1, hf]
   have h2 : stpX T e g = (noT, 0, 1) := by unfold stpX; rw [if_neg hm, if_pos hf']
   unfold groupsX
   rw [h1, h2]
   simp
  ·refine key _ (plcRef T e.path) (addT T e.path newDir) 0 (by rw [hmp]; exact hf) rfl (by unfold refX; rw [if_pos k1]) (by unfold chT; rw [if_pos k1]) (tz _ (by omega) (by omega)) ?_ (fun _ _ => gz rfl (by omega) (by omega))
   have : applyX T e g = addX T e.path newDir := by unfold applyX; simp [hm', k1]
   rw [this, add_is hf]
 by_cases k2 : e.kind = 2
 ·have hmp : mustP e = (parentB e.path).1 := by unfold mustP; rw [if_pos (.inr k2)]
  by_cases hf : upX T e.path = 0
  ·have hf' : findX T (mustP e) = 0 := by rw [hmp]; exact hf
   have h1 : applyX T e g = (T, 1) := by unfold applyX addX; simp [hm', k2, hf]
   have h2 : stpX T e g = (noT, 0, 1) := by unfold stpX; rw [if_neg hm, if_pos hf']
   unfold groupsX
   rw [h1, h2]
   simp
  ·refine key _ (plcRef T e.path) (addT T e.path (newFile e.who)) 0 (by rw [hmp]; exact hf) rfl (by unfold refX; rw [if_neg k1, if_pos k2]) (by unfold chT; rw [if_neg k1, if_pos k2]) (tz _ (by omega) (by omega)) ?_ (fun _ _ => gz rfl (by omega) (by omega))
   have : applyX T e g = addX T e.path (newFile e.who) := by unfold applyX; simp [hm', k2]
   rw [this, add_is hf]
 have hmp : mustP e = e.path := by unfold mustP; rw [if_neg (by omega)]
 by_cases hf : findX T e.path = 0
 ·have hf' : findX T (mustP e) = 0 := by rw [hmp]; exact hf
  have h1 : applyX T e g = (T, 1) := by unfold applyX; simp [hm', k1, k2, k10, hf]
  have h2 : stpX T e g = (noT, 0, 1) := by unfold stpX; rw [if_neg hm, if_pos hf']
  unfold groupsX
  rw [h1, h2]
  simp
 have hf' : findX T (mustP e) ≠ 0 := by rw [hmp]; exact hf
 obtain ⟨hkl, hid, hmem⟩ := found_at hT hf
 obtain ⟨k, hk⟩ : ∃ k, k = plc T (findX T e.path) := ⟨_, rfl⟩
 have hkm : plc T (findX T (mustP e)) = k := by rw [hmp, hk]
 rw [← hk] at hkl hid hmem
 obtain ⟨n1, n2, n3, n5, n6, n7, n9⟩ := edit_numz hE k10
 have hap : applyX T e g = if e.kind = 3 then moveX T e.dest (findX T e.path) else if e.kind = 4 then (dropT T (findX T e.path), 0) else if e.kind = 5 ∨ e.kind = 6 then setX T e k else writeX T e k g := by
  unfold applyX
  rw [if_neg hm, if_neg k10, if_neg k1, if_neg k2, if_neg hf, ← hk]
 by_cases k3 : e.kind = 3
 ·refine key k (movRef T (ndAt T k).id e.dest) _ 0 hf' hkm (by unfold refX; rw [if_neg k1, if_neg k2, if_pos k3]) rfl (tz _ (by omega) (by omega)) ?_ (fun _ _ => gz rfl (by omega) (by omega))
  rw [hap, if_pos k3, ← hid, move_is hT hmem]
  have : chT T e k g = moveT T e.dest (ndAt T k).id := by
   unfold chT moveT
   rw [if_neg k1, if_neg k2, if_pos k3, hid, ← hk]
  rw [this]
 by_cases k4 : e.kind = 4
 ·have hnm : named e.path = true := by
   unfold pathBad at n3
   simp [k4] at n3
   exact n3.1.1
  have hok := dropT_ok hT hf (named_low hT hnm hf)
  refine key k 0 _ 0 hf' hkm (by unfold refX; simp [k4]) rfl (tz _ (by omega) (by omega)) ?_ (fun _ _ => gz rfl (by omega) (by omega))
  have : chT T e k g = dropT T (findX T e.path) := by unfold chT; simp [k4, hid]
  rw [hap, if_neg k3, if_pos k4, this, hok]
  simp
 by_cases k5 : e.kind = 5
 ·have hok := setX_ok (e := e) hT hkl (.inl ⟨k5, n5 k5⟩)
  refine key k (dirRef (ndAt T k)) _ 0 hf' hkm (by unfold refX; simp [k5]) rfl (tz _ (by omega) (by omega)) ?_ (fun _ _ => gz rfl (by omega) (by omega))
  have hc : chT T e k g = setN T k { ndAt T k with schema := e.num } := by unfold chT; simp [k5]
  rw [hap, if_neg k3, if_neg k4, if_pos (.inl k5), hc]
  unfold setX at hok ⊢
  unfold dirRef
  by_cases hd : (ndAt T k).dir = false
  ·rw [if_pos hd, if_pos hd]; rfl
  ·rw [if_neg hd, if_pos k5] at hok
   rw [if_neg hd, if_neg hd, if_pos k5]
   simp only [hok]
   rfl
 by_cases k6 : e.kind = 6
 ·have hok := setX_ok (e := e) hT hkl (.inr ⟨k6, n6 k6⟩)
  refine key k (quoRef T (ndAt T k) e.num) _ 0 hf' hkm (by unfold refX; simp [k6]) rfl (tz _ (by omega) (by omega)) ?_ (fun _ _ => gz rfl (by omega) (by omega))
  obtain ⟨x, hx⟩ : ∃ x, x = { ndAt T k with quota := e.num } := ⟨_, rfl⟩
  have hc : chT T e k g = setN T k x := by rw [hx]; unfold chT; simp [k6]
  rw [hap, if_neg k3, if_neg k4, if_pos (.inr k6), hc]
  unfold setX at hok ⊢
  rw [← hx] at hok ⊢
  by_cases hd : (ndAt T k).dir = false
  ·have hr : quoRef T (ndAt T k) e.num = 3 := by unfold quoRef dirRef; simp [hd]
   rw [if_pos hd, hr]; rfl
  ·have hr : quoRef T (ndAt T k) e.num = if 0 < e.num ∧ e.num < usedX T (ndAt T k).id then 5 else 0 := by unfold quoRef dirRef; simp [hd]
   rw [if_neg hd, if_neg k5] at hok
   rw [if_neg hd, if_neg k5, hr]
   by_cases hq : 0 < e.num ∧ e.num < usedX T (ndAt T k).id
   ·rw [if_pos hq, if_pos hq]; rfl
   ·rw [if_neg hq] at hok
    rw [if_neg hq, if_neg hq]
    simp only at hok
    rw [hok]
    rfl
 have hok := writeX_ok (e := e) (g := g) hT hkl (fun h9 h8 => n7 (by omega)) n9 g1 g2
 have hap2 : applyX T e g = writeX T e k g := by rw [hap, if_neg k3, if_neg k4, if_neg (by omega)]
 by_cases k9 : e.kind = 9
 ·refine key k (filRef (ndAt T k) false) _ 0 hf' hkm (by unfold refX; simp [k9]) rfl (tz _ (by omega) (by omega)) ?_ (fun _ _ => gz rfl (by omega) (by omega))
  have hc : chT T e k g = setN T k { ndAt T k with writer := e.who } := by unfold chT; simp [k9]
  rw [hap2, hc]
  unfold writeX at hok ⊢
  unfold filRef
  by_cases hd : (ndAt T k).dir = true
  ·rw [if_pos hd, if_pos hd]; rfl
  ·rw [if_neg hd] at hok
   rw [if_neg hd, if_neg hd]
   by_cases hw : (ndAt T k).writer = 0
   ·simp only [k9, hw] at hok ⊢
    simpa using hok
   ·simp [k9, hw]
 by_cases k8 : e.kind = 8
 ·refine key k (filRef (ndAt T k) true) _ 0 hf' hkm (by unfold refX; simp [k8]) rfl (tz _ (by omega) (by omega)) ?_ (fun _ _ => gz rfl (by omega) (by omega))
  have hc : chT T e k g = setN T k { ndAt T k with writer := 0 } := by unfold chT; simp [k8]
  rw [hap2, hc]
  unfold writeX at hok ⊢
  unfold filRef
  by_cases hd : (ndAt T k).dir = true
  ·rw [if_pos hd, if_pos hd]; rfl
  ·rw [if_neg hd] at hok
   rw [if_neg hd, if_neg hd]
   by_cases hw : (ndAt T k).writer = 0
   ·simp [k8, hw]
   ·simp only [k8] at hok ⊢
    simp [hw] at hok ⊢
    exact hok
 have k7 : e.kind = 7 := by omega
 obtain ⟨x, hx⟩ : ∃ x, x = { ndAt T k with pieces := (ndAt T k).pieces ++ newP g (spansX (ndAt T k).schema e.num), len := (ndAt T k).len + e.num } := ⟨_, rfl⟩
 have hc : chT T e k g = setN T k x := by rw [hx]; unfold chT; simp [k7]
 have hxl : x.pieces.length = (ndAt T k).pieces.length + (spansX (ndAt T k).schema e.num).length := by rw [hx, List.length_append, newP_len]
 have ha9 : applyX T e g = (if addRef T (ndAt T k) e.num ≠ 0 then (T, addRef T (ndAt T k) e.num) else if treeOk (setN T k x) = false then (T, 8) else (setN T k x, 0)) := by
  rw [hap2]
  unfold writeX at hok ⊢
  rw [← hx] at hok ⊢
  by_cases hd : (ndAt T k).dir = true
  ·have hr : addRef T (ndAt T k) e.num = 3 := by unfold addRef filRef; simp [hd]
   rw [if_pos hd, hr]; rfl
  ·rw [if_neg hd] at hok
   rw [if_neg hd]
   by_cases hw : (ndAt T k).writer = 0
   ·have hr : addRef T (ndAt T k) e.num = 6 := by unfold addRef filRef; simp [hd, hw]
    rw [hr]
    simp [k7, hw]
   ·have e1 : ((e.kind == 9) != ((ndAt T k).writer == 0)) = false := by simp [k7, hw]
    have hfr : filRef (ndAt T k) true = 0 := by unfold filRef; simp [hd, hw]
    have hr : addRef T (ndAt T k) e.num = if roomX T (ndAt T k).id e.num = false ∨ 1000 < (ndAt T k).len + e.num then 5 else 0 := by unfold addRef; rw [hfr, if_neg (by decide)]
    rw [e1, if_neg (by decide), if_neg k9, if_neg k8] at hok
    rw [e1, if_neg (by decide), if_neg k9, if_neg k8, hr]
    by_cases hro : roomX T (ndAt T k).id e.num = false ∨ 1000 < (ndAt T k).len + e.num
    ·rw [if_pos hro, if_pos hro]; rfl
    ·rw [if_neg hro] at hok
     rw [if_neg hro, if_neg hro]
     by_cases h40 : 40 < (ndAt T k).pieces.length + (spansX (ndAt T k).schema e.num).length
     ·rw [if_pos h40, too_many hkl (by rw [hxl]; exact h40)]
      rfl
     ·rw [if_neg h40] at hok
      simp only at hok
      rw [if_neg h40, hok]
      rfl
 refine key k (addRef T (ndAt T k) e.num) (setN T k x) _ hf' hkm (by unfold refX; simp [k7]) hc rfl ha9 (fun q1 q2 => ?_)
 have ha : applyX T e g = (setN T k x, 0) := by rw [ha9, q1, q2]; rfl
 unfold groupsX takX
 rw [ha, if_neg (by simp), if_neg k10, if_neg (by simp [k7]), if_pos k7, ← hk, nd_set hkl, hxl]
 push_cast
 omega
end Go.Proofs.YtakhagkhngmpaaaGreat
/- TInt: . -/
namespace Go.Proofs.YtakhagkhngmpaaaGreat
set_option maxRecDepth 100000
open Go.RowKit
theorem wf_small {x : Int} (h : 0 ≤ x ∧ x ≤ 1000000) : (Lit.int .i64 x).wf = true := by
 have h1 : IntKind.i64.min ≤ 0 := by decide
 have h2 : 1000000 ≤ IntKind.i64.max := by decide
 unfold Lit.wf
 simp
 omega
theorem tree_id {T : TM} (h : treeOk T = true) {n : NM} (hn : n ∈ T.nodes) : 0 ≤ n.id ∧ n.id ≤ 1000000 := by
 have hp := TP.of h
 have := hp.pos hn
 have := hp.lt n hn
 have := hp.nx
 omega
theorem tree_int {T : TM} (h : treeOk T = true) : NInt T.nodes := by
 have hp := TP.of h
 intro n hn
 refine ⟨wf_small (tree_id h hn), ?_⟩
 by_cases e : n.id = 1
 ·rw [hp.one hn e]; exact wf_small (by omega)
 ·obtain ⟨_, ⟨p, hpm, ep, _⟩, _⟩ := hp.rest n hn e
  rw [← ep]
  exact wf_small (tree_id h hpm)
theorem MB.less {w0 w : World} {p : Nat × List Value} {L : List (Nat × List Value)} (h : MB w0 w (p :: L)) : MB w0 w L := ⟨fun q hq => h.box q (List.mem_cons_of_mem _ hq), (List.pairwise_cons.1 h.dist).2, h.bel⟩
end Go.Proofs.YtakhagkhngmpaaaGreat
/- StN: . -/
namespace Go.Proofs.YtakhagkhngmpaaaGreat
set_option maxRecDepth 100000
def Smx (n : NM) : Prop := (0 ≤ n.id ∧ n.id ≤ 1000000) ∧ (0 ≤ n.parent ∧ n.parent ≤ 1000000) ∧ n.name.size + n.pieces.length ≤ 2000
theorem node_small {T : TM} (h : treeOk T = true) {n : NM} (hn : n ∈ T.nodes) : Smx n := by
 have hp := TP.of h
 obtain ⟨i, hi, e⟩ := List.getElem_of_mem hn
 have h1 := node_parts h i hi
 rw [e] at h1
 refine ⟨tree_id h hn, ?_, by omega⟩
 by_cases e1 : n.id = 1
 ·rw [hp.one hn e1]; omega
 ·obtain ⟨_, ⟨q, hq, eq, _⟩, _⟩ := hp.rest n hn e1
  rw [← eq]
  exact tree_id h hq
theorem find_small {T : TM} (h : treeOk T = true) (p : ByteArray) : 0 ≤ findX T p ∧ findX T p ≤ 1000000 := by
 by_cases h0 : findX T p = 0
 ·rw [h0]; omega
 ·obtain ⟨_, h2, h3⟩ := found_at h h0
  rw [← h2]
  exact tree_id h h3
theorem spanL_len (S n : Nat) (h : 1 ≤ n) : (spanL S n).length ≤ n := by
 unfold spanL
 rw [List.length_append, List.length_replicate, List.length_singleton]
 have := Nat.div_le_self (n - 1) S
 omega
theorem spans_len (s n : Int) (h : n ≤ 1000) : (spansX s n).length ≤ 1000 := by
 unfold spansX
 split
 ·rename_i q
  have := spanL_len (groupN s) n.toNat (by omega)
  omega
 ·simp
theorem set_small {T : TM} {k : Nat} {x : NM} (h : ∀ n ∈ T.nodes, Smx n) (hx : Smx x) : ∀ n ∈ (setN T k x).nodes, Smx n := by
 intro n hn
 rcases List.mem_or_eq_of_mem_set hn with q | q
 ·exact h n q
 ·rw [q]; exact hx
theorem add_small {T : TM} {p : ByteArray} {x : NM} (ht : treeOk T = true) (hx : x.pieces = []) : ∀ n ∈ (addT T p x).nodes, Smx n := by
 intro n hn
 unfold addT at hn
 rcases List.mem_append.1 hn with q | q
 ·exact node_small ht q
 ·rw [List.mem_singleton.1 q]
  have h1 := next_low ht
  have h2 := (tree_len ht).2.2
  have h3 := parent_small p
  refine ⟨⟨by show (0 : Int) ≤ T.next; omega, by show T.next ≤ 1000000; omega⟩, find_small ht (parentB p).1, ?_⟩
  show (parentB p).2.1.size + x.pieces.length ≤ 2000
  rw [hx]
  simp
  omega
theorem ch_small {T : TM} {e : EM} {k : Nat} {g : Int} (h : treeOk T = true) (hE : editOk e = true) (hk : k < T.nodes.length) : (∀ n ∈ (chT T e k g).nodes, Smx n) ∧ (chT T e k g).nodes.length ≤ 15 := by
 have ha : ∀ n ∈ T.nodes, Smx n := fun n hn => node_small h hn
 have hl := (tree_len h).2.1
 have hx := ha _ (List.getElem_mem hk)
 rw [← nd_mem hk] at hx
 have hp := node_parts h k hk
 rw [← nd_mem hk] at hp
 have hset : ∀ x, Smx x → (∀ n ∈ (setN T k x).nodes, Smx n) ∧ (setN T k x).nodes.length ≤ 15 := fun x q => ⟨set_small ha q, by unfold setN; rw [List.length_set]; omega⟩
 unfold chT
 split
 ·exact ⟨add_small h rfl, by unfold addT; simp; omega⟩
 split
 ·exact ⟨add_small h rfl, by unfold addT; simp; omega⟩
 split
 ·exact hset _ ⟨hx.1, find_small h (parentB e.dest).1, by have h3 := parent_small e.dest; show (parentB e.dest).2.1.size + (ndAt T k).pieces.length ≤ 2000; omega⟩
 split
 ·refine ⟨fun n hn => ha n (List.mem_filter.1 hn).1, ?_⟩
  have : (dropT T (ndAt T k).id).nodes.length ≤ T.nodes.length := List.length_filter_le _ _
  omega
 split
 ·exact hset _ hx
 split
 ·exact hset _ hx
 split
 ·rename_i k7
  have hn7 := (edit_numz hE (by omega)).2.2.2.2.2.1 k7
  refine hset _ ⟨hx.1, hx.2.1, ?_⟩
  have h3 := spans_len (ndAt T k).schema e.num (by omega)
  show (ndAt T k).name.size + ((ndAt T k).pieces ++ newP g (spansX (ndAt T k).schema e.num)).length ≤ 2000
  rw [List.length_append, newP_len]
  omega
 split
 ·exact hset _ hx
 split
 ·exact hset _ hx
 ·exact ⟨ha, by omega⟩
theorem small_fit {T : TM} (h : ∀ n ∈ T.nodes, Smx n) (hl : T.nodes.length ≤ 15) : NFit T ∧ NInt T.nodes := by
 refine ⟨?_, fun n hn => ⟨wf_small (h n hn).1, wf_small (h n hn).2.1⟩⟩
 have := nsum_le T.nodes 2000 (fun n hn => (h n hn).2.2)
 unfold NFit
 have h2 : 2000 * T.nodes.length ≤ 2000 * 15 := Nat.mul_le_mul_left _ hl
 omega
theorem span_ne {s n : Int} (hs : 1 ≤ s ∧ s ≤ 3) (h1 : 1 ≤ n) (h2 : n ≤ 1000) : spansX s n ≠ [] := by
 unfold spansX
 rw [if_pos ⟨by unfold schOk; simp; omega, h1, h2⟩]
 unfold spanL
 simp
inductive Took (T : TM) (e : EM) (g : Int) : TM → Prop
 | boot : e.kind = 10 → Took T e g T
 | add (x : NM) : (e.kind = 1 ∨ e.kind = 2) → x.pieces = [] → x.len = 0 → upX T e.path ≠ 0 → findX T e.path = 0 → Took T e g (addT T e.path x)
 | move : e.kind = 3 → findX T e.path ≠ 0 → findX T e.path ≠ 1 → upX T e.dest ≠ 0 → findX T e.dest = 0 → belowF T.nodes 15 (upX T e.dest) (findX T e.path) = false → Took T e g (moveT T e.dest (findX T e.path))
 | drop : e.kind = 4 → findX T e.path ≠ 0 → findX T e.path ≠ 1 → Took T e g (dropT T (findX T e.path))
 | set (x : NM) : (e.kind = 5 ∨ e.kind = 6 ∨ e.kind = 8 ∨ e.kind = 9) → findX T e.path ≠ 0 → x.id = (ndAt T (plc T (findX T e.path))).id → x.parent = (ndAt T (plc T (findX T e.path))).parent → x.name = (ndAt T (plc T (findX T e.path))).name → x.pieces = (ndAt T (plc T (findX T e.path))).pieces → x.len = (ndAt T (plc T (findX T e.path))).len → Took T e g (setN T (plc T (findX T e.path)) x)
 | more : e.kind = 7 → findX T e.path ≠ 0 → (ndAt T (plc T (findX T e.path))).dir = false → roomX T (ndAt T (plc T (findX T e.path))).id e.num = true → 1 ≤ e.num ∧ e.num ≤ 200 → (spansX (ndAt T (plc T (findX T e.path))).schema e.num).length ≤ 40 →
   Took T e g (setN T (plc T (findX T e.path)) { ndAt T (plc T (findX T e.path)) with pieces := (ndAt T (plc T (findX T e.path))).pieces ++ newP g (spansX (ndAt T (plc T (findX T e.path))).schema e.num), len := (ndAt T (plc T (findX T e.path))).len + e.num })
theorem took {T : TM} {e : EM} {g : Int} (h : (applyX T e g).2 = 0) : treeOk T = true ∧ editOk e = true ∧ Took T e g (applyX T e g).1 := by
 unfold applyX at h ⊢
 by_cases hm : mayX T e g = false
 ·rw [if_pos hm] at h; exact absurd h (by simp)
 rw [if_neg hm] at h ⊢
 obtain ⟨ht, he, g1, g2⟩ := may_parts (by simpa using hm)
 refine ⟨ht, he, ?_⟩
 by_cases h10 : e.kind = 10
 ·rw [if_pos h10]; exact .boot h10
 rw [if_neg h10] at h ⊢
 obtain ⟨k1, k2, hpb, n5, n6, n7, n9⟩ := edit_numz he h10
 have hadd : ∀ x : NM, (e.kind = 1 ∨ e.kind = 2) → x.pieces = [] → x.len = 0 → (addX T e.path x).2 = 0 → Took T e g (addX T e.path x).1 := by
  intro x hk hx1 hx2 h
  unfold addX at h ⊢
  by_cases c1 : upX T e.path = 0
  ·rw [if_pos c1] at h; exact absurd h (by simp)
  rw [if_neg c1] at h ⊢
  by_cases c2 : (ndAt T (plc T (upX T e.path))).dir = false
  ·rw [if_pos c2] at h; exact absurd h (by simp)
  rw [if_neg c2] at h ⊢
  by_cases c3 : findX T e.path ≠ 0
  ·rw [if_pos c3] at h; exact absurd h (by simp)
  rw [if_neg c3] at h ⊢
  by_cases c4 : T.nodes.length = 14 ∨ T.next = 100000 ∨ treeOk (addT T e.path x) = false
  ·rw [if_pos c4] at h; exact absurd h (by simp)
  rw [if_neg c4]
  exact .add x hk hx1 hx2 c1 (by simpa using c3)
 by_cases h1 : e.kind = 1
 ·rw [if_pos h1] at h ⊢; exact hadd _ (.inl h1) rfl rfl h
 rw [if_neg h1] at h ⊢
 by_cases h2 : e.kind = 2
 ·rw [if_pos h2] at h ⊢; exact hadd _ (.inr h2) rfl rfl h
 rw [if_neg h2] at h ⊢
 by_cases hf : findX T e.path = 0
 ·rw [if_pos hf] at h; exact absurd h (by simp)
 rw [if_neg hf] at h ⊢
 have hnm : (e.kind = 3 ∨ e.kind = 4) → findX T e.path ≠ 1 := fun q => by
  refine named_low ht ?_ hf
  unfold pathBad at hpb
  cases hn : named e.path with
  | true => rfl
  | false => exact absurd hpb (by rcases q with q | q <;> simp [q, hn])
 by_cases h3 : e.kind = 3
 ·rw [if_pos h3] at h ⊢
  unfold moveX at h ⊢
  by_cases c1 : upX T e.dest = 0
  ·rw [if_pos c1] at h; exact absurd h (by simp)
  rw [if_neg c1] at h ⊢
  by_cases c2 : (ndAt T (plc T (upX T e.dest))).dir = false
  ·rw [if_pos c2] at h; exact absurd h (by simp)
  rw [if_neg c2] at h ⊢
  by_cases c3 : findX T e.dest ≠ 0
  ·rw [if_pos c3] at h; exact absurd h (by simp)
  rw [if_neg c3] at h ⊢
  by_cases c4 : belowF T.nodes 15 (upX T e.dest) (findX T e.path) = true
  ·rw [if_pos c4] at h; exact absurd h (by simp)
  rw [if_neg c4] at h ⊢
  by_cases c5 : treeOk (moveT T e.dest (findX T e.path)) = false
  ·rw [if_pos c5] at h; exact absurd h (by simp)
  rw [if_neg c5]
  exact .move h3 hf (hnm (.inl h3)) c1 (by simpa using c3) (by simpa using c4)
 rw [if_neg h3] at h ⊢
 by_cases h4 : e.kind = 4
 ·rw [if_pos h4]; exact .drop h4 hf (hnm (.inr h4))
 rw [if_neg h4] at h ⊢
 by_cases h56 : e.kind = 5 ∨ e.kind = 6
 ·rw [if_pos h56] at h ⊢
  unfold setX at h ⊢
  by_cases c1 : (ndAt T (plc T (findX T e.path))).dir = false
  ·rw [if_pos c1] at h; exact absurd h (by simp)
  rw [if_neg c1] at h ⊢
  by_cases c2 : e.kind = 5
  ·rw [if_pos c2]; exact .set _ (.inl c2) hf rfl rfl rfl rfl rfl
  rw [if_neg c2] at h ⊢
  by_cases c3 : 0 < e.num ∧ e.num < usedX T (ndAt T (plc T (findX T e.path))).id
  ·rw [if_pos c3] at h; exact absurd h (by simp)
  rw [if_neg c3]
  exact .set _ (.inr (.inl (h56.resolve_left c2))) hf rfl rfl rfl rfl rfl
 rw [if_neg h56] at h ⊢
 unfold writeX at h ⊢
 by_cases c1 : (ndAt T (plc T (findX T e.path))).dir = true
 ·rw [if_pos c1] at h; exact absurd h (by simp)
 rw [if_neg c1] at h ⊢
 by_cases c2 : ((e.kind == 9) != ((ndAt T (plc T (findX T e.path))).writer == 0)) = true
 ·rw [if_pos c2] at h; exact absurd h (by simp)
 rw [if_neg c2] at h ⊢
 by_cases c3 : e.kind = 9
 ·rw [if_pos c3]; exact .set _ (.inr (.inr (.inr c3))) hf rfl rfl rfl rfl rfl
 rw [if_neg c3] at h ⊢
 by_cases c4 : e.kind = 8
 ·rw [if_pos c4]; exact .set _ (.inr (.inr (.inl c4))) hf rfl rfl rfl rfl rfl
 rw [if_neg c4] at h ⊢
 by_cases c5 : roomX T (ndAt T (plc T (findX T e.path))).id e.num = false ∨ 1000 < (ndAt T (plc T (findX T e.path))).len + e.num
 ·rw [if_pos c5] at h; exact absurd h (by simp)
 rw [if_neg c5] at h ⊢
 by_cases c6 : 40 < (ndAt T (plc T (findX T e.path))).pieces.length + (spansX (ndAt T (plc T (findX T e.path))).schema e.num).length
 ·rw [if_pos c6] at h; exact absurd h (by simp)
 rw [if_neg c6]
 have h7 : e.kind = 7 := by omega
 refine .more h7 hf (by simpa using c1) ?_ (n7 h7) (by omega)
 rcases Bool.eq_false_or_eq_true (roomX T (ndAt T (plc T (findX T e.path))).id e.num) with q | q
 ·exact q
 ·exact absurd (.inl q) c5
theorem not_took {T : TM} {e : EM} {g : Int} (h : (applyX T e g).2 ≠ 0) : (applyX T e g).1 = T ∧ groupsX T e g = g :=
 ⟨(stp_apply T e g).2.2.1 h, by unfold groupsX; rw [if_pos h]⟩
theorem took_groups {T : TM} {e : EM} {g : Int} (h : (applyX T e g).2 = 0) : groupsX T e g = if e.kind = 10 then g + 20 else if e.kind = 7 then g + ((spansX (ndAt T (plc T (findX T e.path))).schema e.num).length : Int) else g := by
 obtain ⟨ht, he, hT⟩ := took h
 unfold groupsX
 rw [if_neg (by simpa using h)]
 by_cases h10 : e.kind = 10
 ·rw [if_pos h10, if_pos h10]
 rw [if_neg h10, if_neg h10]
 by_cases h7 : e.kind = 7
 ·rw [if_neg (by simpa using h7), if_pos h7]
  generalize (applyX T e g).1 = R at hT ⊢
  cases hT with
  | boot q => omega
  | add x q => omega
  | move q => omega
  | drop q => omega
  | set x q => omega
  | more q hf _ _ _ _ =>
   rw [nd_set (found_at ht hf).1]
   simp only [List.length_append, newP_len]
   push_cast
   omega
 ·rw [if_pos (by simpa using h7), if_neg h7]
theorem groups_more {T : TM} {e : EM} {g : Int} : g ≤ groupsX T e g ∧ groupsX T e g ≤ g + 40 := by
 by_cases h : (applyX T e g).2 = 0
 ·rw [took_groups h]
  obtain ⟨ht, he, hT⟩ := took h
  by_cases h10 : e.kind = 10
  ·rw [if_pos h10]; omega
  rw [if_neg h10]
  by_cases h7 : e.kind = 7
  ·rw [if_pos h7]
   generalize (applyX T e g).1 = R at hT
   cases hT with
   | boot q => omega
   | add x q => omega
   | move q => omega
   | drop q => omega
   | set x q => omega
   | more q hf _ _ _ hl => omega
  ·rw [if_neg h7]; omega
 ·rw [(not_took h).2]; omega
def insG (l : List Int) (x : Int) : List Int := l.filter (fun y => decide (y < x)) ++ [x] ++ l.filter (fun y => decide (x < y))
def grpP (acc : List Int) (ps : List PM) : List Int := ps.foldl (fun a p => insG a p.group) acc
def grpL (T : TM) (acc : List Int) (ids : List Int) : List Int := ids.foldl (fun a i => grpP a (ndAt T (plc T i)).pieces) acc
def grpX (T : TM) (id : Int) : List Int := grpL T [] (belowX T id)
abbrev Up (l : List Int) : Prop := l.Pairwise (fun a b => a < b)
theorem insG_mem {l : List Int} {x y : Int} : y ∈ insG l x ↔ y ∈ l ∨ y = x := by
 unfold insG
 simp only [List.mem_append, List.mem_filter, List.mem_singleton, decide_eq_true_eq]
 constructor
 ·rintro ((⟨h, _⟩ | h) | ⟨h, _⟩)
  ·exact .inl h
  ·exact .inr h
  ·exact .inl h
 ·rintro (h | h)
  ·rcases Int.lt_trichotomy y x with q | q | q
   ·exact .inl (.inl ⟨h, q⟩)
   ·exact .inl (.inr q)
   ·exact .inr ⟨h, q⟩
  ·exact .inl (.inr h)
theorem insG_up {l : List Int} (h : Up l) (x : Int) : Up (insG l x) := by
 unfold insG
 refine List.pairwise_append.2 ⟨List.pairwise_append.2 ⟨h.filter _, List.pairwise_singleton _ _, ?_⟩, h.filter _, ?_⟩
 ·intro a ha b hb
  rw [List.mem_singleton.1 hb]
  simpa using (List.mem_filter.1 ha).2
 ·intro a ha b hb
  have h2 : x < b := by simpa using (List.mem_filter.1 hb).2
  rcases List.mem_append.1 ha with q | q
  ·have h1 : a < x := by simpa using (List.mem_filter.1 q).2
   omega
  ·rw [List.mem_singleton.1 q]; exact h2
theorem insG_len (l : List Int) (x : Int) : (insG l x).length ≤ l.length + 1 := by
 unfold insG
 rw [List.length_append, List.length_append, List.length_singleton]
 have : ∀ l : List Int, (l.filter (fun y => decide (y < x))).length + (l.filter (fun y => decide (x < y))).length ≤ l.length := by
  intro l
  induction l with
  | nil => simp
  | cons a l ih =>
   simp only [List.filter_cons, List.length_cons]
   by_cases h1 : a < x
   ·have h2 : ¬ x < a := by omega
    simp [h1, h2]; omega
   ·by_cases h2 : x < a
    ·simp [h1, h2]; omega
    ·simp [h1, h2]; omega
 have := this l
 omega
theorem grpP_facts (ps : List PM) : ∀ acc, Up acc → Up (grpP acc ps) ∧ (∀ y, y ∈ grpP acc ps ↔ y ∈ acc ∨ ∃ p ∈ ps, p.group = y) ∧ (grpP acc ps).length ≤ acc.length + ps.length := by
 induction ps with
 | nil => intro acc h; exact ⟨h, fun y => by simp [grpP], by simp [grpP]⟩
 | cons p ps ih =>
  intro acc h
  obtain ⟨h1, h2, h3⟩ := ih (insG acc p.group) (insG_up h _)
  have e : grpP acc (p :: ps) = grpP (insG acc p.group) ps := rfl
  rw [e]
  refine ⟨h1, fun y => ?_, ?_⟩
  ·rw [h2, insG_mem]
   constructor
   ·rintro ((q | q) | ⟨s, hs, q⟩)
    ·exact .inl q
    ·exact .inr ⟨p, by simp, q.symm⟩
    ·exact .inr ⟨s, by simp [hs], q⟩
   ·rintro (q | ⟨s, hs, q⟩)
    ·exact .inl (.inl q)
    ·rcases List.mem_cons.1 hs with rfl | hs
     ·exact .inl (.inr q.symm)
     ·exact .inr ⟨s, hs, q⟩
  ·have := insG_len acc p.group
   rw [List.length_cons]
   omega
theorem grpL_facts {T : TM} (ids : List Int) : ∀ acc, Up acc → Up (grpL T acc ids) ∧ (∀ y, y ∈ grpL T acc ids ↔ y ∈ acc ∨ ∃ i ∈ ids, ∃ p ∈ (ndAt T (plc T i)).pieces, p.group = y) := by
 induction ids with
 | nil => intro acc h; exact ⟨h, fun y => by simp [grpL]⟩
 | cons i ids ih =>
  intro acc h
  obtain ⟨g1, g2, _⟩ := grpP_facts (ndAt T (plc T i)).pieces acc h
  obtain ⟨h1, h2⟩ := ih (grpP acc (ndAt T (plc T i)).pieces) g1
  have e : grpL T acc (i :: ids) = grpL T (grpP acc (ndAt T (plc T i)).pieces) ids := rfl
  rw [e]
  refine ⟨h1, fun y => ?_⟩
  rw [h2, g2]
  constructor
  ·rintro ((q | ⟨p, hp, q⟩) | ⟨j, hj, p, hp, q⟩)
   ·exact .inl q
   ·exact .inr ⟨i, by simp, p, hp, q⟩
   ·exact .inr ⟨j, by simp [hj], p, hp, q⟩
  ·rintro (q | ⟨j, hj, p, hp, q⟩)
   ·exact .inl (.inl q)
   ·rcases List.mem_cons.1 hj with rfl | hj
    ·exact .inl (.inr ⟨p, hp, q⟩)
    ·exact .inr ⟨j, hj, p, hp, q⟩
theorem up_ext : ∀ {a b : List Int}, Up a → Up b → (∀ y, y ∈ a ↔ y ∈ b) → a = b
 | [], [], _, _, _ => rfl
 | [], y :: b, _, _, h => absurd ((h y).2 (by simp)) (by simp)
 | x :: a, [], _, _, h => absurd ((h x).1 (by simp)) (by simp)
 | x :: a, y :: b, ha, hb, h => by
  obtain ⟨a1, a2⟩ := List.pairwise_cons.1 ha
  obtain ⟨b1, b2⟩ := List.pairwise_cons.1 hb
  have e : x = y := by
   rcases List.mem_cons.1 ((h x).1 (by simp)) with q | q
   ·exact q
   ·rcases List.mem_cons.1 ((h y).2 (by simp)) with r | r
    ·exact r.symm
    ·have := b1 x q; have := a1 y r; omega
  subst e
  have : a = b := up_ext a2 b2 fun z => by
   have hz := h z
   constructor
   ·intro q
    rcases List.mem_cons.1 (hz.1 (by simp [q])) with r | r
    ·have := a1 z q; omega
    ·exact r
   ·intro q
    rcases List.mem_cons.1 (hz.2 (by simp [q])) with r | r
    ·have := b1 z q; omega
    ·exact r
  rw [this]
theorem compactUp {zs : List Int} (h : zs.Pairwise (fun a b => a ≤ b)) : ∀ m, m ≤ zs.length → Up (Lib.compactUpTo zs.toArray m) ∧ (∀ y, y ∈ Lib.compactUpTo zs.toArray m ↔ y ∈ zs.take m) := by
 have hget : ∀ j (hj : j < zs.length), (zs.toArray)[j]! = zs[j] := fun j hj => by simp [hj]
 intro m
 induction m with
 | zero => intro _; simp [Lib.compactUpTo]
 | succ m ih =>
  intro hm
  obtain ⟨h1, h2⟩ := ih (by omega)
  have hml : m < zs.length := by omega
  rw [Lib.compactUpTo_succ, List.take_succ_eq_append_getElem hml, hget m hml]
  by_cases hk : Lib.keeps zs.toArray m = true
  ·rw [if_pos hk]
   refine ⟨List.pairwise_append.2 ⟨h1, List.pairwise_singleton _ _, ?_⟩, fun y => ?_⟩
   ·intro a ha b hb
    rw [List.mem_singleton.1 hb]
    obtain ⟨i, hi, rfl⟩ := List.getElem_of_mem ((h2 a).1 ha)
    rw [List.getElem_take]
    have him : i < m := by simp at hi; omega
    have hle := List.pairwise_iff_getElem.1 h i m (by omega) hml him
    unfold Lib.keeps at hk
    have hne := (of_decide_eq_true hk).resolve_left (by omega)
    rw [hget m hml, hget (m - 1) (by omega)] at hne
    have hle2 : zs[i] ≤ zs[m - 1] := by
     rcases Nat.eq_or_lt_of_le (show i ≤ m - 1 by omega) with e | e
     ·subst e; exact Int.le_refl _
     ·exact List.pairwise_iff_getElem.1 h i (m - 1) (by omega) (by omega) e
    have hle3 := List.pairwise_iff_getElem.1 h (m - 1) m (by omega) hml (by omega)
    omega
   ·rw [List.mem_append, List.mem_append, h2]
  ·rw [if_neg hk, List.append_nil]
   refine ⟨h1, fun y => ?_⟩
   rw [h2, List.mem_append]
   refine ⟨.inl, fun q => q.elim id fun q => ?_⟩
   rw [List.mem_singleton.1 q]
   unfold Lib.keeps at hk
   have hno := fun e => hk (decide_eq_true (.inr e))
   have h0 : m ≠ 0 := fun e => hk (decide_eq_true (.inl e))
   rw [hget m hml, hget (m - 1) (by omega)] at hno
   have e := Classical.not_not.1 hno
   rw [e]
   exact List.mem_take_iff_getElem.2 ⟨m - 1, by omega, rfl⟩
def allG (ns : List NM) (X : List Int) : List Int := (ns.filter fun n => X.contains n.id).flatMap fun n => n.pieces.map PM.group
theorem sorted_le (l : List Int) : (l.mergeSort fun x y => decide (x ≤ y)).Pairwise (fun a b => a ≤ b) := by
 have := List.pairwise_mergeSort (le := fun x y : Int => decide (x ≤ y)) (fun a b c h1 h2 => by simp at *; omega) (fun a b => by simp; omega) l
 exact this.imp (fun h => by simpa using h)
theorem grp_prog {T : TM} (hu : ∀ n ∈ T.nodes, ndAt T (plc T n.id) = n) (id : Int) : Lib.compact ((allG T.nodes (belowX T id)).mergeSort fun x y => decide (x ≤ y)) = grpX T id := by
 obtain ⟨g1, g2⟩ := grpL_facts (T := T) (belowX T id) [] List.Pairwise.nil
 obtain ⟨c1, c2⟩ := compactUp (sorted_le (allG T.nodes (belowX T id))) _ (Nat.le_refl _)
 refine up_ext c1 g1 fun y => ?_
 refine (c2 y).trans ?_
 rw [List.take_length, List.mem_mergeSort]
 show y ∈ allG T.nodes (belowX T id) ↔ y ∈ grpL T [] (belowX T id)
 rw [g2]
 unfold allG
 constructor
 ·intro q
  obtain ⟨n, hn, hy⟩ := List.mem_flatMap.1 q
  obtain ⟨n1, n2⟩ := List.mem_filter.1 hn
  obtain ⟨p, hp, e⟩ := List.mem_map.1 hy
  refine .inr ⟨n.id, by simpa using n2, p, by rw [hu n n1]; exact hp, e⟩
 ·rintro (q | ⟨i, hi, p, hp, e⟩)
  ·simp at q
  ·obtain ⟨_, n, hn, rfl⟩ := belowX_mem hi
   rw [hu n hn] at hp
   exact List.mem_flatMap.2 ⟨n, List.mem_filter.2 ⟨hn, by simpa using hi⟩, List.mem_map.2 ⟨p, hp, e⟩⟩
def allP (ns : List NM) : List Int := ns.flatMap fun n => n.pieces.map PM.group
theorem allP_cons (n : NM) (ns : List NM) : allP (n :: ns) = n.pieces.map PM.group ++ allP ns := by simp [allP]
theorem allP_same : ∀ (ns : List NM) (k : Nat) (x : NM), x.pieces = (ns.getD k default).pieces → allP (ns.set k x) = allP ns
 | [], k, x, h => by simp
 | n :: ns, 0, x, h => by
  simp only [List.getD_cons_zero] at h
  simp only [List.set_cons_zero, allP_cons, h]
 | n :: ns, k + 1, x, h => by
  simp only [List.getD_cons_succ] at h
  simp only [List.set_cons_succ, allP_cons, allP_same ns k x h]
theorem allP_more : ∀ (ns : List NM) (k : Nat) (x : NM) (N : List PM), k < ns.length → x.pieces = (ns.getD k default).pieces ++ N → (allP (ns.set k x)).Perm (allP ns ++ N.map PM.group)
 | [], k, x, N, hk, h => by simp at hk
 | n :: ns, 0, x, N, hk, h => by
  simp only [List.getD_cons_zero] at h
  simp only [List.set_cons_zero, allP_cons, h, List.map_append]
  rw [List.append_assoc, List.append_assoc]
  exact List.Perm.append_left _ List.perm_append_comm
 | n :: ns, k + 1, x, N, hk, h => by
  simp only [List.getD_cons_succ] at h
  simp only [List.set_cons_succ, allP_cons]
  rw [List.append_assoc]
  exact List.Perm.append_left _ (allP_more ns k x N (by simpa using hk) h)
theorem allP_filter (P : NM → Bool) : ∀ ns : List NM, (allP (ns.filter P)).Sublist (allP ns)
 | [] => List.Sublist.refl _
 | n :: ns => by
  rw [List.filter_cons]
  split
  ·rw [allP_cons, allP_cons]; exact (List.Sublist.refl _).append (allP_filter P ns)
  ·rw [allP_cons]; exact (allP_filter P ns).trans (List.sublist_append_right _ _)
theorem newP_groups (g : Int) (ls : List Int) : Up ((newP g ls).map PM.group) ∧ ∀ y ∈ (newP g ls).map PM.group, g ≤ y ∧ y < g + ls.length := by
 induction ls generalizing g with
 | nil => simp [newP]
 | cons l ls ih =>
  obtain ⟨h1, h2⟩ := ih (g + 1)
  refine ⟨?_, ?_⟩
  ·simp only [newP, List.map_cons]
   refine List.pairwise_cons.2 ⟨fun y q => ?_, h1⟩
   have := (h2 _ q).1; omega
  ·intro y hy
   simp only [newP, List.map_cons, List.mem_cons] at hy
   simp only [List.length_cons]
   push_cast
   rcases hy with rfl | hy
   ·omega
   ·have := h2 y hy; omega
theorem Up.nodup {l : List Int} (h : Up l) : l.Nodup := h.imp fun q => by omega
structure GI (s : TM × Int) : Prop where
 one : (allP s.1.nodes).Nodup
 lt : ∀ y ∈ allP s.1.nodes, y < s.2
theorem GI.step {s : TM × Int} (h : GI s) (e : EM) : GI (stepX s e) := by
 unfold stepX
 by_cases h0 : (applyX s.1 e s.2).2 = 0
 case neg => rw [if_neg h0]; exact h
 rw [if_pos h0]
 obtain ⟨ht, he, hT⟩ := took h0
 have hg := took_groups h0
 have hm := @groups_more s.1 e s.2
 generalize groupsX s.1 e s.2 = g' at hg hm ⊢
 generalize (applyX s.1 e s.2).1 = R at hT ⊢
 have keep : ∀ R : TM, (allP R.nodes).Sublist (allP s.1.nodes) → GI (R, g') := fun R q => ⟨h.one.sublist q, fun y hy => by have := h.lt y (q.subset hy); show y < g'; omega⟩
 cases hT with
 | boot q => exact keep _ (List.Sublist.refl _)
 | add x q hx _ _ _ =>
  refine keep _ ?_
  unfold addT allP
  simp [hx]
 | move q hf _ _ _ _ =>
  refine keep _ ?_
  rw [show allP (moveT s.1 e.dest (findX s.1 e.path)).nodes = allP s.1.nodes from allP_same _ _ _ rfl]
  exact List.Sublist.refl _
 | drop q hf _ =>
  refine keep _ ?_
  exact allP_filter _ _
 | set x q hf _ _ _ hx _ =>
  refine keep _ ?_
  unfold setN
  rw [allP_same _ _ _ hx]
  exact List.Sublist.refl _
 | more q hf hd hr hn hl =>
  rw [if_neg (by omega), if_pos q] at hg
  have hp := allP_more s.1.nodes (plc s.1 (findX s.1 e.path)) { ndAt s.1 (plc s.1 (findX s.1 e.path)) with pieces := (ndAt s.1 (plc s.1 (findX s.1 e.path))).pieces ++ newP s.2 (spansX (ndAt s.1 (plc s.1 (findX s.1 e.path))).schema e.num), len := (ndAt s.1 (plc s.1 (findX s.1 e.path))).len + e.num } _ (found_at ht hf).1 rfl
  obtain ⟨u1, u2⟩ := newP_groups s.2 (spansX (ndAt s.1 (plc s.1 (findX s.1 e.path))).schema e.num)
  refine ⟨?_, fun y hy => ?_⟩
  ·show (allP (s.1.nodes.set _ _)).Nodup
   rw [hp.nodup_iff, List.nodup_append]
   refine ⟨h.one, u1.nodup, fun a ha b hb e => ?_⟩
   have := h.lt a ha
   have := (u2 b hb).1
   omega
  ·have hy : y ∈ allP (s.1.nodes.set _ _) := hy
   rw [hp.mem_iff, List.mem_append] at hy
   show y < g'
   rcases hy with hy | hy
   ·have := h.lt y hy; omega
   ·have := (u2 y hy).2; omega
theorem GI.all (es : List EM) : ∀ {s : TM × Int}, GI s → GI (es.foldl stepX s) := by
 induction es with
 | nil => intro s h; exact h
 | cons e es ih => intro s h; exact ih (h.step e)
theorem GI.new : GI (newX, 1) := ⟨by decide, by decide⟩
theorem Way.mono {ns ms : List NM} (hs : ∀ n ∈ ns, n ∈ ms) {n : NM} {L : List NM} (h : Way ns n L) : Way ms n L := by
 induction h with
 | root h1 h2 h3 => exact .root (hs _ h1) h2 h3
 | step h1 h2 h3 h4 _ ih => exact .step (hs _ h1) h2 (hs _ h3) h4 ih
theorem Way.last {ns : List NM} {n : NM} {L : List NM} (h : Way ns n L) : n.id = 1 ∨ n ∈ L := by
 cases h with
 | root _ h => exact .inl h
 | step => exact .inr (by simp)
theorem Way.keep {ns ms : List NM} {id : Int} (h1 : id ≠ 1) (hs : ∀ m ∈ ns, m.id ≠ id → m ∈ ms) {n : NM} {L : List NM} (h : Way ns n L) : (∀ m ∈ L, m.id ≠ id) → Way ms n L := by
 have key : (∀ m ∈ L, m.id ≠ id) → Way ms n L := by
  induction h with
  | root q1 q2 q3 => intro _; exact .root (hs _ q1 (by omega)) q2 q3
  | @step n p L q1 q2 q3 q4 q5 ih =>
   intro hL
   have hL' : ∀ m ∈ L, m.id ≠ id := fun m hm => hL m (List.mem_append.2 (.inl hm))
   refine .step (hs _ q1 (hL n (by simp))) q2 (hs _ q3 ?_) q4 (ih hL')
   rcases q5.last with q | q
   ·omega
   ·exact hL' p q
 exact key
theorem up_way {T : TM} (h : treeOk T = true) {p : ByteArray} (hu : upX T p ≠ 0) : ∃ u K, Way T.nodes u K ∧ u.id = upX T p ∧ K.length ≤ 3 ∧ splitB p = (K.map NM.name ++ [(parentB p).2.1], true) := by
 have hs : (splitB p).2 = true ∧ (splitB p).1 ≠ [] := by
  by_cases q : (splitB p).2 = true ∧ (splitB p).1 ≠ []
  ·exact q
  ·exfalso
   apply hu
   unfold upX parentB
   rw [if_neg q]
   unfold findX
   rw [if_neg (fun c => by have := c.1; revert this; decide)]
 obtain ⟨u, K, hw, e1, e2, e3, e4⟩ := found_way h hu
 obtain ⟨nn, n4⟩ := splitB_names p
 have hp : parentB p = (joinB (splitB p).1.dropLast, (splitB p).1.getLastD ⟨#[]⟩, true) := by unfold parentB; rw [if_pos hs]
 have hI : splitB (joinB (splitB p).1.dropLast) = ((splitB p).1.dropLast, true) := splitB_join (fun s q => nn s (List.dropLast_subset _ q)) (by rw [List.length_dropLast]; omega)
 rw [hp] at e4
 dsimp only at e4
 rw [hI] at e4
 have e5 : (splitB p).1.dropLast = K.map NM.name := (Prod.mk.injEq _ _ _ _ ▸ e4).1
 refine ⟨u, K, hw, e1, ?_, ?_⟩
 ·have : (K.map NM.name).length ≤ 3 := by rw [← e5, List.length_dropLast]; omega
  simpa using this
 ·rw [hp, ← e5]
  dsimp only
  have : (splitB p).1.dropLast ++ [(splitB p).1.getLastD ⟨#[]⟩] = (splitB p).1 := by
   rw [List.getLastD_eq_getLast?, List.getLast?_eq_some_getLast hs.2]
   exact List.dropLast_concat_getLast hs.2
  rw [this, ← hs.1]
structure Mvd (T R : TM) (x y : NM) (K U : List NM) : Prop where
 ok : treeOk T = true
 rok : treeOk R = true
 xin : Way T.nodes x K
 yin : Way R.nodes y (U ++ [y])
 id : y.id = x.id
 one : x.id ≠ 1
 go : ∀ m ∈ T.nodes, m.id ≠ x.id → m ∈ R.nodes
 back : ∀ m ∈ R.nodes, m.id ≠ x.id → m ∈ T.nodes
 far : ∀ m ∈ U, m.id ≠ x.id
 len : y.len = x.len
 eR : ∃ k, k < T.nodes.length ∧ T.nodes.getD k default = x ∧ R = setN T k y
theorem moved {T : TM} {p d : ByteArray} (h : treeOk T = true) (hR : treeOk (moveT T d (findX T p)) = true) (h0 : findX T p ≠ 0) (h1 : findX T p ≠ 1) (hu : upX T d ≠ 0) (hb : belowF T.nodes 15 (upX T d) (findX T p) = false) :
  ∃ x y K U, Mvd T (moveT T d (findX T p)) x y K U ∧ x.id = findX T p ∧ splitB p = (K.map NM.name, true) ∧ splitB d = ((U ++ [y]).map NM.name, true) := by
 obtain ⟨f1, f2, f3⟩ := found_at h h0
 obtain ⟨x, K, w1, e1, _, _, s1⟩ := found_way h h0
 obtain ⟨u, U, w2, e2, l3, s2⟩ := up_way h hu
 have hp := TP.of h
 have hx : ndAt T (plc T (findX T p)) = x := hp.up.one f3 w1.mem (by rw [f2, e1])
 obtain ⟨k, hk⟩ : ∃ k, k = plc T (findX T p) := ⟨_, rfl⟩
 rw [← hk] at f1 hx
 have hkx : T.nodes[k] = x := by rw [← hx, nd_mem f1]
 obtain ⟨y, hy⟩ : ∃ y : NM, y = { x with parent := upX T d, name := (parentB d).2.1 } := ⟨_, rfl⟩
 have eR : moveT T d (findX T p) = setN T k y := by unfold moveT; rw [← hk, hx, ← hy]
 rw [eR] at hR ⊢
 have yid : y.id = x.id := by rw [hy]
 have hgo : ∀ m ∈ T.nodes, m.id ≠ x.id → m ∈ (setN T k y).nodes := fun m hm hne => by
  obtain ⟨i, hi, rfl⟩ := List.getElem_of_mem hm
  have hik : i ≠ k := fun q => hne (by subst q; rw [hkx])
  exact List.mem_of_getElem? (by show (T.nodes.set k y)[i]? = _; rw [List.getElem?_set_ne (Ne.symm hik)]; exact List.getElem?_eq_getElem hi)
 have hym : y ∈ (setN T k y).nodes := List.mem_of_getElem? (List.getElem?_set_self (by exact f1))
 have hback : ∀ m ∈ (setN T k y).nodes, m.id ≠ x.id → m ∈ T.nodes := fun m hm hne => by
  rcases List.mem_or_eq_of_mem_set hm with q | q
  ·exact q
  ·exact absurd (by rw [q, yid]) hne
 have hx1 : x.id ≠ 1 := by rw [e1]; exact h1
 rw [← e1, ← e2, hp.below_way w2 15 (by omega) (by rw [e1]; exact h0), Bool.or_eq_false_iff, List.any_eq_false] at hb
 have hfar : ∀ m ∈ U, m.id ≠ x.id := fun m hm e => hb.2 m hm (by simpa using e)
 have w3 : Way (setN T k y).nodes u U := w2.keep hx1 hgo hfar
 have w4 := Way.step hym (by rw [yid]; exact hx1) w3.mem (by rw [hy]; exact e2) w3
 refine ⟨x, y, K, U, ⟨h, hR, w1, w4, yid, hx1, hgo, hback, hfar, by rw [hy], k, f1, hx, rfl⟩, e1, s1, ?_⟩
 rw [s2, List.map_append, hy]
 rfl
section
variable {T R : TM} {x y : NM} {K U : List NM}
theorem Mvd.at (M : Mvd T R x y K U) {m : NM} (hm : m ∈ R.nodes) (e : m.id = x.id) : m = y := (TP.of M.rok).up.one hm M.yin.mem (by rw [e, M.id])
end
section
variable {T : TM} {e : EM} {g : Int}
end
end Go.Proofs.YtakhagkhngmpaaaGreat
/- LwK: . -/
namespace Go.Proofs.YtakhagkhngmpaaaGreat
set_option maxRecDepth 100000
open Go.RowKit
theorem tans_len {W : World} {u : Value} {T : TM} {lo hi : Nat} (h : TAns W u T lo hi) : ∃ c cc, u = .agg #[.slice c T.nodes.length cc, .int .i64 T.next] := by
 obtain ⟨c, cc, ts, rfl, e, _⟩ := h
 exact ⟨c, cc, by rw [← e, nds_len]⟩
structure Rt (T : TM) : Prop where
 ok : treeOk T = true
 fit : NFit T
 int : NInt T.nodes
 nz : ∀ n ∈ T.nodes, n.id ≠ 0
 l1 : 1 ≤ T.nodes.length
 l14 : T.nodes.length ≤ 14
theorem Rt.of {T : TM} (h : treeOk T = true) : Rt T := ⟨h, tree_fit h, tree_int h, (TP.of h).nz, (tree_len h).1, (tree_len h).2.1⟩
end Go.Proofs.YtakhagkhngmpaaaGreat
/- StR: . -/
namespace Go.Proofs.YtakhagkhngmpaaaGreat
set_option maxRecDepth 100000
open Go.RowKit
attribute [local go_sem ↓] Go.wp_at_zero Go.wp_at_succ
def recV (e : EM) : Value :=
 if e.kind = 1 then .iface 157 (.agg #[.string e.path, .string (parentB e.path).1, .string (parentB e.path).2.1])
 else if e.kind = 2 then .iface 159 (.agg #[.string e.path, .string (parentB e.path).1, .string (parentB e.path).2.1, .int .i64 e.who])
 else if e.kind = 3 then .iface 161 (.agg #[.string e.path, .string e.dest, .string (parentB e.dest).1, .string (parentB e.dest).2.1])
 else if e.kind = 4 then .iface 163 (.agg #[.string e.path])
 else if e.kind = 5 then .iface 165 (.agg #[.string e.path, .int .i64 e.num])
 else if e.kind = 6 then .iface 167 (.agg #[.string e.path, .int .i64 e.num])
 else if e.kind = 7 then .iface 169 (.agg #[.string e.path, .int .i64 e.num])
 else if e.kind = 8 then .iface 170 (.agg #[.string e.path])
 else if e.kind = 9 then .iface 172 (.agg #[.string e.path, .int .i64 e.who])
 else .iface 173 (.agg #[.string e.path])
theorem placeOf_any (p : ByteArray) (w : World) (hp : p.size ≤ 1048576) : Calls Tryz.prog 133 #[.string p] w fun e w' => e = .returned (.agg #[.string p, .string (parentB p).1, .string (parentB p).2.1]) ∧ Below w.heap.size w w' := by
 have HP := Shut.mk (fun W => implParentPath p W hp)
 unfold ParPost at HP
 generalize (parentB p).1 = up at HP ⊢
 generalize (parentB p).2.1 = nm at HP ⊢
 generalize (parentB p).2.2 = ok at HP
 go_enter Tryz.func133, Tryz.ntmps133
 go_upto_region 1 with fail
 obtain ⟨gb, hgb⟩ : ∃ gb, gb = w.heap.size := ⟨_, rfl⟩
 refine wp_shade (fun W => MB w W [(gb, [.string ⟨#[]⟩, .string ⟨#[]⟩, .string ⟨#[]⟩])]) (by rw [hgb]; exact (MB.nil w).new #[.string ⟨#[]⟩, .string ⟨#[]⟩, .string ⟨#[]⟩] 154) ?_
 intro W1 hW1
 have HM := Shut.mk hW1
 rw [← hgb]
 clear hW1 hgb hp
 go_upto_region 2 with (go_at_call 157; refine (HP.out _).mono ?_; rintro e w1 ⟨rfl, hb⟩; replace HM := Shut.mk (HM.out.below hb); clear hb)
 obtain ⟨f0, g0⟩ := (HM.out.at 0 rfl).1.2 0 _ rfl
 obtain ⟨f1, g1⟩ := (HM.out.at 0 rfl).1.2 1 _ rfl
 obtain ⟨f2, g2⟩ := (HM.out.at 0 rfl).1.2 2 _ rfl
 go_wp2_with fail
 refine body_shade (fun W => MB w W [(gb, [.string p, .string up, .string nm])]) (((HM.out.put 0 rfl 0 (.string p) (by simp)).put 0 rfl 1 (.string up) (by simp)).put 0 rfl 2 (.string nm) (by simp)) ?_
 intro W9 hM
 have z0 := ((hM.at 0 rfl).1.2 0 _ rfl).1
 have z1 := ((hM.at 0 rfl).1.2 1 _ rfl).1
 have z2 := ((hM.at 0 rfl).1.2 2 _ rfl).1
 exact bodyPost_ret (v := .agg #[.string p, .string up, .string nm]) (by simp [results, Tryz.results133, go_sem, z0, z1, z2]) rfl ⟨rfl, hM.bel⟩
theorem recordOf1 (path dest : ByteArray) (num who : Int) (w : World) (hp : path.size ≤ 1048576) : Calls Tryz.prog 103 #[.agg #[.int .i64 1, .string path, .string dest, .int .i64 num, .int .i64 who]] w fun r w' => r = .returned (.iface 157 (.agg #[.string path, .string (parentB path).1, .string (parentB path).2.1])) ∧ Below w.heap.size w w' := by
 have HP := Shut.mk (fun W => placeOf_any path W hp)
 generalize (parentB path).1 = up at HP ⊢
 generalize (parentB path).2.1 = nm at HP ⊢
 clear hp
 go_enter Tryz.func103, Tryz.ntmps103
 go_upto_region 1 with fail
 obtain ⟨eb, heb⟩ : ∃ eb, eb = w.heap.size := ⟨_, rfl⟩
 refine wp_shade (fun W => MB w W [(eb, [.int .i64 1, .string path, .string dest, .int .i64 num, .int .i64 who])]) (by rw [heb]; exact (MB.nil w).new #[.int .i64 1, .string path, .string dest, .int .i64 num, .int .i64 who] 28) ?_
 intro W1 hW1
 have HM := Shut.mk hW1
 have x1 := ((HM.out.at 0 rfl).1.2 1 _ rfl).1
 rw [← heb]
 clear hW1 heb
 go_upto_region 2 with fail
 obtain ⟨nb, hnb⟩ : ∃ nb, nb = W1.heap.size := ⟨_, rfl⟩
 refine wp_shade (fun W => MB w W [(nb, [.string path]), (eb, [.int .i64 1, .string path, .string dest, .int .i64 num, .int .i64 who])]) (by rw [hnb]; exact HM.out.new #[.string path] 152) ?_
 intro W2 hW2
 clear x1 HM
 have HM := Shut.mk hW2
 have x0 := ((HM.out.at 1 rfl).1.2 0 _ rfl).1
 have x1 := ((HM.out.at 1 rfl).1.2 1 _ rfl).1
 have x2 := ((HM.out.at 1 rfl).1.2 2 _ rfl).1
 have x3 := ((HM.out.at 1 rfl).1.2 3 _ rfl).1
 have x4 := ((HM.out.at 1 rfl).1.2 4 _ rfl).1
 have y0 := ((HM.out.at 0 rfl).1.2 0 _ rfl).1
 rw [← hnb]
 clear hW2 hnb
 go_wp2_with (go_at_call 133; refine (HP.out _).mono ?_; rintro e w1 ⟨rfl, hb⟩; replace HM := Shut.mk (HM.out.below hb); clear hb x0 x1 x2 x3 x4 y0)
 go_ret
 exact ⟨rfl, HM.out.bel⟩
theorem recordOf2 (path dest : ByteArray) (num who : Int) (w : World) (hp : path.size ≤ 1048576) : Calls Tryz.prog 103 #[.agg #[.int .i64 2, .string path, .string dest, .int .i64 num, .int .i64 who]] w fun r w' => r = .returned (.iface 159 (.agg #[.string path, .string (parentB path).1, .string (parentB path).2.1, .int .i64 who])) ∧ Below w.heap.size w w' := by
 have HP := Shut.mk (fun W => placeOf_any path W hp)
 generalize (parentB path).1 = up at HP ⊢
 generalize (parentB path).2.1 = nm at HP ⊢
 clear hp
 go_enter Tryz.func103, Tryz.ntmps103
 go_upto_region 1 with fail
 obtain ⟨eb, heb⟩ : ∃ eb, eb = w.heap.size := ⟨_, rfl⟩
 refine wp_shade (fun W => MB w W [(eb, [.int .i64 2, .string path, .string dest, .int .i64 num, .int .i64 who])]) (by rw [heb]; exact (MB.nil w).new #[.int .i64 2, .string path, .string dest, .int .i64 num, .int .i64 who] 28) ?_
 intro W1 hW1
 have HM := Shut.mk hW1
 have x1 := ((HM.out.at 0 rfl).1.2 1 _ rfl).1
 rw [← heb]
 clear hW1 heb
 go_upto_region 2 with fail
 obtain ⟨nb, hnb⟩ : ∃ nb, nb = W1.heap.size := ⟨_, rfl⟩
 refine wp_shade (fun W => MB w W [(nb, [.string path]), (eb, [.int .i64 2, .string path, .string dest, .int .i64 num, .int .i64 who])]) (by rw [hnb]; exact HM.out.new #[.string path] 152) ?_
 intro W2 hW2
 clear x1 HM
 have HM := Shut.mk hW2
 have x0 := ((HM.out.at 1 rfl).1.2 0 _ rfl).1
 have x1 := ((HM.out.at 1 rfl).1.2 1 _ rfl).1
 have x2 := ((HM.out.at 1 rfl).1.2 2 _ rfl).1
 have x3 := ((HM.out.at 1 rfl).1.2 3 _ rfl).1
 have x4 := ((HM.out.at 1 rfl).1.2 4 _ rfl).1
 have y0 := ((HM.out.at 0 rfl).1.2 0 _ rfl).1
 rw [← hnb]
 clear hW2 hnb
 go_upto_region 6 with fail
 have HLE : Shut (∀ x, Later W2.drew x → x.cell? ⟨eb, 1, none⟩ = some (.string path) ∧ x.cell? ⟨eb, 2, none⟩ = some (.string dest) ∧ x.cell? ⟨eb, 4, none⟩ = some (.int .i64 who) ∧ x.cell? ⟨nb, 0, none⟩ = some (.string path)) := ⟨fun x hx => by
  have M := HM.out.below (Below.trans (Below.drew (Below.refl _ _)) hx)
  exact ⟨((M.at 1 rfl).1.2 1 _ rfl).1, ((M.at 1 rfl).1.2 2 _ rfl).1, ((M.at 1 rfl).1.2 4 _ rfl).1, ((M.at 0 rfl).1.2 0 _ rfl).1⟩⟩
 refine wp_region_later (by kernel_rfl) ?_
 refine wpL_val (i := 0) (v := ?va0) rfl (by kernel_rfl) (by kernel_rfl) (by kernel_rfl) (fun _ _ _ h => h) (by rfl) ?hya0 ?resta0
 case hya0 => (intro x hx; obtain ⟨d0, d1, d2, d3⟩ := HLE.out x hx; go_simp; try with_reducible rfl)
 try simp only [Act.put, qA, qB, qC]
 refine wpL_val (i := 1) (v := ?va1) rfl (by kernel_rfl) (by kernel_rfl) (by kernel_rfl) (fun _ _ _ h => h) (by rfl) ?hya1 ?resta1
 case hya1 => (intro x hx; obtain ⟨d0, d1, d2, d3⟩ := HLE.out x hx; go_simp; try with_reducible rfl)
 try simp only [Act.put, qA, qB, qC]
 refine wpL_call (i := 2) (v := .agg #[.string path, .string up, .string nm]) (f := 133) (args := #[.string path]) rfl (by kernel_rfl) (by kernel_rfl) (by kernel_rfl) (fun _ _ _ h => h) (by rfl) ?hya2 (fun x _ => HP.out x) ?resta2
 case hya2 => (intro x hx; obtain ⟨d0, d1, d2, d3⟩ := HLE.out x hx; go_simp; try with_reducible rfl)
 try simp only [Act.put, qA, qB, qC]
 refine wpL_val (i := 3) (v := ?va3) rfl (by kernel_rfl) (by kernel_rfl) (by kernel_rfl) (fun _ _ _ h => h) (by rfl) ?hya3 ?resta3
 case hya3 => (intro x hx; obtain ⟨d0, d1, d2, d3⟩ := HLE.out x hx; go_simp; try with_reducible rfl)
 try simp only [Act.put, qA, qB, qC]
 refine wpL_val (i := 4) (v := ?va4) rfl (by kernel_rfl) (by kernel_rfl) (by kernel_rfl) (fun _ _ _ h => h) (by rfl) ?hya4 ?resta4
 case hya4 => (intro x hx; obtain ⟨d0, d1, d2, d3⟩ := HLE.out x hx; go_simp; try with_reducible rfl)
 try simp only [Act.put, qA, qB, qC]
 refine wpL_val (i := 5) (v := ?va5) rfl (by kernel_rfl) (by kernel_rfl) (by kernel_rfl) (fun _ _ _ h => h) (by rfl) ?hya5 ?resta5
 case hya5 => (intro x hx; obtain ⟨d0, d1, d2, d3⟩ := HLE.out x hx; go_simp; try with_reducible rfl)
 try simp only [Act.put, qA, qB, qC]
 refine wpL_val (i := 6) (v := ?va6) rfl (by kernel_rfl) (by kernel_rfl) (by kernel_rfl) (fun _ _ _ h => h) (by rfl) ?hya6 ?resta6
 case hya6 => (intro x hx; obtain ⟨d0, d1, d2, d3⟩ := HLE.out x hx; go_simp; try with_reducible rfl)
 try simp only [Act.put, qA, qB, qC]
 refine wpL_val (i := 7) (v := ?va7) rfl (by kernel_rfl) (by kernel_rfl) (by kernel_rfl) (fun _ _ _ h => h) (by rfl) ?hya7 ?resta7
 case hya7 => (intro x hx; obtain ⟨d0, d1, d2, d3⟩ := HLE.out x hx; go_simp; try with_reducible rfl)
 try simp only [Act.put, qA, qB, qC]
 refine wpL_done (by kernel_rfl) ?_ _
 intro w5 hy
 replace HM := Shut.mk (HM.out.below (Below.trans (Below.drew (Below.refl _ _)) hy))
 clear hy HLE x0 x1 x2 x3 x4 y0
 go_wp2_with fail
 go_ret
 exact ⟨rfl, HM.out.bel⟩
theorem recordOf3 (path dest : ByteArray) (num who : Int) (w : World) (hd : dest.size ≤ 1048576) : Calls Tryz.prog 103 #[.agg #[.int .i64 3, .string path, .string dest, .int .i64 num, .int .i64 who]] w fun r w' => r = .returned (.iface 161 (.agg #[.string path, .string dest, .string (parentB dest).1, .string (parentB dest).2.1])) ∧ Below w.heap.size w w' := by
 have HP := Shut.mk (fun W => placeOf_any dest W hd)
 generalize (parentB dest).1 = up at HP ⊢
 generalize (parentB dest).2.1 = nm at HP ⊢
 clear hd
 go_enter Tryz.func103, Tryz.ntmps103
 go_upto_region 1 with fail
 obtain ⟨eb, heb⟩ : ∃ eb, eb = w.heap.size := ⟨_, rfl⟩
 refine wp_shade (fun W => MB w W [(eb, [.int .i64 3, .string path, .string dest, .int .i64 num, .int .i64 who])]) (by rw [heb]; exact (MB.nil w).new #[.int .i64 3, .string path, .string dest, .int .i64 num, .int .i64 who] 28) ?_
 intro W1 hW1
 have HM := Shut.mk hW1
 have x1 := ((HM.out.at 0 rfl).1.2 1 _ rfl).1
 rw [← heb]
 clear hW1 heb
 go_upto_region 2 with fail
 obtain ⟨nb, hnb⟩ : ∃ nb, nb = W1.heap.size := ⟨_, rfl⟩
 refine wp_shade (fun W => MB w W [(nb, [.string path]), (eb, [.int .i64 3, .string path, .string dest, .int .i64 num, .int .i64 who])]) (by rw [hnb]; exact HM.out.new #[.string path] 152) ?_
 intro W2 hW2
 clear x1 HM
 have HM := Shut.mk hW2
 have x0 := ((HM.out.at 1 rfl).1.2 0 _ rfl).1
 have x1 := ((HM.out.at 1 rfl).1.2 1 _ rfl).1
 have x2 := ((HM.out.at 1 rfl).1.2 2 _ rfl).1
 have x3 := ((HM.out.at 1 rfl).1.2 3 _ rfl).1
 have x4 := ((HM.out.at 1 rfl).1.2 4 _ rfl).1
 have y0 := ((HM.out.at 0 rfl).1.2 0 _ rfl).1
 rw [← hnb]
 clear hW2 hnb
 go_upto_region 8 with fail
 have HLE : Shut (∀ x, Later W2.drew x → x.cell? ⟨eb, 1, none⟩ = some (.string path) ∧ x.cell? ⟨eb, 2, none⟩ = some (.string dest) ∧ x.cell? ⟨eb, 4, none⟩ = some (.int .i64 who) ∧ x.cell? ⟨nb, 0, none⟩ = some (.string path)) := ⟨fun x hx => by
  have M := HM.out.below (Below.trans (Below.drew (Below.refl _ _)) hx)
  exact ⟨((M.at 1 rfl).1.2 1 _ rfl).1, ((M.at 1 rfl).1.2 2 _ rfl).1, ((M.at 1 rfl).1.2 4 _ rfl).1, ((M.at 0 rfl).1.2 0 _ rfl).1⟩⟩
 refine wp_region_later (by kernel_rfl) ?_
 refine wpL_val (i := 0) (v := ?va0) rfl (by kernel_rfl) (by kernel_rfl) (by kernel_rfl) (fun _ _ _ h => h) (by rfl) ?hya0 ?resta0
 case hya0 => (intro x hx; obtain ⟨d0, d1, d2, d3⟩ := HLE.out x hx; go_simp; try with_reducible rfl)
 try simp only [Act.put, qA, qB, qC]
 refine wpL_val (i := 1) (v := ?va1) rfl (by kernel_rfl) (by kernel_rfl) (by kernel_rfl) (fun _ _ _ h => h) (by rfl) ?hya1 ?resta1
 case hya1 => (intro x hx; obtain ⟨d0, d1, d2, d3⟩ := HLE.out x hx; go_simp; try with_reducible rfl)
 try simp only [Act.put, qA, qB, qC]
 refine wpL_val (i := 2) (v := ?va2) rfl (by kernel_rfl) (by kernel_rfl) (by kernel_rfl) (fun _ _ _ h => h) (by rfl) ?hya2 ?resta2
 case hya2 => (intro x hx; obtain ⟨d0, d1, d2, d3⟩ := HLE.out x hx; go_simp; try with_reducible rfl)
 try simp only [Act.put, qA, qB, qC]
 refine wpL_call (i := 3) (v := .agg #[.string dest, .string up, .string nm]) (f := 133) (args := #[.string dest]) rfl (by kernel_rfl) (by kernel_rfl) (by kernel_rfl) (fun _ _ _ h => h) (by rfl) ?hya3 (fun x _ => HP.out x) ?resta3
 case hya3 => (intro x hx; obtain ⟨d0, d1, d2, d3⟩ := HLE.out x hx; go_simp; try with_reducible rfl)
 try simp only [Act.put, qA, qB, qC]
 refine wpL_val (i := 4) (v := ?va4) rfl (by kernel_rfl) (by kernel_rfl) (by kernel_rfl) (fun _ _ _ h => h) (by rfl) ?hya4 ?resta4
 case hya4 => (intro x hx; obtain ⟨d0, d1, d2, d3⟩ := HLE.out x hx; go_simp; try with_reducible rfl)
 try simp only [Act.put, qA, qB, qC]
 refine wpL_val (i := 5) (v := ?va5) rfl (by kernel_rfl) (by kernel_rfl) (by kernel_rfl) (fun _ _ _ h => h) (by rfl) ?hya5 ?resta5
 case hya5 => (intro x hx; obtain ⟨d0, d1, d2, d3⟩ := HLE.out x hx; go_simp; try with_reducible rfl)
 try simp only [Act.put, qA, qB, qC]
 refine wpL_val (i := 6) (v := ?va6) rfl (by kernel_rfl) (by kernel_rfl) (by kernel_rfl) (fun _ _ _ h => h) (by rfl) ?hya6 ?resta6
 case hya6 => (intro x hx; obtain ⟨d0, d1, d2, d3⟩ := HLE.out x hx; go_simp; try with_reducible rfl)
 try simp only [Act.put, qA, qB, qC]
 refine wpL_done (by kernel_rfl) ?_ _
 intro w5 hy
 replace HM := Shut.mk (HM.out.below (Below.trans (Below.drew (Below.refl _ _)) hy))
 clear hy HLE x0 x1 x2 x3 x4 y0
 go_wp2_with fail
 go_ret
 exact ⟨rfl, HM.out.bel⟩
theorem recordOf4 (path dest : ByteArray) (num who : Int) (w : World) : Calls Tryz.prog 103 #[.agg #[.int .i64 4, .string path, .string dest, .int .i64 num, .int .i64 who]] w fun r w' => r = .returned (.iface 163 (.agg #[.string path])) ∧ Below w.heap.size w w' := by
 go_enter Tryz.func103, Tryz.ntmps103
 go_upto_region 1 with fail
 obtain ⟨eb, heb⟩ : ∃ eb, eb = w.heap.size := ⟨_, rfl⟩
 refine wp_shade (fun W => MB w W [(eb, [.int .i64 4, .string path, .string dest, .int .i64 num, .int .i64 who])]) (by rw [heb]; exact (MB.nil w).new #[.int .i64 4, .string path, .string dest, .int .i64 num, .int .i64 who] 28) ?_
 intro W1 hW1
 have HM := Shut.mk hW1
 have x1 := ((HM.out.at 0 rfl).1.2 1 _ rfl).1
 rw [← heb]
 clear hW1 heb
 go_upto_region 2 with fail
 obtain ⟨nb, hnb⟩ : ∃ nb, nb = W1.heap.size := ⟨_, rfl⟩
 refine wp_shade (fun W => MB w W [(nb, [.string path]), (eb, [.int .i64 4, .string path, .string dest, .int .i64 num, .int .i64 who])]) (by rw [hnb]; exact HM.out.new #[.string path] 152) ?_
 intro W2 hW2
 clear x1 HM
 have HM := Shut.mk hW2
 have x0 := ((HM.out.at 1 rfl).1.2 0 _ rfl).1
 have x1 := ((HM.out.at 1 rfl).1.2 1 _ rfl).1
 have x2 := ((HM.out.at 1 rfl).1.2 2 _ rfl).1
 have x3 := ((HM.out.at 1 rfl).1.2 3 _ rfl).1
 have x4 := ((HM.out.at 1 rfl).1.2 4 _ rfl).1
 have y0 := ((HM.out.at 0 rfl).1.2 0 _ rfl).1
 rw [← hnb]
 clear hW2 hnb
 go_wp2_with fail
 go_ret
 exact ⟨rfl, HM.out.bel⟩
theorem recordOf5 (path dest : ByteArray) (num who : Int) (w : World) : Calls Tryz.prog 103 #[.agg #[.int .i64 5, .string path, .string dest, .int .i64 num, .int .i64 who]] w fun r w' => r = .returned (.iface 165 (.agg #[.string path, .int .i64 num])) ∧ Below w.heap.size w w' := by
 go_enter Tryz.func103, Tryz.ntmps103
 go_upto_region 1 with fail
 obtain ⟨eb, heb⟩ : ∃ eb, eb = w.heap.size := ⟨_, rfl⟩
 refine wp_shade (fun W => MB w W [(eb, [.int .i64 5, .string path, .string dest, .int .i64 num, .int .i64 who])]) (by rw [heb]; exact (MB.nil w).new #[.int .i64 5, .string path, .string dest, .int .i64 num, .int .i64 who] 28) ?_
 intro W1 hW1
 have HM := Shut.mk hW1
 have x1 := ((HM.out.at 0 rfl).1.2 1 _ rfl).1
 rw [← heb]
 clear hW1 heb
 go_upto_region 2 with fail
 obtain ⟨nb, hnb⟩ : ∃ nb, nb = W1.heap.size := ⟨_, rfl⟩
 refine wp_shade (fun W => MB w W [(nb, [.string path]), (eb, [.int .i64 5, .string path, .string dest, .int .i64 num, .int .i64 who])]) (by rw [hnb]; exact HM.out.new #[.string path] 152) ?_
 intro W2 hW2
 clear x1 HM
 have HM := Shut.mk hW2
 have x0 := ((HM.out.at 1 rfl).1.2 0 _ rfl).1
 have x1 := ((HM.out.at 1 rfl).1.2 1 _ rfl).1
 have x2 := ((HM.out.at 1 rfl).1.2 2 _ rfl).1
 have x3 := ((HM.out.at 1 rfl).1.2 3 _ rfl).1
 have x4 := ((HM.out.at 1 rfl).1.2 4 _ rfl).1
 have y0 := ((HM.out.at 0 rfl).1.2 0 _ rfl).1
 rw [← hnb]
 clear hW2 hnb
 go_wp2_with fail
 go_ret
 exact ⟨rfl, HM.out.bel⟩
theorem recordOf6 (path dest : ByteArray) (num who : Int) (w : World) : Calls Tryz.prog 103 #[.agg #[.int .i64 6, .string path, .string dest, .int .i64 num, .int .i64 who]] w fun r w' => r = .returned (.iface 167 (.agg #[.string path, .int .i64 num])) ∧ Below w.heap.size w w' := by
 go_enter Tryz.func103, Tryz.ntmps103
 go_upto_region 1 with fail
 obtain ⟨eb, heb⟩ : ∃ eb, eb = w.heap.size := ⟨_, rfl⟩
 refine wp_shade (fun W => MB w W [(eb, [.int .i64 6, .string path, .string dest, .int .i64 num, .int .i64 who])]) (by rw [heb]; exact (MB.nil w).new #[.int .i64 6, .string path, .string dest, .int .i64 num, .int .i64 who] 28) ?_
 intro W1 hW1
 have HM := Shut.mk hW1
 have x1 := ((HM.out.at 0 rfl).1.2 1 _ rfl).1
 rw [← heb]
 clear hW1 heb
 go_upto_region 2 with fail
 obtain ⟨nb, hnb⟩ : ∃ nb, nb = W1.heap.size := ⟨_, rfl⟩
 refine wp_shade (fun W => MB w W [(nb, [.string path]), (eb, [.int .i64 6, .string path, .string dest, .int .i64 num, .int .i64 who])]) (by rw [hnb]; exact HM.out.new #[.string path] 152) ?_
 intro W2 hW2
 clear x1 HM
 have HM := Shut.mk hW2
 have x0 := ((HM.out.at 1 rfl).1.2 0 _ rfl).1
 have x1 := ((HM.out.at 1 rfl).1.2 1 _ rfl).1
 have x2 := ((HM.out.at 1 rfl).1.2 2 _ rfl).1
 have x3 := ((HM.out.at 1 rfl).1.2 3 _ rfl).1
 have x4 := ((HM.out.at 1 rfl).1.2 4 _ rfl).1
 have y0 := ((HM.out.at 0 rfl).1.2 0 _ rfl).1
 rw [← hnb]
 clear hW2 hnb
 go_wp2_with fail
 go_ret
 exact ⟨rfl, HM.out.bel⟩
theorem recordOf7 (path dest : ByteArray) (num who : Int) (w : World) : Calls Tryz.prog 103 #[.agg #[.int .i64 7, .string path, .string dest, .int .i64 num, .int .i64 who]] w fun r w' => r = .returned (.iface 169 (.agg #[.string path, .int .i64 num])) ∧ Below w.heap.size w w' := by
 go_enter Tryz.func103, Tryz.ntmps103
 go_upto_region 1 with fail
 obtain ⟨eb, heb⟩ : ∃ eb, eb = w.heap.size := ⟨_, rfl⟩
 refine wp_shade (fun W => MB w W [(eb, [.int .i64 7, .string path, .string dest, .int .i64 num, .int .i64 who])]) (by rw [heb]; exact (MB.nil w).new #[.int .i64 7, .string path, .string dest, .int .i64 num, .int .i64 who] 28) ?_
 intro W1 hW1
 have HM := Shut.mk hW1
 have x1 := ((HM.out.at 0 rfl).1.2 1 _ rfl).1
 rw [← heb]
 clear hW1 heb
 go_upto_region 2 with fail
 obtain ⟨nb, hnb⟩ : ∃ nb, nb = W1.heap.size := ⟨_, rfl⟩
 refine wp_shade (fun W => MB w W [(nb, [.string path]), (eb, [.int .i64 7, .string path, .string dest, .int .i64 num, .int .i64 who])]) (by rw [hnb]; exact HM.out.new #[.string path] 152) ?_
 intro W2 hW2
 clear x1 HM
 have HM := Shut.mk hW2
 have x0 := ((HM.out.at 1 rfl).1.2 0 _ rfl).1
 have x1 := ((HM.out.at 1 rfl).1.2 1 _ rfl).1
 have x2 := ((HM.out.at 1 rfl).1.2 2 _ rfl).1
 have x3 := ((HM.out.at 1 rfl).1.2 3 _ rfl).1
 have x4 := ((HM.out.at 1 rfl).1.2 4 _ rfl).1
 have y0 := ((HM.out.at 0 rfl).1.2 0 _ rfl).1
 rw [← hnb]
 clear hW2 hnb
 go_wp2_with fail
 go_ret
 exact ⟨rfl, HM.out.bel⟩
theorem recordOf8 (path dest : ByteArray) (num who : Int) (w : World) : Calls Tryz.prog 103 #[.agg #[.int .i64 8, .string path, .string dest, .int .i64 num, .int .i64 who]] w fun r w' => r = .returned (.iface 170 (.agg #[.string path])) ∧ Below w.heap.size w w' := by
 go_enter Tryz.func103, Tryz.ntmps103
 go_upto_region 1 with fail
 obtain ⟨eb, heb⟩ : ∃ eb, eb = w.heap.size := ⟨_, rfl⟩
 refine wp_shade (fun W => MB w W [(eb, [.int .i64 8, .string path, .string dest, .int .i64 num, .int .i64 who])]) (by rw [heb]; exact (MB.nil w).new #[.int .i64 8, .string path, .string dest, .int .i64 num, .int .i64 who] 28) ?_
 intro W1 hW1
 have HM := Shut.mk hW1
 have x1 := ((HM.out.at 0 rfl).1.2 1 _ rfl).1
 rw [← heb]
 clear hW1 heb
 go_upto_region 2 with fail
 obtain ⟨nb, hnb⟩ : ∃ nb, nb = W1.heap.size := ⟨_, rfl⟩
 refine wp_shade (fun W => MB w W [(nb, [.string path]), (eb, [.int .i64 8, .string path, .string dest, .int .i64 num, .int .i64 who])]) (by rw [hnb]; exact HM.out.new #[.string path] 152) ?_
 intro W2 hW2
 clear x1 HM
 have HM := Shut.mk hW2
 have x0 := ((HM.out.at 1 rfl).1.2 0 _ rfl).1
 have x1 := ((HM.out.at 1 rfl).1.2 1 _ rfl).1
 have x2 := ((HM.out.at 1 rfl).1.2 2 _ rfl).1
 have x3 := ((HM.out.at 1 rfl).1.2 3 _ rfl).1
 have x4 := ((HM.out.at 1 rfl).1.2 4 _ rfl).1
 have y0 := ((HM.out.at 0 rfl).1.2 0 _ rfl).1
 rw [← hnb]
 clear hW2 hnb
 go_wp2_with fail
 go_ret
 exact ⟨rfl, HM.out.bel⟩
theorem recordOf9 (path dest : ByteArray) (num who : Int) (w : World) : Calls Tryz.prog 103 #[.agg #[.int .i64 9, .string path, .string dest, .int .i64 num, .int .i64 who]] w fun r w' => r = .returned (.iface 172 (.agg #[.string path, .int .i64 who])) ∧ Below w.heap.size w w' := by
 go_enter Tryz.func103, Tryz.ntmps103
 go_upto_region 1 with fail
 obtain ⟨eb, heb⟩ : ∃ eb, eb = w.heap.size := ⟨_, rfl⟩
 refine wp_shade (fun W => MB w W [(eb, [.int .i64 9, .string path, .string dest, .int .i64 num, .int .i64 who])]) (by rw [heb]; exact (MB.nil w).new #[.int .i64 9, .string path, .string dest, .int .i64 num, .int .i64 who] 28) ?_
 intro W1 hW1
 have HM := Shut.mk hW1
 have x1 := ((HM.out.at 0 rfl).1.2 1 _ rfl).1
 rw [← heb]
 clear hW1 heb
 go_upto_region 2 with fail
 obtain ⟨nb, hnb⟩ : ∃ nb, nb = W1.heap.size := ⟨_, rfl⟩
 refine wp_shade (fun W => MB w W [(nb, [.string path]), (eb, [.int .i64 9, .string path, .string dest, .int .i64 num, .int .i64 who])]) (by rw [hnb]; exact HM.out.new #[.string path] 152) ?_
 intro W2 hW2
 clear x1 HM
 have HM := Shut.mk hW2
 have x0 := ((HM.out.at 1 rfl).1.2 0 _ rfl).1
 have x1 := ((HM.out.at 1 rfl).1.2 1 _ rfl).1
 have x2 := ((HM.out.at 1 rfl).1.2 2 _ rfl).1
 have x3 := ((HM.out.at 1 rfl).1.2 3 _ rfl).1
 have x4 := ((HM.out.at 1 rfl).1.2 4 _ rfl).1
 have y0 := ((HM.out.at 0 rfl).1.2 0 _ rfl).1
 rw [← hnb]
 clear hW2 hnb
 go_wp2_with fail
 go_ret
 exact ⟨rfl, HM.out.bel⟩
theorem recordOf10 (path dest : ByteArray) (num who : Int) (w : World) : Calls Tryz.prog 103 #[.agg #[.int .i64 10, .string path, .string dest, .int .i64 num, .int .i64 who]] w fun r w' => r = .returned (.iface 173 (.agg #[.string path])) ∧ Below w.heap.size w w' := by
 go_enter Tryz.func103, Tryz.ntmps103
 go_upto_region 1 with fail
 obtain ⟨eb, heb⟩ : ∃ eb, eb = w.heap.size := ⟨_, rfl⟩
 refine wp_shade (fun W => MB w W [(eb, [.int .i64 10, .string path, .string dest, .int .i64 num, .int .i64 who])]) (by rw [heb]; exact (MB.nil w).new #[.int .i64 10, .string path, .string dest, .int .i64 num, .int .i64 who] 28) ?_
 intro W1 hW1
 have HM := Shut.mk hW1
 have x1 := ((HM.out.at 0 rfl).1.2 1 _ rfl).1
 rw [← heb]
 clear hW1 heb
 go_upto_region 2 with fail
 obtain ⟨nb, hnb⟩ : ∃ nb, nb = W1.heap.size := ⟨_, rfl⟩
 refine wp_shade (fun W => MB w W [(nb, [.string path]), (eb, [.int .i64 10, .string path, .string dest, .int .i64 num, .int .i64 who])]) (by rw [hnb]; exact HM.out.new #[.string path] 152) ?_
 intro W2 hW2
 clear x1 HM
 have HM := Shut.mk hW2
 have x0 := ((HM.out.at 1 rfl).1.2 0 _ rfl).1
 have x1 := ((HM.out.at 1 rfl).1.2 1 _ rfl).1
 have x2 := ((HM.out.at 1 rfl).1.2 2 _ rfl).1
 have x3 := ((HM.out.at 1 rfl).1.2 3 _ rfl).1
 have x4 := ((HM.out.at 1 rfl).1.2 4 _ rfl).1
 have y0 := ((HM.out.at 0 rfl).1.2 0 _ rfl).1
 rw [← hnb]
 clear hW2 hnb
 go_wp2_with fail
 go_ret
 exact ⟨rfl, HM.out.bel⟩
theorem recordOf_any (e : EM) (w : World) (hk : 1 ≤ e.kind ∧ e.kind ≤ 10) (he : EFit e) : Calls Tryz.prog 103 #[ev e] w fun r w' => r = .returned (recV e) ∧ Below w.heap.size w w' := by
 obtain ⟨kind, path, dest, num, who⟩ := e
 obtain ⟨h1, h2⟩ := he
 dsimp only at hk h1 h2
 have : kind = 1 ∨ kind = 2 ∨ kind = 3 ∨ kind = 4 ∨ kind = 5 ∨ kind = 6 ∨ kind = 7 ∨ kind = 8 ∨ kind = 9 ∨ kind = 10 := by omega
 rcases this with rfl | rfl | rfl | rfl | rfl | rfl | rfl | rfl | rfl | rfl
 ·exact recordOf1 path dest num who w h1
 ·exact recordOf2 path dest num who w h1
 ·exact recordOf3 path dest num who w h2
 ·exact recordOf4 path dest num who w
 ·exact recordOf5 path dest num who w
 ·exact recordOf6 path dest num who w
 ·exact recordOf7 path dest num who w
 ·exact recordOf8 path dest num who w
 ·exact recordOf9 path dest num who w
 ·exact recordOf10 path dest num who w
end Go.Proofs.YtakhagkhngmpaaaGreat
/- LkE: . -/
namespace Go.Proofs.YtakhagkhngmpaaaGreat
set_option maxRecDepth 100000
open Go.RowKit Go.Maps
attribute [local go_sem ↓] Go.wp_at_zero Go.wp_at_succ
structure Nd (w : World) (ns : List NM) (G : Nat → Nat) : Prop where
 cells : ∀ i (hi : i < ns.length), w.cell? ⟨G i, 0, none⟩ = some (.int .i64 ns[i].id) ∧ w.cell? ⟨G i, 1, none⟩ = some (.int .i64 ns[i].parent) ∧ w.cell? ⟨G i, 2, none⟩ = some (.string ns[i].name) ∧ w.cell? ⟨G i, 3, none⟩ = some (.bool ns[i].dir) ∧ w.cell? ⟨G i, 4, none⟩ = some (.int .i64 ns[i].schema) ∧ w.cell? ⟨G i, 5, none⟩ = some (.int .i64 ns[i].quota) ∧ G i < w.heap.size
 above : ∀ i (hi : i < ns.length), fid ns ns[i].id = some i → w.cell? ⟨G i, 9, none⟩ = some (ptrV ((fid ns ns[i].parent).map G))
theorem Lk.nd {w : World} {B b1 b2 : Nat} {rs : List NR} {G : Nat → Nat} {C : Int → Nat} (h : Lk w B b1 b2 rs G C (Ab (nds rs) fun _ => false)) : Nd w (nds rs) G := by
 refine ⟨fun i hi => ?_, fun i hi hf => ?_⟩
 ·have hi' : i < rs.length := by rwa [nds_len] at hi
  have hc := (h.cells i hi').1
  have e : (nds rs)[i] = rs[i].nd := by simp [nds]
  rw [e]
  exact ⟨(hc.2 0 _ rfl).1, (hc.2 1 _ rfl).1, (hc.2 2 _ rfl).1, (hc.2 3 _ rfl).1, (hc.2 4 _ rfl).1, (hc.2 5 _ rfl).1, hc.1⟩
 ·have hi' : i < rs.length := by rwa [nds_len] at hi
  have hc := ((h.cells i hi').1.2 9 _ rfl).1
  have : Ab (nds rs) (fun _ => false) i = fid (nds rs) (nds rs)[i].parent := by
   unfold Ab
   rw [getD_in hi, if_pos ⟨hf, rfl⟩]
  rw [this] at hc
  exact hc
theorem Nd.below {w w' : World} {ns : List NM} {G : Nat → Nat} (h : Nd w ns G) (hb : Below w.heap.size w w') : Nd w' ns G := by
 refine ⟨fun i hi => ?_, fun i hi hf => ?_⟩
 ·obtain ⟨c0, c1, c2, c3, c4, c5, hl⟩ := h.cells i hi
  exact ⟨(hb.cell hl).trans c0, (hb.cell hl).trans c1, (hb.cell hl).trans c2, (hb.cell hl).trans c3, (hb.cell hl).trans c4, (hb.cell hl).trans c5, Nat.lt_of_lt_of_le hl hb.size⟩
 ·exact (hb.cell (h.cells i hi).2.2.2.2.2.2).trans (h.above i hi hf)
theorem ptr_some (g : Nat) : ptrV (some g) = .pointer (some ⟨g, 0, none⟩) := rfl
theorem ptr_none : ptrV none = .pointer none := rfl
set_option maxHeartbeats 1000000 in
theorem reaches_any {w : World} {ns : List NM} {G : Nat → Nat} (h : Nd w ns G) (ha : Asc ns) {i : Nat} (hi : i < ns.length) :
  Calls Tryz.prog 120 #[.pointer (some ⟨G i, 0, none⟩)] w fun e w' => e = .returned (.bool (clm ns 4 i)) ∧ w' = w := by
 have HN := Shut.mk h
 have HA := Shut.mk ha
 clear h ha
 obtain ⟨R, hR⟩ : ∃ R, R = clm ns 4 i := ⟨_, rfl⟩
 rw [← hR]
 have HR := Shut.mk hR
 clear hR
 go_enter Tryz.func120, Tryz.ntmps120
 go_wp2_with fail
 go_loopw [0, 3] (fun p c wr => ∃ (k j : Nat), p = .pointer (some ⟨G j, 0, none⟩) ∧ c = .int .i64 k ∧ k ≤ 4 ∧ j < ns.length ∧ Shut (clm ns (4 - k) j = R) ∧ wr = w) (fun _ c _ => 4 - (intOf c).toNat)
 case atStart => exact ⟨0, i, rfl, rfl, by omega, hi, ⟨HR.out.symm⟩, rfl⟩
 case round =>
  obtain ⟨k, j, rfl, rfl, hk, hj, hc, rfl⟩ := hrel
  obtain ⟨c0, _, _, _, _, _, hl⟩ := HN.out.cells j hj
  have c9 := HN.out.above j hj (HA.out.fid hj)
  have hid := HA.out.id_one hj
  have hge := getD_in hj
  obtain ⟨x, hx⟩ : ∃ x, x = ns[j] := ⟨_, rfl⟩
  rw [← hx] at c0 c9 hge
  rw [hge] at hid
  have HGE := Shut.mk hge
  have HID := Shut.mk hid
  clear hx hge hid
  obtain ⟨o, ho⟩ : ∃ o, o = fid ns x.parent := ⟨_, rfl⟩
  rw [← ho] at c9
  have HO := Shut.mk ho
  clear ho
  by_cases h4 : k < 4
  ·have h4' : (k : Int) < 4 := by omega
   cases o with
   | none =>
    simp only [Option.map_none, ptr_none] at c9
    go_wp2_with fail
    go_ret
    refine ⟨?_, rfl⟩
    have := hc.out
    rw [clm_none (by rw [HGE.out, ← HO.out]), HGE.out] at this
    rw [← this]
    rfl
   | some m =>
    simp only [Option.map_some, ptr_some] at c9
    go_wp2_with fail
    go_roundw
    case rel =>
     have h5 := hc.out
     have e : 4 - k = (4 - (k + 1)) + 1 := by omega
     rw [e, clm_some (k := m) (by rw [HGE.out, ← HO.out])] at h5
     exact ⟨k + 1, m, rfl, by go_num, by omega, (fid_lt HO.out.symm).1, ⟨h5⟩, trivial⟩
    case measure => simp [intOf]; omega
  ·have h4' : ¬ (k : Int) < 4 := by omega
   go_wp2_with fail
   go_ret
   refine ⟨?_, rfl⟩
   have := hc.out
   obtain rfl : k = 4 := by omega
   have e4 : clm ns (4 - 4) j = ((ns.getD j default).id == 1) := rfl
   rw [e4, HGE.out] at this
   rw [← this]
   rfl
set_option maxHeartbeats 1000000 in
theorem isBelow_any {w : World} {ns : List NM} {G : Nat → Nat} (h : Nd w ns G) (ht : Tall ns) {i : Nat} (hi : i < ns.length) (top : Int) :
  Calls Tryz.prog 91 #[.pointer (some ⟨G i, 0, none⟩), .int .i64 top] w fun e w' => e = .returned (.bool (blw ns i top)) ∧ w' = w := by
 have HN := Shut.mk h
 have HA := Shut.mk ht.1
 obtain ⟨d0, hd0, hu0⟩ := ht.2 i hi
 have HU := Shut.mk hu0
 obtain ⟨R, hR⟩ : ∃ R, R = blw ns i top := ⟨_, rfl⟩
 rw [← hR]
 have HR := Shut.mk hR
 clear hR h ht hu0
 go_enter Tryz.func91, Tryz.ntmps91
 go_wp2_with fail
 go_loopg [0] (d0 + 1) (fun m p wr => (Shut (p = .pointer none ∧ R = false) ∨ Shut (∃ (j d r : Nat), p = .pointer (some ⟨G j, 0, none⟩) ∧ m = d + 1 ∧ j < ns.length ∧ Ups ns j d ∧ (top ≠ 0 → belowF ns (d + 2 + r) (ns.getD j default).id top = R) ∧ (top = 0 → R = false))) ∧ wr = w)
 case atStart =>
  refine ⟨.inr ⟨i, d0, 13 - d0, rfl, rfl, hi, HU.out, fun h0 => ?_, fun h0 => ?_⟩, rfl⟩
  ·rw [HR.out]
   unfold blw
   rw [show d0 + 2 + (13 - d0) = 15 by omega]
   simp [h0]
  ·rw [HR.out]
   unfold blw
   simp [h0]
 case round =>
  obtain ⟨hrel, rfl⟩ := hrel
  rcases hrel with ⟨rfl, rfl⟩ | ⟨j, d, r, rfl, rfl, hj, hu, h1, h2⟩
  ·go_wp2_with fail
   go_ret
   exact ⟨rfl, rfl⟩
  ·obtain ⟨c0, _, _, _, _, _, hl⟩ := HN.out.cells j hj
   have hf := HA.out.fid hj
   have c9 := HN.out.above j hj hf
   have hge := getD_in hj
   have hpos := HA.out.pos hj
   obtain ⟨x, hx⟩ : ∃ x, x = ns[j] := ⟨_, rfl⟩
   rw [← hx] at c0 c9 hge hpos hf
   rw [hge] at h1
   have HH := Shut.mk (And.intro h1 (And.intro h2 (And.intro hu (And.intro hge hf))))
   obtain ⟨o, ho⟩ : ∃ o, o = fid ns x.parent := ⟨_, rfl⟩
   rw [← ho] at c9
   have HO := Shut.mk ho
   clear ho h1 h2 hu hge hf hx
   by_cases ht : x.id = top
   ·have HT := Shut.mk hpos
    clear hpos
    subst ht
    go_wp2_with fail
    go_ret
    refine ⟨?_, rfl⟩
    have h1 := HH.out.1 (by have := HT.out; omega)
    rw [show d + 2 + r = (d + 1 + r) + 1 by omega, belowF_same rfl] at h1
    rw [← h1]
    rfl
   ·cases o with
    | none =>
     simp only [Option.map_none, ptr_none] at c9
     go_wp2_with fail
     go_roundg 0
     case measure => omega
     case rel =>
      obtain ⟨h1, h2, hu, hge, hf⟩ := HH.out
      refine ⟨.inl ⟨⟨rfl, ?_⟩⟩, rfl⟩
      by_cases h0 : top = 0
      ·exact h2 h0
      ·have h3 := h1 h0
       rw [show d + 2 + r = ((d + r) + 1) + 1 by omega, belowF_some ht hf, hge] at h3
       rw [← h3]
       cases hu with
       | root =>
        have e0 := HA.out.2.2.2
        rw [hge] at e0
        rw [e0]
        exact belowF_none (fun e => h0 e.symm) HA.out.zero
       | step _ _ hk _ =>
        rw [hge, ← HO.out] at hk
        cases hk
    | some k =>
     simp only [Option.map_some, ptr_some] at c9
     go_wp2_with fail
     go_roundg d
     case measure => omega
     case rel =>
      obtain ⟨h1, h2, hu, hge, hf⟩ := HH.out
      refine ⟨.inr ⟨?_⟩, rfl⟩
      cases hu with
      | root =>
       have e0 := HA.out.2.2.2
       have h4 := HO.out
       rw [hge] at e0
       rw [e0, HA.out.zero] at h4
       cases h4
      | @step _ k' d' _ _ hk hu' =>
       rw [hge, ← HO.out] at hk
       cases hk
       obtain ⟨hkl, ek⟩ := fid_lt HO.out.symm
       refine ⟨k, d', r, rfl, rfl, hkl, hu', fun h0 => ?_, h2⟩
       have h3 := h1 h0
       rw [show d' + 1 + 2 + r = (d' + 2 + r) + 1 by omega, belowF_some ht hf, hge, ← ek, ← getD_in hkl] at h3
       exact h3
end Go.Proofs.YtakhagkhngmpaaaGreat
