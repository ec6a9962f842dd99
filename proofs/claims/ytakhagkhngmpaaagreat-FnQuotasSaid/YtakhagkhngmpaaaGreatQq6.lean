/- Texts of ours, laid one behind the other: ApS, ApT, ApU, WayM, WayN, LkQ, LkR, TreK, LkS, FndM, StM, TInt, StN, TkM, GrpM, TkG, TkW, TkA. -/
import Derived.Test.YtakhagkhngmpaaaGreatQq5
import Derived.Test.YtakhagkhngmpaaaGreatQq2
import Derived.Test.YtakhagkhngmpaaaGreatQq3
import Derived.Sort.Walk0
import Derived.Lib.SlicesCompact
/- ApS: . -/
namespace Go.Proofs.YtakhagkhngmpaaaGreat
set_option maxRecDepth 100000
theorem ok_at {T : TM} {k : Nat} (h : treeOk T = true) (hk : k < T.nodes.length) : (if (ndAt T k).dir then dirOk (ndAt T k) else fileOk (ndAt T k)) = true ∧ (k = 0 → firstOk (ndAt T k) = true) := by
 unfold treeOk at h
 simp only [Bool.and_eq_true, decide_eq_true_eq, List.all_eq_true, List.mem_range] at h
 have hn := h.2 k hk
 unfold nodeOk at hn
 simp only [Bool.and_eq_true] at hn
 refine ⟨hn.1.2, fun e => ?_⟩
 have := hn.1.1.2
 rw [if_pos e] at this
 exact this
theorem setX_ok {T : TM} {e : EM} {k : Nat} (h : treeOk T = true) (hk : k < T.nodes.length) (he : (e.kind = 5 ∧ 1 ≤ e.num ∧ e.num ≤ 3) ∨ (e.kind = 6 ∧ 0 ≤ e.num ∧ e.num ≤ 1000)) : treeOk (setX T e k).1 = true := by
 obtain ⟨o1, o2⟩ := ok_at h hk
 unfold setX
 split
 ·exact h
 rename_i hd
 have hd' : (ndAt T k).dir = true := by simpa using hd
 rw [if_pos hd'] at o1
 unfold dirOk at o1
 simp only [Bool.and_eq_true, inI_iff] at o1
 obtain ⟨⟨⟨⟨b1, b2⟩, b3⟩, b4⟩, b5⟩ := o1
 split
 ·rename_i e5
  have hn : 1 ≤ e.num ∧ e.num ≤ 3 := by rcases he with ⟨_, q⟩ | ⟨q, _⟩ <;> omega
  refine setN_ok h rfl rfl rfl rfl ?_ (fun _ => by show e.num ≠ 0; omega)
  rw [if_pos hd']
  unfold dirOk
  simp only [Bool.and_eq_true, inI_iff]
  exact ⟨⟨⟨⟨⟨by omega, by omega⟩, b2⟩, b3⟩, b4⟩, b5⟩
 rename_i e5
 split
 ·exact h
 ·have hn : 0 ≤ e.num ∧ e.num ≤ 1000 := by rcases he with ⟨q, _⟩ | ⟨_, q⟩ <;> omega
  refine setN_ok h rfl rfl rfl rfl ?_ (fun e0 => ?_)
  ·rw [if_pos hd']
   unfold dirOk
   simp only [Bool.and_eq_true, inI_iff]
   exact ⟨⟨⟨⟨b1, hn⟩, b3⟩, b4⟩, b5⟩
  ·have := o2 e0
   unfold firstOk at this
   simp only [Bool.and_eq_true] at this
   simpa using this.2
theorem newP_sum (g : Int) (ls : List Int) : sumP (newP g ls) = ls.sum := by
 induction ls generalizing g with
 | nil => rfl
 | cons l ls ih => simp [newP, sumP, ih]
theorem newP_ok {s g : Int} {ls : List Int} (hl : ∀ l ∈ ls, 1 ≤ l ∧ l ≤ (groupN s : Nat)) (h1 : 1 ≤ g) (h2 : g + ls.length ≤ 100001) : ∀ p ∈ newP g ls, pieceOk s p = true := by
 induction ls generalizing g with
 | nil => simp [newP]
 | cons l ls ih =>
  intro p hp
  simp only [List.length_cons] at h2
  push_cast at h2
  rcases List.mem_cons.1 hp with rfl | hp
  ·unfold pieceOk
   rw [Bool.and_eq_true, inI_iff, inI_iff]
   exact ⟨⟨h1, by dsimp only; omega⟩, hl l (by simp)⟩
  ·exact ih (fun l' h' => hl l' (by simp [h'])) (by omega) (by omega) p hp
theorem spanL_sum {S n : Nat} (hS : 0 < S) (h1 : 1 ≤ n) : (spanL S n).sum = (n : Int) ∧ ∀ l ∈ spanL S n, 1 ≤ l ∧ l ≤ (S : Int) := by
 have hq : (n - 1) / S * S ≤ n - 1 := Nat.div_mul_le_self _ _
 have hr : n - 1 < (n - 1) / S * S + S := by have := Nat.div_add_mod (n - 1) S; have := Nat.mod_lt (n - 1) hS; have := Nat.mul_comm S ((n - 1) / S); omega
 constructor
 ·unfold spanL
  rw [List.sum_append, List.sum_replicate_int]
  simp only [List.sum_cons, List.sum_nil]
  have : (((n - 1) / S : Nat) : Int) * (S : Int) = (((n - 1) / S * S : Nat) : Int) := by push_cast; rfl
  omega
 ·intro l hl
  unfold spanL at hl
  rcases List.mem_append.1 hl with hl | hl
  ·rw [List.eq_of_mem_replicate hl]; omega
  ·rw [List.mem_singleton.1 hl]; omega
theorem writeX_ok {T : TM} {e : EM} {k : Nat} {g : Int} (h : treeOk T = true) (hk : k < T.nodes.length) (h7 : e.kind ≠ 9 → e.kind ≠ 8 → 1 ≤ e.num ∧ e.num ≤ 200) (h9 : e.kind = 9 → 0 ≤ e.who ∧ e.who ≤ 9) (g1 : 1 ≤ g) (g2 : g ≤ 99000) : treeOk (writeX T e k g).1 = true := by
 obtain ⟨o1, -⟩ := ok_at h hk
 unfold writeX
 split
 ·exact h
 rename_i hd
 rw [if_neg hd] at o1
 unfold fileOk at o1
 simp only [Bool.and_eq_true, inI_iff, decide_eq_true_eq, List.all_eq_true, beq_iff_eq] at o1
 obtain ⟨⟨⟨⟨⟨⟨b1, b2⟩, b3⟩, b4⟩, b5⟩, b6⟩, b7⟩ := o1
 split
 ·exact h
 split
 ·rename_i e9
  refine setN_ok h rfl rfl rfl rfl ?_ (fun _ => by show (ndAt T k).schema ≠ 0; omega)
  rw [if_neg hd]
  unfold fileOk
  simp only [Bool.and_eq_true, inI_iff, decide_eq_true_eq, List.all_eq_true, beq_iff_eq]
  exact ⟨⟨⟨⟨⟨⟨b1, b2⟩, b3⟩, h9 e9⟩, b5⟩, b6⟩, b7⟩
 rename_i e9
 split
 ·refine setN_ok h rfl rfl rfl rfl ?_ (fun _ => by show (ndAt T k).schema ≠ 0; omega)
  rw [if_neg hd]
  unfold fileOk
  simp only [Bool.and_eq_true, inI_iff, decide_eq_true_eq, List.all_eq_true, beq_iff_eq]
  exact ⟨⟨⟨⟨⟨⟨b1, b2⟩, b3⟩, by omega⟩, b5⟩, b6⟩, b7⟩
 rename_i e8
 split
 ·exact h
 rename_i hr
 split
 ·exact h
 rename_i h40
 have hn := h7 e9 e8
 have hs : schOk (ndAt T k).schema = true := by
  unfold schOk
  simp only [Bool.or_eq_true, decide_eq_true_eq]
  omega
 have hsp : spansX (ndAt T k).schema e.num = spanL (groupN (ndAt T k).schema) e.num.toNat := if_pos ⟨hs, by omega, by omega⟩
 have hS := group_pos hs
 obtain ⟨c1, c2⟩ := spanL_sum (S := groupN (ndAt T k).schema) (n := e.num.toNat) (by omega) (by omega)
 rw [← hsp] at c1 c2
 refine setN_ok h rfl rfl rfl rfl ?_ (fun _ => by show (ndAt T k).schema ≠ 0; omega)
 rw [if_neg hd]
 unfold fileOk
 simp only [Bool.and_eq_true, inI_iff, decide_eq_true_eq, List.all_eq_true, beq_iff_eq]
 have hsum : sumP ((ndAt T k).pieces ++ newP g (spansX (ndAt T k).schema e.num)) = (ndAt T k).len + e.num := by
  rw [sumP_append, newP_sum, c1, b6]
  omega
 refine ⟨⟨⟨⟨⟨⟨b1, b2⟩, ?_⟩, b4⟩, ?_⟩, hsum⟩, ?_⟩
 ·rw [List.length_append, newP_len]; omega
 ·intro p hp
  rcases List.mem_append.1 hp with hp | hp
  ·exact b5 p hp
  ·exact newP_ok c2 g1 (by omega) p hp
 ·rw [hsum]; omega
theorem getD_iz {ns : List NM} {i : Nat} (hi : i < ns.length) : ns.getD i default = ns[i] := by simp [List.getD_eq_getElem?_getD, hi]
abbrev Up2 (ns : List NM) : Prop := ns.Pairwise (fun a b => a.id < b.id)
theorem Up2.one {ns : List NM} (h : Up2 ns) {a b : NM} (ha : a ∈ ns) (hb : b ∈ ns) (e : a.id = b.id) : a = b := by
 obtain ⟨i, hi, rfl⟩ := List.getElem_of_mem ha
 obtain ⟨j, hj, rfl⟩ := List.getElem_of_mem hb
 have hp := List.pairwise_iff_getElem.1 h
 rcases Nat.lt_trichotomy i j with q | q | q
 ·have := hp i j hi hj q; omega
 ·subst q; rfl
 ·have := hp j i hj hi q; omega
theorem Up2.find {ns : List NM} (h : Up2 ns) {p : NM} (hp : p ∈ ns) : ∃ k, ns.findIdx? (fun n => n.id == p.id) = some k ∧ ns.getD k default = p := by
 cases e : ns.findIdx? (fun n => n.id == p.id) with
 | none =>
  have := List.findIdx?_eq_none_iff.1 e p hp
  simp at this
 | some k =>
  obtain ⟨hk, h1, _⟩ := List.findIdx?_eq_some_iff_getElem.1 e
  refine ⟨k, rfl, ?_⟩
  rw [getD_iz hk]
  exact h.one (List.getElem_mem hk) hp (by simpa using h1)
theorem Up2.at {ns : List NM} (h : Up2 ns) {p : NM} (hp : p ∈ ns) : 0 ≤ atI ns p.id ∧ ns.getD (atI ns p.id).toNat default = p := by
 obtain ⟨k, e1, e2⟩ := h.find hp
 unfold atI
 rw [e1]
 exact ⟨by simp, by simpa using e2⟩
theorem Up2.climbs {ns : List NM} (h : Up2 ns) {p : NM} (hp : p ∈ ns) (f : Nat) : climbs ns (f + 1) p.id = if p.parent = 1 then true else climbs ns f p.parent := by
 obtain ⟨k, e1, e2⟩ := h.find hp
 conv => lhs; unfold Go.Proofs.YtakhagkhngmpaaaGreat.climbs
 rw [e1]
 dsimp only
 rw [e2]
theorem Up2.below {ns : List NM} (h : Up2 ns) {p : NM} (hp : p ∈ ns) (f : Nat) (top : Int) : belowF ns (f + 1) p.id top = if p.id = top then true else belowF ns f p.parent top := by
 obtain ⟨k, e1, e2⟩ := h.find hp
 conv => lhs; unfold belowF
 rw [e1]
 dsimp only
 rw [e2]
theorem climbs_mem {ns : List NM} {f : Nat} {c : Int} (h : climbs ns f c = true) : ∃ p ∈ ns, p.id = c := by
 cases f with
 | zero => simp [climbs] at h
 | succ f =>
  unfold climbs at h
  cases e : ns.findIdx? (fun n => n.id == c) with
  | none => rw [e] at h; simp at h
  | some k =>
   obtain ⟨hk, h1, _⟩ := List.findIdx?_eq_some_iff_getElem.1 e
   exact ⟨ns[k], List.getElem_mem hk, by simpa using h1⟩
structure TP (T : TM) : Prop where
 len : T.nodes.length ≤ 14
 nx : T.next ≤ 100000
 up : Up2 T.nodes
 lt : ∀ n ∈ T.nodes, n.id < T.next
 first : ∃ r rest, T.nodes = r :: rest ∧ firstOk r = true
 kind : ∀ n ∈ T.nodes, (if n.dir then dirOk n else fileOk n) = true
 rest : ∀ n ∈ T.nodes, n.id ≠ 1 → nameB n.name = true ∧ (∃ p ∈ T.nodes, p.id = n.parent ∧ p.dir = true) ∧ climbs T.nodes 4 n.id = true
 uniq : T.nodes.Pairwise (fun a b => ¬ (a.parent = b.parent ∧ a.name = b.name))
theorem firstOk_id {r : NM} (h : firstOk r = true) : r.id = 1 ∧ r.parent = 0 := by
 unfold firstOk at h
 simp only [Bool.and_eq_true, beq_iff_eq] at h
 exact ⟨h.1.1.1.1, h.1.1.1.2⟩
theorem up_of {ns : List NM} (h : ∀ i, 0 < i → ∀ hi : i < ns.length, ns[i - 1].id < ns[i].id) : Up2 ns := by
 refine List.pairwise_iff_getElem.2 fun i j hi hj hij => ?_
 induction j with
 | zero => omega
 | succ j ih =>
  have h1 := h (j + 1) (by omega) hj
  simp only [Nat.add_sub_cancel] at h1
  rcases Nat.eq_or_lt_of_le (Nat.le_of_lt_succ hij) with e | e
  ·subst e; exact h1
  ·have := ih (by omega) e; omega
theorem TP.of {T : TM} (h : treeOk T = true) : TP T := by
 obtain ⟨l1, l2, l3⟩ := tree_len h
 have hg : ∀ i (hi : i < T.nodes.length), T.nodes.getD i default = T.nodes[i] := fun i hi => getD_iz hi
 have hn : ∀ i (hi : i < T.nodes.length), T.nodes[i].id < T.next ∧ (if i = 0 then firstOk T.nodes[i] = true else T.nodes[i - 1].id < T.nodes[i].id) ∧ (if T.nodes[i].dir then dirOk T.nodes[i] else fileOk T.nodes[i]) = true ∧ (i ≠ 0 → nameB T.nodes[i].name = true ∧ 0 ≤ atI T.nodes T.nodes[i].parent ∧ (T.nodes.getD (atI T.nodes T.nodes[i].parent).toNat default).dir = true ∧ (∀ j (hj : j < i), ¬ (T.nodes[j].parent = T.nodes[i].parent ∧ T.nodes[j].name = T.nodes[i].name)) ∧ climbs T.nodes 4 T.nodes[i].id = true) := by
  intro i hi
  have h1 := tree_node h i hi
  unfold nodeOk at h1
  rw [hg i hi, hg (i - 1) (by omega)] at h1
  simp only [Bool.and_eq_true, Bool.or_eq_true, decide_eq_true_eq, List.all_eq_true, List.mem_range] at h1
  obtain ⟨⟨⟨b1, b2⟩, b3⟩, b4⟩ := h1
  refine ⟨b1, ?_, b3, fun h0 => ?_⟩
  ·split
   ·rename_i e; rw [if_pos e] at b2; exact b2
   ·rename_i e; rw [if_neg e] at b2; simpa using b2
  ·rcases b4 with b4 | b4
   ·exact absurd b4 h0
   ·obtain ⟨⟨⟨⟨c1, c2⟩, c3⟩, c4⟩, c5⟩ := b4
    refine ⟨c1, c2, c3, fun j hj => ?_, c5⟩
    have := c4 j hj
    rw [hg j (by omega)] at this
    rintro ⟨x, y⟩
    simp [x, y] at this
 have up : Up2 T.nodes := up_of fun i h0 hi => by have := (hn i hi).2.1; rw [if_neg (by omega)] at this; exact this
 have hr := (hn 0 (by omega)).2.1
 rw [if_pos rfl] at hr
 refine ⟨l2, l3, up, ?_, ?_, ?_, ?_, ?_⟩
 ·intro n hm
  obtain ⟨i, hi, rfl⟩ := List.getElem_of_mem hm
  exact (hn i hi).1
 ·cases e : T.nodes with
  | nil => rw [e] at l1; simp at l1
  | cons r rest => exact ⟨r, rest, rfl, by simpa [e] using hr⟩
 ·intro n hm
  obtain ⟨i, hi, rfl⟩ := List.getElem_of_mem hm
  exact (hn i hi).2.2.1
 ·intro n hm h1
  obtain ⟨i, hi, rfl⟩ := List.getElem_of_mem hm
  have h0 : i ≠ 0 := fun e => by subst e; exact h1 (firstOk_id hr).1
  obtain ⟨c1, c2, c3, _, c5⟩ := (hn i hi).2.2.2 h0
  refine ⟨c1, ?_, c5⟩
  rcases atI_cases T.nodes T.nodes[i].parent with ⟨e, _⟩ | ⟨k, hk, e1, e2⟩
  ·rw [e] at c2; omega
  ·rw [e1] at c3
   simp only [Int.toNat_natCast] at c3
   rw [hg k hk] at c3
   exact ⟨_, List.getElem_mem hk, e2, c3⟩
 ·refine List.pairwise_iff_getElem.2 fun i j hi hj hij => ?_
  exact ((hn j hj).2.2.2 (by omega)).2.2.2.1 i hij
theorem TP.ok {T : TM} (h : TP T) : treeOk T = true := by
 obtain ⟨r, rest, er, hr⟩ := h.first
 have l1 : 1 ≤ T.nodes.length := by rw [er]; simp
 have hg : ∀ i (hi : i < T.nodes.length), T.nodes.getD i default = T.nodes[i] := fun i hi => getD_iz hi
 have h0 : T.nodes[0] = r := by simp [er]
 have hup := List.pairwise_iff_getElem.1 h.up
 have huq := List.pairwise_iff_getElem.1 h.uniq
 unfold treeOk
 simp only [Bool.and_eq_true, decide_eq_true_eq, List.all_eq_true, List.mem_range]
 refine ⟨⟨⟨l1, h.len⟩, h.nx⟩, fun i hi => ?_⟩
 unfold nodeOk
 rw [hg i hi, hg (i - 1) (by omega)]
 have hm : T.nodes[i] ∈ T.nodes := List.getElem_mem hi
 simp only [Bool.and_eq_true, Bool.or_eq_true, decide_eq_true_eq, List.all_eq_true, List.mem_range]
 refine ⟨⟨⟨h.lt _ hm, ?_⟩, h.kind _ hm⟩, ?_⟩
 ·split
  ·rename_i e; subst e; rw [h0]; exact hr
  ·rename_i e; simpa using hup (i - 1) i (by omega) hi (by omega)
 ·by_cases e : i = 0
  ·exact .inl e
  ·right
   have hid : T.nodes[i].id ≠ 1 := by
    have := hup 0 i (by omega) hi (by omega)
    rw [h0, (firstOk_id hr).1] at this
    omega
   obtain ⟨c1, ⟨p, hp, e1, e2⟩, c3⟩ := h.rest _ hm hid
   obtain ⟨a1, a2⟩ := h.up.at hp
   rw [e1] at a1 a2
   refine ⟨⟨⟨⟨c1, a1⟩, by rw [a2]; exact e2⟩, fun j hj => ?_⟩, c3⟩
   have := huq j i (by omega) hi hj
   rw [hg j (by omega)]
   by_cases x : T.nodes[j].parent = T.nodes[i].parent
   ·by_cases y : T.nodes[j].name = T.nodes[i].name
    ·exact absurd ⟨x, y⟩ this
    ·simp [y]
   ·simp [x]
theorem TP.pos {T : TM} (h : TP T) {n : NM} (hn : n ∈ T.nodes) : 1 ≤ n.id := by
 obtain ⟨r, rest, er, hr⟩ := h.first
 have hu := h.up
 rw [er] at hn hu
 rcases List.mem_cons.1 hn with rfl | hm
 ·have := (firstOk_id hr).1; omega
 ·have := (List.pairwise_cons.1 hu).1 n hm; have := (firstOk_id hr).1; omega
theorem TP.root {T : TM} (h : TP T) {top : Int} (h0 : top ≠ 0) (h1 : top ≠ 1) (m : Nat) : belowF T.nodes m 1 top = false := by
 obtain ⟨r, rest, er, hr⟩ := h.first
 have hm : r ∈ T.nodes := by rw [er]; simp
 obtain ⟨q1, q2⟩ := firstOk_id hr
 cases m with
 | zero => rfl
 | succ m =>
  have := h.up.below hm m top
  rw [q1, q2] at this
  rw [this, if_neg (Ne.symm h1)]
  cases m with
  | zero => rfl
  | succ m =>
   refine belowF_none (Ne.symm h0) ?_
   rw [List.findIdx?_eq_none_iff]
   intro n hn
   have := h.pos hn
   simp
   omega
theorem TP.steps {T : TM} (h : TP T) {top : Int} (h0 : top ≠ 0) (h1 : top ≠ 1) : ∀ (f : Nat) (p : NM), p ∈ T.nodes → climbs T.nodes f p.id = true → ∀ m, f + 1 ≤ m → belowF T.nodes (m + 1) p.id top = belowF T.nodes m p.id top
 | 0, p, _, hc, _, _ => by simp [climbs] at hc
 | f + 1, p, hp, hc, m, hm => by
  obtain ⟨m, rfl⟩ : ∃ q, m = q + 1 := ⟨m - 1, by omega⟩
  rw [h.up.below hp, h.up.below hp]
  split
  ·rfl
  rw [h.up.climbs hp] at hc
  by_cases e : p.parent = 1
  ·rw [e, h.root h0 h1, h.root h0 h1]
  ·rw [if_neg e] at hc
   obtain ⟨q, hq, e2⟩ := climbs_mem hc
   rw [← e2] at hc ⊢
   exact TP.steps h h0 h1 f q hq hc m (by omega)
theorem TP.keep {T : TM} (h : TP T) {top : Int} (h0 : top ≠ 0) (h1 : top ≠ 1) {n p : NM} (hn : n ∈ T.nodes) (hp : p ∈ T.nodes) (e : p.id = n.parent) (hk : belowF T.nodes 15 n.id top = false) : belowF T.nodes 15 p.id top = false := by
 rw [h.up.below hn] at hk
 split at hk
 ·simp at hk
 by_cases e1 : p.id = 1
 ·rw [e1, h.root h0 h1]
 ·rw [h.steps h0 h1 4 p hp (h.rest p hp e1).2.2 14 (by omega), e]
  exact hk
theorem TP.drop {T : TM} (h : TP T) {top : Int} (h0 : top ≠ 0) (h1 : top ≠ 1) : TP (dropT T top) := by
 have hmem : ∀ n, n ∈ (dropT T top).nodes ↔ n ∈ T.nodes ∧ belowF T.nodes 15 n.id top = false := fun n => by simp [dropT]
 have hup : Up2 (dropT T top).nodes := List.Pairwise.filter _ h.up
 obtain ⟨r, rest, er, hr⟩ := h.first
 have hcl : ∀ f n, n ∈ T.nodes → belowF T.nodes 15 n.id top = false → climbs T.nodes f n.id = true → climbs (dropT T top).nodes f n.id = true := by
  intro f
  induction f with
  | zero => intro n _ _ hc; simp [climbs] at hc
  | succ f ih =>
   intro n hn hk hc
   rw [h.up.climbs hn] at hc
   rw [hup.climbs ((hmem n).2 ⟨hn, hk⟩)]
   by_cases e : n.parent = 1
   ·rw [if_pos e]
   ·rw [if_neg e] at hc ⊢
    obtain ⟨q, hq, e2⟩ := climbs_mem hc
    rw [← e2] at hc ⊢
    exact ih q hq (h.keep h0 h1 hn hq e2 hk) hc
 refine ⟨Nat.le_trans (List.length_filter_le _ _) h.len, h.nx, hup, fun n hn => h.lt n ((hmem n).1 hn).1, ?_, fun n hn => h.kind n ((hmem n).1 hn).1, ?_, List.Pairwise.filter _ h.uniq⟩
 ·have hkr : belowF T.nodes 15 r.id top = false := by rw [(firstOk_id hr).1]; exact h.root h0 h1 15
  refine ⟨r, rest.filter (fun n => !belowF T.nodes 15 n.id top), ?_, hr⟩
  show T.nodes.filter (fun n => !belowF T.nodes 15 n.id top) = _
  generalize hb : (fun n : NM => !belowF T.nodes 15 n.id top) = b
  have hbr : b r = true := by rw [← hb]; simp [hkr]
  rw [er, List.filter_cons, if_pos hbr]
 ·intro n hn hid
  obtain ⟨hm, hk⟩ := (hmem n).1 hn
  obtain ⟨c1, ⟨p, hp, e1, e2⟩, c3⟩ := h.rest n hm hid
  exact ⟨c1, ⟨p, (hmem p).2 ⟨hp, h.keep h0 h1 hm hp e1 hk⟩, e1, e2⟩, hcl 4 n hm hk c3⟩
theorem dropT_ok {T : TM} {top : Int} (h : treeOk T = true) (h0 : top ≠ 0) (h1 : top ≠ 1) : treeOk (dropT T top) = true := ((TP.of h).drop h0 h1).ok
theorem find_low {ns : List NM} : ∀ (L : List ByteArray) (c : Int), c ≠ 0 → L ≠ [] → findF ns L c = 0 ∨ ∃ n ∈ ns, n.parent ≠ 0 ∧ n.id = findF ns L c
 | [], _, _, h => absurd rfl h
 | p :: ps, c, hc, _ => by
  unfold findF
  split
  ·exact .inl rfl
  ·rename_i h0
   cases ps with
   | nil =>
    rcases kid_mem ns c p ns 0 with e | ⟨n, hn, e1, -, e⟩
    ·exact absurd e h0
    ·exact .inr ⟨n, hn, by rw [e1]; exact hc, e⟩
   | cons q qs => exact find_low (q :: qs) _ h0 (by simp)
theorem named_low {T : TM} {p : ByteArray} (h : treeOk T = true) (hp : named p = true) (h0 : findX T p ≠ 0) : findX T p ≠ 1 := by
 have hP := TP.of h
 have hne : (splitB p).1 ≠ [] := by
  unfold named parentB at hp
  split at hp
  ·rename_i q; exact q.2
  ·simp at hp
 intro e
 have h2 : findX T p = findF T.nodes (splitB p).1 1 := by
  unfold findX at h0 ⊢
  split at h0
  ·rename_i q; rw [if_pos q]
  ·exact absurd rfl h0
 rcases find_low (ns := T.nodes) (splitB p).1 1 (by omega) hne with q | ⟨n, hn, h3, h4⟩
 ·rw [h2] at h0; exact h0 q
 ·obtain ⟨r, rest, er, hr⟩ := hP.first
  have hm : r ∈ T.nodes := by rw [er]; simp
  have : n = r := hP.up.one hn hm (by rw [h4, ← h2, e, (firstOk_id hr).1])
  rw [this] at h3
  exact h3 (firstOk_id hr).2
theorem addX_ok {T : TM} {p : ByteArray} {x : NM} (h : treeOk T = true) : treeOk (addX T p x).1 = true := by
 unfold addX
 split
 ·exact h
 split
 ·exact h
 split
 ·exact h
 split
 ·exact h
 ·rename_i q
  have : ¬ treeOk (addT T p x) = false := fun e => q (.inr (.inr e))
  simpa using this
theorem moveX_ok {T : TM} {p : ByteArray} {id : Int} (h : treeOk T = true) : treeOk (moveX T p id).1 = true := by
 unfold moveX
 split
 ·exact h
 split
 ·exact h
 split
 ·exact h
 split
 ·exact h
 split
 ·exact h
 ·rename_i q
  simpa using q
theorem edit_numz {e : EM} (h : editOk e = true) (h10 : e.kind ≠ 10) : 1 ≤ e.kind ∧ e.kind ≤ 10 ∧ pathBad e = false ∧ (e.kind = 5 → 1 ≤ e.num ∧ e.num ≤ 3) ∧ (e.kind = 6 → 0 ≤ e.num ∧ e.num ≤ 1000) ∧ (e.kind = 7 → 1 ≤ e.num ∧ e.num ≤ 200) ∧ (e.kind = 9 → 0 ≤ e.who ∧ e.who ≤ 9) := by
 unfold editOk at h
 rw [if_neg h10] at h
 simp only [Bool.and_eq_true, inI_iff, Bool.not_eq_true'] at h
 obtain ⟨⟨a1, a2⟩, a3, a4⟩ := h
 unfold numsOk at a4
 refine ⟨a1, a2, a3, fun q => ?_, fun q => ?_, fun q => ?_, fun q => ?_⟩
 ·simp [q, inI_iff] at a4; omega
 ·simp [q, inI_iff] at a4; omega
 ·simp [q, inI_iff] at a4; omega
 ·simp [q, inI_iff] at a4; omega
theorem applyX_ok {T : TM} {e : EM} {g : Int} (h : treeOk T = true) : treeOk (applyX T e g).1 = true := by
 unfold applyX
 split
 ·exact h
 rename_i hm
 have hm' : mayX T e g = true := by simpa using hm
 unfold mayX at hm'
 simp only [Bool.and_eq_true, inI_iff] at hm'
 obtain ⟨⟨-, he⟩, g1, g2⟩ := hm'
 split
 ·exact h
 rename_i h10
 obtain ⟨k1, k2, hpb, n5, n6, n7, n9⟩ := edit_numz he h10
 split
 ·exact addX_ok h
 split
 ·exact addX_ok h
 split
 ·exact h
 rename_i h1 h2 hf
 obtain ⟨k, hk, e1, e2⟩ := find_there hf
 have hpl : plc T (findX T e.path) < T.nodes.length := by unfold plc; rw [e1]; simpa using hk
 split
 ·exact moveX_ok h
 rename_i h3
 split
 ·rename_i h4
  refine dropT_ok h hf (named_low h ?_ hf)
  unfold pathBad at hpb
  simp [h4] at hpb
  exact hpb.1.1
 rename_i h4
 split
 ·rename_i q
  refine setX_ok h hpl ?_
  rcases q with q | q
  ·exact .inl ⟨q, n5 q⟩
  ·exact .inr ⟨q, n6 q⟩
 ·rename_i q
  exact writeX_ok h hpl (fun q9 q8 => n7 (by omega)) n9 g1 g2
theorem stepX_ok {s : TM × Int} {e : EM} (h : treeOk s.1 = true) : treeOk (stepX s e).1 = true := by
 unfold stepX
 split
 ·exact applyX_ok h
 ·exact h
theorem allX_ok {T : TM} (es : List EM) (g : Int) (h : treeOk T = true) : treeOk (allX T es g).1 = true := by
 unfold allX
 have : ∀ (es : List EM) (s : TM × Int), treeOk s.1 = true → treeOk (es.foldl stepX s).1 = true := by
  intro es
  induction es with
  | nil => intro s hs; exact hs
  | cons e es ih => intro s hs; exact ih _ (stepX_ok hs)
 exact this es (T, g) h
inductive Way (ns : List NM) : NM → List NM → Prop
 | root {r : NM} : r ∈ ns → r.id = 1 → r.parent = 0 → Way ns r []
 | step {n p : NM} {L : List NM} : n ∈ ns → n.id ≠ 1 → p ∈ ns → p.id = n.parent → Way ns p L → Way ns n (L ++ [n])
theorem Way.mem {ns : List NM} {n : NM} {L : List NM} (h : Way ns n L) : n ∈ ns := by
 cases h with
 | root h => exact h
 | step h => exact h
theorem Way.det {ns : List NM} (hu : Up2 ns) {n : NM} {L : List NM} (h : Way ns n L) : ∀ {M : List NM}, Way ns n M → L = M := by
 induction h with
 | root h1 h2 _ =>
  intro M h'
  cases h' with
  | root => rfl
  | step _ h3 => exact absurd h2 h3
 | @step n p L h1 h2 h3 h4 h5 ih =>
  intro M h'
  cases h' with
  | root _ q => exact absurd q h2
  | @step _ p' L' _ _ q3 q4 q5 =>
   have : p = p' := hu.one h3 q3 (by rw [h4, q4])
   subst this
   rw [ih q5]
theorem TP.one {T : TM} (h : TP T) {r : NM} (hr : r ∈ T.nodes) (e : r.id = 1) : r.parent = 0 := by
 obtain ⟨r', rest, er, hf⟩ := h.first
 have : r = r' := h.up.one hr (by rw [er]; simp) (by rw [e, (firstOk_id hf).1])
 rw [this]
 exact (firstOk_id hf).2
theorem TP.root_in {T : TM} (h : TP T) : ∃ r ∈ T.nodes, r.id = 1 ∧ r.parent = 0 ∧ firstOk r = true := by
 obtain ⟨r, rest, er, hr⟩ := h.first
 exact ⟨r, by rw [er]; simp, (firstOk_id hr).1, (firstOk_id hr).2, hr⟩
theorem TP.way {T : TM} (h : TP T) : ∀ (f : Nat) {n : NM}, n ∈ T.nodes → (n.id = 1 ∨ climbs T.nodes f n.id = true) → ∃ L, Way T.nodes n L ∧ L.length ≤ f := by
 obtain ⟨r, hr, r1, r0, _⟩ := h.root_in
 intro f
 induction f with
 | zero =>
  intro n hn hc
  rcases hc with e | hc
  ·exact ⟨[], .root hn e (h.one hn e), Nat.le_refl _⟩
  ·simp [climbs] at hc
 | succ f ih =>
  intro n hn hc
  by_cases e1 : n.id = 1
  ·exact ⟨[], .root hn e1 (h.one hn e1), by simp⟩
  have hc := hc.resolve_left e1
  rw [h.up.climbs hn] at hc
  by_cases e : n.parent = 1
  ·exact ⟨[] ++ [n], .step hn e1 hr (by rw [r1, e]) (.root hr r1 r0), by simp⟩
  ·rw [if_neg e] at hc
   obtain ⟨q, hq, e2⟩ := climbs_mem hc
   rw [← e2] at hc
   obtain ⟨L, hL, hl⟩ := ih hq (.inr hc)
   exact ⟨L ++ [n], .step hn e1 hq e2 hL, by simp; omega⟩
theorem TP.way4 {T : TM} (h : TP T) {n : NM} (hn : n ∈ T.nodes) : ∃ L, Way T.nodes n L ∧ L.length ≤ 4 := by
 refine h.way 4 hn ?_
 by_cases e : n.id = 1
 ·exact .inl e
 ·exact .inr (h.rest n hn e).2.2
theorem Way.all {ns : List NM} {n : NM} {L : List NM} (h : Way ns n L) : ∀ m ∈ L, m ∈ ns ∧ m.id ≠ 1 := by
 induction h with
 | root => intro m hm; simp at hm
 | @step n p L h1 h2 h3 h4 h5 ih =>
  intro m hm
  rcases List.mem_append.1 hm with q | q
  ·exact ih m q
  ·rw [List.mem_singleton.1 q]; exact ⟨h1, h2⟩
theorem TP.below_way {T : TM} (h : TP T) {n : NM} {L : List NM} (hw : Way T.nodes n L) : ∀ (f : Nat) {top : Int}, L.length < f → top ≠ 0 → belowF T.nodes f n.id top = (decide (top = 1) || L.any (fun m => decide (m.id = top))) := by
 induction hw with
 | @root r h1 h2 h3 =>
  intro f top hf h0
  obtain ⟨f, rfl⟩ : ∃ q, f = q + 1 := ⟨f - 1, by omega⟩
  rw [h.up.below h1, h2, h3]
  by_cases e : (1 : Int) = top
  ·simp [e]
  ·rw [if_neg e]
   have e' : ¬ top = 1 := fun q => e q.symm
   simp only [e', decide_false, List.any_nil, Bool.or_false]
   cases f with
   | zero => rfl
   | succ f =>
    refine belowF_none (Ne.symm h0) ?_
    rw [List.findIdx?_eq_none_iff]
    intro n hn
    have := h.pos hn
    simp
    omega
 | @step n p L h1 h2 h3 h4 h5 ih =>
  intro f top hf h0
  obtain ⟨f, rfl⟩ : ∃ q, f = q + 1 := ⟨f - 1, by omega⟩
  rw [h.up.below h1, ← h4]
  have hl : L.length < f := by simp at hf; omega
  rw [ih f hl h0, List.any_append]
  by_cases e : n.id = top
  ·simp [e]
  ·rw [if_neg e]; simp [e]
def blB (T : TM) (n : NM) (top : Int) : Bool := belowF T.nodes 15 n.id top
def sm (f : NM → Int) : List NM → Int
 | [] => 0
 | n :: ns => f n + sm f ns
theorem sm_congr {f g : NM → Int} : ∀ {ns : List NM}, (∀ n ∈ ns, f n = g n) → sm f ns = sm g ns
 | [], _ => rfl
 | n :: ns, h => by simp only [sm]; rw [h n (by simp), sm_congr (fun m hm => h m (by simp [hm]))]
theorem usedL_sm {T : TM} (h : TP T) (P : NM → Bool) : ∀ ns : List NM, (∀ n ∈ ns, n ∈ T.nodes) → usedL T.nodes ((ns.filter P).map NM.id) = sm (fun n => if P n = true then n.len else 0) ns
 | [], _ => rfl
 | n :: ns, hm => by
  have ih := usedL_sm h P ns (fun m q => hm m (by simp [q]))
  have ha := (h.up.at (hm n (by simp))).2
  simp only [sm, List.filter_cons]
  cases hP : P n with
  | false => simp only [Bool.false_eq_true, if_false]; rw [ih]; omega
  | true =>
   simp only [if_true, List.map_cons]
   have : usedL T.nodes (n.id :: (ns.filter P).map NM.id) = (T.nodes.getD (atI T.nodes n.id).toNat default).len + usedL T.nodes ((ns.filter P).map NM.id) := rfl
   rw [this, ih, ha]
theorem used_sm {T : TM} (h : treeOk T = true) {x : NM} (hx : x ∈ T.nodes) : usedX T x.id = sm (fun n => if blB T n x.id = true then n.len else 0) T.nodes := by
 have hp := TP.of h
 unfold usedX belowX
 rw [if_pos ⟨h, (hp.up.at hx).1⟩]
 exact usedL_sm hp (fun n => belowF T.nodes 15 n.id x.id) T.nodes (fun _ q => q)
theorem newX_ok9 : treeOk newX = true := by decide
theorem drawn_ok (es : List EM) : treeOk (allX newX es 1).1 = true := allX_ok es 1 newX_ok9
theorem kid_keep (c : Int) (nm : ByteArray) : ∀ (ns : List NM) (z : Int), z ≠ 0 → ns.foldl (kidS c nm) z = z
 | [], z, _ => rfl
 | n :: ns, z, hz => by
  rw [List.foldl_cons]
  have : kidS c nm z n = z := by unfold kidS; rw [if_neg (by intro q; exact hz q.2.2)]
  rw [this]
  exact kid_keep c nm ns z hz
theorem kid_find (c : Int) (nm : ByteArray) : ∀ (ns : List NM), (∀ n ∈ ns, n.id ≠ 0) → kidF ns c nm = match ns.find? (fun n => n.parent == c && decide (n.name = nm)) with
  | none => 0
  | some n => n.id
 | [], _ => rfl
 | n :: ns, h => by
  have ih := kid_find c nm ns (fun m hm => h m (by simp [hm]))
  unfold kidF at ih ⊢
  rw [List.foldl_cons]
  by_cases e : n.parent = c ∧ n.name = nm
  ·have e1 : kidS c nm 0 n = n.id := by unfold kidS; rw [if_pos ⟨e.1, e.2, rfl⟩]
   rw [e1, kid_keep c nm ns n.id (h n (by simp)), List.find?_cons_of_pos (by simp [e.1, e.2])]
  ·have e1 : kidS c nm 0 n = 0 := by unfold kidS; rw [if_neg (by intro q; exact e ⟨q.1, q.2.1⟩)]
   rw [e1, ih, List.find?_cons_of_neg (by simpa using e)]
theorem TP.same {T : TM} (h : TP T) {a b : NM} (ha : a ∈ T.nodes) (hb : b ∈ T.nodes) (e1 : a.parent = b.parent) (e2 : a.name = b.name) : a = b := by
 obtain ⟨i, hi, rfl⟩ := List.getElem_of_mem ha
 obtain ⟨j, hj, rfl⟩ := List.getElem_of_mem hb
 have hp := List.pairwise_iff_getElem.1 h.uniq
 rcases Nat.lt_trichotomy i j with q | q | q
 ·exact absurd ⟨e1, e2⟩ (hp i j hi hj q)
 ·subst q; rfl
 ·exact absurd ⟨e1.symm, e2.symm⟩ (hp j i hj hi q)
theorem TP.nz {T : TM} (h : TP T) : ∀ n ∈ T.nodes, n.id ≠ 0 := fun n hn => by have := h.pos hn; omega
theorem TP.kid {T : TM} (h : TP T) {n : NM} (hn : n ∈ T.nodes) : kidF T.nodes n.parent n.name = n.id := by
 rw [kid_find _ _ _ h.nz]
 cases e : T.nodes.find? (fun m => m.parent == n.parent && decide (m.name = n.name)) with
 | none =>
  have := List.find?_eq_none.1 e n hn
  simp at this
 | some m =>
  have h1 := List.find?_some e
  have h2 := List.mem_of_find?_eq_some e
  simp only [Bool.and_eq_true, beq_iff_eq, decide_eq_true_eq] at h1
  rw [h.same h2 hn h1.1 h1.2]
theorem TP.kid_inv {T : TM} (h : TP T) {c : Int} {nm : ByteArray} (h0 : kidF T.nodes c nm ≠ 0) : ∃ n ∈ T.nodes, n.parent = c ∧ n.name = nm ∧ n.id = kidF T.nodes c nm := by
 rw [kid_find _ _ _ h.nz] at h0 ⊢
 cases e : T.nodes.find? (fun m => m.parent == c && decide (m.name = nm)) with
 | none => rw [e] at h0; exact absurd rfl h0
 | some m =>
  have h1 := List.find?_some e
  simp only [Bool.and_eq_true, beq_iff_eq, decide_eq_true_eq] at h1
  exact ⟨m, List.mem_of_find?_eq_some e, h1.1, h1.2, rfl⟩
theorem TP.find_inv {T : TM} (h : TP T) : ∀ (M : List ByteArray) {p : NM} {L : List NM}, Way T.nodes p L → findF T.nodes M p.id ≠ 0 → ∃ n K, Way T.nodes n K ∧ n.id = findF T.nodes M p.id ∧ K.map NM.name = L.map NM.name ++ M
 | [], p, L, hw, _ => ⟨p, L, hw, rfl, by simp⟩
 | s :: M, p, L, hw, h0 => by
  unfold findF at h0 ⊢
  by_cases e : kidF T.nodes p.id s = 0
  ·rw [if_pos e] at h0; exact absurd rfl h0
  ·rw [if_neg e] at h0 ⊢
   obtain ⟨n, hn, e1, e2, e3⟩ := h.kid_inv e
   have hn1 : n.id ≠ 1 := fun q => by
    have := h.one hn q
    exact h.nz p hw.mem (by rw [← e1, this])
   have hw2 : Way T.nodes n (L ++ [n]) := .step hn hn1 hw.mem e1.symm hw
   rw [← e3] at h0 ⊢
   obtain ⟨m, K, q1, q2, q3⟩ := TP.find_inv h M hw2 h0
   exact ⟨m, K, q1, q2, by rw [q3, List.map_append]; simp [e2]⟩
theorem root_at {T : TM} (h : TP T) : 0 ≤ atI T.nodes 1 := by
 obtain ⟨r, hr, r1, _⟩ := h.root_in
 have := (h.up.at hr).1
 rw [r1] at this
 exact this
theorem found_way {T : TM} (h : treeOk T = true) {p : ByteArray} (h0 : findX T p ≠ 0) : ∃ n K, Way T.nodes n K ∧ n.id = findX T p ∧ joinB (K.map NM.name) = p ∧ K.length ≤ 4 ∧ (splitB p) = (K.map NM.name, true) := by
 have hp := TP.of h
 unfold findX at h0 ⊢
 by_cases hs : (splitB p).2 = true ∧ 0 ≤ atI T.nodes 1
 ·rw [if_pos hs] at h0 ⊢
  obtain ⟨r, hr, r1, r0, _⟩ := hp.root_in
  rw [← r1] at h0 ⊢
  obtain ⟨n, K, q1, q2, q3⟩ := hp.find_inv _ (.root hr r1 r0) h0
  rw [List.map_nil, List.nil_append] at q3
  refine ⟨n, K, q1, q2, by rw [q3]; exact joinB_split hs.1, ?_, by rw [q3, ← hs.1]⟩
  have := (splitB_names p).2
  rw [← q3, List.length_map] at this
  exact this
 ·rw [if_neg hs] at h0; exact absurd rfl h0
theorem Way.nil {ns : List NM} {n : NM} (h : Way ns n []) : n.id = 1 := by
 generalize e : ([] : List NM) = L at h
 cases h with
 | root _ h => exact h
 | step => simp at e
def clm (ns : List NM) : Nat → Nat → Bool
 | 0, j => (ns.getD j default).id == 1
 | f + 1, j => match fid ns (ns.getD j default).parent with
  | none => (ns.getD j default).id == 1
  | some k => clm ns f k
theorem clm_none {ns : List NM} {f j : Nat} (h : fid ns (ns.getD j default).parent = none) : clm ns f j = ((ns.getD j default).id == 1) := by
 cases f with
 | zero => rfl
 | succ f => conv => lhs; unfold clm
             rw [h]
theorem clm_some {ns : List NM} {f j k : Nat} (h : fid ns (ns.getD j default).parent = some k) : clm ns (f + 1) j = clm ns f k := by
 conv => lhs; unfold clm
 rw [h]
theorem Asc.id_one {ns : List NM} (h : Asc ns) {j : Nat} (hj : j < ns.length) : ((ns.getD j default).id == 1) = decide (j = 0) := by
 rw [getD_in hj]
 by_cases e : j = 0
 ·subst e
  have := h.2.2.1
  rw [getD_in hj] at this
  simp [this]
 ·have := h.lt j hj 0 (by omega)
  rw [h.2.2.1] at this
  have h2 : ¬ ns[j].id = 1 := by omega
  simp [h2, e]
theorem clm_ups {ns : List NM} (h : Asc ns) : ∀ f j, j < ns.length → clm ns f j = true → ∃ d, d ≤ f ∧ Ups ns j d := by
 intro f
 induction f with
 | zero =>
  intro j hj hc
  unfold clm at hc
  rw [h.id_one hj] at hc
  obtain rfl := of_decide_eq_true hc
  exact ⟨0, Nat.le_refl _, .root⟩
 | succ f ih =>
  intro j hj hc
  cases hp : fid ns (ns.getD j default).parent with
  | none =>
   rw [clm_none hp, h.id_one hj] at hc
   obtain rfl := of_decide_eq_true hc
   exact ⟨0, Nat.zero_le _, .root⟩
  | some k =>
   rw [clm_some hp] at hc
   obtain ⟨d, hd, hu⟩ := ih k (fid_lt hp).1 hc
   refine ⟨d + 1, by omega, .step hj (fun e => ?_) hp hu⟩
   subst e
   rw [h.2.2.2, h.zero] at hp
   cases hp
theorem ups_clm {ns : List NM} (h : Asc ns) {j d : Nat} (hu : Ups ns j d) : ∀ f, d ≤ f → clm ns f j = true := by
 induction hu with
 | root =>
  intro f _
  rw [clm_none (by rw [h.2.2.2]; exact h.zero), h.id_one h.2.1]
  rfl
 | step hj h0 hp _ ih =>
  intro f hf
  cases f with
  | zero => omega
  | succ f => rw [clm_some hp]; exact ih f (by omega)
theorem clm_climbs {ns : List NM} (h : Asc ns) {j : Nat} (hj : j < ns.length) (h0 : j ≠ 0) : clm ns 4 j = climbs ns 4 (ns.getD j default).id := by
 have hf := h.fid hj
 rw [← getD_in hj] at hf
 cases hc : climbs ns 4 (ns.getD j default).id with
 | true =>
  obtain ⟨d, hd, hu⟩ := climbs_ups h 4 _ j hc hf h0
  exact ups_clm h hu 4 hd
 | false =>
  refine Bool.eq_false_iff.2 fun hm => ?_
  obtain ⟨d, hd, hu⟩ := clm_ups h 4 j hj hm
  rw [ups_climbs h 4 j d hu h0 hd] at hc
  cases hc
theorem belowF_no {ns : List NM} (h : Asc ns) {top : Int} (hn : fid ns top = none) (h0 : top ≠ 0) {i d : Nat} (hu : Ups ns i d) : ∀ f, belowF ns f (ns.getD i default).id top = false := by
 have hne : ∀ j, j < ns.length → (ns.getD j default).id ≠ top := fun j hj e => fid_none hn _ (by rw [getD_in hj] at e; exact List.getElem_mem hj) (by rw [getD_in hj] at e; exact e)
 induction hu with
 | root =>
  intro f
  cases f with
  | zero => rfl
  | succ f =>
   rw [belowF_some (i := 0) (hne 0 h.2.1) (by rw [h.2.2.1]; exact h.one), h.2.2.2]
   cases f with
   | zero => rfl
   | succ f => exact belowF_none (fun e => h0 e.symm) h.zero
 | @step i k d hi _ hk _ ih =>
  intro f
  cases f with
  | zero => rfl
  | succ f =>
   have hf := h.fid hi
   rw [← getD_in hi] at hf
   rw [belowF_some (hne i hi) hf]
   obtain ⟨hkl, ek⟩ := fid_lt hk
   rw [← ek, ← getD_in hkl]
   exact ih f
def blw (ns : List NM) (i : Nat) (top : Int) : Bool := decide (top ≠ 0) && belowF ns 15 (ns.getD i default).id top
def firstB (ns : List NM) (i : Nat) : Bool := match fnm ns (ns.getD i default).parent (ns.getD i default).name with
 | some k => (ns.getD k default).id == (ns.getD i default).id
 | none => false
theorem firstB_some {ns : List NM} {i k : Nat} (h : fnm ns (ns.getD i default).parent (ns.getD i default).name = some k) : firstB ns i = ((ns.getD k default).id == (ns.getD i default).id) := by
 unfold firstB
 rw [h]
def dirB (ns : List NM) (p : Int) : Bool := match fid ns p with
 | some k => (ns.getD k default).dir
 | none => false
theorem dirB_some {ns : List NM} {p : Int} {k : Nat} (h : fid ns p = some k) : dirB ns p = (ns.getD k default).dir := by
 unfold dirB
 rw [h]
theorem dirB_none {ns : List NM} {p : Int} (h : fid ns p = none) : dirB ns p = false := by
 unfold dirB
 rw [h]
def placeB (ns : List NM) (i : Nat) : Bool := nameB (ns.getD i default).name && firstB ns i && dirB ns (ns.getD i default).parent && clm ns 4 i
def Tall (ns : List NM) : Prop := Asc ns ∧ ∀ i, i < ns.length → ∃ d, d ≤ 4 ∧ Ups ns i d
def idsB (T : TM) : Bool := decide (T.next ≤ 100000) && (List.range T.nodes.length).all fun i => decide ((T.nodes.getD i default).id < T.next) && (decide (i = 0) || decide ((T.nodes.getD (i - 1) default).id < (T.nodes.getD i default).id))
def rootB (n : NM) : Bool := (n.id == 1) && (n.parent == 0) && decide (n.name = ⟨#[]⟩) && n.dir && inI n.schema 1 3
def kindB (n : NM) : Bool := if n.dir then dirOk n else fileOk n
theorem fnm_self {ns : List NM} {i : Nat} (hi : i < ns.length) : ∃ k, fnm ns ns[i].parent ns[i].name = some k ∧ k ≤ i := by
 cases hf : fnm ns ns[i].parent ns[i].name with
 | none => exact absurd rfl (fnm_none hf _ (List.getElem_mem hi) rfl)
 | some k =>
  refine ⟨k, rfl, Nat.le_of_not_lt fun hlt => ?_⟩
  exact fnm_first hf i hlt hi rfl rfl
theorem place_eq {ns : List NM} (h : Asc ns) {i : Nat} (hi : i < ns.length) (h0 : i ≠ 0) : placeB ns i = (nameB (ns.getD i default).name && decide (0 ≤ atI ns (ns.getD i default).parent) && (ns.getD (atI ns (ns.getD i default).parent).toNat default).dir &&
  (List.range i).all (fun j => ! (((ns.getD j default).parent == (ns.getD i default).parent) && decide ((ns.getD j default).name = (ns.getD i default).name))) && climbs ns 4 (ns.getD i default).id) := by
 unfold placeB
 rw [clm_climbs h hi h0]
 have e1 : firstB ns i = (List.range i).all (fun j => ! (((ns.getD j default).parent == (ns.getD i default).parent) && decide ((ns.getD j default).name = (ns.getD i default).name))) := by
  obtain ⟨k, hk, hki⟩ := fnm_self hi
  rw [firstB_some (k := k) (by rw [getD_in hi]; exact hk), getD_in hi]
  obtain ⟨hkl, kp, kn⟩ := fnm_lt hk
  rw [getD_in hkl]
  by_cases e : k = i
  ·subst e
   simp only [beq_self_eq_true]
   refine (List.all_eq_true.2 fun j hj => ?_).symm
   have hj' : j < k := by simpa using hj
   have := fnm_first hk j hj' (by omega)
   rw [getD_in (by omega : j < ns.length)]
   by_cases hp : ns[j].parent = ns[k].parent
   ·simp [hp, this hp]
   ·simp [hp]
  ·have hlt := h.lt i hi k (by omega)
   rw [getD_in hkl] at hlt
   have hne : (ns[k].id == ns[i].id) = false := by simp; omega
   rw [hne]
   symm
   refine Bool.eq_false_iff.2 fun hall => ?_
   have := List.all_eq_true.1 hall k (by simp; omega)
   rw [getD_in hkl] at this
   simp [kp, kn] at this
 have e2 : dirB ns (ns.getD i default).parent = (decide (0 ≤ atI ns (ns.getD i default).parent) && (ns.getD (atI ns (ns.getD i default).parent).toNat default).dir) := by
  rw [at_fid]
  cases hf : fid ns (ns.getD i default).parent with
  | none => rw [dirB_none hf]; simp
  | some k => rw [dirB_some hf]; simp
 rw [e1, e2]
 cases nameB (ns.getD i default).name <;> cases decide (0 ≤ atI ns (ns.getD i default).parent) <;> cases (ns.getD (atI ns (ns.getD i default).parent).toNat default).dir <;> cases climbs ns 4 (ns.getD i default).id <;> simp
theorem ids_asc {T : TM} (h : idsB T = true) (hr : rootB (T.nodes.getD 0 default) = true) (hl : 0 < T.nodes.length) : Asc T.nodes := by
 unfold idsB at h
 simp only [Bool.and_eq_true, decide_eq_true_eq, List.all_eq_true, List.mem_range, Bool.or_eq_true] at h
 unfold rootB at hr
 simp only [Bool.and_eq_true, beq_iff_eq, decide_eq_true_eq] at hr
 refine ⟨fun i hi h0 => ?_, hl, hr.1.1.1.1, hr.1.1.1.2⟩
 rcases (h.2 i hi).2 with e | e
 ·omega
 ·rw [getD_in hi] at e; exact e
def progB (T : TM) : Bool := inI (T.nodes.length : Int) 1 14 && idsB T && rootB (T.nodes.getD 0 default) && (List.range T.nodes.length).all fun i => kindB (T.nodes.getD i default) && (decide (i = 0) || placeB T.nodes i)
theorem prog_tree (T : TM) : progB T = treeOk T := by
 rw [Bool.eq_iff_iff]
 constructor
 ·intro h
  unfold progB at h
  simp only [Bool.and_eq_true, List.all_eq_true, List.mem_range, Bool.or_eq_true, decide_eq_true_eq] at h
  obtain ⟨⟨⟨h1, h2⟩, h3⟩, h4⟩ := h
  have hl := inI_iff.1 h1
  have ha := ids_asc h2 h3 (by omega)
  have h2' := h2
  unfold idsB at h2'
  simp only [Bool.and_eq_true, decide_eq_true_eq, List.all_eq_true, List.mem_range, Bool.or_eq_true] at h2'
  refine treeOk_yes h1 h2'.1 fun i hi => ?_
  obtain ⟨k1, k2⟩ := h4 i hi
  unfold nodeOk
  rw [decide_eq_true (h2'.2 i hi).1]
  by_cases e : i = 0
  ·subst e
   have h3' := h3
   unfold rootB at h3'
   simp only [Bool.and_eq_true, beq_iff_eq, decide_eq_true_eq] at h3'
   have hs := inI_iff.1 h3'.2
   unfold kindB at k1
   rw [if_pos h3'.1.2] at k1
   unfold firstOk
   rw [if_pos rfl, if_pos h3'.1.2, k1, h3'.1.1.1.1, h3'.1.1.1.2, h3'.1.1.2, h3'.1.2]
   have : ((T.nodes.getD 0 default).schema != 0) = true := by rw [bne_iff_ne]; omega
   rw [this]
   rfl
  ·rw [if_neg e]
   have h5 := (h2'.2 i hi).2.resolve_left e
   rw [decide_eq_true h5]
   unfold kindB at k1
   rw [k1, ← place_eq ha hi e]
   simp [k2.resolve_left e]
 ·intro h
  have h14 := treeOk_14 h
  obtain ⟨hl, he, _⟩ := treeOk_first h
  have hn : ∀ i, i < T.nodes.length → nodeOk T i = true := fun i hi => treeOk_node h hi
  have hnx : T.next ≤ 100000 := by
   unfold treeOk at h
   simp only [Bool.and_eq_true, decide_eq_true_eq] at h
   exact h.1.2
  have h0 := hn 0 hl
  unfold nodeOk at h0
  rw [if_pos rfl] at h0
  simp only [Bool.and_eq_true, decide_eq_true_eq] at h0
  obtain ⟨⟨⟨_, hf⟩, hk0⟩, _⟩ := h0
  unfold firstOk at hf
  simp only [Bool.and_eq_true, beq_iff_eq, decide_eq_true_eq, bne_iff_ne] at hf
  have hr : rootB (T.nodes.getD 0 default) = true := by
   unfold rootB
   rw [hf.1.1.1.1, hf.1.1.1.2, hf.1.1.2, hf.1.2]
   rw [if_pos hf.1.2] at hk0
   unfold dirOk at hk0
   simp only [Bool.and_eq_true] at hk0
   have := inI_iff.1 hk0.1.1.1.1
   have : inI (T.nodes.getD 0 default).schema 1 3 = true := inI_iff.2 ⟨by omega, by omega⟩
   rw [this]
   rfl
  have hids : idsB T = true := by
   unfold idsB
   rw [decide_eq_true hnx]
   simp only [Bool.true_and]
   refine List.all_eq_true.2 fun i hi => ?_
   have hi' : i < T.nodes.length := by simpa using hi
   have h1 := hn i hi'
   unfold nodeOk at h1
   simp only [Bool.and_eq_true] at h1
   rw [h1.1.1.1]
   by_cases e : i = 0
   ·simp [e]
   ·have h2 := h1.1.1.2
    rw [if_neg e] at h2
    rw [h2]
    simp
  have ha := ids_asc hids hr hl
  unfold progB
  rw [hids, hr, inI_iff.2 ⟨by omega, by omega⟩]
  simp only [Bool.true_and]
  refine List.all_eq_true.2 fun i hi => ?_
  have hi' : i < T.nodes.length := by simpa using hi
  have h1 := hn i hi'
  unfold nodeOk at h1
  simp only [Bool.and_eq_true, Bool.or_eq_true] at h1
  unfold kindB
  rw [h1.1.2]
  by_cases e : i = 0
  ·simp [e]
  ·have h2 := h1.2.resolve_left (by simp [e])
   rw [place_eq ha hi' e]
   simp only [Bool.true_and, Bool.or_eq_true]
   right
   simp only [Bool.and_eq_true]
   exact h2
theorem tree_tall {T : TM} (h : treeOk T = true) : Tall T.nodes := by
 rw [← prog_tree] at h
 unfold progB at h
 simp only [Bool.and_eq_true, List.all_eq_true, List.mem_range, Bool.or_eq_true, decide_eq_true_eq] at h
 obtain ⟨⟨⟨h1, h2⟩, h3⟩, h4⟩ := h
 have hl := inI_iff.1 h1
 have ha := ids_asc h2 h3 (by omega)
 refine ⟨ha, fun i hi => ?_⟩
 by_cases e : i = 0
 ·subst e; exact ⟨0, by omega, .root⟩
 ·have := (h4 i hi).2.resolve_left e
  unfold placeB at this
  simp only [Bool.and_eq_true] at this
  exact clm_ups ha 4 i hi this.2
end Go.Proofs.YtakhagkhngmpaaaGreat
/- TreK: . -/
namespace Go.Proofs.YtakhagkhngmpaaaGreat
set_option maxRecDepth 100000
open Go.RowKit
attribute [local go_sem ↓] Go.wp_at_zero Go.wp_at_succ
def Mk9 (V W : World) (v : Value) (m : Nat) (L : List ByteArray) : Prop := Below V.heap.size V W ∧ W.ownsRow V.heap.size 9 1 v m (tv L)
theorem Mk9.drew {V W : World} {v : Value} {m : Nat} {L : List ByteArray} (h : Mk9 V W v m L) (q : Nat) : Mk9 V (W.drewN q) v m L := by
 have hb : Below W.heap.size W (W.drewN q) := ⟨rfl, rfl, rfl, Nat.le_refl _, fun _ _ => rfl⟩
 exact ⟨h.1.trans (hb.mono h.1.size), h.2.kept (row := none) ⟨hb.os, hb.tape, hb.output, hb.size, fun k hk _ => hb.block k hk⟩ (Classical.em _)⟩
theorem Mk9.snoc {V W W' : World} {v v' : Value} {m : Nat} {L : List ByteArray} {x : ByteArray} {o : Obj} (h : Mk9 V W v m L) (ho : W'.ownsRow V.heap.size 9 1 v' (m + 1) (tv L ++ [.string x])) (hg : (W.alloc o).grownBy W' v.ownBlock) : Mk9 V W' v' (m + 1) (L ++ [x]) := by
 have hb := h.1.alloc h.1.size o
 refine ⟨hb.grown hg hb.size (fun k hk => (h.2.lt k hk).1), ?_⟩
 have e : tv (L ++ [x]) = tv L ++ [.string x] := by simp [tv]
 rw [e]
 exact ho
attribute [local irreducible] nodeOk treeOk atI joinB nameB
end Go.Proofs.YtakhagkhngmpaaaGreat
/- LkS: . -/
namespace Go.Proofs.YtakhagkhngmpaaaGreat
set_option maxRecDepth 100000
theorem below_mem {T : TM} (h : treeOk T = true) {n x : NM} (hn : n ∈ T.nodes) (hx : x ∈ T.nodes) : n.id ∈ belowX T x.id ↔ blB T n x.id = true := by
 have hp := TP.of h
 unfold belowX blB
 rw [if_pos ⟨h, (hp.up.at hx).1⟩]
 unfold belowL
 constructor
 ·intro q
  obtain ⟨m, hm, e⟩ := List.mem_map.1 q
  obtain ⟨h1, h2⟩ := List.mem_filter.1 hm
  rw [← e]
  exact h2
 ·intro q
  exact List.mem_map.2 ⟨n, List.mem_filter.2 ⟨hn, q⟩, rfl⟩
def mustP (e : EM) : ByteArray := if e.kind = 1 ∨ e.kind = 2 then (parentB e.path).1 else e.path
def plcRef (T : TM) (p : ByteArray) : Int := if upX T p = 0 then 1 else if (ndAt T (plc T (upX T p))).dir = false then 3 else if findX T p ≠ 0 then 2 else 0
def filRef (x : NM) (held : Bool) : Int := if x.dir = true then 3 else if (held != (x.writer != 0)) = true then 6 else 0
def movRef (T : TM) (id : Int) (p : ByteArray) : Int := if plcRef T p ≠ 0 then plcRef T p else if (belowX T id).contains (upX T p) = true then 7 else 0
def dirRef (x : NM) : Int := if x.dir = false then 3 else 0
def quoRef (T : TM) (x : NM) (q : Int) : Int := if dirRef x ≠ 0 then dirRef x else if 0 < q ∧ q < usedX T x.id then 5 else 0
def addRef (T : TM) (x : NM) (l : Int) : Int := if filRef x true ≠ 0 then filRef x true else if roomX T x.id l = false ∨ 1000 < x.len + l then 5 else 0
def refX (T : TM) (e : EM) (x : NM) : Int :=
 if e.kind = 1 then plcRef T e.path
 else if e.kind = 2 then plcRef T e.path
 else if e.kind = 3 then movRef T x.id e.dest
 else if e.kind = 5 then dirRef x
 else if e.kind = 6 then quoRef T x e.num
 else if e.kind = 7 then addRef T x e.num
 else if e.kind = 8 then filRef x true
 else if e.kind = 9 then filRef x false
 else 0
def chT (T : TM) (e : EM) (k : Nat) (g : Int) : TM :=
 if e.kind = 1 then addT T e.path newDir
 else if e.kind = 2 then addT T e.path (newFile e.who)
 else if e.kind = 3 then setN T k { ndAt T k with parent := upX T e.dest, name := (parentB e.dest).2.1 }
 else if e.kind = 4 then dropT T (ndAt T k).id
 else if e.kind = 5 then setN T k { ndAt T k with schema := e.num }
 else if e.kind = 6 then setN T k { ndAt T k with quota := e.num }
 else if e.kind = 7 then setN T k { ndAt T k with pieces := (ndAt T k).pieces ++ newP g (spansX (ndAt T k).schema e.num), len := (ndAt T k).len + e.num }
 else if e.kind = 8 then setN T k { ndAt T k with writer := 0 }
 else if e.kind = 9 then setN T k { ndAt T k with writer := e.who }
 else T
def takX (T : TM) (e : EM) (k : Nat) : Int := if e.kind = 7 then ((spansX (ndAt T k).schema e.num).length : Int) else if e.kind = 10 then 20 else 0
def noT : TM := ⟨[], 0⟩
def stpX (T : TM) (e : EM) (g : Int) : TM × Int × Int :=
 if mayX T e g = false then (noT, 0, 7)
 else if findX T (mustP e) = 0 then (noT, 0, 1)
 else if refX T e (ndAt T (plc T (findX T (mustP e)))) ≠ 0 then (noT, 0, refX T e (ndAt T (plc T (findX T (mustP e)))))
 else if treeOk (chT T e (plc T (findX T (mustP e))) g) = false then (noT, 0, 8)
 else (chT T e (plc T (findX T (mustP e))) g, takX T e (plc T (findX T (mustP e))), 0)
theorem found_at {T : TM} (h : treeOk T = true) {p : ByteArray} (h0 : findX T p ≠ 0) : plc T (findX T p) < T.nodes.length ∧ (ndAt T (plc T (findX T p))).id = findX T p ∧ ndAt T (plc T (findX T p)) ∈ T.nodes := by
 obtain ⟨n, K, hw, e, _⟩ := found_way h h0
 have hp := TP.of h
 obtain ⟨k, hk, e2⟩ := hp.up.find hw.mem
 have hkl : k < T.nodes.length := (List.findIdx?_eq_some_iff_getElem.1 hk).1
 have hat : atI T.nodes n.id = (k : Int) := by unfold atI; rw [hk]
 have hpl : plc T (findX T p) = k := by unfold plc; rw [← e, hat]; rfl
 rw [hpl]
 have : ndAt T k = n := e2
 rw [this]
 exact ⟨hkl, e, hw.mem⟩
theorem find_root {T : TM} (h : treeOk T = true) : findX T ⟨#[47]⟩ = 1 := by
 unfold findX
 have e : splitB ⟨#[47]⟩ = ([], true) := by decide
 rw [e, if_pos ⟨rfl, root_at (TP.of h)⟩]
 rfl
theorem may_parts {T : TM} {e : EM} {g : Int} (h : mayX T e g = true) : treeOk T = true ∧ editOk e = true ∧ 1 ≤ g ∧ g ≤ 99000 := by
 unfold mayX at h
 simp only [Bool.and_eq_true, inI_iff] at h
 exact ⟨h.1.1, h.1.2, h.2.1, h.2.2⟩
theorem kind_in {e : EM} (h : editOk e = true) : 1 ≤ e.kind ∧ e.kind ≤ 10 := by
 unfold editOk at h
 rw [Bool.and_eq_true, inI_iff] at h
 exact h.1
theorem boot_path {e : EM} (h : editOk e = true) (h10 : e.kind = 10) : e.path = ⟨#[47]⟩ := by
 unfold editOk at h
 rw [Bool.and_eq_true, if_pos h10] at h
 simp only [Bool.and_eq_true, beq_iff_eq, Go.ByteArray.toList_eq] at h
 have := h.2.1.1.1
 exact ByteArray.ext (Array.toList_inj.1 this)
theorem more_nodes {T : TM} {p : ByteArray} {x : NM} (h : T.nodes.length = 14 ∨ T.next = 100000) : treeOk (addT T p x) = false := by
 refine Bool.eq_false_iff.2 fun hc => ?_
 obtain ⟨_, h2, h3⟩ := tree_len hc
 unfold addT at h2 h3
 simp only [List.length_append, List.length_singleton] at h2
 rcases h with q | q
 ·omega
 ·have : (T.next + 1 : Int) ≤ 100000 := h3
  omega
theorem add_is {T : TM} {p : ByteArray} {x : NM} (hu : upX T p ≠ 0) : addX T p x = if plcRef T p ≠ 0 then (T, plcRef T p) else if treeOk (addT T p x) = false then (T, 8) else (addT T p x, 0) := by
 unfold addX plcRef
 rw [if_neg hu, if_neg hu]
 by_cases h1 : (ndAt T (plc T (upX T p))).dir = false
 ·rw [if_pos h1, if_pos h1]; rfl
 ·rw [if_neg h1, if_neg h1]
  by_cases h2 : findX T p ≠ 0
  ·rw [if_pos h2, if_pos h2]; rfl
  ·rw [if_neg h2, if_neg h2]
   by_cases h3 : treeOk (addT T p x) = false
   ·simp only [h3, or_true, if_true]; rfl
   ·have h4 : ¬ (T.nodes.length = 14 ∨ T.next = 100000) := fun q => h3 (more_nodes q)
    rw [if_neg (fun q => by rcases q with q | q | q; exact h4 (.inl q); exact h4 (.inr q); exact h3 q), if_neg h3]
    rfl
theorem up_below {T : TM} (h : treeOk T = true) {p : ByteArray} {x : NM} (hx : x ∈ T.nodes) (hu : upX T p ≠ 0) : (belowX T x.id).contains (upX T p) = belowF T.nodes 15 (upX T p) x.id := by
 obtain ⟨_, e, hm⟩ := found_at h (p := (parentB p).1) hu
 have h1 := below_mem h hm hx
 have e' : (ndAt T (plc T (upX T p))).id = upX T p := e
 change (ndAt T (plc T (upX T p))).id ∈ belowX T x.id ↔ blB T (ndAt T (plc T (upX T p))) x.id = true at h1
 unfold blB at h1
 rw [e'] at h1
 rw [Bool.eq_iff_iff, List.contains_iff_mem]
 exact h1
theorem move_is {T : TM} (h : treeOk T = true) {p : ByteArray} {x : NM} (hx : x ∈ T.nodes) : moveX T p x.id = if movRef T x.id p ≠ 0 then (T, movRef T x.id p) else if treeOk (moveT T p x.id) = false then (T, 8) else (moveT T p x.id, 0) := by
 unfold moveX movRef plcRef
 by_cases h0 : upX T p = 0
 ·rw [if_pos h0, if_pos h0]; rfl
 rw [if_neg h0, if_neg h0]
 by_cases h1 : (ndAt T (plc T (upX T p))).dir = false
 ·rw [if_pos h1, if_pos h1]; rfl
 rw [if_neg h1, if_neg h1]
 by_cases h2 : findX T p ≠ 0
 ·rw [if_pos h2, if_pos h2]; rfl
 rw [if_neg h2, if_neg h2, up_below h hx h0]
 by_cases h3 : belowF T.nodes 15 (upX T p) x.id = true
 ·rw [if_pos h3, if_pos h3]; rfl
 rw [if_neg h3, if_neg h3]
 rfl
theorem nd_set {T : TM} {k : Nat} {x : NM} (hk : k < T.nodes.length) : ndAt (setN T k x) k = x := by
 unfold ndAt setN
 simp [List.getD, hk]
theorem too_many {T : TM} {k : Nat} {x : NM} (hk : k < T.nodes.length) (h : 40 < x.pieces.length) : treeOk (setN T k x) = false := by
 refine Bool.eq_false_iff.2 fun hc => ?_
 have hk2 : k < (setN T k x).nodes.length := by unfold setN; simpa using hk
 have := (node_parts hc k hk2).2.1
 rw [← nd_mem hk2, nd_set hk] at this
 omega
theorem stp_apply (T : TM) (e : EM) (g : Int) : (stpX T e g).2.2 = (applyX T e g).2 ∧ ((applyX T e g).2 = 0 → (stpX T e g).1 = (applyX T e g).1) ∧ ((applyX T e g).2 ≠ 0 → (applyX T e g).1 = T) ∧ g + (stpX T e g).2.1 = groupsX T e g := by
 by_cases hm : mayX T e g = false
 ·have h1 : applyX T e g = (T, 7) := by unfold applyX; rw [if_pos hm]
  have h2 : stpX T e g = (noT, 0, 7) := by unfold stpX; rw [if_pos hm]
  unfold groupsX
  rw [h1, h2]
  simp
 have hm' : mayX T e g = true := by simpa using hm
 obtain ⟨hT, hE, g1, g2⟩ := may_parts hm'
 obtain ⟨hk1, hk2⟩ := kind_in hE
 -- the pattern: what the model does is a code, or a tree and no code
 have key : ∀ (k : Nat) (r : Int) (C : TM) (t : Int), findX T (mustP e) ≠ 0 → plc T (findX T (mustP e)) = k → refX T e (ndAt T k) = r → chT T e k g = C → takX T e k = t →
   applyX T e g = (if r ≠ 0 then (T, r) else if treeOk C = false then (T, 8) else (C, 0)) →
   (r = 0 → treeOk C = true → groupsX T e g = g + t) →
   (stpX T e g).2.2 = (applyX T e g).2 ∧ ((applyX T e g).2 = 0 → (stpX T e g).1 = (applyX T e g).1) ∧ ((applyX T e g).2 ≠ 0 → (applyX T e g).1 = T) ∧ g + (stpX T e g).2.1 = groupsX T e g := by
  intro k r C t hf hk hr hC ht ha hg
  have hs : stpX T e g = if r ≠ 0 then (noT, 0, r) else if treeOk C = false then (noT, 0, 8) else (C, t, 0) := by
   unfold stpX
   rw [if_neg hm, if_neg hf, hk, hr, hC, ht]
  by_cases q1 : r ≠ 0
  ·have hgx : groupsX T e g = g := by unfold groupsX; rw [ha, if_pos q1, if_pos q1]
   rw [hs, ha, hgx, if_pos q1, if_pos q1]
   exact ⟨rfl, fun q => absurd q q1, fun _ => rfl, by simp⟩
  ·by_cases q2 : treeOk C = false
   ·have hgx : groupsX T e g = g := by unfold groupsX; rw [ha, if_neg q1, if_pos q2]; rfl
    rw [hs, ha, hgx, if_neg q1, if_neg q1, if_pos q2, if_pos q2]
    exact ⟨rfl, fun q => absurd (show (8 : Int) = 0 from q) (by decide), fun _ => rfl, by simp⟩
   ·have hgx := hg (by simpa using q1) (by simpa using q2)
    rw [hs, ha, hgx, if_neg q1, if_neg q1, if_neg q2, if_neg q2]
    exact ⟨rfl, fun _ => rfl, fun q => absurd rfl q, rfl⟩
 have gz : ∀ {t : Int}, t = 0 → e.kind ≠ 7 → e.kind ≠ 10 → (groupsX T e g = g + t) := fun {t} ht h7 h10 => by
  unfold groupsX
  rw [if_neg h10, if_pos h7, ht]
  split <;> simp
 have tz : ∀ k, e.kind ≠ 7 → e.kind ≠ 10 → takX T e k = 0 := fun k h7 h10 => by unfold takX; rw [if_neg h7, if_neg h10]
 by_cases k10 : e.kind = 10
 ·have hp := boot_path hE k10
  have hmp : mustP e = ⟨#[47]⟩ := by unfold mustP; rw [if_neg (by omega), hp]
  have hf : findX T (mustP e) = 1 := by rw [hmp]; exact find_root hT
  refine key _ 0 T 20 (by rw [hf]; decide) rfl (by unfold refX; simp [k10]) (by unfold chT; simp [k10]) (by unfold takX; simp [k10]) (by unfold applyX; simp [hm', k10, hT]) (fun _ _ => ?_)
  unfold groupsX applyX
  simp [hm', k10]
 by_cases k1 : e.kind = 1
 ·have hmp : mustP e = (parentB e.path).1 := by unfold mustP; rw [if_pos (.inl k1)]
  by_cases hf : upX T e.path = 0
  ·have hf' : findX T (mustP e) = 0 := by rw [hmp]; exact hf
   have h1 : applyX T e g = (T, 1) := by unfold applyX addX; simp [hm', k1, hf]
   have h2 : stpX T e g = (noT, 0, 1) := by unfold stpX; rw [if_neg hm, if_pos hf']
   unfold groupsX
   rw [h1, h2]
   simp
  ·refine key _ (plcRef T e.path) (addT T e.path newDir) 0 (by rw [hmp]; exact hf) rfl (by unfold refX; rw [if_pos k1]) (by unfold chT; rw [if_pos k1]) (tz _ (by omega) (by omega)) ?_ (fun _ _ => gz rfl (by omega) (by omega))
   have : applyX T e g = addX T e.path newDir := by unfold applyX; simp [hm', k1]
   rw [this, add_is hf]
 by_cases k2 : e.kind = 2
 ·have hmp : mustP e = (parentB e.path).1 := by unfold mustP; rw [if_pos (.inr k2)]
  by_cases hf : upX T e.path = 0
  ·have hf' : findX T (mustP e) = 0 := by rw [hmp]; exact hf
   have h1 : applyX T e g = (T, 1) := by unfold applyX addX; simp [hm', k2, hf]
   have h2 : stpX T e g = (noT, 0, 1) := by unfold stpX; rw [if_neg hm, if_pos hf']
   unfold groupsX
   rw [h1, h2]
   simp
  ·refine key _ (plcRef T e.path) (addT T e.path (newFile e.who)) 0 (by rw [hmp]; exact hf) rfl (by unfold refX; rw [if_neg k1, if_pos k2]) (by unfold chT; rw [if_neg k1, if_pos k2]) (tz _ (by omega) (by omega)) ?_ (fun _ _ => gz rfl (by omega) (by omega))
   have : applyX T e g = addX T e.path (newFile e.who) := by unfold applyX; simp [hm', k2]
   rw [this, add_is hf]
 have hmp : mustP e = e.path := by unfold mustP; rw [if_neg (by omega)]
 by_cases hf : findX T e.path = 0
 ·have hf' : findX T (mustP e) = 0 := by rw [hmp]; exact hf
  have h1 : applyX T e g = (T, 1) := by unfold applyX; simp [hm', k1, k2, k10, hf]
  have h2 : stpX T e g = (noT, 0, 1) := by unfold stpX; rw [if_neg hm, if_pos hf']
  unfold groupsX
  rw [h1, h2]
  simp
 have hf' : findX T (mustP e) ≠ 0 := by rw [hmp]; exact hf
 obtain ⟨hkl, hid, hmem⟩ := found_at hT hf
 obtain ⟨k, hk⟩ : ∃ k, k = plc T (findX T e.path) := ⟨_, rfl⟩
 have hkm : plc T (findX T (mustP e)) = k := by rw [hmp, hk]
 rw [← hk] at hkl hid hmem
 obtain ⟨n1, n2, n3, n5, n6, n7, n9⟩ := edit_numz hE k10
 have hap : applyX T e g = if e.kind = 3 then moveX T e.dest (findX T e.path) else if e.kind = 4 then (dropT T (findX T e.path), 0) else if e.kind = 5 ∨ e.kind = 6 then setX T e k else writeX T e k g := by
  unfold applyX
  rw [if_neg hm, if_neg k10, if_neg k1, if_neg k2, if_neg hf, ← hk]
 by_cases k3 : e.kind = 3
 ·refine key k (movRef T (ndAt T k).id e.dest) _ 0 hf' hkm (by unfold refX; rw [if_neg k1, if_neg k2, if_pos k3]) rfl (tz _ (by omega) (by omega)) ?_ (fun _ _ => gz rfl (by omega) (by omega))
  rw [hap, if_pos k3, ← hid, move_is hT hmem]
  have : chT T e k g = moveT T e.dest (ndAt T k).id := by
   unfold chT moveT
   rw [if_neg k1, if_neg k2, if_pos k3, hid, ← hk]
  rw [this]
 by_cases k4 : e.kind = 4
 ·have hnm : named e.path = true := by
   unfold pathBad at n3
   simp [k4] at n3
   exact n3.1.1
  have hok := dropT_ok hT hf (named_low hT hnm hf)
  refine key k 0 _ 0 hf' hkm (by unfold refX; simp [k4]) rfl (tz _ (by omega) (by omega)) ?_ (fun _ _ => gz rfl (by omega) (by omega))
  have : chT T e k g = dropT T (findX T e.path) := by unfold chT; simp [k4, hid]
  rw [hap, if_neg k3, if_pos k4, this, hok]
  simp
 by_cases k5 : e.kind = 5
 ·have hok := setX_ok (e := e) hT hkl (.inl ⟨k5, n5 k5⟩)
  refine key k (dirRef (ndAt T k)) _ 0 hf' hkm (by unfold refX; simp [k5]) rfl (tz _ (by omega) (by omega)) ?_ (fun _ _ => gz rfl (by omega) (by omega))
  have hc : chT T e k g = setN T k { ndAt T k with schema := e.num } := by unfold chT; simp [k5]
  rw [hap, if_neg k3, if_neg k4, if_pos (.inl k5), hc]
  unfold setX at hok ⊢
  unfold dirRef
  by_cases hd : (ndAt T k).dir = false
  ·rw [if_pos hd, if_pos hd]; rfl
  ·rw [if_neg hd, if_pos k5] at hok
   rw [if_neg hd, if_neg hd, if_pos k5]
   simp only [hok]
   rfl
 by_cases k6 : e.kind = 6
 ·have hok := setX_ok (e := e) hT hkl (.inr ⟨k6, n6 k6⟩)
  refine key k (quoRef T (ndAt T k) e.num) _ 0 hf' hkm (by unfold refX; simp [k6]) rfl (tz _ (by omega) (by omega)) ?_ (fun _ _ => gz rfl (by omega) (by omega))
  obtain ⟨x, hx⟩ : ∃ x, x = { ndAt T k with quota := e.num } := ⟨_, rfl⟩
  have hc : chT T e k g = setN T k x := by rw [hx]; unfold chT; simp [k6]
  rw [hap, if_neg k3, if_neg k4, if_pos (.inr k6), hc]
  unfold setX at hok ⊢
  rw [← hx] at hok ⊢
  by_cases hd : (ndAt T k).dir = false
  ·have hr : quoRef T (ndAt T k) e.num = 3 := by unfold quoRef dirRef; simp [hd]
   rw [if_pos hd, hr]; rfl
  ·have hr : quoRef T (ndAt T k) e.num = if 0 < e.num ∧ e.num < usedX T (ndAt T k).id then 5 else 0 := by unfold quoRef dirRef; simp [hd]
   rw [if_neg hd, if_neg k5] at hok
   rw [if_neg hd, if_neg k5, hr]
   by_cases hq : 0 < e.num ∧ e.num < usedX T (ndAt T k).id
   ·rw [if_pos hq, if_pos hq]; rfl
   ·rw [if_neg hq] at hok
    rw [if_neg hq, if_neg hq]
    simp only at hok
    rw [hok]
    rfl
 have hok := writeX_ok (e := e) (g := g) hT hkl (fun h9 h8 => n7 (by omega)) n9 g1 g2
 have hap2 : applyX T e g = writeX T e k g := by rw [hap, if_neg k3, if_neg k4, if_neg (by omega)]
 by_cases k9 : e.kind = 9
 ·refine key k (filRef (ndAt T k) false) _ 0 hf' hkm (by unfold refX; simp [k9]) rfl (tz _ (by omega) (by omega)) ?_ (fun _ _ => gz rfl (by omega) (by omega))
  have hc : chT T e k g = setN T k { ndAt T k with writer := e.who } := by unfold chT; simp [k9]
  rw [hap2, hc]
  unfold writeX at hok ⊢
  unfold filRef
  by_cases hd : (ndAt T k).dir = true
  ·rw [if_pos hd, if_pos hd]; rfl
  ·rw [if_neg hd] at hok
   rw [if_neg hd, if_neg hd]
   by_cases hw : (ndAt T k).writer = 0
   ·simp only [k9, hw] at hok ⊢
    simpa using hok
   ·simp [k9, hw]
 by_cases k8 : e.kind = 8
 ·refine key k (filRef (ndAt T k) true) _ 0 hf' hkm (by unfold refX; simp [k8]) rfl (tz _ (by omega) (by omega)) ?_ (fun _ _ => gz rfl (by omega) (by omega))
  have hc : chT T e k g = setN T k { ndAt T k with writer := 0 } := by unfold chT; simp [k8]
  rw [hap2, hc]
  unfold writeX at hok ⊢
  unfold filRef
  by_cases hd : (ndAt T k).dir = true
  ·rw [if_pos hd, if_pos hd]; rfl
  ·rw [if_neg hd] at hok
   rw [if_neg hd, if_neg hd]
   by_cases hw : (ndAt T k).writer = 0
   ·simp [k8, hw]
   ·simp only [k8] at hok ⊢
    simp [hw] at hok ⊢
    exact hok
 have k7 : e.kind = 7 := by omega
 obtain ⟨x, hx⟩ : ∃ x, x = { ndAt T k with pieces := (ndAt T k).pieces ++ newP g (spansX (ndAt T k).schema e.num), len := (ndAt T k).len + e.num } := ⟨_, rfl⟩
 have hc : chT T e k g = setN T k x := by rw [hx]; unfold chT; simp [k7]
 have hxl : x.pieces.length = (ndAt T k).pieces.length + (spansX (ndAt T k).schema e.num).length := by rw [hx, List.length_append, newP_len]
 have ha9 : applyX T e g = (if addRef T (ndAt T k) e.num ≠ 0 then (T, addRef T (ndAt T k) e.num) else if treeOk (setN T k x) = false then (T, 8) else (setN T k x, 0)) := by
  rw [hap2]
  unfold writeX at hok ⊢
  rw [← hx] at hok ⊢
  by_cases hd : (ndAt T k).dir = true
  ·have hr : addRef T (ndAt T k) e.num = 3 := by unfold addRef filRef; simp [hd]
   rw [if_pos hd, hr]; rfl
  ·rw [if_neg hd] at hok
   rw [if_neg hd]
   by_cases hw : (ndAt T k).writer = 0
   ·have hr : addRef T (ndAt T k) e.num = 6 := by unfold addRef filRef; simp [hd, hw]
    rw [hr]
    simp [k7, hw]
   ·have e1 : ((e.kind == 9) != ((ndAt T k).writer == 0)) = false := by simp [k7, hw]
    have hfr : filRef (ndAt T k) true = 0 := by unfold filRef; simp [hd, hw]
    have hr : addRef T (ndAt T k) e.num = if roomX T (ndAt T k).id e.num = false ∨ 1000 < (ndAt T k).len + e.num then 5 else 0 := by unfold addRef; rw [hfr, if_neg (by decide)]
    rw [e1, if_neg (by decide), if_neg k9, if_neg k8] at hok
    rw [e1, if_neg (by decide), if_neg k9, if_neg k8, hr]
    by_cases hro : roomX T (ndAt T k).id e.num = false ∨ 1000 < (ndAt T k).len + e.num
    ·rw [if_pos hro, if_pos hro]; rfl
    ·rw [if_neg hro] at hok
     rw [if_neg hro, if_neg hro]
     by_cases h40 : 40 < (ndAt T k).pieces.length + (spansX (ndAt T k).schema e.num).length
     ·rw [if_pos h40, too_many hkl (by rw [hxl]; exact h40)]
      rfl
     ·rw [if_neg h40] at hok
      simp only at hok
      rw [if_neg h40, hok]
      rfl
 refine key k (addRef T (ndAt T k) e.num) (setN T k x) _ hf' hkm (by unfold refX; simp [k7]) hc rfl ha9 (fun q1 q2 => ?_)
 have ha : applyX T e g = (setN T k x, 0) := by rw [ha9, q1, q2]; rfl
 unfold groupsX takX
 rw [ha, if_neg (by simp), if_neg k10, if_neg (by simp [k7]), if_pos k7, ← hk, nd_set hkl, hxl]
 push_cast
 omega
end Go.Proofs.YtakhagkhngmpaaaGreat
/- TInt: . -/
namespace Go.Proofs.YtakhagkhngmpaaaGreat
set_option maxRecDepth 100000
open Go.RowKit
theorem wf_small {x : Int} (h : 0 ≤ x ∧ x ≤ 1000000) : (Lit.int .i64 x).wf = true := by
 have h1 : IntKind.i64.min ≤ 0 := by decide
 have h2 : 1000000 ≤ IntKind.i64.max := by decide
 unfold Lit.wf
 simp
 omega
theorem tree_id {T : TM} (h : treeOk T = true) {n : NM} (hn : n ∈ T.nodes) : 0 ≤ n.id ∧ n.id ≤ 1000000 := by
 have hp := TP.of h
 have := hp.pos hn
 have := hp.lt n hn
 have := hp.nx
 omega
theorem tree_int {T : TM} (h : treeOk T = true) : NInt T.nodes := by
 have hp := TP.of h
 intro n hn
 refine ⟨wf_small (tree_id h hn), ?_⟩
 by_cases e : n.id = 1
 ·rw [hp.one hn e]; exact wf_small (by omega)
 ·obtain ⟨_, ⟨p, hpm, ep, _⟩, _⟩ := hp.rest n hn e
  rw [← ep]
  exact wf_small (tree_id h hpm)
theorem MB.less {w0 w : World} {p : Nat × List Value} {L : List (Nat × List Value)} (h : MB w0 w (p :: L)) : MB w0 w L := ⟨fun q hq => h.box q (List.mem_cons_of_mem _ hq), (List.pairwise_cons.1 h.dist).2, h.bel⟩
end Go.Proofs.YtakhagkhngmpaaaGreat
/- StN: . -/
namespace Go.Proofs.YtakhagkhngmpaaaGreat
set_option maxRecDepth 100000
def Smx (n : NM) : Prop := (0 ≤ n.id ∧ n.id ≤ 1000000) ∧ (0 ≤ n.parent ∧ n.parent ≤ 1000000) ∧ n.name.size + n.pieces.length ≤ 2000
theorem node_small {T : TM} (h : treeOk T = true) {n : NM} (hn : n ∈ T.nodes) : Smx n := by
 have hp := TP.of h
 obtain ⟨i, hi, e⟩ := List.getElem_of_mem hn
 have h1 := node_parts h i hi
 rw [e] at h1
 refine ⟨tree_id h hn, ?_, by omega⟩
 by_cases e1 : n.id = 1
 ·rw [hp.one hn e1]; omega
 ·obtain ⟨_, ⟨q, hq, eq, _⟩, _⟩ := hp.rest n hn e1
  rw [← eq]
  exact tree_id h hq
theorem find_small {T : TM} (h : treeOk T = true) (p : ByteArray) : 0 ≤ findX T p ∧ findX T p ≤ 1000000 := by
 by_cases h0 : findX T p = 0
 ·rw [h0]; omega
 ·obtain ⟨_, h2, h3⟩ := found_at h h0
  rw [← h2]
  exact tree_id h h3
theorem spanL_len (S n : Nat) (h : 1 ≤ n) : (spanL S n).length ≤ n := by
 unfold spanL
 rw [List.length_append, List.length_replicate, List.length_singleton]
 have := Nat.div_le_self (n - 1) S
 omega
theorem spans_len (s n : Int) (h : n ≤ 1000) : (spansX s n).length ≤ 1000 := by
 unfold spansX
 split
 ·rename_i q
  have := spanL_len (groupN s) n.toNat (by omega)
  omega
 ·simp
theorem set_small {T : TM} {k : Nat} {x : NM} (h : ∀ n ∈ T.nodes, Smx n) (hx : Smx x) : ∀ n ∈ (setN T k x).nodes, Smx n := by
 intro n hn
 rcases List.mem_or_eq_of_mem_set hn with q | q
 ·exact h n q
 ·rw [q]; exact hx
theorem add_small {T : TM} {p : ByteArray} {x : NM} (ht : treeOk T = true) (hx : x.pieces = []) : ∀ n ∈ (addT T p x).nodes, Smx n := by
 intro n hn
 unfold addT at hn
 rcases List.mem_append.1 hn with q | q
 ·exact node_small ht q
 ·rw [List.mem_singleton.1 q]
  have h1 := next_low ht
  have h2 := (tree_len ht).2.2
  have h3 := parent_small p
  refine ⟨⟨by show (0 : Int) ≤ T.next; omega, by show T.next ≤ 1000000; omega⟩, find_small ht (parentB p).1, ?_⟩
  show (parentB p).2.1.size + x.pieces.length ≤ 2000
  rw [hx]
  simp
  omega
theorem ch_small {T : TM} {e : EM} {k : Nat} {g : Int} (h : treeOk T = true) (hE : editOk e = true) (hk : k < T.nodes.length) : (∀ n ∈ (chT T e k g).nodes, Smx n) ∧ (chT T e k g).nodes.length ≤ 15 := by
 have ha : ∀ n ∈ T.nodes, Smx n := fun n hn => node_small h hn
 have hl := (tree_len h).2.1
 have hx := ha _ (List.getElem_mem hk)
 rw [← nd_mem hk] at hx
 have hp := node_parts h k hk
 rw [← nd_mem hk] at hp
 have hset : ∀ x, Smx x → (∀ n ∈ (setN T k x).nodes, Smx n) ∧ (setN T k x).nodes.length ≤ 15 := fun x q => ⟨set_small ha q, by unfold setN; rw [List.length_set]; omega⟩
 unfold chT
 split
 ·exact ⟨add_small h rfl, by unfold addT; simp; omega⟩
 split
 ·exact ⟨add_small h rfl, by unfold addT; simp; omega⟩
 split
 ·exact hset _ ⟨hx.1, find_small h (parentB e.dest).1, by have h3 := parent_small e.dest; show (parentB e.dest).2.1.size + (ndAt T k).pieces.length ≤ 2000; omega⟩
 split
 ·refine ⟨fun n hn => ha n (List.mem_filter.1 hn).1, ?_⟩
  have : (dropT T (ndAt T k).id).nodes.length ≤ T.nodes.length := List.length_filter_le _ _
  omega
 split
 ·exact hset _ hx
 split
 ·exact hset _ hx
 split
 ·rename_i k7
  have hn7 := (edit_numz hE (by omega)).2.2.2.2.2.1 k7
  refine hset _ ⟨hx.1, hx.2.1, ?_⟩
  have h3 := spans_len (ndAt T k).schema e.num (by omega)
  show (ndAt T k).name.size + ((ndAt T k).pieces ++ newP g (spansX (ndAt T k).schema e.num)).length ≤ 2000
  rw [List.length_append, newP_len]
  omega
 split
 ·exact hset _ hx
 split
 ·exact hset _ hx
 ·exact ⟨ha, by omega⟩
theorem small_fit {T : TM} (h : ∀ n ∈ T.nodes, Smx n) (hl : T.nodes.length ≤ 15) : NFit T ∧ NInt T.nodes := by
 refine ⟨?_, fun n hn => ⟨wf_small (h n hn).1, wf_small (h n hn).2.1⟩⟩
 have := nsum_le T.nodes 2000 (fun n hn => (h n hn).2.2)
 unfold NFit
 have h2 : 2000 * T.nodes.length ≤ 2000 * 15 := Nat.mul_le_mul_left _ hl
 omega
theorem span_ne {s n : Int} (hs : 1 ≤ s ∧ s ≤ 3) (h1 : 1 ≤ n) (h2 : n ≤ 1000) : spansX s n ≠ [] := by
 unfold spansX
 rw [if_pos ⟨by unfold schOk; simp; omega, h1, h2⟩]
 unfold spanL
 simp
inductive Took (T : TM) (e : EM) (g : Int) : TM → Prop
 | boot : e.kind = 10 → Took T e g T
 | add (x : NM) : (e.kind = 1 ∨ e.kind = 2) → x.pieces = [] → x.len = 0 → upX T e.path ≠ 0 → findX T e.path = 0 → Took T e g (addT T e.path x)
 | move : e.kind = 3 → findX T e.path ≠ 0 → findX T e.path ≠ 1 → upX T e.dest ≠ 0 → findX T e.dest = 0 → belowF T.nodes 15 (upX T e.dest) (findX T e.path) = false → Took T e g (moveT T e.dest (findX T e.path))
 | drop : e.kind = 4 → findX T e.path ≠ 0 → findX T e.path ≠ 1 → Took T e g (dropT T (findX T e.path))
 | set (x : NM) : (e.kind = 5 ∨ e.kind = 6 ∨ e.kind = 8 ∨ e.kind = 9) → findX T e.path ≠ 0 → x.id = (ndAt T (plc T (findX T e.path))).id → x.parent = (ndAt T (plc T (findX T e.path))).parent → x.name = (ndAt T (plc T (findX T e.path))).name → x.pieces = (ndAt T (plc T (findX T e.path))).pieces → x.len = (ndAt T (plc T (findX T e.path))).len → Took T e g (setN T (plc T (findX T e.path)) x)
 | more : e.kind = 7 → findX T e.path ≠ 0 → (ndAt T (plc T (findX T e.path))).dir = false → roomX T (ndAt T (plc T (findX T e.path))).id e.num = true → 1 ≤ e.num ∧ e.num ≤ 200 → (spansX (ndAt T (plc T (findX T e.path))).schema e.num).length ≤ 40 →
   Took T e g (setN T (plc T (findX T e.path)) { ndAt T (plc T (findX T e.path)) with pieces := (ndAt T (plc T (findX T e.path))).pieces ++ newP g (spansX (ndAt T (plc T (findX T e.path))).schema e.num), len := (ndAt T (plc T (findX T e.path))).len + e.num })
theorem took {T : TM} {e : EM} {g : Int} (h : (applyX T e g).2 = 0) : treeOk T = true ∧ editOk e = true ∧ Took T e g (applyX T e g).1 := by
 unfold applyX at h ⊢
 by_cases hm : mayX T e g = false
 ·rw [if_pos hm] at h; exact absurd h (by simp)
 rw [if_neg hm] at h ⊢
 obtain ⟨ht, he, g1, g2⟩ := may_parts (by simpa using hm)
 refine ⟨ht, he, ?_⟩
 by_cases h10 : e.kind = 10
 ·rw [if_pos h10]; exact .boot h10
 rw [if_neg h10] at h ⊢
 obtain ⟨k1, k2, hpb, n5, n6, n7, n9⟩ := edit_numz he h10
 have hadd : ∀ x : NM, (e.kind = 1 ∨ e.kind = 2) → x.pieces = [] → x.len = 0 → (addX T e.path x).2 = 0 → Took T e g (addX T e.path x).1 := by
  intro x hk hx1 hx2 h
  unfold addX at h ⊢
  by_cases c1 : upX T e.path = 0
  ·rw [if_pos c1] at h; exact absurd h (by simp)
  rw [if_neg c1] at h ⊢
  by_cases c2 : (ndAt T (plc T (upX T e.path))).dir = false
  ·rw [if_pos c2] at h; exact absurd h (by simp)
  rw [if_neg c2] at h ⊢
  by_cases c3 : findX T e.path ≠ 0
  ·rw [if_pos c3] at h; exact absurd h (by simp)
  rw [if_neg c3] at h ⊢
  by_cases c4 : T.nodes.length = 14 ∨ T.next = 100000 ∨ treeOk (addT T e.path x) = false
  ·rw [if_pos c4] at h; exact absurd h (by simp)
  rw [if_neg c4]
  exact .add x hk hx1 hx2 c1 (by simpa using c3)
 by_cases h1 : e.kind = 1
 ·rw [if_pos h1] at h ⊢; exact hadd _ (.inl h1) rfl rfl h
 rw [if_neg h1] at h ⊢
 by_cases h2 : e.kind = 2
 ·rw [if_pos h2] at h ⊢; exact hadd _ (.inr h2) rfl rfl h
 rw [if_neg h2] at h ⊢
 by_cases hf : findX T e.path = 0
 ·rw [if_pos hf] at h; exact absurd h (by simp)
 rw [if_neg hf] at h ⊢
 have hnm : (e.kind = 3 ∨ e.kind = 4) → findX T e.path ≠ 1 := fun q => by
  refine named_low ht ?_ hf
  unfold pathBad at hpb
  cases hn : named e.path with
  | true => rfl
  | false => exact absurd hpb (by rcases q with q | q <;> simp [q, hn])
 by_cases h3 : e.kind = 3
 ·rw [if_pos h3] at h ⊢
  unfold moveX at h ⊢
  by_cases c1 : upX T e.dest = 0
  ·rw [if_pos c1] at h; exact absurd h (by simp)
  rw [if_neg c1] at h ⊢
  by_cases c2 : (ndAt T (plc T (upX T e.dest))).dir = false
  ·rw [if_pos c2] at h; exact absurd h (by simp)
  rw [if_neg c2] at h ⊢
  by_cases c3 : findX T e.dest ≠ 0
  ·rw [if_pos c3] at h; exact absurd h (by simp)
  rw [if_neg c3] at h ⊢
  by_cases c4 : belowF T.nodes 15 (upX T e.dest) (findX T e.path) = true
  ·rw [if_pos c4] at h; exact absurd h (by simp)
  rw [if_neg c4] at h ⊢
  by_cases c5 : treeOk (moveT T e.dest (findX T e.path)) = false
  ·rw [if_pos c5] at h; exact absurd h (by simp)
  rw [if_neg c5]
  exact .move h3 hf (hnm (.inl h3)) c1 (by simpa using c3) (by simpa using c4)
 rw [if_neg h3] at h ⊢
 by_cases h4 : e.kind = 4
 ·rw [if_pos h4]; exact .drop h4 hf (hnm (.inr h4))
 rw [if_neg h4] at h ⊢
 by_cases h56 : e.kind = 5 ∨ e.kind = 6
 ·rw [if_pos h56] at h ⊢
  unfold setX at h ⊢
  by_cases c1 : (ndAt T (plc T (findX T e.path))).dir = false
  ·rw [if_pos c1] at h; exact absurd h (by simp)
  rw [if_neg c1] at h ⊢
  by_cases c2 : e.kind = 5
  ·rw [if_pos c2]; exact .set _ (.inl c2) hf rfl rfl rfl rfl rfl
  rw [if_neg c2] at h ⊢
  by_cases c3 : 0 < e.num ∧ e.num < usedX T (ndAt T (plc T (findX T e.path))).id
  ·rw [if_pos c3] at h; exact absurd h (by simp)
  rw [if_neg c3]
  exact .set _ (.inr (.inl (h56.resolve_left c2))) hf rfl rfl rfl rfl rfl
 rw [if_neg h56] at h ⊢
 unfold writeX at h ⊢
 by_cases c1 : (ndAt T (plc T (findX T e.path))).dir = true
 ·rw [if_pos c1] at h; exact absurd h (by simp)
 rw [if_neg c1] at h ⊢
 by_cases c2 : ((e.kind == 9) != ((ndAt T (plc T (findX T e.path))).writer == 0)) = true
 ·rw [if_pos c2] at h; exact absurd h (by simp)
 rw [if_neg c2] at h ⊢
 by_cases c3 : e.kind = 9
 ·rw [if_pos c3]; exact .set _ (.inr (.inr (.inr c3))) hf rfl rfl rfl rfl rfl
 rw [if_neg c3] at h ⊢
 by_cases c4 : e.kind = 8
 ·rw [if_pos c4]; exact .set _ (.inr (.inr (.inl c4))) hf rfl rfl rfl rfl rfl
 rw [if_neg c4] at h ⊢
 by_cases c5 : roomX T (ndAt T (plc T (findX T e.path))).id e.num = false ∨ 1000 < (ndAt T (plc T (findX T e.path))).len + e.num
 ·rw [if_pos c5] at h; exact absurd h (by simp)
 rw [if_neg c5] at h ⊢
 by_cases c6 : 40 < (ndAt T (plc T (findX T e.path))).pieces.length + (spansX (ndAt T (plc T (findX T e.path))).schema e.num).length
 ·rw [if_pos c6] at h; exact absurd h (by simp)
 rw [if_neg c6]
 have h7 : e.kind = 7 := by omega
 refine .more h7 hf (by simpa using c1) ?_ (n7 h7) (by omega)
 rcases Bool.eq_false_or_eq_true (roomX T (ndAt T (plc T (findX T e.path))).id e.num) with q | q
 ·exact q
 ·exact absurd (.inl q) c5
theorem not_took {T : TM} {e : EM} {g : Int} (h : (applyX T e g).2 ≠ 0) : (applyX T e g).1 = T ∧ groupsX T e g = g :=
 ⟨(stp_apply T e g).2.2.1 h, by unfold groupsX; rw [if_pos h]⟩
theorem took_groups {T : TM} {e : EM} {g : Int} (h : (applyX T e g).2 = 0) : groupsX T e g = if e.kind = 10 then g + 20 else if e.kind = 7 then g + ((spansX (ndAt T (plc T (findX T e.path))).schema e.num).length : Int) else g := by
 obtain ⟨ht, he, hT⟩ := took h
 unfold groupsX
 rw [if_neg (by simpa using h)]
 by_cases h10 : e.kind = 10
 ·rw [if_pos h10, if_pos h10]
 rw [if_neg h10, if_neg h10]
 by_cases h7 : e.kind = 7
 ·rw [if_neg (by simpa using h7), if_pos h7]
  generalize (applyX T e g).1 = R at hT ⊢
  cases hT with
  | boot q => omega
  | add x q => omega
  | move q => omega
  | drop q => omega
  | set x q => omega
  | more q hf _ _ _ _ =>
   rw [nd_set (found_at ht hf).1]
   simp only [List.length_append, newP_len]
   push_cast
   omega
 ·rw [if_pos (by simpa using h7), if_neg h7]
theorem groups_more {T : TM} {e : EM} {g : Int} : g ≤ groupsX T e g ∧ groupsX T e g ≤ g + 40 := by
 by_cases h : (applyX T e g).2 = 0
 ·rw [took_groups h]
  obtain ⟨ht, he, hT⟩ := took h
  by_cases h10 : e.kind = 10
  ·rw [if_pos h10]; omega
  rw [if_neg h10]
  by_cases h7 : e.kind = 7
  ·rw [if_pos h7]
   generalize (applyX T e g).1 = R at hT
   cases hT with
   | boot q => omega
   | add x q => omega
   | move q => omega
   | drop q => omega
   | set x q => omega
   | more q hf _ _ _ hl => omega
  ·rw [if_neg h7]; omega
 ·rw [(not_took h).2]; omega
theorem groups_all (es : List EM) : ∀ s : TM × Int, s.2 ≤ (es.foldl stepX s).2 ∧ (es.foldl stepX s).2 ≤ s.2 + 40 * es.length := by
 induction es with
 | nil => intro s; simp
 | cons e es ih =>
  intro s
  have h1 := ih (stepX s e)
  have h2 : s.2 ≤ (stepX s e).2 ∧ (stepX s e).2 ≤ s.2 + 40 := by
   unfold stepX
   split
   ·exact groups_more
   ·omega
  simp only [List.foldl_cons, List.length_cons]
  omega
theorem used_root {T : TM} (h : treeOk T = true) : usedX T 1 = sm NM.len T.nodes := by
 have hp := TP.of h
 obtain ⟨r, hr, r1, r0, _⟩ := hp.root_in
 have := used_sm h hr
 rw [r1] at this
 rw [this]
 refine sm_congr fun n hn => ?_
 obtain ⟨L, hL, hl⟩ := hp.way4 hn
 have : blB T n 1 = true := by unfold blB; rw [hp.below_way hL 15 (by omega) (by decide)]; simp
 rw [if_pos this]
theorem sm_set (f : NM → Int) : ∀ (ns : List NM) (k : Nat) (x : NM), k < ns.length → sm f (ns.set k x) = sm f ns + (f x - f (ns.getD k default))
 | [], k, x, h => by simp at h
 | n :: ns, 0, x, _ => by simp [sm]; omega
 | n :: ns, k + 1, x, h => by
  have := sm_set f ns k x (by simpa using h)
  simp only [List.set_cons_succ, sm, this, List.getD_cons_succ]
  omega
def insG (l : List Int) (x : Int) : List Int := l.filter (fun y => decide (y < x)) ++ [x] ++ l.filter (fun y => decide (x < y))
def grpP (acc : List Int) (ps : List PM) : List Int := ps.foldl (fun a p => insG a p.group) acc
def grpL (T : TM) (acc : List Int) (ids : List Int) : List Int := ids.foldl (fun a i => grpP a (ndAt T (plc T i)).pieces) acc
def grpX (T : TM) (id : Int) : List Int := grpL T [] (belowX T id)
abbrev Up (l : List Int) : Prop := l.Pairwise (fun a b => a < b)
theorem insG_mem {l : List Int} {x y : Int} : y ∈ insG l x ↔ y ∈ l ∨ y = x := by
 unfold insG
 simp only [List.mem_append, List.mem_filter, List.mem_singleton, decide_eq_true_eq]
 constructor
 ·rintro ((⟨h, _⟩ | h) | ⟨h, _⟩)
  ·exact .inl h
  ·exact .inr h
  ·exact .inl h
 ·rintro (h | h)
  ·rcases Int.lt_trichotomy y x with q | q | q
   ·exact .inl (.inl ⟨h, q⟩)
   ·exact .inl (.inr q)
   ·exact .inr ⟨h, q⟩
  ·exact .inl (.inr h)
theorem insG_up {l : List Int} (h : Up l) (x : Int) : Up (insG l x) := by
 unfold insG
 refine List.pairwise_append.2 ⟨List.pairwise_append.2 ⟨h.filter _, List.pairwise_singleton _ _, ?_⟩, h.filter _, ?_⟩
 ·intro a ha b hb
  rw [List.mem_singleton.1 hb]
  simpa using (List.mem_filter.1 ha).2
 ·intro a ha b hb
  have h2 : x < b := by simpa using (List.mem_filter.1 hb).2
  rcases List.mem_append.1 ha with q | q
  ·have h1 : a < x := by simpa using (List.mem_filter.1 q).2
   omega
  ·rw [List.mem_singleton.1 q]; exact h2
theorem insG_len (l : List Int) (x : Int) : (insG l x).length ≤ l.length + 1 := by
 unfold insG
 rw [List.length_append, List.length_append, List.length_singleton]
 have : ∀ l : List Int, (l.filter (fun y => decide (y < x))).length + (l.filter (fun y => decide (x < y))).length ≤ l.length := by
  intro l
  induction l with
  | nil => simp
  | cons a l ih =>
   simp only [List.filter_cons, List.length_cons]
   by_cases h1 : a < x
   ·have h2 : ¬ x < a := by omega
    simp [h1, h2]; omega
   ·by_cases h2 : x < a
    ·simp [h1, h2]; omega
    ·simp [h1, h2]; omega
 have := this l
 omega
theorem grpP_facts (ps : List PM) : ∀ acc, Up acc → Up (grpP acc ps) ∧ (∀ y, y ∈ grpP acc ps ↔ y ∈ acc ∨ ∃ p ∈ ps, p.group = y) ∧ (grpP acc ps).length ≤ acc.length + ps.length := by
 induction ps with
 | nil => intro acc h; exact ⟨h, fun y => by simp [grpP], by simp [grpP]⟩
 | cons p ps ih =>
  intro acc h
  obtain ⟨h1, h2, h3⟩ := ih (insG acc p.group) (insG_up h _)
  have e : grpP acc (p :: ps) = grpP (insG acc p.group) ps := rfl
  rw [e]
  refine ⟨h1, fun y => ?_, ?_⟩
  ·rw [h2, insG_mem]
   constructor
   ·rintro ((q | q) | ⟨s, hs, q⟩)
    ·exact .inl q
    ·exact .inr ⟨p, by simp, q.symm⟩
    ·exact .inr ⟨s, by simp [hs], q⟩
   ·rintro (q | ⟨s, hs, q⟩)
    ·exact .inl (.inl q)
    ·rcases List.mem_cons.1 hs with rfl | hs
     ·exact .inl (.inr q.symm)
     ·exact .inr ⟨s, hs, q⟩
  ·have := insG_len acc p.group
   rw [List.length_cons]
   omega
theorem grpL_facts {T : TM} (ids : List Int) : ∀ acc, Up acc → Up (grpL T acc ids) ∧ (∀ y, y ∈ grpL T acc ids ↔ y ∈ acc ∨ ∃ i ∈ ids, ∃ p ∈ (ndAt T (plc T i)).pieces, p.group = y) := by
 induction ids with
 | nil => intro acc h; exact ⟨h, fun y => by simp [grpL]⟩
 | cons i ids ih =>
  intro acc h
  obtain ⟨g1, g2, _⟩ := grpP_facts (ndAt T (plc T i)).pieces acc h
  obtain ⟨h1, h2⟩ := ih (grpP acc (ndAt T (plc T i)).pieces) g1
  have e : grpL T acc (i :: ids) = grpL T (grpP acc (ndAt T (plc T i)).pieces) ids := rfl
  rw [e]
  refine ⟨h1, fun y => ?_⟩
  rw [h2, g2]
  constructor
  ·rintro ((q | ⟨p, hp, q⟩) | ⟨j, hj, p, hp, q⟩)
   ·exact .inl q
   ·exact .inr ⟨i, by simp, p, hp, q⟩
   ·exact .inr ⟨j, by simp [hj], p, hp, q⟩
  ·rintro (q | ⟨j, hj, p, hp, q⟩)
   ·exact .inl (.inl q)
   ·rcases List.mem_cons.1 hj with rfl | hj
    ·exact .inl (.inr ⟨p, hp, q⟩)
    ·exact .inr ⟨j, hj, p, hp, q⟩
theorem up_ext : ∀ {a b : List Int}, Up a → Up b → (∀ y, y ∈ a ↔ y ∈ b) → a = b
 | [], [], _, _, _ => rfl
 | [], y :: b, _, _, h => absurd ((h y).2 (by simp)) (by simp)
 | x :: a, [], _, _, h => absurd ((h x).1 (by simp)) (by simp)
 | x :: a, y :: b, ha, hb, h => by
  obtain ⟨a1, a2⟩ := List.pairwise_cons.1 ha
  obtain ⟨b1, b2⟩ := List.pairwise_cons.1 hb
  have e : x = y := by
   rcases List.mem_cons.1 ((h x).1 (by simp)) with q | q
   ·exact q
   ·rcases List.mem_cons.1 ((h y).2 (by simp)) with r | r
    ·exact r.symm
    ·have := b1 x q; have := a1 y r; omega
  subst e
  have : a = b := up_ext a2 b2 fun z => by
   have hz := h z
   constructor
   ·intro q
    rcases List.mem_cons.1 (hz.1 (by simp [q])) with r | r
    ·have := a1 z q; omega
    ·exact r
   ·intro q
    rcases List.mem_cons.1 (hz.2 (by simp [q])) with r | r
    ·have := b1 z q; omega
    ·exact r
  rw [this]
def allP (ns : List NM) : List Int := ns.flatMap fun n => n.pieces.map PM.group
theorem allP_cons (n : NM) (ns : List NM) : allP (n :: ns) = n.pieces.map PM.group ++ allP ns := by simp [allP]
theorem allP_mem {ns : List NM} {y : Int} : y ∈ allP ns ↔ ∃ n ∈ ns, ∃ p ∈ n.pieces, p.group = y := by
 simp [allP]
theorem allP_same : ∀ (ns : List NM) (k : Nat) (x : NM), x.pieces = (ns.getD k default).pieces → allP (ns.set k x) = allP ns
 | [], k, x, h => by simp
 | n :: ns, 0, x, h => by
  simp only [List.getD_cons_zero] at h
  simp only [List.set_cons_zero, allP_cons, h]
 | n :: ns, k + 1, x, h => by
  simp only [List.getD_cons_succ] at h
  simp only [List.set_cons_succ, allP_cons, allP_same ns k x h]
theorem allP_more : ∀ (ns : List NM) (k : Nat) (x : NM) (N : List PM), k < ns.length → x.pieces = (ns.getD k default).pieces ++ N → (allP (ns.set k x)).Perm (allP ns ++ N.map PM.group)
 | [], k, x, N, hk, h => by simp at hk
 | n :: ns, 0, x, N, hk, h => by
  simp only [List.getD_cons_zero] at h
  simp only [List.set_cons_zero, allP_cons, h, List.map_append]
  rw [List.append_assoc, List.append_assoc]
  exact List.Perm.append_left _ List.perm_append_comm
 | n :: ns, k + 1, x, N, hk, h => by
  simp only [List.getD_cons_succ] at h
  simp only [List.set_cons_succ, allP_cons]
  rw [List.append_assoc]
  exact List.Perm.append_left _ (allP_more ns k x N (by simpa using hk) h)
theorem allP_filter (P : NM → Bool) : ∀ ns : List NM, (allP (ns.filter P)).Sublist (allP ns)
 | [] => List.Sublist.refl _
 | n :: ns => by
  rw [List.filter_cons]
  split
  ·rw [allP_cons, allP_cons]; exact (List.Sublist.refl _).append (allP_filter P ns)
  ·rw [allP_cons]; exact (allP_filter P ns).trans (List.sublist_append_right _ _)
theorem newP_groups (g : Int) (ls : List Int) : Up ((newP g ls).map PM.group) ∧ ∀ y ∈ (newP g ls).map PM.group, g ≤ y ∧ y < g + ls.length := by
 induction ls generalizing g with
 | nil => simp [newP]
 | cons l ls ih =>
  obtain ⟨h1, h2⟩ := ih (g + 1)
  refine ⟨?_, ?_⟩
  ·simp only [newP, List.map_cons]
   refine List.pairwise_cons.2 ⟨fun y q => ?_, h1⟩
   have := (h2 _ q).1; omega
  ·intro y hy
   simp only [newP, List.map_cons, List.mem_cons] at hy
   simp only [List.length_cons]
   push_cast
   rcases hy with rfl | hy
   ·omega
   ·have := h2 y hy; omega
theorem Up.nodup {l : List Int} (h : Up l) : l.Nodup := h.imp fun q => by omega
structure GI (s : TM × Int) : Prop where
 one : (allP s.1.nodes).Nodup
 lt : ∀ y ∈ allP s.1.nodes, y < s.2
theorem GI.step {s : TM × Int} (h : GI s) (e : EM) : GI (stepX s e) := by
 unfold stepX
 by_cases h0 : (applyX s.1 e s.2).2 = 0
 case neg => rw [if_neg h0]; exact h
 rw [if_pos h0]
 obtain ⟨ht, he, hT⟩ := took h0
 have hg := took_groups h0
 have hm := @groups_more s.1 e s.2
 generalize groupsX s.1 e s.2 = g' at hg hm ⊢
 generalize (applyX s.1 e s.2).1 = R at hT ⊢
 have keep : ∀ R : TM, (allP R.nodes).Sublist (allP s.1.nodes) → GI (R, g') := fun R q => ⟨h.one.sublist q, fun y hy => by have := h.lt y (q.subset hy); show y < g'; omega⟩
 cases hT with
 | boot q => exact keep _ (List.Sublist.refl _)
 | add x q hx _ _ _ =>
  refine keep _ ?_
  unfold addT allP
  simp [hx]
 | move q hf _ _ _ _ =>
  refine keep _ ?_
  rw [show allP (moveT s.1 e.dest (findX s.1 e.path)).nodes = allP s.1.nodes from allP_same _ _ _ rfl]
  exact List.Sublist.refl _
 | drop q hf _ =>
  refine keep _ ?_
  exact allP_filter _ _
 | set x q hf _ _ _ hx _ =>
  refine keep _ ?_
  unfold setN
  rw [allP_same _ _ _ hx]
  exact List.Sublist.refl _
 | more q hf hd hr hn hl =>
  rw [if_neg (by omega), if_pos q] at hg
  have hp := allP_more s.1.nodes (plc s.1 (findX s.1 e.path)) { ndAt s.1 (plc s.1 (findX s.1 e.path)) with pieces := (ndAt s.1 (plc s.1 (findX s.1 e.path))).pieces ++ newP s.2 (spansX (ndAt s.1 (plc s.1 (findX s.1 e.path))).schema e.num), len := (ndAt s.1 (plc s.1 (findX s.1 e.path))).len + e.num } _ (found_at ht hf).1 rfl
  obtain ⟨u1, u2⟩ := newP_groups s.2 (spansX (ndAt s.1 (plc s.1 (findX s.1 e.path))).schema e.num)
  refine ⟨?_, fun y hy => ?_⟩
  ·show (allP (s.1.nodes.set _ _)).Nodup
   rw [hp.nodup_iff, List.nodup_append]
   refine ⟨h.one, u1.nodup, fun a ha b hb e => ?_⟩
   have := h.lt a ha
   have := (u2 b hb).1
   omega
  ·have hy : y ∈ allP (s.1.nodes.set _ _) := hy
   rw [hp.mem_iff, List.mem_append] at hy
   show y < g'
   rcases hy with hy | hy
   ·have := h.lt y hy; omega
   ·have := (u2 y hy).2; omega
theorem GI.all (es : List EM) : ∀ {s : TM × Int}, GI s → GI (es.foldl stepX s) := by
 induction es with
 | nil => intro s h; exact h
 | cons e es ih => intro s h; exact ih (h.step e)
theorem GI.new : GI (newX, 1) := ⟨by decide, by decide⟩
theorem nd_own9 {T : TM} (h : treeOk T = true) {n : NM} (hn : n ∈ T.nodes) : ndAt T (plc T n.id) = n := ((TP.of h).up.at hn).2
theorem grp_mem {T : TM} (h : treeOk T = true) {x : NM} (hx : x ∈ T.nodes) {y : Int} : y ∈ grpX T x.id ↔ ∃ n ∈ T.nodes, blB T n x.id = true ∧ ∃ p ∈ n.pieces, p.group = y := by
 unfold grpX
 rw [(grpL_facts (T := T) (belowX T x.id) [] .nil).2]
 have hat := (TP.of h).up.at hx
 unfold belowX
 rw [if_pos ⟨h, hat.1⟩]
 unfold belowL
 constructor
 ·rintro (q | ⟨i, hi, p, hp, e⟩)
  ·cases q
  ·obtain ⟨n, hn, rfl⟩ := List.mem_map.1 hi
   obtain ⟨h1, h2⟩ := List.mem_filter.1 hn
   rw [nd_own9 h h1] at hp
   exact ⟨n, h1, h2, p, hp, e⟩
 ·rintro ⟨n, hn, hb, p, hp, e⟩
  exact .inr ⟨n.id, List.mem_map.2 ⟨n, List.mem_filter.2 ⟨hn, hb⟩, rfl⟩, p, by rw [nd_own9 h hn]; exact hp, e⟩
theorem grp_up (T : TM) (id : Int) : Up (grpX T id) := (grpL_facts (T := T) (belowX T id) [] .nil).1
theorem grp_more {T R : TM} {k : Nat} {x y : NM} {g : Int} {ls : List Int} (h : treeOk T = true) (hR : treeOk R = true) (hk : k < T.nodes.length) (hx : ndAt T k = x) (eR : R = setN T k y) (e1 : y.id = x.id) (e2 : y.parent = x.parent) (hp : y.pieces = x.pieces ++ newP g ls)
  (hlt : ∀ z ∈ allP T.nodes, z < g) : grpX R x.id = grpX T x.id ++ (newP g ls).map PM.group := by
 obtain ⟨u1, u2⟩ := newP_groups g ls
 have hxm : x ∈ T.nodes := by rw [← hx, nd_mem hk]; exact List.getElem_mem hk
 have hym : y ∈ R.nodes := by rw [eR]; exact List.mem_of_getElem? (List.getElem?_set_self (by exact hk))
 have hb : ∀ c, belowF R.nodes 15 c x.id = belowF T.nodes 15 c x.id := by
  have hgen : ∀ f c, belowF R.nodes f c x.id = belowF T.nodes f c x.id := by
   intro f
   induction f with
   | zero => intro c; rfl
   | succ f ih =>
    intro c
    by_cases hc : c = x.id
    ·rw [belowF_same hc, belowF_same hc]
    ·have hfi : R.nodes.findIdx? (fun n => n.id == c) = T.nodes.findIdx? (fun n => n.id == c) := by
      rw [eR]; exact set_find T.nodes k y (by rw [e1, ← hx]; rfl) c
     cases hq : T.nodes.findIdx? (fun n => n.id == c) with
     | none => rw [belowF_none hc hq, belowF_none hc (hfi.trans hq)]
     | some i =>
      rw [belowF_some hc hq, belowF_some hc (hfi.trans hq), ih]
      congr 1
      rw [eR]
      exact set_get T.nodes k i y NM.parent (by rw [e2, ← hx]; rfl)
  exact hgen 15
 have hUp : Up (grpX T x.id ++ (newP g ls).map PM.group) := by
  refine List.pairwise_append.2 ⟨grp_up T x.id, u1, fun a ha b hb => ?_⟩
  obtain ⟨n, hn, _, p, hp, e⟩ := (grp_mem h hxm).1 ha
  have := hlt a (allP_mem.2 ⟨n, hn, p, hp, e⟩)
  have := (u2 b hb).1
  omega
 refine up_ext (grp_up R x.id) hUp fun z => ?_
 rw [← e1, grp_mem hR hym, e1, List.mem_append, grp_mem h hxm]
 have hself : blB T x x.id = true := belowF_same rfl
 constructor
 ·rintro ⟨n, hn, hbl, p, hpp, e⟩
  rw [eR] at hn
  rcases List.mem_or_eq_of_mem_set hn with q | q
  ·exact .inl ⟨n, q, by unfold blB at hbl ⊢; rw [← hb]; exact hbl, p, hpp, e⟩
  ·rw [q, hp] at hpp
   rcases List.mem_append.1 hpp with r | r
   ·exact .inl ⟨x, hxm, hself, p, r, e⟩
   ·exact .inr (List.mem_map.2 ⟨p, r, e⟩)
 ·rintro (⟨n, hn, hbl, p, hpp, e⟩ | q)
  ·by_cases c : n.id = x.id
   ·have : n = x := (TP.of h).up.one hn hxm c
    refine ⟨y, hym, ?_, p, by rw [hp]; exact List.mem_append.2 (.inl (this ▸ hpp)), e⟩
    unfold blB; rw [e1]; exact belowF_same rfl
   ·refine ⟨n, ?_, by unfold blB at hbl ⊢; rw [hb]; exact hbl, p, hpp, e⟩
    obtain ⟨i, hi, rfl⟩ := List.getElem_of_mem hn
    have hik : i ≠ k := fun q => c (by subst q; rw [← hx, nd_mem hk])
    rw [eR]
    exact List.mem_of_getElem? (by show (T.nodes.set k y)[i]? = _; rw [List.getElem?_set_ne (Ne.symm hik)]; exact List.getElem?_eq_getElem hi)
  ·obtain ⟨p, hpp, e⟩ := List.mem_map.1 q
   refine ⟨y, hym, ?_, p, by rw [hp]; exact List.mem_append.2 (.inr hpp), e⟩
   unfold blB; rw [e1]; exact belowF_same rfl
theorem Way.mono {ns ms : List NM} (hs : ∀ n ∈ ns, n ∈ ms) {n : NM} {L : List NM} (h : Way ns n L) : Way ms n L := by
 induction h with
 | root h1 h2 h3 => exact .root (hs _ h1) h2 h3
 | step h1 h2 h3 h4 _ ih => exact .step (hs _ h1) h2 (hs _ h3) h4 ih
theorem Way.last {ns : List NM} {n : NM} {L : List NM} (h : Way ns n L) : n.id = 1 ∨ n ∈ L := by
 cases h with
 | root _ h => exact .inl h
 | step => exact .inr (by simp)
theorem Way.keep {ns ms : List NM} {id : Int} (h1 : id ≠ 1) (hs : ∀ m ∈ ns, m.id ≠ id → m ∈ ms) {n : NM} {L : List NM} (h : Way ns n L) : (∀ m ∈ L, m.id ≠ id) → Way ms n L := by
 have key : (∀ m ∈ L, m.id ≠ id) → Way ms n L := by
  induction h with
  | root q1 q2 q3 => intro _; exact .root (hs _ q1 (by omega)) q2 q3
  | @step n p L q1 q2 q3 q4 q5 ih =>
   intro hL
   have hL' : ∀ m ∈ L, m.id ≠ id := fun m hm => hL m (List.mem_append.2 (.inl hm))
   refine .step (hs _ q1 (hL n (by simp))) q2 (hs _ q3 ?_) q4 (ih hL')
   rcases q5.last with q | q
   ·omega
   ·exact hL' p q
 exact key
theorem up_way {T : TM} (h : treeOk T = true) {p : ByteArray} (hu : upX T p ≠ 0) : ∃ u K, Way T.nodes u K ∧ u.id = upX T p ∧ K.length ≤ 3 ∧ splitB p = (K.map NM.name ++ [(parentB p).2.1], true) := by
 have hs : (splitB p).2 = true ∧ (splitB p).1 ≠ [] := by
  by_cases q : (splitB p).2 = true ∧ (splitB p).1 ≠ []
  ·exact q
  ·exfalso
   apply hu
   unfold upX parentB
   rw [if_neg q]
   unfold findX
   rw [if_neg (fun c => by have := c.1; revert this; decide)]
 obtain ⟨u, K, hw, e1, e2, e3, e4⟩ := found_way h hu
 obtain ⟨nn, n4⟩ := splitB_names p
 have hp : parentB p = (joinB (splitB p).1.dropLast, (splitB p).1.getLastD ⟨#[]⟩, true) := by unfold parentB; rw [if_pos hs]
 have hI : splitB (joinB (splitB p).1.dropLast) = ((splitB p).1.dropLast, true) := splitB_join (fun s q => nn s (List.dropLast_subset _ q)) (by rw [List.length_dropLast]; omega)
 rw [hp] at e4
 dsimp only at e4
 rw [hI] at e4
 have e5 : (splitB p).1.dropLast = K.map NM.name := (Prod.mk.injEq _ _ _ _ ▸ e4).1
 refine ⟨u, K, hw, e1, ?_, ?_⟩
 ·have : (K.map NM.name).length ≤ 3 := by rw [← e5, List.length_dropLast]; omega
  simpa using this
 ·rw [hp, ← e5]
  dsimp only
  have : (splitB p).1.dropLast ++ [(splitB p).1.getLastD ⟨#[]⟩] = (splitB p).1 := by
   rw [List.getLastD_eq_getLast?, List.getLast?_eq_some_getLast hs.2]
   exact List.dropLast_concat_getLast hs.2
  rw [this, ← hs.1]
structure Mvd (T R : TM) (x y : NM) (K U : List NM) : Prop where
 ok : treeOk T = true
 rok : treeOk R = true
 xin : Way T.nodes x K
 yin : Way R.nodes y (U ++ [y])
 id : y.id = x.id
 one : x.id ≠ 1
 go : ∀ m ∈ T.nodes, m.id ≠ x.id → m ∈ R.nodes
 back : ∀ m ∈ R.nodes, m.id ≠ x.id → m ∈ T.nodes
 far : ∀ m ∈ U, m.id ≠ x.id
 len : y.len = x.len
 eR : ∃ k, k < T.nodes.length ∧ T.nodes.getD k default = x ∧ R = setN T k y
theorem moved {T : TM} {p d : ByteArray} (h : treeOk T = true) (hR : treeOk (moveT T d (findX T p)) = true) (h0 : findX T p ≠ 0) (h1 : findX T p ≠ 1) (hu : upX T d ≠ 0) (hb : belowF T.nodes 15 (upX T d) (findX T p) = false) :
  ∃ x y K U, Mvd T (moveT T d (findX T p)) x y K U ∧ x.id = findX T p ∧ splitB p = (K.map NM.name, true) ∧ splitB d = ((U ++ [y]).map NM.name, true) := by
 obtain ⟨f1, f2, f3⟩ := found_at h h0
 obtain ⟨x, K, w1, e1, _, _, s1⟩ := found_way h h0
 obtain ⟨u, U, w2, e2, l3, s2⟩ := up_way h hu
 have hp := TP.of h
 have hx : ndAt T (plc T (findX T p)) = x := hp.up.one f3 w1.mem (by rw [f2, e1])
 obtain ⟨k, hk⟩ : ∃ k, k = plc T (findX T p) := ⟨_, rfl⟩
 rw [← hk] at f1 hx
 have hkx : T.nodes[k] = x := by rw [← hx, nd_mem f1]
 obtain ⟨y, hy⟩ : ∃ y : NM, y = { x with parent := upX T d, name := (parentB d).2.1 } := ⟨_, rfl⟩
 have eR : moveT T d (findX T p) = setN T k y := by unfold moveT; rw [← hk, hx, ← hy]
 rw [eR] at hR ⊢
 have yid : y.id = x.id := by rw [hy]
 have hgo : ∀ m ∈ T.nodes, m.id ≠ x.id → m ∈ (setN T k y).nodes := fun m hm hne => by
  obtain ⟨i, hi, rfl⟩ := List.getElem_of_mem hm
  have hik : i ≠ k := fun q => hne (by subst q; rw [hkx])
  exact List.mem_of_getElem? (by show (T.nodes.set k y)[i]? = _; rw [List.getElem?_set_ne (Ne.symm hik)]; exact List.getElem?_eq_getElem hi)
 have hym : y ∈ (setN T k y).nodes := List.mem_of_getElem? (List.getElem?_set_self (by exact f1))
 have hback : ∀ m ∈ (setN T k y).nodes, m.id ≠ x.id → m ∈ T.nodes := fun m hm hne => by
  rcases List.mem_or_eq_of_mem_set hm with q | q
  ·exact q
  ·exact absurd (by rw [q, yid]) hne
 have hx1 : x.id ≠ 1 := by rw [e1]; exact h1
 rw [← e1, ← e2, hp.below_way w2 15 (by omega) (by rw [e1]; exact h0), Bool.or_eq_false_iff, List.any_eq_false] at hb
 have hfar : ∀ m ∈ U, m.id ≠ x.id := fun m hm e => hb.2 m hm (by simpa using e)
 have w3 : Way (setN T k y).nodes u U := w2.keep hx1 hgo hfar
 have w4 := Way.step hym (by rw [yid]; exact hx1) w3.mem (by rw [hy]; exact e2) w3
 refine ⟨x, y, K, U, ⟨h, hR, w1, w4, yid, hx1, hgo, hback, hfar, by rw [hy], k, f1, hx, rfl⟩, e1, s1, ?_⟩
 rw [s2, List.map_append, hy]
 rfl
section
variable {T R : TM} {x y : NM} {K U : List NM}
theorem Mvd.at (M : Mvd T R x y K U) {m : NM} (hm : m ∈ R.nodes) (e : m.id = x.id) : m = y := (TP.of M.rok).up.one hm M.yin.mem (by rw [e, M.id])
theorem Mvd.way (M : Mvd T R x y K U) {b : NM} {B : List NM} (h : Way T.nodes b B) : ∀ C, B = K ++ C → Way R.nodes (if b.id = x.id then y else b) (U ++ [y] ++ C) ∧ ∀ m ∈ C, m.id ≠ x.id := by
 have hT := TP.of M.ok
 induction h with
 | @root r q1 q2 q3 =>
  intro C e
  have := (List.append_eq_nil_iff.1 e.symm).1
  have hx := M.xin
  rw [this] at hx
  exact absurd hx.nil M.one
 | @step b p L q1 q2 q3 q4 q5 ih =>
  intro C e
  rcases List.eq_nil_or_concat C with rfl | ⟨C', z, rfl⟩
  ·rw [List.append_nil] at e
   have hbx : b.id = x.id := by
    have hw := M.xin
    rw [← e] at hw
    have hbm : b ∈ L ++ [b] := by simp
    rcases hw.last with r | r
    ·exact absurd r M.one
    ·generalize eK : L ++ [b] = K' at hw
     cases hw with
     | root _ r1 => exact absurd r1 M.one
     | @step _ p' L' _ _ _ _ _ =>
      have := List.append_inj' eK rfl
      have := this.2
      simp at this
      rw [this]
   rw [if_pos hbx, List.append_nil]
   exact ⟨M.yin, by simp⟩
  ·rw [List.concat_eq_append, ← List.append_assoc] at e
   obtain ⟨e1, e2⟩ := List.append_inj' e rfl
   have e2 : b = z := by simpa using e2
   subst e2
   obtain ⟨w, hC⟩ := ih C' e1
   have hne : b.id ≠ x.id := fun q => by
    have hbx : b = x := hT.up.one q1 M.xin.mem q
    have w1 := Way.step q1 q2 q3 q4 q5
    rw [hbx] at w1
    have := w1.det hT.up M.xin
    rw [e1, List.append_assoc] at this
    have := congrArg List.length this
    simp at this
   rw [if_neg hne, List.concat_eq_append, ← List.append_assoc]
   refine ⟨?_, fun m hm => ?_⟩
   ·refine .step (M.go b q1 hne) q2 w.mem ?_ w
    by_cases c : p.id = x.id
    ·rw [if_pos c, M.id, ← c]; exact q4
    ·rw [if_neg c]; exact q4
   ·rcases List.mem_append.1 hm with r | r
    ·exact hC m r
    ·have : m = b := by simpa using r
     rw [this]; exact hne
end
theorem kid_set (c : Int) (nm : ByteArray) : ∀ (ns : List NM) (k : Nat) (x : NM) (z : Int), x.id = (ns.getD k default).id → x.parent = (ns.getD k default).parent → x.name = (ns.getD k default).name → (ns.set k x).foldl (kidS c nm) z = ns.foldl (kidS c nm) z
 | [], k, x, z, _, _, _ => by simp
 | n :: ns, 0, x, z, h1, h2, h3 => by
  simp only [List.getD_cons_zero] at h1 h2 h3
  have : kidS c nm z x = kidS c nm z n := by unfold kidS; rw [h1, h2, h3]
  simp only [List.set_cons_zero, List.foldl_cons, this]
 | n :: ns, k + 1, x, z, h1, h2, h3 => by
  simp only [List.getD_cons_succ] at h1 h2 h3
  simp only [List.set_cons_succ, List.foldl_cons]
  exact kid_set c nm ns k x _ h1 h2 h3
theorem find_set {T : TM} {k : Nat} {x : NM} (h1 : x.id = (ndAt T k).id) (h2 : x.parent = (ndAt T k).parent) (h3 : x.name = (ndAt T k).name) (p : ByteArray) : findX (setN T k x) p = findX T p := by
 have hk : ∀ c nm, kidF (T.nodes.set k x) c nm = kidF T.nodes c nm := fun c nm => kid_set c nm T.nodes k x 0 h1 h2 h3
 have hF : ∀ (L : List ByteArray) (c : Int), findF (T.nodes.set k x) L c = findF T.nodes L c := by
  intro L
  induction L with
  | nil => intro c; rfl
  | cons s L ih => intro c; simp only [findF, hk, ih]
 unfold findX
 have ha : atI (setN T k x).nodes 1 = atI T.nodes 1 := set_at T.nodes k x h1 1
 rw [ha]
 show (if _ then findF (T.nodes.set k x) _ 1 else 0) = _
 rw [hF]
theorem below_set {T : TM} {k : Nat} {x : NM} (h1 : x.id = (ndAt T k).id) (h2 : x.parent = (ndAt T k).parent) : ∀ (f : Nat) (c top : Int), belowF (T.nodes.set k x) f c top = belowF T.nodes f c top := by
 intro f
 induction f with
 | zero => intro c top; rfl
 | succ f ih =>
  intro c top
  by_cases hc : c = top
  ·rw [belowF_same hc, belowF_same hc]
  ·have hfi := set_find T.nodes k x h1 c
   cases hq : T.nodes.findIdx? (fun n => n.id == c) with
   | none => rw [belowF_none hc hq, belowF_none hc (hfi.trans hq)]
   | some i =>
    rw [belowF_some hc hq, belowF_some hc (hfi.trans hq), ih]
    congr 1
    exact set_get T.nodes k i x NM.parent h2
section
variable {T : TM} {e : EM} {g : Int}
theorem app_ok (h : (applyX T e g).2 = 0) : treeOk (applyX T e g).1 = true := applyX_ok (took h).1
theorem app_more (h : (applyX T e g).2 = 0) (hk : e.kind = 7) (hlt : ∀ z ∈ allP T.nodes, z < g) : usedX (applyX T e g).1 1 = usedX T 1 + e.num ∧ findX (applyX T e g).1 e.path = findX T e.path ∧ ((grpX (applyX T e g).1 (findX T e.path)).length : Int) = (grpX T (findX T e.path)).length + groupsX T e g - g := by
 have hok := app_ok h
 have hgr := took_groups h
 obtain ⟨ht, he, hT⟩ := took h
 rw [if_neg (by omega), if_pos hk] at hgr
 generalize groupsX T e g = G at hgr ⊢
 generalize (applyX T e g).1 = R at hT hok ⊢
 cases hT with
 | boot q => omega
 | add x q => omega
 | move q => omega
 | drop q => omega
 | set x q => omega
 | more q h0 hd hr hn hl =>
  obtain ⟨f1, f2, f3⟩ := found_at ht h0
  refine ⟨?_, by apply find_set <;> rfl, ?_⟩
  ·rw [used_root hok, used_root ht]
   have := sm_set NM.len T.nodes (plc T (findX T e.path)) { ndAt T (plc T (findX T e.path)) with pieces := (ndAt T (plc T (findX T e.path))).pieces ++ newP g (spansX (ndAt T (plc T (findX T e.path))).schema e.num), len := (ndAt T (plc T (findX T e.path))).len + e.num } f1
   rw [show (setN T (plc T (findX T e.path)) _).nodes = T.nodes.set (plc T (findX T e.path)) _ from rfl, this]
   show _ + ((ndAt T (plc T (findX T e.path))).len + e.num - (ndAt T (plc T (findX T e.path))).len) = _
   omega
  ·have := grp_more (g := g) ht hok f1 rfl rfl rfl rfl rfl hlt
   rw [f2] at this
   rw [this, List.length_append, List.length_map, newP_len]
   push_cast
   omega
end
theorem file_quota {n : NM} (h : (if n.dir then dirOk n else fileOk n) = true) (hq : 0 < n.quota) : n.dir = true := by
 cases hd : n.dir with
 | true => rfl
 | false =>
  rw [hd] at h
  unfold fileOk at h
  simp only [Bool.and_eq_true, beq_iff_eq, Bool.false_eq_true, if_false] at h
  omega
theorem TP.room_way {T : TM} (h : TP T) {n : NM} {L : List NM} (hw : Way T.nodes n L) {m : Int} : ∀ F st, L.length < F → roomF T m F st n.id = true → ∀ a ∈ T.nodes, (a.id = 1 ∨ a ∈ L) → a.dir = true → 0 < a.quota → m ≤ a.quota - usedX T a.id := by
 induction hw with
 | @root r q1 q2 q3 =>
  intro F st hF hr a ha ho hd hq
  cases F with
  | zero => simp at hF
  | succ F =>
   obtain ⟨k, e1, e2⟩ := h.up.find q1
   rw [roomF_some e1, e2] at hr
   have har : a = r := h.up.one ha q1 (by rcases ho with q | q; rw [q, q2]; cases q)
   subst har
   by_cases c : a.dir = true ∧ 0 < a.quota ∧ a.quota - usedX T a.id < m
   ·rw [if_pos c] at hr; cases hr
   ·have : ¬ (a.quota - usedX T a.id < m) := fun q => c ⟨hd, hq, q⟩
    omega
 | @step n p L q1 q2 q3 q4 q5 ih =>
  intro F st hF hr a ha ho hd hq
  cases F with
  | zero => simp at hF
  | succ F =>
   obtain ⟨k, e1, e2⟩ := h.up.find q1
   rw [roomF_some e1, e2] at hr
   by_cases c : n.dir = true ∧ 0 < n.quota ∧ n.quota - usedX T n.id < m
   ·rw [if_pos c] at hr; cases hr
   rw [if_neg c, ← q4] at hr
   by_cases hn : a = n
   ·subst hn
    have : ¬ (a.quota - usedX T a.id < m) := fun q => c ⟨hd, hq, q⟩
    omega
   ·refine ih F (st + 1) (by simp at hF; omega) hr a ha ?_ hd hq
    rcases ho with q | q
    ·exact .inl q
    ·rcases List.mem_append.1 q with r | r
     ·exact .inr r
     ·exact absurd (by simpa using r) hn
theorem quota_kept {T : TM} {e : EM} {g : Int} (h : (applyX T e g).2 = 0) (hk : e.kind = 7) : ∀ x ∈ (applyX T e g).1.nodes, 0 < x.quota → findX (applyX T e g).1 e.path ∈ belowX (applyX T e g).1 x.id → usedX (applyX T e g).1 x.id ≤ x.quota := by
 have hok := app_ok h
 obtain ⟨ht, he, hT⟩ := took h
 generalize (applyX T e g).1 = R at hT hok ⊢
 have hp := TP.of ht
 cases hT with
 | boot q => omega
 | add x q => omega
 | move q => omega
 | drop q => omega
 | set x q => omega
 | more q h0 hd hr hn hl =>
  obtain ⟨f1, f2, f3⟩ := found_at ht h0
  obtain ⟨k, hke⟩ : ∃ k, k = plc T (findX T e.path) := ⟨_, rfl⟩
  obtain ⟨f, hfe⟩ : ∃ f, f = ndAt T k := ⟨_, rfl⟩
  rw [← hke] at f1 f2 f3 hd hr hok ⊢
  rw [← hfe] at f2 f3 hd hr hok ⊢
  obtain ⟨y, hy⟩ : ∃ y : NM, y = { f with pieces := f.pieces ++ newP g (spansX f.schema e.num), len := f.len + e.num } := ⟨_, rfl⟩
  rw [← hy] at hok ⊢
  have y1 : y.id = f.id := by rw [hy]
  have y2 : y.parent = f.parent := by rw [hy]
  have y3 : y.name = f.name := by rw [hy]
  have yl : y.len = f.len + e.num := by rw [hy]
  have yq : y.quota = f.quota := by rw [hy]
  have yd : y.dir = f.dir := by rw [hy]
  have hpR := TP.of hok
  intro x hx hxq hin
  have hxd := file_quota (hpR.kind x hx) hxq
  have hxy : x ≠ y := fun q => by rw [q, yd, hd] at hxd; cases hxd
  have hxT : x ∈ T.nodes := (List.mem_or_eq_of_mem_set hx).resolve_right hxy
  have hym : y ∈ (setN T k y).nodes := List.mem_of_getElem? (List.getElem?_set_self (by exact f1))
  rw [find_set (by rw [y1, hfe]) (by rw [y2, hfe]) (by rw [y3, hfe]), ← f2, ← y1, below_mem hok hym hx] at hin
  have hbs : ∀ c top, belowF (setN T k y).nodes 15 c top = belowF T.nodes 15 c top := fun c top => below_set (by rw [y1, hfe]) (by rw [y2, hfe]) 15 c top
  have hbf : blB T f x.id = true := by
   unfold blB at hin ⊢
   rw [hbs, y1] at hin
   exact hin
  obtain ⟨L, hL, hl4⟩ := hp.way4 f3
  have hanc : x.id = 1 ∨ x ∈ L := by
   unfold blB at hbf
   rw [hp.below_way hL 15 (by omega) (hp.nz x hxT), Bool.or_eq_true, decide_eq_true_eq, List.any_eq_true] at hbf
   rcases hbf with q | ⟨m, hm, q⟩
   ·exact .inl q
   ·exact .inr (by rw [← hp.up.one (hL.all m hm).1 hxT (of_decide_eq_true q)]; exact hm)
  unfold roomX at hr
  rw [if_pos ht] at hr
  have hroom := hp.room_way hL 15 0 (by omega) hr x hxT hanc hxd hxq
  have hu : usedX (setN T k y) x.id = usedX T x.id + e.num := by
   rw [used_sm hok hx, used_sm ht hxT]
   have h1 := sm_set (fun n => if blB (setN T k y) n x.id = true then n.len else 0) T.nodes k y f1
   rw [show (setN T k y).nodes = T.nodes.set k y from rfl, h1]
   have h2 : sm (fun n => if blB (setN T k y) n x.id = true then n.len else 0) T.nodes = sm (fun n => if blB T n x.id = true then n.len else 0) T.nodes := sm_congr fun n _ => by unfold blB; rw [hbs]
   rw [h2]
   have e1 : blB (setN T k y) y x.id = true := by unfold blB; rw [hbs, y1]; exact hbf
   have e2 : blB (setN T k y) (T.nodes.getD k default) x.id = true := by
    rw [show T.nodes.getD k default = f from hfe.symm]
    unfold blB; rw [hbs]; exact hbf
   rw [if_pos e1, if_pos e2, yl, show T.nodes.getD k default = f from hfe.symm]
   omega
  rw [hu]
  omega
end Go.Proofs.YtakhagkhngmpaaaGreat
