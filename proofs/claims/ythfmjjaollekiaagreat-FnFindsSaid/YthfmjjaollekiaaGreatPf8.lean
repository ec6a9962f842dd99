/- Texts of ours, laid one behind the other: WayM, TreJ, WayN, LkQ, LkR, TreK, LkS, FndM, LkE, LkF, LkG. -/
import Derived.Test.YthfmjjaollekiaaGreatPf7
import Derived.Test.YthfmjjaollekiaaGreatPf2
import Derived.Test.YthfmjjaollekiaaGreatPf3
import Derived.Sort.Walk0
import Derived.Deep.LoopGhost
import Derived.BigQuiet
/- WayM: The way down to a node of a right tree, plain: who is below whom, what is used. Nothing of the program is read here. -/
namespace Go.Proofs.YthfmjjaollekiaaGreat
set_option maxRecDepth 100000

/-- The nodes on the way from the first one (not counted) down to a node. -/
inductive Way (ns : List NM) : NM → List NM → Prop
  | root {r : NM} : r ∈ ns → r.id = 1 → r.parent = 0 → Way ns r []
  | step {n p : NM} {L : List NM} : n ∈ ns → n.id ≠ 1 → p ∈ ns → p.id = n.parent → Way ns p L → Way ns n (L ++ [n])
theorem Way.mem {ns : List NM} {n : NM} {L : List NM} (h : Way ns n L) : n ∈ ns := by
  cases h with
  | root h => exact h
  | step h => exact h
theorem Way.det {ns : List NM} (hu : Up2 ns) {n : NM} {L : List NM} (h : Way ns n L) : ∀ {M : List NM}, Way ns n M → L = M := by
  induction h with
  | root h1 h2 _ =>
    intro M h'
    cases h' with
    | root => rfl
    | step _ h3 => exact absurd h2 h3
  | @step n p L h1 h2 h3 h4 h5 ih =>
    intro M h'
    cases h' with
    | root _ q => exact absurd q h2
    | @step _ p' L' _ _ q3 q4 q5 =>
      have : p = p' := hu.one h3 q3 (by rw [h4, q4])
      subst this
      rw [ih q5]
theorem TP.one {T : TM} (h : TP T) {r : NM} (hr : r ∈ T.nodes) (e : r.id = 1) : r.parent = 0 := by
  obtain ⟨r', rest, er, hf⟩ := h.first
  have : r = r' := h.up.one hr (by rw [er]; simp) (by rw [e, (firstOk_id hf).1])
  rw [this]
  exact (firstOk_id hf).2
theorem TP.root_in {T : TM} (h : TP T) : ∃ r ∈ T.nodes, r.id = 1 ∧ r.parent = 0 ∧ firstOk r = true := by
  obtain ⟨r, rest, er, hr⟩ := h.first
  exact ⟨r, by rw [er]; simp, (firstOk_id hr).1, (firstOk_id hr).2, hr⟩
theorem TP.way {T : TM} (h : TP T) : ∀ (f : Nat) {n : NM}, n ∈ T.nodes → (n.id = 1 ∨ climbs T.nodes f n.id = true) → ∃ L, Way T.nodes n L ∧ L.length ≤ f := by
  obtain ⟨r, hr, r1, r0, _⟩ := h.root_in
  intro f
  induction f with
  | zero =>
    intro n hn hc
    rcases hc with e | hc
    · exact ⟨[], .root hn e (h.one hn e), Nat.le_refl _⟩
    · simp [climbs] at hc
  | succ f ih =>
    intro n hn hc
    by_cases e1 : n.id = 1
    · exact ⟨[], .root hn e1 (h.one hn e1), by simp⟩
    have hc := hc.resolve_left e1
    rw [h.up.climbs hn] at hc
    by_cases e : n.parent = 1
    · exact ⟨[] ++ [n], .step hn e1 hr (by rw [r1, e]) (.root hr r1 r0), by simp⟩
    · rw [if_neg e] at hc
      obtain ⟨q, hq, e2⟩ := climbs_mem hc
      rw [← e2] at hc
      obtain ⟨L, hL, hl⟩ := ih hq (.inr hc)
      exact ⟨L ++ [n], .step hn e1 hq e2 hL, by simp; omega⟩
theorem TP.way4 {T : TM} (h : TP T) {n : NM} (hn : n ∈ T.nodes) : ∃ L, Way T.nodes n L ∧ L.length ≤ 4 := by
  refine h.way 4 hn ?_
  by_cases e : n.id = 1
  · exact .inl e
  · exact .inr (h.rest n hn e).2.2
/-- Who stands on the way has a way of its own, which is no longer. -/
theorem Way.part {ns : List NM} {n : NM} {L : List NM} (h : Way ns n L) : ∀ m ∈ L, ∃ M R, Way ns m M ∧ L = M ++ R := by
  induction h with
  | root => intro m hm; simp at hm
  | @step n p L h1 h2 h3 h4 h5 ih =>
    intro m hm
    rcases List.mem_append.1 hm with q | q
    · obtain ⟨M, R, w, e⟩ := ih m q
      exact ⟨M, R ++ [n], w, by rw [e, List.append_assoc]⟩
    · rw [List.mem_singleton.1 q]
      exact ⟨L ++ [n], [], .step h1 h2 h3 h4 h5, by simp⟩
theorem Way.all {ns : List NM} {n : NM} {L : List NM} (h : Way ns n L) : ∀ m ∈ L, m ∈ ns ∧ m.id ≠ 1 := by
  induction h with
  | root => intro m hm; simp at hm
  | @step n p L h1 h2 h3 h4 h5 ih =>
    intro m hm
    rcases List.mem_append.1 hm with q | q
    · exact ih m q
    · rw [List.mem_singleton.1 q]; exact ⟨h1, h2⟩
/-- A node is not on the way to the one above it. -/
theorem Way.over {ns : List NM} (hu : Up2 ns) {n p : NM} {L : List NM} (h1 : n ∈ ns) (h2 : n.id ≠ 1) (h3 : p ∈ ns) (h4 : p.id = n.parent) (h5 : Way ns p L) : ∀ m ∈ L, m.id ≠ n.id := by
  intro m hm e
  have hmn : m = n := hu.one (h5.all m hm).1 h1 e
  subst hmn
  obtain ⟨M, R, w, eL⟩ := h5.part m hm
  have := w.det hu (.step h1 h2 h3 h4 h5)
  have hl := congrArg List.length this
  have hl2 := congrArg List.length eL
  simp at hl hl2
  omega
/-- Who is below whom, by the way. -/
theorem TP.below_way {T : TM} (h : TP T) {n : NM} {L : List NM} (hw : Way T.nodes n L) : ∀ (f : Nat) {top : Int}, L.length < f → top ≠ 0 → belowF T.nodes f n.id top = (decide (top = 1) || L.any (fun m => decide (m.id = top))) := by
  induction hw with
  | @root r h1 h2 h3 =>
    intro f top hf h0
    obtain ⟨f, rfl⟩ : ∃ q, f = q + 1 := ⟨f - 1, by omega⟩
    rw [h.up.below h1, h2, h3]
    by_cases e : (1 : Int) = top
    · simp [e]
    · rw [if_neg e]
      have e' : ¬ top = 1 := fun q => e q.symm
      simp only [e', decide_false, List.any_nil, Bool.or_false]
      cases f with
      | zero => rfl
      | succ f =>
        refine belowF_none (Ne.symm h0) ?_
        rw [List.findIdx?_eq_none_iff]
        intro n hn
        have := h.pos hn
        simp
        omega
  | @step n p L h1 h2 h3 h4 h5 ih =>
    intro f top hf h0
    obtain ⟨f, rfl⟩ : ∃ q, f = q + 1 := ⟨f - 1, by omega⟩
    rw [h.up.below h1, ← h4]
    have hl : L.length < f := by simp at hf; omega
    rw [ih f hl h0, List.any_append]
    by_cases e : n.id = top
    · simp [e]
    · rw [if_neg e]; simp [e]
/-- Below, for nodes of a right tree. -/
def blB (T : TM) (n : NM) (top : Int) : Bool := belowF T.nodes 15 n.id top
theorem TP.bl_root {T : TM} (h : TP T) {r : NM} (hr : r ∈ T.nodes) (e : r.id = 1) {top : Int} (h0 : top ≠ 0) : blB T r top = decide (r.id = top) := by
  unfold blB
  rw [h.below_way (.root hr e (h.one hr e)) 15 (by simp) h0, e]
  simp [eq_comm]
theorem TP.bl_step {T : TM} (h : TP T) {n p : NM} (hn : n ∈ T.nodes) (h1 : n.id ≠ 1) (hp : p ∈ T.nodes) (e : p.id = n.parent) {top : Int} (h0 : top ≠ 0) : blB T n top = (decide (n.id = top) || blB T p top) ∧ ¬ (n.id = top ∧ blB T p top = true) := by
  obtain ⟨L, hL, hl⟩ := h.way4 hp
  have hn' := Way.step hn h1 hp e hL
  unfold blB
  rw [h.below_way hn' 15 (by simp; omega) h0, h.below_way hL 15 (by omega) h0, List.any_append]
  refine ⟨?_, ?_⟩
  · simp only [List.any_cons, List.any_nil, Bool.or_false]
    cases decide (top = 1) <;> cases L.any (fun m => decide (m.id = top)) <;> cases decide (n.id = top) <;> rfl
  · rintro ⟨q1, q2⟩
    rw [Bool.or_eq_true] at q2
    rcases q2 with q | q
    · exact h1 (by rw [q1]; exact of_decide_eq_true q)
    · obtain ⟨m, hm, em⟩ := List.any_eq_true.1 q
      exact Way.over h.up hn h1 hp e hL m hm (by rw [of_decide_eq_true em, q1])
/-- A sum over nodes. -/
def sm (f : NM → Int) : List NM → Int
  | [] => 0
  | n :: ns => f n + sm f ns
theorem sm_app (f : NM → Int) (a b : List NM) : sm f (a ++ b) = sm f a + sm f b := by
  induction a with
  | nil => simp [sm]
  | cons n a ih => simp only [List.cons_append, sm, ih]; omega
theorem sm_take (f : NM → Int) (ns : List NM) (k : Nat) (h : k < ns.length) : sm f (ns.take (k + 1)) = sm f (ns.take k) + f ns[k] := by
  rw [List.take_succ_eq_append_getElem h, sm_app]
  simp [sm]
theorem sm_congr {f g : NM → Int} : ∀ {ns : List NM}, (∀ n ∈ ns, f n = g n) → sm f ns = sm g ns
  | [], _ => rfl
  | n :: ns, h => by simp only [sm]; rw [h n (by simp), sm_congr (fun m hm => h m (by simp [hm]))]
theorem sm_add (f g : NM → Int) : ∀ ns : List NM, sm (fun n => f n + g n) ns = sm f ns + sm g ns
  | [] => rfl
  | n :: ns => by simp only [sm]; rw [sm_add f g ns]; omega
theorem sm_zero : ∀ ns : List NM, sm (fun _ => 0) ns = 0
  | [] => rfl
  | n :: ns => by simp only [sm]; rw [sm_zero ns]; omega
theorem sm_flip (F : NM → NM → Int) : ∀ us bs : List NM, sm (fun a => sm (fun b => F a b) bs) us = sm (fun b => sm (fun a => F a b) us) bs
  | [], bs => (sm_zero bs).symm
  | a :: us, bs => by
    simp only [sm]
    rw [sm_flip F us bs, ← sm_add]
/-- Of one of them alone. -/
theorem sm_one {f : NM → Int} : ∀ {ns : List NM} {x : NM}, Up2 ns → x ∈ ns → sm (fun n => if n.id = x.id then f n else 0) ns = f x
  | n :: ns, x, hu, hx => by
    obtain ⟨h1, h2⟩ := List.pairwise_cons.1 hu
    simp only [sm]
    rcases List.mem_cons.1 hx with rfl | hm
    · rw [if_pos rfl, sm_congr (g := fun _ => 0), sm_zero]
      · omega
      · intro m hm
        have := h1 m hm
        rw [if_neg (by omega)]
    · have := h1 x hm
      rw [if_neg (by omega), sm_one h2 hm]
      omega
theorem usedL_sm {T : TM} (h : TP T) (P : NM → Bool) : ∀ ns : List NM, (∀ n ∈ ns, n ∈ T.nodes) → usedL T.nodes ((ns.filter P).map NM.id) = sm (fun n => if P n = true then n.len else 0) ns
  | [], _ => rfl
  | n :: ns, hm => by
    have ih := usedL_sm h P ns (fun m q => hm m (by simp [q]))
    have ha := (h.up.at (hm n (by simp))).2
    simp only [sm, List.filter_cons]
    cases hP : P n with
    | false => simp only [Bool.false_eq_true, if_false]; rw [ih]; omega
    | true =>
      simp only [if_true, List.map_cons]
      have : usedL T.nodes (n.id :: (ns.filter P).map NM.id) = (T.nodes.getD (atI T.nodes n.id).toNat default).len + usedL T.nodes ((ns.filter P).map NM.id) := rfl
      rw [this, ih, ha]
theorem used_sm {T : TM} (h : treeOk T = true) {x : NM} (hx : x ∈ T.nodes) : usedX T x.id = sm (fun n => if blB T n x.id = true then n.len else 0) T.nodes := by
  have hp := TP.of h
  unfold usedX belowX
  rw [if_pos ⟨h, (hp.up.at hx).1⟩]
  exact usedL_sm hp (fun n => belowF T.nodes 15 n.id x.id) T.nodes (fun _ q => q)
theorem used_none {T : TM} {id : Int} (hn : ∀ n ∈ T.nodes, n.id ≠ id) : usedX T id = 0 := by
  unfold usedX belowX
  rw [if_neg (by rw [atI_none hn]; omega)]
  rfl
/-- Who is below a node is it, or below just one of its kids. -/
theorem TP.bl_sum {T : TM} (h : TP T) {x : NM} (hx : x ∈ T.nodes) {n : NM} {L : List NM} (hw : Way T.nodes n L) (c : Int) : (if blB T n x.id = true then c else 0) = (if n.id = x.id then c else 0) + sm (fun k => if k.parent = x.id then (if blB T n k.id = true then c else 0) else 0) T.nodes := by
  have x0 : x.id ≠ 0 := by have := h.pos hx; omega
  have k0 : ∀ k ∈ T.nodes, k.id ≠ 0 := fun k hk => by have := h.pos hk; omega
  induction hw with
  | @root r h1 h2 h3 =>
    rw [h.bl_root h1 h2 x0, sm_congr (g := fun _ => 0), sm_zero]
    · simp
    · intro k hk
      split
      · rename_i e
        rw [h.bl_root h1 h2 (k0 k hk)]
        rw [if_neg]
        simp only [decide_eq_true_eq]
        intro q
        have := h.one hk (by rw [← q, h2])
        omega
      · rfl
  | @step n p L h1 h2 h3 h4 h5 ih =>
    obtain ⟨q1, q2⟩ := h.bl_step h1 h2 h3 h4 x0
    have hs : sm (fun k => if k.parent = x.id then (if blB T n k.id = true then c else 0) else 0) T.nodes = sm (fun k => if k.id = n.id then (if k.parent = x.id then c else 0) else 0) T.nodes + sm (fun k => if k.parent = x.id then (if blB T p k.id = true then c else 0) else 0) T.nodes := by
      rw [← sm_add]
      refine sm_congr fun k hk => ?_
      obtain ⟨r1, r2⟩ := h.bl_step h1 h2 h3 h4 (k0 k hk)
      by_cases e1 : k.parent = x.id
      · rw [if_pos e1, if_pos e1, if_pos e1, r1]
        by_cases e2 : k.id = n.id
        · rw [if_pos e2]
          have : blB T p k.id = false := Bool.eq_false_iff.2 fun hc => r2 ⟨e2.symm, hc⟩
          rw [this, e2]
          simp
        · rw [if_neg e2]
          have e2' : ¬ n.id = k.id := fun q => e2 q.symm
          simp [e2']
      · rw [if_neg e1, if_neg e1, if_neg e1]
        split <;> rfl
    rw [hs, sm_one h.up h1, q1]
    have hpx : (n.parent = x.id) = (p.id = x.id) := by rw [h4]
    rw [← h4]
    by_cases e : n.id = x.id
    · have : blB T p x.id = false := Bool.eq_false_iff.2 fun hc => q2 ⟨e, hc⟩
      rw [this] at ih
      simp only [Bool.false_eq_true, if_false] at ih
      simp only [e, decide_true, Bool.true_or, if_true]
      omega
    · rw [if_neg e]
      simp only [e, decide_false, Bool.false_or]
      omega
/-- What is used below a node is its own and what its kids use. -/
theorem used_kids {T : TM} (h : treeOk T = true) {x : NM} (hx : x ∈ T.nodes) : x.len + sm (fun k => if k.parent = x.id then usedX T k.id else 0) T.nodes = usedX T x.id := by
  have hp := TP.of h
  rw [used_sm h hx]
  have e1 : sm (fun n => if blB T n x.id = true then n.len else 0) T.nodes = sm (fun n => (if n.id = x.id then n.len else 0) + sm (fun k => if k.parent = x.id then (if blB T n k.id = true then n.len else 0) else 0) T.nodes) T.nodes := by
    refine sm_congr fun n hn => ?_
    obtain ⟨L, hL, _⟩ := hp.way4 hn
    exact hp.bl_sum hx hL n.len
  rw [e1, sm_add, sm_one (f := fun n => n.len) hp.up hx, sm_flip]
  refine congrArg (x.len + ·) (sm_congr fun k hk => ?_)
  split
  · exact used_sm h hk
  · exact (sm_zero _).symm
/-- A schema is a node's own, or that of the node above it. -/
theorem schema_own {T : TM} (h : treeOk T = true) {x : NM} (hx : x ∈ T.nodes) (h0 : x.schema ≠ 0) : schemaAtX T x.id = x.schema := by
  have hp := TP.of h
  obtain ⟨k, hk, e⟩ := hp.up.find hx
  unfold schemaAtX
  rw [if_pos h, schemaF_some hk, e, if_pos h0]
theorem TP.sch_more {T : TM} (h : TP T) {n : NM} {L : List NM} (hw : Way T.nodes n L) : ∀ f, L.length < f → schemaF T.nodes (f + 1) n.id = schemaF T.nodes f n.id := by
  induction hw with
  | @root r h1 h2 h3 =>
    intro f hf
    obtain ⟨f, rfl⟩ : ∃ q, f = q + 1 := ⟨f - 1, by omega⟩
    obtain ⟨k, hk, e⟩ := h.up.find h1
    rw [schemaF_some hk, schemaF_some hk, e, h3]
    split
    · rfl
    · have hz : ∀ m, schemaF T.nodes m 0 = 0 := fun m => by
        cases m with
        | zero => rfl
        | succ m =>
          refine schemaF_none ?_
          rw [List.findIdx?_eq_none_iff]
          intro n hn
          have := h.pos hn
          simp
          omega
      rw [hz, hz]
  | @step n p L h1 h2 h3 h4 h5 ih =>
    intro f hf
    obtain ⟨f, rfl⟩ : ∃ q, f = q + 1 := ⟨f - 1, by omega⟩
    obtain ⟨k, hk, e⟩ := h.up.find h1
    rw [schemaF_some hk, schemaF_some hk, e, ← h4]
    split
    · rfl
    · exact ih f (by simp at hf; omega)
theorem schema_up {T : TM} (h : treeOk T = true) {x : NM} (hx : x ∈ T.nodes) (h0 : x.schema = 0) : schemaAtX T x.id = schemaAtX T x.parent := by
  have hp := TP.of h
  obtain ⟨k, hk, e⟩ := hp.up.find hx
  have h1 : x.id ≠ 1 := fun q => by
    obtain ⟨r, hr, r1, _, rf⟩ := hp.root_in
    have : x = r := hp.up.one hx hr (by rw [q, r1])
    unfold firstOk at rf
    simp only [Bool.and_eq_true, bne_iff_ne] at rf
    exact rf.2 (by rw [← this, h0])
  obtain ⟨_, ⟨p, hpm, ep, _⟩, _⟩ := hp.rest x hx h1
  obtain ⟨L, hL, hl⟩ := hp.way4 hpm
  unfold schemaAtX
  rw [if_pos h, if_pos h, schemaF_some hk, e, if_neg (by simp [h0]), ← ep]
  exact (hp.sch_more hL 14 (by omega)).symm
theorem schema_root {T : TM} (h : treeOk T = true) : 1 ≤ schemaAtX T 1 := by
  have hp := TP.of h
  obtain ⟨r, hr, r1, _, rf⟩ := hp.root_in
  unfold firstOk at rf
  simp only [Bool.and_eq_true, bne_iff_ne] at rf
  have hk := hp.kind r hr
  rw [if_pos rf.1.2] at hk
  unfold dirOk at hk
  simp only [Bool.and_eq_true, inI_iff] at hk
  have := schema_own h hr rf.2
  rw [← r1, this]
  have := hk.1.1.1.1
  omega
/-- A quota and one byte more is no room. -/
theorem room_over {T : TM} (h : treeOk T = true) {x : NM} (hx : x ∈ T.nodes) (hq : 0 < x.quota) : roomX T x.id (x.quota + 1) = false := by
  have hp := TP.of h
  obtain ⟨k, hk, e⟩ := hp.up.find hx
  have hd : x.dir = true := by
    have := hp.kind x hx
    cases hd : x.dir with
    | true => rfl
    | false =>
      rw [hd] at this
      simp only [Bool.false_eq_true, if_false] at this
      unfold fileOk at this
      simp only [Bool.and_eq_true, beq_iff_eq] at this
      omega
  unfold roomX
  rw [if_pos h, roomF_some hk, e, if_pos]
  refine ⟨hd, hq, ?_⟩
  have := (usedX_le T x.id).1
  omega
theorem room_none {T : TM} {id m : Int} (hn : ∀ n ∈ T.nodes, n.id ≠ id) : roomX T id m = false := by
  unfold roomX
  split
  · rw [roomF_none]
    · rfl
    · rw [List.findIdx?_eq_none_iff]
      intro n hh
      simpa using hn n hh
  · rfl
/-- Next goes on by one a record, at most. -/
theorem next_add {T : TM} {p : ByteArray} {x : NM} : (addX T p x).1.next ≤ T.next + 1 := by
  unfold addX
  have h0 : T.next ≤ T.next + 1 := by omega
  split
  · exact h0
  split
  · exact h0
  split
  · exact h0
  split
  · exact h0
  · exact Int.le_refl _
theorem next_apply {T : TM} {e : EM} {g : Int} : (applyX T e g).1.next ≤ T.next + 1 := by
  have hs : ∀ k x, (setN T k x).next ≤ T.next + 1 := fun k x => by show T.next ≤ T.next + 1; omega
  have h0 : T.next ≤ T.next + 1 := by omega
  unfold applyX
  split
  · exact h0
  split
  · exact h0
  split
  · exact next_add
  split
  · exact next_add
  split
  · exact h0
  split
  · unfold moveX
    split
    · exact h0
    split
    · exact h0
    split
    · exact h0
    split
    · exact h0
    split
    · exact h0
    · exact hs _ _
  split
  · exact h0
  split
  · unfold setX
    split
    · exact h0
    split
    · exact hs _ _
    split
    · exact h0
    · exact hs _ _
  · unfold writeX
    split
    · exact h0
    split
    · exact h0
    split
    · exact hs _ _
    split
    · exact hs _ _
    split
    · exact h0
    split
    · exact h0
    · exact hs _ _
theorem next_all (es : List EM) : ∀ s : TM × Int, (es.foldl stepX s).1.next ≤ s.1.next + es.length := by
  induction es with
  | nil => intro s; simp
  | cons e es ih =>
    intro s
    rw [List.foldl_cons]
    have h1 := ih (stepX s e)
    have h2 : (stepX s e).1.next ≤ s.1.next + 1 := by
      unfold stepX
      split
      · exact next_apply
      · omega
    rw [List.length_cons]
    push_cast
    omega
theorem newX_ok9 : treeOk newX = true := by decide
theorem drawn_ok (es : List EM) : treeOk (allX newX es 1).1 = true := allX_ok es 1 newX_ok9
theorem drawn_low (es : List EM) (h : es.length ≤ 14) : ∀ n ∈ (allX newX es 1).1.nodes, n.id < 17 := by
  intro n hn
  have h1 := (TP.of (drawn_ok es)).lt n hn
  have h2 := next_all es (newX, 1)
  have h3 : newX.next = 2 := rfl
  unfold allX at h1
  rw [h3] at h2
  omega
end Go.Proofs.YthfmjjaollekiaaGreat
/- TreJ: The walk of the model's PathOf. -/
namespace Go.Proofs.YthfmjjaollekiaaGreat
set_option maxRecDepth 100000
open Go.RowKit
attribute [local go_sem ↓] Go.wp_at_zero Go.wp_at_succ

/-- Up to the first node, names in front of names. -/
def pathF (ns : List NM) : Nat → Int → List ByteArray → ByteArray
  | 0, _, _ => ⟨#[]⟩
  | f + 1, id, L => if id = 1 then joinB L else match ns.findIdx? (fun n => n.id == id) with
    | none => ⟨#[]⟩
    | some k => pathF ns f (ns.getD k default).parent ((ns.getD k default).name :: L)
theorem pathF_one {ns : List NM} {f : Nat} {c : Int} {L : List ByteArray} (h : c = 1) : pathF ns (f + 1) c L = joinB L := by
  conv => lhs; unfold pathF
  rw [if_pos h]
theorem pathF_none {ns : List NM} {f : Nat} {c : Int} {L : List ByteArray} (h0 : c ≠ 1) (h : ns.findIdx? (fun n => n.id == c) = none) : pathF ns (f + 1) c L = ⟨#[]⟩ := by
  conv => lhs; unfold pathF
  rw [if_neg h0, h]
theorem pathF_some {ns : List NM} {f i : Nat} {c : Int} {L : List ByteArray} (h0 : c ≠ 1) (h : ns.findIdx? (fun n => n.id == c) = some i) : pathF ns (f + 1) c L = pathF ns f (ns.getD i default).parent ((ns.getD i default).name :: L) := by
  conv => lhs; unfold pathF
  rw [if_neg h0, h]
def pathX (T : TM) (id : Int) : ByteArray := if treeOk T = true then pathF T.nodes 15 id [] else ⟨#[]⟩
theorem treeOk_first {T : TM} (h : treeOk T = true) : 0 < T.nodes.length ∧ (T.nodes.getD 0 default).id = 1 ∧ atI T.nodes 1 = 0 := by
  have h0 : 0 < T.nodes.length := by
    unfold treeOk at h
    simp only [Bool.and_eq_true, decide_eq_true_eq] at h
    omega
  have h1 := treeOk_node h h0
  unfold nodeOk at h1
  simp only [Bool.and_eq_true] at h1
  have h2 := h1.1.1.2
  rw [if_pos trivial] at h2
  unfold firstOk at h2
  simp only [Bool.and_eq_true] at h2
  have h3 : (T.nodes.getD 0 default).id = 1 := by simpa using h2.1.1.1.1
  refine ⟨h0, h3, ?_⟩
  exact atI_some (i := 0) h0 (by rw [← h3]; simp [List.getD, h0]) (fun j hj => by omega)
theorem treeOk_name {T : TM} (h : treeOk T = true) {i : Nat} (hi : i < T.nodes.length) (h1 : (T.nodes.getD i default).id ≠ 1) : nameB (T.nodes.getD i default).name = true := by
  have hn := treeOk_node h hi
  have h0 : i ≠ 0 := fun e => by rw [e] at h1; exact h1 (treeOk_first h).2.1
  unfold nodeOk at hn
  rw [decide_eq_false h0] at hn
  simp only [Bool.and_eq_true, Bool.false_or] at hn
  exact hn.2.1.1.1.1
theorem names_fit' {L : List ByteArray} (h : ∀ s ∈ L, nameB s = true) (h4 : L.length ≤ 15) : TFit L := by
  have hs : ∀ s ∈ L, s.size ≤ 8 := fun s hs => ((nameB_iff s).1 (h s hs)).2.2
  have : tsum L ≤ L.length * 8 := by
    clear h h4
    induction L with
    | nil => simp [tsum]
    | cons x L ih =>
      simp only [tsum, List.length_cons, Nat.add_mul, Nat.one_mul]
      have h1 := hs x (by simp)
      have h2 := ih (fun s h => hs s (by simp [h]))
      omega
  unfold TFit
  omega
theorem own_all9 {w : World} {g cap B n : Nat} {L : List ByteArray} (h : w.ownsRow B 9 1 (.slice (some ⟨g, 0, none⟩) n cap) n (tv L)) (hn : n = L.length) : SSee w (.slice (some ⟨g, 0, none⟩) n cap) L 0 w.heap.size := by
  have := own_part9 h (k := n) (by omega)
  rw [List.take_of_length_le (by omega)] at this
  exact this
theorem own_one9 (w : World) (v : Value) (e : TypeId) {base : Nat} (hb : base ≤ w.heap.size) : (w.alloc (.cells #[v] e)).ownsRow base e 1 (.slice (some ⟨w.heap.size, 0, none⟩) 1 1) 1 [v] := ⟨by simp, .inr ⟨w.heap.size, 1, #[v], rfl, hb, heap_alloc_new w _, Nat.le_refl _, by decide, rfl, by simp⟩⟩
/-- The names so far, and where they lie. -/
def NSo (w W : World) (a : Option Addr) (n cap : Nat) (nx : Int) (g c l : Nat) (L : List ByteArray) : Prop := BX w W a n cap nx ∧ W.ownsRow (w.heap.size + 1) 9 1 (.slice (some ⟨g, 0, none⟩) l c) l (tv L)
theorem NSo.below {w W W' : World} {a : Option Addr} {n cap g c l : Nat} {nx : Int} {L : List ByteArray} (h : NSo w W a n cap nx g c l L) (hb : Below W.heap.size W W') : NSo w W' a n cap nx g c l L := ⟨h.1.below hb, h.2.kept (row := none) ⟨hb.os, hb.tape, hb.output, hb.size, fun k hk _ => hb.block k hk⟩ (Classical.em _)⟩
attribute [local irreducible] nodeOk treeOk atI joinB nameB
set_option maxRecDepth 100000 in
set_option maxHeartbeats 4000000 in
theorem specPathOf {w : World} {v : Value} {T : TM} {lo hi : Nat} (id : Int) (h : TSee w v T lo hi) (hf : NFit T) : Calls Tryz.prog 19 #[v, .int .i64 id] w fun e w' => e = .returned (.string (pathX T id)) ∧ Below w.heap.size w w' := by
  have hl : T.nodes.length ≤ 1048576 := by unfold NFit at hf; omega
  have h' := h
  obtain ⟨a, cap, rs, rfl, hr, hm⟩ := h
  obtain ⟨n, hn⟩ : ∃ n, n = rs.length := ⟨_, rfl⟩
  rw [← hn] at h' ⊢
  have HTS := Shut.mk (fun W (hW : Below w.heap.size w W) (c : Int) => specAt c (h'.below hW) hl)
  have HTO := Shut.mk (fun W (hW : Below w.heap.size w W) => specTreeOk (h'.below hW) hf)
  obtain ⟨R, hR⟩ : ∃ R, R = pathX T id := ⟨_, rfl⟩
  rw [← hR]
  unfold pathX at hR
  obtain ⟨nodes, nx⟩ := T
  dsimp only at hr HTS HTO hR
  subst hr
  have HM := Shut.mk (And.intro hm hn)
  have hn9 : n ≤ 1048576 := by dsimp only at hl; rw [nds_len] at hl; omega
  have HR := Shut.mk hR
  clear hm hf hR hn h' hl
  cases hok : treeOk ⟨nds rs, nx⟩ with
  | false =>
    have HE : Shut (R = ⟨#[]⟩) := ⟨by rw [HR.out, if_neg (by rw [hok]; decide)]⟩
    rw [hok] at HTO
    clear hok
    go_enter Tryz.func19, Tryz.ntmps19
    go_upto_region 1 with fail
    refine wp_shade (fun W => BX w W a n cap nx) (BX.new w a n cap nx 26) ?_
    intro W hg
    have HG := Shut.mk hg
    have x0 := (hg.box.2 0 _ rfl).1
    have x1 := (hg.box.2 1 _ rfl).1
    clear hg
    go_wp2_with fail
    refine (HTO.out _ HG.out.bel).mono ?_
    rintro e W1 ⟨rfl, hb1⟩
    have HG1 := Shut.mk (HG.out.below hb1)
    clear hb1
    go_wp2_with fail
    go_ret
    exact ⟨by rw [HE.out]; rfl, HG1.out.bel⟩
  | true =>
    have HRR : Shut (R = pathF (nds rs) 15 id []) := ⟨by rw [HR.out, if_pos hok]⟩
    have HOK := Shut.mk hok
    have HFI := Shut.mk (treeOk_first hok).2.2
    rw [hok] at HTO
    obtain ⟨t0, ht0, hty0, hty1, hty2⟩ := info_parts infoTextG
    clear hok HR
    go_enter Tryz.func19, Tryz.ntmps19
    go_upto_region 1 with fail
    refine wp_shade (fun W => BX w W a n cap nx) (BX.new w a n cap nx 26) ?_
    intro W hg
    have HG := Shut.mk hg
    have x0 := (hg.box.2 0 _ rfl).1
    have x1 := (hg.box.2 1 _ rfl).1
    clear hg
    go_wp2_with fail
    refine (HTO.out _ HG.out.bel).mono ?_
    rintro e W1 ⟨rfl, hb1⟩
    have HG1 := Shut.mk (HG.out.below hb1)
    clear hb1 x0 x1 HG
    go_upto_region 4 with fail
    refine wp_shade (fun W => NSo w W a n cap nx W1.heap.size 0 0 []) ⟨HG1.out.below ((Below.refl _ _).alloc (Nat.le_refl _) _), World.ownsRow_made W1 #[] 0 (by have := HG1.out.box.1; omega) (by decide) rfl⟩ ?_
    intro W2 hg2
    have HG2 := Shut.mk hg2
    clear hg2 HG1
    go_wp2_with fail
    go_loopw [1, 5, 6] (fun cv lv sv wr => ∃ (s : Nat) (c : Int) (g cp l : Nat) (L : List ByteArray), cv = .int .i64 c ∧ lv = .slice (some ⟨g, 0, none⟩) l cp ∧ sv = .int .i64 s ∧ s ≤ 15 ∧ l ≤ s ∧ Shut (l = L.length) ∧ Shut (∀ x ∈ L, nameB x = true) ∧ Shut (R = pathF (nds rs) (15 - s) c L) ∧ Shut (NSo w wr a n cap nx g cp l L)) (fun _ _ sv _ => 15 - (intOf sv).toNat)
    case atStart => exact ⟨0, id, _, 0, 0, [], rfl, rfl, rfl, by omega, by omega, ⟨rfl⟩, ⟨by simp⟩, ⟨HRR.out⟩, HG2⟩
    case round =>
      clear HG2 HRR
      obtain ⟨s, c, g, cp, l, L, rfl, rfl, rfl, hs15, hls, HLL, HNM, HC, HG⟩ := hrel
      by_cases hlt : s < 15
      · have m1 : (s : Int) ≤ 14 := by omega
        obtain ⟨f, hf⟩ : ∃ f, f = 15 - (s + 1) := ⟨_, rfl⟩
        have hcl' := HC.out
        rw [show 15 - s = f + 1 by omega] at hcl'
        have x0 := (HG.out.1.box.2 0 _ rfl).1
        have x1 := (HG.out.1.box.2 1 _ rfl).1
        by_cases hc1 : c = 1
        · have hc1' : (c == 1) = true := by simpa using hc1
          have HE : Shut (R = joinB L) := ⟨by rw [hcl', pathF_one hc1]⟩
          have HAT := Shut.mk (HTS.out wr HG.out.1.bel 1)
          rw [HFI.out] at HAT
          clear hcl' hf hc1 HC
          go_wp2_with fail
          refine HAT.out.mono ?_
          rintro e W6 ⟨rfl, hb6⟩
          have HG6 := Shut.mk (HG.out.below hb6)
          have HJ := Shut.mk (specJoinPath (own_all9 HG6.out.2 HLL.out) (names_fit' HNM.out (by have := HLL.out; omega)))
          clear hb6 x0 x1 HAT HG
          go_wp2_with fail
          refine HJ.out.mono ?_
          rintro e W7 ⟨rfl, hb7⟩
          have HG7 := Shut.mk (HG6.out.1.below hb7)
          clear hb7
          go_wp2_with fail
          go_ret
          exact ⟨by rw [HE.out]; rfl, HG7.out.bel⟩
        · have hc1' : (c == 1) = false := by simpa using hc1
          have HAT := Shut.mk (HTS.out wr HG.out.1.bel c)
          rcases at_cases (nds rs) c with ⟨hat, hfn⟩ | ⟨i, hi, hat, hfn⟩
          · have HE : Shut (R = ⟨#[]⟩) := ⟨by rw [hcl', pathF_none hc1 hfn]⟩
            rw [hat] at HAT
            clear hcl' hf hc1 HC hat hfn
            go_wp2_with fail
            refine HAT.out.mono ?_
            rintro e W6 ⟨rfl, hb6⟩
            have HG6 := Shut.mk (HG.out.1.below hb6)
            clear hb6
            go_wp2_with fail
            go_ret
            exact ⟨by rw [HE.out]; rfl, HG6.out.bel⟩
          · have hir : i < rs.length := by rw [nds_len] at hi; exact hi
            have hidc : (((nds rs).getD i default).id == c) = true := by
              obtain ⟨h1, h2, _⟩ := List.findIdx?_eq_some_iff_getElem.1 hfn
              have : (nds rs).getD i default = (nds rs)[i] := by simp [List.getD, h1]
              rw [this]; exact h2
            have hnb : nameB rs[i].nd.name = true := by
              have := treeOk_name HOK.out (i := i) hi (by dsimp only; rw [beq_iff_eq.1 hidc]; exact hc1)
              dsimp only at this
              rw [nds_getD hir] at this
              exact this
            have HNX : Shut (R = pathF (nds rs) (15 - (s + 1)) rs[i].nd.parent (rs[i].nd.name :: L)) := ⟨by rw [hcl', pathF_some hc1 hfn, nds_getD hir, ← hf]⟩
            have HNB := Shut.mk hnb
            rw [hat] at HAT
            have i0 : (0 : Int) ≤ (i : Int) := by omega
            have i1 : (i : Int) < (n : Int) := by have := HM.out.2; omega
            have i2 : ¬ (i : Int) < 0 := by omega
            clear hcl' hf hc1 HC hat hfn hidc hnb hi
            go_wp2_with fail
            refine HAT.out.mono ?_
            rintro e W6 ⟨rfl, hb6⟩
            have HG6 := Shut.mk (HG.out.below hb6)
            clear hb6 x0 x1 HAT HG
            have x0 := (HG6.out.1.box.2 0 _ rfl).1
            obtain ⟨b, off, rfl, lb, hc⟩ := TR.nat (HM.out.1.below HG6.out.1.bel) (by omega)
            have HCC := Shut.mk (hc i hir)
            have e2 := (hc i hir).2.2.1
            clear hc
            generalize rs[i] = r at *
            have hs6 : w.heap.size + 1 ≤ W6.heap.size := by have := HG6.out.1.box.1; omega
            have ho6 := HG6.out.2
            go_wp2_with (at_builtin; refine wpList_append_own _ rfl _ _ 34 rfl (w.heap.size + 1) 9 t0 (.string ⟨#[]⟩) 1 16 Tryz.underlying34 ht0 hty0 hty1 hty2 rfl (by decide) _ 1 [.string r.nd.name] rfl (own_one9 W6 (.string r.nd.name) _ hs6) ⟨g, 0, none⟩ l cp (tv L) rfl ?c0 ?c1 ?c2 ?c3 ?c4 ?c5 ?_)
            case c0 => rw [tv_len, Nat.mul_one]; exact HLL.out.symm
            case c1 =>
              intro j u hu
              rw [show (Addr.add ⟨g, 0, none⟩ j) = ⟨g, j, none⟩ by unfold Addr.add; split <;> simp [*]]
              exact ((own_wcells (ho6.alloc _)).2 j u hu).1
            case c2 => intro u hu; obtain ⟨y, _, rfl⟩ := List.mem_map.1 hu; rfl
            case c3 => unfold maxLen; omega
            case c4 => omega
            case c5 => first | omega | (simp; omega)
            intro v' w10 ho10 hgrow _
            obtain ⟨g', cp', rfl, _⟩ := own_some9 ho10 (by omega)
            have hb10 : Below W6.heap.size W6 w10 := ((Below.refl _ _).alloc (Nat.le_refl _) _).grown hgrow ((Below.refl W6.heap.size W6).alloc (Nat.le_refl _) _).size (fun j hj => ((own_one9 W6 (.string r.nd.name) 9 (Nat.le_refl _)).lt j hj).1)
            have HGZ : Shut (NSo w w10 (some ⟨b, off, none⟩) n cap nx g' cp' (l + 1) (r.nd.name :: L)) := ⟨HG6.out.1.below hb10, by rw [Nat.add_comm l 1]; exact ho10⟩
            rw [Nat.add_comm 1 l]
            have HNM' : Shut (∀ x ∈ r.nd.name :: L, nameB x = true) := ⟨fun x hx => by
              rcases List.mem_cons.1 hx with rfl | h
              · exact HNB.out
              · exact HNM.out x h⟩
            have z0 := (HGZ.out.1.box.2 0 _ rfl).1
            have e1 := (HCC.out.below hb10 lb).2.1
            clear hgrow ho10 ho6 hb10 x0 e2
            go_wp2_with fail
            go_roundw
            case rel => exact ⟨s + 1, r.nd.parent, g', cp', l + 1, r.nd.name :: L, rfl, rfl, by go_num, by omega, by omega, ⟨by rw [List.length_cons, ← HLL.out]⟩, HNM', HNX, HGZ⟩
            case measure => simp [intOf]; omega
      · have hm : s = 15 := by omega
        have HE : Shut (R = ⟨#[]⟩) := ⟨by rw [HC.out, hm]; rfl⟩
        have m1 : ¬ (s : Int) ≤ 14 := by omega
        clear hm HC
        go_wp2_with fail
        go_ret
        exact ⟨by rw [HE.out]; rfl, HG.out.1.bel⟩
end Go.Proofs.YthfmjjaollekiaaGreat
/- WayN: Paths of the nodes of a right tree, plain: each node is found by its path, and who is below it has its path ahead. Nothing of the program is read here. -/
namespace Go.Proofs.YthfmjjaollekiaaGreat
set_option maxRecDepth 100000

theorem TP.path_way {T : TM} (h : TP T) {n : NM} {L : List NM} (hw : Way T.nodes n L) : ∀ (f : Nat) (acc : List ByteArray), L.length < f → pathF T.nodes f n.id acc = joinB (L.map NM.name ++ acc) := by
  induction hw with
  | @root r h1 h2 h3 =>
    intro f acc hf
    obtain ⟨f, rfl⟩ : ∃ q, f = q + 1 := ⟨f - 1, by omega⟩
    rw [pathF_one h2]
    rfl
  | @step n p L h1 h2 h3 h4 h5 ih =>
    intro f acc hf
    obtain ⟨f, rfl⟩ : ∃ q, f = q + 1 := ⟨f - 1, by omega⟩
    obtain ⟨k, hk, e⟩ := h.up.find h1
    rw [pathF_some h2 hk, e, ← h4, ih f _ (by simp at hf; omega)]
    simp
theorem path_is {T : TM} (h : treeOk T = true) {n : NM} {L : List NM} (hw : Way T.nodes n L) (hl : L.length ≤ 4) : pathX T n.id = joinB (L.map NM.name) := by
  unfold pathX
  rw [if_pos h, (TP.of h).path_way hw 15 [] (by omega), List.append_nil]
theorem path_none {T : TM} {id : Int} (h1 : id ≠ 1) (hn : ∀ n ∈ T.nodes, n.id ≠ id) : pathX T id = ⟨#[]⟩ := by
  unfold pathX
  split
  · refine pathF_none h1 ?_
    rw [List.findIdx?_eq_none_iff]
    intro n hh
    simpa using hn n hh
  · rfl
theorem kid_keep (c : Int) (nm : ByteArray) : ∀ (ns : List NM) (z : Int), z ≠ 0 → ns.foldl (kidS c nm) z = z
  | [], z, _ => rfl
  | n :: ns, z, hz => by
    rw [List.foldl_cons]
    have : kidS c nm z n = z := by unfold kidS; rw [if_neg (by intro q; exact hz q.2.2)]
    rw [this]
    exact kid_keep c nm ns z hz
/-- Whom a name finds below another node: the first one that has it. -/
theorem kid_find (c : Int) (nm : ByteArray) : ∀ (ns : List NM), (∀ n ∈ ns, n.id ≠ 0) → kidF ns c nm = match ns.find? (fun n => n.parent == c && decide (n.name = nm)) with
    | none => 0
    | some n => n.id
  | [], _ => rfl
  | n :: ns, h => by
    have ih := kid_find c nm ns (fun m hm => h m (by simp [hm]))
    unfold kidF at ih ⊢
    rw [List.foldl_cons]
    by_cases e : n.parent = c ∧ n.name = nm
    · have e1 : kidS c nm 0 n = n.id := by unfold kidS; rw [if_pos ⟨e.1, e.2, rfl⟩]
      rw [e1, kid_keep c nm ns n.id (h n (by simp)), List.find?_cons_of_pos (by simp [e.1, e.2])]
    · have e1 : kidS c nm 0 n = 0 := by unfold kidS; rw [if_neg (by intro q; exact e ⟨q.1, q.2.1⟩)]
      rw [e1, ih, List.find?_cons_of_neg (by simpa using e)]
theorem TP.same {T : TM} (h : TP T) {a b : NM} (ha : a ∈ T.nodes) (hb : b ∈ T.nodes) (e1 : a.parent = b.parent) (e2 : a.name = b.name) : a = b := by
  obtain ⟨i, hi, rfl⟩ := List.getElem_of_mem ha
  obtain ⟨j, hj, rfl⟩ := List.getElem_of_mem hb
  have hp := List.pairwise_iff_getElem.1 h.uniq
  rcases Nat.lt_trichotomy i j with q | q | q
  · exact absurd ⟨e1, e2⟩ (hp i j hi hj q)
  · subst q; rfl
  · exact absurd ⟨e1.symm, e2.symm⟩ (hp j i hj hi q)
theorem TP.nz {T : TM} (h : TP T) : ∀ n ∈ T.nodes, n.id ≠ 0 := fun n hn => by have := h.pos hn; omega
theorem TP.kid {T : TM} (h : TP T) {n : NM} (hn : n ∈ T.nodes) : kidF T.nodes n.parent n.name = n.id := by
  rw [kid_find _ _ _ h.nz]
  cases e : T.nodes.find? (fun m => m.parent == n.parent && decide (m.name = n.name)) with
  | none =>
    have := List.find?_eq_none.1 e n hn
    simp at this
  | some m =>
    have h1 := List.find?_some e
    have h2 := List.mem_of_find?_eq_some e
    simp only [Bool.and_eq_true, beq_iff_eq, decide_eq_true_eq] at h1
    rw [h.same h2 hn h1.1 h1.2]
theorem TP.kid_inv {T : TM} (h : TP T) {c : Int} {nm : ByteArray} (h0 : kidF T.nodes c nm ≠ 0) : ∃ n ∈ T.nodes, n.parent = c ∧ n.name = nm ∧ n.id = kidF T.nodes c nm := by
  rw [kid_find _ _ _ h.nz] at h0 ⊢
  cases e : T.nodes.find? (fun m => m.parent == c && decide (m.name = nm)) with
  | none => rw [e] at h0; exact absurd rfl h0
  | some m =>
    have h1 := List.find?_some e
    simp only [Bool.and_eq_true, beq_iff_eq, decide_eq_true_eq] at h1
    exact ⟨m, List.mem_of_find?_eq_some e, h1.1, h1.2, rfl⟩
theorem TP.find_way {T : TM} (h : TP T) {n : NM} {L : List NM} (hw : Way T.nodes n L) : ∀ M, findF T.nodes (L.map NM.name ++ M) 1 = findF T.nodes M n.id := by
  induction hw with
  | @root r h1 h2 h3 => intro M; rw [h2]; rfl
  | @step n p L h1 h2 h3 h4 h5 ih =>
    intro M
    rw [List.map_append, List.append_assoc, ih]
    have hk := h.kid h1
    rw [← h4] at hk
    show findF T.nodes (n.name :: M) p.id = _
    conv => lhs; unfold findF
    rw [hk, if_neg (h.nz n h1)]
theorem TP.find_inv {T : TM} (h : TP T) : ∀ (M : List ByteArray) {p : NM} {L : List NM}, Way T.nodes p L → findF T.nodes M p.id ≠ 0 → ∃ n K, Way T.nodes n K ∧ n.id = findF T.nodes M p.id ∧ K.map NM.name = L.map NM.name ++ M
  | [], p, L, hw, _ => ⟨p, L, hw, rfl, by simp⟩
  | s :: M, p, L, hw, h0 => by
    unfold findF at h0 ⊢
    by_cases e : kidF T.nodes p.id s = 0
    · rw [if_pos e] at h0; exact absurd rfl h0
    · rw [if_neg e] at h0 ⊢
      obtain ⟨n, hn, e1, e2, e3⟩ := h.kid_inv e
      have hn1 : n.id ≠ 1 := fun q => by
        have := h.one hn q
        exact h.nz p hw.mem (by rw [← e1, this])
      have hw2 : Way T.nodes n (L ++ [n]) := .step hn hn1 hw.mem e1.symm hw
      rw [← e3] at h0 ⊢
      obtain ⟨m, K, q1, q2, q3⟩ := TP.find_inv h M hw2 h0
      exact ⟨m, K, q1, q2, by rw [q3, List.map_append]; simp [e2]⟩
theorem TP.way_names {T : TM} (h : TP T) {n : NM} {L : List NM} (hw : Way T.nodes n L) : ∀ s ∈ L.map NM.name, nameB s = true := by
  intro s hs
  obtain ⟨m, hm, rfl⟩ := List.mem_map.1 hs
  obtain ⟨q1, q2⟩ := hw.all m hm
  exact (h.rest m q1 q2).1
theorem root_at {T : TM} (h : TP T) : 0 ≤ atI T.nodes 1 := by
  obtain ⟨r, hr, r1, _⟩ := h.root_in
  have := (h.up.at hr).1
  rw [r1] at this
  exact this
/-- A node is found by its path. -/
theorem find_path {T : TM} (h : treeOk T = true) {n : NM} (hn : n ∈ T.nodes) : findX T (pathX T n.id) = n.id := by
  have hp := TP.of h
  obtain ⟨L, hL, hl⟩ := hp.way4 hn
  rw [path_is h hL hl]
  unfold findX
  rw [splitB_join (hp.way_names hL) (by simpa using hl), if_pos ⟨rfl, root_at hp⟩]
  have := hp.find_way hL []
  rw [List.append_nil] at this
  exact this
/-- Who is found by a path has it. -/
theorem found_way {T : TM} (h : treeOk T = true) {p : ByteArray} (h0 : findX T p ≠ 0) : ∃ n K, Way T.nodes n K ∧ n.id = findX T p ∧ joinB (K.map NM.name) = p ∧ K.length ≤ 4 ∧ (splitB p) = (K.map NM.name, true) := by
  have hp := TP.of h
  unfold findX at h0 ⊢
  by_cases hs : (splitB p).2 = true ∧ 0 ≤ atI T.nodes 1
  · rw [if_pos hs] at h0 ⊢
    obtain ⟨r, hr, r1, r0, _⟩ := hp.root_in
    rw [← r1] at h0 ⊢
    obtain ⟨n, K, q1, q2, q3⟩ := hp.find_inv _ (.root hr r1 r0) h0
    rw [List.map_nil, List.nil_append] at q3
    refine ⟨n, K, q1, q2, by rw [q3]; exact joinB_split hs.1, ?_, by rw [q3, ← hs.1]⟩
    have := (splitB_names p).2
    rw [← q3, List.length_map] at this
    exact this
  · rw [if_neg hs] at h0; exact absurd rfl h0
theorem TP.by_names {T : TM} (h : TP T) {a b : NM} {L M : List NM} (ha : Way T.nodes a L) (hb : Way T.nodes b M) (e : L.map NM.name = M.map NM.name) : a = b := by
  refine h.up.one ha.mem hb.mem ?_
  have h1 := h.find_way ha []
  have h2 := h.find_way hb []
  rw [e, h2] at h1
  exact h1.symm
theorem Way.upto {ns : List NM} {n : NM} {L : List NM} (h : Way ns n L) : ∀ A B, L = A ++ B → ∃ m, Way ns m A ∧ (m.id = 1 ∨ m ∈ L) := by
  induction h with
  | @root r h1 h2 h3 =>
    intro A B e
    have := List.append_eq_nil_iff.1 e.symm
    rw [this.1]
    exact ⟨r, .root h1 h2 h3, .inl h2⟩
  | @step n p L h1 h2 h3 h4 h5 ih =>
    intro A B e
    rcases List.eq_nil_or_concat B with rfl | ⟨B', x, rfl⟩
    · rw [List.append_nil] at e
      rw [← e]
      exact ⟨n, .step h1 h2 h3 h4 h5, .inr (by simp)⟩
    · rw [List.concat_eq_append, ← List.append_assoc] at e
      obtain ⟨e1, -⟩ := List.append_inj' e rfl
      obtain ⟨m, w, hm⟩ := ih A B' e1
      exact ⟨m, w, hm.imp id (fun q => List.mem_append.2 (.inl q))⟩
theorem Way.nil {ns : List NM} {n : NM} (h : Way ns n []) : n.id = 1 := by
  generalize e : ([] : List NM) = L at h
  cases h with
  | root _ h => exact h
  | step => simp at e
theorem pre_map {L K : List NM} (h : L.map NM.name <+: K.map NM.name) : ∃ A B, K = A ++ B ∧ A.map NM.name = L.map NM.name := by
  refine ⟨K.take L.length, K.drop L.length, (List.take_append_drop _ _).symm, ?_⟩
  rw [List.map_take]
  have := List.prefix_iff_eq_take.1 h
  rw [List.length_map] at this
  exact this.symm
/-- Who is below a node has its names ahead. -/
theorem TP.below_names {T : TM} (h : TP T) {k x : NM} {K X : List NM} (hk : Way T.nodes k K) (hx : Way T.nodes x X) (hl : K.length ≤ 4) : blB T k x.id = true ↔ X.map NM.name <+: K.map NM.name := by
  unfold blB
  rw [h.below_way hk 15 (by omega) (h.nz x hx.mem), Bool.or_eq_true, decide_eq_true_eq, List.any_eq_true]
  constructor
  · rintro (q | ⟨m, hm, e⟩)
    · have : X = [] := hx.det h.up (.root hx.mem q (h.one hx.mem q))
      rw [this]
      exact List.nil_prefix
    · have e := of_decide_eq_true e
      have : m = x := h.up.one (hk.all m hm).1 hx.mem e
      subst this
      obtain ⟨M, R, w, eK⟩ := hk.part m hm
      rw [hx.det h.up w, eK, List.map_append]
      exact List.prefix_append _ _
  · intro q
    obtain ⟨A, B, eK, eA⟩ := pre_map q
    obtain ⟨m, w, hm⟩ := hk.upto A B eK
    have : m = x := h.by_names w hx eA
    subst this
    rcases hm with q | q
    · exact .inl q
    · exact .inr ⟨m, q, by simp⟩
theorem segs_app : ∀ a r : List UInt8, segs (a ++ 47 :: r) = segs a ++ segs r
  | [], r => by simp [segs]
  | c :: a, r => by
    have ih := segs_app a r
    by_cases e : c = 47
    · subst e
      have h1 : ∀ l, segs (47 :: l) = [] :: segs l := fun l => by conv => lhs; unfold segs; rw [if_pos rfl]
      rw [List.cons_append, h1, h1, ih]
      rfl
    · cases hs : segs a with
      | nil => exact absurd hs (segs_ne a)
      | cons x t =>
        rw [hs, List.cons_append] at ih
        rw [List.cons_append, segs_cons e ih, segs_cons e hs]
        rfl
/-- Paths ahead of paths are names ahead of names. -/
theorem join_pre {X K : List (List UInt8)} (hX : ∀ l ∈ X, nameL l = true) (hK : ∀ l ∈ K, nameL l = true) (h4 : X.length ≤ 4) (k4 : K.length ≤ 4) : (joinP K = joinP X ∨ joinP X = [47] ∨ joinP X ++ [47] <+: joinP K) ↔ X <+: K := by
  cases X with
  | nil => exact ⟨fun _ => List.nil_prefix, fun _ => .inr (.inl rfl)⟩
  | cons x X =>
    have e : joinP (x :: X) = 47 :: (x ++ (X.map (47 :: ·)).flatten) := by unfold joinP; rw [if_neg (by simp)]; rfl
    have hx := (nameL_pos (hX x (by simp))).1
    constructor
    · rintro (q | q | q)
      · have h1 := split_join hX h4
        have h2 := split_join hK k4
        rw [q, h1] at h2
        have : x :: X = K := (Prod.mk.inj h2).1
        rw [this]
        exact List.prefix_rfl
      · rw [e] at q
        have hq := List.append_eq_nil_iff.1 (List.cons.inj q).2
        rw [hq.1] at hx
        simp at hx
      · obtain ⟨r, hr⟩ := q
        cases K with
        | nil =>
          have := congrArg List.length hr
          rw [e] at this
          simp [joinP] at this
        | cons k K =>
          have ek : joinP (k :: K) = 47 :: (k ++ (K.map (47 :: ·)).flatten) := by unfold joinP; rw [if_neg (by simp)]; rfl
          rw [e, ek, List.cons_append, List.cons_append, List.cons.injEq] at hr
          have h1 := congrArg segs hr.2
          rw [segs_join k K hK, List.append_assoc, List.singleton_append, segs_app, segs_join x X hX] at h1
          exact ⟨segs r, h1⟩
    · rintro ⟨R, hR⟩
      cases R with
      | nil =>
        rw [List.append_nil] at hR
        exact .inl (by rw [hR])
      | cons y R =>
        refine .inr (.inr ⟨y ++ (R.map (47 :: ·)).flatten, ?_⟩)
        have e2 : joinP K = (K.map (47 :: ·)).flatten := by unfold joinP; rw [if_neg (by rw [← hR]; simp)]
        have e3 : joinP (x :: X) = ((x :: X).map (47 :: ·)).flatten := by unfold joinP; rw [if_neg (by simp)]
        rw [e2, e3, ← hR, List.map_append, List.flatten_append]
        simp
end Go.Proofs.YthfmjjaollekiaaGreat
/- LkQ: Right trees, plain: so many steps up; what the program asks of a tree is what the document asks. -/
namespace Go.Proofs.YthfmjjaollekiaaGreat
set_option maxRecDepth 100000

/-- Up to so many steps up: is it the first one? -/
def clm (ns : List NM) : Nat → Nat → Bool
  | 0, j => (ns.getD j default).id == 1
  | f + 1, j => match fid ns (ns.getD j default).parent with
    | none => (ns.getD j default).id == 1
    | some k => clm ns f k
theorem clm_none {ns : List NM} {f j : Nat} (h : fid ns (ns.getD j default).parent = none) : clm ns f j = ((ns.getD j default).id == 1) := by
  cases f with
  | zero => rfl
  | succ f => conv => lhs; unfold clm
              rw [h]
theorem clm_some {ns : List NM} {f j k : Nat} (h : fid ns (ns.getD j default).parent = some k) : clm ns (f + 1) j = clm ns f k := by
  conv => lhs; unfold clm
  rw [h]
theorem Asc.id_one {ns : List NM} (h : Asc ns) {j : Nat} (hj : j < ns.length) : ((ns.getD j default).id == 1) = decide (j = 0) := by
  rw [getD_in hj]
  by_cases e : j = 0
  · subst e
    have := h.2.2.1
    rw [getD_in hj] at this
    simp [this]
  · have := h.lt j hj 0 (by omega)
    rw [h.2.2.1] at this
    have h2 : ¬ ns[j].id = 1 := by omega
    simp [h2, e]
theorem clm_ups {ns : List NM} (h : Asc ns) : ∀ f j, j < ns.length → clm ns f j = true → ∃ d, d ≤ f ∧ Ups ns j d := by
  intro f
  induction f with
  | zero =>
    intro j hj hc
    unfold clm at hc
    rw [h.id_one hj] at hc
    obtain rfl := of_decide_eq_true hc
    exact ⟨0, Nat.le_refl _, .root⟩
  | succ f ih =>
    intro j hj hc
    cases hp : fid ns (ns.getD j default).parent with
    | none =>
      rw [clm_none hp, h.id_one hj] at hc
      obtain rfl := of_decide_eq_true hc
      exact ⟨0, Nat.zero_le _, .root⟩
    | some k =>
      rw [clm_some hp] at hc
      obtain ⟨d, hd, hu⟩ := ih k (fid_lt hp).1 hc
      refine ⟨d + 1, by omega, .step hj (fun e => ?_) hp hu⟩
      subst e
      rw [h.2.2.2, h.zero] at hp
      cases hp
theorem ups_clm {ns : List NM} (h : Asc ns) {j d : Nat} (hu : Ups ns j d) : ∀ f, d ≤ f → clm ns f j = true := by
  induction hu with
  | root =>
    intro f _
    rw [clm_none (by rw [h.2.2.2]; exact h.zero), h.id_one h.2.1]
    rfl
  | step hj h0 hp _ ih =>
    intro f hf
    cases f with
    | zero => omega
    | succ f => rw [clm_some hp]; exact ih f (by omega)
theorem clm_climbs {ns : List NM} (h : Asc ns) {j : Nat} (hj : j < ns.length) (h0 : j ≠ 0) : clm ns 4 j = climbs ns 4 (ns.getD j default).id := by
  have hf := h.fid hj
  rw [← getD_in hj] at hf
  cases hc : climbs ns 4 (ns.getD j default).id with
  | true =>
    obtain ⟨d, hd, hu⟩ := climbs_ups h 4 _ j hc hf h0
    exact ups_clm h hu 4 hd
  | false =>
    refine Bool.eq_false_iff.2 fun hm => ?_
    obtain ⟨d, hd, hu⟩ := clm_ups h 4 j hj hm
    rw [ups_climbs h 4 j d hu h0 hd] at hc
    cases hc
/-- Below another one, or it, on the way up: of an Id that is none. -/
theorem belowF_no {ns : List NM} (h : Asc ns) {top : Int} (hn : fid ns top = none) (h0 : top ≠ 0) {i d : Nat} (hu : Ups ns i d) : ∀ f, belowF ns f (ns.getD i default).id top = false := by
  have hne : ∀ j, j < ns.length → (ns.getD j default).id ≠ top := fun j hj e => fid_none hn _ (by rw [getD_in hj] at e; exact List.getElem_mem hj) (by rw [getD_in hj] at e; exact e)
  induction hu with
  | root =>
    intro f
    cases f with
    | zero => rfl
    | succ f =>
      rw [belowF_some (i := 0) (hne 0 h.2.1) (by rw [h.2.2.1]; exact h.one), h.2.2.2]
      cases f with
      | zero => rfl
      | succ f => exact belowF_none (fun e => h0 e.symm) h.zero
  | @step i k d hi _ hk _ ih =>
    intro f
    cases f with
    | zero => rfl
    | succ f =>
      have hf := h.fid hi
      rw [← getD_in hi] at hf
      rw [belowF_some (hne i hi) hf]
      obtain ⟨hkl, ek⟩ := fid_lt hk
      rw [← ek, ← getD_in hkl]
      exact ih f
/-- What the program asks: below an Id that is a node's. -/
def blw (ns : List NM) (i : Nat) (top : Int) : Bool := decide (top ≠ 0) && belowF ns 15 (ns.getD i default).id top
/-- It is the first one of its Parent and Name. -/
def firstB (ns : List NM) (i : Nat) : Bool := match fnm ns (ns.getD i default).parent (ns.getD i default).name with
  | some k => (ns.getD k default).id == (ns.getD i default).id
  | none => false
theorem firstB_some {ns : List NM} {i k : Nat} (h : fnm ns (ns.getD i default).parent (ns.getD i default).name = some k) : firstB ns i = ((ns.getD k default).id == (ns.getD i default).id) := by
  unfold firstB
  rw [h]
/-- There is a directory of this Id. -/
def dirB (ns : List NM) (p : Int) : Bool := match fid ns p with
  | some k => (ns.getD k default).dir
  | none => false
theorem dirB_some {ns : List NM} {p : Int} {k : Nat} (h : fid ns p = some k) : dirB ns p = (ns.getD k default).dir := by
  unfold dirB
  rw [h]
theorem dirB_none {ns : List NM} {p : Int} (h : fid ns p = none) : dirB ns p = false := by
  unfold dirB
  rw [h]
/-- What is asked of a node's place. -/
def placeB (ns : List NM) (i : Nat) : Bool := nameB (ns.getD i default).name && firstB ns i && dirB ns (ns.getD i default).parent && clm ns 4 i
/-- Each node of a right tree has its way up. -/
def Tall (ns : List NM) : Prop := Asc ns ∧ ∀ i, i < ns.length → ∃ d, d ≤ 4 ∧ Ups ns i d
end Go.Proofs.YthfmjjaollekiaaGreat
/- LkR: Right trees, plain: what the program asks of a tree is what the document asks. -/
namespace Go.Proofs.YthfmjjaollekiaaGreat
set_option maxRecDepth 100000

/-- Ids ascend, and lie below Next. -/
def idsB (T : TM) : Bool := decide (T.next ≤ 100000) && (List.range T.nodes.length).all fun i => decide ((T.nodes.getD i default).id < T.next) && (decide (i = 0) || decide ((T.nodes.getD (i - 1) default).id < (T.nodes.getD i default).id))
/-- The root. -/
def rootB (n : NM) : Bool := (n.id == 1) && (n.parent == 0) && decide (n.name = ⟨#[]⟩) && n.dir && inI n.schema 1 3
def kindB (n : NM) : Bool := if n.dir then dirOk n else fileOk n
theorem fnm_self {ns : List NM} {i : Nat} (hi : i < ns.length) : ∃ k, fnm ns ns[i].parent ns[i].name = some k ∧ k ≤ i := by
  cases hf : fnm ns ns[i].parent ns[i].name with
  | none => exact absurd rfl (fnm_none hf _ (List.getElem_mem hi) rfl)
  | some k =>
    refine ⟨k, rfl, Nat.le_of_not_lt fun hlt => ?_⟩
    exact fnm_first hf i hlt hi rfl rfl
theorem place_eq {ns : List NM} (h : Asc ns) {i : Nat} (hi : i < ns.length) (h0 : i ≠ 0) : placeB ns i = (nameB (ns.getD i default).name && decide (0 ≤ atI ns (ns.getD i default).parent) && (ns.getD (atI ns (ns.getD i default).parent).toNat default).dir &&
    (List.range i).all (fun j => ! (((ns.getD j default).parent == (ns.getD i default).parent) && decide ((ns.getD j default).name = (ns.getD i default).name))) && climbs ns 4 (ns.getD i default).id) := by
  unfold placeB
  rw [clm_climbs h hi h0]
  have e1 : firstB ns i = (List.range i).all (fun j => ! (((ns.getD j default).parent == (ns.getD i default).parent) && decide ((ns.getD j default).name = (ns.getD i default).name))) := by
    obtain ⟨k, hk, hki⟩ := fnm_self hi
    rw [firstB_some (k := k) (by rw [getD_in hi]; exact hk), getD_in hi]
    obtain ⟨hkl, kp, kn⟩ := fnm_lt hk
    rw [getD_in hkl]
    by_cases e : k = i
    · subst e
      simp only [beq_self_eq_true]
      refine (List.all_eq_true.2 fun j hj => ?_).symm
      have hj' : j < k := by simpa using hj
      have := fnm_first hk j hj' (by omega)
      rw [getD_in (by omega : j < ns.length)]
      by_cases hp : ns[j].parent = ns[k].parent
      · simp [hp, this hp]
      · simp [hp]
    · have hlt := h.lt i hi k (by omega)
      rw [getD_in hkl] at hlt
      have hne : (ns[k].id == ns[i].id) = false := by simp; omega
      rw [hne]
      symm
      refine Bool.eq_false_iff.2 fun hall => ?_
      have := List.all_eq_true.1 hall k (by simp; omega)
      rw [getD_in hkl] at this
      simp [kp, kn] at this
  have e2 : dirB ns (ns.getD i default).parent = (decide (0 ≤ atI ns (ns.getD i default).parent) && (ns.getD (atI ns (ns.getD i default).parent).toNat default).dir) := by
    rw [at_fid]
    cases hf : fid ns (ns.getD i default).parent with
    | none => rw [dirB_none hf]; simp
    | some k => rw [dirB_some hf]; simp
  rw [e1, e2]
  cases nameB (ns.getD i default).name <;> cases decide (0 ≤ atI ns (ns.getD i default).parent) <;> cases (ns.getD (atI ns (ns.getD i default).parent).toNat default).dir <;> cases climbs ns 4 (ns.getD i default).id <;> simp
theorem ids_asc {T : TM} (h : idsB T = true) (hr : rootB (T.nodes.getD 0 default) = true) (hl : 0 < T.nodes.length) : Asc T.nodes := by
  unfold idsB at h
  simp only [Bool.and_eq_true, decide_eq_true_eq, List.all_eq_true, List.mem_range, Bool.or_eq_true] at h
  unfold rootB at hr
  simp only [Bool.and_eq_true, beq_iff_eq, decide_eq_true_eq] at hr
  refine ⟨fun i hi h0 => ?_, hl, hr.1.1.1.1, hr.1.1.1.2⟩
  rcases (h.2 i hi).2 with e | e
  · omega
  · rw [getD_in hi] at e; exact e
/-- What the program asks. -/
def progB (T : TM) : Bool := inI (T.nodes.length : Int) 1 14 && idsB T && rootB (T.nodes.getD 0 default) && (List.range T.nodes.length).all fun i => kindB (T.nodes.getD i default) && (decide (i = 0) || placeB T.nodes i)
theorem prog_tree (T : TM) : progB T = treeOk T := by
  rw [Bool.eq_iff_iff]
  constructor
  · intro h
    unfold progB at h
    simp only [Bool.and_eq_true, List.all_eq_true, List.mem_range, Bool.or_eq_true, decide_eq_true_eq] at h
    obtain ⟨⟨⟨h1, h2⟩, h3⟩, h4⟩ := h
    have hl := inI_iff.1 h1
    have ha := ids_asc h2 h3 (by omega)
    have h2' := h2
    unfold idsB at h2'
    simp only [Bool.and_eq_true, decide_eq_true_eq, List.all_eq_true, List.mem_range, Bool.or_eq_true] at h2'
    refine treeOk_yes h1 h2'.1 fun i hi => ?_
    obtain ⟨k1, k2⟩ := h4 i hi
    unfold nodeOk
    rw [decide_eq_true (h2'.2 i hi).1]
    by_cases e : i = 0
    · subst e
      have h3' := h3
      unfold rootB at h3'
      simp only [Bool.and_eq_true, beq_iff_eq, decide_eq_true_eq] at h3'
      have hs := inI_iff.1 h3'.2
      unfold kindB at k1
      rw [if_pos h3'.1.2] at k1
      unfold firstOk
      rw [if_pos rfl, if_pos h3'.1.2, k1, h3'.1.1.1.1, h3'.1.1.1.2, h3'.1.1.2, h3'.1.2]
      have : ((T.nodes.getD 0 default).schema != 0) = true := by rw [bne_iff_ne]; omega
      rw [this]
      rfl
    · rw [if_neg e]
      have h5 := (h2'.2 i hi).2.resolve_left e
      rw [decide_eq_true h5]
      unfold kindB at k1
      rw [k1, ← place_eq ha hi e]
      simp [k2.resolve_left e]
  · intro h
    have h14 := treeOk_14 h
    obtain ⟨hl, he, _⟩ := treeOk_first h
    have hn : ∀ i, i < T.nodes.length → nodeOk T i = true := fun i hi => treeOk_node h hi
    have hnx : T.next ≤ 100000 := by
      unfold treeOk at h
      simp only [Bool.and_eq_true, decide_eq_true_eq] at h
      exact h.1.2
    have h0 := hn 0 hl
    unfold nodeOk at h0
    rw [if_pos rfl] at h0
    simp only [Bool.and_eq_true, decide_eq_true_eq] at h0
    obtain ⟨⟨⟨_, hf⟩, hk0⟩, _⟩ := h0
    unfold firstOk at hf
    simp only [Bool.and_eq_true, beq_iff_eq, decide_eq_true_eq, bne_iff_ne] at hf
    have hr : rootB (T.nodes.getD 0 default) = true := by
      unfold rootB
      rw [hf.1.1.1.1, hf.1.1.1.2, hf.1.1.2, hf.1.2]
      rw [if_pos hf.1.2] at hk0
      unfold dirOk at hk0
      simp only [Bool.and_eq_true] at hk0
      have := inI_iff.1 hk0.1.1.1.1
      have : inI (T.nodes.getD 0 default).schema 1 3 = true := inI_iff.2 ⟨by omega, by omega⟩
      rw [this]
      rfl
    have hids : idsB T = true := by
      unfold idsB
      rw [decide_eq_true hnx]
      simp only [Bool.true_and]
      refine List.all_eq_true.2 fun i hi => ?_
      have hi' : i < T.nodes.length := by simpa using hi
      have h1 := hn i hi'
      unfold nodeOk at h1
      simp only [Bool.and_eq_true] at h1
      rw [h1.1.1.1]
      by_cases e : i = 0
      · simp [e]
      · have h2 := h1.1.1.2
        rw [if_neg e] at h2
        rw [h2]
        simp
    have ha := ids_asc hids hr hl
    unfold progB
    rw [hids, hr, inI_iff.2 ⟨by omega, by omega⟩]
    simp only [Bool.true_and]
    refine List.all_eq_true.2 fun i hi => ?_
    have hi' : i < T.nodes.length := by simpa using hi
    have h1 := hn i hi'
    unfold nodeOk at h1
    simp only [Bool.and_eq_true, Bool.or_eq_true] at h1
    unfold kindB
    rw [h1.1.2]
    by_cases e : i = 0
    · simp [e]
    · have h2 := h1.2.resolve_left (by simp [e])
      rw [place_eq ha hi' e]
      simp only [Bool.true_and, Bool.or_eq_true]
      right
      simp only [Bool.and_eq_true]
      exact h2
theorem tree_tall {T : TM} (h : treeOk T = true) : Tall T.nodes := by
  rw [← prog_tree] at h
  unfold progB at h
  simp only [Bool.and_eq_true, List.all_eq_true, List.mem_range, Bool.or_eq_true, decide_eq_true_eq] at h
  obtain ⟨⟨⟨h1, h2⟩, h3⟩, h4⟩ := h
  have hl := inI_iff.1 h1
  have ha := ids_asc h2 h3 (by omega)
  refine ⟨ha, fun i hi => ?_⟩
  by_cases e : i = 0
  · subst e; exact ⟨0, by omega, .root⟩
  · have := (h4 i hi).2.resolve_left e
    unfold placeB at this
    simp only [Bool.and_eq_true] at this
    exact clm_ups ha 4 i hi this.2
end Go.Proofs.YthfmjjaollekiaaGreat
/- TreK: The walk of the model's KidsOf. -/
namespace Go.Proofs.YthfmjjaollekiaaGreat
set_option maxRecDepth 100000
open Go.RowKit
attribute [local go_sem ↓] Go.wp_at_zero Go.wp_at_succ

/-- Not after, as texts are put in order. -/
def leqT (x y : ByteArray) : Bool := Op.bytesLess x.toList y.toList || x.toList == y.toList
/-- A name put among others. -/
def insK (L : List ByteArray) (nm : ByteArray) : List ByteArray := L.filter (fun x => leqT x nm) ++ [nm] ++ L.filter (fun x => !leqT x nm)
theorem insK_len (L : List ByteArray) (nm : ByteArray) : (insK L nm).length = L.length + 1 := by
  unfold insK
  induction L with
  | nil => rfl
  | cons x L ih =>
    cases h : leqT x nm <;> simp [h] at ih ⊢ <;> omega
def kidsS (id : Int) (L : List ByteArray) (n : NM) : List ByteArray := if n.parent = id then insK L n.name else L
def kidsL (ns : List NM) (id : Int) : List ByteArray := ns.foldl (kidsS id) []
theorem kids_take (ns : List NM) (id : Int) (k : Nat) (h : k < ns.length) : kidsL (ns.take (k + 1)) id = kidsS id (kidsL (ns.take k) id) ns[k] := by
  unfold kidsL
  rw [List.take_succ_eq_append_getElem h, List.foldl_append]
  rfl
def kidsX (T : TM) (id : Int) : List ByteArray := if treeOk T = true then kidsL T.nodes id else []
theorem filt_take (p : ByteArray → Bool) (L : List ByteArray) (j : Nat) (h : j < L.length) : (L.take (j + 1)).filter p = (L.take j).filter p ++ (if p (L.getD j ⟨#[]⟩) = true then [L.getD j ⟨#[]⟩] else []) := by
  rw [List.take_succ_eq_append_getElem h, List.filter_append]
  simp [List.getD, h, List.filter]
  cases p L[j] <;> rfl
/-- What an answer of texts is: a row of its own. -/
def KPost (R : List ByteArray) (w : World) (e : Ending) (w' : World) : Prop := ∃ v, e = .returned v ∧ w'.ownsRow w.heap.size 9 1 v R.length (tv R) ∧ Below w.heap.size w w'
/-- A row that is being made, beside what was there. -/
def Mk9 (V W : World) (v : Value) (m : Nat) (L : List ByteArray) : Prop := Below V.heap.size V W ∧ W.ownsRow V.heap.size 9 1 v m (tv L)
theorem Mk9.drew {V W : World} {v : Value} {m : Nat} {L : List ByteArray} (h : Mk9 V W v m L) (q : Nat) : Mk9 V (W.drewN q) v m L := by
  have hb : Below W.heap.size W (W.drewN q) := ⟨rfl, rfl, rfl, Nat.le_refl _, fun _ _ => rfl⟩
  exact ⟨h.1.trans (hb.mono h.1.size), h.2.kept (row := none) ⟨hb.os, hb.tape, hb.output, hb.size, fun k hk _ => hb.block k hk⟩ (Classical.em _)⟩
theorem Mk9.snoc {V W W' : World} {v v' : Value} {m : Nat} {L : List ByteArray} {x : ByteArray} {o : Obj} (h : Mk9 V W v m L) (ho : W'.ownsRow V.heap.size 9 1 v' (m + 1) (tv L ++ [.string x])) (hg : (W.alloc o).grownBy W' v.ownBlock) : Mk9 V W' v' (m + 1) (L ++ [x]) := by
  have hb := h.1.alloc h.1.size o
  refine ⟨hb.grown hg hb.size (fun k hk => (h.2.lt k hk).1), ?_⟩
  have e : tv (L ++ [x]) = tv L ++ [.string x] := by simp [tv]
  rw [e]
  exact ho
attribute [local irreducible] nodeOk treeOk atI joinB nameB leqT
end Go.Proofs.YthfmjjaollekiaaGreat
/- LkS: Kids of a node, plain: they ascend, and are the names of those whose Parent it is. -/
namespace Go.Proofs.YthfmjjaollekiaaGreat
set_option maxRecDepth 100000

theorem leqT_iff (x y : ByteArray) : leqT x y = decide (x.data.toList ≤ y.data.toList) := by
  unfold leqT
  rw [Go.Proofs.bytesLess_eq, Go.ByteArray.toList_eq, Go.ByteArray.toList_eq, Bool.eq_iff_iff]
  simp only [Bool.or_eq_true, decide_eq_true_eq, beq_iff_eq]
  exact (List.le_iff_lt_or_eq).symm
theorem insK_mem {L : List ByteArray} {nm s : ByteArray} : s ∈ insK L nm ↔ s ∈ L ∨ s = nm := by
  unfold insK
  simp only [List.mem_append, List.mem_filter, List.mem_singleton]
  constructor
  · rintro ((⟨h, _⟩ | h) | ⟨h, _⟩)
    · exact .inl h
    · exact .inr h
    · exact .inl h
  · rintro (h | h)
    · cases hq : leqT s nm with
      | true => exact .inl (.inl ⟨h, rfl⟩)
      | false => exact .inr ⟨h, by simp⟩
    · exact .inl (.inr h)
theorem kidsL_snoc (ns : List NM) (n : NM) (id : Int) : kidsL (ns ++ [n]) id = kidsS id (kidsL ns id) n := by
  unfold kidsL
  rw [List.foldl_append]
  rfl
theorem kidsL_take {ns : List NM} {id : Int} {s : ByteArray} : ∀ k, k ≤ ns.length → (s ∈ kidsL (ns.take k) id ↔ ∃ n ∈ ns.take k, n.parent = id ∧ n.name = s) := by
  intro k
  induction k with
  | zero => intro _; simp [kidsL]
  | succ k ih =>
    intro hk
    have ih := ih (by omega)
    rw [List.take_succ_eq_append_getElem (by omega), kidsL_snoc]
    unfold kidsS
    by_cases hp : ns[k].parent = id
    · rw [if_pos hp, insK_mem, ih]
      constructor
      · rintro (⟨m, hm, h⟩ | h)
        · exact ⟨m, List.mem_append.2 (.inl hm), h⟩
        · exact ⟨ns[k], List.mem_append.2 (.inr (List.mem_singleton.2 rfl)), hp, h.symm⟩
      · rintro ⟨m, hm, h1, h2⟩
        rcases List.mem_append.1 hm with h | h
        · exact .inl ⟨m, h, h1, h2⟩
        · rw [List.mem_singleton.1 h] at h2
          exact .inr h2.symm
    · rw [if_neg hp, ih]
      constructor
      · rintro ⟨m, hm, h⟩
        exact ⟨m, List.mem_append.2 (.inl hm), h⟩
      · rintro ⟨m, hm, h1, h2⟩
        rcases List.mem_append.1 hm with h | h
        · exact ⟨m, h, h1, h2⟩
        · rw [List.mem_singleton.1 h] at h1
          exact absurd h1 hp
theorem kidsL_mem {ns : List NM} {id : Int} {s : ByteArray} : s ∈ kidsL ns id ↔ ∃ n ∈ ns, n.parent = id ∧ n.name = s := by
  have := kidsL_take (ns := ns) (id := id) (s := s) ns.length (Nat.le_refl _)
  rwa [List.take_length] at this
/-- No two of one Parent with one Name. -/
def Uniq (ns : List NM) : Prop := ∀ i (hi : i < ns.length) j (hj : j < ns.length), j < i → ns[j].parent = ns[i].parent → ns[j].name ≠ ns[i].name
theorem tree_uniq {T : TM} (h : treeOk T = true) : Uniq T.nodes := by
  intro i hi j hj hlt hp hn
  have ha := (tree_tall h).1
  rw [← prog_tree] at h
  unfold progB at h
  simp only [Bool.and_eq_true, List.all_eq_true, List.mem_range, Bool.or_eq_true, decide_eq_true_eq] at h
  have h2 := (h.2 i hi).2.resolve_left (by omega)
  unfold placeB at h2
  simp only [Bool.and_eq_true] at h2
  obtain ⟨k, hk, hki⟩ := fnm_self hi
  have h3 := h2.1.1.2
  rw [firstB_some (k := k) (by rw [getD_in hi]; exact hk)] at h3
  obtain ⟨hkl, _, _⟩ := fnm_lt hk
  rw [getD_in hi, getD_in hkl, beq_iff_eq] at h3
  have e : k = i := by
    have h4 := ha.fid hkl
    rw [h3, ha.fid hi] at h4
    exact (by simpa using h4 : i = k).symm
  subst e
  exact fnm_first hk j hlt hj hp hn
/-- Texts that ascend. -/
abbrev Rise (L : List ByteArray) : Prop := L.Pairwise fun x y => x.data.toList < y.data.toList
theorem ba_ne {x y : ByteArray} (h : x ≠ y) : x.data.toList ≠ y.data.toList := fun e => h (ByteArray.ext (Array.toList_inj.1 e))
theorem insK_rise {L : List ByteArray} {nm : ByteArray} (h : Rise L) (hn : nm ∉ L) : Rise (insK L nm) := by
  unfold insK
  have h1 : ∀ x ∈ L.filter (fun x => leqT x nm), x.data.toList < nm.data.toList := fun x hx => by
    obtain ⟨hm, hq⟩ := List.mem_filter.1 hx
    rw [leqT_iff, decide_eq_true_eq] at hq
    exact (List.le_iff_lt_or_eq.1 hq).resolve_right (ba_ne fun e => hn (e ▸ hm))
  have h2 : ∀ x ∈ L.filter (fun x => !leqT x nm), nm.data.toList < x.data.toList := fun x hx => by
    obtain ⟨hm, hq⟩ := List.mem_filter.1 hx
    rw [leqT_iff] at hq
    simpa [List.not_le] using hq
  refine List.pairwise_append.2 ⟨List.pairwise_append.2 ⟨h.filter _, List.pairwise_singleton _ _, fun x hx y hy => ?_⟩, h.filter _, fun x hx y hy => ?_⟩
  · rw [List.mem_singleton.1 hy]; exact h1 x hx
  · rcases List.mem_append.1 hx with hx | hx
    · exact List.lt_trans (h1 x hx) (h2 y hy)
    · rw [List.mem_singleton.1 hx]; exact h2 y hy
theorem kidsL_rise {ns : List NM} (h : Uniq ns) (id : Int) : ∀ k, k ≤ ns.length → Rise (kidsL (ns.take k) id) := by
  intro k
  induction k with
  | zero => intro _; simp [kidsL, Rise]
  | succ k ih =>
    intro hk
    rw [List.take_succ_eq_append_getElem (by omega), kidsL_snoc]
    unfold kidsS
    split
    · rename_i hp
      refine insK_rise (ih (by omega)) fun hm => ?_
      obtain ⟨n, hn, h1, h2⟩ := kidsL_mem.1 hm
      obtain ⟨j, hj, rfl⟩ := List.mem_iff_getElem.1 hn
      simp only [List.getElem_take] at h1 h2
      simp only [List.length_take] at hj
      exact h k (by omega) j (by omega) (by omega) (by rw [h1, hp]) h2
    · exact ih (by omega)
theorem kids_perm {ns : List NM} (h : Uniq ns) {id : Int} {ss : List (List UInt8)} (hn : ss.Nodup) (hm : ∀ x, x ∈ ss ↔ ∃ n ∈ ns, n.parent = id ∧ n.name.data.toList = x) : ss.Perm ((kidsL ns id).map fun s => s.data.toList) := by
  have hr := kidsL_rise h id ns.length (Nat.le_refl _)
  rw [List.take_length] at hr
  refine (List.perm_ext_iff_of_nodup hn ?_).2 fun x => ?_
  · exact List.pairwise_map.2 (hr.imp fun h e => by rw [e] at h; exact List.lt_irrefl _ h)
  · rw [hm, List.mem_map]
    constructor
    · rintro ⟨n, h1, h2, h3⟩
      exact ⟨n.name, kidsL_mem.2 ⟨n, h1, h2, rfl⟩, h3⟩
    · rintro ⟨s, hs, rfl⟩
      obtain ⟨n, h1, h2, rfl⟩ := kidsL_mem.1 hs
      exact ⟨n, h1, h2, rfl⟩
theorem kids_sort {ns : List NM} (h : Uniq ns) {id : Int} {ss : List (List UInt8)} (hp : ss.Perm ((kidsL ns id).map fun s => s.data.toList)) : (ss.mergeSort fun x y => decide (x ≤ y)) = (kidsL ns id).map fun s => s.data.toList := by
  have hr := kidsL_rise h id ns.length (Nat.le_refl _)
  rw [List.take_length] at hr
  have tr : ∀ a b c : List UInt8, decide (a ≤ b) = true → decide (b ≤ c) = true → decide (a ≤ c) = true := fun a b c h1 h2 => by simp only [decide_eq_true_eq] at *; exact List.le_trans h1 h2
  have tt : ∀ a b : List UInt8, (decide (a ≤ b) || decide (b ≤ a)) = true := fun a b => by simp only [Bool.or_eq_true, decide_eq_true_eq]; exact List.le_total a b
  refine List.Perm.eq_of_pairwise (le := fun a b => decide (a ≤ b) = true) (fun a b _ _ h1 h2 => ?_) (List.pairwise_mergeSort tr tt ss) ?_ ((List.mergeSort_perm ss _).trans hp)
  · simp only [decide_eq_true_eq] at h1 h2
    exact List.le_antisymm h1 h2
  · exact List.pairwise_map.2 (hr.imp fun h => decide_eq_true (List.le_of_lt h))
end Go.Proofs.YthfmjjaollekiaaGreat
/- FndM: What the law FnFinds asks of a right tree, plain: who is below has the path ahead, and how many kids there are. Nothing of the program is read here. -/
namespace Go.Proofs.YthfmjjaollekiaaGreat
set_option maxRecDepth 100000

theorem below_mem {T : TM} (h : treeOk T = true) {n x : NM} (hn : n ∈ T.nodes) (hx : x ∈ T.nodes) : n.id ∈ belowX T x.id ↔ blB T n x.id = true := by
  have hp := TP.of h
  unfold belowX blB
  rw [if_pos ⟨h, (hp.up.at hx).1⟩]
  unfold belowL
  constructor
  · intro q
    obtain ⟨m, hm, e⟩ := List.mem_map.1 q
    obtain ⟨h1, h2⟩ := List.mem_filter.1 hm
    rw [← e]
    exact h2
  · intro q
    exact List.mem_map.2 ⟨n, List.mem_filter.2 ⟨hn, q⟩, rfl⟩
theorem pre_lb {L K : List ByteArray} : L.map lb <+: K.map lb ↔ L <+: K := by
  constructor
  · intro q
    have h1 := List.prefix_iff_eq_take.1 q
    rw [List.length_map, ← List.map_take] at h1
    rw [List.prefix_iff_eq_take]
    have h2 := congrArg (List.map ba) h1
    rw [List.map_map, List.map_map] at h2
    have e : (ba ∘ lb) = id := by funext s; exact ba_lb s
    rw [e, List.map_id, List.map_id] at h2
    exact h2
  · intro q
    exact q.map lb
/-- Who is below a node has its path ahead. -/
theorem inside_is {T : TM} (h : treeOk T = true) {n x : NM} (hn : n ∈ T.nodes) (hx : x ∈ T.nodes) : n.id ∈ belowX T x.id ↔ (lb (pathX T n.id) = lb (pathX T x.id) ∨ lb (pathX T x.id) = [47] ∨ lb (pathX T x.id) ++ [47] <+: lb (pathX T n.id)) := by
  have hp := TP.of h
  obtain ⟨K, hK, hk⟩ := hp.way4 hn
  obtain ⟨X, hX, hx4⟩ := hp.way4 hx
  rw [below_mem h hn hx, hp.below_names hK hX hk, path_is h hK hk, path_is h hX hx4, ← pre_lb]
  have e : ∀ L : List ByteArray, lb (joinB L) = joinP (L.map lb) := fun L => by unfold joinB; exact lb_ba _
  rw [e, e]
  refine (join_pre ?_ ?_ (by simpa using hx4) (by simpa using hk)).symm
  · intro l hl
    obtain ⟨s, hs, rfl⟩ := List.mem_map.1 hl
    exact hp.way_names hX s hs
  · intro l hl
    obtain ⟨s, hs, rfl⟩ := List.mem_map.1 hl
    exact hp.way_names hK s hs
theorem kids_count (id : Int) : ∀ (ns : List NM) (L : List ByteArray), ((ns.foldl (kidsS id) L).length : Int) = L.length + sm (fun n => if n.parent = id then 1 else 0) ns
  | [], L => by simp [sm]
  | n :: ns, L => by
    rw [List.foldl_cons, kids_count id ns]
    simp only [sm]
    unfold kidsS
    split
    · rw [insK_len]; push_cast; omega
    · omega
theorem kids_len9 {T : TM} (h : treeOk T = true) (id : Int) : ((kidsX T id).length : Int) = sm (fun n => if n.parent = id then 1 else 0) T.nodes := by
  unfold kidsX
  rw [if_pos h]
  unfold kidsL
  rw [kids_count]
  simp
theorem sm_len : ∀ ns : List NM, sm (fun _ => 1) ns = ns.length
  | [] => rfl
  | n :: ns => by simp only [sm, List.length_cons]; rw [sm_len ns]; push_cast; omega
/-- All but the first are kids. -/
theorem kids_all {T : TM} (h : treeOk T = true) : sm (fun x => ((kidsX T x.id).length : Int)) T.nodes = T.nodes.length - 1 := by
  have hp := TP.of h
  obtain ⟨r, hr, r1, r0, _⟩ := hp.root_in
  have h1 : sm (fun x => ((kidsX T x.id).length : Int)) T.nodes = sm (fun x => sm (fun n => if n.parent = x.id then 1 else 0) T.nodes) T.nodes := sm_congr fun x _ => kids_len9 h x.id
  rw [h1, sm_flip]
  have h2 : sm (fun n => sm (fun x => if n.parent = x.id then 1 else 0) T.nodes) T.nodes + sm (fun n => if n.id = r.id then 1 else 0) T.nodes = sm (fun _ => 1) T.nodes := by
    rw [← sm_add]
    refine sm_congr fun n hn => ?_
    by_cases e : n.id = 1
    · have hz : sm (fun x => if n.parent = x.id then (1 : Int) else 0) T.nodes = 0 := by
        rw [sm_congr (g := fun _ => 0), sm_zero]
        intro x hx
        rw [hp.one hn e, if_neg (Ne.symm (hp.nz x hx))]
      rw [hz, if_pos (by rw [e, r1])]
      rfl
    · obtain ⟨_, ⟨p, hpm, ep, _⟩, _⟩ := hp.rest n hn e
      have hz : sm (fun x => if n.parent = x.id then (1 : Int) else 0) T.nodes = 1 := by
        have := sm_one (f := fun _ => (1 : Int)) hp.up hpm
        refine Eq.trans (sm_congr fun x _ => ?_) this
        rw [← ep]
        by_cases q : p.id = x.id
        · rw [if_pos q, if_pos q.symm]
        · rw [if_neg q, if_neg (fun e => q e.symm)]
      rw [hz, if_neg (by rw [r1]; exact e)]
      rfl
  have h3 := sm_one (f := fun _ => (1 : Int)) hp.up hr
  rw [h3, sm_len] at h2
  omega
theorem kids_rise {T : TM} (h : treeOk T = true) (id : Int) : Rise (kidsX T id) := by
  unfold kidsX
  rw [if_pos h]
  have := kidsL_rise (tree_uniq h) id T.nodes.length (Nat.le_refl _)
  rwa [List.take_length] at this
end Go.Proofs.YthfmjjaollekiaaGreat
/- LkE: On the way up from a node: does it reach the root, is it below another one? -/
namespace Go.Proofs.YthfmjjaollekiaaGreat
set_option maxRecDepth 100000
open Go.RowKit Go.Maps
attribute [local go_sem ↓] Go.wp_at_zero Go.wp_at_succ

/-- Nodes behind pointers, each with the one above it. -/
structure Nd (w : World) (ns : List NM) (G : Nat → Nat) : Prop where
  cells : ∀ i (hi : i < ns.length), w.cell? ⟨G i, 0, none⟩ = some (.int .i64 ns[i].id) ∧ w.cell? ⟨G i, 1, none⟩ = some (.int .i64 ns[i].parent) ∧ w.cell? ⟨G i, 2, none⟩ = some (.string ns[i].name) ∧ w.cell? ⟨G i, 3, none⟩ = some (.bool ns[i].dir) ∧ w.cell? ⟨G i, 4, none⟩ = some (.int .i64 ns[i].schema) ∧ w.cell? ⟨G i, 5, none⟩ = some (.int .i64 ns[i].quota) ∧ G i < w.heap.size
  above : ∀ i (hi : i < ns.length), fid ns ns[i].id = some i → w.cell? ⟨G i, 9, none⟩ = some (ptrV ((fid ns ns[i].parent).map G))
theorem Lk.nd {w : World} {B b1 b2 : Nat} {rs : List NR} {G : Nat → Nat} {C : Int → Nat} (h : Lk w B b1 b2 rs G C (Ab (nds rs) fun _ => false)) : Nd w (nds rs) G := by
  refine ⟨fun i hi => ?_, fun i hi hf => ?_⟩
  · have hi' : i < rs.length := by rwa [nds_len] at hi
    have hc := (h.cells i hi').1
    have e : (nds rs)[i] = rs[i].nd := by simp [nds]
    rw [e]
    exact ⟨(hc.2 0 _ rfl).1, (hc.2 1 _ rfl).1, (hc.2 2 _ rfl).1, (hc.2 3 _ rfl).1, (hc.2 4 _ rfl).1, (hc.2 5 _ rfl).1, hc.1⟩
  · have hi' : i < rs.length := by rwa [nds_len] at hi
    have hc := ((h.cells i hi').1.2 9 _ rfl).1
    have : Ab (nds rs) (fun _ => false) i = fid (nds rs) (nds rs)[i].parent := by
      unfold Ab
      rw [getD_in hi, if_pos ⟨hf, rfl⟩]
    rw [this] at hc
    exact hc
theorem Nd.below {w w' : World} {ns : List NM} {G : Nat → Nat} (h : Nd w ns G) (hb : Below w.heap.size w w') : Nd w' ns G := by
  refine ⟨fun i hi => ?_, fun i hi hf => ?_⟩
  · obtain ⟨c0, c1, c2, c3, c4, c5, hl⟩ := h.cells i hi
    exact ⟨(hb.cell hl).trans c0, (hb.cell hl).trans c1, (hb.cell hl).trans c2, (hb.cell hl).trans c3, (hb.cell hl).trans c4, (hb.cell hl).trans c5, Nat.lt_of_lt_of_le hl hb.size⟩
  · exact (hb.cell (h.cells i hi).2.2.2.2.2.2).trans (h.above i hi hf)
theorem ptr_some (g : Nat) : ptrV (some g) = .pointer (some ⟨g, 0, none⟩) := rfl
theorem ptr_none : ptrV none = .pointer none := rfl
set_option maxHeartbeats 1000000 in
set_option maxRecDepth 100000 in
theorem reaches_any {w : World} {ns : List NM} {G : Nat → Nat} (h : Nd w ns G) (ha : Asc ns) {i : Nat} (hi : i < ns.length) :
    Calls Tryz.prog 115 #[.pointer (some ⟨G i, 0, none⟩)] w fun e w' => e = .returned (.bool (clm ns 4 i)) ∧ w' = w := by
  have HN := Shut.mk h
  have HA := Shut.mk ha
  clear h ha
  obtain ⟨R, hR⟩ : ∃ R, R = clm ns 4 i := ⟨_, rfl⟩
  rw [← hR]
  have HR := Shut.mk hR
  clear hR
  go_enter Tryz.func115, Tryz.ntmps115
  go_wp2_with fail
  go_loopw [0, 3] (fun p c wr => ∃ (k j : Nat), p = .pointer (some ⟨G j, 0, none⟩) ∧ c = .int .i64 k ∧ k ≤ 4 ∧ j < ns.length ∧ Shut (clm ns (4 - k) j = R) ∧ wr = w) (fun _ c _ => 4 - (intOf c).toNat)
  case atStart => exact ⟨0, i, rfl, rfl, by omega, hi, ⟨HR.out.symm⟩, rfl⟩
  case round =>
    obtain ⟨k, j, rfl, rfl, hk, hj, hc, rfl⟩ := hrel
    obtain ⟨c0, _, _, _, _, _, hl⟩ := HN.out.cells j hj
    have c9 := HN.out.above j hj (HA.out.fid hj)
    have hid := HA.out.id_one hj
    have hge := getD_in hj
    obtain ⟨x, hx⟩ : ∃ x, x = ns[j] := ⟨_, rfl⟩
    rw [← hx] at c0 c9 hge
    rw [hge] at hid
    have HGE := Shut.mk hge
    have HID := Shut.mk hid
    clear hx hge hid
    obtain ⟨o, ho⟩ : ∃ o, o = fid ns x.parent := ⟨_, rfl⟩
    rw [← ho] at c9
    have HO := Shut.mk ho
    clear ho
    by_cases h4 : k < 4
    · have h4' : (k : Int) < 4 := by omega
      cases o with
      | none =>
        simp only [Option.map_none, ptr_none] at c9
        go_wp2_with fail
        go_ret
        refine ⟨?_, rfl⟩
        have := hc.out
        rw [clm_none (by rw [HGE.out, ← HO.out]), HGE.out] at this
        rw [← this]
        rfl
      | some m =>
        simp only [Option.map_some, ptr_some] at c9
        go_wp2_with fail
        go_roundw
        case rel =>
          have h5 := hc.out
          have e : 4 - k = (4 - (k + 1)) + 1 := by omega
          rw [e, clm_some (k := m) (by rw [HGE.out, ← HO.out])] at h5
          exact ⟨k + 1, m, rfl, by go_num, by omega, (fid_lt HO.out.symm).1, ⟨h5⟩, trivial⟩
        case measure => simp [intOf]; omega
    · have h4' : ¬ (k : Int) < 4 := by omega
      go_wp2_with fail
      go_ret
      refine ⟨?_, rfl⟩
      have := hc.out
      obtain rfl : k = 4 := by omega
      have e4 : clm ns (4 - 4) j = ((ns.getD j default).id == 1) := rfl
      rw [e4, HGE.out] at this
      rw [← this]
      rfl
set_option maxHeartbeats 1000000 in
set_option maxRecDepth 100000 in
theorem isBelow_any {w : World} {ns : List NM} {G : Nat → Nat} (h : Nd w ns G) (ht : Tall ns) {i : Nat} (hi : i < ns.length) (top : Int) :
    Calls Tryz.prog 70 #[.pointer (some ⟨G i, 0, none⟩), .int .i64 top] w fun e w' => e = .returned (.bool (blw ns i top)) ∧ w' = w := by
  have HN := Shut.mk h
  have HA := Shut.mk ht.1
  obtain ⟨d0, hd0, hu0⟩ := ht.2 i hi
  have HU := Shut.mk hu0
  obtain ⟨R, hR⟩ : ∃ R, R = blw ns i top := ⟨_, rfl⟩
  rw [← hR]
  have HR := Shut.mk hR
  clear hR h ht hu0
  go_enter Tryz.func70, Tryz.ntmps70
  go_wp2_with fail
  go_loopg [0] (d0 + 1) (fun m p wr => (Shut (p = .pointer none ∧ R = false) ∨ Shut (∃ (j d r : Nat), p = .pointer (some ⟨G j, 0, none⟩) ∧ m = d + 1 ∧ j < ns.length ∧ Ups ns j d ∧ (top ≠ 0 → belowF ns (d + 2 + r) (ns.getD j default).id top = R) ∧ (top = 0 → R = false))) ∧ wr = w)
  case atStart =>
    refine ⟨.inr ⟨i, d0, 13 - d0, rfl, rfl, hi, HU.out, fun h0 => ?_, fun h0 => ?_⟩, rfl⟩
    · rw [HR.out]
      unfold blw
      rw [show d0 + 2 + (13 - d0) = 15 by omega]
      simp [h0]
    · rw [HR.out]
      unfold blw
      simp [h0]
  case round =>
    obtain ⟨hrel, rfl⟩ := hrel
    rcases hrel with ⟨rfl, rfl⟩ | ⟨j, d, r, rfl, rfl, hj, hu, h1, h2⟩
    · go_wp2_with fail
      go_ret
      exact ⟨rfl, rfl⟩
    · obtain ⟨c0, _, _, _, _, _, hl⟩ := HN.out.cells j hj
      have hf := HA.out.fid hj
      have c9 := HN.out.above j hj hf
      have hge := getD_in hj
      have hpos := HA.out.pos hj
      obtain ⟨x, hx⟩ : ∃ x, x = ns[j] := ⟨_, rfl⟩
      rw [← hx] at c0 c9 hge hpos hf
      rw [hge] at h1
      have HH := Shut.mk (And.intro h1 (And.intro h2 (And.intro hu (And.intro hge hf))))
      obtain ⟨o, ho⟩ : ∃ o, o = fid ns x.parent := ⟨_, rfl⟩
      rw [← ho] at c9
      have HO := Shut.mk ho
      clear ho h1 h2 hu hge hf hx
      by_cases ht : x.id = top
      · have HT := Shut.mk hpos
        clear hpos
        subst ht
        go_wp2_with fail
        go_ret
        refine ⟨?_, rfl⟩
        have h1 := HH.out.1 (by have := HT.out; omega)
        rw [show d + 2 + r = (d + 1 + r) + 1 by omega, belowF_same rfl] at h1
        rw [← h1]
        rfl
      · cases o with
        | none =>
          simp only [Option.map_none, ptr_none] at c9
          go_wp2_with fail
          go_roundg 0
          case measure => omega
          case rel =>
            obtain ⟨h1, h2, hu, hge, hf⟩ := HH.out
            refine ⟨.inl ⟨⟨rfl, ?_⟩⟩, rfl⟩
            by_cases h0 : top = 0
            · exact h2 h0
            · have h3 := h1 h0
              rw [show d + 2 + r = ((d + r) + 1) + 1 by omega, belowF_some ht hf, hge] at h3
              rw [← h3]
              cases hu with
              | root =>
                have e0 := HA.out.2.2.2
                rw [hge] at e0
                rw [e0]
                exact belowF_none (fun e => h0 e.symm) HA.out.zero
              | step _ _ hk _ =>
                rw [hge, ← HO.out] at hk
                cases hk
        | some k =>
          simp only [Option.map_some, ptr_some] at c9
          go_wp2_with fail
          go_roundg d
          case measure => omega
          case rel =>
            obtain ⟨h1, h2, hu, hge, hf⟩ := HH.out
            refine ⟨.inr ⟨?_⟩, rfl⟩
            cases hu with
            | root =>
              have e0 := HA.out.2.2.2
              have h4 := HO.out
              rw [hge] at e0
              rw [e0, HA.out.zero] at h4
              cases h4
            | @step _ k' d' _ _ hk hu' =>
              rw [hge, ← HO.out] at hk
              cases hk
              obtain ⟨hkl, ek⟩ := fid_lt HO.out.symm
              refine ⟨k, d', r, rfl, rfl, hkl, hu', fun h0 => ?_, h2⟩
              have h3 := h1 h0
              rw [show d' + 1 + 2 + r = (d' + 2 + r) + 1 by omega, belowF_some ht hf, hge, ← ek, ← getD_in hkl] at h3
              exact h3
end Go.Proofs.YthfmjjaollekiaaGreat
/- LkF: Does a node stand where it may? -/
namespace Go.Proofs.YthfmjjaollekiaaGreat
set_option maxRecDepth 100000
open Go.RowKit Go.Maps BigFrame
attribute [local go_sem ↓] Go.wp_at_zero Go.wp_at_succ

set_option maxHeartbeats 2000000 in
set_option maxRecDepth 100000 in
theorem placeOk_any {w : World} {B b1 b2 : Nat} {rs : List NR} {G : Nat → Nat} {C : Int → Nat} (h : Lk w B b1 b2 rs G C (Ab (nds rs) fun _ => false)) (ha : Asc (nds rs)) (hI : NInt (nds rs)) (hS : ∀ n ∈ nds rs, n.name.size ≤ 1048576) {i : Nat} (hi : i < rs.length) :
    Calls Tryz.prog 63 #[.agg #[.map (some b1), .map (some b2)], nv rs[i]] w fun e w' => e = .returned (.bool (placeB (nds rs) i)) ∧ Below w.heap.size w w' := by
  have hi' : i < (nds rs).length := by rw [nds_len]; exact hi
  have he : (nds rs).getD i default = rs[i].nd := by rw [getD_in hi']; simp [nds]
  have hmem : rs[i].nd ∈ nds rs := List.mem_map.2 ⟨_, List.getElem_mem hi, rfl⟩
  have f1 := (hI _ hmem).1
  have f2 := (hI _ hmem).2
  have f3 := hS _ hmem
  have hfi := ha.fid hi'
  rw [← getD_in hi', he] at hfi
  obtain ⟨r, hr⟩ : ∃ r, r = rs[i] := ⟨_, rfl⟩
  rw [← hr] at he f1 f2 f3 hfi ⊢
  obtain ⟨R, hR⟩ : ∃ R, R = placeB (nds rs) i := ⟨_, rfl⟩
  rw [← hR]
  have HR := Shut.mk hR
  have HE := Shut.mk he
  have HL := Shut.mk h
  have HA := Shut.mk ha
  have HF := Shut.mk hfi
  clear hR he h ha hI hS hmem hr hfi
  go_enter Tryz.func63, Tryz.ntmps63
  go_upto_region 1 with fail
  refine wp_shade (fun W => Below w.heap.size w W ∧ WCells W w.heap.size [.map (some b1), .map (some b2)] ∧ WCells W (w.heap.size + 1) (ncells r)) ?_ ?_
  · refine ⟨((Below.refl _ _).alloc (Nat.le_refl _) _).alloc (by simp) _, (wcells_new w #[.map (some b1), .map (some b2)] 80).alloc _, ?_⟩
    have := wcells_new (w.alloc (.cells #[.map (some b1), .map (some b2)] 80)) #[.int .i64 r.nd.id, .int .i64 r.nd.parent, .string r.nd.name, .bool r.nd.dir, .int .i64 r.nd.schema, .int .i64 r.nd.quota, .int .i64 r.nd.len, .slice r.loc r.nd.pieces.length r.cap, .int .i64 r.nd.writer] 31
    simpa [ncells] using this
  intro W hW
  obtain ⟨hb, hx, hn⟩ := hW
  have HB := Shut.mk hb
  have b0 := (hx.2 0 _ rfl).1
  have b1' := (hx.2 1 _ rfl).1
  have n0 := (hn.2 0 _ rfl).1
  have n1 := (hn.2 1 _ rfl).1
  have n2 := (hn.2 2 _ rfl).1
  have HX := Shut.mk hn
  have hL := HL.out.below hb
  have HLW := Shut.mk hL
  have hpar : Par (nds rs) r.nd.parent := ⟨_, List.getElem_mem hi', by rw [← getD_in hi', HE.out]⟩
  obtain ⟨k, hk⟩ : ∃ k, fnm (nds rs) r.nd.parent r.nd.name = some k := by
    cases hf : fnm (nds rs) r.nd.parent r.nd.name with
    | some k => exact ⟨k, rfl⟩
    | none => exact absurd (by rw [← getD_in hi', HE.out]) (fnm_none hf _ (List.getElem_mem hi') (by rw [← getD_in hi', HE.out]))
  obtain ⟨D1, o1, t1⟩ := hL.m1
  have k1 := look_ptr keyI Tryz.underlying77 zeroLp o1 (key_int f1) (t1 r.nd.id)
  rw [HF.out] at k1
  obtain ⟨D2, o2, t2⟩ := hL.m2
  have k2 := look_map keyI Tryz.underlying78 zeroLm o2 (key_int f2) ((t2 r.nd.parent).1 hpar)
  obtain ⟨d1, d2, d3, D3, o3, t3⟩ := hL.m3 r.nd.parent hpar
  have k3 := look_ptr keyS Tryz.underlying90 zeroLp o3 (key_str (by unfold maxLen; omega)) (t3 r.nd.name)
  rw [hk] at k3
  simp only [Option.map_some, ptr_some] at k1 k3
  have em : ∀ g, mapV (some g) = .map (some g) := fun _ => rfl
  rw [em] at k2
  have HK := Shut.mk hk
  have HP := Shut.mk hpar
  clear hb hx hn hL hpar hk o1 t1 o2 t2 o3 t3 em d1 d2 d3
  go_quiet (fail)
  go_upto_region 2 with fail
  refine wp_shade (fun W2 => Below W.heap.size W W2) (Below.mono (B := (W.drewN nq).heap.size) ⟨rfl, rfl, rfl, Nat.le_refl _, fun _ _ => rfl⟩ (Nat.le_refl _)) ?_
  intro V hV
  have HV := Shut.mk hV
  have hnd := (HLW.out.below hV).nd
  have HND := Shut.mk hnd
  have hn := HX.out.grow hV
  have hln := hn.1
  have hkl := (fnm_lt HK.out).1
  have ck0 := (hnd.cells k hkl).1
  have lk := (hnd.cells k hkl).2.2.2.2.2.2
  have ci9 := hnd.above i hi' (HA.out.fid hi')
  have li := (hnd.cells i hi').2.2.2.2.2.2
  have hei : (nds rs)[i] = r.nd := by rw [← getD_in hi', HE.out]
  rw [hei] at ci9
  have g0 : ∀ X : Grow V, X.val.cell? ⟨w.heap.size + 1, 0, none⟩ = some (.int .i64 r.nd.id) := fun X => X.cell (hn.2 0 _ rfl).1 hln
  have g2 : ∀ X : Grow V, X.val.cell? ⟨w.heap.size + 1, 2, none⟩ = some (.string r.nd.name) := fun X => X.cell (hn.2 2 _ rfl).1 hln
  have gk : ∀ X : Grow V, X.val.cell? ⟨G k, 0, none⟩ = some (.int .i64 (nds rs)[k].id) := fun X => X.cell ck0 lk
  have gi : ∀ X : Grow V, X.val.cell? ⟨G i, 9, none⟩ = some (ptrV ((fid (nds rs) r.nd.parent).map G)) := fun X => X.cell ci9 li
  have hnm := fun X => calls_grow (w := V) (fun W' (_ : Below V.heap.size V W') => implNameOk r.nd.name W' f3) X
  have hre := fun X => calls_same (w := V) (fun W' (hb' : Below V.heap.size V W') => reaches_any (HND.out.below hb') HA.out hi') X
  have hRR : R = (nameB r.nd.name && ((nds rs)[k].id == r.nd.id) && dirB (nds rs) r.nd.parent && clm (nds rs) 4 i) := by
    rw [HR.out]
    unfold placeB
    rw [firstB_some (k := k) (by rw [HE.out]; exact HK.out), HE.out, getD_in hkl]
  have HRR := Shut.mk hRR
  have HNM := Shut.mk hnm
  have HRE := Shut.mk hre
  obtain ⟨xid, hxid⟩ : ∃ x, x = (nds rs)[k].id := ⟨_, rfl⟩
  rw [← hxid] at gk HRR
  obtain ⟨o, ho⟩ : ∃ o, o = fid (nds rs) r.nd.parent := ⟨_, rfl⟩
  rw [← ho] at gi
  have HO := Shut.mk ho
  have HEND : Shut (∀ X : Grow V, Below w.heap.size w X.val) := ⟨fun X => HB.out.trans ((HV.out.trans (X.bel.mono HV.out.size)).mono HB.out.size)⟩
  have HDIR : Shut (∀ m, o = some m → ∀ X : Grow V, X.val.cell? ⟨G m, 3, none⟩ = some (.bool ((nds rs).getD m default).dir)) := ⟨fun m hm X => by
    rw [hm] at ho
    obtain ⟨hml, _⟩ := fid_lt ho.symm
    obtain ⟨_, _, _, cm3, _, _, lm⟩ := hnd.cells m hml
    rw [getD_in hml]
    exact X.cell cm3 lm⟩
  generalize clm (nds rs) 4 i = cl at HRR HRE
  clear hnm hre hRR hxid ho hnd hn hln ck0 ci9 hei hkl li lk k1 k2 k3 b0 b1' n0 n1 n2 hV
  cases hN : nameB r.nd.name with
  | false =>
    rw [hN] at HNM HRR
    refine wp_region_grow (by kernel_rfl) (by kernel_rfl) ?_
    repeat (go_big_quiet_step (first | (go_at_call 114; exact HNM.out _) | (go_at_call 115; exact HRE.out _)))
    refine wpQuiet_nil ?_
    rintro _ ⟨X, rfl⟩
    go_wp2_with fail
    go_ret
    refine ⟨?_, HEND.out X⟩
    rw [HRR.out]
    rfl
  | true =>
    rw [hN] at HNM HRR
    by_cases hx : xid = r.nd.id
    · cases o with
      | none =>
        simp only [Option.map_none, ptr_none] at gi
        have he2 : (xid == r.nd.id) = true := by simp [hx]
        rw [dirB_none HO.out.symm] at HRR
        refine wp_region_grow (by kernel_rfl) (by kernel_rfl) ?_
        repeat (go_big_quiet_step (first | (go_at_call 114; exact HNM.out _) | (go_at_call 115; exact HRE.out _)))
        refine wpQuiet_nil ?_
        rintro _ ⟨X, rfl⟩
        go_wp2_with fail
        go_ret
        refine ⟨?_, HEND.out X⟩
        rw [HRR.out]
        simp
      | some m =>
        simp only [Option.map_some, ptr_some] at gi
        have gd := HDIR.out m rfl
        rw [dirB_some HO.out.symm] at HRR
        have he2 : (xid == r.nd.id) = true := by simp [hx]
        cases hd : ((nds rs).getD m default).dir with
        | false =>
          rw [hd] at gd
          refine wp_region_grow (by kernel_rfl) (by kernel_rfl) ?_
          repeat (go_big_quiet_step (first | (go_at_call 114; exact HNM.out _) | (go_at_call 115; exact HRE.out _)))
          refine wpQuiet_nil ?_
          rintro _ ⟨X, rfl⟩
          go_wp2_with fail
          go_ret
          refine ⟨?_, HEND.out X⟩
          rw [HRR.out]
          rw [hd]
          simp
        | true =>
          rw [hd] at gd
          refine wp_region_grow (by kernel_rfl) (by kernel_rfl) ?_
          repeat (go_big_quiet_step (first | (go_at_call 114; exact HNM.out _) | (go_at_call 115; exact HRE.out _)))
          refine wpQuiet_nil ?_
          rintro _ ⟨X, rfl⟩
          go_wp2_with fail
          go_ret
          refine ⟨?_, HEND.out X⟩
          rw [HRR.out]
          rw [hd, he2]
          simp
    · have he2 : (xid == r.nd.id) = false := by simp [hx]
      refine wp_region_grow (by kernel_rfl) (by kernel_rfl) ?_
      repeat (go_big_quiet_step (first | (go_at_call 114; exact HNM.out _) | (go_at_call 115; exact HRE.out _)))
      refine wpQuiet_nil ?_
      rintro _ ⟨X, rfl⟩
      go_wp2_with fail
      go_ret
      refine ⟨?_, HEND.out X⟩
      rw [HRR.out]
      simp [hx]
end Go.Proofs.YthfmjjaollekiaaGreat
/- LkG: The program's own tests of a node: schemas, the root, directories, files. -/
namespace Go.Proofs.YthfmjjaollekiaaGreat
set_option maxRecDepth 100000
open Go.RowKit Go.Maps BigFrame
attribute [local go_sem ↓] Go.wp_at_zero Go.wp_at_succ

set_option maxRecDepth 100000 in
set_option maxHeartbeats 1000000 in
theorem implRootOk (id parent : Int) (name : ByteArray) (dir : Bool) (schema quota len writer : Int) (loc : Option Addr) (n cap : Nat) (w : World) : Calls Tryz.prog 60 #[.agg #[.int .i64 id, .int .i64 parent, .string name, .bool dir, .int .i64 schema, .int .i64 quota, .int .i64 len, .slice loc n cap, .int .i64 writer]] w fun e w' => e = .returned (.bool ((id == 1) && (parent == 0) && (name.toList == []) && dir && inI schema 1 3)) ∧ Below w.heap.size w w' := by
  obtain ⟨R, hR⟩ : ∃ R, R = ((id == 1) && (parent == 0) && (name.toList == []) && dir && inI schema 1 3) := ⟨_, rfl⟩
  have HR := Shut.mk hR
  rw [← hR]
  clear hR
  go_enter Tryz.func60, Tryz.ntmps60
  go_wp2_with (go_at_call 110; refine (implSchemaOk _ _).mono ?_; rintro e w1 ⟨rfl, rfl⟩)
  all_goals
    go_ret
    exact ⟨by rw [HR.out]; simp [*], (Below.refl _ _).alloc (Nat.le_refl _) _⟩
set_option maxRecDepth 100000 in
set_option maxHeartbeats 1000000 in
theorem implDirOk (id parent : Int) (name : ByteArray) (dir : Bool) (schema quota len writer : Int) (loc : Option Addr) (n cap : Nat) (w : World) : Calls Tryz.prog 112 #[.agg #[.int .i64 id, .int .i64 parent, .string name, .bool dir, .int .i64 schema, .int .i64 quota, .int .i64 len, .slice loc n cap, .int .i64 writer]] w fun e w' => e = .returned (.bool (((schema == 0) || inI schema 1 3) && decide (0 ≤ quota) && decide (quota ≤ 1000) && (len == 0) && ((n : Int) == 0) && (writer == 0))) ∧ Below w.heap.size w w' := by
  obtain ⟨R, hR⟩ : ∃ R, R = (((schema == 0) || inI schema 1 3) && decide (0 ≤ quota) && decide (quota ≤ 1000) && (len == 0) && ((n : Int) == 0) && (writer == 0)) := ⟨_, rfl⟩
  have HR := Shut.mk hR
  rw [← hR]
  clear hR
  go_enter Tryz.func112, Tryz.ntmps112
  go_wp2_with (go_at_call 110; refine (implSchemaOk _ _).mono ?_; rintro e w1 ⟨rfl, rfl⟩)
  all_goals
    go_ret
    exact ⟨by rw [HR.out]; first | (simp [*]; done) | (simp [*]; omega), (Below.refl _ _).alloc (Nat.le_refl _) _⟩
/-- What the program asks of a file. -/
def fileQ (schema quota len writer : Int) (ps : List PM) : Bool := inI schema 1 3 && (quota == 0) && inI writer 0 9 && decide (ps.length ≤ 40) && ps.all (pieceOk schema) && (sumP ps == len) && decide (sumP ps ≤ 1000)
theorem fileQ_piece {schema quota len writer : Int} {ps : List PM} {k : Nat} (hk : k < ps.length) (h : pieceOk schema ps[k] = false) : fileQ schema quota len writer ps = false := by
  unfold fileQ
  have : ps.all (pieceOk schema) = false := Bool.eq_false_iff.2 fun hc => by rw [List.all_eq_true.1 hc _ (List.getElem_mem hk)] at h; cases h
  rw [this]
  simp
set_option maxRecDepth 100000 in
set_option maxHeartbeats 2000000 in
theorem implFileOk (id parent : Int) (name : ByteArray) (dir : Bool) (schema quota len writer : Int) (loc : Option Addr) (ps : List PM) (cap : Nat) (w : World) {lo hi : Nat} (hp : RRow w loc (pcs ps) lo hi) (hl : ps.length ≤ 1048576) :
    Calls Tryz.prog 113 #[.agg #[.int .i64 id, .int .i64 parent, .string name, .bool dir, .int .i64 schema, .int .i64 quota, .int .i64 len, .slice loc ps.length cap, .int .i64 writer]] w fun e w' => e = .returned (.bool (fileQ schema quota len writer ps)) ∧ Below w.heap.size w w' := by
  obtain ⟨R, hR⟩ : ∃ R, R = fileQ schema quota len writer ps := ⟨_, rfl⟩
  have HR := Shut.mk hR
  rw [← hR]
  obtain ⟨n, hn⟩ : ∃ n, n = ps.length := ⟨_, rfl⟩
  rw [← hn] at hl ⊢
  have HN := Shut.mk hn
  have HP := Shut.mk hp
  clear hR hn hp
  by_cases hh : inI schema 1 3 = true ∧ quota = 0 ∧ 0 ≤ writer ∧ writer ≤ 9 ∧ n ≤ 40
  · obtain ⟨h1, rfl, h3, h4, h5⟩ := hh
    have h5' : ¬ (40 : Int) < (n : Int) := by omega
    go_enter Tryz.func113, Tryz.ntmps113
    go_upto_region 3 with (go_at_call 110; refine (implSchemaOk _ _).mono ?_; rintro e w1 ⟨rfl, rfl⟩)
    refine wp_shade (fun W => Below w.heap.size w W ∧ WCells W w.heap.size [.int .i64 id, .int .i64 parent, .string name, .bool dir, .int .i64 schema, .int .i64 0, .int .i64 len, .slice loc n cap, .int .i64 writer]) ⟨(Below.refl _ _).alloc (Nat.le_refl _) _, wcells_new w #[.int .i64 id, .int .i64 parent, .string name, .bool dir, .int .i64 schema, .int .i64 0, .int .i64 len, .slice loc n cap, .int .i64 writer] 31⟩ ?_
    intro W hW
    have HW := Shut.mk hW
    have c7 := (hW.2.2 7 _ rfl).1
    clear hW
    go_wp2_with fail
    go_loopw [3, 34] (fun sm i wr => ∃ (k : Nat), sm = .int .i64 (sumP (ps.take k)) ∧ i = .int .i64 k ∧ k ≤ n ∧ Shut (∀ j (hj : j < ps.length), j < k → pieceOk schema ps[j] = true) ∧ Shut (Below w.heap.size w wr ∧ WCells wr w.heap.size [.int .i64 id, .int .i64 parent, .string name, .bool dir, .int .i64 schema, .int .i64 0, .int .i64 len, .slice loc n cap, .int .i64 writer])) (fun _ i _ => n - (intOf i).toNat)
    case atStart => exact ⟨0, rfl, rfl, Nat.zero_le _, ⟨fun _ _ h => absurd h (Nat.not_lt_zero _)⟩, HW⟩
    case round =>
      clear HW c7
      obtain ⟨k, rfl, rfl, hk, hall, hW⟩ := hrel
      have hsum : 0 ≤ sumP (ps.take k) ∧ sumP (ps.take k) ≤ 32 * 40 := by
        have := sumP_ok (s := schema) (ps := ps.take k) (fun p hp => by
          obtain ⟨j, hj, rfl⟩ := List.mem_iff_getElem.1 hp
          simp only [List.getElem_take]
          simp only [List.length_take] at hj
          exact hall.out j (by omega) (by omega))
        have hlt : (ps.take k).length ≤ 40 := by simp; omega
        omega
      have c4 := (hW.out.2.2 4 _ rfl).1
      have c6 := (hW.out.2.2 6 _ rfl).1
      have lw := hW.out.2.1
      by_cases hlt : k < n
      · have hkp : k < ps.length := by rw [← HN.out]; exact hlt
        obtain ⟨b, off, rfl, lb, hc⟩ := pcs_at HP.out (by omega)
        obtain ⟨p0, p1⟩ := hc k hkp
        rw [← hW.out.1.cell (p := ⟨b, off + k * 2, none⟩) lb] at p0
        rw [← hW.out.1.cell (p := ⟨b, off + k * 2 + 1, none⟩) lb] at p1
        have hst := sumP_take ps k hkp
        obtain ⟨q, hq⟩ : ∃ q, q = ps[k] := ⟨_, rfl⟩
        rw [← hq] at p0 p1 hst
        have HQ := Shut.mk hq
        have HST := Shut.mk hst
        have lb' : b < wr.heap.size := Nat.lt_of_lt_of_le lb hW.out.1.size
        have k0 : (0 : Int) ≤ (k : Int) := by omega
        have k1 : (k : Int) < (n : Int) := by omega
        have HSZ := Shut.mk (fun W => implSize schema W)
        have hgb := groupN_bounds schema
        obtain ⟨sm, hsm⟩ : ∃ sm, sm = sumP (ps.take k) := ⟨_, rfl⟩
        rw [← hsm] at hsum HST ⊢
        have HSM := Shut.mk hsm
        have hpk : pieceOk schema q = (decide (1 ≤ q.group) && decide (q.group ≤ 100000) && (decide (1 ≤ q.len) && decide (q.len ≤ (groupN schema : Nat)))) := rfl
        have HPK := Shut.mk hpk
        obtain ⟨gn, hgn⟩ : ∃ gn, gn = groupN schema := ⟨_, rfl⟩
        rw [← hgn] at HSZ HPK hgb
        obtain ⟨gr, ln⟩ := q
        have HBW : Shut (∀ W, Below wr.heap.size wr W → Below w.heap.size w W) := ⟨fun W hb => hW.out.1.trans (hb.mono hW.out.1.size)⟩
        clear hc hq hst hsm hpk hgn
        have HNO : Shut (pieceOk schema ⟨gr, ln⟩ = false → Ending.returned (.bool false) = .returned (.bool R)) := ⟨fun h => by rw [HR.out, fileQ_piece hkp (by rw [← HQ.out]; exact h)]⟩
        dsimp only at p0 p1 HST HPK
        have HQQ := HQ
        go_upto_region 7 with fail
        by_cases a1 : gr < 1
        · go_quiet (first | (go_at_call 145; exact Calls.quiet_of_same (HSZ.out _)))
          go_wp2_with fail
          go_ret
          exact ⟨HNO.out (by rw [HPK.out]; simp; omega), HBW.out _ (((Below.refl _ _).alloc (Nat.le_refl _) _).trans (Below.mono (B := wr.heap.size) ⟨rfl, rfl, rfl, Nat.le_refl _, fun _ _ => rfl⟩ (Nat.le_refl _)))⟩
        · by_cases a2 : 100000 < gr
          · go_quiet (first | (go_at_call 145; exact Calls.quiet_of_same (HSZ.out _)))
            go_wp2_with fail
            go_ret
            exact ⟨HNO.out (by rw [HPK.out]; simp; omega), HBW.out _ (((Below.refl _ _).alloc (Nat.le_refl _) _).trans (Below.mono (B := wr.heap.size) ⟨rfl, rfl, rfl, Nat.le_refl _, fun _ _ => rfl⟩ (Nat.le_refl _)))⟩
          · by_cases a3 : ln < 1
            · go_quiet (first | (go_at_call 145; exact Calls.quiet_of_same (HSZ.out _)))
              go_wp2_with fail
              go_ret
              exact ⟨HNO.out (by rw [HPK.out]; simp; omega), HBW.out _ (((Below.refl _ _).alloc (Nat.le_refl _) _).trans (Below.mono (B := wr.heap.size) ⟨rfl, rfl, rfl, Nat.le_refl _, fun _ _ => rfl⟩ (Nat.le_refl _)))⟩
            · by_cases a4 : (gn : Int) < ln
              · go_quiet (first | (go_at_call 145; exact Calls.quiet_of_same (HSZ.out _)))
                go_wp2_with fail
                go_ret
                exact ⟨HNO.out (by rw [HPK.out]; simp; omega), HBW.out _ (((Below.refl _ _).alloc (Nat.le_refl _) _).trans (Below.mono (B := wr.heap.size) ⟨rfl, rfl, rfl, Nat.le_refl _, fun _ _ => rfl⟩ (Nat.le_refl _)))⟩
              · go_quiet (first | (go_at_call 145; exact Calls.quiet_of_same (HSZ.out _)))
                go_wp2_with fail
                go_roundw
                case rel =>
                  have hpo : pieceOk schema ⟨gr, ln⟩ = true := by rw [HPK.out]; simp; omega
                  have hbn : Below wr.heap.size wr ((wr.alloc (.cells #[.int .i64 gr, .int .i64 ln] 107)).drewN nq) := ((Below.refl _ _).alloc (Nat.le_refl _) _).trans (Below.mono (B := wr.heap.size) ⟨rfl, rfl, rfl, Nat.le_refl _, fun _ _ => rfl⟩ (Nat.le_refl _))
                  refine ⟨k + 1, ?_, by go_num, by omega, ⟨fun j hj hjk => ?_⟩, ⟨HBW.out _ hbn, hW.out.2.grow hbn⟩⟩
                  · rw [HST.out]
                  · rcases Nat.lt_succ_iff_lt_or_eq.1 hjk with h | h
                    · exact hall.out j hj h
                    · subst h
                      rw [← HQ.out]
                      exact hpo
                case measure => simp [intOf]; omega
      · have hlt' : ¬ (k : Int) < (n : Int) := by omega
        obtain rfl : k = n := by omega
        have hts : sumP (ps.take k) = sumP ps := by rw [HN.out, List.take_length]
        have hallp : ps.all (pieceOk schema) = true := List.all_eq_true.2 fun p hp => by
          obtain ⟨j, hj, rfl⟩ := List.mem_iff_getElem.1 hp
          exact hall.out j hj (by rw [HN.out]; exact hj)
        have hRR : R = ((sumP ps == len) && decide (sumP ps ≤ 1000)) := by
          rw [HR.out]
          unfold fileQ
          rw [hallp, h1, show inI writer 0 9 = true from inI_iff.2 ⟨h3, h4⟩, decide_eq_true (by rw [← HN.out]; exact h5)]
          simp
        have HRR := Shut.mk hRR
        rw [hts] at hsum ⊢
        generalize sumP ps = sm at *
        clear hallp hRR hts
        go_wp2_with fail
        all_goals
          go_ret
          refine ⟨?_, hW.out.1⟩
          rw [HRR.out]
          first | (simp [*]; done) | (simp [*]; intros; omega)
  · have HH := Shut.mk hh
    have hRF : R = false := by
      rw [HR.out]
      refine Bool.eq_false_iff.2 fun hc => hh ?_
      unfold fileQ at hc
      simp only [Bool.and_eq_true, beq_iff_eq, decide_eq_true_eq] at hc
      obtain ⟨⟨⟨⟨⟨⟨a1, a2⟩, a3⟩, a4⟩, _⟩, _⟩, _⟩ := hc
      exact ⟨a1, a2, (inI_iff.1 a3).1, (inI_iff.1 a3).2, by rw [HN.out]; exact a4⟩
    rw [hRF]
    clear hh hRF
    go_enter Tryz.func113, Tryz.ntmps113
    go_upto_region 3 with (go_at_call 110; refine (implSchemaOk _ _).mono ?_; rintro e w1 ⟨rfl, rfl⟩)
    all_goals first
      | (go_ret; exact ⟨rfl, (Below.refl _ _).alloc (Nat.le_refl _) _⟩)
      | exact absurd ⟨by assumption, by omega, by omega, by omega, by omega⟩ HH.out
end Go.Proofs.YthfmjjaollekiaaGreat
