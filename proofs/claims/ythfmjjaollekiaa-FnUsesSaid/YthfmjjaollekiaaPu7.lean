/- Texts of ours, laid one behind the other: WayM, LkQ, LkE, LkF, TreJ, LkR, LkG, LkH, LkI, LkJ. -/
import Derived.Test.YthfmjjaollekiaaPu6
import Derived.Test.YthfmjjaollekiaaPu2
import Derived.Test.YthfmjjaollekiaaPu3
import Derived.Deep.LoopGhost
import Derived.BigQuiet
/- WayM: The way down to a node of a right tree, plain: who is below whom, what is used. Nothing of the program is read here. -/
namespace Go.Proofs.Ythfmjjaollekiaa
set_option maxRecDepth 100000

/-- The nodes on the way from the first one (not counted) down to a node. -/
inductive Way (ns : List NM) : NM → List NM → Prop
  | root {r : NM} : r ∈ ns → r.id = 1 → r.parent = 0 → Way ns r []
  | step {n p : NM} {L : List NM} : n ∈ ns → n.id ≠ 1 → p ∈ ns → p.id = n.parent → Way ns p L → Way ns n (L ++ [n])
theorem Way.mem {ns : List NM} {n : NM} {L : List NM} (h : Way ns n L) : n ∈ ns := by
  cases h with
  | root h => exact h
  | step h => exact h
theorem Way.det {ns : List NM} (hu : Up2 ns) {n : NM} {L : List NM} (h : Way ns n L) : ∀ {M : List NM}, Way ns n M → L = M := by
  induction h with
  | root h1 h2 _ =>
    intro M h'
    cases h' with
    | root => rfl
    | step _ h3 => exact absurd h2 h3
  | @step n p L h1 h2 h3 h4 h5 ih =>
    intro M h'
    cases h' with
    | root _ q => exact absurd q h2
    | @step _ p' L' _ _ q3 q4 q5 =>
      have : p = p' := hu.one h3 q3 (by rw [h4, q4])
      subst this
      rw [ih q5]
theorem TP.one {T : TM} (h : TP T) {r : NM} (hr : r ∈ T.nodes) (e : r.id = 1) : r.parent = 0 := by
  obtain ⟨r', rest, er, hf⟩ := h.first
  have : r = r' := h.up.one hr (by rw [er]; simp) (by rw [e, (firstOk_id hf).1])
  rw [this]
  exact (firstOk_id hf).2
theorem TP.root_in {T : TM} (h : TP T) : ∃ r ∈ T.nodes, r.id = 1 ∧ r.parent = 0 ∧ firstOk r = true := by
  obtain ⟨r, rest, er, hr⟩ := h.first
  exact ⟨r, by rw [er]; simp, (firstOk_id hr).1, (firstOk_id hr).2, hr⟩
theorem TP.way {T : TM} (h : TP T) : ∀ (f : Nat) {n : NM}, n ∈ T.nodes → (n.id = 1 ∨ climbs T.nodes f n.id = true) → ∃ L, Way T.nodes n L ∧ L.length ≤ f := by
  obtain ⟨r, hr, r1, r0, _⟩ := h.root_in
  intro f
  induction f with
  | zero =>
    intro n hn hc
    rcases hc with e | hc
    · exact ⟨[], .root hn e (h.one hn e), Nat.le_refl _⟩
    · simp [climbs] at hc
  | succ f ih =>
    intro n hn hc
    by_cases e1 : n.id = 1
    · exact ⟨[], .root hn e1 (h.one hn e1), by simp⟩
    have hc := hc.resolve_left e1
    rw [h.up.climbs hn] at hc
    by_cases e : n.parent = 1
    · exact ⟨[] ++ [n], .step hn e1 hr (by rw [r1, e]) (.root hr r1 r0), by simp⟩
    · rw [if_neg e] at hc
      obtain ⟨q, hq, e2⟩ := climbs_mem hc
      rw [← e2] at hc
      obtain ⟨L, hL, hl⟩ := ih hq (.inr hc)
      exact ⟨L ++ [n], .step hn e1 hq e2 hL, by simp; omega⟩
theorem TP.way4 {T : TM} (h : TP T) {n : NM} (hn : n ∈ T.nodes) : ∃ L, Way T.nodes n L ∧ L.length ≤ 4 := by
  refine h.way 4 hn ?_
  by_cases e : n.id = 1
  · exact .inl e
  · exact .inr (h.rest n hn e).2.2
/-- Who stands on the way has a way of its own, which is no longer. -/
theorem Way.part {ns : List NM} {n : NM} {L : List NM} (h : Way ns n L) : ∀ m ∈ L, ∃ M R, Way ns m M ∧ L = M ++ R := by
  induction h with
  | root => intro m hm; simp at hm
  | @step n p L h1 h2 h3 h4 h5 ih =>
    intro m hm
    rcases List.mem_append.1 hm with q | q
    · obtain ⟨M, R, w, e⟩ := ih m q
      exact ⟨M, R ++ [n], w, by rw [e, List.append_assoc]⟩
    · rw [List.mem_singleton.1 q]
      exact ⟨L ++ [n], [], .step h1 h2 h3 h4 h5, by simp⟩
theorem Way.all {ns : List NM} {n : NM} {L : List NM} (h : Way ns n L) : ∀ m ∈ L, m ∈ ns ∧ m.id ≠ 1 := by
  induction h with
  | root => intro m hm; simp at hm
  | @step n p L h1 h2 h3 h4 h5 ih =>
    intro m hm
    rcases List.mem_append.1 hm with q | q
    · exact ih m q
    · rw [List.mem_singleton.1 q]; exact ⟨h1, h2⟩
/-- A node is not on the way to the one above it. -/
theorem Way.over {ns : List NM} (hu : Up2 ns) {n p : NM} {L : List NM} (h1 : n ∈ ns) (h2 : n.id ≠ 1) (h3 : p ∈ ns) (h4 : p.id = n.parent) (h5 : Way ns p L) : ∀ m ∈ L, m.id ≠ n.id := by
  intro m hm e
  have hmn : m = n := hu.one (h5.all m hm).1 h1 e
  subst hmn
  obtain ⟨M, R, w, eL⟩ := h5.part m hm
  have := w.det hu (.step h1 h2 h3 h4 h5)
  have hl := congrArg List.length this
  have hl2 := congrArg List.length eL
  simp at hl hl2
  omega
/-- Who is below whom, by the way. -/
theorem TP.below_way {T : TM} (h : TP T) {n : NM} {L : List NM} (hw : Way T.nodes n L) : ∀ (f : Nat) {top : Int}, L.length < f → top ≠ 0 → belowF T.nodes f n.id top = (decide (top = 1) || L.any (fun m => decide (m.id = top))) := by
  induction hw with
  | @root r h1 h2 h3 =>
    intro f top hf h0
    obtain ⟨f, rfl⟩ : ∃ q, f = q + 1 := ⟨f - 1, by omega⟩
    rw [h.up.below h1, h2, h3]
    by_cases e : (1 : Int) = top
    · simp [e]
    · rw [if_neg e]
      have e' : ¬ top = 1 := fun q => e q.symm
      simp only [e', decide_false, List.any_nil, Bool.or_false]
      cases f with
      | zero => rfl
      | succ f =>
        refine belowF_none (Ne.symm h0) ?_
        rw [List.findIdx?_eq_none_iff]
        intro n hn
        have := h.pos hn
        simp
        omega
  | @step n p L h1 h2 h3 h4 h5 ih =>
    intro f top hf h0
    obtain ⟨f, rfl⟩ : ∃ q, f = q + 1 := ⟨f - 1, by omega⟩
    rw [h.up.below h1, ← h4]
    have hl : L.length < f := by simp at hf; omega
    rw [ih f hl h0, List.any_append]
    by_cases e : n.id = top
    · simp [e]
    · rw [if_neg e]; simp [e]
/-- Below, for nodes of a right tree. -/
def blB (T : TM) (n : NM) (top : Int) : Bool := belowF T.nodes 15 n.id top
theorem TP.bl_root {T : TM} (h : TP T) {r : NM} (hr : r ∈ T.nodes) (e : r.id = 1) {top : Int} (h0 : top ≠ 0) : blB T r top = decide (r.id = top) := by
  unfold blB
  rw [h.below_way (.root hr e (h.one hr e)) 15 (by simp) h0, e]
  simp [eq_comm]
theorem TP.bl_step {T : TM} (h : TP T) {n p : NM} (hn : n ∈ T.nodes) (h1 : n.id ≠ 1) (hp : p ∈ T.nodes) (e : p.id = n.parent) {top : Int} (h0 : top ≠ 0) : blB T n top = (decide (n.id = top) || blB T p top) ∧ ¬ (n.id = top ∧ blB T p top = true) := by
  obtain ⟨L, hL, hl⟩ := h.way4 hp
  have hn' := Way.step hn h1 hp e hL
  unfold blB
  rw [h.below_way hn' 15 (by simp; omega) h0, h.below_way hL 15 (by omega) h0, List.any_append]
  refine ⟨?_, ?_⟩
  · simp only [List.any_cons, List.any_nil, Bool.or_false]
    cases decide (top = 1) <;> cases L.any (fun m => decide (m.id = top)) <;> cases decide (n.id = top) <;> rfl
  · rintro ⟨q1, q2⟩
    rw [Bool.or_eq_true] at q2
    rcases q2 with q | q
    · exact h1 (by rw [q1]; exact of_decide_eq_true q)
    · obtain ⟨m, hm, em⟩ := List.any_eq_true.1 q
      exact Way.over h.up hn h1 hp e hL m hm (by rw [of_decide_eq_true em, q1])
/-- A sum over nodes. -/
def sm (f : NM → Int) : List NM → Int
  | [] => 0
  | n :: ns => f n + sm f ns
theorem sm_app (f : NM → Int) (a b : List NM) : sm f (a ++ b) = sm f a + sm f b := by
  induction a with
  | nil => simp [sm]
  | cons n a ih => simp only [List.cons_append, sm, ih]; omega
theorem sm_take (f : NM → Int) (ns : List NM) (k : Nat) (h : k < ns.length) : sm f (ns.take (k + 1)) = sm f (ns.take k) + f ns[k] := by
  rw [List.take_succ_eq_append_getElem h, sm_app]
  simp [sm]
theorem sm_congr {f g : NM → Int} : ∀ {ns : List NM}, (∀ n ∈ ns, f n = g n) → sm f ns = sm g ns
  | [], _ => rfl
  | n :: ns, h => by simp only [sm]; rw [h n (by simp), sm_congr (fun m hm => h m (by simp [hm]))]
theorem sm_add (f g : NM → Int) : ∀ ns : List NM, sm (fun n => f n + g n) ns = sm f ns + sm g ns
  | [] => rfl
  | n :: ns => by simp only [sm]; rw [sm_add f g ns]; omega
theorem sm_zero : ∀ ns : List NM, sm (fun _ => 0) ns = 0
  | [] => rfl
  | n :: ns => by simp only [sm]; rw [sm_zero ns]; omega
theorem sm_flip (F : NM → NM → Int) : ∀ us bs : List NM, sm (fun a => sm (fun b => F a b) bs) us = sm (fun b => sm (fun a => F a b) us) bs
  | [], bs => (sm_zero bs).symm
  | a :: us, bs => by
    simp only [sm]
    rw [sm_flip F us bs, ← sm_add]
/-- Of one of them alone. -/
theorem sm_one {f : NM → Int} : ∀ {ns : List NM} {x : NM}, Up2 ns → x ∈ ns → sm (fun n => if n.id = x.id then f n else 0) ns = f x
  | n :: ns, x, hu, hx => by
    obtain ⟨h1, h2⟩ := List.pairwise_cons.1 hu
    simp only [sm]
    rcases List.mem_cons.1 hx with rfl | hm
    · rw [if_pos rfl, sm_congr (g := fun _ => 0), sm_zero]
      · omega
      · intro m hm
        have := h1 m hm
        rw [if_neg (by omega)]
    · have := h1 x hm
      rw [if_neg (by omega), sm_one h2 hm]
      omega
theorem usedL_sm {T : TM} (h : TP T) (P : NM → Bool) : ∀ ns : List NM, (∀ n ∈ ns, n ∈ T.nodes) → usedL T.nodes ((ns.filter P).map NM.id) = sm (fun n => if P n = true then n.len else 0) ns
  | [], _ => rfl
  | n :: ns, hm => by
    have ih := usedL_sm h P ns (fun m q => hm m (by simp [q]))
    have ha := (h.up.at (hm n (by simp))).2
    simp only [sm, List.filter_cons]
    cases hP : P n with
    | false => simp only [Bool.false_eq_true, if_false]; rw [ih]; omega
    | true =>
      simp only [if_true, List.map_cons]
      have : usedL T.nodes (n.id :: (ns.filter P).map NM.id) = (T.nodes.getD (atI T.nodes n.id).toNat default).len + usedL T.nodes ((ns.filter P).map NM.id) := rfl
      rw [this, ih, ha]
theorem used_sm {T : TM} (h : treeOk T = true) {x : NM} (hx : x ∈ T.nodes) : usedX T x.id = sm (fun n => if blB T n x.id = true then n.len else 0) T.nodes := by
  have hp := TP.of h
  unfold usedX belowX
  rw [if_pos ⟨h, (hp.up.at hx).1⟩]
  exact usedL_sm hp (fun n => belowF T.nodes 15 n.id x.id) T.nodes (fun _ q => q)
theorem used_none {T : TM} {id : Int} (hn : ∀ n ∈ T.nodes, n.id ≠ id) : usedX T id = 0 := by
  unfold usedX belowX
  rw [if_neg (by rw [atI_none hn]; omega)]
  rfl
/-- Who is below a node is it, or below just one of its kids. -/
theorem TP.bl_sum {T : TM} (h : TP T) {x : NM} (hx : x ∈ T.nodes) {n : NM} {L : List NM} (hw : Way T.nodes n L) (c : Int) : (if blB T n x.id = true then c else 0) = (if n.id = x.id then c else 0) + sm (fun k => if k.parent = x.id then (if blB T n k.id = true then c else 0) else 0) T.nodes := by
  have x0 : x.id ≠ 0 := by have := h.pos hx; omega
  have k0 : ∀ k ∈ T.nodes, k.id ≠ 0 := fun k hk => by have := h.pos hk; omega
  induction hw with
  | @root r h1 h2 h3 =>
    rw [h.bl_root h1 h2 x0, sm_congr (g := fun _ => 0), sm_zero]
    · simp
    · intro k hk
      split
      · rename_i e
        rw [h.bl_root h1 h2 (k0 k hk)]
        rw [if_neg]
        simp only [decide_eq_true_eq]
        intro q
        have := h.one hk (by rw [← q, h2])
        omega
      · rfl
  | @step n p L h1 h2 h3 h4 h5 ih =>
    obtain ⟨q1, q2⟩ := h.bl_step h1 h2 h3 h4 x0
    have hs : sm (fun k => if k.parent = x.id then (if blB T n k.id = true then c else 0) else 0) T.nodes = sm (fun k => if k.id = n.id then (if k.parent = x.id then c else 0) else 0) T.nodes + sm (fun k => if k.parent = x.id then (if blB T p k.id = true then c else 0) else 0) T.nodes := by
      rw [← sm_add]
      refine sm_congr fun k hk => ?_
      obtain ⟨r1, r2⟩ := h.bl_step h1 h2 h3 h4 (k0 k hk)
      by_cases e1 : k.parent = x.id
      · rw [if_pos e1, if_pos e1, if_pos e1, r1]
        by_cases e2 : k.id = n.id
        · rw [if_pos e2]
          have : blB T p k.id = false := Bool.eq_false_iff.2 fun hc => r2 ⟨e2.symm, hc⟩
          rw [this, e2]
          simp
        · rw [if_neg e2]
          have e2' : ¬ n.id = k.id := fun q => e2 q.symm
          simp [e2']
      · rw [if_neg e1, if_neg e1, if_neg e1]
        split <;> rfl
    rw [hs, sm_one h.up h1, q1]
    have hpx : (n.parent = x.id) = (p.id = x.id) := by rw [h4]
    rw [← h4]
    by_cases e : n.id = x.id
    · have : blB T p x.id = false := Bool.eq_false_iff.2 fun hc => q2 ⟨e, hc⟩
      rw [this] at ih
      simp only [Bool.false_eq_true, if_false] at ih
      simp only [e, decide_true, Bool.true_or, if_true]
      omega
    · rw [if_neg e]
      simp only [e, decide_false, Bool.false_or]
      omega
/-- What is used below a node is its own and what its kids use. -/
theorem used_kids {T : TM} (h : treeOk T = true) {x : NM} (hx : x ∈ T.nodes) : x.len + sm (fun k => if k.parent = x.id then usedX T k.id else 0) T.nodes = usedX T x.id := by
  have hp := TP.of h
  rw [used_sm h hx]
  have e1 : sm (fun n => if blB T n x.id = true then n.len else 0) T.nodes = sm (fun n => (if n.id = x.id then n.len else 0) + sm (fun k => if k.parent = x.id then (if blB T n k.id = true then n.len else 0) else 0) T.nodes) T.nodes := by
    refine sm_congr fun n hn => ?_
    obtain ⟨L, hL, _⟩ := hp.way4 hn
    exact hp.bl_sum hx hL n.len
  rw [e1, sm_add, sm_one (f := fun n => n.len) hp.up hx, sm_flip]
  refine congrArg (x.len + ·) (sm_congr fun k hk => ?_)
  split
  · exact used_sm h hk
  · exact (sm_zero _).symm
/-- A schema is a node's own, or that of the node above it. -/
theorem schema_own {T : TM} (h : treeOk T = true) {x : NM} (hx : x ∈ T.nodes) (h0 : x.schema ≠ 0) : schemaAtX T x.id = x.schema := by
  have hp := TP.of h
  obtain ⟨k, hk, e⟩ := hp.up.find hx
  unfold schemaAtX
  rw [if_pos h, schemaF_some hk, e, if_pos h0]
theorem TP.sch_more {T : TM} (h : TP T) {n : NM} {L : List NM} (hw : Way T.nodes n L) : ∀ f, L.length < f → schemaF T.nodes (f + 1) n.id = schemaF T.nodes f n.id := by
  induction hw with
  | @root r h1 h2 h3 =>
    intro f hf
    obtain ⟨f, rfl⟩ : ∃ q, f = q + 1 := ⟨f - 1, by omega⟩
    obtain ⟨k, hk, e⟩ := h.up.find h1
    rw [schemaF_some hk, schemaF_some hk, e, h3]
    split
    · rfl
    · have hz : ∀ m, schemaF T.nodes m 0 = 0 := fun m => by
        cases m with
        | zero => rfl
        | succ m =>
          refine schemaF_none ?_
          rw [List.findIdx?_eq_none_iff]
          intro n hn
          have := h.pos hn
          simp
          omega
      rw [hz, hz]
  | @step n p L h1 h2 h3 h4 h5 ih =>
    intro f hf
    obtain ⟨f, rfl⟩ : ∃ q, f = q + 1 := ⟨f - 1, by omega⟩
    obtain ⟨k, hk, e⟩ := h.up.find h1
    rw [schemaF_some hk, schemaF_some hk, e, ← h4]
    split
    · rfl
    · exact ih f (by simp at hf; omega)
theorem schema_up {T : TM} (h : treeOk T = true) {x : NM} (hx : x ∈ T.nodes) (h0 : x.schema = 0) : schemaAtX T x.id = schemaAtX T x.parent := by
  have hp := TP.of h
  obtain ⟨k, hk, e⟩ := hp.up.find hx
  have h1 : x.id ≠ 1 := fun q => by
    obtain ⟨r, hr, r1, _, rf⟩ := hp.root_in
    have : x = r := hp.up.one hx hr (by rw [q, r1])
    unfold firstOk at rf
    simp only [Bool.and_eq_true, bne_iff_ne] at rf
    exact rf.2 (by rw [← this, h0])
  obtain ⟨_, ⟨p, hpm, ep, _⟩, _⟩ := hp.rest x hx h1
  obtain ⟨L, hL, hl⟩ := hp.way4 hpm
  unfold schemaAtX
  rw [if_pos h, if_pos h, schemaF_some hk, e, if_neg (by simp [h0]), ← ep]
  exact (hp.sch_more hL 14 (by omega)).symm
theorem schema_root {T : TM} (h : treeOk T = true) : 1 ≤ schemaAtX T 1 := by
  have hp := TP.of h
  obtain ⟨r, hr, r1, _, rf⟩ := hp.root_in
  unfold firstOk at rf
  simp only [Bool.and_eq_true, bne_iff_ne] at rf
  have hk := hp.kind r hr
  rw [if_pos rf.1.2] at hk
  unfold dirOk at hk
  simp only [Bool.and_eq_true, inI_iff] at hk
  have := schema_own h hr rf.2
  rw [← r1, this]
  have := hk.1.1.1.1
  omega
/-- A quota and one byte more is no room. -/
theorem room_over {T : TM} (h : treeOk T = true) {x : NM} (hx : x ∈ T.nodes) (hq : 0 < x.quota) : roomX T x.id (x.quota + 1) = false := by
  have hp := TP.of h
  obtain ⟨k, hk, e⟩ := hp.up.find hx
  have hd : x.dir = true := by
    have := hp.kind x hx
    cases hd : x.dir with
    | true => rfl
    | false =>
      rw [hd] at this
      simp only [Bool.false_eq_true, if_false] at this
      unfold fileOk at this
      simp only [Bool.and_eq_true, beq_iff_eq] at this
      omega
  unfold roomX
  rw [if_pos h, roomF_some hk, e, if_pos]
  refine ⟨hd, hq, ?_⟩
  have := (usedX_le T x.id).1
  omega
theorem room_none {T : TM} {id m : Int} (hn : ∀ n ∈ T.nodes, n.id ≠ id) : roomX T id m = false := by
  unfold roomX
  split
  · rw [roomF_none]
    · rfl
    · rw [List.findIdx?_eq_none_iff]
      intro n hh
      simpa using hn n hh
  · rfl
/-- Next goes on by one a record, at most. -/
theorem next_add {T : TM} {p : ByteArray} {x : NM} : (addX T p x).1.next ≤ T.next + 1 := by
  unfold addX
  have h0 : T.next ≤ T.next + 1 := by omega
  split
  · exact h0
  split
  · exact h0
  split
  · exact h0
  split
  · exact h0
  · exact Int.le_refl _
theorem next_apply {T : TM} {e : EM} {g : Int} : (applyX T e g).1.next ≤ T.next + 1 := by
  have hs : ∀ k x, (setN T k x).next ≤ T.next + 1 := fun k x => by show T.next ≤ T.next + 1; omega
  have h0 : T.next ≤ T.next + 1 := by omega
  unfold applyX
  split
  · exact h0
  split
  · exact h0
  split
  · exact next_add
  split
  · exact next_add
  split
  · exact h0
  split
  · unfold moveX
    split
    · exact h0
    split
    · exact h0
    split
    · exact h0
    split
    · exact h0
    split
    · exact h0
    · exact hs _ _
  split
  · exact h0
  split
  · unfold setX
    split
    · exact h0
    split
    · exact hs _ _
    split
    · exact h0
    · exact hs _ _
  · unfold writeX
    split
    · exact h0
    split
    · exact h0
    split
    · exact hs _ _
    split
    · exact hs _ _
    split
    · exact h0
    split
    · exact h0
    · exact hs _ _
theorem next_all (es : List EM) : ∀ s : TM × Int, (es.foldl stepX s).1.next ≤ s.1.next + es.length := by
  induction es with
  | nil => intro s; simp
  | cons e es ih =>
    intro s
    rw [List.foldl_cons]
    have h1 := ih (stepX s e)
    have h2 : (stepX s e).1.next ≤ s.1.next + 1 := by
      unfold stepX
      split
      · exact next_apply
      · omega
    rw [List.length_cons]
    push_cast
    omega
theorem newX_ok9 : treeOk newX = true := by decide
theorem drawn_ok (es : List EM) : treeOk (allX newX es 1).1 = true := allX_ok es 1 newX_ok9
theorem drawn_low (es : List EM) (h : es.length ≤ 14) : ∀ n ∈ (allX newX es 1).1.nodes, n.id < 17 := by
  intro n hn
  have h1 := (TP.of (drawn_ok es)).lt n hn
  have h2 := next_all es (newX, 1)
  have h3 : newX.next = 2 := rfl
  unfold allX at h1
  rw [h3] at h2
  omega
end Go.Proofs.Ythfmjjaollekiaa
/- LkQ: Right trees, plain: so many steps up; what the program asks of a tree is what the document asks. -/
namespace Go.Proofs.Ythfmjjaollekiaa

/-- Up to so many steps up: is it the first one? -/
def clm (ns : List NM) : Nat → Nat → Bool
  | 0, j => (ns.getD j default).id == 1
  | f + 1, j => match fid ns (ns.getD j default).parent with
    | none => (ns.getD j default).id == 1
    | some k => clm ns f k
theorem clm_none {ns : List NM} {f j : Nat} (h : fid ns (ns.getD j default).parent = none) : clm ns f j = ((ns.getD j default).id == 1) := by
  cases f with
  | zero => rfl
  | succ f => conv => lhs; unfold clm
              rw [h]
theorem clm_some {ns : List NM} {f j k : Nat} (h : fid ns (ns.getD j default).parent = some k) : clm ns (f + 1) j = clm ns f k := by
  conv => lhs; unfold clm
  rw [h]
theorem Asc.id_one {ns : List NM} (h : Asc ns) {j : Nat} (hj : j < ns.length) : ((ns.getD j default).id == 1) = decide (j = 0) := by
  rw [getD_in hj]
  by_cases e : j = 0
  · subst e
    have := h.2.2.1
    rw [getD_in hj] at this
    simp [this]
  · have := h.lt j hj 0 (by omega)
    rw [h.2.2.1] at this
    have h2 : ¬ ns[j].id = 1 := by omega
    simp [h2, e]
theorem clm_ups {ns : List NM} (h : Asc ns) : ∀ f j, j < ns.length → clm ns f j = true → ∃ d, d ≤ f ∧ Ups ns j d := by
  intro f
  induction f with
  | zero =>
    intro j hj hc
    unfold clm at hc
    rw [h.id_one hj] at hc
    obtain rfl := of_decide_eq_true hc
    exact ⟨0, Nat.le_refl _, .root⟩
  | succ f ih =>
    intro j hj hc
    cases hp : fid ns (ns.getD j default).parent with
    | none =>
      rw [clm_none hp, h.id_one hj] at hc
      obtain rfl := of_decide_eq_true hc
      exact ⟨0, Nat.zero_le _, .root⟩
    | some k =>
      rw [clm_some hp] at hc
      obtain ⟨d, hd, hu⟩ := ih k (fid_lt hp).1 hc
      refine ⟨d + 1, by omega, .step hj (fun e => ?_) hp hu⟩
      subst e
      rw [h.2.2.2, h.zero] at hp
      cases hp
theorem ups_clm {ns : List NM} (h : Asc ns) {j d : Nat} (hu : Ups ns j d) : ∀ f, d ≤ f → clm ns f j = true := by
  induction hu with
  | root =>
    intro f _
    rw [clm_none (by rw [h.2.2.2]; exact h.zero), h.id_one h.2.1]
    rfl
  | step hj h0 hp _ ih =>
    intro f hf
    cases f with
    | zero => omega
    | succ f => rw [clm_some hp]; exact ih f (by omega)
theorem clm_climbs {ns : List NM} (h : Asc ns) {j : Nat} (hj : j < ns.length) (h0 : j ≠ 0) : clm ns 4 j = climbs ns 4 (ns.getD j default).id := by
  have hf := h.fid hj
  rw [← getD_in hj] at hf
  cases hc : climbs ns 4 (ns.getD j default).id with
  | true =>
    obtain ⟨d, hd, hu⟩ := climbs_ups h 4 _ j hc hf h0
    exact ups_clm h hu 4 hd
  | false =>
    refine Bool.eq_false_iff.2 fun hm => ?_
    obtain ⟨d, hd, hu⟩ := clm_ups h 4 j hj hm
    rw [ups_climbs h 4 j d hu h0 hd] at hc
    cases hc
/-- Below another one, or it, on the way up: of an Id that is none. -/
theorem belowF_no {ns : List NM} (h : Asc ns) {top : Int} (hn : fid ns top = none) (h0 : top ≠ 0) {i d : Nat} (hu : Ups ns i d) : ∀ f, belowF ns f (ns.getD i default).id top = false := by
  have hne : ∀ j, j < ns.length → (ns.getD j default).id ≠ top := fun j hj e => fid_none hn _ (by rw [getD_in hj] at e; exact List.getElem_mem hj) (by rw [getD_in hj] at e; exact e)
  induction hu with
  | root =>
    intro f
    cases f with
    | zero => rfl
    | succ f =>
      rw [belowF_some (i := 0) (hne 0 h.2.1) (by rw [h.2.2.1]; exact h.one), h.2.2.2]
      cases f with
      | zero => rfl
      | succ f => exact belowF_none (fun e => h0 e.symm) h.zero
  | @step i k d hi _ hk _ ih =>
    intro f
    cases f with
    | zero => rfl
    | succ f =>
      have hf := h.fid hi
      rw [← getD_in hi] at hf
      rw [belowF_some (hne i hi) hf]
      obtain ⟨hkl, ek⟩ := fid_lt hk
      rw [← ek, ← getD_in hkl]
      exact ih f
/-- What the program asks: below an Id that is a node's. -/
def blw (ns : List NM) (i : Nat) (top : Int) : Bool := decide (top ≠ 0) && belowF ns 15 (ns.getD i default).id top
/-- It is the first one of its Parent and Name. -/
def firstB (ns : List NM) (i : Nat) : Bool := match fnm ns (ns.getD i default).parent (ns.getD i default).name with
  | some k => (ns.getD k default).id == (ns.getD i default).id
  | none => false
theorem firstB_some {ns : List NM} {i k : Nat} (h : fnm ns (ns.getD i default).parent (ns.getD i default).name = some k) : firstB ns i = ((ns.getD k default).id == (ns.getD i default).id) := by
  unfold firstB
  rw [h]
/-- There is a directory of this Id. -/
def dirB (ns : List NM) (p : Int) : Bool := match fid ns p with
  | some k => (ns.getD k default).dir
  | none => false
theorem dirB_some {ns : List NM} {p : Int} {k : Nat} (h : fid ns p = some k) : dirB ns p = (ns.getD k default).dir := by
  unfold dirB
  rw [h]
theorem dirB_none {ns : List NM} {p : Int} (h : fid ns p = none) : dirB ns p = false := by
  unfold dirB
  rw [h]
/-- What is asked of a node's place. -/
def placeB (ns : List NM) (i : Nat) : Bool := nameB (ns.getD i default).name && firstB ns i && dirB ns (ns.getD i default).parent && clm ns 4 i
/-- Each node of a right tree has its way up. -/
def Tall (ns : List NM) : Prop := Asc ns ∧ ∀ i, i < ns.length → ∃ d, d ≤ 4 ∧ Ups ns i d
end Go.Proofs.Ythfmjjaollekiaa
/- LkE: On the way up from a node: does it reach the root, is it below another one? -/
namespace Go.Proofs.Ythfmjjaollekiaa
open Go.RowKit Go.Maps
attribute [local go_sem ↓] Go.wp_at_zero Go.wp_at_succ

/-- Nodes behind pointers, each with the one above it. -/
structure Nd (w : World) (ns : List NM) (G : Nat → Nat) : Prop where
  cells : ∀ i (hi : i < ns.length), w.cell? ⟨G i, 0, none⟩ = some (.int .i64 ns[i].id) ∧ w.cell? ⟨G i, 1, none⟩ = some (.int .i64 ns[i].parent) ∧ w.cell? ⟨G i, 2, none⟩ = some (.string ns[i].name) ∧ w.cell? ⟨G i, 3, none⟩ = some (.bool ns[i].dir) ∧ w.cell? ⟨G i, 4, none⟩ = some (.int .i64 ns[i].schema) ∧ w.cell? ⟨G i, 5, none⟩ = some (.int .i64 ns[i].quota) ∧ G i < w.heap.size
  above : ∀ i (hi : i < ns.length), fid ns ns[i].id = some i → w.cell? ⟨G i, 9, none⟩ = some (ptrV ((fid ns ns[i].parent).map G))
theorem Lk.nd {w : World} {B b1 b2 : Nat} {rs : List NR} {G : Nat → Nat} {C : Int → Nat} (h : Lk w B b1 b2 rs G C (Ab (nds rs) fun _ => false)) : Nd w (nds rs) G := by
  refine ⟨fun i hi => ?_, fun i hi hf => ?_⟩
  · have hi' : i < rs.length := by rwa [nds_len] at hi
    have hc := (h.cells i hi').1
    have e : (nds rs)[i] = rs[i].nd := by simp [nds]
    rw [e]
    exact ⟨(hc.2 0 _ rfl).1, (hc.2 1 _ rfl).1, (hc.2 2 _ rfl).1, (hc.2 3 _ rfl).1, (hc.2 4 _ rfl).1, (hc.2 5 _ rfl).1, hc.1⟩
  · have hi' : i < rs.length := by rwa [nds_len] at hi
    have hc := ((h.cells i hi').1.2 9 _ rfl).1
    have : Ab (nds rs) (fun _ => false) i = fid (nds rs) (nds rs)[i].parent := by
      unfold Ab
      rw [getD_in hi, if_pos ⟨hf, rfl⟩]
    rw [this] at hc
    exact hc
theorem Nd.below {w w' : World} {ns : List NM} {G : Nat → Nat} (h : Nd w ns G) (hb : Below w.heap.size w w') : Nd w' ns G := by
  refine ⟨fun i hi => ?_, fun i hi hf => ?_⟩
  · obtain ⟨c0, c1, c2, c3, c4, c5, hl⟩ := h.cells i hi
    exact ⟨(hb.cell hl).trans c0, (hb.cell hl).trans c1, (hb.cell hl).trans c2, (hb.cell hl).trans c3, (hb.cell hl).trans c4, (hb.cell hl).trans c5, Nat.lt_of_lt_of_le hl hb.size⟩
  · exact (hb.cell (h.cells i hi).2.2.2.2.2.2).trans (h.above i hi hf)
theorem ptr_some (g : Nat) : ptrV (some g) = .pointer (some ⟨g, 0, none⟩) := rfl
theorem ptr_none : ptrV none = .pointer none := rfl
set_option maxHeartbeats 1000000 in
set_option maxRecDepth 100000 in
theorem reaches_any {w : World} {ns : List NM} {G : Nat → Nat} (h : Nd w ns G) (ha : Asc ns) {i : Nat} (hi : i < ns.length) :
    Calls Try.prog 96 #[.pointer (some ⟨G i, 0, none⟩)] w fun e w' => e = .returned (.bool (clm ns 4 i)) ∧ w' = w := by
  have HN := Shut.mk h
  have HA := Shut.mk ha
  clear h ha
  obtain ⟨R, hR⟩ : ∃ R, R = clm ns 4 i := ⟨_, rfl⟩
  rw [← hR]
  have HR := Shut.mk hR
  clear hR
  go_enter Try.func96, Try.ntmps96
  go_wp2_with fail
  go_loopw [0, 3] (fun p c wr => ∃ (k j : Nat), p = .pointer (some ⟨G j, 0, none⟩) ∧ c = .int .i64 k ∧ k ≤ 4 ∧ j < ns.length ∧ Shut (clm ns (4 - k) j = R) ∧ wr = w) (fun _ c _ => 4 - (intOf c).toNat)
  case atStart => exact ⟨0, i, rfl, rfl, by omega, hi, ⟨HR.out.symm⟩, rfl⟩
  case round =>
    obtain ⟨k, j, rfl, rfl, hk, hj, hc, rfl⟩ := hrel
    obtain ⟨c0, _, _, _, _, _, hl⟩ := HN.out.cells j hj
    have c9 := HN.out.above j hj (HA.out.fid hj)
    have hid := HA.out.id_one hj
    have hge := getD_in hj
    obtain ⟨x, hx⟩ : ∃ x, x = ns[j] := ⟨_, rfl⟩
    rw [← hx] at c0 c9 hge
    rw [hge] at hid
    have HGE := Shut.mk hge
    have HID := Shut.mk hid
    clear hx hge hid
    obtain ⟨o, ho⟩ : ∃ o, o = fid ns x.parent := ⟨_, rfl⟩
    rw [← ho] at c9
    have HO := Shut.mk ho
    clear ho
    by_cases h4 : k < 4
    · have h4' : (k : Int) < 4 := by omega
      cases o with
      | none =>
        simp only [Option.map_none, ptr_none] at c9
        go_wp2_with fail
        go_ret
        refine ⟨?_, rfl⟩
        have := hc.out
        rw [clm_none (by rw [HGE.out, ← HO.out]), HGE.out] at this
        rw [← this]
        rfl
      | some m =>
        simp only [Option.map_some, ptr_some] at c9
        go_wp2_with fail
        go_roundw
        case rel =>
          have h5 := hc.out
          have e : 4 - k = (4 - (k + 1)) + 1 := by omega
          rw [e, clm_some (k := m) (by rw [HGE.out, ← HO.out])] at h5
          exact ⟨k + 1, m, rfl, by go_num, by omega, (fid_lt HO.out.symm).1, ⟨h5⟩, trivial⟩
        case measure => simp [intOf]; omega
    · have h4' : ¬ (k : Int) < 4 := by omega
      go_wp2_with fail
      go_ret
      refine ⟨?_, rfl⟩
      have := hc.out
      obtain rfl : k = 4 := by omega
      have e4 : clm ns (4 - 4) j = ((ns.getD j default).id == 1) := rfl
      rw [e4, HGE.out] at this
      rw [← this]
      rfl
set_option maxHeartbeats 1000000 in
set_option maxRecDepth 100000 in
theorem isBelow_any {w : World} {ns : List NM} {G : Nat → Nat} (h : Nd w ns G) (ht : Tall ns) {i : Nat} (hi : i < ns.length) (top : Int) :
    Calls Try.prog 44 #[.pointer (some ⟨G i, 0, none⟩), .int .i64 top] w fun e w' => e = .returned (.bool (blw ns i top)) ∧ w' = w := by
  have HN := Shut.mk h
  have HA := Shut.mk ht.1
  obtain ⟨d0, hd0, hu0⟩ := ht.2 i hi
  have HU := Shut.mk hu0
  obtain ⟨R, hR⟩ : ∃ R, R = blw ns i top := ⟨_, rfl⟩
  rw [← hR]
  have HR := Shut.mk hR
  clear hR h ht hu0
  go_enter Try.func44, Try.ntmps44
  go_wp2_with fail
  go_loopg [0] (d0 + 1) (fun m p wr => (Shut (p = .pointer none ∧ R = false) ∨ Shut (∃ (j d r : Nat), p = .pointer (some ⟨G j, 0, none⟩) ∧ m = d + 1 ∧ j < ns.length ∧ Ups ns j d ∧ (top ≠ 0 → belowF ns (d + 2 + r) (ns.getD j default).id top = R) ∧ (top = 0 → R = false))) ∧ wr = w)
  case atStart =>
    refine ⟨.inr ⟨i, d0, 13 - d0, rfl, rfl, hi, HU.out, fun h0 => ?_, fun h0 => ?_⟩, rfl⟩
    · rw [HR.out]
      unfold blw
      rw [show d0 + 2 + (13 - d0) = 15 by omega]
      simp [h0]
    · rw [HR.out]
      unfold blw
      simp [h0]
  case round =>
    obtain ⟨hrel, rfl⟩ := hrel
    rcases hrel with ⟨rfl, rfl⟩ | ⟨j, d, r, rfl, rfl, hj, hu, h1, h2⟩
    · go_wp2_with fail
      go_ret
      exact ⟨rfl, rfl⟩
    · obtain ⟨c0, _, _, _, _, _, hl⟩ := HN.out.cells j hj
      have hf := HA.out.fid hj
      have c9 := HN.out.above j hj hf
      have hge := getD_in hj
      have hpos := HA.out.pos hj
      obtain ⟨x, hx⟩ : ∃ x, x = ns[j] := ⟨_, rfl⟩
      rw [← hx] at c0 c9 hge hpos hf
      rw [hge] at h1
      have HH := Shut.mk (And.intro h1 (And.intro h2 (And.intro hu (And.intro hge hf))))
      obtain ⟨o, ho⟩ : ∃ o, o = fid ns x.parent := ⟨_, rfl⟩
      rw [← ho] at c9
      have HO := Shut.mk ho
      clear ho h1 h2 hu hge hf hx
      by_cases ht : x.id = top
      · have HT := Shut.mk hpos
        clear hpos
        subst ht
        go_wp2_with fail
        go_ret
        refine ⟨?_, rfl⟩
        have h1 := HH.out.1 (by have := HT.out; omega)
        rw [show d + 2 + r = (d + 1 + r) + 1 by omega, belowF_same rfl] at h1
        rw [← h1]
        rfl
      · cases o with
        | none =>
          simp only [Option.map_none, ptr_none] at c9
          go_wp2_with fail
          go_roundg 0
          case measure => omega
          case rel =>
            obtain ⟨h1, h2, hu, hge, hf⟩ := HH.out
            refine ⟨.inl ⟨⟨rfl, ?_⟩⟩, rfl⟩
            by_cases h0 : top = 0
            · exact h2 h0
            · have h3 := h1 h0
              rw [show d + 2 + r = ((d + r) + 1) + 1 by omega, belowF_some ht hf, hge] at h3
              rw [← h3]
              cases hu with
              | root =>
                have e0 := HA.out.2.2.2
                rw [hge] at e0
                rw [e0]
                exact belowF_none (fun e => h0 e.symm) HA.out.zero
              | step _ _ hk _ =>
                rw [hge, ← HO.out] at hk
                cases hk
        | some k =>
          simp only [Option.map_some, ptr_some] at c9
          go_wp2_with fail
          go_roundg d
          case measure => omega
          case rel =>
            obtain ⟨h1, h2, hu, hge, hf⟩ := HH.out
            refine ⟨.inr ⟨?_⟩, rfl⟩
            cases hu with
            | root =>
              have e0 := HA.out.2.2.2
              have h4 := HO.out
              rw [hge] at e0
              rw [e0, HA.out.zero] at h4
              cases h4
            | @step _ k' d' _ _ hk hu' =>
              rw [hge, ← HO.out] at hk
              cases hk
              obtain ⟨hkl, ek⟩ := fid_lt HO.out.symm
              refine ⟨k, d', r, rfl, rfl, hkl, hu', fun h0 => ?_, h2⟩
              have h3 := h1 h0
              rw [show d' + 1 + 2 + r = (d' + 2 + r) + 1 by omega, belowF_some ht hf, hge, ← ek, ← getD_in hkl] at h3
              exact h3
end Go.Proofs.Ythfmjjaollekiaa
/- LkF: Does a node stand where it may? -/
namespace Go.Proofs.Ythfmjjaollekiaa
open Go.RowKit Go.Maps BigFrame
attribute [local go_sem ↓] Go.wp_at_zero Go.wp_at_succ

set_option maxHeartbeats 2000000 in
set_option maxRecDepth 100000 in
theorem placeOk_any {w : World} {B b1 b2 : Nat} {rs : List NR} {G : Nat → Nat} {C : Int → Nat} (h : Lk w B b1 b2 rs G C (Ab (nds rs) fun _ => false)) (ha : Asc (nds rs)) (hI : NInt (nds rs)) (hS : ∀ n ∈ nds rs, n.name.size ≤ 1048576) {i : Nat} (hi : i < rs.length) :
    Calls Try.prog 65 #[.agg #[.map (some b1), .map (some b2)], nv rs[i]] w fun e w' => e = .returned (.bool (placeB (nds rs) i)) ∧ Below w.heap.size w w' := by
  have hi' : i < (nds rs).length := by rw [nds_len]; exact hi
  have he : (nds rs).getD i default = rs[i].nd := by rw [getD_in hi']; simp [nds]
  have hmem : rs[i].nd ∈ nds rs := List.mem_map.2 ⟨_, List.getElem_mem hi, rfl⟩
  have f1 := (hI _ hmem).1
  have f2 := (hI _ hmem).2
  have f3 := hS _ hmem
  have hfi := ha.fid hi'
  rw [← getD_in hi', he] at hfi
  obtain ⟨r, hr⟩ : ∃ r, r = rs[i] := ⟨_, rfl⟩
  rw [← hr] at he f1 f2 f3 hfi ⊢
  obtain ⟨R, hR⟩ : ∃ R, R = placeB (nds rs) i := ⟨_, rfl⟩
  rw [← hR]
  have HR := Shut.mk hR
  have HE := Shut.mk he
  have HL := Shut.mk h
  have HA := Shut.mk ha
  have HF := Shut.mk hfi
  clear hR he h ha hI hS hmem hr hfi
  go_enter Try.func65, Try.ntmps65
  go_upto_region 1 with fail
  refine wp_shade (fun W => Below w.heap.size w W ∧ WCells W w.heap.size [.map (some b1), .map (some b2)] ∧ WCells W (w.heap.size + 1) (ncells r)) ?_ ?_
  · refine ⟨((Below.refl _ _).alloc (Nat.le_refl _) _).alloc (by simp) _, (wcells_new w #[.map (some b1), .map (some b2)] 75).alloc _, ?_⟩
    have := wcells_new (w.alloc (.cells #[.map (some b1), .map (some b2)] 75)) #[.int .i64 r.nd.id, .int .i64 r.nd.parent, .string r.nd.name, .bool r.nd.dir, .int .i64 r.nd.schema, .int .i64 r.nd.quota, .int .i64 r.nd.len, .slice r.loc r.nd.pieces.length r.cap, .int .i64 r.nd.writer] 30
    simpa [ncells] using this
  intro W hW
  obtain ⟨hb, hx, hn⟩ := hW
  have HB := Shut.mk hb
  have b0 := (hx.2 0 _ rfl).1
  have b1' := (hx.2 1 _ rfl).1
  have n0 := (hn.2 0 _ rfl).1
  have n1 := (hn.2 1 _ rfl).1
  have n2 := (hn.2 2 _ rfl).1
  have HX := Shut.mk hn
  have hL := HL.out.below hb
  have HLW := Shut.mk hL
  have hpar : Par (nds rs) r.nd.parent := ⟨_, List.getElem_mem hi', by rw [← getD_in hi', HE.out]⟩
  obtain ⟨k, hk⟩ : ∃ k, fnm (nds rs) r.nd.parent r.nd.name = some k := by
    cases hf : fnm (nds rs) r.nd.parent r.nd.name with
    | some k => exact ⟨k, rfl⟩
    | none => exact absurd (by rw [← getD_in hi', HE.out]) (fnm_none hf _ (List.getElem_mem hi') (by rw [← getD_in hi', HE.out]))
  obtain ⟨D1, o1, t1⟩ := hL.m1
  have k1 := look_ptr keyI Try.underlying72 zeroLp o1 (key_int f1) (t1 r.nd.id)
  rw [HF.out] at k1
  obtain ⟨D2, o2, t2⟩ := hL.m2
  have k2 := look_map keyI Try.underlying73 zeroLm o2 (key_int f2) ((t2 r.nd.parent).1 hpar)
  obtain ⟨d1, d2, d3, D3, o3, t3⟩ := hL.m3 r.nd.parent hpar
  have k3 := look_ptr keyS Try.underlying126 zeroLp o3 (key_str (by unfold maxLen; omega)) (t3 r.nd.name)
  rw [hk] at k3
  simp only [Option.map_some, ptr_some] at k1 k3
  have em : ∀ g, mapV (some g) = .map (some g) := fun _ => rfl
  rw [em] at k2
  have HK := Shut.mk hk
  have HP := Shut.mk hpar
  clear hb hx hn hL hpar hk o1 t1 o2 t2 o3 t3 em d1 d2 d3
  go_quiet (fail)
  go_upto_region 2 with fail
  refine wp_shade (fun W2 => Below W.heap.size W W2) (Below.mono (B := (W.drewN nq).heap.size) ⟨rfl, rfl, rfl, Nat.le_refl _, fun _ _ => rfl⟩ (Nat.le_refl _)) ?_
  intro V hV
  have HV := Shut.mk hV
  have hnd := (HLW.out.below hV).nd
  have HND := Shut.mk hnd
  have hn := HX.out.grow hV
  have hln := hn.1
  have hkl := (fnm_lt HK.out).1
  have ck0 := (hnd.cells k hkl).1
  have lk := (hnd.cells k hkl).2.2.2.2.2.2
  have ci9 := hnd.above i hi' (HA.out.fid hi')
  have li := (hnd.cells i hi').2.2.2.2.2.2
  have hei : (nds rs)[i] = r.nd := by rw [← getD_in hi', HE.out]
  rw [hei] at ci9
  have g0 : ∀ X : Grow V, X.val.cell? ⟨w.heap.size + 1, 0, none⟩ = some (.int .i64 r.nd.id) := fun X => X.cell (hn.2 0 _ rfl).1 hln
  have g2 : ∀ X : Grow V, X.val.cell? ⟨w.heap.size + 1, 2, none⟩ = some (.string r.nd.name) := fun X => X.cell (hn.2 2 _ rfl).1 hln
  have gk : ∀ X : Grow V, X.val.cell? ⟨G k, 0, none⟩ = some (.int .i64 (nds rs)[k].id) := fun X => X.cell ck0 lk
  have gi : ∀ X : Grow V, X.val.cell? ⟨G i, 9, none⟩ = some (ptrV ((fid (nds rs) r.nd.parent).map G)) := fun X => X.cell ci9 li
  have hnm := fun X => calls_grow (w := V) (fun W' (_ : Below V.heap.size V W') => implNameOk r.nd.name W' f3) X
  have hre := fun X => calls_same (w := V) (fun W' (hb' : Below V.heap.size V W') => reaches_any (HND.out.below hb') HA.out hi') X
  have hRR : R = (nameB r.nd.name && ((nds rs)[k].id == r.nd.id) && dirB (nds rs) r.nd.parent && clm (nds rs) 4 i) := by
    rw [HR.out]
    unfold placeB
    rw [firstB_some (k := k) (by rw [HE.out]; exact HK.out), HE.out, getD_in hkl]
  have HRR := Shut.mk hRR
  have HNM := Shut.mk hnm
  have HRE := Shut.mk hre
  obtain ⟨xid, hxid⟩ : ∃ x, x = (nds rs)[k].id := ⟨_, rfl⟩
  rw [← hxid] at gk HRR
  obtain ⟨o, ho⟩ : ∃ o, o = fid (nds rs) r.nd.parent := ⟨_, rfl⟩
  rw [← ho] at gi
  have HO := Shut.mk ho
  have HEND : Shut (∀ X : Grow V, Below w.heap.size w X.val) := ⟨fun X => HB.out.trans ((HV.out.trans (X.bel.mono HV.out.size)).mono HB.out.size)⟩
  have HDIR : Shut (∀ m, o = some m → ∀ X : Grow V, X.val.cell? ⟨G m, 3, none⟩ = some (.bool ((nds rs).getD m default).dir)) := ⟨fun m hm X => by
    rw [hm] at ho
    obtain ⟨hml, _⟩ := fid_lt ho.symm
    obtain ⟨_, _, _, cm3, _, _, lm⟩ := hnd.cells m hml
    rw [getD_in hml]
    exact X.cell cm3 lm⟩
  generalize clm (nds rs) 4 i = cl at HRR HRE
  clear hnm hre hRR hxid ho hnd hn hln ck0 ci9 hei hkl li lk k1 k2 k3 b0 b1' n0 n1 n2 hV
  cases hN : nameB r.nd.name with
  | false =>
    rw [hN] at HNM HRR
    refine wp_region_grow (by kernel_rfl) (by kernel_rfl) ?_
    repeat (go_big_quiet_step (first | (go_at_call 95; exact HNM.out _) | (go_at_call 96; exact HRE.out _)))
    refine wpQuiet_nil ?_
    rintro _ ⟨X, rfl⟩
    go_wp2_with fail
    go_ret
    refine ⟨?_, HEND.out X⟩
    rw [HRR.out]
    rfl
  | true =>
    rw [hN] at HNM HRR
    by_cases hx : xid = r.nd.id
    · cases o with
      | none =>
        simp only [Option.map_none, ptr_none] at gi
        have he2 : (xid == r.nd.id) = true := by simp [hx]
        rw [dirB_none HO.out.symm] at HRR
        refine wp_region_grow (by kernel_rfl) (by kernel_rfl) ?_
        repeat (go_big_quiet_step (first | (go_at_call 95; exact HNM.out _) | (go_at_call 96; exact HRE.out _)))
        refine wpQuiet_nil ?_
        rintro _ ⟨X, rfl⟩
        go_wp2_with fail
        go_ret
        refine ⟨?_, HEND.out X⟩
        rw [HRR.out]
        simp
      | some m =>
        simp only [Option.map_some, ptr_some] at gi
        have gd := HDIR.out m rfl
        rw [dirB_some HO.out.symm] at HRR
        have he2 : (xid == r.nd.id) = true := by simp [hx]
        cases hd : ((nds rs).getD m default).dir with
        | false =>
          rw [hd] at gd
          refine wp_region_grow (by kernel_rfl) (by kernel_rfl) ?_
          repeat (go_big_quiet_step (first | (go_at_call 95; exact HNM.out _) | (go_at_call 96; exact HRE.out _)))
          refine wpQuiet_nil ?_
          rintro _ ⟨X, rfl⟩
          go_wp2_with fail
          go_ret
          refine ⟨?_, HEND.out X⟩
          rw [HRR.out]
          rw [hd]
          simp
        | true =>
          rw [hd] at gd
          refine wp_region_grow (by kernel_rfl) (by kernel_rfl) ?_
          repeat (go_big_quiet_step (first | (go_at_call 95; exact HNM.out _) | (go_at_call 96; exact HRE.out _)))
          refine wpQuiet_nil ?_
          rintro _ ⟨X, rfl⟩
          go_wp2_with fail
          go_ret
          refine ⟨?_, HEND.out X⟩
          rw [HRR.out]
          rw [hd, he2]
          simp
    · have he2 : (xid == r.nd.id) = false := by simp [hx]
      refine wp_region_grow (by kernel_rfl) (by kernel_rfl) ?_
      repeat (go_big_quiet_step (first | (go_at_call 95; exact HNM.out _) | (go_at_call 96; exact HRE.out _)))
      refine wpQuiet_nil ?_
      rintro _ ⟨X, rfl⟩
      go_wp2_with fail
      go_ret
      refine ⟨?_, HEND.out X⟩
      rw [HRR.out]
      simp [hx]
end Go.Proofs.Ythfmjjaollekiaa
/- TreJ: The walk of the model's PathOf. -/
namespace Go.Proofs.Ythfmjjaollekiaa
open Go.RowKit
attribute [local go_sem ↓] Go.wp_at_zero Go.wp_at_succ

/-- Up to the first node, names in front of names. -/
def pathF (ns : List NM) : Nat → Int → List ByteArray → ByteArray
  | 0, _, _ => ⟨#[]⟩
  | f + 1, id, L => if id = 1 then joinB L else match ns.findIdx? (fun n => n.id == id) with
    | none => ⟨#[]⟩
    | some k => pathF ns f (ns.getD k default).parent ((ns.getD k default).name :: L)
theorem pathF_one {ns : List NM} {f : Nat} {c : Int} {L : List ByteArray} (h : c = 1) : pathF ns (f + 1) c L = joinB L := by
  conv => lhs; unfold pathF
  rw [if_pos h]
theorem pathF_none {ns : List NM} {f : Nat} {c : Int} {L : List ByteArray} (h0 : c ≠ 1) (h : ns.findIdx? (fun n => n.id == c) = none) : pathF ns (f + 1) c L = ⟨#[]⟩ := by
  conv => lhs; unfold pathF
  rw [if_neg h0, h]
theorem pathF_some {ns : List NM} {f i : Nat} {c : Int} {L : List ByteArray} (h0 : c ≠ 1) (h : ns.findIdx? (fun n => n.id == c) = some i) : pathF ns (f + 1) c L = pathF ns f (ns.getD i default).parent ((ns.getD i default).name :: L) := by
  conv => lhs; unfold pathF
  rw [if_neg h0, h]
def pathX (T : TM) (id : Int) : ByteArray := if treeOk T = true then pathF T.nodes 15 id [] else ⟨#[]⟩
theorem treeOk_first {T : TM} (h : treeOk T = true) : 0 < T.nodes.length ∧ (T.nodes.getD 0 default).id = 1 ∧ atI T.nodes 1 = 0 := by
  have h0 : 0 < T.nodes.length := by
    unfold treeOk at h
    simp only [Bool.and_eq_true, decide_eq_true_eq] at h
    omega
  have h1 := treeOk_node h h0
  unfold nodeOk at h1
  simp only [Bool.and_eq_true] at h1
  have h2 := h1.1.1.2
  rw [if_pos trivial] at h2
  unfold firstOk at h2
  simp only [Bool.and_eq_true] at h2
  have h3 : (T.nodes.getD 0 default).id = 1 := by simpa using h2.1.1.1.1
  refine ⟨h0, h3, ?_⟩
  exact atI_some (i := 0) h0 (by rw [← h3]; simp [List.getD, h0]) (fun j hj => by omega)
theorem treeOk_name {T : TM} (h : treeOk T = true) {i : Nat} (hi : i < T.nodes.length) (h1 : (T.nodes.getD i default).id ≠ 1) : nameB (T.nodes.getD i default).name = true := by
  have hn := treeOk_node h hi
  have h0 : i ≠ 0 := fun e => by rw [e] at h1; exact h1 (treeOk_first h).2.1
  unfold nodeOk at hn
  rw [decide_eq_false h0] at hn
  simp only [Bool.and_eq_true, Bool.false_or] at hn
  exact hn.2.1.1.1.1
theorem names_fit' {L : List ByteArray} (h : ∀ s ∈ L, nameB s = true) (h4 : L.length ≤ 15) : TFit L := by
  have hs : ∀ s ∈ L, s.size ≤ 8 := fun s hs => ((nameB_iff s).1 (h s hs)).2.2
  have : tsum L ≤ L.length * 8 := by
    clear h h4
    induction L with
    | nil => simp [tsum]
    | cons x L ih =>
      simp only [tsum, List.length_cons, Nat.add_mul, Nat.one_mul]
      have h1 := hs x (by simp)
      have h2 := ih (fun s h => hs s (by simp [h]))
      omega
  unfold TFit
  omega
theorem own_all9 {w : World} {g cap B n : Nat} {L : List ByteArray} (h : w.ownsRow B 9 1 (.slice (some ⟨g, 0, none⟩) n cap) n (tv L)) (hn : n = L.length) : SSee w (.slice (some ⟨g, 0, none⟩) n cap) L 0 w.heap.size := by
  have := own_part9 h (k := n) (by omega)
  rw [List.take_of_length_le (by omega)] at this
  exact this
theorem own_one9 (w : World) (v : Value) (e : TypeId) {base : Nat} (hb : base ≤ w.heap.size) : (w.alloc (.cells #[v] e)).ownsRow base e 1 (.slice (some ⟨w.heap.size, 0, none⟩) 1 1) 1 [v] := ⟨by simp, .inr ⟨w.heap.size, 1, #[v], rfl, hb, heap_alloc_new w _, Nat.le_refl _, by decide, rfl, by simp⟩⟩
/-- The names so far, and where they lie. -/
def NSo (w W : World) (a : Option Addr) (n cap : Nat) (nx : Int) (g c l : Nat) (L : List ByteArray) : Prop := BX w W a n cap nx ∧ W.ownsRow (w.heap.size + 1) 9 1 (.slice (some ⟨g, 0, none⟩) l c) l (tv L)
theorem NSo.below {w W W' : World} {a : Option Addr} {n cap g c l : Nat} {nx : Int} {L : List ByteArray} (h : NSo w W a n cap nx g c l L) (hb : Below W.heap.size W W') : NSo w W' a n cap nx g c l L := ⟨h.1.below hb, h.2.kept (row := none) ⟨hb.os, hb.tape, hb.output, hb.size, fun k hk _ => hb.block k hk⟩ (Classical.em _)⟩
attribute [local irreducible] nodeOk treeOk atI joinB nameB
end Go.Proofs.Ythfmjjaollekiaa
/- LkR: Right trees, plain: what the program asks of a tree is what the document asks. -/
namespace Go.Proofs.Ythfmjjaollekiaa

/-- Ids ascend, and lie below Next. -/
def idsB (T : TM) : Bool := decide (T.next ≤ 100000) && (List.range T.nodes.length).all fun i => decide ((T.nodes.getD i default).id < T.next) && (decide (i = 0) || decide ((T.nodes.getD (i - 1) default).id < (T.nodes.getD i default).id))
/-- The root. -/
def rootB (n : NM) : Bool := (n.id == 1) && (n.parent == 0) && decide (n.name = ⟨#[]⟩) && n.dir && inI n.schema 1 3
def kindB (n : NM) : Bool := if n.dir then dirOk n else fileOk n
theorem fnm_self {ns : List NM} {i : Nat} (hi : i < ns.length) : ∃ k, fnm ns ns[i].parent ns[i].name = some k ∧ k ≤ i := by
  cases hf : fnm ns ns[i].parent ns[i].name with
  | none => exact absurd rfl (fnm_none hf _ (List.getElem_mem hi) rfl)
  | some k =>
    refine ⟨k, rfl, Nat.le_of_not_lt fun hlt => ?_⟩
    exact fnm_first hf i hlt hi rfl rfl
theorem place_eq {ns : List NM} (h : Asc ns) {i : Nat} (hi : i < ns.length) (h0 : i ≠ 0) : placeB ns i = (nameB (ns.getD i default).name && decide (0 ≤ atI ns (ns.getD i default).parent) && (ns.getD (atI ns (ns.getD i default).parent).toNat default).dir &&
    (List.range i).all (fun j => ! (((ns.getD j default).parent == (ns.getD i default).parent) && decide ((ns.getD j default).name = (ns.getD i default).name))) && climbs ns 4 (ns.getD i default).id) := by
  unfold placeB
  rw [clm_climbs h hi h0]
  have e1 : firstB ns i = (List.range i).all (fun j => ! (((ns.getD j default).parent == (ns.getD i default).parent) && decide ((ns.getD j default).name = (ns.getD i default).name))) := by
    obtain ⟨k, hk, hki⟩ := fnm_self hi
    rw [firstB_some (k := k) (by rw [getD_in hi]; exact hk), getD_in hi]
    obtain ⟨hkl, kp, kn⟩ := fnm_lt hk
    rw [getD_in hkl]
    by_cases e : k = i
    · subst e
      simp only [beq_self_eq_true]
      refine (List.all_eq_true.2 fun j hj => ?_).symm
      have hj' : j < k := by simpa using hj
      have := fnm_first hk j hj' (by omega)
      rw [getD_in (by omega : j < ns.length)]
      by_cases hp : ns[j].parent = ns[k].parent
      · simp [hp, this hp]
      · simp [hp]
    · have hlt := h.lt i hi k (by omega)
      rw [getD_in hkl] at hlt
      have hne : (ns[k].id == ns[i].id) = false := by simp; omega
      rw [hne]
      symm
      refine Bool.eq_false_iff.2 fun hall => ?_
      have := List.all_eq_true.1 hall k (by simp; omega)
      rw [getD_in hkl] at this
      simp [kp, kn] at this
  have e2 : dirB ns (ns.getD i default).parent = (decide (0 ≤ atI ns (ns.getD i default).parent) && (ns.getD (atI ns (ns.getD i default).parent).toNat default).dir) := by
    rw [at_fid]
    cases hf : fid ns (ns.getD i default).parent with
    | none => rw [dirB_none hf]; simp
    | some k => rw [dirB_some hf]; simp
  rw [e1, e2]
  cases nameB (ns.getD i default).name <;> cases decide (0 ≤ atI ns (ns.getD i default).parent) <;> cases (ns.getD (atI ns (ns.getD i default).parent).toNat default).dir <;> cases climbs ns 4 (ns.getD i default).id <;> simp
theorem ids_asc {T : TM} (h : idsB T = true) (hr : rootB (T.nodes.getD 0 default) = true) (hl : 0 < T.nodes.length) : Asc T.nodes := by
  unfold idsB at h
  simp only [Bool.and_eq_true, decide_eq_true_eq, List.all_eq_true, List.mem_range, Bool.or_eq_true] at h
  unfold rootB at hr
  simp only [Bool.and_eq_true, beq_iff_eq, decide_eq_true_eq] at hr
  refine ⟨fun i hi h0 => ?_, hl, hr.1.1.1.1, hr.1.1.1.2⟩
  rcases (h.2 i hi).2 with e | e
  · omega
  · rw [getD_in hi] at e; exact e
/-- What the program asks. -/
def progB (T : TM) : Bool := inI (T.nodes.length : Int) 1 14 && idsB T && rootB (T.nodes.getD 0 default) && (List.range T.nodes.length).all fun i => kindB (T.nodes.getD i default) && (decide (i = 0) || placeB T.nodes i)
theorem prog_tree (T : TM) : progB T = treeOk T := by
  rw [Bool.eq_iff_iff]
  constructor
  · intro h
    unfold progB at h
    simp only [Bool.and_eq_true, List.all_eq_true, List.mem_range, Bool.or_eq_true, decide_eq_true_eq] at h
    obtain ⟨⟨⟨h1, h2⟩, h3⟩, h4⟩ := h
    have hl := inI_iff.1 h1
    have ha := ids_asc h2 h3 (by omega)
    have h2' := h2
    unfold idsB at h2'
    simp only [Bool.and_eq_true, decide_eq_true_eq, List.all_eq_true, List.mem_range, Bool.or_eq_true] at h2'
    refine treeOk_yes h1 h2'.1 fun i hi => ?_
    obtain ⟨k1, k2⟩ := h4 i hi
    unfold nodeOk
    rw [decide_eq_true (h2'.2 i hi).1]
    by_cases e : i = 0
    · subst e
      have h3' := h3
      unfold rootB at h3'
      simp only [Bool.and_eq_true, beq_iff_eq, decide_eq_true_eq] at h3'
      have hs := inI_iff.1 h3'.2
      unfold kindB at k1
      rw [if_pos h3'.1.2] at k1
      unfold firstOk
      rw [if_pos rfl, if_pos h3'.1.2, k1, h3'.1.1.1.1, h3'.1.1.1.2, h3'.1.1.2, h3'.1.2]
      have : ((T.nodes.getD 0 default).schema != 0) = true := by rw [bne_iff_ne]; omega
      rw [this]
      rfl
    · rw [if_neg e]
      have h5 := (h2'.2 i hi).2.resolve_left e
      rw [decide_eq_true h5]
      unfold kindB at k1
      rw [k1, ← place_eq ha hi e]
      simp [k2.resolve_left e]
  · intro h
    have h14 := treeOk_14 h
    obtain ⟨hl, he, _⟩ := treeOk_first h
    have hn : ∀ i, i < T.nodes.length → nodeOk T i = true := fun i hi => treeOk_node h hi
    have hnx : T.next ≤ 100000 := by
      unfold treeOk at h
      simp only [Bool.and_eq_true, decide_eq_true_eq] at h
      exact h.1.2
    have h0 := hn 0 hl
    unfold nodeOk at h0
    rw [if_pos rfl] at h0
    simp only [Bool.and_eq_true, decide_eq_true_eq] at h0
    obtain ⟨⟨⟨_, hf⟩, hk0⟩, _⟩ := h0
    unfold firstOk at hf
    simp only [Bool.and_eq_true, beq_iff_eq, decide_eq_true_eq, bne_iff_ne] at hf
    have hr : rootB (T.nodes.getD 0 default) = true := by
      unfold rootB
      rw [hf.1.1.1.1, hf.1.1.1.2, hf.1.1.2, hf.1.2]
      rw [if_pos hf.1.2] at hk0
      unfold dirOk at hk0
      simp only [Bool.and_eq_true] at hk0
      have := inI_iff.1 hk0.1.1.1.1
      have : inI (T.nodes.getD 0 default).schema 1 3 = true := inI_iff.2 ⟨by omega, by omega⟩
      rw [this]
      rfl
    have hids : idsB T = true := by
      unfold idsB
      rw [decide_eq_true hnx]
      simp only [Bool.true_and]
      refine List.all_eq_true.2 fun i hi => ?_
      have hi' : i < T.nodes.length := by simpa using hi
      have h1 := hn i hi'
      unfold nodeOk at h1
      simp only [Bool.and_eq_true] at h1
      rw [h1.1.1.1]
      by_cases e : i = 0
      · simp [e]
      · have h2 := h1.1.1.2
        rw [if_neg e] at h2
        rw [h2]
        simp
    have ha := ids_asc hids hr hl
    unfold progB
    rw [hids, hr, inI_iff.2 ⟨by omega, by omega⟩]
    simp only [Bool.true_and]
    refine List.all_eq_true.2 fun i hi => ?_
    have hi' : i < T.nodes.length := by simpa using hi
    have h1 := hn i hi'
    unfold nodeOk at h1
    simp only [Bool.and_eq_true, Bool.or_eq_true] at h1
    unfold kindB
    rw [h1.1.2]
    by_cases e : i = 0
    · simp [e]
    · have h2 := h1.2.resolve_left (by simp [e])
      rw [place_eq ha hi' e]
      simp only [Bool.true_and, Bool.or_eq_true]
      right
      simp only [Bool.and_eq_true]
      exact h2
theorem tree_tall {T : TM} (h : treeOk T = true) : Tall T.nodes := by
  rw [← prog_tree] at h
  unfold progB at h
  simp only [Bool.and_eq_true, List.all_eq_true, List.mem_range, Bool.or_eq_true, decide_eq_true_eq] at h
  obtain ⟨⟨⟨h1, h2⟩, h3⟩, h4⟩ := h
  have hl := inI_iff.1 h1
  have ha := ids_asc h2 h3 (by omega)
  refine ⟨ha, fun i hi => ?_⟩
  by_cases e : i = 0
  · subst e; exact ⟨0, by omega, .root⟩
  · have := (h4 i hi).2.resolve_left e
    unfold placeB at this
    simp only [Bool.and_eq_true] at this
    exact clm_ups ha 4 i hi this.2
end Go.Proofs.Ythfmjjaollekiaa
/- LkG: The program's own tests of a node: schemas, the root, directories, files. -/
namespace Go.Proofs.Ythfmjjaollekiaa
open Go.RowKit Go.Maps BigFrame
attribute [local go_sem ↓] Go.wp_at_zero Go.wp_at_succ

set_option maxRecDepth 100000 in
set_option maxHeartbeats 1000000 in
theorem implRootOk (id parent : Int) (name : ByteArray) (dir : Bool) (schema quota len writer : Int) (loc : Option Addr) (n cap : Nat) (w : World) : Calls Try.prog 63 #[.agg #[.int .i64 id, .int .i64 parent, .string name, .bool dir, .int .i64 schema, .int .i64 quota, .int .i64 len, .slice loc n cap, .int .i64 writer]] w fun e w' => e = .returned (.bool ((id == 1) && (parent == 0) && (name.toList == []) && dir && inI schema 1 3)) ∧ Below w.heap.size w w' := by
  obtain ⟨R, hR⟩ : ∃ R, R = ((id == 1) && (parent == 0) && (name.toList == []) && dir && inI schema 1 3) := ⟨_, rfl⟩
  have HR := Shut.mk hR
  rw [← hR]
  clear hR
  go_enter Try.func63, Try.ntmps63
  go_wp2_with (go_at_call 92; refine (implSchemaOk _ _).mono ?_; rintro e w1 ⟨rfl, rfl⟩)
  all_goals
    go_ret
    exact ⟨by rw [HR.out]; simp [*], (Below.refl _ _).alloc (Nat.le_refl _) _⟩
set_option maxRecDepth 100000 in
set_option maxHeartbeats 1000000 in
theorem implDirOk (id parent : Int) (name : ByteArray) (dir : Bool) (schema quota len writer : Int) (loc : Option Addr) (n cap : Nat) (w : World) : Calls Try.prog 93 #[.agg #[.int .i64 id, .int .i64 parent, .string name, .bool dir, .int .i64 schema, .int .i64 quota, .int .i64 len, .slice loc n cap, .int .i64 writer]] w fun e w' => e = .returned (.bool (((schema == 0) || inI schema 1 3) && decide (0 ≤ quota) && decide (quota ≤ 1000) && (len == 0) && ((n : Int) == 0) && (writer == 0))) ∧ Below w.heap.size w w' := by
  obtain ⟨R, hR⟩ : ∃ R, R = (((schema == 0) || inI schema 1 3) && decide (0 ≤ quota) && decide (quota ≤ 1000) && (len == 0) && ((n : Int) == 0) && (writer == 0)) := ⟨_, rfl⟩
  have HR := Shut.mk hR
  rw [← hR]
  clear hR
  go_enter Try.func93, Try.ntmps93
  go_wp2_with (go_at_call 92; refine (implSchemaOk _ _).mono ?_; rintro e w1 ⟨rfl, rfl⟩)
  all_goals
    go_ret
    exact ⟨by rw [HR.out]; first | (simp [*]; done) | (simp [*]; omega), (Below.refl _ _).alloc (Nat.le_refl _) _⟩
/-- What the program asks of a file. -/
def fileQ (schema quota len writer : Int) (ps : List PM) : Bool := inI schema 1 3 && (quota == 0) && inI writer 0 9 && decide (ps.length ≤ 40) && ps.all (pieceOk schema) && (sumP ps == len) && decide (sumP ps ≤ 1000)
theorem fileQ_piece {schema quota len writer : Int} {ps : List PM} {k : Nat} (hk : k < ps.length) (h : pieceOk schema ps[k] = false) : fileQ schema quota len writer ps = false := by
  unfold fileQ
  have : ps.all (pieceOk schema) = false := Bool.eq_false_iff.2 fun hc => by rw [List.all_eq_true.1 hc _ (List.getElem_mem hk)] at h; cases h
  rw [this]
  simp
set_option maxRecDepth 100000 in
set_option maxHeartbeats 2000000 in
theorem implFileOk (id parent : Int) (name : ByteArray) (dir : Bool) (schema quota len writer : Int) (loc : Option Addr) (ps : List PM) (cap : Nat) (w : World) {lo hi : Nat} (hp : RRow w loc (pcs ps) lo hi) (hl : ps.length ≤ 1048576) :
    Calls Try.prog 94 #[.agg #[.int .i64 id, .int .i64 parent, .string name, .bool dir, .int .i64 schema, .int .i64 quota, .int .i64 len, .slice loc ps.length cap, .int .i64 writer]] w fun e w' => e = .returned (.bool (fileQ schema quota len writer ps)) ∧ Below w.heap.size w w' := by
  obtain ⟨R, hR⟩ : ∃ R, R = fileQ schema quota len writer ps := ⟨_, rfl⟩
  have HR := Shut.mk hR
  rw [← hR]
  obtain ⟨n, hn⟩ : ∃ n, n = ps.length := ⟨_, rfl⟩
  rw [← hn] at hl ⊢
  have HN := Shut.mk hn
  have HP := Shut.mk hp
  clear hR hn hp
  by_cases hh : inI schema 1 3 = true ∧ quota = 0 ∧ 0 ≤ writer ∧ writer ≤ 9 ∧ n ≤ 40
  · obtain ⟨h1, rfl, h3, h4, h5⟩ := hh
    have h5' : ¬ (40 : Int) < (n : Int) := by omega
    go_enter Try.func94, Try.ntmps94
    go_upto_region 3 with (go_at_call 92; refine (implSchemaOk _ _).mono ?_; rintro e w1 ⟨rfl, rfl⟩)
    refine wp_shade (fun W => Below w.heap.size w W ∧ WCells W w.heap.size [.int .i64 id, .int .i64 parent, .string name, .bool dir, .int .i64 schema, .int .i64 0, .int .i64 len, .slice loc n cap, .int .i64 writer]) ⟨(Below.refl _ _).alloc (Nat.le_refl _) _, wcells_new w #[.int .i64 id, .int .i64 parent, .string name, .bool dir, .int .i64 schema, .int .i64 0, .int .i64 len, .slice loc n cap, .int .i64 writer] 30⟩ ?_
    intro W hW
    have HW := Shut.mk hW
    have c7 := (hW.2.2 7 _ rfl).1
    clear hW
    go_wp2_with fail
    go_loopw [3, 34] (fun sm i wr => ∃ (k : Nat), sm = .int .i64 (sumP (ps.take k)) ∧ i = .int .i64 k ∧ k ≤ n ∧ Shut (∀ j (hj : j < ps.length), j < k → pieceOk schema ps[j] = true) ∧ Shut (Below w.heap.size w wr ∧ WCells wr w.heap.size [.int .i64 id, .int .i64 parent, .string name, .bool dir, .int .i64 schema, .int .i64 0, .int .i64 len, .slice loc n cap, .int .i64 writer])) (fun _ i _ => n - (intOf i).toNat)
    case atStart => exact ⟨0, rfl, rfl, Nat.zero_le _, ⟨fun _ _ h => absurd h (Nat.not_lt_zero _)⟩, HW⟩
    case round =>
      clear HW c7
      obtain ⟨k, rfl, rfl, hk, hall, hW⟩ := hrel
      have hsum : 0 ≤ sumP (ps.take k) ∧ sumP (ps.take k) ≤ 32 * 40 := by
        have := sumP_ok (s := schema) (ps := ps.take k) (fun p hp => by
          obtain ⟨j, hj, rfl⟩ := List.mem_iff_getElem.1 hp
          simp only [List.getElem_take]
          simp only [List.length_take] at hj
          exact hall.out j (by omega) (by omega))
        have hlt : (ps.take k).length ≤ 40 := by simp; omega
        omega
      have c4 := (hW.out.2.2 4 _ rfl).1
      have c6 := (hW.out.2.2 6 _ rfl).1
      have lw := hW.out.2.1
      by_cases hlt : k < n
      · have hkp : k < ps.length := by rw [← HN.out]; exact hlt
        obtain ⟨b, off, rfl, lb, hc⟩ := pcs_at HP.out (by omega)
        obtain ⟨p0, p1⟩ := hc k hkp
        rw [← hW.out.1.cell (p := ⟨b, off + k * 2, none⟩) lb] at p0
        rw [← hW.out.1.cell (p := ⟨b, off + k * 2 + 1, none⟩) lb] at p1
        have hst := sumP_take ps k hkp
        obtain ⟨q, hq⟩ : ∃ q, q = ps[k] := ⟨_, rfl⟩
        rw [← hq] at p0 p1 hst
        have HQ := Shut.mk hq
        have HST := Shut.mk hst
        have lb' : b < wr.heap.size := Nat.lt_of_lt_of_le lb hW.out.1.size
        have k0 : (0 : Int) ≤ (k : Int) := by omega
        have k1 : (k : Int) < (n : Int) := by omega
        have HSZ := Shut.mk (fun W => implSize schema W)
        have hgb := groupN_bounds schema
        obtain ⟨sm, hsm⟩ : ∃ sm, sm = sumP (ps.take k) := ⟨_, rfl⟩
        rw [← hsm] at hsum HST ⊢
        have HSM := Shut.mk hsm
        have hpk : pieceOk schema q = (decide (1 ≤ q.group) && decide (q.group ≤ 100000) && (decide (1 ≤ q.len) && decide (q.len ≤ (groupN schema : Nat)))) := rfl
        have HPK := Shut.mk hpk
        obtain ⟨gn, hgn⟩ : ∃ gn, gn = groupN schema := ⟨_, rfl⟩
        rw [← hgn] at HSZ HPK hgb
        obtain ⟨gr, ln⟩ := q
        have HBW : Shut (∀ W, Below wr.heap.size wr W → Below w.heap.size w W) := ⟨fun W hb => hW.out.1.trans (hb.mono hW.out.1.size)⟩
        clear hc hq hst hsm hpk hgn
        have HNO : Shut (pieceOk schema ⟨gr, ln⟩ = false → Ending.returned (.bool false) = .returned (.bool R)) := ⟨fun h => by rw [HR.out, fileQ_piece hkp (by rw [← HQ.out]; exact h)]⟩
        dsimp only at p0 p1 HST HPK
        have HQQ := HQ
        go_upto_region 7 with fail
        by_cases a1 : gr < 1
        · go_quiet (first | (go_at_call 112; exact Calls.quiet_of_same (HSZ.out _)))
          go_wp2_with fail
          go_ret
          exact ⟨HNO.out (by rw [HPK.out]; simp; omega), HBW.out _ (((Below.refl _ _).alloc (Nat.le_refl _) _).trans (Below.mono (B := wr.heap.size) ⟨rfl, rfl, rfl, Nat.le_refl _, fun _ _ => rfl⟩ (Nat.le_refl _)))⟩
        · by_cases a2 : 100000 < gr
          · go_quiet (first | (go_at_call 112; exact Calls.quiet_of_same (HSZ.out _)))
            go_wp2_with fail
            go_ret
            exact ⟨HNO.out (by rw [HPK.out]; simp; omega), HBW.out _ (((Below.refl _ _).alloc (Nat.le_refl _) _).trans (Below.mono (B := wr.heap.size) ⟨rfl, rfl, rfl, Nat.le_refl _, fun _ _ => rfl⟩ (Nat.le_refl _)))⟩
          · by_cases a3 : ln < 1
            · go_quiet (first | (go_at_call 112; exact Calls.quiet_of_same (HSZ.out _)))
              go_wp2_with fail
              go_ret
              exact ⟨HNO.out (by rw [HPK.out]; simp; omega), HBW.out _ (((Below.refl _ _).alloc (Nat.le_refl _) _).trans (Below.mono (B := wr.heap.size) ⟨rfl, rfl, rfl, Nat.le_refl _, fun _ _ => rfl⟩ (Nat.le_refl _)))⟩
            · by_cases a4 : (gn : Int) < ln
              · go_quiet (first | (go_at_call 112; exact Calls.quiet_of_same (HSZ.out _)))
                go_wp2_with fail
                go_ret
                exact ⟨HNO.out (by rw [HPK.out]; simp; omega), HBW.out _ (((Below.refl _ _).alloc (Nat.le_refl _) _).trans (Below.mono (B := wr.heap.size) ⟨rfl, rfl, rfl, Nat.le_refl _, fun _ _ => rfl⟩ (Nat.le_refl _)))⟩
              · go_quiet (first | (go_at_call 112; exact Calls.quiet_of_same (HSZ.out _)))
                go_wp2_with fail
                go_roundw
                case rel =>
                  have hpo : pieceOk schema ⟨gr, ln⟩ = true := by rw [HPK.out]; simp; omega
                  have hbn : Below wr.heap.size wr ((wr.alloc (.cells #[.int .i64 gr, .int .i64 ln] 59)).drewN nq) := ((Below.refl _ _).alloc (Nat.le_refl _) _).trans (Below.mono (B := wr.heap.size) ⟨rfl, rfl, rfl, Nat.le_refl _, fun _ _ => rfl⟩ (Nat.le_refl _))
                  refine ⟨k + 1, ?_, by go_num, by omega, ⟨fun j hj hjk => ?_⟩, ⟨HBW.out _ hbn, hW.out.2.grow hbn⟩⟩
                  · rw [HST.out]
                  · rcases Nat.lt_succ_iff_lt_or_eq.1 hjk with h | h
                    · exact hall.out j hj h
                    · subst h
                      rw [← HQ.out]
                      exact hpo
                case measure => simp [intOf]; omega
      · have hlt' : ¬ (k : Int) < (n : Int) := by omega
        obtain rfl : k = n := by omega
        have hts : sumP (ps.take k) = sumP ps := by rw [HN.out, List.take_length]
        have hallp : ps.all (pieceOk schema) = true := List.all_eq_true.2 fun p hp => by
          obtain ⟨j, hj, rfl⟩ := List.mem_iff_getElem.1 hp
          exact hall.out j hj (by rw [HN.out]; exact hj)
        have hRR : R = ((sumP ps == len) && decide (sumP ps ≤ 1000)) := by
          rw [HR.out]
          unfold fileQ
          rw [hallp, h1, show inI writer 0 9 = true from inI_iff.2 ⟨h3, h4⟩, decide_eq_true (by rw [← HN.out]; exact h5)]
          simp
        have HRR := Shut.mk hRR
        rw [hts] at hsum ⊢
        generalize sumP ps = sm at *
        clear hallp hRR hts
        go_wp2_with fail
        all_goals
          go_ret
          refine ⟨?_, hW.out.1⟩
          rw [HRR.out]
          first | (simp [*]; done) | (simp [*]; intros; omega)
  · have HH := Shut.mk hh
    have hRF : R = false := by
      rw [HR.out]
      refine Bool.eq_false_iff.2 fun hc => hh ?_
      unfold fileQ at hc
      simp only [Bool.and_eq_true, beq_iff_eq, decide_eq_true_eq] at hc
      obtain ⟨⟨⟨⟨⟨⟨a1, a2⟩, a3⟩, a4⟩, _⟩, _⟩, _⟩ := hc
      exact ⟨a1, a2, (inI_iff.1 a3).1, (inI_iff.1 a3).2, by rw [HN.out]; exact a4⟩
    rw [hRF]
    clear hh hRF
    go_enter Try.func94, Try.ntmps94
    go_upto_region 3 with (go_at_call 92; refine (implSchemaOk _ _).mono ?_; rintro e w1 ⟨rfl, rfl⟩)
    all_goals first
      | (go_ret; exact ⟨rfl, (Below.refl _ _).alloc (Nat.le_refl _) _⟩)
      | exact absurd ⟨by assumption, by omega, by omega, by omega, by omega⟩ HH.out
end Go.Proofs.Ythfmjjaollekiaa
/- LkH: The program's own tests of a node, and of the Ids of a tree. -/
namespace Go.Proofs.Ythfmjjaollekiaa
open Go.RowKit Go.Maps BigFrame
attribute [local go_sem ↓] Go.wp_at_zero Go.wp_at_succ

theorem dirQ_is (n : NM) : (((n.schema == 0) || inI n.schema 1 3) && decide (0 ≤ n.quota) && decide (n.quota ≤ 1000) && (n.len == 0) && ((n.pieces.length : Int) == 0) && (n.writer == 0)) = dirOk n := by
  unfold dirOk
  have e1 : ((n.schema == 0) || inI n.schema 1 3) = inI n.schema 0 3 := by
    unfold inI
    rw [Bool.eq_iff_iff]
    simp
    omega
  have e2 : inI n.quota 0 1000 = (decide (0 ≤ n.quota) && decide (n.quota ≤ 1000)) := rfl
  have e3 : ((n.pieces.length : Int) == 0) = decide (n.pieces.length = 0) := by
    rw [Bool.eq_iff_iff]
    simp
  rw [e1, e2, e3]
  cases inI n.schema 0 3 <;> cases decide (0 ≤ n.quota) <;> cases decide (n.quota ≤ 1000) <;> rfl
theorem fileQ_is (n : NM) : fileQ n.schema n.quota n.len n.writer n.pieces = fileOk n := by
  unfold fileQ fileOk
  cases inI n.schema 1 3 <;> cases (n.quota == 0) <;> cases inI n.writer 0 9 <;> cases decide (n.pieces.length ≤ 40) <;> rfl
theorem rootQ_is (n : NM) : ((n.id == 1) && (n.parent == 0) && (n.name.toList == []) && n.dir && inI n.schema 1 3) = rootB n := by
  unfold rootB
  have : (n.name.toList == []) = decide (n.name = ⟨#[]⟩) := by
    rw [Bool.eq_iff_iff]
    simp only [beq_iff_eq, decide_eq_true_eq]
    constructor
    · intro h
      rw [Go.ByteArray.toList_eq] at h
      exact ByteArray.ext (Array.toList_inj.1 h)
    · intro h
      rw [h, Go.ByteArray.toList_eq]
  rw [this]
set_option maxRecDepth 100000 in
set_option maxHeartbeats 1000000 in
theorem implNodeOk_any (id parent : Int) (name : ByteArray) (dir : Bool) (schema quota len writer : Int) (loc : Option Addr) (ps : List PM) (cap : Nat) (w : World) {lo hi : Nat} (hp : RRow w loc (pcs ps) lo hi) (hl : ps.length ≤ 1048576) :
    Calls Try.prog 64 #[.agg #[.int .i64 id, .int .i64 parent, .string name, .bool dir, .int .i64 schema, .int .i64 quota, .int .i64 len, .slice loc ps.length cap, .int .i64 writer]] w fun e w' => e = .returned (.bool (if dir then dirOk ⟨id, parent, name, dir, schema, quota, len, ps, writer⟩ else fileOk ⟨id, parent, name, dir, schema, quota, len, ps, writer⟩)) ∧ Below w.heap.size w w' := by
  have h1 := fun W => implDirOk id parent name dir schema quota len writer loc ps.length cap W
  have h2 := fun W (hb : Below w.heap.size w W) => implFileOk id parent name dir schema quota len writer loc ps cap W (hp.below hb) hl
  rw [← dirQ_is, ← fileQ_is]
  dsimp only
  generalize fileQ schema quota len writer ps = f at *
  obtain ⟨n, hn⟩ : ∃ n, n = ps.length := ⟨_, rfl⟩
  rw [← hn] at h1 h2 ⊢
  generalize ((schema == 0 || inI schema 1 3) && decide (0 ≤ quota) && decide (quota ≤ 1000) && len == 0 && (n : Int) == 0 && writer == 0) = d at *
  have H1 := Shut.mk h1
  have H2 := Shut.mk h2
  clear h1 h2 hn hp hl
  cases dir with
  | true =>
    go_enter Try.func64, Try.ntmps64
    go_wp2_with fail
    refine (H1.out _).mono ?_
    rintro e w1 ⟨rfl, hb⟩
    go_wp2_with fail
    go_ret
    exact ⟨rfl, ((Below.refl _ _).alloc (Nat.le_refl _) _).trans (hb.mono (by simp))⟩
  | false =>
    go_enter Try.func64, Try.ntmps64
    go_wp2_with fail
    refine (H2.out _ ((Below.refl _ _).alloc (Nat.le_refl _) _)).mono ?_
    rintro e w1 ⟨rfl, hb⟩
    go_wp2_with fail
    go_ret
    exact ⟨rfl, ((Below.refl _ _).alloc (Nat.le_refl _) _).trans (hb.mono (by simp))⟩
theorem implNodeOk (r : NR) (w : World) {lo hi : Nat} (hp : RRow w r.loc (pcs r.nd.pieces) lo hi) (hl : r.nd.pieces.length ≤ 1048576) : Calls Try.prog 64 #[nv r] w fun e w' => e = .returned (.bool (kindB r.nd)) ∧ Below w.heap.size w w' :=
  implNodeOk_any r.nd.id r.nd.parent r.nd.name r.nd.dir r.nd.schema r.nd.quota r.nd.len r.nd.writer r.loc r.nd.pieces r.cap w hp hl
/-- Up to here Ids are as they should be. -/
def IdsTo (T : TM) (k : Nat) : Prop := ∀ j, j < k → (T.nodes.getD j default).id < T.next ∧ (j = 0 ∨ (T.nodes.getD (j - 1) default).id < (T.nodes.getD j default).id)
theorem ids_yes {T : TM} (h : T.next ≤ 100000) (hk : IdsTo T T.nodes.length) : idsB T = true := by
  unfold idsB
  rw [decide_eq_true h]
  simp only [Bool.true_and]
  refine List.all_eq_true.2 fun i hi => ?_
  obtain ⟨h1, h2⟩ := hk i (by simpa using hi)
  rw [decide_eq_true h1]
  rcases h2 with e | e
  · simp [e]
  · rw [decide_eq_true e]; simp
theorem ids_no {T : TM} {k : Nat} (hk : k < T.nodes.length) (h : ¬ ((T.nodes.getD k default).id < T.next ∧ (k = 0 ∨ (T.nodes.getD (k - 1) default).id < (T.nodes.getD k default).id))) : idsB T = false := by
  refine Bool.eq_false_iff.2 fun hc => h ?_
  unfold idsB at hc
  simp only [Bool.and_eq_true, List.all_eq_true, List.mem_range, Bool.or_eq_true, decide_eq_true_eq] at hc
  exact hc.2 k hk
theorem ids_next {T : TM} (h : ¬ T.next ≤ 100000) : idsB T = false := by
  unfold idsB
  rw [decide_eq_false h]
  simp
set_option maxRecDepth 100000 in
set_option maxHeartbeats 2000000 in
theorem implIdsOk {w : World} {v : Value} {T : TM} {lo hi : Nat} (h : TSee w v T lo hi) (hf : NFit T) : Calls Try.prog 62 #[v] w fun e w' => e = .returned (.bool (idsB T)) ∧ Below w.heap.size w w' := by
  obtain ⟨a, cap, rs, rfl, hr, hm⟩ := h
  have hl : rs.length ≤ 1048576 := by unfold NFit at hf; rw [← hr, nds_len] at hf; omega
  obtain ⟨R, hR⟩ : ∃ R, R = idsB T := ⟨_, rfl⟩
  rw [← hR]
  have HR := Shut.mk hR
  have hlen : rs.length = T.nodes.length := by rw [← hr, nds_len]
  have hget : ∀ j (hj : j < rs.length), T.nodes.getD j default = rs[j].nd := fun j hj => by
    rw [← hr, getD_in (by rw [nds_len]; exact hj)]
    simp [nds]
  have HG := Shut.mk hget
  obtain ⟨n, hn⟩ : ∃ n, n = rs.length := ⟨_, rfl⟩
  rw [← hn] at hl hlen ⊢
  have HL := Shut.mk hlen
  have HN := Shut.mk hn
  have HM := Shut.mk hm
  obtain ⟨nx, hnx⟩ : ∃ nx, nx = T.next := ⟨_, rfl⟩
  rw [← hnx]
  have HX := Shut.mk hnx
  clear hR hr hm hf hlen hget hn hnx
  by_cases h1 : nx ≤ 100000
  · go_enter Try.func62, Try.ntmps62
    go_upto_region 3 with fail
    refine wp_shade (fun W => BX w W a n cap nx) (BX.new w a n cap nx 26) ?_
    intro W hg
    have HW := Shut.mk hg
    have x0 := (hg.box.2 0 _ rfl).1
    clear hg
    go_wp2_with fail
    go_loopw [11] (fun i wr => ∃ (k : Nat), i = .int .i64 k ∧ k ≤ n ∧ Shut (IdsTo T k) ∧ Shut (BX w wr a n cap nx)) (fun i _ => n - (intOf i).toNat)
    case atStart => exact ⟨0, rfl, Nat.zero_le _, ⟨fun _ h => absurd h (Nat.not_lt_zero _)⟩, HW⟩
    case round =>
      clear HW x0
      obtain ⟨k, rfl, hk, hto, hW⟩ := hrel
      have x0 := (hW.out.box.2 0 _ rfl).1
      have x1 := (hW.out.box.2 1 _ rfl).1
      have lw := hW.out.box.1
      by_cases hlt : k < n
      · have hkr : k < rs.length := by rw [← HN.out]; exact hlt
        obtain ⟨b, off, rfl, lb, hc⟩ := TR.nat HM.out (by omega)
        have hnk := (hc k hkr).below hW.out.bel lb
        have hge := HG.out k hkr
        obtain ⟨r, hr⟩ : ∃ r, r = rs[k] := ⟨_, rfl⟩
        rw [← hr] at hnk hge
        have HGE := Shut.mk hge
        obtain ⟨c0, c1, c2, c3, c4, c5, c6, c7, c8⟩ := hnk
        have lb' : b < wr.heap.size := Nat.lt_of_lt_of_le lb hW.out.bel.size
        have k0 : (0 : Int) ≤ (k : Int) := by omega
        have k1 : (k : Int) < (n : Int) := by omega
        have HBN : Shut (∀ q, BX w ((wr.alloc (.cells #[.int .i64 r.nd.id, .int .i64 r.nd.parent, .string r.nd.name, .bool r.nd.dir, .int .i64 r.nd.schema, .int .i64 r.nd.quota, .int .i64 r.nd.len, .slice r.loc r.nd.pieces.length r.cap, .int .i64 r.nd.writer] 30)).drewN q) (some ⟨b, off, none⟩) n cap nx) := ⟨fun q => hW.out.below (((Below.refl _ _).alloc (Nat.le_refl _) _).trans (Below.mono (B := wr.heap.size) ⟨rfl, rfl, rfl, Nat.le_refl _, fun _ _ => rfl⟩ (Nat.le_refl _)))⟩
        have hpr : ∀ (hkp : 0 < k), wr.cell? ⟨b, off + (k - 1) * 9, none⟩ = some (.int .i64 (T.nodes.getD (k - 1) default).id) := fun hkp => by
          rw [HG.out (k - 1) (by omega)]
          exact ((hc (k - 1) (by omega)).below hW.out.bel lb).1
        have HPR := Shut.mk hpr
        clear hc hr hge hpr
        obtain ⟨pid, hpid⟩ : ∃ p, p = (T.nodes.getD (k - 1) default).id := ⟨_, rfl⟩
        rw [← hpid] at HPR
        have HPI := Shut.mk hpid
        clear hpid
        obtain ⟨id, hid⟩ : ∃ p, p = r.nd.id := ⟨_, rfl⟩
        rw [← hid] at c0 HBN
        have HID := Shut.mk hid
        clear hid
        by_cases a1 : nx ≤ id
        · have HF : Shut (R = false) := ⟨by rw [HR.out]; exact ids_no (by rw [← HL.out]; exact hlt) (fun hc => by rw [HGE.out, ← HID.out, ← HX.out] at hc; omega)⟩
          go_upto_region 6 with fail
          go_quiet (fail)
          go_wp2_with fail
          go_ret
          exact ⟨by rw [HF.out]; rfl, (HBN.out _).bel⟩
        · by_cases a2 : 0 < k
          · have cp := HPR.out a2
            have hk1 : (k : Int) - 1 = ((k - 1 : Nat) : Int) := by omega
            have hk2 : (0 : Int) ≤ ((k - 1 : Nat) : Int) := by omega
            have hk3 : ((k - 1 : Nat) : Int) < (n : Int) := by omega
            have hkp : (0 : Int) < (k : Int) := by omega
            by_cases a3 : id ≤ pid
            · have HF : Shut (R = false) := ⟨by rw [HR.out]; exact ids_no (by rw [← HL.out]; exact hlt) (fun hc => by rw [HGE.out, ← HID.out, ← HPI.out] at hc; omega)⟩
              go_upto_region 6 with fail
              go_quiet (fail)
              go_wp2_with fail
              go_ret
              exact ⟨by rw [HF.out]; rfl, (HBN.out _).bel⟩
            · go_upto_region 6 with fail
              go_quiet (fail)
              go_wp2_with fail
              go_roundw
              case rel =>
                refine ⟨k + 1, by go_num, by omega, ⟨fun j hj => ?_⟩, ⟨HBN.out _⟩⟩
                rcases Nat.lt_succ_iff_lt_or_eq.1 hj with h | h
                · exact hto.out j h
                · subst h
                  rw [HGE.out, ← HID.out, ← HPI.out, ← HX.out]
                  exact ⟨by omega, .inr (by omega)⟩
              case measure => simp [intOf]; omega
          · have hkn : decide ((0 : Int) < (k : Int)) = false := by simp; omega
            have hkn' : ¬ (0 : Int) < (k : Int) := by omega
            go_upto_region 6 with fail
            go_quiet (fail)
            go_wp2_with fail
            go_roundw
            case rel =>
              refine ⟨k + 1, by go_num, by omega, ⟨fun j hj => ?_⟩, ⟨HBN.out _⟩⟩
              rcases Nat.lt_succ_iff_lt_or_eq.1 hj with h | h
              · exact hto.out j h
              · subst h
                rw [HGE.out, ← HID.out, ← HX.out]
                exact ⟨by omega, .inl (by omega)⟩
            case measure => simp [intOf]; omega
      · have hlt' : ¬ (k : Int) < (n : Int) := by omega
        obtain rfl : k = n := by omega
        have HT : Shut (R = true) := ⟨by rw [HR.out]; exact ids_yes (by rw [← HX.out]; exact h1) (by rw [← HL.out]; exact hto.out)⟩
        go_wp2_with fail
        go_ret
        exact ⟨by rw [HT.out]; rfl, hW.out.bel⟩
  · have HF : Shut (R = false) := ⟨by rw [HR.out]; exact ids_next (by rw [← HX.out]; exact h1)⟩
    go_enter Try.func62, Try.ntmps62
    go_wp2_with fail
    go_ret
    exact ⟨by rw [HF.out]; rfl, (Below.refl _ _).alloc (Nat.le_refl _) _⟩
end Go.Proofs.Ythfmjjaollekiaa
/- LkI: The program's own TreeOk, and nodeAt. -/
namespace Go.Proofs.Ythfmjjaollekiaa
open Go.RowKit Go.Maps BigFrame
attribute [local go_sem ↓] Go.wp_at_zero Go.wp_at_succ

/-- Up to here nodes are as they should be. -/
def NodesTo (T : TM) (k : Nat) : Prop := ∀ j, j < k → kindB (T.nodes.getD j default) = true ∧ (j = 0 ∨ placeB T.nodes j = true)
theorem prog_yes {T : TM} (h1 : inI (T.nodes.length : Int) 1 14 = true) (h2 : idsB T = true) (h3 : rootB (T.nodes.getD 0 default) = true) (h4 : NodesTo T T.nodes.length) : treeOk T = true := by
  rw [← prog_tree]
  unfold progB
  rw [h1, h2, h3]
  simp only [Bool.true_and]
  refine List.all_eq_true.2 fun i hi => ?_
  obtain ⟨q1, q2⟩ := h4 i (by simpa using hi)
  rw [q1]
  rcases q2 with e | e
  · simp [e]
  · rw [e]; simp
theorem prog_no {T : TM} {k : Nat} (hk : k < T.nodes.length) (h : ¬ (kindB (T.nodes.getD k default) = true ∧ (k = 0 ∨ placeB T.nodes k = true))) : treeOk T = false := by
  rw [← prog_tree]
  refine Bool.eq_false_iff.2 fun hc => h ?_
  unfold progB at hc
  simp only [Bool.and_eq_true, List.all_eq_true, List.mem_range, Bool.or_eq_true, decide_eq_true_eq] at hc
  exact hc.2 k hk
theorem prog_ids {T : TM} (h : idsB T = false) : treeOk T = false := by
  rw [← prog_tree]
  unfold progB
  rw [h]
  simp
theorem prog_root {T : TM} (h : rootB (T.nodes.getD 0 default) = false) : treeOk T = false := by
  rw [← prog_tree]
  unfold progB
  rw [h]
  simp
/-- A tree in its box, and its links. -/
structure BL (w W : World) (a : Option Addr) (n cap : Nat) (nx : Int) (L b1 b2 : Nat) (rs : List NR) (G : Nat → Nat) (C : Int → Nat) : Prop where
  bx : BX w W a n cap nx
  vr : WCells W L [.map (some b1), .map (some b2)]
  lk : Lk W w.heap.size b1 b2 rs G C (Ab (nds rs) fun _ => false)
theorem BL.below {w W W' : World} {a : Option Addr} {n cap L b1 b2 : Nat} {nx : Int} {rs : List NR} {G : Nat → Nat} {C : Int → Nat} (h : BL w W a n cap nx L b1 b2 rs G C) (hb : Below W.heap.size W W') : BL w W' a n cap nx L b1 b2 rs G C := ⟨h.bx.below hb, h.vr.grow hb, h.lk.below hb⟩
theorem Lk.base {w : World} {B B' b1 b2 : Nat} {rs : List NR} {G : Nat → Nat} {C : Int → Nat} {A : Nat → Option Nat} (h : Lk w B b1 b2 rs G C A) (hB : B' ≤ B) : Lk w B' b1 b2 rs G C A := by
  obtain ⟨m1, m2, m3, inj, cells, one, lo⟩ := h
  refine ⟨m1, m2, fun p hp => ?_, inj, fun i hi => ⟨(cells i hi).1, Nat.le_trans hB (cells i hi).2⟩, one, by omega⟩
  obtain ⟨q1, q2⟩ := m3 p hp
  exact ⟨by omega, q2⟩
set_option maxRecDepth 100000 in
set_option maxHeartbeats 4000000 in
theorem implTreeOk (w : World) (v : Value) (T : TM) (lo hi : Nat) (h : TSee w v T lo hi) (hf : NFit T) (hI : NInt T.nodes) : Calls Try.prog 42 #[v] w fun e w' => e = .returned (.bool (treeOk T)) ∧ Below w.heap.size w w' := by
  have hsee := h
  obtain ⟨a, cap, rs, rfl, hr, hm⟩ := h
  have hlen : rs.length = T.nodes.length := by rw [← hr, nds_len]
  have hl : rs.length ≤ 1048576 := by unfold NFit at hf; omega
  have hget : ∀ j (hj : j < rs.length), T.nodes.getD j default = rs[j].nd := fun j hj => by
    rw [← hr, getD_in (by rw [nds_len]; exact hj)]
    simp [nds]
  have hsz : ∀ x ∈ nds rs, x.name.size ≤ 1048576 ∧ x.pieces.length ≤ 1048576 := fun x hx => by
    rw [hr] at hx
    have := nsum_mem hx
    unfold NFit at hf
    omega
  obtain ⟨R, hR⟩ : ∃ R, R = treeOk T := ⟨_, rfl⟩
  rw [← hR]
  obtain ⟨n, hn⟩ : ∃ n, n = rs.length := ⟨_, rfl⟩
  obtain ⟨nx, hnx⟩ : ∃ nx, nx = T.next := ⟨_, rfl⟩
  rw [← hn] at hl hlen hsee ⊢
  rw [← hnx] at hsee ⊢
  have hids := fun W (hb : Below w.heap.size w W) => implIdsOk (hsee.below hb) hf
  have HR := Shut.mk hR
  have HG := Shut.mk hget
  have HL := Shut.mk hlen
  have HN := Shut.mk hn
  have HM := Shut.mk hm
  have HE := Shut.mk hr
  have HI := Shut.mk hI
  have HS := Shut.mk hsz
  have HID := Shut.mk hids
  clear hR hget hlen hm hr hI hsz hids hsee hnx hf hn
  by_cases h1 : n < 1
  · have HF : Shut (R = false) := ⟨by rw [HR.out]; exact treeOk_len (Bool.eq_false_iff.2 fun hc => by have := inI_iff.1 hc; have := HL.out; omega)⟩
    have h1' : (n : Int) < 1 := by omega
    go_enter Try.func42, Try.ntmps42
    go_wp2_with fail
    go_ret
    exact ⟨by rw [HF.out]; rfl, (Below.refl _ _).alloc (Nat.le_refl _) _⟩
  have h1' : ¬ (n : Int) < 1 := by omega
  by_cases h2 : 14 < n
  · have HF : Shut (R = false) := ⟨by rw [HR.out]; exact treeOk_len (Bool.eq_false_iff.2 fun hc => by have := inI_iff.1 hc; have := HL.out; omega)⟩
    have h2' : (14 : Int) < (n : Int) := by omega
    go_enter Try.func42, Try.ntmps42
    go_wp2_with fail
    go_ret
    exact ⟨by rw [HF.out]; rfl, (Below.refl _ _).alloc (Nat.le_refl _) _⟩
  have h2' : ¬ (14 : Int) < (n : Int) := by omega
  cases hid : idsB T with
  | false =>
    rw [hid] at HID
    have HF : Shut (R = false) := ⟨by rw [HR.out]; exact prog_ids hid⟩
    go_enter Try.func42, Try.ntmps42
    go_wp2_with (go_at_call 62; refine (HID.out _ ((Below.refl _ _).alloc (Nat.le_refl _) _)).mono ?_; rintro e w1 ⟨rfl, hb1⟩)
    go_ret
    exact ⟨by rw [HF.out]; rfl, ((Below.refl _ _).alloc (Nat.le_refl _) _).trans (hb1.mono (by simp))⟩
  | true =>
    rw [hid] at HID
    obtain ⟨b, off, ha, lb, hc⟩ := TR.nat HM.out (by have := HN.out; omega)
    have hn0 : 0 < rs.length := by have := HN.out; omega
    have hc0 := hc 0 hn0
    rw [Nat.zero_mul, Nat.add_zero] at hc0
    have hg0 := HG.out 0 hn0
    obtain ⟨r0, hr0⟩ : ∃ r, r = rs[0] := ⟨_, rfl⟩
    rw [← hr0] at hc0 hg0
    have hroot := fun W => implRootOk r0.nd.id r0.nd.parent r0.nd.name r0.nd.dir r0.nd.schema r0.nd.quota r0.nd.len r0.nd.writer r0.loc r0.nd.pieces.length r0.cap W
    have hrb : rootB r0.nd = rootB (T.nodes.getD 0 default) := by rw [hg0]
    simp only [rootQ_is, hrb] at hroot
    have HRT := Shut.mk hroot
    have HC0 := Shut.mk hc0
    have HID2 := Shut.mk hid
    rw [ha] at HM HID ⊢
    clear hc hc0 hg0 hr0 hroot hid hrb
    cases hrt : rootB (T.nodes.getD 0 default) with
    | false =>
      rw [hrt] at HRT
      have HF : Shut (R = false) := ⟨by rw [HR.out]; exact prog_root hrt⟩
      clear hrt
      go_enter Try.func42, Try.ntmps42
      go_wp2_with (first
        | (go_at_call 62; refine (HID.out _ ((Below.refl _ _).alloc (Nat.le_refl _) _)).mono ?_; rintro e w1 ⟨rfl, hb1⟩; have hbb : Below w.heap.size w w1 := ((Below.refl _ _).alloc (Nat.le_refl _) _).trans (hb1.mono (by simp)); obtain ⟨c0, c1, c2, c3, c4, c5, c6, c7, c8⟩ := HC0.out.below hbb lb; have x0 : w1.cell? ⟨w.heap.size, 0, none⟩ = some (.slice (some ⟨b, off, none⟩) n cap) := (hb1.cell (by simp)).trans (by simp); have HBB := Shut.mk hbb)
        | (go_at_call 63; refine (HRT.out _).mono ?_; rintro e w2 ⟨rfl, hb2⟩))
      go_ret
      exact ⟨by rw [HF.out]; rfl, HBB.out.trans (hb2.mono HBB.out.size)⟩
    | true =>
      rw [hrt] at HRT
      have HRT2 := Shut.mk hrt
      clear hrt
      go_enter Try.func42, Try.ntmps42
      go_wp2_with (first
        | (go_at_call 62; refine (HID.out _ ((Below.refl _ _).alloc (Nat.le_refl _) _)).mono ?_; rintro e w1 ⟨rfl, hb1⟩; have hbb : Below w.heap.size w w1 := ((Below.refl _ _).alloc (Nat.le_refl _) _).trans (hb1.mono (by simp)); obtain ⟨c0, c1, c2, c3, c4, c5, c6, c7, c8⟩ := HC0.out.below hbb lb; have x0 : w1.cell? ⟨w.heap.size, 0, none⟩ = some (.slice (some ⟨b, off, none⟩) n cap) := (hb1.cell (by simp)).trans (by simp); have HBX : Shut (BX w w1 (some ⟨b, off, none⟩) n cap nx) := ⟨(BX.new w (some ⟨b, off, none⟩) n cap nx 26).below hb1⟩)
        | (go_at_call 63; refine (HRT.out _).mono ?_; rintro e w2 ⟨rfl, hb2⟩; replace HBX := Shut.mk (HBX.out.below hb2); have y0 := (HBX.out.box.2 0 _ rfl).1))
      have hlk : Calls Try.prog 43 #[.slice (some ⟨b, off, none⟩) n cap] w2 fun e w' => ∃ b1 b2 G C, e = .returned (.agg #[.map (some b1), .map (some b2)]) ∧ Lk w' w2.heap.size b1 b2 rs G C (Ab (nds rs) fun _ => false) ∧ Below w2.heap.size w2 w' := by
        rw [HN.out]
        exact linkNodes_any (HM.out.below HBX.out.bel) (by rw [← HN.out]; exact hl) (by rw [HE.out]; exact HI.out) (fun x hx => by have := (HS.out x hx).1; unfold maxLen; omega)
      clear c0 c1 c2 c3 c4 c5 c6 c7 c8 x0 hb1 hb2 hbb HC0
      refine hlk.mono ?_
      rintro e w3 ⟨b1, b2, G, C, rfl, hLk, hb3⟩
      have hbx3 := HBX.out.below hb3
      have HB3 := Shut.mk hbx3
      have HL3 := Shut.mk (hLk.base HBX.out.bel.size)
      clear hlk y0 hb3 hbx3 hLk HBX
      have y0 := (HB3.out.box.2 0 _ rfl).1
      have ly := HB3.out.box.1
      go_upto_region 4 with fail
      refine wp_shade (fun W => BL w W (some ⟨b, off, none⟩) n cap nx w3.heap.size b1 b2 rs G C) ?_ ?_
      · have hb : Below w3.heap.size w3 (w3.alloc (.cells #[.map (some b1), .map (some b2)] 75)) := (Below.refl _ _).alloc (Nat.le_refl _) _
        exact ⟨HB3.out.below hb, wcells_new w3 #[.map (some b1), .map (some b2)] 75, HL3.out.below hb⟩
      intro W hW
      have HW := Shut.mk hW
      clear hW y0
      have y0 := (HW.out.bx.box.2 0 _ rfl).1
      obtain ⟨L, hL⟩ : ∃ L, L = w3.heap.size := ⟨_, rfl⟩
      rw [← hL] at HW ⊢
      have HASC : Shut (Asc (nds rs)) := ⟨by rw [HE.out]; exact ids_asc HID2.out HRT2.out (by rw [← HL.out]; omega)⟩
      clear HB3 HL3 hL ly HID HRT
      go_wp2_with fail
      go_loopw [35] (fun i wr => ∃ (k : Nat), i = .int .i64 k ∧ k ≤ n ∧ Shut (NodesTo T k) ∧ Shut (BL w wr (some ⟨b, off, none⟩) n cap nx L b1 b2 rs G C)) (fun i _ => n - (intOf i).toNat)
      case atStart => exact ⟨0, rfl, Nat.zero_le _, ⟨fun _ h => absurd h (Nat.not_lt_zero _)⟩, HW⟩
      case round =>
        clear HW y0
        obtain ⟨k, rfl, hk, hto, hW⟩ := hrel
        have v0 := (hW.out.vr.2 0 _ rfl).1
        have v1 := (hW.out.vr.2 1 _ rfl).1
        have lv := hW.out.vr.1
        by_cases hlt : k < n
        · have hkr : k < rs.length := by rw [← HN.out]; exact hlt
          obtain ⟨b', off', hab, _, hc⟩ := TR.nat HM.out (by omega)
          have e1 : b' = b ∧ off' = off := by simpa using hab.symm
          obtain ⟨rfl, rfl⟩ := e1
          have hnk := (hc k hkr).below hW.out.bx.bel lb
          have hge := HG.out k hkr
          have hmem : rs[k].nd ∈ nds rs := List.mem_map.2 ⟨_, List.getElem_mem hkr, rfl⟩
          have hno : ∀ W', Below w.heap.size w W' → Calls Try.prog 64 #[nv rs[k]] W' fun e w' => e = .returned (.bool (kindB (T.nodes.getD k default))) ∧ Below W'.heap.size W' w' := fun W' hb => by
            rw [hge]
            exact implNodeOk rs[k] W' ((HM.out.2 _ (List.getElem_mem hkr)).below hb) (HS.out _ hmem).2
          have hpo : ∀ W', BL w W' (some ⟨b', off', none⟩) n cap nx L b1 b2 rs G C → Calls Try.prog 65 #[.agg #[.map (some b1), .map (some b2)], nv rs[k]] W' fun e w' => e = .returned (.bool (placeB T.nodes k)) ∧ Below W'.heap.size W' w' := fun W' hb => by
            have := placeOk_any hb.lk HASC.out (by rw [HE.out]; exact HI.out) (fun x hx => (HS.out x hx).1) hkr
            rw [HE.out] at this
            exact this
          obtain ⟨r, hr⟩ : ∃ r, r = rs[k] := ⟨_, rfl⟩
          rw [← hr] at hnk hno hpo
          obtain ⟨⟨id, parent, name, dir, schema, quota, len, pieces, writer⟩, loc, cp⟩ := r
          dsimp only [nv] at hno hpo
          obtain ⟨c0, c1, c2, c3, c4, c5, c6, c7, c8⟩ := hnk
          dsimp only at c0 c1 c2 c3 c4 c5 c6 c7 c8
          generalize pieces.length = pn at *
          have HNO := Shut.mk hno
          have HPO := Shut.mk hpo
          have lb' : b' < wr.heap.size := Nat.lt_of_lt_of_le lb hW.out.bx.bel.size
          have k0 : (0 : Int) ≤ (k : Int) := by omega
          have k1 : (k : Int) < (n : Int) := by omega
          have HKL : Shut (k < T.nodes.length) := ⟨by rw [← HL.out]; exact hlt⟩
          clear hc hr hge hmem hno hpo hab
          have HBA : Shut (Below wr.heap.size wr (wr.alloc (.cells #[.int .i64 id, .int .i64 parent, .string name, .bool dir, .int .i64 schema, .int .i64 quota, .int .i64 len, .slice loc pn cp, .int .i64 writer] 30))) := ⟨(Below.refl _ _).alloc (Nat.le_refl _) _⟩
          have HNA : Shut (WCells (wr.alloc (.cells #[.int .i64 id, .int .i64 parent, .string name, .bool dir, .int .i64 schema, .int .i64 quota, .int .i64 len, .slice loc pn cp, .int .i64 writer] 30)) wr.heap.size [.int .i64 id, .int .i64 parent, .string name, .bool dir, .int .i64 schema, .int .i64 quota, .int .i64 len, .slice loc pn cp, .int .i64 writer]) := ⟨wcells_new wr #[.int .i64 id, .int .i64 parent, .string name, .bool dir, .int .i64 schema, .int .i64 quota, .int .i64 len, .slice loc pn cp, .int .i64 writer] 30⟩
          cases hkd : kindB (T.nodes.getD k default) with
          | false =>
            rw [hkd] at HNO
            have HF : Shut (R = false) := ⟨by rw [HR.out]; exact prog_no HKL.out (fun hc => by rw [hkd] at hc; cases hc.1)⟩
            clear hkd
            go_wp2_with (go_at_call 64; refine (HNO.out _ (hW.out.bx.bel.trans (((Below.refl _ _).alloc (Nat.le_refl _) _).mono hW.out.bx.bel.size))).mono ?_; rintro e w4 ⟨rfl, hb4⟩; have hW4 := (hW.out.below HBA.out).below hb4; have HW4 := Shut.mk hW4; have u0 := (hW4.vr.2 0 _ rfl).1; have u1 := (hW4.vr.2 1 _ rfl).1; have hnd := HNA.out.grow hb4; have d0 := (hnd.2 0 _ rfl).1; have d1 := (hnd.2 1 _ rfl).1; have d2 := (hnd.2 2 _ rfl).1; have d3 := (hnd.2 3 _ rfl).1; have d4 := (hnd.2 4 _ rfl).1; have d5 := (hnd.2 5 _ rfl).1; have d6 := (hnd.2 6 _ rfl).1; have d7 := (hnd.2 7 _ rfl).1; have d8 := (hnd.2 8 _ rfl).1; clear hW4 hnd hb4)
            go_ret
            exact ⟨by rw [HF.out]; rfl, HW4.out.bx.bel⟩
          | true =>
            rw [hkd] at HNO
            have HKD := Shut.mk hkd
            clear hkd
            by_cases hk0 : 0 < k
            · have hkp : (0 : Int) < (k : Int) := by omega
              cases hpl : placeB T.nodes k with
              | false =>
                rw [hpl] at HPO
                have HF : Shut (R = false) := ⟨by rw [HR.out]; exact prog_no HKL.out (fun hc => by rw [hpl] at hc; rcases hc.2 with h | h; omega; cases h)⟩
                clear hpl
                go_wp2_with (first | (go_at_call 64; refine (HNO.out _ (hW.out.bx.bel.trans (((Below.refl _ _).alloc (Nat.le_refl _) _).mono hW.out.bx.bel.size))).mono ?_; rintro e w4 ⟨rfl, hb4⟩; have hW4 := (hW.out.below HBA.out).below hb4; have HW4 := Shut.mk hW4; have u0 := (hW4.vr.2 0 _ rfl).1; have u1 := (hW4.vr.2 1 _ rfl).1; have hnd := HNA.out.grow hb4; have d0 := (hnd.2 0 _ rfl).1; have d1 := (hnd.2 1 _ rfl).1; have d2 := (hnd.2 2 _ rfl).1; have d3 := (hnd.2 3 _ rfl).1; have d4 := (hnd.2 4 _ rfl).1; have d5 := (hnd.2 5 _ rfl).1; have d6 := (hnd.2 6 _ rfl).1; have d7 := (hnd.2 7 _ rfl).1; have d8 := (hnd.2 8 _ rfl).1; clear hW4 hnd hb4) | (go_at_call 65; refine (HPO.out _ HW4.out).mono ?_; rintro e w5 ⟨rfl, hb5⟩))
                go_ret
                exact ⟨by rw [HF.out]; rfl, (HW4.out.below hb5).bx.bel⟩
              | true =>
                rw [hpl] at HPO
                have HPL := Shut.mk hpl
                clear hpl
                go_wp2_with (first | (go_at_call 64; refine (HNO.out _ (hW.out.bx.bel.trans (((Below.refl _ _).alloc (Nat.le_refl _) _).mono hW.out.bx.bel.size))).mono ?_; rintro e w4 ⟨rfl, hb4⟩; have hW4 := (hW.out.below HBA.out).below hb4; have HW4 := Shut.mk hW4; have u0 := (hW4.vr.2 0 _ rfl).1; have u1 := (hW4.vr.2 1 _ rfl).1; have hnd := HNA.out.grow hb4; have d0 := (hnd.2 0 _ rfl).1; have d1 := (hnd.2 1 _ rfl).1; have d2 := (hnd.2 2 _ rfl).1; have d3 := (hnd.2 3 _ rfl).1; have d4 := (hnd.2 4 _ rfl).1; have d5 := (hnd.2 5 _ rfl).1; have d6 := (hnd.2 6 _ rfl).1; have d7 := (hnd.2 7 _ rfl).1; have d8 := (hnd.2 8 _ rfl).1; clear hW4 hnd hb4) | (go_at_call 65; refine (HPO.out _ HW4.out).mono ?_; rintro e w5 ⟨rfl, hb5⟩))
                go_roundw
                case rel =>
                  refine ⟨k + 1, by go_num, by omega, ⟨fun j hj => ?_⟩, ⟨HW4.out.below hb5⟩⟩
                  rcases Nat.lt_succ_iff_lt_or_eq.1 hj with h | h
                  · exact hto.out j h
                  · subst h
                    exact ⟨HKD.out, .inr HPL.out⟩
                case measure => simp [intOf]; omega
            · have hkn : decide ((0 : Int) < (k : Int)) = false := by simp; omega
              have hkn' : ¬ (0 : Int) < (k : Int) := by omega
              go_wp2_with (go_at_call 64; refine (HNO.out _ (hW.out.bx.bel.trans (((Below.refl _ _).alloc (Nat.le_refl _) _).mono hW.out.bx.bel.size))).mono ?_; rintro e w4 ⟨rfl, hb4⟩; have hW4 := (hW.out.below HBA.out).below hb4; have HW4 := Shut.mk hW4; have u0 := (hW4.vr.2 0 _ rfl).1; have u1 := (hW4.vr.2 1 _ rfl).1; have hnd := HNA.out.grow hb4; have d0 := (hnd.2 0 _ rfl).1; have d1 := (hnd.2 1 _ rfl).1; have d2 := (hnd.2 2 _ rfl).1; have d3 := (hnd.2 3 _ rfl).1; have d4 := (hnd.2 4 _ rfl).1; have d5 := (hnd.2 5 _ rfl).1; have d6 := (hnd.2 6 _ rfl).1; have d7 := (hnd.2 7 _ rfl).1; have d8 := (hnd.2 8 _ rfl).1; clear hW4 hnd hb4)
              go_roundw
              case rel =>
                refine ⟨k + 1, by go_num, by omega, ⟨fun j hj => ?_⟩, HW4⟩
                rcases Nat.lt_succ_iff_lt_or_eq.1 hj with h | h
                · exact hto.out j h
                · subst h
                  exact ⟨HKD.out, .inl (by omega)⟩
              case measure => simp [intOf]; omega
        · have hlt' : ¬ (k : Int) < (n : Int) := by omega
          obtain rfl : k = n := by omega
          have HT : Shut (R = true) := ⟨by rw [HR.out]; exact prog_yes (inI_iff.2 (by have := HL.out; omega)) HID2.out HRT2.out (by rw [← HL.out]; exact hto.out)⟩
          go_wp2_with fail
          go_ret
          exact ⟨by rw [HT.out]; rfl, hW.out.bx.bel⟩
end Go.Proofs.Ythfmjjaollekiaa
/- LkJ: The program's own nodeAt and SchemaAt. -/
namespace Go.Proofs.Ythfmjjaollekiaa
open Go.RowKit Go.Maps BigFrame
attribute [local go_sem ↓] Go.wp_at_zero Go.wp_at_succ

theorem field_id (p q : Option Nat) (W : World) : (Instr.field 75 (.agg #[.map p, .map q]) 0).run Try.prog W = .ok (.map p) W := by kernel_rfl
theorem field_nm (p q : Option Nat) (W : World) : (Instr.field 75 (.agg #[.map p, .map q]) 1).run Try.prog W = .ok (.map q) W := by kernel_rfl
/-- What nodeAt answers: a pointer to the node, with all above it; nil where there is none, or the tree is not right. -/
def AtPost (T : TM) (id : Int) (w : World) (e : Ending) (w' : World) : Prop := ∃ o, e = .returned (ptrV o) ∧ Below w.heap.size w w' ∧ ((treeOk T = false ∧ o = none) ∨ (treeOk T = true ∧ ∃ G, o = (fid T.nodes id).map G ∧ Nd w' T.nodes G))
theorem fit_name {T : TM} (hf : NFit T) : ∀ x ∈ T.nodes, x.name.size ≤ 1048576 ∧ x.pieces.length ≤ 1048576 := fun x hx => by
  have := nsum_mem hx
  unfold NFit at hf
  omega
set_option maxRecDepth 100000 in
set_option maxHeartbeats 1000000 in
theorem nodeAt_any (w : World) (v : Value) (T : TM) (lo hi : Nat) (id : Int) (h : TSee w v T lo hi) (hf : NFit T) (hI : NInt T.nodes) (hid : (Lit.int .i64 id).wf = true) : Calls Try.prog 25 #[v, .int .i64 id] w fun e w' => AtPost T id w e w' := by
  have hsee := h
  obtain ⟨a, cap, rs, rfl, hr, hm⟩ := h
  have hl : rs.length ≤ 1048576 := by unfold NFit at hf; rw [← hr, nds_len] at hf; omega
  obtain ⟨n, hn⟩ : ∃ n, n = rs.length := ⟨_, rfl⟩
  obtain ⟨nx, hnx⟩ : ∃ nx, nx = T.next := ⟨_, rfl⟩
  rw [← hn, ← hnx] at hsee ⊢
  have hok := fun W (hb : Below w.heap.size w W) => implTreeOk W _ T lo hi (hsee.below hb) hf hI
  have hlk := fun W (hb : Below w.heap.size w W) => linkNodes_any (cap := cap) (hm.below hb) hl (by rw [hr]; exact hI) (fun x hx => by rw [hr] at hx; have := (fit_name hf x hx).1; unfold maxLen; omega)
  rw [← hn] at hlk
  have HOK := Shut.mk hok
  have HLK := Shut.mk hlk
  have HR := Shut.mk hr
  clear hok hlk hr hm hsee hn hnx
  cases ht : treeOk T with
  | false =>
    rw [ht] at HOK
    have HT := Shut.mk ht
    clear ht
    go_enter Try.func25, Try.ntmps25
    go_wp2_with (go_at_call 42; refine (HOK.out _ ((Below.refl _ _).alloc (Nat.le_refl _) _)).mono ?_; rintro e w1 ⟨rfl, hb1⟩)
    go_ret
    exact ⟨none, rfl, ((Below.refl _ _).alloc (Nat.le_refl _) _).trans (hb1.mono (by simp)), .inl ⟨HT.out, rfl⟩⟩
  | true =>
    rw [ht] at HOK
    have HT := Shut.mk ht
    clear ht
    go_enter Try.func25, Try.ntmps25
    go_wp2_with (go_at_call 42; refine (HOK.out _ ((Below.refl _ _).alloc (Nat.le_refl _) _)).mono ?_; rintro e w1 ⟨rfl, hb1⟩; have hbx := (BX.new w a n cap nx 26).below hb1; have HBX := Shut.mk hbx; have x0 := (hbx.box.2 0 _ rfl).1; clear hb1 hbx)
    refine (HLK.out _ HBX.out.bel).mono ?_
    rintro e w2 ⟨b1, b2, G, C, rfl, hL, hb2⟩
    obtain ⟨D1, o1, t1⟩ := hL.m1
    have k1 := look_ptr keyI Try.underlying72 zeroLp o1 (key_int hid) (t1 id) 0
    rw [World.drewN_zero] at k1
    have HL := Shut.mk hL
    have HB := Shut.mk (HBX.out.bel.trans (hb2.mono HBX.out.bel.size))
    clear hL hb2 o1 t1 x0
    have k0 := field_id (some b1) (some b2)
    go_wp2_with fail
    go_ret
    refine ⟨(fid (nds rs) id).map G, rfl, HB.out, .inr ⟨HT.out, G, by rw [HR.out], ?_⟩⟩
    rw [← HR.out]
    exact HL.out.nd
set_option maxRecDepth 100000 in
set_option maxHeartbeats 1000000 in
theorem implSchemaAt (w : World) (v : Value) (T : TM) (lo hi : Nat) (id : Int) (h : TSee w v T lo hi) (hf : NFit T) (hI : NInt T.nodes) (hid : (Lit.int .i64 id).wf = true) : Calls Try.prog 8 #[v, .int .i64 id] w fun e w' => e = .returned (.int .i64 (schemaAtX T id)) ∧ Below w.heap.size w w' := by
  have hsee := h
  obtain ⟨a, cap, rs, rfl, hr, hm⟩ := h
  obtain ⟨n, hn⟩ : ∃ n, n = rs.length := ⟨_, rfl⟩
  obtain ⟨nx, hnx⟩ : ∃ nx, nx = T.next := ⟨_, rfl⟩
  rw [← hn, ← hnx] at hsee ⊢
  have hat := fun W (hb : Below w.heap.size w W) => nodeAt_any W _ T lo hi id (hsee.below hb) hf hI hid
  have HAT := Shut.mk hat
  obtain ⟨R, hR⟩ : ∃ R, R = schemaAtX T id := ⟨_, rfl⟩
  rw [← hR]
  have HR := Shut.mk hR
  clear hat hr hm hsee hn hnx hR hf hI hid
  go_enter Try.func8, Try.ntmps8
  go_wp2_with fail
  refine (HAT.out _ ((Below.refl _ _).alloc (Nat.le_refl _) _)).mono ?_
  rintro e w1 ⟨o, rfl, hb1, hcase⟩
  have HB := Shut.mk (((Below.refl w.heap.size w).alloc (Nat.le_refl _) (.cells #[.slice a n cap, .int .i64 nx] 26)).trans (hb1.mono (by simp)))
  clear hb1 HAT
  rcases hcase with ⟨ht, rfl⟩ | ⟨ht, G, rfl, hnd⟩
  · have HE : Shut (R = 0) := ⟨by rw [HR.out]; unfold schemaAtX; rw [if_neg (by rw [ht]; decide)]⟩
    rw [ptr_none]
    clear ht
    go_wp2_with fail
    go_loopg [5] 0 (fun _ p wr => p = .pointer none ∧ wr = w1)
    case atStart => exact ⟨rfl, rfl⟩
    case round =>
      obtain ⟨rfl, rfl⟩ := hrel
      go_wp2_with fail
      go_ret
      exact ⟨by rw [HE.out]; rfl, HB.out⟩
  · have HT := Shut.mk (tree_tall ht)
    have HND := Shut.mk hnd
    have HE : Shut (R = schemaF T.nodes 15 id) := ⟨by rw [HR.out]; unfold schemaAtX; rw [if_pos ht]⟩
    clear hnd ht
    obtain ⟨N, hN⟩ : ∃ N, ∀ j d, Ups T.nodes j d → j < T.nodes.length → d + 1 ≤ N := ⟨5, fun j d hu hj => by obtain ⟨d', hd, hu'⟩ := HT.out.2 j hj; rw [hu.det hu']; omega⟩
    have HNN := Shut.mk hN
    clear hN
    go_wp2_with fail
    go_loopg [5] N (fun m p wr => wr = w1 ∧ (Shut (p = .pointer none ∧ R = 0) ∨ Shut (∃ (j d r : Nat), p = .pointer (some ⟨G j, 0, none⟩) ∧ d + 1 ≤ m ∧ j < T.nodes.length ∧ Ups T.nodes j d ∧ schemaF T.nodes (d + 2 + r) (T.nodes.getD j default).id = R)))
    case atStart =>
      refine ⟨rfl, ?_⟩
      cases hf : fid T.nodes id with
      | none => exact .inl ⟨⟨rfl, by rw [HE.out]; exact schemaF_none hf⟩⟩
      | some j =>
        obtain ⟨hj, ej⟩ := fid_lt hf
        obtain ⟨d, hd, hu⟩ := HT.out.2 j hj
        refine .inr ⟨⟨j, d, 13 - d, rfl, HNN.out j d hu hj, hj, hu, ?_⟩⟩
        rw [HE.out, getD_in hj, ej, show d + 2 + (13 - d) = 15 by omega]
    case round =>
      obtain ⟨rfl, hrel⟩ := hrel
      rcases hrel with ⟨rfl, hR0⟩ | ⟨j, d, r, rfl, hdm, hj, hu, h1⟩
      · have HE0 := Shut.mk hR0
        clear hR0
        go_wp2_with fail
        go_ret
        exact ⟨by rw [HE0.out]; rfl, HB.out⟩
      · have c4 := (HND.out.cells j hj).2.2.2.2.1
        have hf := HT.out.1.fid hj
        have c9 := HND.out.above j hj hf
        have hge := getD_in hj
        obtain ⟨x, hx⟩ : ∃ x, x = T.nodes[j] := ⟨_, rfl⟩
        rw [← hx] at c4 c9 hge hf
        rw [hge, show d + 2 + r = (d + 1 + r) + 1 by omega, schemaF_some (i := j) hf, hge] at h1
        have HH := Shut.mk (And.intro h1 (And.intro hu hge))
        obtain ⟨o, ho⟩ : ∃ o, o = fid T.nodes x.parent := ⟨_, rfl⟩
        rw [← ho] at c9
        have HO := Shut.mk ho
        clear ho h1 hu hge hf hx
        by_cases hs : x.schema = 0
        · cases o with
          | none =>
            simp only [Option.map_none, ptr_none] at c9
            go_wp2_with fail
            go_roundg (gk - 1)
            case measure => omega
            case rel =>
              refine ⟨rfl, .inl ⟨⟨rfl, ?_⟩⟩⟩
              obtain ⟨h1, hu, hge⟩ := HH.out
              rw [if_neg (by simp [hs])] at h1
              rw [← h1, show d + 1 + r = (d + r) + 1 by omega]
              exact schemaF_none HO.out.symm
          | some k =>
            simp only [Option.map_some, ptr_some] at c9
            go_wp2_with fail
            go_roundg (gk - 1)
            case measure => omega
            case rel =>
              refine ⟨rfl, .inr ⟨?_⟩⟩
              obtain ⟨h1, hu, hge⟩ := HH.out
              rw [if_neg (by simp [hs])] at h1
              cases hu with
              | root =>
                have e0 := HT.out.1.2.2.2
                have h4 := HO.out
                rw [hge] at e0
                rw [e0, HT.out.1.zero] at h4
                cases h4
              | @step _ k' d' _ _ hk hu' =>
                rw [hge, ← HO.out] at hk
                cases hk
                obtain ⟨hkl, ek⟩ := fid_lt HO.out.symm
                refine ⟨k, d', r, rfl, by omega, hkl, hu', ?_⟩
                rw [← ek, ← getD_in hkl] at h1
                rw [← h1, show d' + 2 + r = d' + 1 + 1 + r by omega]
        · have hs' : (x.schema != 0) = true := by simp [hs]
          go_wp2_with fail
          go_ret
          refine ⟨?_, HB.out⟩
          obtain ⟨h1, hu, hge⟩ := HH.out
          rw [if_pos hs] at h1
          rw [← h1]
          rfl
end Go.Proofs.Ythfmjjaollekiaa
