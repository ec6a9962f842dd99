/- Texts of ours, laid one behind the other: SeT, SeU, SeV, SeW, SeX, SeY, SeZ, SfA, SfB. -/
import Derived.Test.YtbkimmbfepjodaaDoorPfM5
import Derived.Conc.TokenTrace
set_option linter.unusedVariables false
set_option linter.unusedSimpArgs false
/- The trace between the close of a channel and the receive that finds it closed. -/
namespace Go.Proofs.YtbkimmbfepjodaaDoor
set_option maxRecDepth 100000
open Go.Conc

/-- WHAT IS HELD OF THE TRACE BEHIND A CLOSE (number m + 1, goroutine j's) of channel c: all is known to goroutine 0 but the closer's look at the channel (number m). -/
structure Pc (c m j : Nat) (B : Nat) (t : Trace) : Prop where
  clean : ∀ said, ¬ Race said t
  known : ∀ i a, touchAt t i = some a → a.loc.isMemory = true → Knows t 0 i ∨ (i = m ∧ a.loc = .obj c ∧ a.write = false ∧ a.kind = .atomic)
  look : ∃ op, t[m]? = some op ∧ op.g = j
  shut : ∃ op, t[m + 1]? = some op ∧ op.g = j ∧ op.act = .close c
  heard : t.heard (m + 1)
  noW : NoW t
  hears : Deaf t 0 = 0
  seen : ∀ op ∈ t, op.act.low B
section
variable {c m j B : Nat} {t u : Trace}
theorem Pc.keep {B' : Nat} (h : Pc c m j B t) (hB : B ≤ B') (hclean : ∀ said, ¬ Race said (t ++ u)) (hw : NoW (t ++ u)) (hnew : ∀ i a op, t.size ≤ i → (t ++ u)[i]? = some op → op.act.touch? = some a → a.loc.isMemory = true → Knows (t ++ u) 0 i) (hd : Deaf (t ++ u) 0 = Deaf t 0) (hl : ∀ op ∈ u, op.act.low B') : Pc c m j B' (t ++ u) := by
  obtain ⟨o1, a1, a2⟩ := h.look
  obtain ⟨o2, b1, b2, b3⟩ := h.shut
  have l1 := lt_size_of_getElem? a1
  have l2 := lt_size_of_getElem? b1
  refine ⟨hclean, fun i a ha hm => ?_, ⟨o1, by rw [getElem?_append_old l1]; exact a1, a2⟩, ⟨o2, by rw [getElem?_append_old l2]; exact b1, b2, b3⟩, ?_, hw, hd.trans h.hears, fun op hop => ?_⟩
  · obtain ⟨x, hx, hxa⟩ := touch_of ha
    rcases getElem?_append_cases hx with ⟨_, hx'⟩ | ⟨hge, hxu⟩
    · exact (h.known i a (by rw [touchAt_of hx']; exact hxa) hm).imp (·.app u) id
    · exact .inl (hnew i a x (by omega) hx hxa hm)
  · obtain ⟨g', hg', hd'⟩ := h.heard
    exact ⟨g', by rw [g?_old l2]; exact hg', by rw [deaf_old (Nat.le_of_lt l2)]; exact hd'⟩
  · rcases Array.mem_append.1 hop with q | q
    · exact MemAct.low_mono hB (h.seen op q)
    · exact hl op q
theorem Pc.appMute {g : Nat} (h : Pc c m j B t) (hg : g ≠ 0) (hu : ∀ op ∈ u, op.g = g) (hn : ∀ op ∈ u, op.act.touch? = none) (hl : ∀ op ∈ u, op.act.low B) : Pc c m j B (t ++ u) := by
  refine h.keep (Nat.le_refl _) (fun said => noRace_append (h.clean said) hu fun i a _ op hop b hb _ => (by rw [hn op hop] at hb; cases hb)) (h.noW.app (fun op hop a ha => by rw [hn op hop] at ha; cases ha)) (fun i a op hi hop ha _ => ?_) (Deaf_other t hg u hu) hl
  rcases getElem?_append_cases hop with ⟨hlt, _⟩ | ⟨_, hxu⟩
  · omega
  · rw [hn op hxu] at ha; cases ha
theorem Pc.app0 {B' : Nat} (h : Pc c m j B t) (hB : B ≤ B') (hu : ∀ op ∈ u, op.g = 0) (hs : ∀ op ∈ u, ∀ b, op.act.touch? = some b → ∀ r, b.loc = .obj r → b.write = false) (hd : Deaf (t ++ u) 0 = Deaf t 0) (hl : ∀ op ∈ u, op.act.low B') : Pc c m j B' (t ++ u) := by
  refine h.keep hB (fun said => noRace_append (h.clean said) hu fun i a ha op hop b hb hc => ?_) (h.noW.app hs) (fun i a op hi hop ha _ => ?_) hd hl
  · rcases h.known i a ha hc.2.1 with hk | ⟨_, q1, q2, _⟩
    · exact hk
    · exfalso
      have := hs op hop b hb c (hc.1 ▸ q1)
      rcases hc.2.2.1 with w1 | w1
      · rw [q2] at w1; cases w1
      · rw [this] at w1; cases w1
  · rcases getElem?_append_cases hop with ⟨hlt, _⟩ | ⟨_, hxu⟩
    · omega
    · have := knows_own hop
      rw [hu op hxu] at this
      exact this
theorem keeps_pc (c m j : Nat) : Keeps (fun B t => Pc c m j B t) := by
  refine ⟨fun {B t i fn pos es} h hi hm => h.appMute hi (fun op hop => by obtain ⟨e, _, rfl⟩ := Go.Conc.mem_ofEvents hop; rfl) (fun op hop => by obtain ⟨e, he, rfl⟩ := Go.Conc.mem_ofEvents hop; exact touch_mute (hm e he)) (fun op hop => by obtain ⟨e, he, rfl⟩ := Go.Conc.mem_ofEvents hop; exact low_mute (hm e he) B), fun {B B' t fn pos es} h hB hq hl => ?_⟩
  refine h.app0 hB (fun op hop => by obtain ⟨e, _, rfl⟩ := Go.Conc.mem_ofEvents hop; rfl) (fun op hop b hb r hbl => ?_) ?_ (fun op hop => by obtain ⟨e, he, rfl⟩ := Go.Conc.mem_ofEvents hop; exact hl e he)
  · obtain ⟨e, he, rfl⟩ := Go.Conc.mem_ofEvents hop
    obtain ⟨l1, l2⟩ := touch_quiet (hq e he) hb
    rw [l2]
    exact (hq e he).2 r (l1 ▸ hbl)
  · rw [Deaf_own]
    exact deafBehind_still (fun e he => ⟨fun hx => (by cases (hq e he).1 _ hx), fun hx => (by cases (hq e he).1 _ hx)⟩) _
/-- The close itself. -/
theorem Pc.of (h : Pi B t) (hj : j ≠ 0) (hd : Deaf t j = 0) (hc : c < B) (fn : FuncId) (pos : String) : Pc c t.size j B (t ++ MemOp.ofEvents j fn pos (closeEvents c)) := by
  rw [closeOps]
  generalize hu' : (#[{ g := j, fn := fn, pos := pos, act := .access ⟨.obj c, false, true⟩ }, { g := j, fn := fn, pos := pos, act := .close c }] : Trace) = u
  have e0 : (t ++ u)[t.size]? = some { g := j, fn := fn, pos := pos, act := .access ⟨.obj c, false, true⟩ } := by subst hu'; simp
  have e1 : (t ++ u)[t.size + 1]? = some { g := j, fn := fn, pos := pos, act := .close c } := by subst hu'; simp
  have hmem : ∀ op ∈ u, op = { g := j, fn := fn, pos := pos, act := .access ⟨.obj c, false, true⟩ } ∨ op = { g := j, fn := fn, pos := pos, act := .close c } := by
    intro op hop
    subst hu'
    simpa using hop
  have hu : ∀ op ∈ u, op.g = j := fun op hop => by rcases hmem op hop with rfl | rfl <;> rfl
  have ht : ∀ op ∈ u, ∀ b, op.act.touch? = some b → b = ⟨.obj c, false, .atomic⟩ := by
    intro op hop b hb
    rcases hmem op hop with rfl | rfl
    · simpa [MemAct.touch?] using hb.symm
    · simp [MemAct.touch?] at hb
  refine ⟨fun said => noRace_append (h.1.clean said) hu fun i a ha op hop b hb hcf => ?_, fun i a ha hm => ?_, ⟨_, e0, rfl⟩, ⟨_, e1, rfl, rfl⟩, ?_, h.2.app (fun op hop b hb r _ => by rw [ht op hop b hb]), (Deaf_other t hj u hu).trans h.1.hears, fun op hop => ?_⟩
  · exfalso
    have hb' := ht op hop b hb
    subst hb'
    have hw := h.2 i a ha c hcf.1
    rcases hcf.2.2.1 with x | x
    · rw [hw] at x; cases x
    · cases x
  · obtain ⟨x, hx, hxa⟩ := touch_of ha
    rcases getElem?_append_cases hx with ⟨_, hx'⟩ | ⟨hge, hxu⟩
    · rcases h.1.known i a (by rw [touchAt_of hx']; exact hxa) hm with q | q
      · exact .inl (q.app u)
      · exact q.1.elim
    · have hb' := ht x hxu a hxa
      subst hb'
      refine .inr ⟨?_, rfl, rfl, rfl⟩
      have hl : i < (t ++ u).size := lt_size_of_getElem? hx
      have hsz : (t ++ u).size = t.size + 2 := by subst hu'; simp
      have : i ≠ t.size + 1 := by
        intro e
        subst e
        rw [e1] at hx
        cases hx
        simp [MemAct.touch?] at hxa
      omega
  · refine ⟨j, g?_of e1, ?_⟩
    show (t ++ u).deaf j (t.size + 1) = 0
    unfold Trace.deaf
    rw [e0]
    dsimp only
    rw [deaf_old (Nat.le_refl _)]
    exact hd
  · rcases Array.mem_append.1 hop with q | q
    · exact h.1.seen op q
    · rcases hmem op q with rfl | rfl <;> exact hc
/-- The receive that finds the channel closed: all is known to goroutine 0. -/
theorem Pc.take (h : Pc c m j B t) (hc : c < B) (fn : FuncId) (pos : String) : Pi B (t ++ #[{ g := 0, fn := fn, pos := pos, act := .recvClosed c }]) := by
  generalize hu : (#[{ g := 0, fn := fn, pos := pos, act := .recvClosed c }] : Trace) = u
  obtain ⟨o1, a1, a2⟩ := h.look
  obtain ⟨o2, b1, b2, b3⟩ := h.shut
  have l1 := lt_size_of_getElem? a1
  have l2 := lt_size_of_getElem? b1
  have hmem : ∀ op ∈ u, op = { g := 0, fn := fn, pos := pos, act := .recvClosed c } := by
    intro op hop
    subst hu
    simpa using hop
  have hn : ∀ op ∈ u, op.act.touch? = none := fun op hop => by rw [hmem op hop]; rfl
  have e0 : (t ++ u)[t.size]? = some { g := 0, fn := fn, pos := pos, act := .recvClosed c } := by subst hu; simp
  have a1' : (t ++ u)[m]? = some o1 := by rw [getElem?_append_old l1]; exact a1
  have b1' : (t ++ u)[m + 1]? = some o2 := by rw [getElem?_append_old l2]; exact b1
  have hd0 : Deaf (t ++ u) 0 = 0 := (Deaf_quiet (fun op hop d => by rw [hmem op hop]; rfl)).trans h.hears
  have hh1 : (t ++ u).heard (m + 1) := by
    obtain ⟨g', hg', hd'⟩ := h.heard
    exact ⟨g', by rw [g?_old l2]; exact hg', by rw [deaf_old (Nat.le_of_lt l2)]; exact hd'⟩
  have hh2 : (t ++ u).heard t.size := ⟨0, g?_of e0, by rw [deaf_old (Nat.le_refl _)]; exact h.hears⟩
  have edge : HappensBefore (t ++ u) (m + 1) t.size :=
    Relation.TransGen.single (.inr ⟨.closed (by rw [act?_of b1', b3]) (act?_of e0), hh1, hh2⟩)
  have po : HappensBefore (t ++ u) m (m + 1) := hb_po (Nat.lt_succ_self m) a1' b1' (a2.trans b2.symm)
  have hk : ∀ i a, touchAt (t ++ u) i = some a → a.loc.isMemory = true → Knows (t ++ u) 0 i := by
    intro i a ha hm
    obtain ⟨x, hx, hxa⟩ := touch_of ha
    rcases getElem?_append_cases hx with ⟨_, hx'⟩ | ⟨_, hxu⟩
    · rcases h.known i a (by rw [touchAt_of hx']; exact hxa) hm with q | ⟨rfl, _⟩
      · exact q.app u
      · exact ⟨t.size, _, e0, rfl, .inr (po.trans edge)⟩
    · rw [hn x hxu] at hxa; cases hxa
  refine ⟨⟨fun said => noRace_appendMute (h.clean said) hn, fun i a ha hm => .inl (hk i a ha hm), fun i g hg hne hcnt => ?_, hd0, fun op hop => ?_⟩, h.noW.app (fun op hop a ha => by rw [hn op hop] at ha; cases ha)⟩
  · obtain ⟨x, hx, hm, _⟩ := hcnt
    obtain ⟨q, z, hq, hz, hb⟩ := hk i x hx hm
    rcases hb with rfl | hb
    · rw [g?_of hq, hz] at hg
      exact absurd (Option.some.inj hg).symm hne
    · exact ⟨q, by rw [g?_of hq, hz], hb⟩
  · rcases Array.mem_append.1 hop with q | q
    · exact h.seen op q
    · rw [hmem op q]; exact hc
end
end Go.Proofs.YtbkimmbfepjodaaDoor
/- The twin's leaps: a receive from a buffer, a receive that finds the channel closed; and what cannot be. -/
namespace Go.Proofs.YtbkimmbfepjodaaDoor
set_option maxRecDepth 100000
open Go.Conc

section
variable {T : Tables} {f : Array Func} {fr : Frame} {tops : List Frame} {w : World} {c cap s r : Nat} {buf : Array Value} {cl tm : Bool} {z : Value}
theorem lone_comm {P : Program} (cs : List Frame) (v : World) : step P (lone fr cs v) = (runT P (crowd #[Gr fr cs] v none) 0).1 := by
  rw [step, stepT, move_lone]
  rfl
theorem lone_part (cs : List Frame) (send : Bool) : partners ((#[Gr fr cs] : Array Goroutine).setIfInBounds 0 ph) c send = [] := by
  refine partners_nil (fun k x hx => ?_)
  cases k with
  | zero =>
    simp at hx
    subst hx
    rfl
  | succ k => simp at hx
/-- A machine of one goroutine that waits for a partner comes to its end. -/
theorem lone_dead {P : Program} (g : Goroutine) (cs : Array CommCase) (sh : CommShape) (v : World) : ∃ o w', step P (crowd #[parked g cs sh] v none) = .ended o w' := by
  have hr : runnable #[parked g cs sh] v.os.mono = [] := by simp [runnable, runnable.go, Goroutine.canRun, parked]
  have ha : ∀ w' : World, ahead { world := w', gs := #[parked g cs sh], rest := { timers := #[], alone := none, slice := none } } false = none := by
    intro w'; simp [ahead, parked]
  have hp : Sem.run P (pure 0 : Sem Nat) v = .ok 0 v := rfl
  have hs : (parked g cs sh).status = .blocked := rfl
  simp only [step, stepT, move, ask, askOn, crowd, hr, due, hp, ha]
  simp [hs, hp, ha]
  generalize endWith _ _ _ _ = G
  cases G <;> exact ⟨_, _, rfl⟩
/-- The receive stands next. -/
def AtRc (P : Program) (fr : Frame) (c : Nat) (z : Value) : Prop := ∀ (main : Bool) (cs : List Frame) (w : World), stepG P main (Gr fr cs) w = .comm (Gr fr cs) #[rcase c z] true (.recv true) w #[]
theorem leap_recv (h : AtRc ⟨T, f⟩ fr c z) (hc : w.heap[c]? = some (.chan cap buf cl s r tm)) (hb : 0 < buf.size) :
    Leap ⟨T, f⟩ fr tops w (fr.finish (.tuple #[buf.getD 0 undef, .bool true])) tops (w.setChan c cap (buf.extract 1 buf.size) cl s (r + 1) tm) := by
  refine ⟨rfl, rfl, fun τ _ => ⟨0, ?_⟩⟩
  simp only [runN]
  rw [lone_comm, crowd_recv_buf (i := 0) (g := Gr fr (tops ++ [sent ⟨T, f⟩])) rfl (h true _ (Rt w τ)) (show (Rt w τ).heap[c]? = _ from hc) hb (lone_part _ _)]
  rfl
theorem leap_shut (h : AtRc ⟨T, f⟩ fr c z) (hc : w.heap[c]? = some (.chan cap #[] true s r tm)) :
    Leap ⟨T, f⟩ fr tops w (fr.finish (.tuple #[z, .bool false])) tops w := by
  refine ⟨rfl, rfl, fun τ _ => ⟨0, ?_⟩⟩
  simp only [runN]
  rw [lone_comm, crowd_recv_closed (i := 0) (g := Gr fr (tops ++ [sent ⟨T, f⟩])) rfl (h true _ (Rt w τ)) (show (Rt w τ).heap[c]? = _ from hc) (lone_part _ _)]
  rfl
/-- It cannot wait at a channel that is open and empty: nobody would come. -/
theorem recv_some {Fin : Frame → World → Prop} (h : AtRc ⟨T, f⟩ fr c z) (hm : fr.mode = .run) (hc : w.heap[c]? = some (.chan cap buf cl s r tm)) (hT : Tm2 ⟨T, f⟩ Fin fr tops w) : 0 < buf.size ∨ (buf = #[] ∧ cl = true) := by
  rcases Nat.eq_zero_or_pos buf.size with h0 | h0
  · have hb : buf = #[] := Array.eq_empty_of_size_eq_zero h0
    subst hb
    cases cl with
    | true => exact .inr ⟨rfl, rfl⟩
    | false =>
      exfalso
      obtain ⟨n, fr', w', e, l, _⟩ := hT w.tape (fun _ _ => rfl)
      have hw : ∀ cc ∈ (#[rcase c z] : Array CommCase), NoWays (Rt w w.tape) ((#[Gr fr (tops ++ [sent ⟨T, f⟩])] : Array Goroutine).setIfInBounds 0 ph) cc := by
        intro cc hcc
        rw [show cc = rcase c z by simpa using hcc]
        exact ways_recv_none (show (Rt w w.tape).heap[c]? = _ from hc) (lone_part _ _)
      have e1 : step ⟨T, f⟩ (lone fr (tops ++ [sent ⟨T, f⟩]) (Rt w w.tape)) = .next (crowd #[parked (Gr fr (tops ++ [sent ⟨T, f⟩])) #[rcase c z] (.recv true)] (Rt w w.tape) none) := by
        rw [lone_comm, crowd_waits (i := 0) (g := Gr fr (tops ++ [sent ⟨T, f⟩])) rfl (h true _ (Rt w w.tape)) hw]
        rfl
      cases n with
      | zero =>
        simp only [runN, lone, Stepped.next.injEq, Machine.mk.injEq] at e
        have e2 : (Gr fr (tops ++ [sent ⟨T, f⟩])) = (Gr fr' [sent ⟨T, f⟩]) := by simpa using e.2.1
        injection e2 with e3
        rw [e3] at hm
        rw [l.1] at hm
        cases hm
      | succ n =>
        simp only [runN, e1] at e
        cases n with
        | zero =>
          simp only [runN, crowd, lone, Stepped.next.injEq, Machine.mk.injEq] at e
          have e2 : parked (Gr fr (tops ++ [sent ⟨T, f⟩])) #[rcase c z] (.recv true) = (Gr fr' [sent ⟨T, f⟩]) := by simpa using e.2.1
          have e3 := congrArg Goroutine.status e2
          cases e3
        | succ n =>
          obtain ⟨o, w3, hd⟩ := lone_dead (P := ⟨T, f⟩) (Gr fr (tops ++ [sent ⟨T, f⟩])) #[rcase c z] (.recv true) (Rt w w.tape)
          simp only [runN, hd] at e
          cases e
  · exact .inl h0
end
end Go.Proofs.YtbkimmbfepjodaaDoor
/- A receive stands next: what the machine sees of it. -/
namespace Go.Proofs.YtbkimmbfepjodaaDoor
set_option maxRecDepth 100000
open Go.Conc

section
variable {ok : Op → Bool} {S : List FuncId} {P : Program} {fr : Frame} {c : Nat} {z : Value}
/-- A RECEIVE OF TWO RESULTS, its channel known: goroutine 0 comes to the place where partners meet, whatever the world. 'hu', 'hz': what the tables say of the channel's type. -/
theorem at_rc (h : Ord ok S fr) (hm : fr.mode = .run) {ops : Array Oper} {i : Nat} {r : List Nat} {k : List Item} {o : Oper} {ct el : TypeId} {d : ChanDir} {ch : Operand} (ht : fr.todo = .inRegion ops (i :: r) :: k) (ho : ops[i]? = some o)
    (hw : Region.wanted o (yielded ops fr.tmps) = true) (hop : o.op = .recv ct ch true) (hc : fr.eval ch = .chan (some c)) (hu : ∀ w es, (underlying ct).runT P w es = (.ok (.chan d el) w, es)) (hz : ∀ w es, (zeroValue el).runT P w es = (.ok z w, es)) : AtRc P fr c z := by
  intro main cs w
  have e : (execOp fr.eval o).runT P w #[] = (.ok (.comm #[rcase c z] true (.recv true)) w, #[]) := by
    unfold execOp
    rw [hop]
    have e1 : ∀ {α β : Type} (x : Sem α) (F : α → Sem β), (x >>= F) = x.bind F := fun _ _ => rfl
    simp only [e1, Sem.runT_bind', hu, hz, hc]
    rfl
  rw [step_op h.round hm ht ho hw]
  simp [-Sem.runT_eq, stepG.apply, e, GStep.after, h.kind, seen]
end
end Go.Proofs.YtbkimmbfepjodaaDoor
/- A run that ends as it should never panics. -/
namespace Go.Proofs.YtbkimmbfepjodaaDoor
set_option maxRecDepth 100000
open Go.Conc

section
variable {ok : Op → Bool} {S : List FuncId} {T : Tables} {f : Array Func} {fr : Frame} {tops : List Frame} {w : World}
theorem panic_up (h : Ord ok S fr) {ch : List PanicEntry} (hm : fr.mode = .panicking ch) {fn : Func} (hf : f[fr.fn]? = some fn) (main : Bool) (c : Frame) (x : List Frame) (v : World) : stepG ⟨T, f⟩ main (Gr fr (c :: x)) v = .go (Gr (c.raise ch) x) v #[] := by
  have hdf := h.defers
  obtain ⟨fn', tmps, todo, defers, mode, kind, round⟩ := fr
  simp only at hm hdf hf
  subst hm hdf
  simp [stepG, unwind, Frame.catches, hf]
theorem raise_mode {c : Frame} (hm : c.mode = .run) (ch : List PanicEntry) : (c.raise ch).mode = .panicking ch := by
  unfold Frame.raise
  simp [hm]
theorem panic_run (hF : ∀ x ∈ S, Fine ok f f x) : ∀ (n : Nat) (fr : Frame) (tops : List Frame) (w : World) (ch : List PanicEntry) (fr' : Frame) (w' : World), Ord ok S fr → (∀ t ∈ tops, Ord ok S t ∧ t.mode = .run) → fr.mode = .panicking ch →
    runN ⟨T, f⟩ n (lone fr (tops ++ [sent ⟨T, f⟩]) w) = .next (lone fr' [sent ⟨T, f⟩] w') → fr'.mode ≠ .returning := by
  intro n
  induction n with
  | zero =>
    intro fr tops w ch fr' w' h ht hm e
    simp only [runN, lone, Stepped.next.injEq, Machine.mk.injEq] at e
    have e2 : (Gr fr (tops ++ [sent ⟨T, f⟩])) = (Gr fr' [sent ⟨T, f⟩]) := by simpa using e.2.1
    injection e2 with e3 e4
    rw [← e3, hm]
    simp
  | succ n ih =>
    intro fr tops w ch fr' w' h ht hm e
    obtain ⟨_, fn, k2, _⟩ := (hF fr.fn h.fn).1
    cases tops with
    | nil =>
      exfalso
      simp only [runN, List.nil_append] at e
      rw [lone_step (panic_up h hm k2 true (sent ⟨T, f⟩) [] w)] at e
      dsimp only at e
      cases n with
      | zero =>
        simp only [runN, lone, Stepped.next.injEq, Machine.mk.injEq] at e
        have := e.2.1
        simp at this
      | succ n =>
        obtain ⟨o, w3, es, hs⟩ := sent_panic (T := T) (f := f) ch w
        simp only [runN, lone_ended hs] at e
        cases e
    | cons c rest =>
      simp only [runN, List.cons_append] at e
      rw [lone_step (panic_up h hm k2 true c (rest ++ [sent ⟨T, f⟩]) w)] at e
      have hc := ht c (.head _)
      refine ih (c.raise ch) rest w ch fr' w' ?_ (fun t q => ht t (.tail _ q)) (raise_mode hc.2 ch) e
      unfold Frame.raise
      split <;> exact ⟨hc.1.fn, hc.1.items, hc.1.defers, hc.1.kind, hc.1.round⟩
/-- A RUN THAT ENDS AS IT SHOULD DOES NOT PANIC. -/
theorem Tm2.calm {Fin : Frame → World → Prop} (hT : Tm2 ⟨T, f⟩ Fin fr tops w) (hF : ∀ x ∈ S, Fine ok f f x) (h : Ord ok S fr) (ht : ∀ t ∈ tops, Ord ok S t ∧ t.mode = .run) (ch : List PanicEntry) : fr.mode ≠ .panicking ch := by
  intro hm
  obtain ⟨n, fr', w', e, l, _⟩ := hT w.tape (fun _ _ => rfl)
  exact panic_run hF n fr tops _ ch fr' w' h ht hm e l.1
end
end Go.Proofs.YtbkimmbfepjodaaDoor
/- The frame of a function that ranges over a channel: where it may stand until the channel is found closed. -/
namespace Go.Proofs.YtbkimmbfepjodaaDoor
set_option maxRecDepth 100000
open Go.Conc

/-- Code that neither returns nor leaves a block but its own and those of 'bl', writes none of 'sl', and whose operations pass the test. -/
def within (ok : Op → Bool) (sl : List Nat) (bl : List Nat) : Code → Bool
  | .skip => true
  | .exit id => bl.contains id
  | .region _ ops _ => ops.all (fun o => ok o.op && sl.all (fun s => o.dst != some s))
  | .seq a b => within ok sl bl a && within ok sl bl b
  | .cond _ a b => within ok sl bl a && within ok sl bl b
  | .block id c => within ok sl (id :: bl) c
  | .loop c => within ok sl bl c
  | .scope c => within ok sl bl c
  | _ => false
/-- The blocks that these items are in. -/
def blocks : List Item → List Nat
  | [] => []
  | .inBlock id :: k => id :: blocks k
  | _ :: k => blocks k
def inPre (ok : Op → Bool) (sl : List Nat) : List Item → Bool
  | [] => true
  | .inBlock _ :: k => inPre ok sl k
  | .code c :: k => within ok sl (blocks k) c && inPre ok sl k
  | .inLoop c :: k => within ok sl (blocks k) c && inPre ok sl k
  | .inScope c :: k => within ok sl (blocks k) c && inPre ok sl k
  | .inRegion ops _ :: k => ops.all (fun o => ok o.op && sl.all (fun s => o.dst != some s)) && inPre ok sl k
  | _ => false
section
variable {ok : Op → Bool} {sl : List Nat} {fr fr' : Frame} {pre tail k' : List Item}
theorem exit_pre {id : Nat} : ∀ {pre : List Item}, inPre ok sl pre = true → id ∈ blocks pre → ∃ pre', exitTo id (pre ++ tail) = some (pre' ++ tail) ∧ inPre ok sl pre' = true
  | [], _, h => by simp [blocks] at h
  | x :: pre, hp, h => by
    have step : inPre ok sl pre = true → id ∈ blocks pre → ∃ pre', exitTo id (pre ++ tail) = some (pre' ++ tail) ∧ inPre ok sl pre' = true := exit_pre
    cases x with
    | inBlock id' =>
      simp only [inPre] at hp
      simp only [List.cons_append, exitTo]
      by_cases e : id' = id
      · subst e
        exact ⟨pre, by simp, hp⟩
      · have hb : (id' == id) = false := by simpa using e
        rw [hb]
        refine step hp ?_
        simp only [blocks, List.mem_cons] at h
        rcases h with h | h
        · exact absurd h.symm e
        · exact h
    | code c => simp only [inPre, Bool.and_eq_true] at hp; exact step hp.2 h
    | inLoop c => simp only [inPre, Bool.and_eq_true] at hp; exact step hp.2 h
    | inScope c => simp only [inPre, Bool.and_eq_true] at hp; exact step hp.2 h
    | inRegion ops l => simp only [inPre, Bool.and_eq_true] at hp; exact step hp.2 h
    | _ => simp [inPre] at hp
/-- A MOVE OF CONTROL INSIDE STAYS INSIDE. -/
theorem ctl_pre {x : Item} (ht : fr.todo = x :: pre ++ tail) (hp : inPre ok sl (x :: pre) = true) (hc : Ctl fr k') : ∃ pre', k' = pre' ++ tail ∧ inPre ok sl pre' = true := by
  unfold Ctl at hc
  rw [ht] at hc
  cases x with
  | inBlock id => exact ⟨pre, hc, hp⟩
  | inScope c => simp only [inPre, Bool.and_eq_true] at hp; exact ⟨pre, hc, hp.2⟩
  | inLoop c => simp only [inPre, Bool.and_eq_true] at hp; exact ⟨.code c :: .inLoop c :: pre, hc, by simp [inPre, blocks, hp]⟩
  | inRegion ops l =>
    simp only [inPre, Bool.and_eq_true] at hp
    cases l with
    | nil => exact ⟨pre, hc, hp.2⟩
    | cons i r => exact hc.elim
  | code c =>
    simp only [inPre, Bool.and_eq_true] at hp
    obtain ⟨h1, h2⟩ := hp
    cases c with
    | skip => exact ⟨pre, hc, h2⟩
    | ret => exact hc.elim
    | seq a b =>
      simp only [within, Bool.and_eq_true] at h1
      exact ⟨.code a :: .code b :: pre, hc, by simp [inPre, blocks, h1, h2]⟩
    | cond c a b =>
      simp only [within, Bool.and_eq_true] at h1
      obtain ⟨v, _, e⟩ := hc
      exact ⟨.code (if v then a else b) :: pre, e, by cases v <;> simp [inPre, h1, h2]⟩
    | block id c => exact ⟨.code c :: .inBlock id :: pre, hc, by simpa [inPre, blocks, within, h2] using h1⟩
    | loop c => exact ⟨.code c :: .inLoop c :: pre, hc, by simpa [inPre, blocks, within, h2] using h1⟩
    | scope c => exact ⟨.code c :: .inScope c :: pre, hc, by simpa [inPre, blocks, within, h2] using h1⟩
    | exit id =>
      obtain ⟨pre', e, h⟩ := exit_pre (ok := ok) (sl := sl) (tail := tail) (id := id) h2 (by simpa [within] using h1)
      have e' : exitTo id (pre ++ tail) = some k' := hc
      rw [e] at e'
      cases e'
      exact ⟨pre', rfl, h⟩
    | region id ops d =>
      obtain ⟨l, _, e⟩ := hc
      exact ⟨.inRegion ops l :: pre, e, by simpa [inPre, within, h2] using h1⟩
    | _ => exact hc.elim
  | _ => exact hc.elim
/-- A result that is written inside leaves the slots as they were. -/
theorem fin_pre {v : Value} {ops : Array Oper} {i : Nat} {r : List Nat} (ht : fr.todo = .inRegion ops (i :: r) :: pre ++ tail) (hp : inPre ok sl (.inRegion ops (i :: r) :: pre) = true) :
    (fr.finish v).todo = .inRegion ops r :: pre ++ tail ∧ inPre ok sl (.inRegion ops r :: pre) = true ∧ (∀ s ∈ sl, (fr.finish v).tmps[s]? = fr.tmps[s]?) ∧ (fr.finish v).fn = fr.fn ∧ (fr.finish v).mode = fr.mode := by
  have hp' := hp
  simp only [inPre, Bool.and_eq_true] at hp'
  have hf : fr.finish v = { fr with tmps := (match (ops[i]?).bind (·.dst) with | some d => fr.tmps.setIfInBounds d v | none => fr.tmps), todo := .inRegion ops r :: (pre ++ tail) } := by
    unfold Frame.finish
    rw [ht]
    rfl
  rw [hf]
  refine ⟨rfl, by simpa [inPre] using hp', fun s hs => ?_, rfl, rfl⟩
  dsimp only
  cases ho : ops[i]? with
  | none => rfl
  | some o =>
    cases hd : o.dst with
    | none => simp [hd]
    | some d =>
      simp only [Option.bind_some, hd]
      refine Array.getElem?_setIfInBounds_ne ?_
      rintro rfl
      have h1 := Array.all_eq_true_iff_forall_mem.1 hp'.1 o (Array.mem_of_getElem? ho)
      have h2 := List.all_eq_true.1 (Bool.and_eq_true_iff.1 h1).2 d hs
      simp [hd] at h2
/-- An ordinary frame's move leaves it ordinary. -/
theorem Ord.move {S : List FuncId} (h : Ord ok S fr) (hm : Move fr fr') : Ord ok S fr' := by
  cases hm with
  | same => exact h
  | fin v _ _ => exact h.finish v
  | ret _ _ => exact ⟨h.fn, h.items, h.defers, h.kind, h.round⟩
  | raise ch =>
    unfold Frame.raise
    split <;> exact ⟨h.fn, h.items, h.defers, h.kind, h.round⟩
  | to k' _ hc =>
    refine h.todo ?_
    have hi := h.items
    unfold Ctl at hc
    have cons : ∀ {a : Item} {k : List Item}, okItem ok a = true → (∀ i ∈ k, okItem ok i = true) → ∀ i ∈ a :: k, okItem ok i = true := by
      intro a k ha hk i hi
      rcases List.mem_cons.1 hi with rfl | hi
      · exact ha
      · exact hk i hi
    cases ht : fr.todo with
    | nil => rw [ht] at hc; exact hc.elim
    | cons x k =>
      rw [ht] at hc hi
      have hx := hi x (.head _)
      have hk : ∀ i ∈ k, okItem ok i = true := fun i q => hi i (.tail _ q)
      cases x with
      | inBlock id => exact hc ▸ hk
      | inScope c => exact hc ▸ hk
      | inLoop c => exact hc ▸ cons (a := .code c) hx (cons hx hk)
      | inRegion ops l =>
        cases l with
        | nil => exact hc ▸ hk
        | cons i r => exact hc.elim
      | code c =>
        cases c with
        | skip => exact hc ▸ hk
        | seq a b =>
          simp only [okItem, okCode, Bool.and_eq_true] at hx
          exact hc ▸ cons (a := .code a) hx.1 (cons (a := .code b) hx.2 hk)
        | cond c a b =>
          simp only [okItem, okCode, Bool.and_eq_true] at hx
          obtain ⟨v, _, e⟩ := hc
          rw [e]
          exact cons (by cases v; exact hx.2; exact hx.1) hk
        | block id c => exact hc ▸ cons (a := .code c) hx (cons (a := .inBlock id) rfl hk)
        | loop c => exact hc ▸ cons (a := .code c) hx (cons (a := .inLoop c) hx hk)
        | scope c => exact hc ▸ cons (a := .code c) hx (cons (a := .inScope c) hx hk)
        | exit id => exact fun i q => hk i (exitTo_sub hc i q)
        | region id ops d =>
          obtain ⟨l, _, e⟩ := hc
          rw [e]
          exact cons hx hk
        | _ => exact hc.elim
      | _ => exact hc.elim
end
end Go.Proofs.YtbkimmbfepjodaaDoor
/- The places of a loop over a channel. -/
namespace Go.Proofs.YtbkimmbfepjodaaDoor
set_option maxRecDepth 100000
open Go.Conc

/-- A loop over a channel: the test of its body's operations, the function, the slots of the channel, of the pair and of the flag, the receive's region, the loop's block, its body, the region that calls for the channel, what comes behind the loop. -/
structure Lp where
  ok : Op → Bool
  fn : FuncId
  slot : Nat
  pair : Nat
  flag : Nat
  rid : Nat
  id : Nat
  ops : Array Oper
  body : Code
  r5 : Nat
  o5 : Array Oper
  rest : List Item
def Lp.test (L : Lp) : Code := .cond (.tmp L.flag) .skip (.exit L.id)
def Lp.tail (L : Lp) : List Item := .inLoop (.seq (.region L.rid L.ops false) (.seq L.test L.body)) :: .inBlock L.id :: L.rest
/-- Where the frame stands. -/
inductive At (L : Lp) (fr : Frame) : Prop
  | body (pre : List Item) (ht : fr.todo = pre ++ L.tail) (hp : inPre L.ok [L.slot] pre = true)
  | p1 (o5 : Array Oper) (ht : fr.todo = .inRegion o5 [] :: .code (.block L.id (.loop (.seq (.region L.rid L.ops false) (.seq L.test L.body)))) :: L.rest)
  | p2 (ht : fr.todo = .code (.block L.id (.loop (.seq (.region L.rid L.ops false) (.seq L.test L.body)))) :: L.rest)
  | p3 (ht : fr.todo = .code (.loop (.seq (.region L.rid L.ops false) (.seq L.test L.body))) :: .inBlock L.id :: L.rest)
  | s1 (ht : fr.todo = .code (.seq (.region L.rid L.ops false) (.seq L.test L.body)) :: L.tail)
  | s2 (ht : fr.todo = .code (.region L.rid L.ops false) :: .code (.seq L.test L.body) :: L.tail)
  | s3 (ht : fr.todo = .inRegion L.ops [0, 1] :: .code (.seq L.test L.body) :: L.tail)
  | s4 (v : Value) (ht : fr.todo = .inRegion L.ops [1] :: .code (.seq L.test L.body) :: L.tail) (hv : fr.eval (.tmp L.pair) = .tuple #[v, .bool true])
  | s5 (ht : fr.todo = .inRegion L.ops [] :: .code (.seq L.test L.body) :: L.tail) (hf : fr.eval (.tmp L.flag) = .bool true)
  | s6 (ht : fr.todo = .code (.seq L.test L.body) :: L.tail) (hf : fr.eval (.tmp L.flag) = .bool true)
  | s7 (ht : fr.todo = .code L.test :: .code L.body :: L.tail) (hf : fr.eval (.tmp L.flag) = .bool true)
structure Place (L : Lp) (c : Nat) (fr : Frame) : Prop where
  fn : fr.fn = L.fn
  mode : fr.mode = .run
  chan : fr.tmps[L.slot]? = some (.chan (some c))
  pair : L.pair < fr.tmps.size
  flag : L.flag < fr.tmps.size
  spot : At L fr
section
variable {L : Lp} {c : Nat} {fr fr' : Frame}
theorem Place.to (h : Place L c fr) {k' : List Item} (ha : At L { fr with todo := k' }) : Place L c { fr with todo := k' } := ⟨h.fn, h.mode, h.chan, h.pair, h.flag, ha⟩
/-- A STEP IN THE LOOP STAYS IN THE LOOP, the receive and the look at its flag apart. -/
theorem Place.move (h : Place L c fr) (hs : L.ops.size = 2) (hb : within L.ok [L.slot] [] L.body = true) (hm : Move fr fr') (h3 : ∀ l, l ≠ [] → fr.todo ≠ .inRegion L.ops l :: .code (.seq L.test L.body) :: L.tail) (hc : ∀ ch, fr'.mode ≠ .panicking ch) : Place L c fr' := by
  cases hm with
  | same => exact h
  | raise ch => exact absurd (raise_mode h.mode ch) (hc ch)
  | ret _ ht =>
    exfalso
    cases h.spot with
    | body pre e hp =>
      rw [e] at ht
      cases pre with
      | nil => simp [Lp.tail] at ht
      | cons x pre =>
        rcases ht with ht | ⟨k, ht⟩
        · simp at ht
        · simp only [List.cons_append, List.cons.injEq] at ht
          rw [ht.1] at hp
          simp [inPre, within] at hp
    | p1 o5 e => rw [e] at ht; simp at ht
    | p2 e => rw [e] at ht; simp at ht
    | p3 e => rw [e] at ht; simp at ht
    | s1 e => rw [e] at ht; simp at ht
    | s2 e => rw [e] at ht; simp at ht
    | s3 e => rw [e] at ht; simp at ht
    | s4 v e => rw [e] at ht; simp at ht
    | s5 e => rw [e] at ht; simp at ht
    | s6 e => rw [e] at ht; simp at ht
    | s7 e => rw [e] at ht; simp [Lp.test] at ht
  | fin v _ ht =>
    cases h.spot with
    | body pre e hp =>
      cases pre with
      | nil => rw [e] at ht; simp [Lp.tail] at ht
      | cons x pre =>
        rw [e] at ht
        simp only [List.cons_append, List.cons.injEq] at ht
        obtain ⟨rfl, _⟩ := ht
        obtain ⟨q1, q2, q3, q4, q5⟩ := fin_pre (v := v) e hp
        have hsz : (fr.finish v).tmps.size = fr.tmps.size := by
          unfold Frame.finish
          rw [e]
          dsimp only [List.cons_append]
          split <;> simp
        exact ⟨q4.trans h.fn, q5.trans h.mode, (q3 _ (by simp)).trans h.chan, by rw [hsz]; exact h.pair, by rw [hsz]; exact h.flag, .body _ q1 q2⟩
    | p1 o5 e => rw [e] at ht; simp at ht
    | p2 e => rw [e] at ht; simp at ht
    | p3 e => rw [e] at ht; simp at ht
    | s1 e => rw [e] at ht; simp at ht
    | s2 e => rw [e] at ht; simp at ht
    | s3 e => exact absurd e (h3 _ (by simp))
    | s4 v e => exact absurd e (h3 _ (by simp))
    | s5 e => rw [e] at ht; simp at ht
    | s6 e => rw [e] at ht; simp at ht
    | s7 e => rw [e] at ht; simp at ht
  | to k' _ hk =>
    refine h.to ?_
    have hk0 := hk
    unfold Ctl at hk
    cases h.spot with
    | body pre e hp =>
      cases pre with
      | nil =>
        rw [e] at hk
        exact .s1 hk
      | cons x pre =>
        obtain ⟨pre', e', hp'⟩ := ctl_pre (ok := L.ok) (sl := [L.slot]) e hp hk0
        exact .body pre' e' hp'
    | p1 o5 e => rw [e] at hk; exact .p2 hk
    | p2 e => rw [e] at hk; exact .p3 hk
    | p3 e => rw [e] at hk; exact .s1 hk
    | s1 e => rw [e] at hk; exact .s2 hk
    | s2 e =>
      rw [e] at hk
      obtain ⟨l, hl, e'⟩ := hk
      rw [hl rfl, hs] at e'
      exact .s3 e'
    | s3 e => exact absurd e (h3 _ (by simp))
    | s4 v e => exact absurd e (h3 _ (by simp))
    | s5 e hf => rw [e] at hk; exact .s6 hk hf
    | s6 e hf => rw [e] at hk; exact .s7 hk hf
    | s7 e hf =>
      rw [e] at hk
      obtain ⟨v, hv, e'⟩ := hk
      rw [hf] at hv
      cases hv
      exact .body [.code .skip, .code L.body] e' (by simp [inPre, within, blocks, hb])
/-- What is written into a slot of the receive's region. -/
theorem Place.fin (h : Place L c fr) {i d : Nat} {r : List Nat} {k : List Item} (v : Value) (ht : fr.todo = .inRegion L.ops (i :: r) :: k) (hd : (L.ops[i]?).bind (·.dst) = some d) (hne : d ≠ L.slot) (hl : d < fr.tmps.size) (ha : (fr.finish v).todo = .inRegion L.ops r :: k → (fr.finish v).eval (.tmp d) = v → At L (fr.finish v)) : Place L c (fr.finish v) := by
  have hf : fr.finish v = { fr with tmps := fr.tmps.setIfInBounds d v, todo := .inRegion L.ops r :: k } := by
    unfold Frame.finish
    rw [ht]
    simp only [hd]
  have ha' := ha (by rw [hf]) (by rw [hf]; simp [Frame.eval, hl])
  refine ⟨?_, ?_, ?_, ?_, ?_, ha'⟩
  · rw [hf]; exact h.fn
  · rw [hf]; exact h.mode
  · rw [hf]
    show (fr.tmps.setIfInBounds d v)[L.slot]? = _
    rw [Array.getElem?_setIfInBounds_ne hne]
    exact h.chan
  · rw [hf]; simpa using h.pair
  · rw [hf]; simpa using h.flag
/-- A value has been taken. -/
theorem Place.take (h : Place L c fr) (e : fr.todo = .inRegion L.ops [0, 1] :: .code (.seq L.test L.body) :: L.tail) (hd : (L.ops[0]?).bind (·.dst) = some L.pair) (hne : L.pair ≠ L.slot) (v : Value) : Place L c (fr.finish (.tuple #[v, .bool true])) :=
  h.fin _ e hd hne h.pair (fun a b => .s4 v a b)
/-- The look at the flag. -/
theorem Place.look (h : Place L c fr) (e : fr.todo = .inRegion L.ops [1] :: .code (.seq L.test L.body) :: L.tail) (hd : (L.ops[1]?).bind (·.dst) = some L.flag) (hne : L.flag ≠ L.slot) : Place L c (fr.finish (.bool true)) :=
  h.fin _ e hd hne h.flag (fun a b => .s5 a b)
theorem look_step {P : Program} {main : Bool} {cs : List Frame} {w : World} {v : Value} {o : Oper} {r : List Nat} {k : List Item} (hr : fr.roundOf = none) (hkd : fr.kind = .normal) (hm : fr.mode = .run) (ht : fr.todo = .inRegion L.ops (1 :: r) :: k) (ho : L.ops[1]? = some o) (hop : o.op = .extract (.tmp L.pair) 1)
    (hw : Region.wanted o (yielded L.ops fr.tmps) = true) (hv : fr.eval (.tmp L.pair) = .tuple #[v, .bool true]) : stepG P main (Gr fr cs) w = .go (Gr (fr.finish (.bool true)) cs) w #[] := by
  have e : (execOp fr.eval o).runT P w #[] = (.ok (.value (.bool true)) w, #[]) := by
    unfold execOp
    rw [hop]
    simp only [hv]
    rfl
  rw [step_op hr hm ht ho hw]
  simp [-Sem.runT_eq, stepG.apply, e, GStep.after, hkd, seen]
end
end Go.Proofs.YtbkimmbfepjodaaDoor
/- A loop over a channel somewhere among the frames: an ordinary step leaves it there. -/
namespace Go.Proofs.YtbkimmbfepjodaaDoor
set_option maxRecDepth 100000
open Go.Conc

/-- What the code says of the loop. -/
structure LpOk (P : Program) (S S' : List FuncId) (L : Lp) : Prop where
  ok : L.ok = okOp P S'
  sub : ∀ y ∈ S', y ∈ S
  size : L.ops.size = 2
  body : within L.ok [L.slot] [] L.body = true
  op0 : ∃ o, L.ops[0]? = some o ∧ (∀ x, okDy P S x o.op = false) ∧ o.dst = some L.pair ∧ ∀ y, Region.wanted o y = true
  op1 : ∃ o, L.ops[1]? = some o ∧ o.op = .extract (.tmp L.pair) 1 ∧ o.dst = some L.flag ∧ ∀ y, Region.wanted o y = true
  pair : L.pair ≠ L.slot
  flag : L.flag ≠ L.slot
/-- The loop's frame runs, or waits for a call made inside its body: then those above it are ordinary in the strict sense. -/
inductive Held (S' : List FuncId) (Q : Frame → Prop) (L : Lp) (c : Nat) (fr : Frame) (tops : List Frame) : Prop
  | top (h : Place L c fr) (hq : ∀ t ∈ tops, Q t)
  | low (above : List Frame) (t : Frame) (below : List Frame) (pre : List Item) (ops : Array Oper) (i : Nat) (r : List Nat) (e : tops = above ++ t :: below) (h : Place L c t) (ht : t.todo = .inRegion ops (i :: r) :: pre ++ L.tail) (hp : inPre L.ok [L.slot] (.inRegion ops (i :: r) :: pre) = true) (hs : Ord L.ok S' fr) (ha : ∀ x ∈ above, Ord L.ok S' x) (hq : ∀ t ∈ below, Q t)
section
variable {ok : Op → Bool} {S S' : List FuncId} {Q : Frame → Prop} {T : Tables} {f : Array Func} {L : Lp} {c : Nat} {fr fr' : Frame} {tops tops' : List Frame} {w w' : World}
theorem Held.ne (h : Held S' Q L c fr tops) (hm : fr.mode ≠ .run) : tops ≠ [] := by
  cases h with
  | top h hq => exact absurd h.mode hm
  | low above t below pre ops i r e h ht hp hs ha hq => rw [e]; simp
/-- AN ORDINARY STEP LEAVES THE LOOP WHERE IT IS. -/
theorem Held.near (h : Held S' Q L c fr tops) (hL : LpOk ⟨T, f⟩ S S' L) (ho : Ord ok S fr) (hsp : ¬ Spec ⟨T, f⟩ S fr tops) (hn : Near ⟨T, f⟩ S fr tops fr' tops') {X : List Frame} {es : Array Event} (hst : stepG ⟨T, f⟩ true (Gr fr (tops ++ X)) w = .go (Gr fr' (tops' ++ X)) w' es)
    (hF : ∀ x ∈ S', Fine L.ok f f x) (hc : ∀ ch, fr.mode ≠ .panicking ch) (hc' : ∀ ch, fr'.mode ≠ .panicking ch) : Held S' Q L c fr' tops' := by
  obtain ⟨o0, a1, a2, a3, a4⟩ := hL.op0
  obtain ⟨o1, b1, b2, b3, b4⟩ := hL.op1
  cases h with
  | top h hq =>
    have n3 : fr.todo ≠ .inRegion L.ops [0, 1] :: .code (.seq L.test L.body) :: L.tail := fun e => hsp (.inr ⟨h.mode, _, _, _, _, o0, e, a1, a4 _, a2 _⟩)
    by_cases h4 : ∃ v, fr.todo = .inRegion L.ops [1] :: .code (.seq L.test L.body) :: L.tail ∧ fr.eval (.tmp L.pair) = .tuple #[v, .bool true]
    · obtain ⟨v, e4, ev⟩ := h4
      rw [look_step (L := L) (P := ⟨T, f⟩) (main := true) (cs := tops ++ X) (w := w) ho.round ho.kind h.mode e4 b1 b2 (b4 _) ev] at hst
      injection hst with q1 q2 q3
      injection q1 with q4 q5
      subst q4
      have q6 := List.append_cancel_right q5
      subst q6
      exact .top (h.look e4 (by rw [b1]; exact b3) hL.flag) hq
    · have at4 : ∀ l, l ≠ [] → (∃ pre, fr.todo = pre ++ L.tail ∧ inPre L.ok [L.slot] pre = true) ∨ fr.todo ≠ .inRegion L.ops l :: .code (.seq L.test L.body) :: L.tail := by
        intro l hl
        cases h.spot with
        | body pre e hp => exact .inl ⟨pre, e, hp⟩
        | p1 o5 e =>
          refine .inr fun q => ?_
          rw [e] at q
          injection q with q _
          injection q with _ q
          exact hl q.symm
        | p2 e => rw [e]; simp
        | p3 e => rw [e]; simp
        | s1 e => rw [e]; simp
        | s2 e => rw [e]; simp
        | s3 e => exact absurd e n3
        | s4 v e ev => exact absurd ⟨v, e, ev⟩ h4
        | s5 e => rw [e]; right; intro q; simp at q; exact hl q
        | s6 e => rw [e]; simp
        | s7 e => rw [e]; simp
      have no : ∀ l, l ≠ [] → fr.todo ≠ .inRegion L.ops l :: .code (.seq L.test L.body) :: L.tail := by
        intro l hl e
        rcases at4 l hl with ⟨pre, e', hp⟩ | q
        · rw [e] at e'
          have : pre = [.inRegion L.ops l, .code (.seq L.test L.body)] := by
            have := List.append_cancel_right (as := [Item.inRegion L.ops l, .code (.seq L.test L.body)]) (bs := L.tail) (cs := pre) e'
            exact this.symm
          subst this
          simp [inPre, within, blocks, Lp.test] at hp
        · exact q e
      cases hn with
      | move hm => exact .top (h.move hL.size hL.body hm no hc') hq
      | enter x as hm ht hi hk hx =>
        cases h.spot with
        | body pre e hp =>
          cases pre with
          | nil => rw [e] at ht; simp [Lp.tail] at ht
          | cons z pre =>
            have ht' := ht
            rw [e] at ht'
            simp only [List.cons_append, List.cons.injEq] at ht'
            obtain ⟨rfl, _⟩ := ht'
            have hop := (Bool.and_eq_true_iff.1 (Array.all_eq_true_iff_forall_mem.1 (Bool.and_eq_true_iff.1 hp).1 _ (Array.mem_of_getElem? hi))).1
            have hy := hx.2 S' hL.sub (okDy_of (by rw [← hL.ok]; exact hop))
            exact .low [] fr tops pre _ _ _ rfl h e hp (enter_ord hy (hF _ hy)) (fun _ q => nomatch q) hq
        | p1 o5 e => rw [e] at ht; simp at ht
        | p2 e => rw [e] at ht; simp at ht
        | p3 e => rw [e] at ht; simp at ht
        | s1 e => rw [e] at ht; simp at ht
        | s2 e => rw [e] at ht; simp at ht
        | s3 e => exact absurd e n3
        | s4 v e ev => exact absurd ⟨v, e, ev⟩ h4
        | s5 e => rw [e] at ht; simp at ht
        | s6 e => rw [e] at ht; simp at ht
        | s7 e => rw [e] at ht; simp at ht
      | back v hm => rw [h.mode] at hm; cases hm
      | up ch hm => exact absurd hm (hc ch)
  | low above t below pre ops i r e h ht hp hs ha hq =>
    cases hn with
    | move hm => exact .low above t below pre ops i r e h ht hp (hs.move hm) ha hq
    | enter x as hm ht' hi hk hx =>
      have hit := hs.items _ (by rw [ht']; exact .head _)
      have hop := Array.all_eq_true_iff_forall_mem.1 hit _ (Array.mem_of_getElem? hi)
      have hy := hx.2 S' hL.sub (okDy_of (by rw [← hL.ok]; exact hop))
      exact .low (fr :: above) t below pre ops i r (by rw [e]; rfl) h ht hp (enter_ord hy (hF _ hy)) (fun y q => by
        rcases List.mem_cons.1 q with rfl | q
        · exact hs
        · exact ha y q) hq
    | back v hm =>
      cases above with
      | nil =>
        simp only [List.nil_append, List.cons.injEq] at e
        obtain ⟨rfl, rfl⟩ := e
        obtain ⟨q1, q2, q3, q4, q5⟩ := fin_pre (v := v) ht hp
        refine .top (h.move hL.size hL.body (.fin v h.mode ht) (fun l hl q => ?_) (fun ch => by rw [q5, h.mode]; simp)) hq
        rw [ht] at q
        have : (.inRegion ops (i :: r) :: pre : List Item) = [.inRegion L.ops l, .code (.seq L.test L.body)] := List.append_cancel_right (as := _ :: pre) (bs := L.tail) (cs := [_, _]) q
        rw [this] at hp
        simp [inPre, within, blocks, Lp.test] at hp
      | cons a above =>
        simp only [List.cons_append, List.cons.injEq] at e
        obtain ⟨rfl, e⟩ := e
        exact .low above t below pre ops i r e h ht hp ((ha _ (.head _)).finish v) (fun y q => ha y (.tail _ q)) hq
    | up ch hm => exact absurd hm (hc ch)
theorem okOp_mono {P : Program} (hsub : ∀ y ∈ S', y ∈ S) {o : Op} (h : okOp P S' o = true) : okOp P S o = true := by
  unfold okOp at h ⊢
  split at h
  all_goals first
    | rfl
    | exact h
    | (simp only [List.contains_iff_mem] at h ⊢; exact hsub _ h)
    | (cases h; done)
/-- WHERE ORDINARY STEPS END WHILE THE LOOP IS THERE: at the receive. -/
theorem Held.spec (h : Held S' Q L c fr tops) (hL : LpOk ⟨T, f⟩ S S' L) (hsp : Spec ⟨T, f⟩ S fr tops) : Place L c fr ∧ fr.todo = .inRegion L.ops [0, 1] :: .code (.seq L.test L.body) :: L.tail ∧ ∀ t ∈ tops, Q t := by
  obtain ⟨o1, b1, b2, b3, b4⟩ := hL.op1
  rcases hsp with ⟨h1, h2⟩ | ⟨hm, ops', i', r', k', o, ht', ho', _, hk⟩
  · exact absurd h1 (h.ne h2)
  · have no : L.ok o.op = true → False := fun q => by
      rw [hL.ok] at q
      rw [okDy_of (okOp_mono hL.sub q)] at hk
      cases hk
    cases h with
    | low above t below pre ops i r e h ht hp hs ha hq =>
      exfalso
      have hit := hs.items _ (by rw [ht']; exact .head _)
      exact no (Array.all_eq_true_iff_forall_mem.1 hit _ (Array.mem_of_getElem? ho'))
    | top h hq =>
      refine ⟨h, ?_, hq⟩
      cases h.spot with
      | body pre e hp =>
        exfalso
        cases pre with
        | nil => rw [e] at ht'; simp [Lp.tail] at ht'
        | cons z pre =>
          rw [e] at ht'
          simp only [List.cons_append, List.cons.injEq] at ht'
          obtain ⟨rfl, _⟩ := ht'
          exact no (Bool.and_eq_true_iff.1 (Array.all_eq_true_iff_forall_mem.1 (Bool.and_eq_true_iff.1 hp).1 _ (Array.mem_of_getElem? ho'))).1
      | p1 o5 e => rw [e] at ht'; simp at ht'
      | p2 e => rw [e] at ht'; simp at ht'
      | p3 e => rw [e] at ht'; simp at ht'
      | s1 e => rw [e] at ht'; simp at ht'
      | s2 e => rw [e] at ht'; simp at ht'
      | s3 e => exact e
      | s4 v e ev =>
        exfalso
        rw [e] at ht'
        simp only [List.cons.injEq, Item.inRegion.injEq] at ht'
        obtain ⟨⟨rfl, rfl, _⟩, _⟩ := ht'
        rw [b1] at ho'
        cases ho'
        rw [b2] at hk
        simp [okDy, okOp] at hk
      | s5 e => rw [e] at ht'; simp at ht'
      | s6 e => rw [e] at ht'; simp at ht'
      | s7 e => rw [e] at ht'; simp at ht'
end
end Go.Proofs.YtbkimmbfepjodaaDoor
/- Frames while no channel is open. -/
namespace Go.Proofs.YtbkimmbfepjodaaDoor
set_option maxRecDepth 100000
open Go.Conc

def Lp.loop (L : Lp) : Code := .block L.id (.loop (.seq (.region L.rid L.ops false) (.seq L.test L.body)))
def Lp.entry (L : Lp) : Code := .seq (.region L.r5 L.o5 false) L.loop
def Lp.tl (L : Lp) (k : List Item) : List Item := .inLoop (.seq (.region L.rid L.ops false) (.seq L.test L.body)) :: .inBlock L.id :: k
/-- Code whose operations pass the test, but in the loops of Ls, which come with the call that makes their channel. -/
def Calm (ok : Op → Bool) (Ls : List Lp) : Code → Prop
  | .skip | .ret | .exit _ => True
  | .region _ ops _ => ops.all (fun o => ok o.op) = true
  | .seq a b => (∃ L ∈ Ls, Code.seq a b = L.entry) ∨ (Calm ok Ls a ∧ Calm ok Ls b)
  | .cond _ a b => Calm ok Ls a ∧ Calm ok Ls b
  | .block _ c => Calm ok Ls c
  | .loop c => Calm ok Ls c
  | .scope c => Calm ok Ls c
  | _ => False
def CalmI (ok : Op → Bool) (Ls : List Lp) : Item → Prop
  | .code c => Calm ok Ls c
  | .inBlock _ => True
  | .inLoop c => Calm ok Ls c
  | .inScope c => Calm ok Ls c
  | .inRegion ops _ => ops.all (fun o => ok o.op) = true
  | _ => False
theorem calm_of {ok : Op → Bool} {Ls : List Lp} : ∀ {c : Code}, okCode ok c = true → Calm ok Ls c
  | .skip, _ => trivial
  | .ret, _ => trivial
  | .exit _, _ => trivial
  | .region _ _ _, h => h
  | .seq a b, h => by simp only [okCode, Bool.and_eq_true] at h; exact .inr ⟨calm_of h.1, calm_of h.2⟩
  | .cond _ a b, h => by simp only [okCode, Bool.and_eq_true] at h; exact ⟨calm_of h.1, calm_of h.2⟩
  | .block _ c, h => calm_of (c := c) h
  | .loop c, h => calm_of (c := c) h
  | .scope c, h => calm_of (c := c) h
/-- Where a frame may stand. -/
inductive Idle (ok : Op → Bool) (Ls : List Lp) (fr : Frame) : Prop
  | plain (h : ∀ i ∈ fr.todo, CalmI ok Ls i)
  | e1 (L : Lp) (hL : L ∈ Ls) (k : List Item) (hk : ∀ i ∈ k, CalmI ok Ls i) (ht : fr.todo = .code (.region L.r5 L.o5 false) :: .code L.loop :: k)
  | e2 (L : Lp) (hL : L ∈ Ls) (k : List Item) (hk : ∀ i ∈ k, CalmI ok Ls i) (j : Nat) (hj : j < L.o5.size) (ht : fr.todo = .inRegion L.o5 ((List.range L.o5.size).drop j) :: .code L.loop :: k)
  | o4 (L : Lp) (hL : L ∈ Ls) (k : List Item) (hk : ∀ i ∈ k, CalmI ok Ls i) (z : Value) (ht : fr.todo = .inRegion L.ops [1] :: .code (.seq L.test L.body) :: L.tl k) (hv : fr.eval (.tmp L.pair) = .tuple #[z, .bool false]) (hl : L.flag < fr.tmps.size)
  | o5 (L : Lp) (hL : L ∈ Ls) (k : List Item) (hk : ∀ i ∈ k, CalmI ok Ls i) (ht : fr.todo = .inRegion L.ops [] :: .code (.seq L.test L.body) :: L.tl k) (hf : fr.eval (.tmp L.flag) = .bool false)
  | o6 (L : Lp) (hL : L ∈ Ls) (k : List Item) (hk : ∀ i ∈ k, CalmI ok Ls i) (ht : fr.todo = .code (.seq L.test L.body) :: L.tl k) (hf : fr.eval (.tmp L.flag) = .bool false)
  | o7 (L : Lp) (hL : L ∈ Ls) (k : List Item) (hk : ∀ i ∈ k, CalmI ok Ls i) (ht : fr.todo = .code L.test :: .code L.body :: L.tl k) (hf : fr.eval (.tmp L.flag) = .bool false)
  | o8 (L : Lp) (hL : L ∈ Ls) (k : List Item) (hk : ∀ i ∈ k, CalmI ok Ls i) (ht : fr.todo = .code (.exit L.id) :: .code L.body :: L.tl k)
section
variable {ok : Op → Bool} {Ls : List Lp} {fr fr' : Frame}
/-- A move of control of a frame that stands plainly. -/
theorem calm_ctl {k' : List Item} (h : ∀ i ∈ fr.todo, CalmI ok Ls i) (hc : Ctl fr k') : (∀ i ∈ k', CalmI ok Ls i) ∨ ∃ L ∈ Ls, ∃ k, (∀ i ∈ k, CalmI ok Ls i) ∧ k' = .code (.region L.r5 L.o5 false) :: .code L.loop :: k := by
  unfold Ctl at hc
  have cons : ∀ {a : Item} {k : List Item}, CalmI ok Ls a → (∀ i ∈ k, CalmI ok Ls i) → ∀ i ∈ a :: k, CalmI ok Ls i := by
    intro a k ha hk i hi
    rcases List.mem_cons.1 hi with rfl | hi
    · exact ha
    · exact hk i hi
  cases ht : fr.todo with
  | nil => rw [ht] at hc; exact hc.elim
  | cons x k =>
    rw [ht] at hc h
    have hx := h x (.head _)
    have hk : ∀ i ∈ k, CalmI ok Ls i := fun i q => h i (.tail _ q)
    cases x with
    | inBlock id => exact .inl (hc ▸ hk)
    | inScope c => exact .inl (hc ▸ hk)
    | inLoop c => exact .inl (hc ▸ cons (a := .code c) hx (cons hx hk))
    | inRegion ops l =>
      cases l with
      | nil => exact .inl (hc ▸ hk)
      | cons i r => exact hc.elim
    | code c =>
      cases c with
      | skip => exact .inl (hc ▸ hk)
      | seq a b =>
        rcases hx with ⟨L, hL, e⟩ | ⟨h1, h2⟩
        · injection e with e1 e2
          subst e1 e2
          exact .inr ⟨L, hL, k, hk, hc⟩
        · exact .inl (hc ▸ cons (a := .code a) h1 (cons (a := .code b) h2 hk))
      | cond c a b =>
        obtain ⟨v, _, e⟩ := hc
        rw [e]
        exact .inl (cons (by cases v; exact hx.2; exact hx.1) hk)
      | block id c => exact .inl (hc ▸ cons (a := .code c) hx (cons (a := .inBlock id) trivial hk))
      | loop c => exact .inl (hc ▸ cons (a := .code c) hx (cons (a := .inLoop c) hx hk))
      | scope c => exact .inl (hc ▸ cons (a := .code c) hx (cons (a := .inScope c) hx hk))
      | exit id => exact .inl (fun i q => hk i (exitTo_sub hc i q))
      | region id ops d =>
        obtain ⟨l, _, e⟩ := hc
        rw [e]
        exact .inl (cons hx hk)
      | _ => exact hc.elim
    | _ => exact hc.elim
end
end Go.Proofs.YtbkimmbfepjodaaDoor
/- Frames while no channel is open: an ordinary step leaves them so. -/
namespace Go.Proofs.YtbkimmbfepjodaaDoor
set_option maxRecDepth 100000
open Go.Conc

/-- What the code says of a loop and of the call ahead of it. -/
structure LqOk (P : Program) (S : List FuncId) (L : Lp) : Prop where
  pos : 0 < L.o5.size
  last : ∃ o, L.o5[L.o5.size - 1]? = some o ∧ (∀ x, okDy P S x o.op = false) ∧ ∀ y, Region.wanted o y = true
  op1 : ∃ o, L.ops[1]? = some o ∧ o.op = .extract (.tmp L.pair) 1 ∧ o.dst = some L.flag ∧ ∀ y, Region.wanted o y = true
/-- A frame that waits for a call. -/
inductive IdleT (ok : Op → Bool) (Ls : List Lp) (fr : Frame) : Prop
  | plain (h : ∀ i ∈ fr.todo, CalmI ok Ls i)
  | e2 (L : Lp) (hL : L ∈ Ls) (k : List Item) (hk : ∀ i ∈ k, CalmI ok Ls i) (j : Nat) (hj : j + 1 < L.o5.size) (ht : fr.todo = .inRegion L.o5 ((List.range L.o5.size).drop j) :: .code L.loop :: k)
section
variable {ok : Op → Bool} {Ls : List Lp} {S : List FuncId} {P : Program} {fr fr' : Frame} {tops tops' : List Frame} {w w' : World}
theorem Idle.as (h : Idle ok Ls fr) (h1 : fr'.todo = fr.todo) (h2 : fr'.tmps = fr.tmps) : Idle ok Ls fr' := by
  have h3 : ∀ t, fr'.eval (.tmp t) = fr.eval (.tmp t) := fun t => by simp [Frame.eval, h2]
  cases h with
  | plain h => exact .plain (h1 ▸ h)
  | e1 L hL k hk ht => exact .e1 L hL k hk (h1.trans ht)
  | e2 L hL k hk j hj ht => exact .e2 L hL k hk j hj (h1.trans ht)
  | o4 L hL k hk z ht hv hl => exact .o4 L hL k hk z (h1.trans ht) ((h3 _).trans hv) (h2 ▸ hl)
  | o5 L hL k hk ht hf => exact .o5 L hL k hk (h1.trans ht) ((h3 _).trans hf)
  | o6 L hL k hk ht hf => exact .o6 L hL k hk (h1.trans ht) ((h3 _).trans hf)
  | o7 L hL k hk ht hf => exact .o7 L hL k hk (h1.trans ht) ((h3 _).trans hf)
  | o8 L hL k hk ht => exact .o8 L hL k hk (h1.trans ht)
theorem drop_at {n j : Nat} (h : j < n) : (List.range n).drop j = j :: (List.range n).drop (j + 1) := by
  rw [List.drop_eq_getElem_cons (by simpa using h)]
  simp
theorem IdleT.fin (h : IdleT ok Ls fr) (v : Value) (hm : fr.mode = .run) {ops : Array Oper} {i : Nat} {r : List Nat} {k : List Item} (ht : fr.todo = .inRegion ops (i :: r) :: k) : Idle ok Ls (fr.finish v) := by
  have hf : (fr.finish v).todo = .inRegion ops r :: k := by
    unfold Frame.finish
    rw [ht]
  cases h with
  | plain h =>
    refine .plain (fun x hx => ?_)
    rw [hf] at hx
    rw [ht] at h
    rcases List.mem_cons.1 hx with rfl | hx
    · exact h (.inRegion ops (i :: r)) (.head _)
    · exact h x (.tail _ hx)
  | e2 L hL k' hk j hj e =>
    rw [e, drop_at (by omega)] at ht
    simp only [List.cons.injEq, Item.inRegion.injEq] at ht
    obtain ⟨⟨rfl, rfl, rfl⟩, rfl⟩ := ht
    exact .e2 L hL k' hk _ hj hf
theorem unlook_step {main : Bool} {cs : List Frame} {v : Value} {L : Lp} {o : Oper} {r : List Nat} {k : List Item} (hr : fr.roundOf = none) (hkd : fr.kind = .normal) (hm : fr.mode = .run) (ht : fr.todo = .inRegion L.ops (1 :: r) :: k) (ho : L.ops[1]? = some o) (hop : o.op = .extract (.tmp L.pair) 1)
    (hw : Region.wanted o (yielded L.ops fr.tmps) = true) (hv : fr.eval (.tmp L.pair) = .tuple #[v, .bool false]) : stepG P main (Gr fr cs) w = .go (Gr (fr.finish (.bool false)) cs) w #[] := by
  have e : (execOp fr.eval o).runT P w #[] = (.ok (.value (.bool false)) w, #[]) := by
    unfold execOp
    rw [hop]
    simp only [hv]
    rfl
  rw [step_op hr hm ht ho hw]
  simp [-Sem.runT_eq, stepG.apply, e, GStep.after, hkd, seen]
/-- The frame that runs. -/
theorem Idle.move (h : Idle ok Ls fr) (hLs : ∀ L ∈ Ls, LqOk P S L) (hsp : ¬ Spec P S fr tops) (hm : Move fr fr') (h4 : ∀ L ∈ Ls, ∀ k z, fr.todo = .inRegion L.ops [1] :: .code (.seq L.test L.body) :: L.tl k → fr.eval (.tmp L.pair) = .tuple #[z, .bool false] → fr' = fr.finish (.bool false)) : Idle ok Ls fr' := by
  cases hm with
  | same => exact h
  | ret _ _ => exact h.as rfl rfl
  | raise ch => unfold Frame.raise; split <;> exact h.as rfl rfl
  | fin v hmd ht =>
    cases h with
    | plain h => exact (IdleT.plain h).fin v hmd ht
    | e1 L hL k hk e => rw [e] at ht; simp at ht
    | e2 L hL k hk j hj e =>
      rcases Nat.lt_or_ge (j + 1) L.o5.size with hlt | hge
      · exact (IdleT.e2 L hL k hk j hlt e).fin v hmd ht
      · exfalso
        obtain ⟨o, ho, hok, hw⟩ := (hLs L hL).last
        rw [drop_at hj] at e
        exact hsp (.inr ⟨hmd, _, _, _, _, o, e, by rw [← ho]; congr 1; omega, hw _, hok _⟩)
    | o4 L hL k hk z e hv hl =>
      rw [h4 L hL k z e hv]
      obtain ⟨o, ho, _, hd, _⟩ := (hLs L hL).op1
      have hf : fr.finish (.bool false) = { fr with tmps := fr.tmps.setIfInBounds L.flag (.bool false), todo := .inRegion L.ops [] :: .code (.seq L.test L.body) :: L.tl k } := by
        unfold Frame.finish
        rw [e]
        simp [ho, hd]
      exact .o5 L hL k hk (by rw [hf]) (by rw [hf]; simp [Frame.eval, hl])
    | o5 L hL k hk e hf => rw [e] at ht; simp at ht
    | o6 L hL k hk e hf => rw [e] at ht; simp at ht
    | o7 L hL k hk e hf => rw [e] at ht; simp at ht
    | o8 L hL k hk e => rw [e] at ht; simp at ht
  | to k' hmd hc =>
    have hc0 := hc
    unfold Ctl at hc
    cases h with
    | plain h =>
      rcases calm_ctl h hc0 with q | ⟨L, hL, k, hk, e⟩
      · exact .plain q
      · exact .e1 L hL k hk e
    | e1 L hL k hk e =>
      rw [e] at hc
      obtain ⟨l, hl, e'⟩ := hc
      rw [hl rfl] at e'
      exact .e2 L hL k hk 0 (hLs L hL).pos e'
    | e2 L hL k hk j hj e => rw [e, drop_at hj] at hc; exact hc.elim
    | o4 L hL k hk z e hv hl => rw [e] at hc; exact hc.elim
    | o5 L hL k hk e hf => rw [e] at hc; exact .o6 L hL k hk hc hf
    | o6 L hL k hk e hf => rw [e] at hc; exact .o7 L hL k hk hc hf
    | o7 L hL k hk e hf =>
      rw [e] at hc
      obtain ⟨v, hv, e'⟩ := hc
      rw [hf] at hv
      cases hv
      exact .o8 L hL k hk e'
    | o8 L hL k hk e =>
      rw [e] at hc
      have : exitTo L.id (.code L.body :: L.tl k) = some k' := hc
      simp [exitTo, Lp.tl] at this
      subst this
      exact .plain hk
/-- A frame below: it waits for a call. -/
structure Waits (ok : Op → Bool) (Ls : List Lp) (t : Frame) : Prop where
  idle : IdleT ok Ls t
  mode : t.mode = .run
  spot : ∃ ops i r k, t.todo = .inRegion ops (i :: r) :: k
end
end Go.Proofs.YtbkimmbfepjodaaDoor
