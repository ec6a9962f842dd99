/- Texts of ours, laid one behind the other: SeM, SeN, SeO, SeP, SeQ, SeR, SeS. -/
import Derived.Test.YtbkimmbfepjodaaDoorPfM4
import Derived.Conc.CrowdComm
import Derived.Conc.Token
set_option linter.unusedVariables false
set_option linter.unusedSimpArgs false
/- The twin's run beside the program's: ordinary steps while the others only leave; where the lowest function is left. -/
namespace Go.Proofs.YtbkimmbfepjodaaDoor
set_option maxRecDepth 100000
open Go.Conc

/-- From here the run ends well. -/
def Win (P : Program) (Post : Value → World → Prop) (gs : Array Goroutine) (w : World) (sl : Option (Nat × Nat)) (t : Trace) : Prop :=
  ∃ N last o w' t', runNT P (N + 1) (crowd gs w sl) t = (.ended o w', t') ∧ runN P N (crowd gs w sl) = .next last ∧ step P last = .ended o w' ∧ Good P Post last o w' t'
theorem Win.of {P : Program} {Post : Value → World → Prop} {gs gs' : Array Goroutine} {w w' : World} {sl sl' : Option (Nat × Nat)} {t t' : Trace} {K : Nat} (hr : runNT P K (crowd gs w sl) t = (.next (crowd gs' w' sl'), t')) (h : Win P Post gs' w' sl' t') : Win P Post gs w sl t := by
  obtain ⟨N, last, o, v, u, e1, e2, e3, e4⟩ := h
  refine ⟨K + N, last, o, v, u, ?_, ?_, e3, e4⟩
  · rw [Nat.add_assoc, runNT_add, hr]; exact e1
  · rw [runN_add, ← runNT_fst P K _ t, hr]; exact e2
section
variable {ok : Op → Bool} {S : List FuncId} {T : Tables} {f g : Array Func} {fr : Frame} {tops : List Frame} {w w₁ : World} {N₀ : Nat}
/-- The tape of the twin that goes on with the answers that the program will get. -/
def glue (w w₁ : World) (d : Nat) : Nat → Question → Nat := fun i => if i < w.drawn then w.tape i else w₁.tape (d + (i - w.drawn))
theorem glue_ext (w w₁ : World) (d : Nat) : Ext w (glue w w₁ d) := fun i hi => by unfold glue; rw [if_pos hi]
theorem glue_agree (w w₁ : World) (d k : Nat) : Agree k (Rt w (glue w w₁ d)) (w₁.at d) := by
  intro i _ q
  show w₁.tape (d + i) q = glue w w₁ d (w.drawn + i) q
  unfold glue
  rw [if_neg (by omega), Nat.add_sub_cancel_left]
/-- ONE ORDINARY STEP, BESIDE LEAVERS. 'J': what is held of both worlds' channels. -/
theorem idle_one {Φ : Nat → Trace → Prop} (hΦ : Keeps Φ) {Fin : Frame → World → Prop} {Post : Value → World → Prop} {τ₀ : Nat → Question → Nat} (hF : ∀ x ∈ S, Fine ok f g x) (hst : ∀ b, (⟨T, f⟩ : Program).stepOf b = none) (hst₁ : ∀ b, (⟨T, g⟩ : Program).stepOf b = none)
    {J : World → World → Prop} (hJ : ∀ w w₁ w' w₁', J w w₁ → Kc w w' → Kc w₁ w₁' → J w' w₁') {gs : Array Goroutine} {sl : Option (Nat × Nat)} {t : Trace} {q : Nat → Nat} {B : Nat} (hsp : ¬ Spec ⟨T, f⟩ S fr tops) (hG : Gv fr.fn fr.eval)
    (ho : Ord ok S fr) (ht : ∀ t ∈ tops, Ord ok S t ∧ t.mode = .run) (hM : Tm2 ⟨T, f⟩ Fin fr tops w) (h0 : gs[0]? = some (Gr fr tops)) (hL : Leavers ⟨T, g⟩ t gs q) (hP : Φ B t) (hS : Sim (some N₀) w w₁) (hτ : w₁.tape = τ₀) (hj : J w w₁)
    (k : ∀ (d : Nat) (fr' : Frame) (tops' : List Frame) (w' w₁' : World) (es : Array Event) (gs' : Array Goroutine) (sl' : Option (Nat × Nat)) (t' : Trace) (q' : Nat → Nat) (B' : Nat),
      stepG ⟨T, f⟩ true (Gr fr (tops ++ [sent ⟨T, f⟩])) (Rt w (glue w w₁ d)) = .go (Gr fr' (tops' ++ [sent ⟨T, f⟩])) w' es → Near ⟨T, f⟩ S fr tops fr' tops' → Kc w w' → Ord ok S fr' → (∀ t ∈ tops', Ord ok S t ∧ t.mode = .run) → Tm2 ⟨T, f⟩ Fin fr' tops' w' → gs'[0]? = some (Gr fr' tops') →
      gs'.size = gs.size → Leavers ⟨T, g⟩ t' gs' q' → Φ B' t' → Sim (some N₀) w' w₁' → w₁'.tape = τ₀ → J w' w₁' → Win ⟨T, g⟩ Post gs' w₁' sl' t') : Win ⟨T, g⟩ Post gs w₁ sl t := by
  have hFf : ∀ x ∈ S, Fine ok f f x := fun x hx => ⟨⟨rfl, (hF x hx).1.2⟩, (hF x hx).2⟩
  have key : ∀ d, Both (some N₀) ok S ⟨T, f⟩ ⟨T, g⟩ true true fr tops [sent ⟨T, f⟩] [] (Rt w (glue w w₁ d)) (w₁.at d) := fun d =>
    both_step ho ht hF hst hst₁ ⟨hS.os, hS.output, hS.size, hS.block⟩ hsp hG
  have two : ∀ d, ∃ fr' tops' w' w₁' es, stepG ⟨T, f⟩ true (Gr fr (tops ++ [sent ⟨T, f⟩])) (Rt w (glue w w₁ d)) = .go (Gr fr' (tops' ++ [sent ⟨T, f⟩])) w' es ∧ stepG ⟨T, g⟩ true (Gr fr tops) (w₁.at d) = .go (Gr fr' tops') w₁' es ∧ Near ⟨T, f⟩ S fr tops fr' tops' ∧ Kc (Rt w (glue w w₁ d)) w' ∧
      Ord ok S fr' ∧ (∀ t ∈ tops', Ord ok S t ∧ t.mode = .run) ∧ Sim (some N₀) w' w₁' ∧ w₁'.tape = τ₀ ∧ Quietly es ∧ J w' w₁' ∧ Tm2 ⟨T, f⟩ Fin fr' tops' w' := by
    intro d
    obtain ⟨fr3, tops3, w3, es3, e3, _, _, _, _, _, _, hM3, _⟩ := tm_step ho ht hFf hst hsp hG hM _ (glue_ext w w₁ d)
    rcases key d with ⟨fr', tops', w', k, es, e, nr, h1, h2, t1, d1, hq, kc, x⟩ | ⟨o, w', es, e⟩
    · obtain ⟨w₁', e', s', t', d', kc'⟩ := x (glue_agree w w₁ d k)
      have e4 := e3
      rw [e] at e4
      injection e4 with r1 r2 r3
      injection r1 with r4 r5
      have r6 := List.append_cancel_right r5
      subst r4 r6 r2
      refine ⟨fr', tops', w', w₁', es, e, ?_, nr, kc, h1, h2, s', t'.trans hτ, hq, hJ _ _ _ _ hj kc kc', hM3⟩
      simpa using e'
    · rw [e] at e3
      cases e3
  obtain ⟨K, gs', a', d, w₁'', es, sl', t', q', B', hstep, hr, hsz, h0', hL', hP'⟩ := idle1 (P := ⟨T, g⟩) hΦ (sl := sl) h0 rfl hL hP (fun d => by
    obtain ⟨fr', tops', w', w₁', es, _, e, _, _, _, _, _, _, hq, _⟩ := two d
    exact ⟨_, _, _, e, hq⟩)
  obtain ⟨fr', tops', w', w₁', es', e, e', nr, kc, h1, h2, s', t1, _, hj', hM'⟩ := two d
  rw [hstep] at e'
  injection e' with q1 q2 q3
  subst q1 q2 q3
  exact Win.of hr (k d fr' tops' w' w₁'' es gs' sl' t' q' B' e nr kc h1 h2 hM' h0' hsz hL' hP' s' t1 hj')
end
end Go.Proofs.YtbkimmbfepjodaaDoor
/- Where the lowest function is left: the run's end; and its beginning. -/
namespace Go.Proofs.YtbkimmbfepjodaaDoor
set_option maxRecDepth 100000
open Go.Conc

section
variable {ok : Op → Bool} {S : List FuncId} {T : Tables} {f g : Array Func} {fr : Frame} {tops : List Frame} {w w₁ : World} {N₀ : Nat}
/-- THE LOWEST FUNCTION IS LEFT: it returns, here and now. -/
theorem sent_end {Fin : Frame → World → Prop} (h : Ord ok S fr) (hK : ∃ fn, f[fr.fn]? = some fn) (hm : fr.mode ≠ .run) (hT : Tm2 ⟨T, f⟩ Fin fr [] w) : fr.mode = .returning ∧ ∀ τ, Ext w τ → Fin fr (Rt w τ) := by
  have one : ∀ τ, Ext w τ → fr.mode = .returning ∧ Fin fr (Rt w τ) := by
    intro τ hτ
    obtain ⟨n, fr', w', e, m, q⟩ := hT τ hτ
    cases n with
    | zero =>
      simp only [runN, lone, Stepped.next.injEq, Machine.mk.injEq, List.nil_append] at e
      have e1 := e.1
      have e2 : Gr fr [sent ⟨T, f⟩] = Gr fr' [sent ⟨T, f⟩] := by simpa using e.2.1
      injection e2 with e3
      subst e3 e1
      exact ⟨m.1, q⟩
    | succ n =>
      exfalso
      cases hmd : fr.mode with
      | run => exact hm hmd
      | panicking ch =>
        obtain ⟨fn, hfn⟩ := hK
        have hdf := h.defers
        have hs : stepG ⟨T, f⟩ true (Gr fr [sent ⟨T, f⟩]) (Rt w τ) = .go (Gr ((sent ⟨T, f⟩).raise ch) []) (Rt w τ) #[] := by
          obtain ⟨fn', tmps, todo, defers, mode, kind, round⟩ := fr
          simp only at hmd hdf hfn
          subst hmd hdf
          simp [stepG, unwind, Frame.catches, hfn]
        simp only [runN, List.nil_append] at e
        rw [lone_step hs] at e
        cases n with
        | zero =>
          simp only [runN, lone, Stepped.next.injEq, Machine.mk.injEq] at e
          have := e.2.1
          simp at this
        | succ n =>
          obtain ⟨o, w3, es, hs⟩ := sent_panic (T := T) (f := f) ch (Rt w τ)
          simp only [runN, lone_ended hs] at e
          cases e
      | returning => exact after_end (tops' := []) ⟨hmd, h.defers, h.kind, hK⟩ n (by simpa using e)
  have h0 := one w.tape (fun _ _ => rfl)
  exact ⟨h0.1, fun τ hτ => (one τ hτ).2⟩
/-- THE END: goroutine 0 of the program stands at the return of the lowest function. -/
theorem end_win {Post : Value → World → Prop} {gs : Array Goroutine} {sl : Option (Nat × Nat)} {t : Trace} {q : Nat → Nat} {B : Nat} {fn : Func} {v : Value} (h : Ord ok S fr) (hm : fr.mode = .returning) (hfn : g[fr.fn]? = some fn)
    (hres : results fn fr.tmps = pure v) (hi : (⟨T, g⟩ : Program).inits.idxOf? fr.fn = none) (h0 : gs[0]? = some (Gr fr [])) (hL : Leavers ⟨T, g⟩ t gs q) (hP : Past NoShun B t) (hpost : ∀ d, Post v (w₁.at d)) : Win ⟨T, g⟩ Post gs w₁ sl t := by
  refine beside_ends (D := fun _ _ _ => False) (n := 0) (fun _ _ _ h => h.elim) h0 hL hP ?_
  intro w₂ hw
  obtain ⟨d, rfl⟩ := hw
  refine ⟨rfl, v, #[], ?_, fun e he => by simp at he, hpost d⟩
  have hdf := h.defers
  have hkd := h.kind
  obtain ⟨fn', tmps, todo, defers, mode, kind, round⟩ := fr
  simp only at hm hdf hfn hkd hres hi
  subst hm hdf hkd
  simp only [stepG, unwind, hfn, doReturn, hres, hi]
  rfl
/-- THE BEGINNING: what is proved of the twin alone. -/
theorem tm_begin {L : FuncId} {args : Array Value} {w₀ : World} {Q : World → Value → World → Prop} (hC : ∀ τ, Calls ⟨T, f⟩ L args (Rt w₀ τ) fun e w' => ∃ v, e = .returned v ∧ Q (Rt w₀ τ) v w') (hd : w₀.drawn = 0) :
    Tm2 ⟨T, f⟩ (fun fr w' => ∃ τ v fn, fr.fn = L ∧ f[L]? = some fn ∧ (results fn fr.tmps).run ⟨T, f⟩ w' = .ok v w' ∧ Q (Rt w₀ τ) v w') (Frame.enter ⟨T, f⟩ L args .normal) [] w₀ := by
  intro τ _
  obtain ⟨e, w', fr', ⟨v, rfl, hq⟩, hs, hf, hm, hdf, hkd, fn, k1, k2⟩ := hC τ [sent ⟨T, f⟩]
  obtain ⟨n, hn⟩ := hs
  exact ⟨n, fr', w', hn, ⟨hm, hdf, hkd, fn, k1⟩, τ, v, fn, hf, by rw [← hf]; exact k1, k2, hq⟩
end
end Go.Proofs.YtbkimmbfepjodaaDoor
/- A goroutine that sends values over a channel and closes it, touching no memory: what it will do; machines in which it runs beside goroutine 0 and goroutines that only leave. -/
namespace Go.Proofs.YtbkimmbfepjodaaDoor
set_option maxRecDepth 100000
open Go.Conc

/-- WHAT THE SENDER WILL DO, in whatever world: these values in order, then close, then it only leaves. -/
inductive Sender (P : Program) (c : Nat) : List Value → Goroutine → Prop
  | send {v : Value} {vs : List Value} {b g₂ : Goroutine} {z : Value} (hr : b.status = .running) (hs : ∀ w, stepG P false b w = .comm g₂ #[scase c v z] true .send w #[]) (hn : Sender P c vs (Go.Conc.served g₂ undef)) : Sender P c (v :: vs) b
  | close {b b' : Goroutine} {n : Nat} (hr : b.status = .running) (hw : mayWake P b = true)
      (hs : ∀ (w : World) (cap s r : Nat), w.heap[c]? = some (.chan cap #[] false s r false) → stepG P false b w = .go b' (w.setChan c cap #[] true s r false) (closeEvents c)) (hq : QuitsD P n 0 b') : Sender P c [] b
  | step {vs : List Value} {b : Goroutine} (N : World → Goroutine × Nat) (hr : b.status = .running) (hs : ∀ w, stepG P false b w = .go (N w).1 (w.at (N w).2) #[]) (hn : ∀ w, Sender P c vs (N w).1) : Sender P c vs b
/-- Whoever runs, has ended, or waits at channel c. -/
def Stb (c : Nat) (x : Goroutine) : Prop := x.status = .running ∨ x.status = .finished ∨ (∃ g z sh, x = parked g #[rcase c z] sh) ∨ ∃ g v z sh, x = parked g #[scase c v z] sh
theorem woken_stb {P : Program} {c : Nat} {x g g' : Goroutine} {w : World} {cap s r : Nat} {buf : Array Value} {tm : Bool} (h : Stb c x) (hc : w.heap[c]? = some (.chan cap buf false s r tm)) : woken P g g' w x = x := by
  rcases h with h | h | ⟨y, z, sh, rfl⟩ | ⟨y, v, z, sh, rfl⟩
  · unfold woken
    split
    · exact again_running _ (.inl h)
    · rfl
  · unfold woken
    split
    · exact again_running _ (.inr h)
    · rfl
  · exact woken_recv_open _ _ hc
  · exact woken_send_open _ _ hc
theorem map_woken {P : Program} {c : Nat} {gs : Array Goroutine} {g g' : Goroutine} {w : World} {cap s r : Nat} {buf : Array Value} {tm : Bool} (h : ∀ (i : Nat) (x : Goroutine), gs[i]? = some x → Stb c x) (hc : w.heap[c]? = some (.chan cap buf false s r tm)) : gs.map (woken P g g' w) = gs := by
  refine Array.ext_getElem? (fun i => ?_)
  rw [Array.getElem?_map]
  cases e : gs[i]? with
  | none => rfl
  | some x => simp [woken_stb (P := P) (g := g) (g' := g') (h i x e) hc]
/-- Operations that touch no memory and say nothing to the lookout. -/
def Mild2 (B : Nat) (op : MemOp) : Prop := op.act.touch? = none ∧ op.act ≠ .mark .disable ∧ op.act ≠ .mark .enable ∧ op.act.low B
theorem deaf_mild {B : Nat} {t : Trace} (g : Nat) (u : List MemOp) (h : ∀ op ∈ u, Mild2 B op) : Deaf (t ++ u.toArray) g = Deaf t g := by
  refine Deaf_quiet (fun op hop d => ?_)
  obtain ⟨_, h2, h3, _⟩ := h op (by simpa using hop)
  unfold deafStep
  split
  · rename_i e; exact absurd e h2
  · rename_i e; exact absurd e h3
  · rfl
theorem past_mild {B : Nat} : ∀ (u : List MemOp) (t : Trace), Past NoShun B t → (∀ op ∈ u, Mild2 B op) → Past NoShun B (t ++ u.toArray)
  | [], t, h, _ => by simpa using h
  | op :: u, t, h, hu => by
    have h1 := hu op (.head _)
    have hop : ∀ x ∈ (#[op] : Array MemOp), x = op := fun x hx => by simpa using hx
    have step : Past NoShun B (t ++ #[op]) := by
      by_cases h0 : op.g = 0
      · refine h.app0 (fun x hx => by rw [hop x hx]; exact h0) (fun x hx b hb _ => by rw [hop x hx, h1.1] at hb; cases hb) ?_ (fun x hx => by rw [hop x hx]; exact h1.2.2.2)
        exact deaf_mild (B := B) 0 [op] (fun x hx => by rw [List.mem_singleton.1 hx]; exact h1)
      · exact h.appMute h0 (fun x hx => by rw [hop x hx]) (fun x hx => by rw [hop x hx]; exact h1.1) (fun x hx => by rw [hop x hx]; exact h1.2.2.2)
    have := past_mild u (t ++ #[op]) step (fun x hx => hu x (.tail _ hx))
    simpa using this
/-- Nobody has written an object but rows of cells. -/
def NoW (t : Trace) : Prop := ∀ i a, touchAt t i = some a → ∀ r, a.loc = .obj r → a.write = false
theorem NoW.app {t u : Trace} (h : NoW t) (hu : ∀ op ∈ u, ∀ a, op.act.touch? = some a → ∀ r, a.loc = .obj r → a.write = false) : NoW (t ++ u) := by
  intro i a ha r hr
  obtain ⟨x, hx, hxa⟩ := touch_of ha
  rcases getElem?_append_cases hx with ⟨_, hx'⟩ | ⟨_, hxu⟩
  · exact h i a (by rw [touchAt_of hx']; exact hxa) r hr
  · exact hu x hxu a hxa r hr
theorem touch_quiet {e : Event} (hm : Mm e) {a : Touch} (ha : (MemAct.ofEvent e).touch? = some a) : a.loc = e.loc ∧ a.write = e.write := by
  exact ofEvent_touch (fun m hx => hm.1 m hx) ha
/-- What is held of the trace while all is known to goroutine 0. -/
def Pi (B : Nat) (t : Trace) : Prop := Past NoShun B t ∧ NoW t
theorem keeps_pi : Keeps Pi := by
  refine ⟨fun {B t i fn pos es} h hi hm => ⟨h.1.mute hi hm, h.2.app (fun op hop a ha => ?_)⟩, fun {B B' t fn pos es} h hB hq hl => ⟨keeps_past.own h.1 hB hq hl, h.2.app (fun op hop a ha r hr => ?_)⟩⟩
  · obtain ⟨e, he, rfl⟩ := Go.Conc.mem_ofEvents hop
    rw [touch_mute (hm e he)] at ha
    cases ha
  · obtain ⟨e, he, rfl⟩ := Go.Conc.mem_ofEvents hop
    obtain ⟨l1, l2⟩ := touch_quiet (hq e he) ha
    rw [l2]
    exact (hq e he).2 r (l1 ▸ hr)
theorem pi_mild {B : Nat} {t : Trace} (u : List MemOp) (h : Pi B t) (hu : ∀ op ∈ u, Mild2 B op) : Pi B (t ++ u.toArray) :=
  ⟨past_mild u t h.1 hu, h.2.app (fun op hop a ha => by rw [(hu op (by simpa using hop)).1] at ha; cases ha)⟩
end Go.Proofs.YtbkimmbfepjodaaDoor
/- Goroutine 0 receives what a sender sends, beside goroutines that only leave: one place of goroutine 0's. -/
namespace Go.Proofs.YtbkimmbfepjodaaDoor
set_option maxRecDepth 100000
open Go.Conc
open Go.ConcN (sumTo upd sumTo_upd upd_ne upd_same)

/-- THE MACHINE BUT FOR GOROUTINES 0 AND j: all others only leave. -/
structure Af (P : Program) (c j : Nat) (gs : Array Goroutine) (t : Trace) (q : Nat → Nat) (B : Nat) : Prop where
  old : ∀ (i : Nat) (x : Goroutine), 0 < i → i ≠ j → gs[i]? = some x → QuitsD P (q i) (Deaf t i) x
  above : ∀ i, gs.size ≤ i → Deaf t i = 0
  hear : Deaf t j = 0
  j0 : 0 < j
  past : Pi B t
  cB : c < B
/-- Where the sender stands: on its way, or waiting at its send. -/
def SC (P : Program) (c : Nat) (vs : List Value) (b : Goroutine) : Prop :=
  Sender P c vs b ∨ ∃ v vs' g₂ z, vs = v :: vs' ∧ b = parked g₂ #[scase c v z] .send ∧ Sender P c vs' (Go.Conc.served g₂ undef)
abbrev Open (c s r : Nat) (w : World) : Prop := w.heap[c]? = some (.chan 0 #[] false s r false)
section
variable {P : Program} {c j : Nat} {gs : Array Goroutine} {t : Trace} {q : Nat → Nat} {B : Nat} {a b : Goroutine}
theorem Af.stb (h : Af P c j gs t q B) (ha : gs[0]? = some a) (hb : gs[j]? = some b) (sa : Stb c a) (sb : Stb c b) : ∀ (i : Nat) (x : Goroutine), gs[i]? = some x → Stb c x := by
  intro i x hx
  rcases Nat.eq_zero_or_pos i with rfl | hp
  · rw [ha] at hx; cases hx; exact sa
  · by_cases e : i = j
    · subst e; rw [hb] at hx; cases hx; exact sb
    · exact (h.old i x hp e hx).status.elim .inl (fun y => .inr (.inl y))
theorem Stb.awake {x : Goroutine} (h : Stb c x) : awake x := by
  refine awake_of ?_
  rcases h with h | h | ⟨_, _, _, rfl⟩ | ⟨_, _, _, _, rfl⟩
  · exact .inl h
  · exact .inr (.inr h)
  · exact .inr (.inl rfl)
  · exact .inr (.inl rfl)
/-- A leaver slips. -/
theorem Af.slip (h : Af P c j gs t q B) {i : Nat} {x : Goroutine} {w : World} {sl : Option (Nat × Nat)} {s r : Nat} (hi : gs[i]? = some x) (h0 : i ≠ 0) (hj : i ≠ j) (hr : x.status = .running) (hst : ∀ (i : Nat) (x : Goroutine), gs[i]? = some x → Stb c x) (hc : Open c s r w) :
    ∃ gs' t' q', runT P (crowd gs w sl) i = (.next (crowd gs' w sl), t') ∧ gs'.size = gs.size ∧ gs'[0]? = gs[0]? ∧ gs'[j]? = gs[j]? ∧ Af P c j gs' (t ++ t') q' B ∧ sumTo gs'.size q' < sumTo gs.size q := by
  have hq := h.old i x (by omega) hj hi
  have hlt : i < gs.size := (Array.getElem?_eq_some_iff.1 hi).1
  have hi0 : (i == 0) = false := by simp [h0]
  cases hqi : q i with
  | zero => rw [hqi] at hq; rw [hq.1] at hr; cases hr
  | succ k =>
    rw [hqi] at hq
    rcases hq with ⟨hf, _⟩ | ⟨_, g', es, hm, hstp, hq'⟩
    · rw [hf] at hr; cases hr
    have hrunT := runT_crowd_go (P := P) (sl := sl) (i := i) hi (by rw [hi0]; exact hstp w)
    rw [map_woken hst hc] at hrunT
    have hsum : sumTo gs.size (upd q i k) + (k + 1) = sumTo gs.size q + k := by
      have := sumTo_upd q k id hlt
      simpa [hqi] using this
    have ho : ∀ op ∈ MemOp.ofEvents i x.frame.fn x.frame.place es, op.g = i := fun op hop => by obtain ⟨e, _, rfl⟩ := Go.Conc.mem_ofEvents hop; rfl
    refine ⟨_, _, upd q i k, hrunT, by simp, by rw [Array.getElem?_setIfInBounds_ne (by omega)], by rw [Array.getElem?_setIfInBounds_ne hj], ⟨fun k' y hk hkj hy => ?_, fun k' hk => ?_, ?_, h.j0, keeps_pi.mute h.past h0 hm, h.cB⟩, by simp; omega⟩
    · by_cases e : i = k'
      · subst e
        rw [Array.getElem?_setIfInBounds_self_of_lt hlt] at hy
        cases hy
        rw [upd_same, Deaf_own]
        exact hq'
      · rw [Array.getElem?_setIfInBounds_ne e] at hy
        rw [upd_ne q k (Ne.symm e), Deaf_other t e _ ho]
        exact h.old k' y hk hkj hy
    · rw [Deaf_other t (g' := i) (by simp at hk; omega) _ ho]
      exact h.above k' (by simpa using hk)
    · rw [Deaf_other t hj _ ho]
      exact h.hear
end
end Go.Proofs.YtbkimmbfepjodaaDoor
/- Goroutine 0 receives what a sender sends, beside goroutines that only leave: one place of goroutine 0's, on every schedule. -/
namespace Go.Proofs.YtbkimmbfepjodaaDoor
set_option maxRecDepth 100000
open Go.Conc
open Go.ConcN (sumTo upd sumTo_upd upd_ne upd_same)

theorem Win.step {P : Program} {Post : Value → World → Prop} {gs gs' : Array Goroutine} {w w' : World} {sl sl' : Option (Nat × Nat)} {t ops : Trace} (h : stepT P (crowd gs w sl) = (.next (crowd gs' w' sl'), ops)) (k : Win P Post gs' w' sl' (t ++ ops)) : Win P Post gs w sl t :=
  Win.of (K := 1) (by simp only [runNT, h]) k
section
variable {P : Program} {c j : Nat} {gs : Array Goroutine} {t : Trace} {q : Nat → Nat} {B : Nat} {a b : Goroutine} {vs : List Value} {Post : Value → World → Prop}
theorem Af.gen (h : Af P c j gs t q B) {gs' : Array Goroutine} {u : Trace} {B' : Nat} (hsz : gs'.size = gs.size) (hk : ∀ k, k ≠ 0 → k ≠ j → gs'[k]? = gs[k]?) (hB : B ≤ B') (hp : Pi B' (t ++ u)) (hd : ∀ k, k ≠ 0 → Deaf (t ++ u) k = Deaf t k) : Af P c j gs' (t ++ u) q B' := by
  refine ⟨fun k y h0 hkj hy => ?_, fun k hk' => ?_, ?_, h.j0, hp, Nat.lt_of_lt_of_le h.cB hB⟩
  · rw [hk k (by omega) hkj] at hy
    rw [hd k (by omega)]
    exact h.old k y h0 hkj hy
  · rw [hsz] at hk'
    by_cases e : k = 0
    · subst e
      exact hp.1.hears
    · rw [hd k e]
      exact h.above k hk'
  · rw [hd j (by have := h.j0; omega)]
    exact h.hear
/-- Goroutine 0's own quiet step. -/
theorem Af.own0 (h : Af P c j gs t q B) {a' : Goroutine} {fn : FuncId} {pos : String} {es : Array Event} (hq : Quietly es) : ∃ B', Af P c j (gs.setIfInBounds 0 a') (t ++ MemOp.ofEvents 0 fn pos es) q B' := by
  obtain ⟨B', hB, hlow⟩ := low_all es B
  exact ⟨B', h.gen (by simp) (fun k hk _ => by rw [Array.getElem?_setIfInBounds_ne (by omega)]) hB (keeps_pi.own h.past hB hq hlow) (fun k hk => Deaf_other t (g' := 0) (by omega) _ (fun op hop => by obtain ⟨e, _, rfl⟩ := Go.Conc.mem_ofEvents hop; rfl))⟩
/-- What waits at channel c but one. -/
theorem part_nil (h : Af P c j gs t q B) {i : Nat} {send : Bool} (h0 : ∀ x, i ≠ 0 → gs[0]? = some x → offersAt x c send = []) (hj : ∀ x, i ≠ j → gs[j]? = some x → offersAt x c send = []) : partners (gs.setIfInBounds i ph) c send = [] := by
  refine partners_nil (fun k x hx => ?_)
  by_cases e : i = k
  · subst e
    by_cases hl : i < gs.size
    · rw [Array.getElem?_setIfInBounds_self_of_lt hl] at hx
      cases hx
      rfl
    · rw [Array.getElem?_eq_none (by simpa using hl)] at hx
      cases hx
  · rw [Array.getElem?_setIfInBounds_ne e] at hx
    rcases Nat.eq_zero_or_pos k with rfl | hp
    · exact h0 x e hx
    · by_cases e' : k = j
      · subst e'; exact hj x e hx
      · exact offersAt_of_not_blocked (by rcases (h.old k x hp e' hx).status with y | y <;> rw [y] <;> simp) _ _
theorem part_one (h : Af P c j gs t q B) {i k : Nat} {x : Goroutine} {send : Bool} (hik : i ≠ k) (hk : k = 0 ∨ k = j) (hi : i = 0 ∨ i = j) (hx : gs[k]? = some x) (ho : offersAt x c send = [0]) : partners (gs.setIfInBounds i ph) c send = [(k, 0)] := by
  have := h.j0
  rw [partners_one (j := k) (g := x) (by rw [Array.getElem?_setIfInBounds_ne hik]; exact hx) (fun m y hm hy => ?_), ho]
  · rfl
  · by_cases e : i = m
    · subst e
      by_cases hl : i < gs.size
      · rw [Array.getElem?_setIfInBounds_self_of_lt hl] at hy
        cases hy
        rfl
      · rw [Array.getElem?_eq_none (by simpa using hl)] at hy
        cases hy
    · rw [Array.getElem?_setIfInBounds_ne e] at hy
      have hm0 : m ≠ 0 := by rcases hk with rfl | rfl <;> rcases hi with rfl | rfl <;> omega
      have hmj : m ≠ j := by rcases hk with rfl | rfl <;> rcases hi with rfl | rfl <;> omega
      exact offersAt_of_not_blocked (by rcases (h.old m y (by omega) hmj hy).status with z | z <;> rw [z] <;> simp) _ _
/-- The four words of a meeting. -/
theorem mild4 {f1 f2 f3 f4 : FuncId} {p1 p2 p3 p4 : String} {x y s r cap : Nat} (hc : c < B) :
    ∀ op ∈ ([{ g := x, fn := f1, pos := p1, act := .send c s }, { g := y, fn := f2, pos := p2, act := .recv c r cap }, { g := x, fn := f3, pos := p3, act := .sendDone c s }, { g := y, fn := f4, pos := p4, act := .recvDone c r }] : List MemOp), Mild2 B op := by
  intro op hop
  simp only [List.mem_cons, List.mem_singleton, List.not_mem_nil, or_false] at hop
  rcases hop with rfl | rfl | rfl | rfl <;> exact ⟨rfl, by simp, by simp, hc⟩
theorem Af.mild (h : Af P c j gs t q B) {gs' : Array Goroutine} {u : List MemOp} (hsz : gs'.size = gs.size) (hk : ∀ k, k ≠ 0 → k ≠ j → gs'[k]? = gs[k]?) (hu : ∀ op ∈ u, Mild2 B op) : Af P c j gs' (t ++ u.toArray) q B :=
  h.gen hsz hk (Nat.le_refl _) (pi_mild u h.past hu) (fun k _ => deaf_mild k u hu)
/-- From here, with whatever sender that still has these to send, the run ends well. -/
def Kid (P : Program) (Post : Value → World → Prop) (c j : Nat) (a : Goroutine) (vs : List Value) (w : World) : Prop :=
  ∀ (gs : Array Goroutine) (t : Trace) (q : Nat → Nat) (B : Nat) (sl : Option (Nat × Nat)) (b : Goroutine), Af P c j gs t q B → gs[0]? = some a → gs[j]? = some b → SC P c vs b → Win P Post gs w sl t
end
end Go.Proofs.YtbkimmbfepjodaaDoor
/- Goroutine 0 receives what a sender sends: one place of goroutine 0's: whoever is picked, the run goes on well. -/
namespace Go.Proofs.YtbkimmbfepjodaaDoor
set_option maxRecDepth 100000
open Go.Conc
open Go.ConcN (sumTo upd sumTo_upd upd_ne upd_same)

section
variable {P : Program} {c j : Nat} {a : Goroutine} {vs : List Value} {Post : Value → World → Prop} {Wk : World → Prop}
/-- From here, where goroutine j has just closed the channel and only leaves, the run ends well. -/
def Shutw (P : Program) (Post : Value → World → Prop) (c j : Nat) (x : Goroutine) (w : World) : Prop :=
  ∀ (gs : Array Goroutine) (t : Trace) (q : Nat → Nat) (B n : Nat) (sl : Option (Nat × Nat)) (b' : Goroutine) (fn : FuncId) (pos : String), Af P c j gs t q B → gs[0]? = some x → gs[j]? = some b' → QuitsD P n 0 b' → Win P Post gs w sl (t ++ MemOp.ofEvents j fn pos (closeEvents c))
/-- What goroutine 0 does at this place: a step of its own, or it stands at the receive. -/
def Does (P : Program) (Post : Value → World → Prop) (c j : Nat) (a : Goroutine) (vs : List Value) (Wk : World → Prop) : Prop :=
  (∀ (w : World) (s r : Nat), Wk w → Open c s r w → ∃ a' w' es, stepG P true a w = .go a' w' es ∧ Quietly es ∧ Open c s r w' ∧ Kid P Post c j a' vs w') ∨
  (∃ z, (∀ w, stepG P true a w = .comm a #[rcase c z] true (.recv true) w #[]) ∧
    (∀ v vs', vs = v :: vs' → ∀ (w : World) (s r : Nat), Wk w → Open c s r w → Kid P Post c j (Go.Conc.served a (.tuple #[v, .bool true])) vs' (w.setChan c 0 #[] false (s + 1) (r + 1) false)) ∧
    (vs = [] → ∀ (w : World) (s r : Nat), Wk w → Open c s r w → Shutw P Post c j { parked a #[rcase c z] (.recv true) with status := .running } (w.setChan c 0 #[] true s r false)))
/-- THE SENDER WAITS; goroutine 0 runs. -/
theorem spark (ha : a.status = .running) (hWd : ∀ w d, Wk w → Wk (w.at d)) (hD : Does P Post c j a vs Wk) {v z₂ : Value} {vs' : List Value} {g₂ : Goroutine} (hv : vs = v :: vs') (hn : Sender P c vs' (Go.Conc.served g₂ undef)) :
    ∀ (M : Nat) (gs : Array Goroutine) (w : World) (s r : Nat) (t : Trace) (q : Nat → Nat) (B : Nat) (sl : Option (Nat × Nat)), sumTo gs.size q = M → Af P c j gs t q B → gs[0]? = some a → gs[j]? = some (parked g₂ #[scase c v z₂] .send) → Wk w → Open c s r w → Win P Post gs w sl t := by
  intro M
  induction M using Nat.strongRecOn with
  | _ M ih =>
    intro gs w s r t q B sl hM hA h0 hj hW hc
    have hjp := hA.j0
    have hstb := hA.stb h0 hj (.inl ha) (.inr (.inr (.inr ⟨_, _, _, _, rfl⟩)))
    have haw : ∀ x ∈ gs, awake x := fun x hx => by
      obtain ⟨i, hi, rfl⟩ := Array.mem_iff_getElem.1 hx
      exact (hstb i _ (Array.getElem?_eq_getElem hi)).awake
    obtain ⟨i, x, d, sl', hi, hx, hst⟩ := crowd_pick (P := P) (w := w) (sl := sl) haw ⟨0, a, h0, ha⟩
    have hlt : 0 < gs.size := (Array.getElem?_eq_some_iff.1 h0).1
    have hjl : j < gs.size := (Array.getElem?_eq_some_iff.1 hj).1
    by_cases e0 : i = 0
    · subst e0
      obtain rfl : x = a := by rw [h0] at hi; exact (Option.some.inj hi).symm
      rcases hD with hord | ⟨z, hcm, hmeet, _⟩
      · obtain ⟨a', w', es, e, hq, hc', hk⟩ := hord (w.at d) s r (hWd w d hW) hc
        have hrunT := runT_crowd_go (P := P) (sl := sl') (i := 0) hi (show stepG P (0 == 0) x (w.at d) = _ from e)
        rw [map_woken hstb hc'] at hrunT
        obtain ⟨B', hA'⟩ := hA.own0 (a' := a') (fn := x.frame.fn) (pos := x.frame.place) hq
        exact Win.step (hst.trans hrunT) (hk _ _ _ _ _ _ hA' (by rw [Array.getElem?_setIfInBounds_self_of_lt hlt]) (by rw [Array.getElem?_setIfInBounds_ne (by omega)]; exact hj) (.inr ⟨v, vs', g₂, z₂, hv, rfl, hn⟩))
      · have hp := part_one hA (i := 0) (k := j) (send := true) (by omega) (.inr rfl) (.inl rfl) hj (by rw [offersAt_parked_send]; simp)
        have hrunT := crowd_recv_meets (P := P) (sl := sl') (i := 0) (j := j) hi (show stepG P (0 == 0) x (w.at d) = _ from hcm (w.at d)) hc (by omega) hj hp
        rw [finishComm_send, finishComm_recv] at hrunT
        refine Win.step (hst.trans hrunT) ?_
        have hu := mild4 (c := c) (B := B) (x := j) (y := 0) (s := s) (r := r) (cap := 0) (f1 := g₂.frame.fn) (f2 := x.frame.fn) (f3 := g₂.frame.fn) (f4 := x.frame.fn) (p1 := g₂.frame.place) (p2 := x.frame.place) (p3 := g₂.frame.place) (p4 := x.frame.place) hA.cB
        have hA' := hA.mild (gs' := (gs.setIfInBounds j (Go.Conc.served g₂ undef)).setIfInBounds 0 (Go.Conc.served x (recvd true v true))) (by simp) (fun k hk hkj => by rw [Array.getElem?_setIfInBounds_ne (by omega), Array.getElem?_setIfInBounds_ne (by omega)]) hu
        have := hmeet v vs' hv (w.at d) s r (hWd w d hW) hc _ _ _ _ sl' _ hA' (by rw [Array.getElem?_setIfInBounds_self_of_lt (by simpa using hlt)]; rfl) (by rw [Array.getElem?_setIfInBounds_ne (by omega), Array.getElem?_setIfInBounds_self_of_lt hjl]) (.inl hn)
        simpa [MemOp.ofEvents] using this
    · by_cases ej : i = j
      · subst ej
        rw [hj] at hi
        cases hi
        cases hx
      · obtain ⟨gs', t', q', hr, hsz, h0', hj', hA', hlt'⟩ := hA.slip (sl := sl') (w := w.at d) hi e0 ej hx hstb hc
        exact Win.step (hst.trans hr) (ih _ (by omega) gs' (w.at d) s r _ q' B sl' rfl hA' (h0'.trans h0) (hj'.trans hj) (hWd w d hW) hc)
/-- GOROUTINE 0 WAITS at the receive; the sender is on its way. -/
theorem rpark {z : Value} (ha : a.status = .running) (hWd : ∀ w d, Wk w → Wk (w.at d)) (hcm : ∀ w, stepG P true a w = .comm a #[rcase c z] true (.recv true) w #[])
    (hmeet : ∀ v vs', vs = v :: vs' → ∀ (w : World) (s r : Nat), Wk w → Open c s r w → Kid P Post c j (Go.Conc.served a (.tuple #[v, .bool true])) vs' (w.setChan c 0 #[] false (s + 1) (r + 1) false))
    (hsh : vs = [] → ∀ (w : World) (s r : Nat), Wk w → Open c s r w → Shutw P Post c j { parked a #[rcase c z] (.recv true) with status := .running } (w.setChan c 0 #[] true s r false)) {b : Goroutine} (hS : Sender P c vs b) :
    ∀ (M : Nat) (gs : Array Goroutine) (w : World) (s r : Nat) (t : Trace) (q : Nat → Nat) (B : Nat) (sl : Option (Nat × Nat)), sumTo gs.size q = M → Af P c j gs t q B → gs[0]? = some (parked a #[rcase c z] (.recv true)) → gs[j]? = some b → Wk w → Open c s r w → Win P Post gs w sl t := by
  induction hS with
  | @send v vs' b g₂ z₂ hr hs hn _ =>
    intro M
    induction M using Nat.strongRecOn with
    | _ M ih =>
      intro gs w s r t q B sl hM hA h0 hj hW hc
      have hjp := hA.j0
      have hstb := hA.stb h0 hj (.inr (.inr (.inl ⟨_, _, _, rfl⟩))) (.inl hr)
      have haw : ∀ x ∈ gs, awake x := fun x hx => by
        obtain ⟨i, hi, rfl⟩ := Array.mem_iff_getElem.1 hx
        exact (hstb i _ (Array.getElem?_eq_getElem hi)).awake
      obtain ⟨i, x, d, sl', hi, hx, hst⟩ := crowd_pick (P := P) (w := w) (sl := sl) haw ⟨j, b, hj, hr⟩
      have hlt : 0 < gs.size := (Array.getElem?_eq_some_iff.1 h0).1
      have hjl : j < gs.size := (Array.getElem?_eq_some_iff.1 hj).1
      by_cases e0 : i = 0
      · subst e0
        rw [h0] at hi
        cases hi
        cases hx
      · by_cases ej : i = j
        · subst ej
          obtain rfl : x = b := by rw [hj] at hi; exact (Option.some.inj hi).symm
          have hi0 : (i == 0) = false := by simp [e0]
          have hp := part_one hA (i := i) (k := 0) (send := false) e0 (.inl rfl) (.inr rfl) h0 (by rw [offersAt_parked_recv]; simp)
          have hrunT := crowd_send_meets (P := P) (sl := sl') (i := i) (j := 0) hi (by rw [hi0]; exact hs (w.at d)) (show (w.at d).heap[c]? = _ from hc) (by omega) h0 hp
          rw [finishComm_send, finishComm_recv] at hrunT
          refine Win.step (hst.trans hrunT) ?_
          have hu := mild4 (c := c) (B := B) (x := i) (y := 0) (s := s) (r := r) (cap := 0) (f1 := g₂.frame.fn) (f2 := a.frame.fn) (f3 := g₂.frame.fn) (f4 := a.frame.fn) (p1 := g₂.frame.place) (p2 := a.frame.place) (p3 := g₂.frame.place) (p4 := a.frame.place) hA.cB
          have hA' := hA.mild (gs' := (gs.setIfInBounds 0 (Go.Conc.served a (recvd true v true))).setIfInBounds i (Go.Conc.served g₂ undef)) (by simp) (fun k hk hkj => by rw [Array.getElem?_setIfInBounds_ne (by omega), Array.getElem?_setIfInBounds_ne (by omega)]) hu
          have := hmeet v vs' rfl (w.at d) s r (hWd w d hW) hc _ _ _ _ sl' _ hA' (by rw [Array.getElem?_setIfInBounds_ne e0, Array.getElem?_setIfInBounds_self_of_lt hlt]; rfl) (by rw [Array.getElem?_setIfInBounds_self_of_lt (by simpa using hjl)]) (.inl hn)
          simpa [MemOp.ofEvents] using this
        · obtain ⟨gs', t', q', hr', hsz, h0', hj', hA', hlt'⟩ := hA.slip (sl := sl') (w := w.at d) hi e0 ej hx hstb hc
          exact Win.step (hst.trans hr') (ih _ (by omega) gs' (w.at d) s r _ q' B sl' rfl hA' (h0'.trans h0) (hj'.trans hj) (hWd w d hW) hc)
  | @close b b' n hr hwk hs hq =>
    intro M
    induction M using Nat.strongRecOn with
    | _ M ih =>
      intro gs w s r t q B sl hM hA h0 hj hW hc
      have hjp := hA.j0
      have hstb := hA.stb h0 hj (.inr (.inr (.inl ⟨_, _, _, rfl⟩))) (.inl hr)
      have haw : ∀ x ∈ gs, awake x := fun x hx => by
        obtain ⟨i, hi, rfl⟩ := Array.mem_iff_getElem.1 hx
        exact (hstb i _ (Array.getElem?_eq_getElem hi)).awake
      obtain ⟨i, x, d, sl', hi, hx, hst⟩ := crowd_pick (P := P) (w := w) (sl := sl) haw ⟨j, b, hj, hr⟩
      have hlt : 0 < gs.size := (Array.getElem?_eq_some_iff.1 h0).1
      have hjl : j < gs.size := (Array.getElem?_eq_some_iff.1 hj).1
      by_cases e0 : i = 0
      · subst e0
        rw [h0] at hi
        cases hi
        cases hx
      · by_cases ej : i = j
        · subst ej
          obtain rfl : x = b := by rw [hj] at hi; exact (Option.some.inj hi).symm
          have hi0 : (i == 0) = false := by simp [e0]
          have hrunT := runT_crowd_go (P := P) (sl := sl') (i := i) hi (by rw [hi0]; exact hs (w.at d) 0 s r hc)
          refine Win.step (hst.trans hrunT) ?_
          have hc2 : ((w.at d).setChan c 0 #[] true s r false).heap[c]? = some (.chan 0 #[] true s r false) := by
            have hcl : c < w.heap.size := (Array.getElem?_eq_some_iff.1 hc).1
            show (w.heap.setIfInBounds c _)[c]? = _
            rw [Array.getElem?_setIfInBounds_self_of_lt hcl]
          have hb' : ∀ o, woken P x b' ((w.at d).setChan c 0 #[] true s r false) o = o.again ((w.at d).setChan c 0 #[] true s r false) := by
            intro o
            unfold woken
            rcases hq.status with h | h <;> simp [hwk, h]
          have hA' : Af P c i ((gs.map (woken P x b' ((w.at d).setChan c 0 #[] true s r false))).setIfInBounds i b') t q B := by
            refine ⟨fun k y hk hkj hy => ?_, fun k hk => hA.above k (by simpa using hk), hA.hear, hA.j0, hA.past, hA.cB⟩
            rw [Array.getElem?_setIfInBounds_ne (by omega), Array.getElem?_map] at hy
            obtain ⟨y', hy', rfl⟩ := Option.map_eq_some_iff.1 hy
            have hqy := hA.old k y' hk hkj hy'
            rw [woken_quitsD hqy]
            exact hqy
          refine hsh rfl (w.at d) s r (hWd w d hW) hc _ _ _ _ n sl' b' _ _ hA' ?_ ?_ hq
          · rw [Array.getElem?_setIfInBounds_ne e0, Array.getElem?_map, h0, Option.map_some, hb', again_recv_closed hc2]
          · rw [Array.getElem?_setIfInBounds_self_of_lt (by simpa using hjl)]
        · obtain ⟨gs', t', q', hr', hsz, h0', hj', hA', hlt'⟩ := hA.slip (sl := sl') (w := w.at d) hi e0 ej hx hstb hc
          exact Win.step (hst.trans hr') (ih _ (by omega) gs' (w.at d) s r _ q' B sl' rfl hA' (h0'.trans h0) (hj'.trans hj) (hWd w d hW) hc)
  | @step vs b N hr hs hn ihS =>
    intro M
    induction M using Nat.strongRecOn with
    | _ M ih =>
      intro gs w s r t q B sl hM hA h0 hj hW hc
      have hjp := hA.j0
      have hstb := hA.stb h0 hj (.inr (.inr (.inl ⟨_, _, _, rfl⟩))) (.inl hr)
      have haw : ∀ x ∈ gs, awake x := fun x hx => by
        obtain ⟨i, hi, rfl⟩ := Array.mem_iff_getElem.1 hx
        exact (hstb i _ (Array.getElem?_eq_getElem hi)).awake
      obtain ⟨i, x, d, sl', hi, hx, hst⟩ := crowd_pick (P := P) (w := w) (sl := sl) haw ⟨j, b, hj, hr⟩
      have hjl : j < gs.size := (Array.getElem?_eq_some_iff.1 hj).1
      by_cases e0 : i = 0
      · subst e0
        rw [h0] at hi
        cases hi
        cases hx
      · by_cases ej : i = j
        · subst ej
          obtain rfl : x = b := by rw [hj] at hi; exact (Option.some.inj hi).symm
          have hi0 : (i == 0) = false := by simp [e0]
          have hrunT := runT_crowd_go (P := P) (sl := sl') (i := i) hi (by rw [hi0]; exact hs (w.at d))
          rw [map_woken hstb (show Open c s r ((w.at d).at (N (w.at d)).2) from hc)] at hrunT
          have hA' := hA.gen (gs' := gs.setIfInBounds i (N (w.at d)).1) (u := #[]) (by simp) (fun k hk hkj => by rw [Array.getElem?_setIfInBounds_ne (by omega)]) (Nat.le_refl _) (by simpa using hA.past) (fun k _ => by simp)
          refine Win.step (hst.trans hrunT) ?_
          have := ihS (w.at d) hmeet hsh _ (gs.setIfInBounds i (N (w.at d)).1) ((w.at d).at (N (w.at d)).2) s r (t ++ #[]) q B sl' rfl hA' (by rw [Array.getElem?_setIfInBounds_ne e0]; exact h0) (by rw [Array.getElem?_setIfInBounds_self_of_lt hjl]) (hWd (w.at d) _ (hWd w d hW)) hc
          simpa [MemOp.ofEvents] using this
        · obtain ⟨gs', t', q', hr', hsz, h0', hj', hA', hlt'⟩ := hA.slip (sl := sl') (w := w.at d) hi e0 ej hx hstb hc
          exact Win.step (hst.trans hr') (ih _ (by omega) gs' (w.at d) s r _ q' B sl' rfl hA' (h0'.trans h0) (hj'.trans hj) (hWd w d hW) hc)
end
end Go.Proofs.YtbkimmbfepjodaaDoor
/- Goroutine 0 receives what a sender sends: goroutine 0 and the sender both run. -/
namespace Go.Proofs.YtbkimmbfepjodaaDoor
set_option maxRecDepth 100000
open Go.Conc
open Go.ConcN (sumTo upd sumTo_upd upd_ne upd_same)

section
variable {P : Program} {c j : Nat} {a : Goroutine} {vs : List Value} {Post : Value → World → Prop} {Wk : World → Prop}
/-- BOTH RUN. -/
theorem rrun (ha : a.status = .running) (hWd : ∀ w d, Wk w → Wk (w.at d)) (hD : Does P Post c j a vs Wk) (hclose : vs = [] → ∀ (w : World) (s r : Nat), Wk w → Open c s r w → Shutw P Post c j a (w.setChan c 0 #[] true s r false)) {b : Goroutine} (hS : Sender P c vs b) :
    ∀ (M : Nat) (gs : Array Goroutine) (w : World) (s r : Nat) (t : Trace) (q : Nat → Nat) (B : Nat) (sl : Option (Nat × Nat)), sumTo gs.size q = M → Af P c j gs t q B → gs[0]? = some a → gs[j]? = some b → Wk w → Open c s r w → Win P Post gs w sl t := by
  induction hS with
  | @send v vs' b g₂ z₂ hr hs hn _ =>
    intro M
    induction M using Nat.strongRecOn with
    | _ M ih =>
      intro gs w s r t q B sl hM hA h0 hj hW hc
      have hjp := hA.j0
      have hstb := hA.stb h0 hj (.inl ha) (.inl hr)
      have haw : ∀ x ∈ gs, awake x := fun x hx => by
        obtain ⟨i, hi, rfl⟩ := Array.mem_iff_getElem.1 hx
        exact (hstb i _ (Array.getElem?_eq_getElem hi)).awake
      obtain ⟨i, x, d, sl', hi, hx, hst⟩ := crowd_pick (P := P) (w := w) (sl := sl) haw ⟨0, a, h0, ha⟩
      have hlt : 0 < gs.size := (Array.getElem?_eq_some_iff.1 h0).1
      have hjl : j < gs.size := (Array.getElem?_eq_some_iff.1 hj).1
      by_cases e0 : i = 0
      · subst e0
        obtain rfl : x = a := by rw [h0] at hi; exact (Option.some.inj hi).symm
        rcases hD with hord | ⟨z, hcm, hmeet, hsh⟩
        · obtain ⟨a', w', es, e, hq, hc', hk⟩ := hord (w.at d) s r (hWd w d hW) hc
          have hrunT := runT_crowd_go (P := P) (sl := sl') (i := 0) hi (show stepG P (0 == 0) x (w.at d) = _ from e)
          rw [map_woken hstb hc'] at hrunT
          obtain ⟨B', hA'⟩ := hA.own0 (a' := a') (fn := x.frame.fn) (pos := x.frame.place) hq
          exact Win.step (hst.trans hrunT) (hk _ _ _ _ _ _ hA' (by rw [Array.getElem?_setIfInBounds_self_of_lt hlt]) (by rw [Array.getElem?_setIfInBounds_ne (by omega)]; exact hj) (.inl (Sender.send hr hs hn)))
        · have hp := part_nil hA (i := 0) (send := true) (fun y h => absurd rfl h) (fun y _ hy => by rw [hj] at hy; cases hy; exact offersAt_of_not_blocked (by rw [hr]; simp) _ _)
          have hrunT := crowd_waits (P := P) (sl := sl') (i := 0) hi (show stepG P (0 == 0) x (w.at d) = _ from hcm (w.at d)) (fun cc hcc => by
            rw [show cc = rcase c z by simpa using hcc]
            exact ways_recv_none (show (w.at d).heap[c]? = _ from hc) hp)
          have hA' := hA.gen (gs' := gs.setIfInBounds 0 (parked x #[rcase c z] (.recv true))) (u := #[]) (by simp) (fun k hk hkj => by rw [Array.getElem?_setIfInBounds_ne (by omega)]) (Nat.le_refl _) (by simpa using hA.past) (fun k _ => by simp)
          refine Win.step (hst.trans hrunT) ?_
          have := rpark ha hWd hcm hmeet hsh (Sender.send hr hs hn) _ (gs.setIfInBounds 0 (parked x #[rcase c z] (.recv true))) (w.at d) s r (t ++ #[]) q B sl' rfl hA' (by rw [Array.getElem?_setIfInBounds_self_of_lt hlt]) (by rw [Array.getElem?_setIfInBounds_ne (by omega)]; exact hj) (hWd w d hW) hc
          simpa [MemOp.ofEvents] using this
      · by_cases ej : i = j
        · subst ej
          obtain rfl : x = b := by rw [hj] at hi; exact (Option.some.inj hi).symm
          have hi0 : (i == 0) = false := by simp [e0]
          have hp := part_nil hA (i := i) (send := false) (fun y _ hy => by rw [h0] at hy; cases hy; exact offersAt_of_not_blocked (by rw [ha]; simp) _ _) (fun y h => absurd rfl h)
          have hrunT := crowd_waits (P := P) (sl := sl') (i := i) hi (by rw [hi0]; exact hs (w.at d)) (fun cc hcc => by
            rw [show cc = scase c v z₂ by simpa using hcc]
            exact ways_send_none (show (w.at d).heap[c]? = _ from hc) (Nat.le_refl _) hp)
          have hA' := hA.gen (gs' := gs.setIfInBounds i (parked g₂ #[scase c v z₂] .send)) (u := #[]) (by simp) (fun k hk hkj => by rw [Array.getElem?_setIfInBounds_ne (by omega)]) (Nat.le_refl _) (by simpa using hA.past) (fun k _ => by simp)
          refine Win.step (hst.trans hrunT) ?_
          have := spark ha hWd hD rfl hn _ (gs.setIfInBounds i (parked g₂ #[scase c v z₂] .send)) (w.at d) s r (t ++ #[]) q B sl' rfl hA' (by rw [Array.getElem?_setIfInBounds_ne e0]; exact h0) (by rw [Array.getElem?_setIfInBounds_self_of_lt hjl]) (hWd w d hW) hc
          simpa [MemOp.ofEvents] using this
        · obtain ⟨gs', t', q', hr', hsz, h0', hj', hA', hlt'⟩ := hA.slip (sl := sl') (w := w.at d) hi e0 ej hx hstb hc
          exact Win.step (hst.trans hr') (ih _ (by omega) gs' (w.at d) s r _ q' B sl' rfl hA' (h0'.trans h0) (hj'.trans hj) (hWd w d hW) hc)
  | @close b b' n hr hwk hs hqd =>
    intro M
    induction M using Nat.strongRecOn with
    | _ M ih =>
      intro gs w s r t q B sl hM hA h0 hj hW hc
      have hjp := hA.j0
      have hstb := hA.stb h0 hj (.inl ha) (.inl hr)
      have haw : ∀ x ∈ gs, awake x := fun x hx => by
        obtain ⟨i, hi, rfl⟩ := Array.mem_iff_getElem.1 hx
        exact (hstb i _ (Array.getElem?_eq_getElem hi)).awake
      obtain ⟨i, x, d, sl', hi, hx, hst⟩ := crowd_pick (P := P) (w := w) (sl := sl) haw ⟨0, a, h0, ha⟩
      have hlt : 0 < gs.size := (Array.getElem?_eq_some_iff.1 h0).1
      have hjl : j < gs.size := (Array.getElem?_eq_some_iff.1 hj).1
      by_cases e0 : i = 0
      · subst e0
        obtain rfl : x = a := by rw [h0] at hi; exact (Option.some.inj hi).symm
        rcases hD with hord | ⟨z, hcm, hmeet, hsh⟩
        · obtain ⟨a', w', es, e, hq, hc', hk⟩ := hord (w.at d) s r (hWd w d hW) hc
          have hrunT := runT_crowd_go (P := P) (sl := sl') (i := 0) hi (show stepG P (0 == 0) x (w.at d) = _ from e)
          rw [map_woken hstb hc'] at hrunT
          obtain ⟨B', hA'⟩ := hA.own0 (a' := a') (fn := x.frame.fn) (pos := x.frame.place) hq
          exact Win.step (hst.trans hrunT) (hk _ _ _ _ _ _ hA' (by rw [Array.getElem?_setIfInBounds_self_of_lt hlt]) (by rw [Array.getElem?_setIfInBounds_ne (by omega)]; exact hj) (.inl (Sender.close hr hwk hs hqd)))
        · have hp := part_nil hA (i := 0) (send := true) (fun y h => absurd rfl h) (fun y _ hy => by rw [hj] at hy; cases hy; exact offersAt_of_not_blocked (by rw [hr]; simp) _ _)
          have hrunT := crowd_waits (P := P) (sl := sl') (i := 0) hi (show stepG P (0 == 0) x (w.at d) = _ from hcm (w.at d)) (fun cc hcc => by
            rw [show cc = rcase c z by simpa using hcc]
            exact ways_recv_none (show (w.at d).heap[c]? = _ from hc) hp)
          have hA' := hA.gen (gs' := gs.setIfInBounds 0 (parked x #[rcase c z] (.recv true))) (u := #[]) (by simp) (fun k hk hkj => by rw [Array.getElem?_setIfInBounds_ne (by omega)]) (Nat.le_refl _) (by simpa using hA.past) (fun k _ => by simp)
          refine Win.step (hst.trans hrunT) ?_
          have := rpark ha hWd hcm hmeet hsh (Sender.close hr hwk hs hqd) _ (gs.setIfInBounds 0 (parked x #[rcase c z] (.recv true))) (w.at d) s r (t ++ #[]) q B sl' rfl hA' (by rw [Array.getElem?_setIfInBounds_self_of_lt hlt]) (by rw [Array.getElem?_setIfInBounds_ne (by omega)]; exact hj) (hWd w d hW) hc
          simpa [MemOp.ofEvents] using this
      · by_cases ej : i = j
        · subst ej
          obtain rfl : x = b := by rw [hj] at hi; exact (Option.some.inj hi).symm
          have hi0 : (i == 0) = false := by simp [e0]
          have hrunT := runT_crowd_go (P := P) (sl := sl') (i := i) hi (by rw [hi0]; exact hs (w.at d) 0 s r hc)
          refine Win.step (hst.trans hrunT) ?_
          have hA' : Af P c i ((gs.map (woken P x b' ((w.at d).setChan c 0 #[] true s r false))).setIfInBounds i b') t q B := by
            refine ⟨fun k y hk hkj hy => ?_, fun k hk => hA.above k (by simpa using hk), hA.hear, hA.j0, hA.past, hA.cB⟩
            rw [Array.getElem?_setIfInBounds_ne (by omega), Array.getElem?_map] at hy
            obtain ⟨y', hy', rfl⟩ := Option.map_eq_some_iff.1 hy
            have hqy := hA.old k y' hk hkj hy'
            rw [woken_quitsD hqy]
            exact hqy
          refine hclose rfl (w.at d) s r (hWd w d hW) hc _ _ _ _ n sl' b' _ _ hA' ?_ ?_ hqd
          · rw [Array.getElem?_setIfInBounds_ne e0, Array.getElem?_map, h0, Option.map_some, woken_run ha]
          · rw [Array.getElem?_setIfInBounds_self_of_lt (by simpa using hjl)]
        · obtain ⟨gs', t', q', hr', hsz, h0', hj', hA', hlt'⟩ := hA.slip (sl := sl') (w := w.at d) hi e0 ej hx hstb hc
          exact Win.step (hst.trans hr') (ih _ (by omega) gs' (w.at d) s r _ q' B sl' rfl hA' (h0'.trans h0) (hj'.trans hj) (hWd w d hW) hc)
  | @step vs b N hr hs hn ihS =>
    intro M
    induction M using Nat.strongRecOn with
    | _ M ih =>
      intro gs w s r t q B sl hM hA h0 hj hW hc
      have hjp := hA.j0
      have hstb := hA.stb h0 hj (.inl ha) (.inl hr)
      have haw : ∀ x ∈ gs, awake x := fun x hx => by
        obtain ⟨i, hi, rfl⟩ := Array.mem_iff_getElem.1 hx
        exact (hstb i _ (Array.getElem?_eq_getElem hi)).awake
      obtain ⟨i, x, d, sl', hi, hx, hst⟩ := crowd_pick (P := P) (w := w) (sl := sl) haw ⟨0, a, h0, ha⟩
      have hlt : 0 < gs.size := (Array.getElem?_eq_some_iff.1 h0).1
      have hjl : j < gs.size := (Array.getElem?_eq_some_iff.1 hj).1
      by_cases e0 : i = 0
      · subst e0
        obtain rfl : x = a := by rw [h0] at hi; exact (Option.some.inj hi).symm
        rcases hD with hord | ⟨z, hcm, hmeet, hsh⟩
        · obtain ⟨a', w', es, e, hq, hc', hk⟩ := hord (w.at d) s r (hWd w d hW) hc
          have hrunT := runT_crowd_go (P := P) (sl := sl') (i := 0) hi (show stepG P (0 == 0) x (w.at d) = _ from e)
          rw [map_woken hstb hc'] at hrunT
          obtain ⟨B', hA'⟩ := hA.own0 (a' := a') (fn := x.frame.fn) (pos := x.frame.place) hq
          exact Win.step (hst.trans hrunT) (hk _ _ _ _ _ _ hA' (by rw [Array.getElem?_setIfInBounds_self_of_lt hlt]) (by rw [Array.getElem?_setIfInBounds_ne (by omega)]; exact hj) (.inl (Sender.step N hr hs hn)))
        · have hp := part_nil hA (i := 0) (send := true) (fun y h => absurd rfl h) (fun y _ hy => by rw [hj] at hy; cases hy; exact offersAt_of_not_blocked (by rw [hr]; simp) _ _)
          have hrunT := crowd_waits (P := P) (sl := sl') (i := 0) hi (show stepG P (0 == 0) x (w.at d) = _ from hcm (w.at d)) (fun cc hcc => by
            rw [show cc = rcase c z by simpa using hcc]
            exact ways_recv_none (show (w.at d).heap[c]? = _ from hc) hp)
          have hA' := hA.gen (gs' := gs.setIfInBounds 0 (parked x #[rcase c z] (.recv true))) (u := #[]) (by simp) (fun k hk hkj => by rw [Array.getElem?_setIfInBounds_ne (by omega)]) (Nat.le_refl _) (by simpa using hA.past) (fun k _ => by simp)
          refine Win.step (hst.trans hrunT) ?_
          have := rpark ha hWd hcm hmeet hsh (Sender.step N hr hs hn) _ (gs.setIfInBounds 0 (parked x #[rcase c z] (.recv true))) (w.at d) s r (t ++ #[]) q B sl' rfl hA' (by rw [Array.getElem?_setIfInBounds_self_of_lt hlt]) (by rw [Array.getElem?_setIfInBounds_ne (by omega)]; exact hj) (hWd w d hW) hc
          simpa [MemOp.ofEvents] using this
      · by_cases ej : i = j
        · subst ej
          obtain rfl : x = b := by rw [hj] at hi; exact (Option.some.inj hi).symm
          have hi0 : (i == 0) = false := by simp [e0]
          have hrunT := runT_crowd_go (P := P) (sl := sl') (i := i) hi (by rw [hi0]; exact hs (w.at d))
          rw [map_woken hstb (show Open c s r ((w.at d).at (N (w.at d)).2) from hc)] at hrunT
          have hA' := hA.gen (gs' := gs.setIfInBounds i (N (w.at d)).1) (u := #[]) (by simp) (fun k hk hkj => by rw [Array.getElem?_setIfInBounds_ne (by omega)]) (Nat.le_refl _) (by simpa using hA.past) (fun k _ => by simp)
          refine Win.step (hst.trans hrunT) ?_
          have := ihS (w.at d) hD hclose _ (gs.setIfInBounds i (N (w.at d)).1) ((w.at d).at (N (w.at d)).2) s r (t ++ #[]) q B sl' rfl hA' (by rw [Array.getElem?_setIfInBounds_ne e0]; exact h0) (by rw [Array.getElem?_setIfInBounds_self_of_lt hjl]) (hWd (w.at d) _ (hWd w d hW)) hc
          simpa [MemOp.ofEvents] using this
        · obtain ⟨gs', t', q', hr', hsz, h0', hj', hA', hlt'⟩ := hA.slip (sl := sl') (w := w.at d) hi e0 ej hx hstb hc
          exact Win.step (hst.trans hr') (ih _ (by omega) gs' (w.at d) s r _ q' B sl' rfl hA' (h0'.trans h0) (hj'.trans hj) (hWd w d hW) hc)
/-- ████ ONE PLACE OF GOROUTINE 0's, ON EVERY SCHEDULE. ████ -/
theorem place_kid (ha : a.status = .running) (hWd : ∀ w d, Wk w → Wk (w.at d)) (hD : Does P Post c j a vs Wk) (hclose : vs = [] → ∀ (w : World) (s r : Nat), Wk w → Open c s r w → Shutw P Post c j a (w.setChan c 0 #[] true s r false)) {w : World} {s r : Nat} (hW : Wk w) (hc : Open c s r w) : Kid P Post c j a vs w := by
  intro gs t q B sl b hA h0 hj hS
  rcases hS with hS | ⟨v, vs', g₂, z, hv, rfl, hn⟩
  · exact rrun ha hWd hD hclose hS _ gs w s r t q B sl rfl hA h0 hj hW hc
  · exact spark ha hWd hD hv hn _ gs w s r t q B sl rfl hA h0 hj hW hc
end
end Go.Proofs.YtbkimmbfepjodaaDoor
